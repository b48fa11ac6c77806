/- Each answer of a disk is the document's: the law, walked. -/
import Derived.Test.YtlmdnhpdeiekfaaJ34
namespace Go.Proofs.Ytlmdnhpdeiekfaa
open Go.RowKit Go.Lib
set_option linter.unusedVariables false

/-- Both disks, above B, that tell the same; the log has at most two records for each deed. -/
def UpD (w : World) (B : Nat) (d : Nat → Prt) (n b x : Nat) (A : Option Addr) (c k : Nat) : Prop :=
  ∃ (S : Nat → UInt8) (bz : Bool) (jd jr : Jb) (sd sr : Int) (bv v : Value) (E : Nat → Value) (m : Nat) (rc : Nat → Rec), Tw w d n b x A c B S bz jd jr sd sr bv v E m rc ∧ m ≤ 2 * k
section
variable {w w' : World} {B : Nat} {d : Nat → Prt} {n b x : Nat} {A : Option Addr} {c k : Nat}
theorem UpD.below (h : UpD w B d n b x A c k) (hb : Below w.heap.size w w') : UpD w' B d n b x A c k := by
  obtain ⟨S, bz, jd, jr, sd, sr, bv, v, E, m, rc, h1, h2⟩ := h
  exact ⟨S, bz, jd, jr, sd, sr, bv, v, E, m, rc, h1.below hb, h2⟩
theorem UpD.size (h : UpD w B d n b x A c k) : B ≤ w.heap.size := by
  obtain ⟨S, bz, jd, jr, sd, sr, bv, v, E, m, rc, h1, h2⟩ := h
  exact h1.lowD.1
theorem foot_low {S : Nat → UInt8} {bz : Bool} {jd jr : Jb} {sd sr : Int} {bv v : Value} {E : Nat → Value} {m : Nat} {rc : Nat → Rec} (h : Tw w d n b x A c B S bz jd jr sd sr bv v E m rc) {i : Nat} (hi : i < B) : ¬ Foot b x bv v i := by
  rintro (hh | hh | hh)
  · exact h.lowD.2 i hi hh
  · have := h.lo.2.1
    omega
  · have := h.lo.2.2 i hh
    omega
theorem UpD.step (h : UpD w B d n b x A c k) (he : newE d n = 0) (hn : n ≤ 8) (y : Dd) (hy : FitDd y) (hk : k ≤ 400) :
    Calls Try.prog 11 #[.pointer (some ⟨b, 0, none⟩), .pointer (some ⟨x, 0, none⟩), .agg #[.int .i64 y.1, .int .i64 y.2.1, .int .i64 y.2.2.1, .int .i64 y.2.2.2.1, .int .i64 y.2.2.2.2.1, .bool y.2.2.2.2.2.1, .string y.2.2.2.2.2.2]] w fun e w' => e = .returned (.bool true) ∧ UpD w' B d n b x A c (k + 1) ∧ Below B w w' := by
  obtain ⟨S, bz, jd, jr, sd, sr, bv, v, E, m, rc, h1, h2⟩ := h
  refine (step14_any h1 he hn y.1 y.2.1 y.2.2 hy.1 hy.2 (by omega)).mono fun e w' ⟨e1, S', bz', jd', jr', sd', sr', v', E', m', rc', t1, t2, t3⟩ => ⟨e1, ⟨S', bz', jd', jr', sd', sr', bv, v', E', m', rc', t1, by omega⟩, t3.below h1.lowD.1 fun i hi => foot_low h1 hi⟩
theorem UpD.told (h : UpD w B d n b x A c k) (he : newE d n = 0) (hn : n ≤ 8) : Calls Try.prog 12 #[.pointer (some ⟨b, 0, none⟩), .pointer (some ⟨x, 0, none⟩)] w fun e w' => e = .returned (.bool true) ∧ Below w.heap.size w w' := by
  obtain ⟨S, bz, jd, jr, sd, sr, bv, v, E, m, rc, h1, h2⟩ := h
  exact told14_any h1 he hn
end
def BackD (w : World) (e : Ending) (w' : World) : Prop := e = .returned (.bool true) ∧ Below w.heap.size w w'
/-- The rows that count, the document's among them of the call's own. -/
def RowsO (A : Option Addr) (n cap : Nat) (d : Nat → Prt) (w : World) (e : Ending) (w' : World) : Prop :=
  ∃ A2 c2, e = .returned (.tuple #[.slice A n cap, .slice A2 n c2]) ∧ (PrtsV w' A2 n d ∧ ∀ k, A2.map (·.block) = some k → k < w'.heap.size) ∧ Below w.heap.size w w'
theorem rowsO_any (A : Option Addr) (len cap : Nat) (d : Nat → Prt) (w : World) (hst : PrtsV w A len d) (hlc : len ≤ cap) (hcm : cap ≤ 9223372036854775807) :
    Calls Try.prog 6 #[.slice A len cap] w (RowsO A (min len 8) cap d w) :=
  (rows_any A len cap d w hst hlc hcm).mono fun e w' ⟨A2, c2, h1, h2, h3⟩ => ⟨A2, c2, h1, ⟨h2.prts, fun k hk => by
    have h' : w'.ownsRow w.heap.size 60 3 (.slice A2 (min len 8) c2) (min len 8) (ptCells (min len 8) d) := h2
    have := World.ownsRow.lt h' k (by cases A2 with
      | none => simp at hk
      | some a =>
        rcases h'.2 with ⟨e, h0⟩ | ⟨g, cap', cur, e, hB, hg, _⟩
        · exact absurd e (by simp)
        · obtain rfl : a = ⟨g, 0, none⟩ := by simpa using (Value.slice.inj e).1
          exact hk)
    exact this.2⟩, h3⟩
set_option maxRecDepth 20000 in
set_option maxHeartbeats 3200000 in
theorem dplays_off (A : Option Addr) (len cap n : Nat) (d : Nat → Prt) (At : Option Addr) (lt ct : Nat) (w : World) (hst : PrtsV w A len d) (hf : ∀ i, i < len → FitP (d i)) (hlc : len ≤ cap) (hcm : cap ≤ 9223372036854775807) (hn : n = min len 8) (hoff : newE d n ≠ 0) :
    Calls Try.prog 3 #[.slice A len cap, .slice At lt ct] w (BackD w) := by
  have HP := Lib.hid (rowsO_any A len cap d w hst hlc hcm)
  rw [← hn] at HP
  have hn8 : n ≤ 8 := by omega
  have hfn : ∀ i, i < n → FitP (d i) := fun i hi => hf i (by omega)
  have HST := Lib.hid (fun (W : World) (hb : Below w.heap.size w W) => (hst.cut n (by omega)).below hb)
  have HN := Lib.hid (fun (W : World) (h : PrtsV W A n d) => (dnew_any A n cap d W h hfn (by omega)).mono (R' := fun e w' => e = .returned (.tuple #[.pointer none, .int .i64 (newE d n)]) ∧ Below W.heap.size W w') fun e w' ⟨h1, h2⟩ => by
    rcases h2 with ⟨_, q⟩ | ⟨q, _⟩
    · exact ⟨q, h1⟩
    · exact absurd q hoff)
  have HK := Lib.hid (fun (A2 : Option Addr) (c2 : Nat) (W : World) (h : PrtsV W A2 n d) => show Calls Try.prog 8 #[.slice A2 n c2] W (fun e w' => e = .returned (.int .i64 (newE d n)) ∧ Below W.heap.size W w') from rcheck_any A2 n c2 d W h hfn (by omega))
  have HL := Lib.hid (fun W => live14_any W)
  generalize newE d n = c at HK HN hoff
  have h1' : (c != 0) = true := by simpa using hoff
  clear hst hn hn8 hlc hcm hoff hf hfn
  unfold RowsO at HP
  go_enter Try.func3, Try.ntmps3
  go_wp2_with (first
    | (go_at_call 6; have HH := HP.out; refine HH.mono ?_; clear HH; rintro e w1 ⟨A2, c2, rfl, ⟨p1, _⟩, b1⟩; have P1 := Lib.hid p1; have B1 := Lib.hid b1; clear p1 b1)
    | (go_at_call 7; have HH := HN.out _ (HST.out _ B1.out); refine HH.mono ?_; clear HH; rintro e w2 ⟨rfl, b2⟩; have P2 := Lib.hid (P1.out.below b2); have B2 := Lib.hid (B1.out.trans (b2.mono B1.out.size)); clear b2)
    | (go_at_call 8; (with_reducible refine (HK.out _ _ _ P2.out).mono ?_); rintro e w4 ⟨rfl, b4⟩; have B4 := Lib.hid (B2.out.trans (b4.mono B2.out.size)); clear b4)
    | (go_at_call 9; (with_reducible refine (HL.out _).mono ?_); rintro e w5 ⟨rfl, b5⟩; have B5 := Lib.hid (B4.out.trans (b5.mono B4.out.size)); clear b5))
  go_ret
  exact ⟨by simp, B5.out⟩

set_option maxRecDepth 20000 in
set_option maxHeartbeats 6400000 in
theorem dplays_on (A : Option Addr) (len cap n : Nat) (d : Nat → Prt) (At : Option Addr) (lt ct : Nat) (D : Nat → Dd) (w : World) (hst : PrtsV w A len d) (hf : ∀ i, i < len → FitP (d i)) (hlc : len ≤ cap) (hcm : cap ≤ 9223372036854775807) (hn : n = min len 8) (he : newE d n = 0)
    (hD : DedP w At lt D) (hfD : ∀ i, i < lt → FitDd (D i)) (hlt : lt ≤ 9223372036854775807) :
    Calls Try.prog 3 #[.slice A len cap, .slice At lt ct] w (BackD w) := by
  have HP := Lib.hid (rowsO_any A len cap d w hst hlc hcm)
  rw [← hn] at HP
  have hn8 : n ≤ 8 := by omega
  have hfn : ∀ i, i < n → FitP (d i) := fun i hi => hf i (by omega)
  have hwi : ∀ i, i < n → Within (d i) := fun i hi => Within.of (newE_may he i hi)
  have HST := Lib.hid (fun (W : World) (hb : Below w.heap.size w W) => (hst.cut n (by omega)).below hb)
  have HD := Lib.hid hD
  have HFD := Lib.hid hfD
  have HE := Lib.hid he
  have HN := Lib.hid (fun (W : World) (h : PrtsV W A n d) => (dnew_any A n cap d W h hfn (by omega)).mono (R' := fun e w' => ∃ b, e = .returned (.tuple #[.pointer (some ⟨b, 0, none⟩), .int .i64 0]) ∧ W.heap.size ≤ b ∧ Dsk w' b (fun _ => 0) (tblN d n) false noJob 0 (.slice none 0 0) ∧ Below W.heap.size W w') fun e w' h => by
    obtain ⟨h1, h2, h3⟩ := newV_ok rfl he h
    exact ⟨_, h1, Nat.le_refl _, h2, h3⟩)
  have HK := Lib.hid (fun (A2 : Option Addr) (c2 : Nat) (W : World) (h : PrtsV W A2 n d) => show Calls Try.prog 8 #[.slice A2 n c2] W (fun e w' => e = .returned (.int .i64 (newE d n)) ∧ Below W.heap.size W w') from rcheck_any A2 n c2 d W h hfn (by omega))
  have HX := Lib.hid (fun (A2 : Option Addr) (c2 : Nat) (W : World) (h : PrtsV W A2 n d) => rnew14 A2 n c2 d W h hwi hn8)
  have HL := Lib.hid (fun W => live14_any W)
  rw [he] at HK
  clear hst hn hlc hcm hD hfD he hf hfn hwi
  unfold RowsO at HP
  go_enter Try.func3, Try.ntmps3
  go_wp2_with (first
    | (go_at_call 6; have HH := HP.out; refine HH.mono ?_; clear HH; rintro e w1 ⟨A2, c2, rfl, ⟨p1, q1⟩, b1⟩; have P1 := Lib.hid p1; have Q1 := Lib.hid q1; have B1 := Lib.hid b1; clear p1 b1 q1)
    | (go_at_call 7; have HH := HN.out _ (HST.out _ B1.out); refine HH.mono ?_; clear HH; rintro e w2 ⟨b, rfl, hb2, v2, b2⟩; have V2 := Lib.hid (And.intro hb2 v2); have P2 := Lib.hid (P1.out.below b2); have C2 := Lib.hid b2; have B2 := Lib.hid (B1.out.trans (b2.mono B1.out.size)); clear b2 v2 hb2)
    | (go_at_call 8; (with_reducible refine (HK.out _ _ _ P2.out).mono ?_); rintro e w3 ⟨rfl, b3⟩; have P3 := Lib.hid (P2.out.below b3); have C3 := Lib.hid b3; have B3 := Lib.hid (B2.out.trans (b3.mono B2.out.size)); clear b3)
    | (go_at_call 10; have HH := HX.out A2 c2 _ P3.out; refine HH.mono ?_; clear HH; intro e w4 hnd; obtain ⟨x, bv, E, rfl, tw, hx, b4⟩ := Tw.new B1.out.size V2.out.1 V2.out.2 P1.out Q1.out C2.out C3.out hnd (fun _ => (0, 0, 0, ⟨#[]⟩)); have B4 := Lib.hid (B3.out.trans (b4.mono B3.out.size)); have U4 : Hid (UpD w4 w.heap.size d n b x A2 c2 0) := Lib.hid ⟨_, _, _, _, _, _, _, _, _, _, _, tw, by omega⟩; clear b4 tw hnd hx))
  clear HP HST HN HK HX P1 P2 P3 B1 B2 B3 C2 C3 V2 Q1
  go_loopw [10] (fun x' wr => ∃ (i : Nat), x' = .int .i64 i ∧ i ≤ 40 ∧ i ≤ lt ∧ Hid (UpD wr w.heap.size d n b x A2 c2 i) ∧ Hid (Below w.heap.size w wr)) (fun x' _ => 40 - (intOf x').toNat)
  case atStart => exact ⟨0, rfl, by omega, by omega, U4, B4⟩
  case round =>
    obtain ⟨i, rfl, hi4, hil, HU, HB⟩ := hrel
    clear U4 B4
    by_cases hgo : i < lt ∧ i < 40
    · obtain ⟨h1, h2⟩ := hgo
      obtain ⟨tb, toff, rfl, htb, htc⟩ := HD.out (by omega)
      have HT := Lib.hid (fun (W : World) (hb : Below w.heap.size w W) => (htc i h1).below htb hb)
      have hfit := HFD.out i h1
      clear htb htc
      generalize D i = y at HT hfit
      obtain ⟨y1, y2, y3, y4, y5, y6, y7⟩ := y
      have HF : Hid (FitDd (y1, y2, y3, y4, y5, y6, y7)) := Lib.hid hfit
      clear hfit
      obtain ⟨t0, t1, t2, t3, t4, t5, t6⟩ := HT.out wr HB.out
      simp only at t0 t1 t2 t3 t4 t5 t6
      have i1 : (i : Int) < (lt : Int) := by omega
      have i2 : (i : Int) < 40 := by omega
      by_cases hs : y7.size ≤ 100
      · have hs' : (y7.size : Int) ≤ 100 := by omega
        have HDS := Lib.hid (fun (W : World) (h : UpD W w.heap.size d n b x A2 c2 i) => (show Calls Try.prog 11 #[.pointer (some ⟨b, 0, none⟩), .pointer (some ⟨x, 0, none⟩), .agg #[.int .i64 y1, .int .i64 y2, .int .i64 y3, .int .i64 y4, .int .i64 y5, .bool y6, .string y7]] W _ from h.step HE.out hn8 (y1, y2, y3, y4, y5, y6, y7) HF.out (by omega)))
        go_wp2_with (go_at_call 11; have HQ := HDS.out _ HU.out; refine HQ.mono ?_; clear HQ; rintro e w6 ⟨rfl, u6, b6⟩; have U6 := Lib.hid u6; have E6 := Lib.hid (HB.out.trans b6); clear u6 b6)
        go_roundw
        case rel => exact ⟨i + 1, by go_num, by omega, by omega, U6, E6⟩
        case measure => simp [intOf] <;> omega
      · have hs' : ¬ (y7.size : Int) ≤ 100 := by omega
        go_wp2_with (go_at_call 9; (with_reducible refine (HL.out _).mono ?_); rintro e w7 ⟨rfl, b7⟩; have E7 := Lib.hid (HB.out.trans (b7.mono HB.out.size)); clear b7)
        go_ret
        exact ⟨rfl, E7.out⟩
    · rcases (show ¬ ((i : Int) < (lt : Int)) ∨ ((i : Int) < (lt : Int) ∧ ¬ (i : Int) < 40) by omega) with hx | ⟨hx, hx2⟩
      all_goals
        go_wp2_with (first
          | (go_at_call 9; (with_reducible refine (HL.out _).mono ?_); rintro e w7 ⟨rfl, b7⟩; have U7 := Lib.hid (HU.out.below b7); have E7 := Lib.hid (HB.out.trans (b7.mono HB.out.size)); clear b7)
          | (go_at_call 12; have HQ := U7.out.told HE.out hn8; refine HQ.mono ?_; clear HQ; rintro e w8 ⟨rfl, b8⟩; have E8 := Lib.hid (E7.out.trans (b8.mono E7.out.size)); clear b8))
        go_ret
        exact ⟨rfl, E8.out⟩

theorem dplays_call (A : Option Addr) (len cap : Nat) (d : Nat → Prt) (At : Option Addr) (lt ct : Nat) (D : Nat → Dd) (w : World) (hst : PrtsV w A len d) (hf : ∀ i, i < len → FitP (d i)) (hlc : len ≤ cap) (hcm : cap ≤ 9223372036854775807)
    (hD : DedP w At lt D) (hfD : ∀ i, i < lt → FitDd (D i)) (hlt : lt ≤ ct) (hct : ct ≤ 9223372036854775807) :
    Calls Try.prog 3 #[.slice A len cap, .slice At lt ct] w fun e w' => e = .returned (.bool true) ∧ Below w.heap.size w w' := by
  show Calls Try.prog 3 #[.slice A len cap, .slice At lt ct] w (BackD w)
  by_cases he : newE d (min len 8) = 0
  · exact dplays_on A len cap _ d At lt ct D w hst hf hlc hcm rfl he hD hfD (by omega)
  · exact dplays_off A len cap _ d At lt ct w hst hf hlc hcm rfl he
end Go.Proofs.Ytlmdnhpdeiekfaa
