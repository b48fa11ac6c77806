/- What becomes of a fork changes nothing of the other one: the law on disks, walked. -/
import Derived.Test.YtlmdnhpdeiekfaaJ38
import Derived.Deep.RegionHeld3
import Derived.Lib.QuietBelow
import Derived.BigQuiet
namespace Go.Proofs.Ytlmdnhpdeiekfaa
open Go.RowKit Go.Lib Go.Sort
set_option linter.unusedVariables false

theorem noJob_fit : FitJ noJob := ⟨by simp [fitI, noJob], by simp [fitI, noJob], by simp [fitI, noJob], by decide⟩
/-- What a disk tells to be busy stays as it is asked. -/
theorem tw_busy {w : World} {d : Nat → Prt} {n b x : Nat} {A : Option Addr} {c B : Nat} {S : Nat → UInt8} {bz : Bool} {jd jr : Jb} {sd sr : Int} {bv v : Value} {E : Nat → Value} {m : Nat} {rc : Nat → Rec} (h : Tw w d n b x A c B S bz jd jr sd sr bv v E m rc) : Calls Try.prog 16 #[.pointer (some ⟨b, 0, none⟩)] w fun e w' => e = .returned (.bool bz) ∧ w = w' := busy_any h.dev
set_option maxRecDepth 20000 in
set_option maxHeartbeats 3200000 in
theorem dforks_off (A : Option Addr) (len cap n : Nat) (d : Nat → Prt) (At : Option Addr) (lt ct : Nat) (Au : Option Addr) (lu cu : Nat) (w : World) (hst : PrtsV w A len d) (hf : ∀ i, i < len → FitP (d i)) (hlc : len ≤ cap) (hcm : cap ≤ 9223372036854775807) (hn : n = min len 8) (hoff : newE d n ≠ 0) :
    Calls Try.prog 5 #[.slice A len cap, .slice At lt ct, .slice Au lu cu] w (BackD w) := by
  have HP := Lib.hid (rowsO_any A len cap d w hst hlc hcm)
  rw [← hn] at HP
  have hn8 : n ≤ 8 := by omega
  have hfn : ∀ i, i < n → FitP (d i) := fun i hi => hf i (by omega)
  have HK := Lib.hid (fun (A2 : Option Addr) (c2 : Nat) (W : World) (h : PrtsV W A2 n d) => show Calls Try.prog 8 #[.slice A2 n c2] W (fun e w' => e = .returned (.int .i64 (newE d n)) ∧ Below W.heap.size W w') from rcheck_any A2 n c2 d W h hfn (by omega))
  have HL := Lib.hid (fun W => live14_any W)
  generalize newE d n = c at HK hoff
  have h1' : (c != 0) = true := by simpa using hoff
  clear hst hn hn8 hlc hcm hoff hf hfn
  unfold RowsO at HP
  go_enter Try.func5, Try.ntmps5
  go_wp2_with (first
    | (go_at_call 6; have HH := HP.out; refine HH.mono ?_; clear HH; rintro e w1 ⟨A2, c2, rfl, ⟨p1, _⟩, b1⟩; have P1 := Lib.hid p1; have B1 := Lib.hid b1; clear p1 b1)
    | (go_at_call 8; (with_reducible refine (HK.out _ _ _ P1.out).mono ?_); rintro e w4 ⟨rfl, b4⟩; have B4 := Lib.hid (B1.out.trans (b4.mono B1.out.size)); clear b4)
    | (go_at_call 9; (with_reducible refine (HL.out _).mono ?_); rintro e w5 ⟨rfl, b5⟩; have B5 := Lib.hid (B4.out.trans (b5.mono B4.out.size)); clear b5))
  go_ret
  exact ⟨by simp, B5.out⟩

set_option maxRecDepth 40000 in
set_option maxHeartbeats 12800000 in
theorem dforks_on (A : Option Addr) (len cap n : Nat) (d : Nat → Prt) (At : Option Addr) (lt ct : Nat) (D1 : Nat → Dd) (Au : Option Addr) (lu cu : Nat) (D2 : Nat → Dd) (w : World) (hst : PrtsV w A len d) (hf : ∀ i, i < len → FitP (d i)) (hlc : len ≤ cap) (hcm : cap ≤ 9223372036854775807) (hn : n = min len 8) (he : newE d n = 0)
    (hD1 : DedP w At lt D1) (hf1 : ∀ i, i < lt → FitDd (D1 i)) (hlt : lt ≤ 9223372036854775807) (hD2 : DedP w Au lu D2) (hf2 : ∀ i, i < lu → FitDd (D2 i)) (hlu : lu ≤ 9223372036854775807) :
    Calls Try.prog 5 #[.slice A len cap, .slice At lt ct, .slice Au lu cu] w (BackD w) := by
  have HP := Lib.hid (rowsO_any A len cap d w hst hlc hcm)
  rw [← hn] at HP
  have hn8 : n ≤ 8 := by omega
  have hfn : ∀ i, i < n → FitP (d i) := fun i hi => hf i (by omega)
  have hwi : ∀ i, i < n → Within (d i) := fun i hi => Within.of (newE_may he i hi)
  have HST := Lib.hid (fun (W : World) (hb : Below w.heap.size w W) => (hst.cut n (by omega)).below hb)
  have HD1 := Lib.hid (fun (W : World) (hb : Below w.heap.size w W) => hD1.below hb)
  have HD2 := Lib.hid (fun (W : World) (hb : Below w.heap.size w W) => hD2.below hb)
  have HF1 := Lib.hid hf1
  have HF2 := Lib.hid hf2
  have HE := Lib.hid he
  have HN := Lib.hid (fun (W : World) (h : PrtsV W A n d) => (dnew_any A n cap d W h hfn (by omega)).mono (R' := fun e w' => ∃ b, e = .returned (.tuple #[.pointer (some ⟨b, 0, none⟩), .int .i64 0]) ∧ W.heap.size ≤ b ∧ Dsk w' b (fun _ => 0) (tblN d n) false noJob 0 (.slice none 0 0) ∧ Below W.heap.size W w') fun e w' h => by
    obtain ⟨h1, h2, h3⟩ := newV_ok rfl he h
    exact ⟨_, h1, Nat.le_refl _, h2, h3⟩)
  have HK := Lib.hid (fun (A2 : Option Addr) (c2 : Nat) (W : World) (h : PrtsV W A2 n d) => show Calls Try.prog 8 #[.slice A2 n c2] W (fun e w' => e = .returned (.int .i64 (newE d n)) ∧ Below W.heap.size W w') from rcheck_any A2 n c2 d W h hfn (by omega))
  have HX := Lib.hid (fun (A2 : Option Addr) (c2 : Nat) (W : World) (h : PrtsV W A2 n d) => rnew14 A2 n c2 d W h hwi hn8)
  have HL := Lib.hid (fun W => live14_any W)
  rw [he] at HK
  clear hst hn hlc hcm hD1 hD2 hf1 hf2 he hf hfn hwi
  unfold RowsO at HP
  go_enter Try.func5, Try.ntmps5
  go_wp2_with (first
    | (go_at_call 6; have HH := HP.out; refine HH.mono ?_; clear HH; rintro e w1 ⟨A2, c2, rfl, ⟨p1, q1⟩, b1⟩; have P1 := Lib.hid p1; have Q1 := Lib.hid q1; have B1 := Lib.hid b1; clear p1 b1 q1)
    | (go_at_call 8; (with_reducible refine (HK.out _ _ _ P1.out).mono ?_); rintro e w2 ⟨rfl, b2⟩; have P2 := Lib.hid (P1.out.below b2); have C2 := Lib.hid b2; have B2 := Lib.hid (B1.out.trans (b2.mono B1.out.size)); clear b2)
    | (go_at_call 7; have HH := HN.out _ (HST.out _ B2.out); refine HH.mono ?_; clear HH; rintro e w3 ⟨b, rfl, hb3, v3, b3⟩; have V3 := Lib.hid (And.intro hb3 v3); have P3 := Lib.hid (P2.out.below b3); have C3 := Lib.hid b3; have B3 := Lib.hid (B2.out.trans (b3.mono B2.out.size)); clear b3 v3 hb3)
    | (go_at_call 10; have HH := HX.out A2 c2 _ P3.out; refine HH.mono ?_; clear HH; intro e w4 hnd; obtain ⟨x, bv, E, rfl, tw, hx, b4⟩ := Tw.new (w1 := w2) (w2 := w3) (w3 := w3) (Nat.le_trans B1.out.size C2.out.size) V3.out.1 V3.out.2 P2.out (fun k hk => Nat.lt_of_lt_of_le (Q1.out k hk) C2.out.size) C3.out (Below.refl _ _) hnd (fun _ => (0, 0, 0, ⟨#[]⟩)); have B4 := Lib.hid (B3.out.trans (b4.mono B3.out.size)); have hq4 := b4.size; have hq3 := C3.out.size; have hq2 := C2.out.size; have Q4 : Hid (∀ k, A2.map (·.block) = some k → k < w4.heap.size) := Lib.hid (fun k hk => by have := Q1.out k hk; omega); have U4 : Hid (UpD w4 w.heap.size d n b x A2 c2 0) := Lib.hid ⟨_, _, _, _, _, _, _, _, _, _, _, tw, by omega⟩; clear b4 tw hnd hx hq4 hq3 hq2))
  have HQ : Hid (∀ (W : World), w4.heap.size ≤ W.heap.size → ∀ k, A2.map (·.block) = some k → k < W.heap.size) := Lib.hid fun W hW k hk => Nat.lt_of_lt_of_le (Q4.out k hk) hW
  have HS4 := Lib.hid (Nat.le_refl w4.heap.size)
  clear HP HST HN HK HX P1 P2 P3 B1 B2 B3 C2 C3 V3 Q1
  go_loopw [11] (fun x' wr => ∃ (i : Nat), x' = .int .i64 i ∧ i ≤ 20 ∧ i ≤ lt ∧ Hid (UpD wr w.heap.size d n b x A2 c2 i) ∧ Hid (Below w.heap.size w wr) ∧ Hid (w4.heap.size ≤ wr.heap.size)) (fun x' _ => 20 - (intOf x').toNat)
  case atStart => exact ⟨0, rfl, by omega, by omega, U4, B4, HS4⟩
  case round =>
    obtain ⟨i, rfl, hi4, hil, HU, HB, HS⟩ := hrel
    clear U4 B4 HS4
    by_cases hgo : i < lt ∧ i < 20
    · obtain ⟨h1, h2⟩ := hgo
      obtain ⟨tb, toff, rfl, htb, htc⟩ := HD1.out wr HB.out (by omega)
      have hc := htc i h1
      have hfit := HF1.out i h1
      clear htb htc
      generalize D1 i = y at hc hfit
      obtain ⟨y1, y2, y3, y4, y5, y6, y7⟩ := y
      have HF : Hid (FitDd (y1, y2, y3, y4, y5, y6, y7)) := Lib.hid hfit
      clear hfit
      obtain ⟨t0, t1, t2, t3, t4, t5, t6⟩ := hc
      simp only at t0 t1 t2 t3 t4 t5 t6
      have i1 : (i : Int) < (lt : Int) := by omega
      have i2 : (i : Int) < 20 := by omega
      by_cases hs : y7.size ≤ 100
      · have hs' : (y7.size : Int) ≤ 100 := by omega
        have HDS := Lib.hid (fun (W : World) (h : UpD W w.heap.size d n b x A2 c2 i) => (show Calls Try.prog 11 #[.pointer (some ⟨b, 0, none⟩), .pointer (some ⟨x, 0, none⟩), .agg #[.int .i64 y1, .int .i64 y2, .int .i64 y3, .int .i64 y4, .int .i64 y5, .bool y6, .string y7]] W _ from h.step HE.out hn8 (y1, y2, y3, y4, y5, y6, y7) HF.out (by omega)))
        go_wp2_with (go_at_call 11; have HQ := HDS.out _ HU.out; refine HQ.mono ?_; clear HQ; rintro e w6 ⟨rfl, u6, b6⟩; have U6 := Lib.hid u6; have E6 := Lib.hid (HB.out.trans b6); have S6 := Lib.hid (Nat.le_trans HS.out b6.size); clear u6 b6)
        go_roundw
        case rel => exact ⟨i + 1, by go_num, by omega, by omega, U6, E6, S6⟩
        case measure => simp [intOf] <;> omega
      · have hs' : ¬ (y7.size : Int) ≤ 100 := by omega
        go_wp2_with (go_at_call 9; (with_reducible refine (HL.out _).mono ?_); rintro e w7 ⟨rfl, b7⟩; have E7 := Lib.hid (HB.out.trans (b7.mono HB.out.size)); clear b7)
        go_ret
        exact ⟨rfl, E7.out⟩
    · obtain ⟨wf, hwf⟩ : ∃ wf, wf = wr := ⟨_, rfl⟩
      subst hwf
      have hA := HQ.out wf HS.out
      have HA := Lib.hid hA
      have hu := HU.out
      obtain ⟨S, bz, jd, jr, sd, sr, bv, v, E, m, rc, tw, hm⟩ := hu
      have HTW := Lib.hid tw
      have HFK := Lib.hid (dfork_any tw.dev tw.log (by omega))
      unfold ForkV at HFK
      obtain ⟨Ab, cb, hbv⟩ := tw.bys.1.form
      have SX := Lib.hid fun (W : World) (hW : Below wf.heap.size wf W) => (show W.cell? ⟨x, 0, none⟩ = some (.slice A2 n c2) ∧ W.cell? ⟨x, 1, none⟩ = some (.slice Ab n cb) ∧ W.cell? ⟨x, 2, none⟩ = some (.bool bz) ∧ W.cell? ⟨x, 3, none⟩ = some (.int .i64 jr.1) ∧ W.cell? ⟨x, 4, none⟩ = some (.int .i64 jr.2.1) ∧ W.cell? ⟨x, 5, none⟩ = some (.int .i64 jr.2.2.1) ∧ W.cell? ⟨x, 6, none⟩ = some (.bool jr.2.2.2.1) ∧ W.cell? ⟨x, 7, none⟩ = some (.string jr.2.2.2.2) ∧ W.cell? ⟨x, 8, none⟩ = some (.int .i64 sr) from by
        have hx := tw.doc.below hW
        rw [hbv] at hx
        exact ⟨Blk.cell hx 0, Blk.cell hx 1, Blk.cell hx 2, Blk.cell hx 3, Blk.cell hx 4, Blk.cell hx 5, Blk.cell hx 6, Blk.cell hx 7, Blk.cell hx 8⟩)
      have HM := Lib.hid (show m ≤ 40 by omega)
      clear tw hm hA
      rcases (show ¬ ((i : Int) < (lt : Int)) ∨ ((i : Int) < (lt : Int) ∧ ¬ (i : Int) < 20) by omega) with hx | ⟨hx, hx2⟩
      all_goals
        go_upto_region 17 with (go_at_call 17; have HQ := HFK.out; refine HQ.mono ?_; clear HQ; rintro e w7 ⟨f, v', rfl, f7, d7, l7, n7, b7⟩; have F7 := Lib.hid (And.intro f7 (And.intro d7 (And.intro l7 n7))); have B7 := Lib.hid b7; clear f7 d7 l7 n7 b7)
        obtain ⟨A3, c3, w8, ecp, r8, o8, b8⟩ := bys_copy HTW.out hn8 B7.out (w7.alloc (.cells #[] 71)).drew (below_drewN ((Below.refl _ _).alloc (Nat.le_refl _) _) 1) w7.heap.size (by simp) (Nat.le_refl _)
        rw [hbv] at ecp
        have EC := Lib.hid ecp
        have B8 := Lib.hid b8
        have R8 := Lib.hid (And.intro r8 o8)
        have S7 := SX.out _ B7.out
        have S9 : _ := SX.out (w7.alloc (.cells #[] 71)).drew (B7.out.trans (below_drewN (((Below.refl w7.heap.size w7).alloc (Nat.le_refl _) (.cells #[] 71)).mono B7.out.size) 1))
        have S8 := SX.out _ (B7.out.trans (b8.mono B7.out.size))
        clear ecp r8 o8 b8 hbv
        obtain ⟨p0, p1, p2, p3, p4, p5, p6, p7, p8⟩ := S7
        obtain ⟨q0, q1, q2, q3, q4, q5, q6, q7, q8⟩ := S8
        obtain ⟨j1, j2, j3, j4, j5⟩ := jr
        simp only at p3 p4 p5 p6 p7 q3 q4 q5 q6 q7
        go_region_held3 (fun w' => w'.cell? ⟨x, 0, none⟩ = some (.slice A2 n c2) ∧ w'.cell? ⟨x, 1, none⟩ = some (.slice Ab n cb) ∧ w'.cell? ⟨x, 2, none⟩ = some (.bool bz) ∧ w'.cell? ⟨x, 3, none⟩ = some (.int .i64 j1) ∧ w'.cell? ⟨x, 4, none⟩ = some (.int .i64 j2) ∧ w'.cell? ⟨x, 5, none⟩ = some (.int .i64 j3) ∧ w'.cell? ⟨x, 6, none⟩ = some (.bool j4) ∧ w'.cell? ⟨x, 7, none⟩ = some (.string j5) ∧ w'.cell? ⟨x, 8, none⟩ = some (.int .i64 sr))
          (first | exact S9 | exact ⟨p0, p1, p2, p3, p4, p5, p6, p7, p8⟩ | exact ⟨q0, q1, q2, q3, q4, q5, q6, q7, q8⟩ | go_keep)
          (go_loud (refine step_app_eq rfl (.tmp 72) (.tmp 76) 51 rfl EC.out rfl rfl ?_))
        obtain ⟨w9, hw9⟩ : ∃ w9, w9 = w8.alloc (.cells #[.slice A2 n c2, .slice A3 n c3, .bool bz, .int .i64 j1, .int .i64 j2, .int .i64 j3, .bool j4, .string j5, .int .i64 sr] 54) := ⟨_, rfl⟩
        obtain ⟨y, hy⟩ : ∃ y, y = w8.heap.size := ⟨_, rfl⟩
        have hyd : RDk w9 y (.slice A2 n c2) (.slice A3 n c3) bz (j1, j2, j3, j4, j5) sr := by rw [hw9, hy]; exact Blk.new w8 _ _
        have b9 : Below w8.heap.size w8 w9 := by rw [hw9]; exact (Below.refl _ _).alloc (Nat.le_refl _) _
        have tw2 := Tw.fork HTW.out HA.out F7.out.1 F7.out.2.1 F7.out.2.2.1 F7.out.2.2.2 B7.out R8.out.1 R8.out.2 B8.out hyd (by omega) b9
        have U2 : Hid (UpD w9 wf.heap.size d n f y A2 c2 20) := Lib.hid ⟨_, _, _, _, _, _, _, _, _, _, _, tw2, HM.out⟩
        have E9 : Hid (Below wf.heap.size wf w9) := Lib.hid ((B7.out.trans (B8.out.mono B7.out.size)).trans (b9.mono (Nat.le_trans B7.out.size B8.out.size)))
        clear hyd b9 tw2 F7 B7 EC B8 R8 S9 p0 p1 p2 p3 p4 p5 p6 p7 p8 q0 q1 q2 q3 q4 q5 q6 q7 q8 HFK HU
        rw [← hw9, ← hy]
        clear hw9 hy
        go_wp2_with (fail)
        go_loopw [14] (fun x' wr => ∃ (k : Nat), x' = .int .i64 k ∧ k ≤ 20 ∧ k ≤ lu ∧ Hid (UpD wr wf.heap.size d n f y A2 c2 (20 + k)) ∧ Hid (Below wf.heap.size wf wr)) (fun x' _ => 20 - (intOf x').toNat)
        case atStart => exact ⟨0, rfl, by omega, by omega, U2, E9⟩
        case round =>
          obtain ⟨k, rfl, hk4, hkl, U, E⟩ := hrel
          clear U2 E9
          by_cases hgo : k < lu ∧ k < 20
          · obtain ⟨h1, h2⟩ := hgo
            obtain ⟨tb, toff, rfl, htb, htc⟩ := HD2.out wr (HB.out.trans (E.out.mono HB.out.size)) (by omega)
            have hc := htc k h1
            have hfit := HF2.out k h1
            clear htb htc
            generalize D2 k = z at hc hfit
            obtain ⟨y1, y2, y3, y4, y5, y6, y7⟩ := z
            have HF : Hid (FitDd (y1, y2, y3, y4, y5, y6, y7)) := Lib.hid hfit
            clear hfit
            obtain ⟨t0, t1, t2, t3, t4, t5, t6⟩ := hc
            simp only at t0 t1 t2 t3 t4 t5 t6
            have i1 : (k : Int) < (lu : Int) := by omega
            have i2 : (k : Int) < 20 := by omega
            by_cases hs : y7.size ≤ 100
            · have hs' : (y7.size : Int) ≤ 100 := by omega
              have HDS := Lib.hid (fun (W : World) (h : UpD W wf.heap.size d n f y A2 c2 (20 + k)) => (show Calls Try.prog 11 #[.pointer (some ⟨f, 0, none⟩), .pointer (some ⟨y, 0, none⟩), .agg #[.int .i64 y1, .int .i64 y2, .int .i64 y3, .int .i64 y4, .int .i64 y5, .bool y6, .string y7]] W _ from h.step HE.out hn8 (y1, y2, y3, y4, y5, y6, y7) HF.out (by omega)))
              go_wp2_with (go_at_call 11; have HQ := HDS.out _ U.out; refine HQ.mono ?_; clear HQ; rintro e v6 ⟨rfl, u6, b6⟩; have U6 := Lib.hid u6; have E6 := Lib.hid (E.out.trans b6); clear u6 b6)
              go_roundw
              case rel => exact ⟨k + 1, by go_num, by omega, by omega, Lib.hid (by rw [show 20 + (k + 1) = 20 + k + 1 by omega]; exact U6.out), E6⟩
              case measure => simp [intOf] <;> omega
            · have hs' : ¬ (y7.size : Int) ≤ 100 := by omega
              go_wp2_with (go_at_call 9; (with_reducible refine (HL.out _).mono ?_); rintro e v7 ⟨rfl, b7⟩; have E7 := Lib.hid (E.out.trans (b7.mono E.out.size)); clear b7)
              go_ret
              exact ⟨rfl, HB.out.trans (E7.out.mono HB.out.size)⟩
          · rcases (show ¬ ((k : Int) < (lu : Int)) ∨ ((k : Int) < (lu : Int) ∧ ¬ (k : Int) < 20) by omega) with hz | ⟨hz, hz2⟩
            all_goals
              go_upto_region 28 with (first
                | (go_at_call 14; (with_reducible refine (end_nil _ _).mono ?_); rintro e v1 ⟨rfl, rfl⟩)
                | (go_at_call 18; (with_reducible refine (sector_nil _ _ _).mono ?_); rintro e v2 ⟨rfl, b2⟩; have U := Lib.hid (U.out.below b2); have E := Lib.hid (E.out.trans (b2.mono E.out.size)); clear b2))
              have S0 := SX.out _ E.out
              obtain ⟨_, _, s0, _⟩ := S0
              have HT1 := Lib.hid (fun (W : World) (hW : Below v2.heap.size v2 W) => told14_any (HTW.out.below (E.out.trans (hW.mono E.out.size))) HE.out hn8)
              have HT2 := Lib.hid (fun (W : World) (hW : Below v2.heap.size v2 W) => (U.out.below hW).told HE.out hn8)
              have HT3 := Lib.hid (fun (W : World) (hW : Below v2.heap.size v2 W) => (tw_busy (HTW.out.below (E.out.trans (hW.mono E.out.size)))).mono (R' := fun e w' => e = .returned (.bool bz) ∧ Below W.heap.size W w') fun e w' ⟨h1, h2⟩ => by subst h2; exact ⟨h1, Below.refl _ _⟩)
              have HN1 := Lib.hid (fun (W : World) => (busy_nil W).mono (R' := fun e w' => e = .returned (.bool false) ∧ Below W.heap.size W w') fun e w' ⟨h1, h2⟩ => by subst h2; exact ⟨h1, Below.refl _ _⟩)
              have HN2 := Lib.hid (fun (W : World) => (log_nil W).mono (R' := fun e w' => e = .returned (.slice none 0 0) ∧ Below W.heap.size W w') fun e w' ⟨h1, h2⟩ => by subst h2; exact ⟨h1, Below.refl _ _⟩)
              have HN3 := Lib.hid (fun (W : World) => (fork_nil W).mono (R' := fun e w' => e = .returned (.pointer none) ∧ Below W.heap.size W w') fun e w' ⟨h1, h2⟩ => by subst h2; exact ⟨h1, Below.refl _ _⟩)
              have HN4 := Lib.hid (fun (W : World) => (ask_nil noJob noJob_fit W).mono (R' := fun e w' => e = .returned (.int .i64 1) ∧ Below W.heap.size W w') fun e w' ⟨h1, h2⟩ => ⟨h1, below_of_only h2 (Nat.le_refl _) (by simp)⟩)
              have HN5 := Lib.hid (fun (W : World) => (start_nil 0 noJob W).mono (R' := fun e w' => e = .returned (.int .i64 1) ∧ Below W.heap.size W w') fun e w' ⟨h1, h2⟩ => ⟨h1, below_of_only h2 (Nat.le_refl _) (by simp)⟩)
              have s9 := fun (dd : Nat) (os : Array Obj) => cell_regrown s0 dd os
              clear s0
              cases bz <;> (
                refine wp_region_quiet_below (by kernel_rfl) (by kernel_rfl) ?_
                repeat (go_big_quiet_step ((first
                  | (go_at_call 9; with_reducible exact Calls.regrown_of (HL.out _))
                  | (go_at_call 12; with_reducible exact Calls.regrown_of (HT1.out _ (below_regrown v2 _ _)))
                  | (go_at_call 12; with_reducible exact Calls.regrown_of (HT2.out _ (below_regrown v2 _ _)))
                  | (go_at_call 16; with_reducible exact Calls.regrown_of (HT3.out _ (below_regrown v2 _ _)))
                  | (go_at_call 16; with_reducible exact Calls.regrown_of (HN1.out _))
                  | (go_at_call 19; with_reducible exact Calls.regrown_of (HN4.out _))
                  | (go_at_call 13; with_reducible exact Calls.regrown_of (HN5.out _))
                  | (go_at_call 15; with_reducible exact Calls.regrown_of (HN2.out _))
                  | (go_at_call 17; with_reducible exact Calls.regrown_of (HN3.out _)))))
                refine wpQuiet_nil ?_
                intro w30 hw30
                obtain ⟨p, rfl⟩ := hw30
                have E30 := Lib.hid (E.out.trans ((below_regrown v2 p.d p.os).mono E.out.size))
                generalize grow (redrawn v2 p.d) p.os = w30 at E30 ⊢
                go_wp2
                go_ret
                exact ⟨by simp, HB.out.trans (E30.out.mono HB.out.size)⟩)
theorem dforks_call (A : Option Addr) (len cap : Nat) (d : Nat → Prt) (At : Option Addr) (lt ct : Nat) (D1 : Nat → Dd) (Au : Option Addr) (lu cu : Nat) (D2 : Nat → Dd) (w : World) (hst : PrtsV w A len d) (hf : ∀ i, i < len → FitP (d i)) (hlc : len ≤ cap) (hcm : cap ≤ 9223372036854775807)
    (hD1 : DedP w At lt D1) (hf1 : ∀ i, i < lt → FitDd (D1 i)) (hlt : lt ≤ ct) (hct : ct ≤ 9223372036854775807) (hD2 : DedP w Au lu D2) (hf2 : ∀ i, i < lu → FitDd (D2 i)) (hlu : lu ≤ cu) (hcu : cu ≤ 9223372036854775807) :
    Calls Try.prog 5 #[.slice A len cap, .slice At lt ct, .slice Au lu cu] w fun e w' => e = .returned (.bool true) ∧ Below w.heap.size w w' := by
  show Calls Try.prog 5 #[.slice A len cap, .slice At lt ct, .slice Au lu cu] w (BackD w)
  by_cases he : newE d (min len 8) = 0
  · exact dforks_on A len cap _ d At lt ct D1 Au lu cu D2 w hst hf hlc hcm rfl he hD1 hf1 (by omega) hD2 hf2 (by omega)
  · exact dforks_off A len cap _ d At lt ct Au lu cu w hst hf hlc hcm rfl he
end Go.Proofs.Ytlmdnhpdeiekfaa
