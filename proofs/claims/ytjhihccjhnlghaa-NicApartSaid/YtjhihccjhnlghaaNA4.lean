/- What comes for other addresses changes nothing of a port: the law, where it is asked. -/
import Derived.Test.YtjhihccjhnlghaaNA3
namespace Go.Proofs.Ytjhihccjhnlghaa
open Go.RowKit Go.Lib
set_option linter.unusedVariables false
attribute [-go_sem] Go.run_eql_struct Go.run_neq_struct

/-- The two devices tell the same of the port k. -/
def Dk (w : World) (B : Nat) (d : Nat → I3) (n da db k c : Nat) : Prop := ∃ Pa Pb, Da w B d n da db Pa Pb c c ∧ Pa k = Pb k
/-- .. and l waits there. -/
def Dl (w : World) (B : Nat) (d : Nat → I3) (n da db k c : Nat) (l : List Frm) (dr : Nat) : Prop := ∃ Pa Pb, Da w B d n da db Pa Pb c c ∧ (Pa k).2.2.2.1 = l ∧ (Pb k).2.2.2.1 = l ∧ (Pa k).2.2.2.2 = dr ∧ (Pb k).2.2.2.2 = dr
/-- .. of which the first one has been told of what came. -/
def Dh (w : World) (B : Nat) (d : Nat → I3) (n da db k c : Nat) (s : ByteArray) : Prop := ∃ Pa Pb, Da w B d n da db (comeP (jfor (fun i => (d i).2.1) n s) Pa (Fr.paV s).1) Pb (c + 1) c ∧ Pa k = Pb k
/-- .. or has given its first frame. -/
def Dt (w : World) (B : Nat) (d : Nat → I3) (n da db k c : Nat) (l : List Frm) (f : Frm) : Prop := ∃ Pa Pb, Da w B d n da db Pa Pb c c ∧ (Pa k).2.2.2.1 = l ∧ (Pb k).2.2.2.1 = f :: l
section
variable {w w' : World} {B : Nat} {d : Nat → I3} {n da db k c : Nat}
theorem Dk.below (h : Dk w B d n da db k c) (hb : Below w.heap.size w w') : Dk w' B d n da db k c := by
  obtain ⟨Pa, Pb, h1, h2⟩ := h
  exact ⟨Pa, Pb, h1.below hb, h2⟩
theorem Dh.below {s : ByteArray} (h : Dh w B d n da db k c s) (hb : Below w.heap.size w w') : Dh w' B d n da db k c s := by
  obtain ⟨Pa, Pb, h1, h2⟩ := h
  exact ⟨Pa, Pb, h1.below hb, h2⟩
theorem Dl.below {l : List Frm} {dr : Nat} (h : Dl w B d n da db k c l dr) (hb : Below w.heap.size w w') : Dl w' B d n da db k c l dr := by
  obtain ⟨Pa, Pb, h1, h2⟩ := h
  exact ⟨Pa, Pb, h1.below hb, h2⟩
theorem Dt.below {l : List Frm} {f : Frm} (h : Dt w B d n da db k c l f) (hb : Below w.heap.size w w') : Dt w' B d n da db k c l f := by
  obtain ⟨Pa, Pb, h1, h2⟩ := h
  exact ⟨Pa, Pb, h1.below hb, h2⟩
/-- What comes comes to the first one. -/
theorem Dk.come (h : Dk w B d n da db k c) (s : ByteArray) (hs : s.size ≤ 1000) (hc : c ≤ 1000) :
    Calls Try.prog 16 #[.pointer (some ⟨da, 0, none⟩), .string s] w fun e w' => ∃ x y, e = .returned (.tuple #[x, y]) ∧ Dh w' B d n da db k c s ∧ Below B w w' := by
  obtain ⟨Pa, Pb, h1, h2⟩ := h
  refine (h1.come s hs (by omega)).mono fun e w' ⟨e1, e2, e3⟩ => ?_
  cases hj : jfor (fun i => (d i).2.1) n s with
  | none => rw [hj] at e1; exact ⟨_, _, e1, ⟨Pa, Pb, e2, h2⟩, e3⟩
  | some j => rw [hj] at e1; exact ⟨_, _, e1, ⟨Pa, Pb, e2, h2⟩, e3⟩
theorem Da.mono {Pa Pb : Nat → Sp} {ca cb ca' cb' : Nat} (h : Da w B d n da db Pa Pb ca cb) (h1 : ca ≤ ca') (h2 : cb ≤ cb') : Da w B d n da db Pa Pb ca' cb' := by
  obtain ⟨Oa, Ob, odda, oddb, k1, k2, k3, k4, k5, k6, k7, k8, k9⟩ := h
  exact ⟨Oa, Ob, odda, oddb, k1, k2, k3, k4, k5, k6, k7, k8.mono h1, k9.mono h2⟩
/-- It was for another one. -/
theorem Dh.off {s : ByteArray} (h : Dh w B d n da db k c s) (hj : jfor (fun i => (d i).2.1) n s ≠ some k) : Dk w B d n da db k (c + 1) := by
  obtain ⟨Pa, Pb, h1, h2⟩ := h
  refine ⟨_, Pb, h1.mono (Nat.le_refl _) (by omega), ?_⟩
  rw [← h2]
  cases hx : jfor (fun i => (d i).2.1) n s with
  | none => rfl
  | some j =>
    rw [hx] at hj
    have : k ≠ j := fun e => hj (by rw [e])
    simp [comeP, this]
/-- It was for this one. -/
theorem Dh.on {s : ByteArray} (h : Dh w B d n da db k c s) (hs : s.size ≤ 1000) (hc : c ≤ 1000) (hj : jfor (fun i => (d i).2.1) n s = some k) :
    Calls Try.prog 16 #[.pointer (some ⟨db, 0, none⟩), .string s] w fun e w' => ∃ x y, e = .returned (.tuple #[x, y]) ∧ Dk w' B d n da db k (c + 1) ∧ Below B w w' := by
  obtain ⟨Pa, Pb, h1, h2⟩ := h
  refine (h1.swap.come s hs (by omega)).mono fun e w' ⟨e1, e2, e3⟩ => ?_
  rw [hj] at e1 e2
  refine ⟨_, _, e1, ⟨_, _, e2.swap, ?_⟩, e3⟩
  simp [comeP, h2]
theorem Dk.lists (h : Dk w B d n da db k c) (hk : k < n) : ∃ l dr, l.length ≤ c ∧ Dl w B d n da db k c l dr := by
  obtain ⟨Pa, Pb, h1, h2⟩ := h
  refine ⟨_, _, ?_, Pa, Pb, h1, rfl, by rw [h2], rfl, by rw [h2]⟩
  obtain ⟨Oa, Ob, odda, oddb, k1, k2, k3, k4, k5, k6, k7, k8, k9⟩ := h1
  exact (k8.1 k hk).1
section
variable {l : List Frm} {dr : Nat} {o : Int}
theorem Dl.waits_a (h : Dl w B d n da db k c l dr) (hk : k < n) (ho : (d k).1 = o) : Calls Try.prog 17 #[.pointer (some ⟨da, 0, none⟩), .int .i64 o] w fun e w' => e = .returned (.int .i64 l.length) ∧ Below w.heap.size w w' := by
  obtain ⟨Pa, Pb, h1, h2, h3, h4, h5⟩ := h
  have := h1.waits hk ho
  rwa [h2] at this
theorem Dl.waits_b (h : Dl w B d n da db k c l dr) (hk : k < n) (ho : (d k).1 = o) : Calls Try.prog 17 #[.pointer (some ⟨db, 0, none⟩), .int .i64 o] w fun e w' => e = .returned (.int .i64 l.length) ∧ Below w.heap.size w w' := by
  obtain ⟨Pa, Pb, h1, h2, h3, h4, h5⟩ := h
  have := h1.swap.waits hk ho
  rwa [h3] at this
theorem Dl.drops_a (h : Dl w B d n da db k c l dr) (hk : k < n) (ho : (d k).1 = o) : Calls Try.prog 18 #[.pointer (some ⟨da, 0, none⟩), .int .i64 o] w fun e w' => e = .returned (.int .i64 dr) ∧ Below w.heap.size w w' := by
  obtain ⟨Pa, Pb, h1, h2, h3, h4, h5⟩ := h
  have := h1.drops hk ho
  rwa [h4] at this
theorem Dl.drops_b (h : Dl w B d n da db k c l dr) (hk : k < n) (ho : (d k).1 = o) : Calls Try.prog 18 #[.pointer (some ⟨db, 0, none⟩), .int .i64 o] w fun e w' => e = .returned (.int .i64 dr) ∧ Below w.heap.size w w' := by
  obtain ⟨Pa, Pb, h1, h2, h3, h4, h5⟩ := h
  have := h1.swap.drops hk ho
  rwa [h5] at this
theorem Dt.take_b {w0 : World} {f : Frm} (h : Dt w0 B d n da db k c l f) (hb : Below w0.heap.size w0 w) (hk : k < n) (ho : (d k).1 = o) (hl : l.length ≤ 1000) : Calls Try.prog 19 #[.pointer (some ⟨db, 0, none⟩), .int .i64 o] w fun e w' => e = .returned (.tuple #[frv f, .int .i64 0]) ∧ (∃ Pa Pb, Da w' B d n da db Pa Pb c c ∧ (Pa k).2.2.2.1 = l ∧ (Pb k).2.2.2.1 = l) ∧ Below B w w' ∧ Since w0 w w' := by
  obtain ⟨Pa, Pb, h1, h2, h3⟩ := h
  exact (h1.swap.take hb hk ho f l h3 hl).mono fun e w' ⟨e1, e2, e3, e4⟩ => ⟨e1, ⟨_, _, e2.swap, h2, by simp [takeP]⟩, e3, e4⟩
end
end
/-- .. and l waits, whatever was dropped. -/
def Dw (w : World) (B : Nat) (d : Nat → I3) (n da db k c : Nat) (l : List Frm) : Prop := ∃ Pa Pb, Da w B d n da db Pa Pb c c ∧ (Pa k).2.2.2.1 = l ∧ (Pb k).2.2.2.1 = l
theorem Dw.below {w w' : World} {B : Nat} {d : Nat → I3} {n da db k c : Nat} {l : List Frm} (h : Dw w B d n da db k c l) (hb : Below w.heap.size w w') : Dw w' B d n da db k c l := by
  obtain ⟨Pa, Pb, h1, h2⟩ := h
  exact ⟨Pa, Pb, h1.below hb, h2⟩
theorem Dw.take_a {w : World} {B : Nat} {d : Nat → I3} {n da db k c : Nat} {l : List Frm} {f : Frm} {o : Int} (h : Dw w B d n da db k c (f :: l)) (hk : k < n) (ho : (d k).1 = o) (hl : l.length ≤ 1000) : Calls Try.prog 19 #[.pointer (some ⟨da, 0, none⟩), .int .i64 o] w fun e w' => e = .returned (.tuple #[frv f, .int .i64 0]) ∧ Dt w' B d n da db k c l f ∧ Below B w w' := by
  obtain ⟨Pa, Pb, h1, h2, h3⟩ := h
  exact (h1.take (Below.refl _ _) hk ho f l h2 hl).mono fun e w' ⟨e1, e2, e3, _⟩ => ⟨e1, ⟨_, _, e2, by simp [takeP], h3⟩, e3⟩

set_option maxRecDepth 20000 in
set_option maxHeartbeats 6400000 in
theorem napart_on (A : Option Addr) (len cap n : Nat) (d : Nat → I3) (At : Option Addr) (lt ct : Nat) (T : Nat → ByteArray) (o : Int) (w : World) (hst : RowsN w A len cap d) (htx : TxtsN w At lt T) (hlc : len ≤ cap) (hcm : cap ≤ 9223372036854775807) (hn : n = min len 8)
    (hlt : lt ≤ 9223372036854775807) (hTs : ∀ i, i < lt → AnyT (T i)) (he : newE d n = 0) (k : Nat) (hk : k < n) (hko : ownI (frp d) n o = k) (ho : (d k).1 = o) :
    Calls Try.prog 4 #[.slice A len cap, .slice At lt ct, .int .i64 o] w (BackV w) := by
  have HP := Lib.hid (ports_any A len cap d w hst hlc hcm)
  rw [← hn] at HP
  have hn8 : n ≤ 8 := by omega
  have HST := Lib.hid (fun (W : World) (hb : Below w.heap.size w W) => (hst.cut n (by omega)).below hb)
  have HTX := Lib.hid (fun (W : World) (hb : Below w.heap.size w W) => htx.below hb)
  have HO1 := Lib.hid (fun (A2 : Option Addr) (c2 : Nat) (W : World) (h : PortsV W A2 n (frp d)) => rowner_any A2 n c2 (frp d) o W h (by omega))
  have HK := Lib.hid (fun (A2 : Option Addr) (c2 : Nat) (W : World) (h : PortsV W A2 n (frp d)) => show Calls Try.prog 9 #[.slice A2 n c2] W (fun e w' => e = .returned (.int .i64 (newE d n)) ∧ Below W.heap.size W w') from rcheck_any A2 n c2 d W h (by omega))
  have HF := Lib.hid (fun (A2 : Option Addr) (c2 : Nat) (s : ByteArray) (hs : s.size ≤ 100) (W : World) (h : PortsV W A2 n (frp d)) => rfor_any A2 n c2 (frp d) (fun i => (d i).2.1) s W (by omega) h (fun i hi => rfl) (by omega))
  have HL := Lib.hid (fun W => nlive_any W)
  have HN := Lib.hid (fun (W : World) (h : RowsN W A n cap d) => dv_new h (by omega) he)
  have HC := Lib.hid (fun (B da db c : Nat) (hc : c ≤ 1000) (W : World) (s : ByteArray) (hs : s.size ≤ 100) (h : Dk W B d n da db k c) => h.come s (by omega) hc)
  have HCB := Lib.hid (fun (B da db c : Nat) (hc : c ≤ 1000) (W : World) (s : ByteArray) (hs : s.size ≤ 100) (h : Dh W B d n da db k c s) => h.on (by omega) hc)
  have HLS := Lib.hid (fun (B da db c : Nat) (W : World) (h : Dk W B d n da db k c) => h.lists hk)
  have HWA := Lib.hid (fun (B da db c dr : Nat) (l : List Frm) (W : World) (h : Dl W B d n da db k c l dr) => h.waits_a hk ho)
  have HWB := Lib.hid (fun (B da db c dr : Nat) (l : List Frm) (W : World) (h : Dl W B d n da db k c l dr) => h.waits_b hk ho)
  have HDA := Lib.hid (fun (B da db c dr : Nat) (l : List Frm) (W : World) (h : Dl W B d n da db k c l dr) => h.drops_a hk ho)
  have HDB := Lib.hid (fun (B da db c dr : Nat) (l : List Frm) (W : World) (h : Dl W B d n da db k c l dr) => h.drops_b hk ho)
  have HTA := Lib.hid (fun (B da db c : Nat) (l : List Frm) (f : Frm) (hl : l.length ≤ 1000) (W : World) (h : Dw W B d n da db k c (f :: l)) => h.take_a hk ho hl)
  have HTB := Lib.hid (fun (B da db c : Nat) (l : List Frm) (f : Frm) (hl : l.length ≤ 1000) (W0 : World) (h : Dt W0 B d n da db k c l f) (W : World) (hb : Below W0.heap.size W0 W) => h.take_b hb hk ho hl)
  have HJ := Lib.hid (fun (s : ByteArray) => (show jZ (jfor (fun i => (d i).2.1) n s) = k ↔ jfor (fun i => (d i).2.1) n s = some k by
    cases jfor (fun i => (d i).2.1) n s with
    | none => simp [jZ]
    | some j => simp [jZ]; omega))
  rw [he] at HK
  rw [hko] at HO1
  have k2 : ¬ (k : Int) < 0 := by omega
  clear hst hn hn8 hlc hcm he hko hk ho htx hTs
  go_enter Try.func4, Try.ntmps4
  go_wp2_with (first
    | (go_at_call 7; have HH := HP.out; unfold PortsR at HH; refine HH.mono ?_; clear HH; rintro e w1 ⟨A2, c2, rfl, o1, b1⟩; have P1 := Lib.hid o1.ports; have B1 := Lib.hid b1; clear o1 b1)
    | (go_at_call 15; (with_reducible refine (HO1.out _ _ _ P1.out).mono ?_); rintro e w2 ⟨rfl, rfl⟩)
    | (go_at_call 9; (with_reducible refine (HK.out _ _ _ P1.out).mono ?_); rintro e w4 ⟨rfl, b4⟩; have B4 := Lib.hid (B1.out.trans (b4.mono B1.out.size)); have P4 := Lib.hid (P1.out.below b4); clear b4)
    | (go_at_call 8; have HH := HN.out _ (HST.out _ B5.out); refine HH.mono ?_; clear HH; rintro e w6 ⟨db, Ob, rfl, o6, n6, b6⟩; have D6 := Lib.hid (show Dk w6 w4.heap.size d n da db k 0 from ⟨_, _, Da.new OA5.out NA5.out o6 n6 b6, rfl⟩); have E6 := Lib.hid (E5.out.trans (b6.mono E5.out.size)); clear o6 n6 b6)
    | (go_at_call 8; have HH := HN.out _ (HST.out _ B4.out); refine HH.mono ?_; clear HH; rintro e w5 ⟨da, Oa, rfl, o5, n5, b5⟩; have OA5 := Lib.hid o5; have NA5 := Lib.hid n5; have E5 := Lib.hid b5; have B5 := Lib.hid (B4.out.trans (b5.mono B4.out.size)); clear o5 n5 b5))
  have PX := Lib.hid (fun (W : World) (hb : Below w4.heap.size w4 W) => P4.out.below hb)
  have TX := Lib.hid (HTX.out w4 B4.out)
  have BX := Lib.hid (fun (W : World) (hb : Below w4.heap.size w4 W) => B4.out.trans (hb.mono B4.out.size))
  clear HP HO1 HK HN HST HTX P1 P4 B1 B4 OA5 NA5 E5 B5
  go_loopw [13] (fun x wr => ∃ i : Nat, x = .int .i64 i ∧ i ≤ 30 ∧ i ≤ lt ∧ Hid (Dk wr w4.heap.size d n da db k i) ∧ Hid (Below w4.heap.size w4 wr)) (fun x _ => 30 - (intOf x).toNat)
  case atStart => exact ⟨0, rfl, by omega, by omega, D6, E6⟩
  case round =>
    obtain ⟨i, rfl, hi3, hil, HD, HB⟩ := hrel
    clear D6 E6
    by_cases hgo : i < lt ∧ i < 30
    · obtain ⟨h1, h2⟩ := hgo
      obtain ⟨tb, toff, rfl, htb, htc⟩ := TX.out (by omega)
      have HT := Lib.hid (fun (W : World) (hb : Below w4.heap.size w4 W) => (hb.cell (p := ⟨tb, toff + i, none⟩) htb).trans (htc i h1))
      clear htc htb
      have HJS := Lib.hid (HJ.out (T i))
      generalize T i = s at HT HJS
      have t0 := HT.out wr HB.out
      have i1 : (i : Int) < (lt : Int) := by omega
      have i2 : (i : Int) < 30 := by omega
      by_cases hs : s.size ≤ 100
      · have HFS := Lib.hid (fun (A2 : Option Addr) (c2 : Nat) (W : World) (h : PortsV W A2 n (frp d)) => HF.out A2 c2 s hs W h)
        have HCS := Lib.hid (fun (B da db : Nat) (W : World) (h : Dk W B d n da db k i) => HC.out B da db i (by omega) W s hs h)
        have HCBS := Lib.hid (fun (B da db : Nat) (W : World) (h : Dh W B d n da db k i s) => HCB.out B da db i (by omega) W s hs h)
        have hs' : (s.size : Int) ≤ 100 := by omega
        generalize hz : jZ (jfor (fun i => (d i).2.1) n s) = z at HFS HJS
        clear hz
        by_cases hj : jfor (fun i => (d i).2.1) n s = some k
        · obtain rfl : z = k := HJS.out.2 hj
          have HJJ := Lib.hid hj
          clear hj HJS
          go_wp2_with (first
            | (go_at_call 16; have HH := HCBS.out _ _ _ _ DH8.out HJJ.out; refine HH.mono ?_; clear HH; rintro e w9 ⟨x1, x2, rfl, d9, b9⟩; have D9 := Lib.hid d9; have E9 := Lib.hid (E8.out.trans b9); clear d9 b9)
            | (go_at_call 11; (with_reducible refine (HFS.out _ _ _ (PX.out _ E7.out)).mono ?_); rintro e w8 ⟨rfl, b8⟩; have DH8 := Lib.hid (DH7.out.below b8); have E8 := Lib.hid (E7.out.trans (b8.mono E7.out.size)); have t8 := HT.out w8 E8.out; clear b8)
            | (go_at_call 16; have HH := HCS.out _ _ _ _ HD.out; refine HH.mono ?_; clear HH; rintro e w7 ⟨x1, x2, rfl, d7, b7⟩; have DH7 := Lib.hid d7; have E7 := Lib.hid (HB.out.trans b7); have t7 := HT.out w7 E7.out; clear d7 b7))
          go_roundw
          case rel => exact ⟨i + 1, by go_num, by omega, by omega, D9, E9⟩
          case measure => simp [intOf] <;> omega
        · have hz' : (z == (k : Int)) = false := by simpa using fun e => hj (HJS.out.1 e)
          have HJJ := Lib.hid hj
          clear hj HJS
          go_wp2_with (first
            | (go_at_call 11; (with_reducible refine (HFS.out _ _ _ (PX.out _ E7.out)).mono ?_); rintro e w8 ⟨rfl, b8⟩; have D8 := Lib.hid ((DH7.out.below b8).off HJJ.out); have E8 := Lib.hid (E7.out.trans (b8.mono E7.out.size)); clear b8)
            | (go_at_call 16; have HH := HCS.out _ _ _ _ HD.out; refine HH.mono ?_; clear HH; rintro e w7 ⟨x1, x2, rfl, d7, b7⟩; have DH7 := Lib.hid d7; have E7 := Lib.hid (HB.out.trans b7); have t7 := HT.out w7 E7.out; clear d7 b7))
          go_roundw
          case rel => exact ⟨i + 1, by go_num, by omega, by omega, D8, E8⟩
          case measure => simp [intOf] <;> omega
      · have hs' : ¬ (s.size : Int) ≤ 100 := by omega
        go_wp2_with (go_at_call 10; (with_reducible refine (HL.out _).mono ?_); rintro e w7 ⟨rfl, b7⟩; have E7 := Lib.hid (BX.out _ (HB.out.trans (b7.mono HB.out.size))); clear b7)
        go_ret
        exact ⟨rfl, E7.out⟩
    · obtain ⟨l, dr, hl, d7⟩ := HLS.out _ _ _ _ _ HD.out
      have D7 := Lib.hid d7
      have hq30 : l.length ≤ 30 := by omega
      have HWA1 := Lib.hid (fun (da db dr : Nat) (W : World) (h : Dl W w4.heap.size d n da db k i l dr) => HWA.out _ _ _ _ _ _ W h)
      have HWB1 := Lib.hid (fun (da db dr : Nat) (W : World) (h : Dl W w4.heap.size d n da db k i l dr) => HWB.out _ _ _ _ _ _ W h)
      have HDA1 := Lib.hid (fun (da db dr : Nat) (W : World) (h : Dl W w4.heap.size d n da db k i l dr) => HDA.out _ _ _ _ _ _ W h)
      have HDB1 := Lib.hid (fun (da db dr : Nat) (W : World) (h : Dl W w4.heap.size d n da db k i l dr) => HDB.out _ _ _ _ _ _ W h)
      generalize hq : l.length = q at HWA1 HWB1 HDA1 HDB1 hq30
      have HQ := Lib.hid hq
      have hx : ¬ ((i : Int) < (lt : Int) ∧ (i : Int) < 30) := by omega
      clear hl d7 hq
      rcases (show ¬ ((i : Int) < (lt : Int)) ∨ ((i : Int) < (lt : Int) ∧ ¬ (i : Int) < 30) by omega) with hx | ⟨hx, hx2⟩
      all_goals
        go_wp2_with (first
          | (go_at_call 17; have HH := HWA1.out _ _ _ _ D11.out; refine HH.mono ?_; clear HH; rintro e w12 ⟨rfl, b12⟩; have D12 := Lib.hid (D11.out.below b12); have E12 := Lib.hid (E11.out.trans (b12.mono E11.out.size)); clear b12)
          | (go_at_call 18; have HH := HDB1.out _ _ _ _ D10.out; refine HH.mono ?_; clear HH; rintro e w11 ⟨rfl, b11⟩; have D11 := Lib.hid (D10.out.below b11); have E11 := Lib.hid (E10.out.trans (b11.mono E10.out.size)); clear b11)
          | (go_at_call 18; have HH := HDA1.out _ _ _ _ D9.out; refine HH.mono ?_; clear HH; rintro e w10 ⟨rfl, b10⟩; have D10 := Lib.hid (D9.out.below b10); have E10 := Lib.hid (E9.out.trans (b10.mono E9.out.size)); clear b10)
          | (go_at_call 17; have HH := HWB1.out _ _ _ _ D8.out; refine HH.mono ?_; clear HH; rintro e w9 ⟨rfl, b9⟩; have D9 := Lib.hid (D8.out.below b9); have E9 := Lib.hid (E8.out.trans (b9.mono E8.out.size)); clear b9)
          | (go_at_call 17; have HH := HWA1.out _ _ _ _ D7.out; refine HH.mono ?_; clear HH; rintro e w8 ⟨rfl, b8⟩; have D8 := Lib.hid (D7.out.below b8); have E8 := Lib.hid (HB.out.trans (b8.mono HB.out.size)); clear b8))
        have W12 := Lib.hid (show ∃ l, l.length = q ∧ Dw w12 w4.heap.size d n da db k i l from by obtain ⟨Pa, Pb, k1, k2, k3, _, _⟩ := D12.out; exact ⟨l, HQ.out, Pa, Pb, k1, k2, k3⟩)
        go_loopw [14] (fun x wr => ∃ q : Nat, x = .int .i64 q ∧ q ≤ 30 ∧ Hid (∃ l, l.length = q ∧ Dw wr w4.heap.size d n da db k i l) ∧ Hid (Below w4.heap.size w4 wr)) (fun x _ => (intOf x).toNat)
        case atStart => exact ⟨q, rfl, hq30, W12, E12⟩
        case round =>
          obtain ⟨r, rfl, hr, HW, HR⟩ := hrel
          clear W12 E12 D12 D11 D10 D9 D8 D7 E11 E10 E9 E8 HB HD HQ hq30
          by_cases hr0 : r = 0
          · subst hr0
            go_wp2_with (go_at_call 10; (with_reducible refine (HL.out _).mono ?_); rintro e w13 ⟨rfl, b13⟩; have E13 := Lib.hid (BX.out _ (HR.out.trans (b13.mono HR.out.size))); clear b13)
            go_ret
            exact ⟨rfl, E13.out⟩
          · obtain ⟨r', rfl⟩ : ∃ r', r = r' + 1 := ⟨r - 1, by omega⟩
            obtain ⟨l', hl', hd⟩ := HW.out
            obtain ⟨⟨f1, f2, f3⟩, l2, rfl⟩ : ∃ f l2, l' = f :: l2 := by
              cases l' with
              | nil => simp at hl'
              | cons f l2 => exact ⟨f, l2, rfl⟩
            have hl2 : l2.length = r' := by simpa using hl'
            have HL2 := Lib.hid hl2
            have HDD := Lib.hid hd
            have HTA2 := Lib.hid (fun (B da db : Nat) (W : World) (h : Dw W B d n da db k i ((f1, f2, f3) :: l2)) => HTA.out B da db i l2 (f1, f2, f3) (by omega) W h)
            have HTB2 := Lib.hid (fun (B da db : Nat) (W0 : World) (h : Dt W0 B d n da db k i l2 (f1, f2, f3)) (W : World) (hb : Below W0.heap.size W0 W) => HTB.out B da db i l2 (f1, f2, f3) (by omega) W0 h W hb)
            have hq := ne_frm f1 f2 f3
            clear hl' hd hl2 hr0
            go_wp2_with (first
              | (go_at_call 19; have HH := HTB2.out _ _ _ _ T13.out _ ((Below.refl _ _).alloc (Nat.le_refl _) (.cells #[.int .i64 f1, .int .i64 f2, .string f3] 46)); refine HH.mono ?_; clear HH; rintro e w14 ⟨rfl, d14, b14, s14⟩; have r14 : Blk w14 w13.heap.size 46 #[.int .i64 f1, .int .i64 f2, .string f3] := (s14 _ (Nat.le_refl _) (by simp)).trans R13.out; have y := r14.alloc (.cells #[.int .i64 f1, .int .i64 f2, .string f3] 46); have y0 := y.cell 0; have y1 := y.cell 1; have y2 := y.cell 2; have z := Blk.new w14 46 #[.int .i64 f1, .int .i64 f2, .string f3]; have z0 := z.cell 0; have z1 := z.cell 1; have z2 := z.cell 2; simp at y0 y1 y2 z0 z1 z2; have E14 := Lib.hid ((E13.out.trans b14).alloc (E13.out.trans b14).size (.cells #[.int .i64 f1, .int .i64 f2, .string f3] 46)); have W14 := Lib.hid (Dw.below d14 ((Below.refl _ _).alloc (Nat.le_refl _) (.cells #[.int .i64 f1, .int .i64 f2, .string f3] 46))); clear d14 b14 s14 r14 y z)
              | (go_at_call 19; have HH := HTA2.out _ _ _ _ HDD.out; refine HH.mono ?_; clear HH; rintro e w13 ⟨rfl, d13, b13⟩; have T13 := Lib.hid d13; have R13 := Lib.hid (Blk.new w13 46 #[.int .i64 f1, .int .i64 f2, .string f3]); have E13 := Lib.hid ((HR.out.trans b13).alloc (HR.out.trans b13).size (.cells #[.int .i64 f1, .int .i64 f2, .string f3] 46)); clear d13 b13))
            go_roundw
            case rel => exact ⟨r', by go_num, by omega, Lib.hid ⟨l2, HL2.out, W14.out⟩, E14⟩
            case measure => simp [intOf] <;> omega

theorem napart_call (A : Option Addr) (len cap : Nat) (d : Nat → I3) (At : Option Addr) (lt ct : Nat) (T : Nat → ByteArray) (o : Int) (w : World) (hst : RowsN w A len cap d) (hf : ∀ i, i < len → FitN (d i)) (hlc : len ≤ cap) (hcm : cap ≤ 9223372036854775807)
    (htx : TxtsN w At lt T) (hTs : ∀ i, i < lt → AnyT (T i)) (hlt : lt ≤ ct) (hct : ct ≤ 9223372036854775807) (hfo : fitI o) :
    Calls Try.prog 4 #[.slice A len cap, .slice At lt ct, .int .i64 o] w fun e w' => e = .returned (.bool true) ∧ Below w.heap.size w w' := by
  show Calls Try.prog 4 #[.slice A len cap, .slice At lt ct, .int .i64 o] w (BackV w)
  obtain ⟨n, hn⟩ : ∃ n, n = min len 8 := ⟨_, rfl⟩
  by_cases he : newE d n = 0
  · rcases ownI_cases (frp d) n o with ⟨k, hk, hko, ho⟩ | hko
    · exact napart_on A len cap n d At lt ct T o w hst htx hlc hcm hn (by omega) hTs he k hk hko ho
    · exact napart_off A len cap n d At lt ct o w hst hlc hcm hn (.inr ⟨he, by omega⟩)
  · exact napart_off A len cap n d At lt ct o w hst hlc hcm hn (.inl he)
end Go.Proofs.Ytjhihccjhnlghaa
