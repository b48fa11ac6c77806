import Derived.Test.YthhodadfiipffaaDoorZ03
import Derived.Test.YthhodadfiipffaaDoorZ02
set_option linter.all false
/- The reader of package bits at a text of any length: bytes and numbers, whether or not they are there. Written by hand after IM13. -/
namespace Go.Proofs.YthhodadfiipffaaDoor
open Go.RowKit Go.Lib
set_option linter.unusedVariables false

/-- The byte at a place, or 0; the number of two bytes there, or 0. -/
def gb (t : ByteArray) (i : Nat) : Nat := if h : i < t.size then t[i].toNat else 0
def gw (t : ByteArray) (i : Nat) : Nat := if i + 2 ≤ t.size then gb t i + 256 * gb t (i + 1) else 0
theorem gb_of {t : ByteArray} {i : Nat} (h : i < t.size) : gb t i = t[i].toNat := by simp [gb, h]
theorem gb_off {t : ByteArray} {i : Nat} (h : t.size ≤ i) : gb t i = 0 := by
  unfold gb
  rw [dif_neg (by omega)]
theorem gb_lt (t : ByteArray) (i : Nat) : gb t i < 256 := by
  unfold gb
  split
  · exact UInt8.toNat_lt _
  · omega
theorem gw_lt (t : ByteArray) (i : Nat) : gw t i < 65536 := by
  have := gb_lt t i
  have := gb_lt t (i + 1)
  unfold gw
  split <;> omega
/-- A reader that was asked for so many bytes. -/
def RdK (w : World) (b : Nat) (t : ByteArray) (k : Nat) : Prop := (k ≤ t.size ∧ Rd w b t k 0) ∨ (t.size < k ∧ ∃ p, p ≤ t.size ∧ Rd w b t p 5)
theorem RdK.lt {w : World} {b k : Nat} {t : ByteArray} (h : RdK w b t k) : b < w.heap.size := by
  rcases h with ⟨_, h⟩ | ⟨_, p, _, h⟩
  · exact Blk.lt h
  · exact Blk.lt h
theorem RdK.only {w w' : World} {b k : Nat} {t : ByteArray} {row : Option Nat} (h : RdK w b t k) (g : w.grownBy w' row) (hr : row ≠ some b) : RdK w' b t k := by
  rcases h with ⟨h1, h⟩ | ⟨h1, p, h2, h⟩
  · exact .inl ⟨h1, Blk.only h g (fun e => hr e.symm)⟩
  · exact .inr ⟨h1, p, h2, Blk.only h g (fun e => hr e.symm)⟩
theorem RdK.put {w : World} {b k : Nat} {t : ByteArray} (h : RdK w b t k) {p : Addr} (hp : b ≠ p.block) (v : Value) : RdK (w.setCell p v) b t k := by
  rcases h with ⟨h1, h⟩ | ⟨h1, q, h2, h⟩
  · exact .inl ⟨h1, Blk.far h hp v⟩
  · exact .inr ⟨h1, q, h2, Blk.far h hp v⟩
theorem only_putc {w w' : World} {row : Option Nat} (g : w.grownBy w' row) {p : Addr} (hp : w.heap.size ≤ p.block) (v : Value) : w.grownBy (w'.setCell p v) row :=
  ⟨g.os, g.tape, g.output, by simpa using g.size, fun k hk hn => (Below.heap_setCell w' p v k (by rintro rfl; omega)).trans (g.block k hk hn)⟩
theorem rbyte_at {w : World} {b k : Nat} {t : ByteArray} (h : RdK w b t k) (hs : t.size ≤ 9223372036854775807) : Calls Tryd.prog 69 #[.pointer (some ⟨b, 0, none⟩)] w fun r w' => r = .returned (.int .i64 (gb t k)) ∧ RdK w' b t (k + 1) ∧ w.grownBy w' (some b) := by
  rcases h with ⟨h1, h⟩ | ⟨h1, p, h2, h⟩
  · by_cases hk : k < t.size
    · have hx : rdText t k 0 1 = (t.extract k (k + 1), k + 1, 0) := by
        rw [rdText, if_neg (by omega), if_neg (by omega), if_neg (by omega)]
        rfl
      have := byte_any b t k 0 w h (by omega) (by omega)
      rw [hx] at this
      refine this.mono fun e w' ⟨q1, q2, q3⟩ => ⟨?_, .inl ⟨by omega, q2⟩, q3⟩
      rw [q1]
      have hl : 0 < (t.extract k (k + 1)).size := by simp; omega
      rw [byteOf, dif_pos hl, gb_of hk]
      simp [ByteArray.getElem_extract]
    · have hx : rdText t k 0 1 = (.empty, k, 5) := by
        rw [rdText, if_neg (by omega), if_neg (by omega), if_pos (by omega)]
      have := byte_any b t k 0 w h (by omega) (by omega)
      rw [hx] at this
      refine this.mono fun e w' ⟨q1, q2, q3⟩ => ⟨?_, .inr ⟨by omega, k, h1, q2⟩, q3⟩
      rw [q1, gb_off (by omega)]
      rfl
  · have hx : rdText t p 5 1 = (.empty, p, 5) := by
      rw [rdText, if_pos (by omega)]
    have := byte_any b t p 5 w h (by omega) (by omega)
    rw [hx] at this
    refine this.mono fun e w' ⟨q1, q2, q3⟩ => ⟨?_, .inr ⟨by omega, p, h2, q2⟩, q3⟩
    rw [q1, gb_off (by omega)]
    rfl
theorem rtwo_at {w : World} {b k : Nat} {t : ByteArray} (h : RdK w b t k) (hs : t.size ≤ 9223372036854775807) : Calls Tryd.prog 70 #[.pointer (some ⟨b, 0, none⟩)] w fun r w' => r = .returned (.int .i64 (gw t k)) ∧ RdK w' b t (k + 2) ∧ w.grownBy w' (some b) := by
  rcases h with ⟨h1, h⟩ | ⟨h1, p, h2, h⟩
  · by_cases hk : k + 2 ≤ t.size
    · have hx : rdText t k 0 2 = (t.extract k (k + 2), k + 2, 0) := by
        rw [rdText, if_neg (by omega), if_neg (by omega), if_neg (by omega)]
        rfl
      have := rdtwo_any b t k 0 w h (by omega) (by omega)
      rw [hx] at this
      refine this.mono fun e w' ⟨q1, q2, q3⟩ => ⟨?_, .inl ⟨by omega, q2⟩, q3⟩
      rw [q1]
      have hl : 1 < (t.extract k (k + 2)).size := by simp; omega
      rw [twoOf, dif_pos hl, gw, if_pos hk, gb_of (show k < t.size by omega), gb_of (show k + 1 < t.size by omega)]
      simp [ByteArray.getElem_extract]
    · have hx : rdText t k 0 2 = (.empty, k, 5) := by
        rw [rdText, if_neg (by omega), if_neg (by omega), if_pos (by omega)]
      have := rdtwo_any b t k 0 w h (by omega) (by omega)
      rw [hx] at this
      refine this.mono fun e w' ⟨q1, q2, q3⟩ => ⟨?_, .inr ⟨by omega, k, h1, q2⟩, q3⟩
      rw [q1, gw, if_neg hk]
      rfl
  · have hx : rdText t p 5 2 = (.empty, p, 5) := by
      rw [rdText, if_pos (by omega)]
    have := rdtwo_any b t p 5 w h (by omega) (by omega)
    rw [hx] at this
    refine this.mono fun e w' ⟨q1, q2, q3⟩ => ⟨?_, .inr ⟨by omega, p, h2, q2⟩, q3⟩
    rw [q1, gw, if_neg (by omega)]
    rfl
theorem only_drop {w0 W W' : World} {g : Nat} (h : w0.grownBy W none) (k : W.grownBy W' (some g)) (hg : w0.heap.size ≤ g) : w0.grownBy W' none :=
  ⟨k.os.trans h.os, k.tape.trans h.tape, k.output.trans h.output, Nat.le_trans h.size k.size, fun i hi hn => (k.block i (Nat.lt_of_lt_of_le hi h.size) (fun e => by injection e with e; omega)).trans (h.block i hi hn)⟩
/-- What is kept between two calls on the reader: it, the result's box, what lay there. -/
def KdI (w0 W : World) (g : Nat) (t : ByteArray) (k : Nat) : Prop := RdK W g t k ∧ Blk W w0.heap.size 104 #[.int .u8 0, .int .i64 0, .int .i64 0] ∧ w0.grownBy W none ∧ w0.heap.size < g
theorem KdI.step {w0 W W' : World} {g : Nat} {t : ByteArray} {k k' : Nat} (h : KdI w0 W g t k) (q : RdK W' g t k') (b : W.grownBy W' (some g)) : KdI w0 W' g t k' :=
  ⟨q, h.2.1.only b (fun e => by injection e with e; have := h.2.2.2; omega), only_drop h.2.2.1 b (Nat.le_of_lt h.2.2.2), h.2.2.2⟩
theorem KdI.grown {w0 W W' : World} {g : Nat} {t : ByteArray} {k : Nat} (h : KdI w0 W g t k) (b : W.grownBy W' none) : KdI w0 W' g t k :=
  ⟨h.1.only b (by simp), h.2.1.only b (by simp), only_trans h.2.2.1 b, h.2.2.2⟩
theorem kdi_byte {w0 W : World} {g : Nat} {t : ByteArray} {k : Nat} (h : KdI w0 W g t k) (hs : t.size ≤ 9223372036854775807) : Calls Tryd.prog 69 #[.pointer (some ⟨g, 0, none⟩)] W fun r w' => r = .returned (.int .i64 (gb t k)) ∧ KdI w0 w' g t (k + 1) :=
  (rbyte_at h.1 hs).mono fun _ _ ⟨e, q, b⟩ => ⟨e, h.step q b⟩
theorem kdi_two {w0 W : World} {g : Nat} {t : ByteArray} {k : Nat} (h : KdI w0 W g t k) (hs : t.size ≤ 9223372036854775807) : Calls Tryd.prog 70 #[.pointer (some ⟨g, 0, none⟩)] W fun r w' => r = .returned (.int .i64 (gw t k)) ∧ KdI w0 w' g t (k + 2) :=
  (rtwo_at h.1 hs).mono fun _ _ ⟨e, q, b⟩ => ⟨e, h.step q b⟩
theorem kdi_err {w0 W : World} {g : Nat} {t : ByteArray} {k : Nat} (h : KdI w0 W g t k) : Calls Tryd.prog 71 #[.pointer (some ⟨g, 0, none⟩)] W fun r w' => r = .returned (.int .i64 (if k ≤ t.size then 0 else 5)) ∧ W = w' := by
  rcases h.1 with ⟨h1, h⟩ | ⟨h1, p, h2, h⟩
  · rw [if_pos h1]
    exact err_any g t k 0 W h
  · rw [if_neg (by omega)]
    exact err_any g t p 5 W h
theorem kdi_new (w : World) (t : ByteArray) : KdI w ((w.alloc (.cells #[.int .u8 0, .int .i64 0, .int .i64 0] 104)).alloc (.cells #[.int .i64 0, .string t, .int .i64 0] 136)) (w.heap.size + 1) t 0 :=
  ⟨.inl ⟨Nat.zero_le _, by have := Blk.new (w.alloc (.cells #[.int .u8 0, .int .i64 0, .int .i64 0] 104)) 136 #[.int .i64 0, .string t, .int .i64 0]; simpa [Rd] using this⟩, (Blk.new _ _ _).alloc _, only_alloc (only_alloc (only_refl _ _) _) _, Nat.lt_succ_self _⟩
/-- What Get answers. -/
def getV (t : ByteArray) : Value := if t.size < 4 then .tuple #[.agg #[.int .u8 0, .int .i64 0, .int .i64 0], .int .i64 5] else if mayI (gb t 0) (gb t 1) (gw t 2) = true then .tuple #[.agg #[.int .u8 (gb t 0), .int .i64 (gb t 1), .int .i64 (gw t 2)], .int .i64 0] else .tuple #[.agg #[.int .u8 0, .int .i64 0, .int .i64 0], .int .i64 12]
theorem in3f {W : World} {g : Nat} {t : TypeId} {a b c : Value} (h : Blk W g t #[a, b, c]) : W.cell? ⟨g, 0, none⟩ = some a ∧ W.cell? ⟨g, 1, none⟩ = some b ∧ W.cell? ⟨g, 2, none⟩ = some c ∧ W.frozen? ⟨g, 0, none⟩ = false ∧ W.frozen? ⟨g, 1, none⟩ = false ∧ W.frozen? ⟨g, 2, none⟩ = false := ⟨h.cell 0, h.cell 1, h.cell 2, h.free 0, h.free 1, h.free 2⟩
theorem put3 {w W : World} {t : TypeId} {a b c a' b' c' : Value} (h : Blk W w.heap.size t #[a, b, c]) (g : w.grownBy W none) : ∀ W', W' = ((W.setCell ⟨w.heap.size, 0, none⟩ a').setCell ⟨w.heap.size, 1, none⟩ b').setCell ⟨w.heap.size, 2, none⟩ c' → (W'.cell? ⟨w.heap.size, 0, none⟩ = some a' ∧ W'.cell? ⟨w.heap.size, 1, none⟩ = some b' ∧ W'.cell? ⟨w.heap.size, 2, none⟩ = some c') ∧ w.grownBy W' none := by
  rintro W' rfl
  have bf := ((h.put 0 a').put 1 b').put 2 c'
  exact ⟨⟨bf.cell 0, bf.cell 1, bf.cell 2⟩, only_putc (only_putc (only_putc g (p := ⟨w.heap.size, 0, none⟩) (Nat.le_refl _) _) (p := ⟨w.heap.size, 1, none⟩) (Nat.le_refl _) _) (p := ⟨w.heap.size, 2, none⟩) (Nat.le_refl _) _⟩
end Go.Proofs.YthhodadfiipffaaDoor

/- Package code: Get, by its contract. -/
namespace Go.Proofs.YthhodadfiipffaaDoor
open Go.RowKit Go.Lib
set_option linter.unusedVariables false

set_option maxHeartbeats 1600000 in
theorem get_any (t : ByteArray) (hs : t.size ≤ 9223372036854775807) (w : World) (hG : Nm w) : Calls Tryd.prog 60 #[.string t] w fun e w' => e = .returned (getV t) ∧ w.grownBy w' none := by
  obtain ⟨W1, hW, g1, hB⟩ := ibox w 104 #[.int .u8 0, .int .i64 0, .int .i64 0]
  have hz : W1.heap.size = w.heap.size + 1 := by rw [hW]; simp
  have P0 := Lib.hid (show KdI w (W1.alloc (.cells #[.int .i64 0, .string t, .int .i64 0] 136)) (w.heap.size + 1) t 0 from by rw [hW]; exact kdi_new w t)
  have HNEW := Lib.hid (show Calls Tryd.prog 68 #[.string t] W1 (fun e w' => e = .returned (.pointer (some ⟨w.heap.size + 1, 0, none⟩)) ∧ KdI w w' (w.heap.size + 1) t 0) from (new_any t W1).mono fun e w' ⟨h1, h2⟩ => ⟨by rw [h1, hz], by subst h2; exact P0.out⟩)
  have HB0 := gb_lt t 0
  have HX0 := gb_lt t 1
  have HM := Lib.hid (fun W (h : KdI w W (w.heap.size + 1) t 4) => may_any (gb t 0) (gb t 1) (gw t 2) HB0 W (hG.grown h.2.2.1 (by simp)))
  have HN := Lib.hid (fun W (g : w.grownBy W none) => hG.grown g (by simp))
  have HS := Lib.hid hs
  have hmod : (gb t 0 : Int) % 256 = (gb t 0 : Int) := by omega
  have hw : IntKind.u8.wrap (gb t 0 : Int) = (gb t 0 : Int) := by rw [IntKind.wrap_u8]; omega
  obtain ⟨p, hp⟩ : ∃ p, p = w.heap.size := ⟨_, rfl⟩
  by_cases h4 : t.size < 4
  · have HV := Lib.hid (show getV t = .tuple #[.agg #[.int .u8 0, .int .i64 0, .int .i64 0], .int .i64 5] from by unfold getV; rw [if_pos h4])
    have HE := Lib.hid (fun W (h : KdI w W (w.heap.size + 1) t 4) => (show Calls Tryd.prog 71 #[.pointer (some ⟨w.heap.size + 1, 0, none⟩)] W (fun r w' => r = .returned (.int .i64 5) ∧ W = w') from by have := kdi_err h; rw [if_neg (by omega)] at this; exact this))
    rw [HV.out]
    clear hB g1 hG hs hz h4 P0 HM HV hp
    go_enter Tryd.func60, Tryd.ntmps60
    go_upto_region 1 with (fail)
    rw [← hW]
    clear hW
    go_upto_region 3 with (first
      | (go_at_call 68; (with_reducible refine HNEW.out.mono ?_); rintro e w2 ⟨rfl, q0⟩; have Q0 := Lib.hid q0; clear q0)
      | (go_at_call 69; (with_reducible refine (kdi_byte Q0.out HS.out).mono ?_); rintro e w3 ⟨rfl, q1⟩; have Q1 := Lib.hid q1; clear q1)
      | (go_at_call 69; (with_reducible refine (kdi_byte Q1.out HS.out).mono ?_); rintro e w4 ⟨rfl, q2⟩; have Q2 := Lib.hid q2; clear q2)
      | (go_at_call 70; (with_reducible refine (kdi_two Q2.out HS.out).mono ?_); rintro e w5 ⟨rfl, q3⟩; have Q3 := Lib.hid q3; clear q3))
    obtain ⟨w6, hw6⟩ : ∃ w6, w6 = w5.alloc (.cells #[.int .u8 (gb t 0), .int .i64 (gb t 1), .int .i64 (gw t 2)] 104) := ⟨_, rfl⟩
    have g6 : w5.grownBy w6 none := by rw [hw6]; exact only_alloc (only_refl _ _) _
    have BI := Lib.hid (show Blk w6 w5.heap.size 104 #[.int .u8 (gb t 0), .int .i64 (gb t 1), .int .i64 (gw t 2)] from by rw [hw6]; exact Blk.new _ _ _)
    have Q4 := Lib.hid (Q3.out.grown g6)
    have nlt := Lib.hid (show w.heap.size < w5.heap.size from Q3.out.2.1.lt)
    rw [← hw6]
    clear hw6 g6
    obtain ⟨i0, i1, i2⟩ := in3 BI.out
    obtain ⟨z0, z1, z2, f0, f1, f2⟩ := in3f Q4.out.2.1
    have n1 : ¬ w.heap.size = w5.heap.size := by have := nlt.out; omega
    have n2 : ¬ w5.heap.size = w.heap.size := by have := nlt.out; omega
    go_wp2_with (go_at_call 71; (with_reducible refine (HE.out _ Q4.out).mono ?_); rintro e w7 ⟨rfl, rfl⟩)
    obtain ⟨⟨r0, r1, r2⟩, G9⟩ := put3 (a' := .int .u8 0) (b' := .int .i64 0) (c' := .int .i64 0) Q4.out.2.1 Q4.out.2.2.1 _ rfl
    refine bodyPost_ret (v := .tuple #[.agg #[.int .u8 0, .int .i64 0, .int .i64 0], .int .i64 5]) (by simp [results, Tryd.results60, go_sem, r0, r1, r2]) rfl ⟨rfl, G9⟩
  · have HE := Lib.hid (fun W (h : KdI w W (w.heap.size + 1) t 4) => (show Calls Tryd.prog 71 #[.pointer (some ⟨w.heap.size + 1, 0, none⟩)] W (fun r w' => r = .returned (.int .i64 0) ∧ W = w') from by have := kdi_err h; rw [if_pos (by omega)] at this; exact this))
    cases hm : mayI (gb t 0) (gb t 1) (gw t 2)
    · have HV := Lib.hid (show getV t = .tuple #[.agg #[.int .u8 0, .int .i64 0, .int .i64 0], .int .i64 12] from by unfold getV; rw [if_neg h4, if_neg (by rw [hm]; decide)])
      rw [hm] at HM
      rw [HV.out]
      clear hB g1 hG hs hz h4 P0 HV hp hm
      go_enter Tryd.func60, Tryd.ntmps60
      go_upto_region 1 with (fail)
      rw [← hW]
      clear hW
      go_upto_region 3 with (first
        | (go_at_call 68; (with_reducible refine HNEW.out.mono ?_); rintro e w2 ⟨rfl, q0⟩; have Q0 := Lib.hid q0; clear q0)
        | (go_at_call 69; (with_reducible refine (kdi_byte Q0.out HS.out).mono ?_); rintro e w3 ⟨rfl, q1⟩; have Q1 := Lib.hid q1; clear q1)
        | (go_at_call 69; (with_reducible refine (kdi_byte Q1.out HS.out).mono ?_); rintro e w4 ⟨rfl, q2⟩; have Q2 := Lib.hid q2; clear q2)
        | (go_at_call 70; (with_reducible refine (kdi_two Q2.out HS.out).mono ?_); rintro e w5 ⟨rfl, q3⟩; have Q3 := Lib.hid q3; clear q3))
      obtain ⟨w6, hw6⟩ : ∃ w6, w6 = w5.alloc (.cells #[.int .u8 (gb t 0), .int .i64 (gb t 1), .int .i64 (gw t 2)] 104) := ⟨_, rfl⟩
      have g6 : w5.grownBy w6 none := by rw [hw6]; exact only_alloc (only_refl _ _) _
      have BI := Lib.hid (show Blk w6 w5.heap.size 104 #[.int .u8 (gb t 0), .int .i64 (gb t 1), .int .i64 (gw t 2)] from by rw [hw6]; exact Blk.new _ _ _)
      have Q4 := Lib.hid (Q3.out.grown g6)
      have nlt := Lib.hid (show w.heap.size < w5.heap.size from Q3.out.2.1.lt)
      rw [← hw6]
      clear hw6 g6
      obtain ⟨i0, i1, i2⟩ := in3 BI.out
      obtain ⟨z0, z1, z2, f0, f1, f2⟩ := in3f Q4.out.2.1
      have n1 : ¬ w.heap.size = w5.heap.size := by have := nlt.out; omega
      have n2 : ¬ w5.heap.size = w.heap.size := by have := nlt.out; omega
      go_wp2_with (first
        | (go_at_call 71; (with_reducible refine (HE.out _ Q4.out).mono ?_); rintro e w7 ⟨rfl, rfl⟩)
        | (go_at_call 72; (with_reducible refine (HM.out _ Q4.out).mono ?_); rintro e w8 ⟨rfl, g8⟩; have Q8 := Lib.hid (Q4.out.grown g8); clear z0 z1 z2 f0 f1 f2 g8; obtain ⟨z0, z1, z2, f0, f1, f2⟩ := in3f Q8.out.2.1))
      obtain ⟨⟨r0, r1, r2⟩, G9⟩ := put3 (a' := .int .u8 0) (b' := .int .i64 0) (c' := .int .i64 0) Q8.out.2.1 Q8.out.2.2.1 _ rfl
      refine bodyPost_ret (v := .tuple #[.agg #[.int .u8 0, .int .i64 0, .int .i64 0], .int .i64 12]) (by simp [results, Tryd.results60, go_sem, r0, r1, r2]) rfl ⟨rfl, G9⟩
    · have HV := Lib.hid (show getV t = .tuple #[.agg #[.int .u8 (gb t 0), .int .i64 (gb t 1), .int .i64 (gw t 2)], .int .i64 0] from by unfold getV; rw [if_neg h4, if_pos hm])
      rw [hm] at HM
      rw [HV.out]
      clear hB g1 hG hs hz h4 P0 HV hp hm
      go_enter Tryd.func60, Tryd.ntmps60
      go_upto_region 1 with (fail)
      rw [← hW]
      clear hW
      go_upto_region 3 with (first
        | (go_at_call 68; (with_reducible refine HNEW.out.mono ?_); rintro e w2 ⟨rfl, q0⟩; have Q0 := Lib.hid q0; clear q0)
        | (go_at_call 69; (with_reducible refine (kdi_byte Q0.out HS.out).mono ?_); rintro e w3 ⟨rfl, q1⟩; have Q1 := Lib.hid q1; clear q1)
        | (go_at_call 69; (with_reducible refine (kdi_byte Q1.out HS.out).mono ?_); rintro e w4 ⟨rfl, q2⟩; have Q2 := Lib.hid q2; clear q2)
        | (go_at_call 70; (with_reducible refine (kdi_two Q2.out HS.out).mono ?_); rintro e w5 ⟨rfl, q3⟩; have Q3 := Lib.hid q3; clear q3))
      obtain ⟨w6, hw6⟩ : ∃ w6, w6 = w5.alloc (.cells #[.int .u8 (gb t 0), .int .i64 (gb t 1), .int .i64 (gw t 2)] 104) := ⟨_, rfl⟩
      have g6 : w5.grownBy w6 none := by rw [hw6]; exact only_alloc (only_refl _ _) _
      have BI := Lib.hid (show Blk w6 w5.heap.size 104 #[.int .u8 (gb t 0), .int .i64 (gb t 1), .int .i64 (gw t 2)] from by rw [hw6]; exact Blk.new _ _ _)
      have Q4 := Lib.hid (Q3.out.grown g6)
      have nlt := Lib.hid (show w.heap.size < w5.heap.size from Q3.out.2.1.lt)
      rw [← hw6]
      clear hw6 g6
      obtain ⟨i0, i1, i2⟩ := in3 BI.out
      obtain ⟨z0, z1, z2, f0, f1, f2⟩ := in3f Q4.out.2.1
      have n1 : ¬ w.heap.size = w5.heap.size := by have := nlt.out; omega
      have n2 : ¬ w5.heap.size = w.heap.size := by have := nlt.out; omega
      go_wp2_with (first
        | (go_at_call 71; (with_reducible refine (HE.out _ Q4.out).mono ?_); rintro e w7 ⟨rfl, rfl⟩)
        | (go_at_call 72; (with_reducible refine (HM.out _ Q4.out).mono ?_); rintro e w8 ⟨rfl, g8⟩; have Q8 := Lib.hid (Q4.out.grown g8); have BJ := Lib.hid (BI.out.only g8 (by simp)); clear z0 z1 z2 f0 f1 f2 i0 i1 i2 g8; obtain ⟨z0, z1, z2, f0, f1, f2⟩ := in3f Q8.out.2.1; obtain ⟨i0, i1, i2⟩ := in3 BJ.out))
      obtain ⟨⟨r0, r1, r2⟩, G9⟩ := put3 (a' := .int .u8 (gb t 0)) (b' := .int .i64 (gb t 1)) (c' := .int .i64 (gw t 2)) Q8.out.2.1 Q8.out.2.2.1 _ rfl
      refine bodyPost_ret (v := .tuple #[.agg #[.int .u8 (gb t 0), .int .i64 (gb t 1), .int .i64 (gw t 2)], .int .i64 0]) (by simp [results, Tryd.results60, go_sem, r0, r1, r2]) rfl ⟨rfl, G9⟩
end Go.Proofs.YthhodadfiipffaaDoor

/- Package cpu: what stands in a view, by contract. -/
namespace Go.Proofs.YthhodadfiipffaaDoor
open Go.RowKit Go.Lib
set_option linter.unusedVariables false
set_option maxRecDepth 8000

/-- A view, a state, what a step did, as1 values. -/
def Cu.vw (m : Nat) (base size : Int) : Value := .agg #[.pointer (some ⟨m, 0, none⟩), .int .i64 base, .int .i64 size]
def Cu.regs (r : Nat → Int) : Array Value := #[.int .i64 (r 0), .int .i64 (r 1), .int .i64 (r 2), .int .i64 (r 3), .int .i64 (r 4), .int .i64 (r 5), .int .i64 (r 6), .int .i64 (r 7)]
def Cu.stC (pc : Int) (r : Nat → Int) (md : Int) : Array Value := #[.int .i64 pc, .int .i64 (r 0), .int .i64 (r 1), .int .i64 (r 2), .int .i64 (r 3), .int .i64 (r 4), .int .i64 (r 5), .int .i64 (r 6), .int .i64 (r 7), .int .i64 md]
def Cu.stV (pc : Int) (r : Nat → Int) (md : Int) : Value := .agg (Cu.stC pc r md)
def Cu.outV (what n x err : Int) : Value := .agg #[.int .i64 what, .int .i64 n, .int .i64 x, .int .i64 err]
/-- Where a view stands. -/
def Cu.In (l : List UInt8) (base size : Nat) : Prop := base + size ≤ l.length ∧ l.length ≤ 16384

theorem Cu.two_any (n : Int) (w : World) : Calls Tryd.prog 43 #[.int .i64 n] w fun e w' => e = .returned (.int .i64 (n % 65536)) ∧ w = w' := by
  have HE := Lib.hid (show n % 256 % 256 + 256 * (n / 256 % 256 % 256) = n % 65536 from by omega)
  go_enter Tryd.func43, Tryd.ntmps43
  go_wp2_with (first
    | (go_at_call 57; refine (low_any _ _).mono ?_; rintro e w' ⟨rfl, rfl⟩)
    | (go_at_call 58; refine (high_any _ _).mono ?_; rintro e w' ⟨rfl, rfl⟩)
    | (go_at_call 56; refine (Go.Proofs.YthhodadfiipffaaDoor.two_any _ _ _).mono ?_; rintro e w' ⟨rfl, rfl⟩))
  go_ret
  refine ⟨?_, rfl⟩
  have h := HE.out
  simp only [show n % 65536 = n % 256 + 256 * (n / 256 % 256) from by omega]
  rfl
set_option maxHeartbeats 1600000 in
theorem Cu.there_any (w : World) (B m : Nat) (l : List UInt8) (base size : Nat) (h : MemV w B m l) (hI : Cu.In l base size) : Calls Tryd.prog 67 #[Cu.vw m base size] w fun e w' => e = .returned (.int .i64 size) ∧ w.grownBy w' none := by
  obtain ⟨W1, hW, g1, hB⟩ := ibox w 31 #[.pointer (some ⟨m, 0, none⟩), .int .i64 base, .int .i64 size]
  have HG := Lib.hid g1
  obtain ⟨c0, c1, c2⟩ := in3 hB
  obtain ⟨n, hn⟩ : ∃ n, n = l.length := ⟨_, rfl⟩
  have HF := Lib.hid (show (size : Int) ≤ (n : Int) - (base : Int) ∧ n ≤ 16384 from by have := hI.1; have := hI.2; omega)
  have b0 : ¬ (base : Int) < 0 := by omega
  have s0 : ¬ (size : Int) < 0 := by omega
  have HS1 := Lib.hid (show ∀ q, Calls Tryd.prog 34 #[.pointer (some ⟨m, 0, none⟩)] (W1.drewN q) (fun r w' => r = .returned (.int .i64 n) ∧ W1.drewN q = w') from fun q => by rw [hn]; exact size_any (W1.drewN q) B m l (show MemV W1 B m l from h.below (below_of_only g1 (Nat.le_refl _) (fun k hk => by cases hk))))
  have f1 : (size : Int) ≤ (n : Int) - (base : Int) := HF.out.1
  have f2 : ¬ (n : Int) - (base : Int) < (size : Int) := by omega
  have f3 : (base : Int) ≤ n := by omega
  have f4 : n ≤ 16384 := HF.out.2
  have wr : IntKind.i64.wrap ((n : Int) - (base : Int)) = (n : Int) - (base : Int) := by rw [IntKind.wrap_i64]; omega
  clear h hI g1 hB hn
  unfold Cu.vw
  go_enter Tryd.func67, Tryd.ntmps67
  go_upto_region 1 with (fail)
  rw [← hW]
  clear hW
  go_upto_region 3 with (fail)
  go_quiet ((go_at_call 34; exact quiet_same (HS1.out _)))
  go_wp2
  go_ret
  exact ⟨rfl, only_drewN HG.out _⟩
end Go.Proofs.YthhodadfiipffaaDoor

/- Package cpu: places, reads and writes, by contract. -/
namespace Go.Proofs.YthhodadfiipffaaDoor
open Go.RowKit Go.Lib
set_option linter.unusedVariables false
set_option maxRecDepth 8000

theorem MemV.grown {w w' : World} {B m : Nat} {l : List UInt8} (h : MemV w B m l) (g : w.grownBy w' none) : MemV w' B m l := h.below (below_of_only g (Nat.le_refl _) (fun k hk => by cases hk))
set_option maxHeartbeats 1600000 in
theorem Cu.place_yes (w : World) (B m : Nat) (l : List UInt8) (base size : Nat) (h : MemV w B m l) (hI : Cu.In l base size) (k n : Nat) (hk : k + n ≤ size) : Calls Tryd.prog 59 #[Cu.vw m base size, .int .i64 k, .int .i64 n] w fun e w' => e = .returned (.tuple #[.int .i64 (base + k : Nat), .int .i64 0]) ∧ w.grownBy w' none := by
  obtain ⟨W1, hW, g1, hB⟩ := ibox w 31 #[.pointer (some ⟨m, 0, none⟩), .int .i64 base, .int .i64 size]
  have HG := Lib.hid g1
  have HT := Lib.hid (Cu.there_any W1 B m l base size (h.grown g1) hI)
  have HB := Lib.hid hB
  obtain ⟨c0, c1, c2⟩ := in3 hB
  have hIa := hI.1
  have hIb := hI.2
  have f1 : ¬ (size : Int) - (k : Int) < (n : Int) := by omega
  have f2 : (size : Int) ≤ 16384 := by omega
  have f3 : (base : Int) + (k : Int) ≤ 16384 := by omega
  have k0 : ¬ (k : Int) < 0 := by omega
  have wr : IntKind.i64.wrap ((size : Int) - (k : Int)) = (size : Int) - (k : Int) := by rw [IntKind.wrap_i64]; omega
  have wr2 : IntKind.i64.wrap ((base : Int) + (k : Int)) = ((base + k : Nat) : Int) := by rw [IntKind.wrap_i64]; omega
  clear h hI g1 hB hIa hIb hk
  unfold Cu.vw at HT ⊢
  go_enter Tryd.func59, Tryd.ntmps59
  go_upto_region 1 with (fail)
  rw [← hW]
  clear hW
  go_wp2_with (go_at_call 67; (with_reducible refine HT.out.mono ?_); rintro e w1 ⟨rfl, g2⟩; have HG2 := Lib.hid (only_trans HG.out g2); have HB2 := HB.out.only g2 (by simp); clear c0 c1 c2; obtain ⟨c0, c1, c2⟩ := in3 HB2; clear g2 HB2)
  go_ret2
  exact ⟨by rfl, HG2.out⟩
set_option maxHeartbeats 1600000 in
theorem Cu.place_no (w : World) (B m : Nat) (l : List UInt8) (base size : Nat) (h : MemV w B m l) (hI : Cu.In l base size) (k : Int) (n : Nat) (hk : ¬ (0 ≤ k ∧ k + n ≤ size)) (hk2 : k ≤ 9223372036854775807) : Calls Tryd.prog 59 #[Cu.vw m base size, .int .i64 k, .int .i64 n] w fun e w' => e = .returned (.tuple #[.int .i64 0, .int .i64 6]) ∧ w.grownBy w' none := by
  obtain ⟨W1, hW, g1, hB⟩ := ibox w 31 #[.pointer (some ⟨m, 0, none⟩), .int .i64 base, .int .i64 size]
  have HG := Lib.hid g1
  have HT := Lib.hid (Cu.there_any W1 B m l base size (h.grown g1) hI)
  have HB := Lib.hid hB
  obtain ⟨c0, c1, c2⟩ := in3 hB
  have hIa := hI.1
  have hIb := hI.2
  by_cases k0 : k < 0
  · clear h hI g1 hB hIa hIb hk
    unfold Cu.vw at HT ⊢
    go_enter Tryd.func59, Tryd.ntmps59
    go_upto_region 1 with (fail)
    rw [← hW]
    clear hW
    go_wp2
    go_ret2
    exact ⟨by rfl, HG.out⟩
  · have f1 : (size : Int) - k < (n : Int) := by omega
    have wr : IntKind.i64.wrap ((size : Int) - k) = (size : Int) - k := by rw [IntKind.wrap_i64]; omega
    have k1 : 0 ≤ k := by omega
    have f2 : (size : Int) ≤ 16384 := by omega
    clear h hI g1 hB hIa hIb hk
    unfold Cu.vw at HT ⊢
    go_enter Tryd.func59, Tryd.ntmps59
    go_upto_region 1 with (fail)
    rw [← hW]
    clear hW
    go_wp2_with (go_at_call 67; (with_reducible refine HT.out.mono ?_); rintro e w1 ⟨rfl, g2⟩; have HG2 := Lib.hid (only_trans HG.out g2); have HB2 := HB.out.only g2 (by simp); clear c0 c1 c2; obtain ⟨c0, c1, c2⟩ := in3 HB2; clear g2 HB2)
    go_ret2
    exact ⟨by rfl, HG2.out⟩
theorem Cu.width_any (k : Nat) (hk : k < 16) (w : World) : Calls Tryd.prog 63 #[.int .u8 k] w fun e w' => e = .returned (.int .i64 (if k = 9 ∨ k = 10 then 2 else 1)) ∧ w = w' := by
  by_cases h9 : k = 9
  · subst h9
    go_enter Tryd.func63, Tryd.ntmps63
    go_wp2
    go_ret
    exact ⟨by rfl, rfl⟩
  · by_cases h10 : k = 10
    · subst h10
      go_enter Tryd.func63, Tryd.ntmps63
      go_wp2
      go_ret
      exact ⟨by rfl, rfl⟩
    · have e1 : ((k : Int) == 9) = false := by simp; omega
      have e2 : ((k : Int) == 10) = false := by simp; omega
      have i1 : ¬ (k : Int) = 9 := by omega
      have i2 : ¬ (k : Int) = 10 := by omega
      rw [if_neg (by omega)]
      go_enter Tryd.func63, Tryd.ntmps63
      go_wp2
      go_ret
      exact ⟨by rfl, rfl⟩
end Go.Proofs.YthhodadfiipffaaDoor

/- Package cpu: an instruction fetched, by contract. -/
namespace Go.Proofs.YthhodadfiipffaaDoor
open Go.RowKit Go.Lib
set_option linter.unusedVariables false
set_option maxRecDepth 8000

/-- Four bytes from a place on. -/
def Cu.ins (l : List UInt8) (a : Nat) : ByteArray := ⟨((l.drop a).take 4).toArray⟩
/-- A view's box and an instruction's. -/
def Cu.Fx (w W : World) (m : Nat) (base size : Int) (a b c : Value) : Prop :=
  Blk W w.heap.size 31 #[.pointer (some ⟨m, 0, none⟩), .int .i64 base, .int .i64 size] ∧ Blk W (w.heap.size + 1) 104 #[a, b, c] ∧ w.grownBy W none
theorem Cu.Fx.step {w W W' : World} {m : Nat} {base size : Int} {a b c : Value} (h : Cu.Fx w W m base size a b c) (g : W.grownBy W' none) : Cu.Fx w W' m base size a b c :=
  ⟨h.1.only g (by simp), h.2.1.only g (by simp), only_trans h.2.2 g⟩
theorem Cu.Fx.cells {w W : World} {m : Nat} {base size : Int} {a b c : Value} (h : Cu.Fx w W m base size a b c) :
    (W.cell? ⟨w.heap.size, 0, none⟩ = some (.pointer (some ⟨m, 0, none⟩)) ∧ W.cell? ⟨w.heap.size, 1, none⟩ = some (.int .i64 base) ∧ W.cell? ⟨w.heap.size, 2, none⟩ = some (.int .i64 size)) ∧
    (W.cell? ⟨w.heap.size + 1, 0, none⟩ = some a ∧ W.cell? ⟨w.heap.size + 1, 1, none⟩ = some b ∧ W.cell? ⟨w.heap.size + 1, 2, none⟩ = some c ∧ W.frozen? ⟨w.heap.size + 1, 0, none⟩ = false ∧ W.frozen? ⟨w.heap.size + 1, 1, none⟩ = false ∧ W.frozen? ⟨w.heap.size + 1, 2, none⟩ = false) :=
  ⟨in3 h.1, in3f h.2.1⟩
theorem Cu.Fx.grow {w W : World} {m : Nat} {base size : Int} {a b c : Value} (h : Cu.Fx w W m base size a b c) : w.grownBy W none := h.2.2
theorem Cu.Fx.instr {w W : World} {m : Nat} {base size : Int} {a b c : Value} (h : Cu.Fx w W m base size a b c) : Blk W (w.heap.size + 1) 104 #[a, b, c] := h.2.1
theorem Cu.Fx.new (w : World) (m : Nat) (base size : Int) : Cu.Fx w ((w.alloc (.cells #[.pointer (some ⟨m, 0, none⟩), .int .i64 base, .int .i64 size] 31)).alloc (.cells #[.int .u8 0, .int .i64 0, .int .i64 0] 104)) m base size (.int .u8 0) (.int .i64 0) (.int .i64 0) := by
  refine ⟨(Blk.new w 31 _).alloc _, ?_, only_alloc (only_alloc (only_refl _ _) _) _⟩
  have := Blk.new (w.alloc (.cells #[.pointer (some ⟨m, 0, none⟩), .int .i64 base, .int .i64 size] 31)) 104 #[.int .u8 0, .int .i64 0, .int .i64 0]
  simpa using this
theorem Cu.put3g {w W : World} {g : Nat} {t : TypeId} {a b c a' b' c' : Value} (h : Blk W g t #[a, b, c]) (hg : w.heap.size ≤ g) (hw : w.grownBy W none) : ∀ W', W' = ((W.setCell ⟨g, 0, none⟩ a').setCell ⟨g, 1, none⟩ b').setCell ⟨g, 2, none⟩ c' → (W'.cell? ⟨g, 0, none⟩ = some a' ∧ W'.cell? ⟨g, 1, none⟩ = some b' ∧ W'.cell? ⟨g, 2, none⟩ = some c') ∧ w.grownBy W' none := by
  rintro W' rfl
  have bf := ((h.put 0 a').put 1 b').put 2 c'
  exact ⟨⟨bf.cell 0, bf.cell 1, bf.cell 2⟩, only_putc (only_putc (only_putc hw (p := ⟨g, 0, none⟩) hg _) (p := ⟨g, 1, none⟩) hg _) (p := ⟨g, 2, none⟩) hg _⟩
theorem Cu.getV_form (t : ByteArray) : ∃ (c : Nat) (x n e : Int), getV t = .tuple #[.agg #[.int .u8 c, .int .i64 x, .int .i64 n], .int .i64 e] ∧ c < 256 := by
  have hc := gb_lt t 0
  unfold getV
  split
  · exact ⟨0, 0, 0, 5, rfl, by omega⟩
  · split
    · exact ⟨gb t 0, gb t 1, gw t 2, 0, rfl, hc⟩
    · exact ⟨0, 0, 0, 12, rfl, by omega⟩
theorem Cu.chk_in {l : List UInt8} {base size k n : Nat} (hI : Cu.In l base size) (hk : k + n ≤ size) : chk l.length ((base + k : Nat) : Int) (n : Int) = 0 := by
  have := hI.1
  unfold chk
  rw [if_neg (by omega), if_neg (by omega), if_neg (by omega), if_neg (by omega)]
set_option maxHeartbeats 1600000 in
theorem Cu.fetch_no (w : World) (B m : Nat) (l : List UInt8) (base size : Nat) (h : MemV w B m l) (hI : Cu.In l base size) (k : Int) (hk : ¬ (0 ≤ k ∧ k + 4 ≤ size)) (hk2 : k ≤ 9223372036854775807) : Calls Tryd.prog 44 #[Cu.vw m base size, .int .i64 k] w fun e w' => e = .returned (.tuple #[.agg #[.int .u8 0, .int .i64 0, .int .i64 0], .int .i64 6]) ∧ w.grownBy w' none := by
  have HX := Lib.hid (Cu.Fx.new w m base size)
  have HP := Lib.hid (show ∀ W, w.grownBy W none → Calls Tryd.prog 59 #[Cu.vw m base size, .int .i64 k, .int .i64 4] W fun e w' => e = .returned (.tuple #[.int .i64 0, .int .i64 6]) ∧ W.grownBy w' none from fun W g => Cu.place_no W B m l base size (h.grown g) hI k 4 hk hk2)
  obtain ⟨x0, x1⟩ := HX.out.cells
  clear h hI hk
  unfold Cu.vw at HP ⊢
  go_enter Tryd.func44, Tryd.ntmps44
  go_upto_region 1 with (fail)
  have e0 : (w.alloc (.cells #[.pointer (some ⟨m, 0, none⟩), .int .i64 base, .int .i64 size] 31)).heap.size = w.heap.size + 1 := by simp
  try rw [e0]
  obtain ⟨W, hW⟩ : ∃ W, W = (w.alloc (.cells #[.pointer (some ⟨m, 0, none⟩), .int .i64 base, .int .i64 size] 31)).alloc (.cells #[.int .u8 0, .int .i64 0, .int .i64 0] 104) := ⟨_, rfl⟩
  rw [← hW] at HX x0 x1 ⊢
  clear hW e0
  obtain ⟨c0, c1, c2⟩ := x0
  obtain ⟨d0, d1, d2, f0, f1, f2⟩ := x1
  have n1 : ¬ w.heap.size = w.heap.size + 1 := by omega
  go_wp2_with (go_at_call 59; (with_reducible refine (HP.out _ HX.out.grow).mono ?_); rintro e w1 ⟨rfl, g2⟩; have HX2 := Lib.hid (HX.out.step g2); clear c0 c1 c2 d0 d1 d2 f0 f1 f2 g2; obtain ⟨⟨c0, c1, c2⟩, ⟨d0, d1, d2, f0, f1, f2⟩⟩ := HX2.out.cells)
  obtain ⟨⟨r0, r1, r2⟩, G9⟩ := Cu.put3g (a' := .int .u8 0) (b' := .int .i64 0) (c' := .int .i64 0) HX2.out.instr (Nat.le_succ _) HX2.out.grow _ rfl
  refine bodyPost_ret (v := .tuple #[.agg #[.int .u8 0, .int .i64 0, .int .i64 0], .int .i64 6]) (by simp [results, Tryd.results44, go_sem, r0, r1, r2]) rfl ⟨rfl, G9⟩
set_option maxHeartbeats 1600000 in
theorem Cu.fetch_yes (w : World) (B m : Nat) (l : List UInt8) (base size : Nat) (h : MemV w B m l) (hN : Nm w) (hI : Cu.In l base size) (k : Nat) (hk : k + 4 ≤ size) : Calls Tryd.prog 44 #[Cu.vw m base size, .int .i64 k] w fun e w' => e = .returned (getV (Cu.ins l (base + k))) ∧ w.grownBy w' none := by
  have HX := Lib.hid (Cu.Fx.new w m base size)
  have HP := Lib.hid (show ∀ W, w.grownBy W none → Calls Tryd.prog 59 #[Cu.vw m base size, .int .i64 k, .int .i64 4] W fun e w' => e = .returned (.tuple #[.int .i64 (base + k : Nat), .int .i64 0]) ∧ W.grownBy w' none from fun W g => Cu.place_yes W B m l base size (h.grown g) hI k 4 hk)
  have HT := Lib.hid (show ∀ W, w.grownBy W none → Calls Tryd.prog 49 #[.pointer (some ⟨m, 0, none⟩), .int .i64 (base + k : Nat), .int .i64 4] W fun r w' => r = .returned (.tuple #[.string (Cu.ins l (base + k)), .int .i64 0]) ∧ W = w' from fun W g => by
    have := mtext_any W B m l ((base + k : Nat) : Int) 4 (h.grown g) hI.2
    have ec := Cu.chk_in (n := 4) hI hk
    simp only [show ((4 : Nat) : Int) = 4 from rfl] at ec
    rw [ec, if_pos rfl] at this
    exact this)
  have hz : (Cu.ins l (base + k)).size ≤ 9223372036854775807 := by
    show ((l.drop (base + k)).take 4).toArray.size ≤ _
    simp
    omega
  have HGT := Lib.hid (fun W (g : w.grownBy W none) => Go.Proofs.YthhodadfiipffaaDoor.get_any (Cu.ins l (base + k)) hz W (hN.grown g (by simp)))
  obtain ⟨c, x, n, e, hv, hc⟩ := Cu.getV_form (Cu.ins l (base + k))
  rw [hv] at HGT ⊢
  obtain ⟨x0, x1⟩ := HX.out.cells
  generalize Cu.ins l (base + k) = t at *
  have u1 : (c : Int) % 256 = c := by omega
  clear h hI hk hz hv hN
  generalize base + k = a at HP HT
  unfold Cu.vw at HP ⊢
  go_enter Tryd.func44, Tryd.ntmps44
  go_upto_region 1 with (fail)
  have e0 : (w.alloc (.cells #[.pointer (some ⟨m, 0, none⟩), .int .i64 base, .int .i64 size] 31)).heap.size = w.heap.size + 1 := by simp
  try rw [e0]
  obtain ⟨W, hW⟩ : ∃ W, W = (w.alloc (.cells #[.pointer (some ⟨m, 0, none⟩), .int .i64 base, .int .i64 size] 31)).alloc (.cells #[.int .u8 0, .int .i64 0, .int .i64 0] 104) := ⟨_, rfl⟩
  rw [← hW] at HX x0 x1 ⊢
  clear hW e0
  obtain ⟨c0, c1, c2⟩ := x0
  obtain ⟨d0, d1, d2, f0, f1, f2⟩ := x1
  have n1 : ¬ w.heap.size = w.heap.size + 1 := by omega
  go_wp2_with (first
    | (go_at_call 59; (with_reducible refine (HP.out _ HX.out.grow).mono ?_); rintro e w1 ⟨rfl, g2⟩; have HX2 := Lib.hid (HX.out.step g2); clear c0 c1 c2 d0 d1 d2 f0 f1 f2 g2; obtain ⟨⟨c0, c1, c2⟩, ⟨d0, d1, d2, f0, f1, f2⟩⟩ := HX2.out.cells)
    | (go_at_call 49; (with_reducible refine (HT.out _ HX2.out.grow).mono ?_); rintro e w2 ⟨rfl, rfl⟩)
    | (go_at_call 60; (with_reducible refine (HGT.out _ HX2.out.grow).mono ?_); rintro e w3 ⟨rfl, g3⟩; have HX3 := Lib.hid (HX2.out.step g3); clear c0 c1 c2 d0 d1 d2 f0 f1 f2 g3; obtain ⟨⟨c0, c1, c2⟩, ⟨d0, d1, d2, f0, f1, f2⟩⟩ := HX3.out.cells))
  obtain ⟨⟨r0, r1, r2⟩, G9⟩ := Cu.put3g (a' := .int .u8 c) (b' := .int .i64 x) (c' := .int .i64 n) HX3.out.instr (Nat.le_succ _) HX3.out.grow _ rfl
  refine bodyPost_ret (v := .tuple #[.agg #[.int .u8 c, .int .i64 x, .int .i64 n], .int .i64 e]) (by simp [results, Tryd.results44, go_sem, r0, r1, r2]) rfl ⟨rfl, G9⟩
end Go.Proofs.YthhodadfiipffaaDoor
