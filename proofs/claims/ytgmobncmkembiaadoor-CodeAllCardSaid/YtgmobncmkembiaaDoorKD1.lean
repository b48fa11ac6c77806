/- The reader of package bits at a text of any length: bytes and numbers, whether or not they are there. Written by hand after IM13. -/
import Derived.Test.YtgmobncmkembiaaDoorKN4
namespace Go.Proofs.YtgmobncmkembiaaDoor
open Go.RowKit Go.Lib
set_option linter.unusedVariables false

/-- The byte at a place, or 0; the number of two bytes there, or 0. -/
def gb (t : ByteArray) (i : Nat) : Nat := if h : i < t.size then t[i].toNat else 0
def gw (t : ByteArray) (i : Nat) : Nat := if i + 2 ≤ t.size then gb t i + 256 * gb t (i + 1) else 0
theorem gb_of {t : ByteArray} {i : Nat} (h : i < t.size) : gb t i = t[i].toNat := by simp [gb, h]
theorem gb_off {t : ByteArray} {i : Nat} (h : t.size ≤ i) : gb t i = 0 := by
  unfold gb
  rw [dif_neg (by omega)]
theorem gb_lt (t : ByteArray) (i : Nat) : gb t i < 256 := by
  unfold gb
  split
  · exact UInt8.toNat_lt _
  · omega
theorem gw_lt (t : ByteArray) (i : Nat) : gw t i < 65536 := by
  have := gb_lt t i
  have := gb_lt t (i + 1)
  unfold gw
  split <;> omega
/-- A reader that was asked for so many bytes. -/
def RdK (w : World) (b : Nat) (t : ByteArray) (k : Nat) : Prop := (k ≤ t.size ∧ Rd w b t k 0) ∨ (t.size < k ∧ ∃ p, p ≤ t.size ∧ Rd w b t p 5)
theorem RdK.lt {w : World} {b k : Nat} {t : ByteArray} (h : RdK w b t k) : b < w.heap.size := by
  rcases h with ⟨_, h⟩ | ⟨_, p, _, h⟩
  · exact Blk.lt h
  · exact Blk.lt h
theorem RdK.only {w w' : World} {b k : Nat} {t : ByteArray} {row : Option Nat} (h : RdK w b t k) (g : w.grownBy w' row) (hr : row ≠ some b) : RdK w' b t k := by
  rcases h with ⟨h1, h⟩ | ⟨h1, p, h2, h⟩
  · exact .inl ⟨h1, Blk.only h g (fun e => hr e.symm)⟩
  · exact .inr ⟨h1, p, h2, Blk.only h g (fun e => hr e.symm)⟩
theorem RdK.put {w : World} {b k : Nat} {t : ByteArray} (h : RdK w b t k) {p : Addr} (hp : b ≠ p.block) (v : Value) : RdK (w.setCell p v) b t k := by
  rcases h with ⟨h1, h⟩ | ⟨h1, q, h2, h⟩
  · exact .inl ⟨h1, Blk.far h hp v⟩
  · exact .inr ⟨h1, q, h2, Blk.far h hp v⟩
theorem only_putc {w w' : World} {row : Option Nat} (g : w.grownBy w' row) {p : Addr} (hp : w.heap.size ≤ p.block) (v : Value) : w.grownBy (w'.setCell p v) row :=
  ⟨g.os, g.tape, g.output, by simpa using g.size, fun k hk hn => (Below.heap_setCell w' p v k (by rintro rfl; omega)).trans (g.block k hk hn)⟩
theorem rbyte_at {w : World} {b k : Nat} {t : ByteArray} (h : RdK w b t k) (hs : t.size ≤ 9223372036854775807) : Calls Tryd.prog 28 #[.pointer (some ⟨b, 0, none⟩)] w fun r w' => r = .returned (.int .i64 (gb t k)) ∧ RdK w' b t (k + 1) ∧ w.grownBy w' (some b) := by
  rcases h with ⟨h1, h⟩ | ⟨h1, p, h2, h⟩
  · by_cases hk : k < t.size
    · have hx : rdText t k 0 1 = (t.extract k (k + 1), k + 1, 0) := by
        rw [rdText, if_neg (by omega), if_neg (by omega), if_neg (by omega)]
        rfl
      have := byte_any b t k 0 w h (by omega) (by omega)
      rw [hx] at this
      refine this.mono fun e w' ⟨q1, q2, q3⟩ => ⟨?_, .inl ⟨by omega, q2⟩, q3⟩
      rw [q1]
      have hl : 0 < (t.extract k (k + 1)).size := by simp; omega
      rw [byteOf, dif_pos hl, gb_of hk]
      simp [ByteArray.getElem_extract]
    · have hx : rdText t k 0 1 = (.empty, k, 5) := by
        rw [rdText, if_neg (by omega), if_neg (by omega), if_pos (by omega)]
      have := byte_any b t k 0 w h (by omega) (by omega)
      rw [hx] at this
      refine this.mono fun e w' ⟨q1, q2, q3⟩ => ⟨?_, .inr ⟨by omega, k, h1, q2⟩, q3⟩
      rw [q1, gb_off (by omega)]
      rfl
  · have hx : rdText t p 5 1 = (.empty, p, 5) := by
      rw [rdText, if_pos (by omega)]
    have := byte_any b t p 5 w h (by omega) (by omega)
    rw [hx] at this
    refine this.mono fun e w' ⟨q1, q2, q3⟩ => ⟨?_, .inr ⟨by omega, p, h2, q2⟩, q3⟩
    rw [q1, gb_off (by omega)]
    rfl
theorem rtwo_at {w : World} {b k : Nat} {t : ByteArray} (h : RdK w b t k) (hs : t.size ≤ 9223372036854775807) : Calls Tryd.prog 29 #[.pointer (some ⟨b, 0, none⟩)] w fun r w' => r = .returned (.int .i64 (gw t k)) ∧ RdK w' b t (k + 2) ∧ w.grownBy w' (some b) := by
  rcases h with ⟨h1, h⟩ | ⟨h1, p, h2, h⟩
  · by_cases hk : k + 2 ≤ t.size
    · have hx : rdText t k 0 2 = (t.extract k (k + 2), k + 2, 0) := by
        rw [rdText, if_neg (by omega), if_neg (by omega), if_neg (by omega)]
        rfl
      have := rdtwo_any b t k 0 w h (by omega) (by omega)
      rw [hx] at this
      refine this.mono fun e w' ⟨q1, q2, q3⟩ => ⟨?_, .inl ⟨by omega, q2⟩, q3⟩
      rw [q1]
      have hl : 1 < (t.extract k (k + 2)).size := by simp; omega
      rw [twoOf, dif_pos hl, gw, if_pos hk, gb_of (show k < t.size by omega), gb_of (show k + 1 < t.size by omega)]
      simp [ByteArray.getElem_extract]
    · have hx : rdText t k 0 2 = (.empty, k, 5) := by
        rw [rdText, if_neg (by omega), if_neg (by omega), if_pos (by omega)]
      have := rdtwo_any b t k 0 w h (by omega) (by omega)
      rw [hx] at this
      refine this.mono fun e w' ⟨q1, q2, q3⟩ => ⟨?_, .inr ⟨by omega, k, h1, q2⟩, q3⟩
      rw [q1, gw, if_neg hk]
      rfl
  · have hx : rdText t p 5 2 = (.empty, p, 5) := by
      rw [rdText, if_pos (by omega)]
    have := rdtwo_any b t p 5 w h (by omega) (by omega)
    rw [hx] at this
    refine this.mono fun e w' ⟨q1, q2, q3⟩ => ⟨?_, .inr ⟨by omega, p, h2, q2⟩, q3⟩
    rw [q1, gw, if_neg (by omega)]
    rfl
theorem only_drop {w0 W W' : World} {g : Nat} (h : w0.grownBy W none) (k : W.grownBy W' (some g)) (hg : w0.heap.size ≤ g) : w0.grownBy W' none :=
  ⟨k.os.trans h.os, k.tape.trans h.tape, k.output.trans h.output, Nat.le_trans h.size k.size, fun i hi hn => (k.block i (Nat.lt_of_lt_of_le hi h.size) (fun e => by injection e with e; omega)).trans (h.block i hi hn)⟩
/-- What is kept between two calls on the reader: it, the result's box, what lay there. -/
def KdI (w0 W : World) (g : Nat) (t : ByteArray) (k : Nat) : Prop := RdK W g t k ∧ Blk W w0.heap.size 24 #[.int .u8 0, .int .i64 0, .int .i64 0] ∧ w0.grownBy W none ∧ w0.heap.size < g
theorem KdI.step {w0 W W' : World} {g : Nat} {t : ByteArray} {k k' : Nat} (h : KdI w0 W g t k) (q : RdK W' g t k') (b : W.grownBy W' (some g)) : KdI w0 W' g t k' :=
  ⟨q, h.2.1.only b (fun e => by injection e with e; have := h.2.2.2; omega), only_drop h.2.2.1 b (Nat.le_of_lt h.2.2.2), h.2.2.2⟩
theorem KdI.grown {w0 W W' : World} {g : Nat} {t : ByteArray} {k : Nat} (h : KdI w0 W g t k) (b : W.grownBy W' none) : KdI w0 W' g t k :=
  ⟨h.1.only b (by simp), h.2.1.only b (by simp), only_trans h.2.2.1 b, h.2.2.2⟩
theorem kdi_byte {w0 W : World} {g : Nat} {t : ByteArray} {k : Nat} (h : KdI w0 W g t k) (hs : t.size ≤ 9223372036854775807) : Calls Tryd.prog 28 #[.pointer (some ⟨g, 0, none⟩)] W fun r w' => r = .returned (.int .i64 (gb t k)) ∧ KdI w0 w' g t (k + 1) :=
  (rbyte_at h.1 hs).mono fun _ _ ⟨e, q, b⟩ => ⟨e, h.step q b⟩
theorem kdi_two {w0 W : World} {g : Nat} {t : ByteArray} {k : Nat} (h : KdI w0 W g t k) (hs : t.size ≤ 9223372036854775807) : Calls Tryd.prog 29 #[.pointer (some ⟨g, 0, none⟩)] W fun r w' => r = .returned (.int .i64 (gw t k)) ∧ KdI w0 w' g t (k + 2) :=
  (rtwo_at h.1 hs).mono fun _ _ ⟨e, q, b⟩ => ⟨e, h.step q b⟩
theorem kdi_err {w0 W : World} {g : Nat} {t : ByteArray} {k : Nat} (h : KdI w0 W g t k) : Calls Tryd.prog 30 #[.pointer (some ⟨g, 0, none⟩)] W fun r w' => r = .returned (.int .i64 (if k ≤ t.size then 0 else 5)) ∧ W = w' := by
  rcases h.1 with ⟨h1, h⟩ | ⟨h1, p, h2, h⟩
  · rw [if_pos h1]
    exact err_any g t k 0 W h
  · rw [if_neg (by omega)]
    exact err_any g t p 5 W h
theorem kdi_new (w : World) (t : ByteArray) : KdI w ((w.alloc (.cells #[.int .u8 0, .int .i64 0, .int .i64 0] 24)).alloc (.cells #[.int .i64 0, .string t, .int .i64 0] 59)) (w.heap.size + 1) t 0 :=
  ⟨.inl ⟨Nat.zero_le _, by have := Blk.new (w.alloc (.cells #[.int .u8 0, .int .i64 0, .int .i64 0] 24)) 59 #[.int .i64 0, .string t, .int .i64 0]; simpa [Rd] using this⟩, (Blk.new _ _ _).alloc _, only_alloc (only_alloc (only_refl _ _) _) _, Nat.lt_succ_self _⟩
/-- What Get answers. -/
def getV (t : ByteArray) : Value := if t.size < 4 then .tuple #[.agg #[.int .u8 0, .int .i64 0, .int .i64 0], .int .i64 5] else if mayI (gb t 0) (gb t 1) (gw t 2) = true then .tuple #[.agg #[.int .u8 (gb t 0), .int .i64 (gb t 1), .int .i64 (gw t 2)], .int .i64 0] else .tuple #[.agg #[.int .u8 0, .int .i64 0, .int .i64 0], .int .i64 12]
theorem in3f {W : World} {g : Nat} {t : TypeId} {a b c : Value} (h : Blk W g t #[a, b, c]) : W.cell? ⟨g, 0, none⟩ = some a ∧ W.cell? ⟨g, 1, none⟩ = some b ∧ W.cell? ⟨g, 2, none⟩ = some c ∧ W.frozen? ⟨g, 0, none⟩ = false ∧ W.frozen? ⟨g, 1, none⟩ = false ∧ W.frozen? ⟨g, 2, none⟩ = false := ⟨h.cell 0, h.cell 1, h.cell 2, h.free 0, h.free 1, h.free 2⟩
theorem put3 {w W : World} {t : TypeId} {a b c a' b' c' : Value} (h : Blk W w.heap.size t #[a, b, c]) (g : w.grownBy W none) : ∀ W', W' = ((W.setCell ⟨w.heap.size, 0, none⟩ a').setCell ⟨w.heap.size, 1, none⟩ b').setCell ⟨w.heap.size, 2, none⟩ c' → (W'.cell? ⟨w.heap.size, 0, none⟩ = some a' ∧ W'.cell? ⟨w.heap.size, 1, none⟩ = some b' ∧ W'.cell? ⟨w.heap.size, 2, none⟩ = some c') ∧ w.grownBy W' none := by
  rintro W' rfl
  have bf := ((h.put 0 a').put 1 b').put 2 c'
  exact ⟨⟨bf.cell 0, bf.cell 1, bf.cell 2⟩, only_putc (only_putc (only_putc g (p := ⟨w.heap.size, 0, none⟩) (Nat.le_refl _) _) (p := ⟨w.heap.size, 1, none⟩) (Nat.le_refl _) _) (p := ⟨w.heap.size, 2, none⟩) (Nat.le_refl _) _⟩
end Go.Proofs.YtgmobncmkembiaaDoor
