/- The reader of package bits at a text of any length: bytes and numbers, whether or not they are there. Written by hand after IM13. -/
import Derived.Test.YtgjpjmolfdiahaaDoorKN4
namespace Go.Proofs.YtgjpjmolfdiahaaDoor
open Go.RowKit Go.Lib
set_option linter.unusedVariables false

/-- The byte at a place, or 0; the number of two bytes there, or 0. -/
def gb (t : ByteArray) (i : Nat) : Nat := if h : i < t.size then t[i].toNat else 0
def gw (t : ByteArray) (i : Nat) : Nat := if i + 2 ≤ t.size then gb t i + 256 * gb t (i + 1) else 0
theorem gb_of {t : ByteArray} {i : Nat} (h : i < t.size) : gb t i = t[i].toNat := by simp [gb, h]
theorem gb_off {t : ByteArray} {i : Nat} (h : t.size ≤ i) : gb t i = 0 := by
  unfold gb
  rw [dif_neg (by omega)]
theorem gb_lt (t : ByteArray) (i : Nat) : gb t i < 256 := by
  unfold gb
  split
  · exact UInt8.toNat_lt _
  · omega
theorem gw_lt (t : ByteArray) (i : Nat) : gw t i < 65536 := by
  have := gb_lt t i
  have := gb_lt t (i + 1)
  unfold gw
  split <;> omega
theorem only_putc {w w' : World} {row : Option Nat} (g : w.grownBy w' row) {p : Addr} (hp : w.heap.size ≤ p.block) (v : Value) : w.grownBy (w'.setCell p v) row :=
  ⟨g.os, g.tape, g.output, by simpa using g.size, fun k hk hn => (Below.heap_setCell w' p v k (by rintro rfl; omega)).trans (g.block k hk hn)⟩
theorem only_drop {w0 W W' : World} {g : Nat} (h : w0.grownBy W none) (k : W.grownBy W' (some g)) (hg : w0.heap.size ≤ g) : w0.grownBy W' none :=
  ⟨k.os.trans h.os, k.tape.trans h.tape, k.output.trans h.output, Nat.le_trans h.size k.size, fun i hi hn => (k.block i (Nat.lt_of_lt_of_le hi h.size) (fun e => by injection e with e; omega)).trans (h.block i hi hn)⟩
/-- What Get answers. -/
def getV (t : ByteArray) : Value := if t.size < 4 then .tuple #[.agg #[.int .u8 0, .int .i64 0, .int .i64 0], .int .i64 5] else if mayI (gb t 0) (gb t 1) (gw t 2) = true then .tuple #[.agg #[.int .u8 (gb t 0), .int .i64 (gb t 1), .int .i64 (gw t 2)], .int .i64 0] else .tuple #[.agg #[.int .u8 0, .int .i64 0, .int .i64 0], .int .i64 12]
theorem in3f {W : World} {g : Nat} {t : TypeId} {a b c : Value} (h : Blk W g t #[a, b, c]) : W.cell? ⟨g, 0, none⟩ = some a ∧ W.cell? ⟨g, 1, none⟩ = some b ∧ W.cell? ⟨g, 2, none⟩ = some c ∧ W.frozen? ⟨g, 0, none⟩ = false ∧ W.frozen? ⟨g, 1, none⟩ = false ∧ W.frozen? ⟨g, 2, none⟩ = false := ⟨h.cell 0, h.cell 1, h.cell 2, h.free 0, h.free 1, h.free 2⟩
theorem put3 {w W : World} {t : TypeId} {a b c a' b' c' : Value} (h : Blk W w.heap.size t #[a, b, c]) (g : w.grownBy W none) : ∀ W', W' = ((W.setCell ⟨w.heap.size, 0, none⟩ a').setCell ⟨w.heap.size, 1, none⟩ b').setCell ⟨w.heap.size, 2, none⟩ c' → (W'.cell? ⟨w.heap.size, 0, none⟩ = some a' ∧ W'.cell? ⟨w.heap.size, 1, none⟩ = some b' ∧ W'.cell? ⟨w.heap.size, 2, none⟩ = some c') ∧ w.grownBy W' none := by
  rintro W' rfl
  have bf := ((h.put 0 a').put 1 b').put 2 c'
  exact ⟨⟨bf.cell 0, bf.cell 1, bf.cell 2⟩, only_putc (only_putc (only_putc g (p := ⟨w.heap.size, 0, none⟩) (Nat.le_refl _) _) (p := ⟨w.heap.size, 1, none⟩) (Nat.le_refl _) _) (p := ⟨w.heap.size, 2, none⟩) (Nat.le_refl _) _⟩
end Go.Proofs.YtgjpjmolfdiahaaDoor
