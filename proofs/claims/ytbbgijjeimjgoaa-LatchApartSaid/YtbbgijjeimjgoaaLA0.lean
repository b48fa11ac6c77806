/- Bits of numbers in plain form: no program is spoken of here. -/
import Derived.Test.YtbbgijjeimjgoaaK
import Derived.Laws.BitsAllLaws
namespace Go.Proofs.Ytbbgijjeimjgoaa
open Go.RowKit
set_option linter.unusedVariables false

/-- The number that has the first k bits set where f says so. -/
def Lt.lat (f : Nat → Bool) : Nat → Nat
  | 0 => 0
  | k + 1 => Lt.lat f k + if f k then 2 ^ k else 0
theorem Lt.lat_lt (f : Nat → Bool) : ∀ k, Lt.lat f k < 2 ^ k
  | 0 => by simp [Lt.lat]
  | k + 1 => by
    have := Lt.lat_lt f k
    unfold Lt.lat
    rw [Nat.pow_succ]
    split <;> omega
theorem Lt.lat_bit (f : Nat → Bool) : ∀ k i, (Lt.lat f k).testBit i = (decide (i < k) && f i)
  | 0, i => by simp [Lt.lat]
  | k + 1, i => by
    have ih := Lt.lat_bit f k
    have hl := Lt.lat_lt f k
    unfold Lt.lat
    by_cases h : f k = true
    · rw [if_pos h, Nat.add_comm]
      by_cases hi : i < k
      · rw [Nat.testBit_two_pow_add_gt hi, ih i]
        simp [hi, Nat.lt_succ_of_lt hi]
      · by_cases he : i = k
        · subst he
          rw [Nat.testBit_two_pow_add_eq, ih i]
          simp [h]
        · rw [Nat.testBit_lt_two_pow (show 2 ^ k + Lt.lat f k < 2 ^ i from by
            have : 2 ^ (k + 1) ≤ 2 ^ i := Nat.pow_le_pow_right (by omega) (by omega)
            rw [Nat.pow_succ] at this
            omega)]
          have : ¬ i < k + 1 := by omega
          simp [this]
    · rw [if_neg h, Nat.add_zero, ih i]
      by_cases he : i = k
      · subst he
        simp [h]
      · have : (i < k + 1) ↔ i < k := by omega
        simp [this]
theorem Lt.lat_of {f : Nat → Bool} {k n : Nat} (h : n < 2 ^ k) (hf : ∀ i, i < k → f i = n.testBit i) : Lt.lat f k = n := by
  apply Nat.eq_of_testBit_eq
  intro i
  rw [Lt.lat_bit]
  by_cases hi : i < k
  · simp [hi, hf i hi]
  · have : n < 2 ^ i := Nat.lt_of_lt_of_le h (Nat.pow_le_pow_right (by omega) (by omega))
    rw [Nat.testBit_lt_two_pow this]
    simp [hi]
theorem Lt.or_lt {n m : Nat} (h1 : n < 256) (h2 : m < 256) : n ||| m < 256 := Nat.or_lt_two_pow (n := 8) h1 h2
theorem Lt.or64 (a b : Nat) (ha : a < 256) (hb : b < 256) : bits .or .i64 (a : Int) (b : Int) = ((a ||| b : Nat) : Int) := by
  have k1 : (BitVec.ofInt 64 (a : Int)).toNat = a := by rw [BitVec.ofInt_natCast, BitVec.toNat_ofNat]; omega
  have k2 : (BitVec.ofInt 64 (b : Int)).toNat = b := by rw [BitVec.ofInt_natCast, BitVec.toNat_ofNat]; omega
  show IntKind.i64.wrap ((BitVec.ofInt 64 (a : Int) ||| BitVec.ofInt 64 (b : Int)).toNat : Int) = _
  have := Lt.or_lt ha hb
  rw [BitVec.toNat_or, k1, k2, IntKind.wrap_i64]
  omega

/-- A row of the document: how often each bit was raised, which were delivered, and the numbers that this makes. -/
structure Lt.Rw (j n m : Nat) (r : Nat → Nat) (d : Nat → Bool) : Prop where
  hn : n < 256
  hm : m < 256
  hr : ∀ i, i < 8 → decide (0 < r i) = n.testBit i
  hd : ∀ i, i < 8 → d i = m.testBit i
  hb : ∀ i, r i ≤ j
theorem Lt.Rw.new : Lt.Rw 0 0 0 (fun _ => 0) (fun _ => false) := ⟨by decide, by decide, fun i _ => by simp, fun i _ => by simp, fun _ => Nat.le_refl _⟩
theorem Lt.Rw.mono {j j' n m : Nat} {r : Nat → Nat} {d : Nat → Bool} (h : Lt.Rw j n m r d) (hj : j ≤ j') : Lt.Rw j' n m r d := ⟨h.hn, h.hm, h.hr, h.hd, fun i => Nat.le_trans (h.hb i) hj⟩
theorem Lt.Rw.raise {j n m b : Nat} {r : Nat → Nat} {d : Nat → Bool} (h : Lt.Rw j n m r d) (hb : b < 256) : Lt.Rw (j + 1) (n ||| b) m (fun i => if b.testBit i then r i + 1 else r i) d := by
  refine ⟨Lt.or_lt h.hn hb, h.hm, fun i hi => ?_, h.hd, fun i => ?_⟩
  · rw [Nat.testBit_or, ← h.hr i hi]
    cases b.testBit i <;> simp
  · have := h.hb i
    show (if b.testBit i then r i + 1 else r i) ≤ j + 1
    split <;> omega
theorem Lt.Rw.open {j n m : Nat} {r : Nat → Nat} {d : Nat → Bool} (h : Lt.Rw j n m r d) : Lt.Rw j 0 (m ||| n) (fun _ => 0) (fun i => d i || decide (0 < r i)) :=
  ⟨by decide, Lt.or_lt h.hm h.hn, fun i _ => by simp, fun i hi => by rw [Nat.testBit_or, h.hd i hi, h.hr i hi], fun _ => Nat.zero_le _⟩
theorem Lt.Rw.take {j n m : Nat} {r : Nat → Nat} {d : Nat → Bool} (h : Lt.Rw j n m r d) : Lt.Rw j n 0 r (fun _ => false) :=
  ⟨h.hn, by decide, h.hr, fun i _ => by simp, h.hb⟩
theorem Lt.Rw.latched {j n m : Nat} {r : Nat → Nat} {d : Nat → Bool} (h : Lt.Rw j n m r d) : Lt.lat (fun i => decide (0 < r i)) 8 = n := Lt.lat_of h.hn h.hr
theorem Lt.Rw.delivered {j n m : Nat} {r : Nat → Nat} {d : Nat → Bool} (h : Lt.Rw j n m r d) : Lt.lat d 8 = m := Lt.lat_of h.hm h.hd

/-- The cells of a row. -/
def Lt.rowC (r : Nat → Nat) (d : Nat → Bool) : Array Value := #[.int .i64 (r 0), .int .i64 (r 1), .int .i64 (r 2), .int .i64 (r 3), .int .i64 (r 4), .int .i64 (r 5), .int .i64 (r 6), .int .i64 (r 7), .bool (d 0), .bool (d 1), .bool (d 2), .bool (d 3), .bool (d 4), .bool (d 5), .bool (d 6), .bool (d 7)]
theorem Lt.eight {k : Nat} (h : k < 8) : k = 0 ∨ k = 1 ∨ k = 2 ∨ k = 3 ∨ k = 4 ∨ k = 5 ∨ k = 6 ∨ k = 7 := by omega
theorem Lt.rowC_r (r : Nat → Nat) (d : Nat → Bool) {k : Nat} (h : k < 8) : (Lt.rowC r d)[k]? = some (.int .i64 (r k)) := by
  rcases Lt.eight h with rfl | rfl | rfl | rfl | rfl | rfl | rfl | rfl <;> rfl
theorem Lt.rowC_d (r : Nat → Nat) (d : Nat → Bool) {k : Nat} (h : k < 8) : (Lt.rowC r d)[8 + k]? = some (.bool (d k)) := by
  rcases Lt.eight h with rfl | rfl | rfl | rfl | rfl | rfl | rfl | rfl <;> rfl
theorem Lt.rowC_putr (r r' : Nat → Nat) (d : Nat → Bool) {k : Nat} (h : k < 8) (hr : ∀ i, i < 8 → i ≠ k → r' i = r i) : (Lt.rowC r d).setIfInBounds k (.int .i64 (r' k)) = Lt.rowC r' d := by
  rcases Lt.eight h with rfl | rfl | rfl | rfl | rfl | rfl | rfl | rfl <;> simp [Lt.rowC, hr]
theorem Lt.rowC_putd (r : Nat → Nat) (d d' : Nat → Bool) {k : Nat} (h : k < 8) (hr : ∀ i, i < 8 → i ≠ k → d' i = d i) : (Lt.rowC r d).setIfInBounds (8 + k) (.bool (d' k)) = Lt.rowC r d' := by
  rcases Lt.eight h with rfl | rfl | rfl | rfl | rfl | rfl | rfl | rfl <;> simp [Lt.rowC, hr]
end Go.Proofs.Ytbbgijjeimjgoaa
