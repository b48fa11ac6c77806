/- Plain facts on bits and bytes, for the laws of package bits: no program is spoken of here. -/
import Derived.WalkKit
namespace Go.Proofs.YtgjpjmolfdiahaaDoor.Bt
open Go.RowKit

theorem and255 (n : Int) : bits .and .i64 n 255 = n % 256 := by
  show IntKind.i64.wrap ((BitVec.ofInt 64 n &&& BitVec.ofInt 64 255).toNat : Int) = _
  have h : (BitVec.ofInt 64 (255 : Int)).toNat = 2 ^ 8 - 1 := by decide
  rw [BitVec.toNat_and, h, Nat.and_two_pow_sub_one_eq_mod, BitVec.toNat_ofInt, IntKind.wrap_i64]
  omega

theorem and255u (n : Int) (h0 : 0 ≤ n) (h1 : n < 65536) : bits .and .u16 n 255 = n % 256 := by
  obtain ⟨a, rfl⟩ := Int.eq_ofNat_of_zero_le h0
  have h : (255 : Int) = ((255 : Nat) : Int) := rfl
  rw [h, u16_and_nat a 255 (by omega) (by decide), show (255 : Nat) = 2 ^ 8 - 1 from rfl, Nat.and_two_pow_sub_one_eq_mod]
  omega

theorem or256 (a b : Int) (ha : 0 ≤ a) (ha1 : a < 256) (hb : 0 ≤ b) (hb1 : b < 256) : bits .or .i64 a (b * 256) = a + 256 * b := by
  obtain ⟨x, rfl⟩ := Int.eq_ofNat_of_zero_le ha
  obtain ⟨y, rfl⟩ := Int.eq_ofNat_of_zero_le hb
  have hy : ((y : Int) * 256) = ((2 ^ 8 * y : Nat) : Int) := by omega
  have k1 : (BitVec.ofInt 64 (x : Int)).toNat = x := by rw [BitVec.ofInt_natCast, BitVec.toNat_ofNat]; omega
  have k2 : (BitVec.ofInt 64 ((2 ^ 8 * y : Nat) : Int)).toNat = 2 ^ 8 * y := by rw [BitVec.ofInt_natCast, BitVec.toNat_ofNat]; omega
  show IntKind.i64.wrap ((BitVec.ofInt 64 (x : Int) ||| BitVec.ofInt 64 ((y : Int) * 256)).toNat : Int) = _
  rw [hy, BitVec.toNat_or, k1, k2, Nat.or_comm, ← Nat.two_pow_add_eq_or_of_lt (by omega) y, IntKind.wrap_i64]
  omega

/-- A number's two bytes. -/
def put (n : Int) : ByteArray := ⟨#[UInt8.ofNat (n % 256).toNat, UInt8.ofNat (n / 256 % 256).toNat]⟩

/-- How many bits of a number are 1. -/
def ones : Nat → Nat → Nat
  | 0, _ => 0
  | f + 1, k => if k = 0 then 0 else ones f (k / 2) + k % 2

theorem ones_zero (f : Nat) : ones f 0 = 0 := by cases f <;> simp [ones]

theorem ones_join (g f hi lo : Nat) (hl : lo < 2 ^ g) (hh : hi < 2 ^ f) : ones (f + g) (hi * 2 ^ g + lo) = ones f hi + ones g lo := by
  induction g generalizing lo with
  | zero => obtain rfl : lo = 0 := by omega
            simp [ones]
  | succ g ih =>
    have hp : hi * 2 ^ (g + 1) = 2 * (hi * 2 ^ g) := by rw [Nat.pow_succ, ← Nat.mul_assoc, Nat.mul_comm]
    have e1 : (hi * 2 ^ (g + 1) + lo) / 2 = hi * 2 ^ g + lo / 2 := by omega
    have e2 : (hi * 2 ^ (g + 1) + lo) % 2 = lo % 2 := by omega
    have hl2 : lo / 2 < 2 ^ g := by rw [Nat.pow_succ] at hl; omega
    have k := ih (lo / 2) hl2
    show ones (f + g + 1) (hi * 2 ^ (g + 1) + lo) = _
    rw [ones, e1, e2, k]
    by_cases h0 : hi * 2 ^ (g + 1) + lo = 0
    · rw [if_pos h0]
      have hlo : lo = 0 := by omega
      have hhi : hi = 0 := by
        rcases Nat.eq_zero_or_pos hi with h | h
        · exact h
        · have := Nat.mul_pos h (Nat.two_pow_pos (g + 1)); omega
      subst hlo hhi
      simp [ones_zero]
    · rw [if_neg h0]
      by_cases hlo : lo = 0
      · subst hlo; simp [ones_zero]
      · rw [show ones (g + 1) lo = ones g (lo / 2) + lo % 2 from by rw [ones, if_neg hlo]]
        omega

theorem ones_16 (k : Nat) (h : k < 65536) : ones 16 k = ones 8 (k / 256) + ones 8 (k % 256) := by
  have := ones_join 8 8 (k / 256) (k % 256) (by omega) (by omega)
  rw [← this]
  congr 1
  omega

theorem ones_le (f k : Nat) : ones f k ≤ f := by
  induction f generalizing k with
  | zero => simp [ones]
  | succ f ih =>
    rw [ones]
    split
    · omega
    · have := ih (k / 2); omega

#print axioms ones_16

/-- What a number leaves of another one, from 0 on, as the text reckons it. -/
theorem rest_of (n m : Int) (hm : 0 < m) : (if n.tmod m < 0 then n.tmod m + m else n.tmod m) = n % m := by
  have h1 := @Int.tmod_eq_emod n m
  have h2 := Int.emod_nonneg n (Int.ne_of_gt hm)
  have h3 := Int.emod_lt_of_pos n hm
  have h4 : (m.natAbs : Int) = m := Int.natAbs_of_nonneg (Int.le_of_lt hm)
  rw [h1]
  split <;> split <;> omega

end Go.Proofs.YtgjpjmolfdiahaaDoor.Bt
