/- Plain facts on the check of sixteen bits: no program is spoken of here. -/
import Derived.Test.YtjhihccjhnlghaaB0
namespace Go.Proofs.Ytjhihccjhnlghaa.Cr
open Go.RowKit

/-- The number behind one bit more. -/
def push (x b : Nat) : Nat := (x * 2 % 65536) ^^^ (if x / 32768 = b then 0 else 4129)
/-- A bit of a byte, from the highest one (0) on. -/
def bitOf (b i : Nat) : Nat := b / 2 ^ (7 - i) % 2
def feed (x : Nat) (l : List Nat) : Nat := l.foldl push x
/-- The first k bits of a byte. -/
def bitsTo (b k : Nat) : List Nat := (List.range k).map (bitOf b)
def step (x b : Nat) : Nat := feed x (bitsTo b 8)
def from' (x : Nat) (l : List UInt8) : Nat := l.foldl (fun x b => step x b.toNat) x

theorem push_lt (x b : Nat) : push x b < 65536 := by
  have h : push x b < 2 ^ 16 := by
    apply Nat.xor_lt_two_pow
    · omega
    · split <;> decide
  simpa using h

theorem feed_lt (l : List Nat) (x : Nat) (h : x < 65536) : feed x l < 65536 := by
  induction l generalizing x with
  | nil => simpa [feed] using h
  | cons b l ih => exact ih _ (push_lt x b)

theorem step_lt (x b : Nat) (h : x < 65536) : step x b < 65536 := feed_lt _ _ h

theorem from_lt (l : List UInt8) (x : Nat) (h : x < 65536) : from' x l < 65536 := by
  induction l generalizing x with
  | nil => simpa [from'] using h
  | cons b l ih => exact ih _ (step_lt x _ h)

theorem bitsTo_succ (b k : Nat) : bitsTo b (k + 1) = bitsTo b k ++ [bitOf b k] := by
  simp [bitsTo, List.range_succ]

theorem feed_succ (x b k : Nat) : feed x (bitsTo b (k + 1)) = push (feed x (bitsTo b k)) (bitOf b k) := by
  rw [bitsTo_succ]
  simp [feed]

theorem feed_append (x : Nat) (l m : List Nat) : feed x (l ++ m) = feed (feed x l) m := by simp [feed]

theorem from_append (x : Nat) (l m : List UInt8) : from' x (l ++ m) = from' (from' x l) m := by simp [from']

theorem from_snoc (x : Nat) (l : List UInt8) (b : UInt8) : from' x (l ++ [b]) = step (from' x l) b.toNat := by simp [from']

theorem push_own (x : Nat) : push x (x / 32768) = x * 2 % 65536 := by simp [push]

/-- A number that is fed its own two bytes is 0. -/
theorem feed_own (x k : Nat) (hk : k ≤ 8) (h : x < 65536) : feed x (bitsTo (x / 256) k) = x * 2 ^ k % 65536 := by
  induction k with
  | zero => simp [bitsTo, feed]; omega
  | succ k ih =>
    rw [feed_succ, ih (by omega)]
    have hb : bitOf (x / 256) k = (x * 2 ^ k % 65536) / 32768 := by
      have hk' : k = 0 ∨ k = 1 ∨ k = 2 ∨ k = 3 ∨ k = 4 ∨ k = 5 ∨ k = 6 ∨ k = 7 := by omega
      rcases hk' with rfl | rfl | rfl | rfl | rfl | rfl | rfl | rfl <;> simp [bitOf] <;> omega
    rw [hb, push_own, Nat.pow_succ, ← Nat.mul_assoc]
    omega

theorem step_own (x : Nat) (h : x < 65536) : step x (x / 256) = x % 256 * 256 := by
  rw [step, feed_own x 8 (by omega) h]
  omega

theorem step_own2 (x : Nat) (h : x < 65536) : step (step x (x / 256)) (x % 256) = 0 := by
  rw [step_own x h]
  have h2 : x % 256 = (x % 256 * 256) / 256 := by omega
  have h3 := step_own (x % 256 * 256) (by omega)
  rw [← h2] at h3
  rw [h3]
  omega

theorem and65535 (n : Int) : bits .and .i64 n 65535 = n % 65536 := by
  show IntKind.i64.wrap ((BitVec.ofInt 64 n &&& BitVec.ofInt 64 65535).toNat : Int) = _
  have h : (BitVec.ofInt 64 (65535 : Int)).toNat = 2 ^ 16 - 1 := by decide
  rw [BitVec.toNat_and, h, Nat.and_two_pow_sub_one_eq_mod, BitVec.toNat_ofInt, IntKind.wrap_i64]
  omega

theorem and1 (a : Nat) (h : a < 9223372036854775808) : bits .and .i64 (a : Int) 1 = ((a % 2 : Nat) : Int) := by
  show IntKind.i64.wrap ((BitVec.ofInt 64 (a : Int) &&& BitVec.ofInt 64 1).toNat : Int) = _
  have h1 : (BitVec.ofInt 64 (1 : Int)).toNat = 2 ^ 1 - 1 := by decide
  rw [BitVec.toNat_and, h1, Nat.and_two_pow_sub_one_eq_mod, BitVec.toNat_ofInt, IntKind.wrap_i64]
  omega

theorem xorN (a b : Nat) (ha : a < 65536) (hb : b < 65536) : bits .xor .i64 (a : Int) (b : Int) = ((a ^^^ b : Nat) : Int) := by
  have hx : a ^^^ b < 2 ^ 16 := Nat.xor_lt_two_pow (by omega) (by omega)
  have k1 : (BitVec.ofInt 64 (a : Int)).toNat = a := by rw [BitVec.ofInt_natCast, BitVec.toNat_ofNat]; omega
  have k2 : (BitVec.ofInt 64 (b : Int)).toNat = b := by rw [BitVec.ofInt_natCast, BitVec.toNat_ofNat]; omega
  show IntKind.i64.wrap ((BitVec.ofInt 64 (a : Int) ^^^ BitVec.ofInt 64 (b : Int)).toNat : Int) = _
  rw [BitVec.toNat_xor, k1, k2, IntKind.wrap_i64]
  omega

theorem xor_mod2 (a b : Nat) : (a ^^^ b) % 2 = if a % 2 = b % 2 then 0 else 1 := by
  have h := Nat.xor_mod_two_pow (a := a) (b := b) (n := 1)
  simp only [Nat.pow_one] at h
  rw [h]
  rcases Nat.mod_two_eq_zero_or_one a with ha | ha <;> rcases Nat.mod_two_eq_zero_or_one b with hb | hb <;> simp [ha, hb]

/-- What one round of Step reckons. -/
theorem unlike (x b k : Nat) (hx : x < 65536) (hb : b < 256) : bits .and .i64 (bits .xor .i64 ((x : Int) / 32768) ((b : Int) / 2 ^ k)) 1 = ((if x / 32768 = b / 2 ^ k % 2 then 0 else 1 : Nat) : Int) := by
  have e1 : ((x : Int) / 32768) = ((x / 32768 : Nat) : Int) := by omega
  have e2 : ((b : Int) / 2 ^ k) = ((b / 2 ^ k : Nat) : Int) := by push_cast; rfl
  have h2 : b / 2 ^ k ≤ b := Nat.div_le_self _ _
  rw [e1, e2, xorN _ _ (by omega) (by omega)]
  have hl : x / 32768 ^^^ b / 2 ^ k < 2 ^ 16 := Nat.xor_lt_two_pow (by omega) (by omega)
  rw [and1 _ (by omega), xor_mod2]
  have : x / 32768 % 2 = x / 32768 := by omega
  rw [this]

theorem round_is (x b k : Nat) (hx : x < 65536) : bits .xor .i64 (bits .and .i64 ((x : Int) * 2) 65535) (((if x / 32768 = b / 2 ^ k % 2 then 0 else 1 : Nat) : Int) * 4129) = ((push x (b / 2 ^ k % 2) : Nat) : Int) := by
  have e1 : ((x : Int) * 2) % 65536 = ((x * 2 % 65536 : Nat) : Int) := by omega
  rw [and65535, e1]
  by_cases h : x / 32768 = b / 2 ^ k % 2
  · rw [if_pos h]
    have := xorN (x * 2 % 65536) 0 (by omega) (by omega)
    simp only [push, if_pos h]
    simpa using this
  · rw [if_neg h]
    have := xorN (x * 2 % 65536) 4129 (by omega) (by omega)
    simp only [push, if_neg h]
    simpa using this
end Go.Proofs.Ytjhihccjhnlghaa.Cr
