/- Floats that are whole numbers: what they are as data, and what sums, products, comparisons and conversions make of them. -/
import Derived.WalkLawsBesides
namespace Go.Proofs.Ytnbkghlcpcmigaa
open Go

namespace Wh
open Ieee

theorem two_pow_pos (n : Nat) : 0 < 2 ^ n := Nat.pow_pos (by decide)
theorem signWeight_eq : Ieee.double.signWeight = 9223372036854775808 := by decide +kernel
theorem binade_eq : Ieee.double.binade = 4503599627370496 := by decide +kernel
theorem infRung_eq : Ieee.double.infRung = 9218868437227405312 := by decide +kernel
theorem leastPlace_eq : Ieee.double.leastPlace = -1074 := by decide +kernel

theorem log2_of {n k : Nat} (h1 : 2 ^ k ≤ n) (h2 : n < 2 ^ (k + 1)) : n.log2 = k := by
  have hn : n ≠ 0 := by have := two_pow_pos k; omega
  exact (Nat.log2_eq_iff hn).2 ⟨h1, h2⟩

theorem pow_split {a b : Nat} (h : a ≤ b) : 2 ^ b = 2 ^ a * 2 ^ (b - a) := by
  rw [← Nat.pow_add, Nat.add_sub_cancel' h]

/-- A cut that drops nothing but zeros. -/
theorem cut_whole (way : Toward) (neg : Bool) (m drop : Nat) (h : drop ≤ (m * 2 ^ drop).log2 + 2 ∨ m = 0) : way.cut neg (m * 2 ^ drop) drop = m := by
  unfold Toward.cut
  rcases h with h | rfl
  · have hg : (1 <<< min drop ((m * 2 ^ drop).log2 + 2) : Nat) = 2 ^ drop := by
      rw [Nat.min_eq_left h, Nat.shiftLeft_eq, Nat.one_mul]
    have hp := two_pow_pos drop
    have hd : m * 2 ^ drop / 2 ^ drop = m := Nat.mul_div_cancel _ hp
    have hr : m * 2 ^ drop % 2 ^ drop = 0 := Nat.mul_mod_left _ _
    simp only [hg, hd, hr]
    cases way <;> cases neg <;> simp <;> omega
  · have hz : ∀ g : Nat, (0 : Nat) / g = 0 := Nat.zero_div
    have hz' : ∀ g : Nat, (0 : Nat) % g = 0 := Nat.zero_mod
    simp only [Nat.zero_mul, hz, hz']
    have hp : (1 <<< min drop ((0 : Nat).log2 + 2) : Nat) ≠ 0 := by
      rw [Nat.shiftLeft_eq, Nat.one_mul]; exact Nat.ne_of_gt (two_pow_pos _)
    cases way <;> cases neg <;> simp [hp]

theorem read_zero (neg : Bool) : Ieee.double.read (Ieee.double.word neg 0) = .number neg 0 (-1074) := by
  cases neg <;> decide +kernel

/-- A word of a sign and a rung in a normal binade. -/
theorem read_word (neg : Bool) (v r : Nat) (hv : v ≤ 1074) (hr : r < 4503599627370496) :
    Ieee.double.read (Ieee.double.word neg ((v + 1) * 4503599627370496 + r)) = .number neg (4503599627370496 + r) (-1074 + (v : Int)) := by
  obtain ⟨q, hq⟩ : ∃ q, q = (v + 1) * 4503599627370496 + r := ⟨_, rfl⟩
  have hlt : q < 9218868437227405312 := by omega
  have hge : 4503599627370496 ≤ q := by omega
  have e1 : q % 4503599627370496 = r := by omega
  have e2 : q / 4503599627370496 = v + 1 := by omega
  rw [← hq]
  clear hq
  have hn : (Ieee.double.word neg q / Ieee.double.signWeight % 2 == 1) = neg := by
    unfold Format.word
    rw [signWeight_eq]
    cases neg
    · simp only [Bool.false_eq_true, if_false, beq_eq_false_iff_ne]; omega
    · simp only [if_true, beq_iff_eq]; omega
  have hm : Ieee.double.word neg q % Ieee.double.signWeight = q := by
    unfold Format.word
    rw [signWeight_eq]
    cases neg
    · simp only [Bool.false_eq_true, if_false]; omega
    · simp only [if_true]; omega
  unfold Format.read
  simp only [hn, hm, binade_eq, infRung_eq, leastPlace_eq]
  rw [if_neg (Nat.not_lt.2 hge), if_pos hlt, e1, e2]
  rfl

/-- A whole number below 2^53, wherever its digits stand, is written as it is. -/
theorem near_read (neg : Bool) (N t : Nat) (h : N < 9007199254740992) : ∃ t' : Nat, Ieee.double.read (Ieee.double.nearest neg (N * 2 ^ t) (-(t : Int))) = .number neg (N * 2 ^ t') (-(t' : Int)) := by
  by_cases h0 : N = 0
  · subst h0
    refine ⟨1074, ?_⟩
    unfold Format.nearest
    simp only [Nat.zero_mul, if_true]
    rw [read_zero]
    rfl
  · have hl1 : 2 ^ N.log2 ≤ N := Nat.log2_self_le h0
    have hl2 : N < 2 ^ (N.log2 + 1) := Nat.lt_log2_self
    have hl : N.log2 ≤ 52 := by
      rcases Nat.lt_or_ge 52 N.log2 with hc | hc
      · have : 2 ^ 53 ≤ 2 ^ N.log2 := Nat.pow_le_pow_right (by decide) hc
        have e : (2 : Nat) ^ 53 = 9007199254740992 := by decide +kernel
        omega
      · exact hc
    generalize N.log2 = l at hl1 hl2 hl
    have hpt := two_pow_pos t
    have hm0 : N * 2 ^ t ≠ 0 := by
      intro e
      rcases Nat.mul_eq_zero.1 e with e | e <;> omega
    have hlog : (N * 2 ^ t).log2 = l + t := by
      refine log2_of ?_ ?_
      · rw [Nat.pow_add]; exact Nat.mul_le_mul_right _ hl1
      · rw [show l + t + 1 = (l + 1) + t by omega, Nat.pow_add]; exact Nat.mul_lt_mul_of_pos_right hl2 hpt
    obtain ⟨u, hu⟩ : ∃ u, u = 52 - l := ⟨_, rfl⟩
    have hK1 : 4503599627370496 ≤ N * 2 ^ u := by
      have e : 2 ^ l * 2 ^ u = 4503599627370496 := by rw [← Nat.pow_add, show l + u = 52 by omega]
      rw [← e]; exact Nat.mul_le_mul_right _ hl1
    have hK2 : N * 2 ^ u < 9007199254740992 := by
      have e : 2 ^ (l + 1) * 2 ^ u = 9007199254740992 := by rw [← Nat.pow_add, show l + 1 + u = 53 by omega]
      rw [← e]; exact Nat.mul_lt_mul_of_pos_right hl2 (two_pow_pos u)
    have hlast : max (-(t : Int) + ((N * 2 ^ t).log2 : Nat) - (Ieee.double.fractionBits : Nat)) Ieee.double.leastPlace = -(u : Int) := by
      rw [hlog, leastPlace_eq]
      have : (Ieee.double.fractionBits : Nat) = 52 := rfl
      rw [this]
      omega
    have hkept : Toward.even.cut neg ((N * 2 ^ t) <<< (-(t : Int) - -(u : Int)).toNat) (-(u : Int) - -(t : Int)).toNat = N * 2 ^ u := by
      rw [Nat.shiftLeft_eq]
      rcases Nat.lt_or_ge u t with hc | hc
      · rw [show (-(t : Int) - -(u : Int)).toNat = 0 by omega, show (-(u : Int) - -(t : Int)).toNat = t - u by omega, Nat.pow_zero, Nat.mul_one, pow_split (Nat.le_of_lt hc), ← Nat.mul_assoc]
        refine cut_whole _ _ _ _ (.inl ?_)
        rw [Nat.mul_assoc, ← pow_split (Nat.le_of_lt hc), hlog]
        omega
      · rw [show (-(t : Int) - -(u : Int)).toNat = u - t by omega, show (-(u : Int) - -(t : Int)).toNat = 0 by omega, Nat.mul_assoc, ← pow_split hc]
        have := cut_whole .even neg (N * 2 ^ u) 0 (.inl (by omega))
        simpa using this
    refine ⟨u, ?_⟩
    unfold Format.nearest
    rw [if_neg hm0]
    simp only [hlast, hkept]
    simp only [binade_eq, infRung_eq, leastPlace_eq]
    obtain ⟨r, hr⟩ : ∃ r, N * 2 ^ u = 4503599627370496 + r := ⟨N * 2 ^ u - 4503599627370496, by omega⟩
    rw [hr]
    obtain ⟨v, hv⟩ : ∃ v, v + u = 1074 := ⟨1074 - u, by omega⟩
    have e0 : (-(u : Int) - -1074).toNat = v := by omega
    rw [e0]
    have e1 : v * 4503599627370496 + (4503599627370496 + r) = (v + 1) * 4503599627370496 + r := by rw [Nat.add_mul, Nat.one_mul, Nat.add_assoc]
    rw [e1, Nat.min_eq_left (by omega), read_word neg v r (by omega) (by omega)]
    congr 1
    omega

/-- A datum is the whole number n. -/
def Dt (d : Datum) (n : Int) : Prop := ∃ (s : Bool) (t : Nat), d = .number s (n.natAbs * 2 ^ t) (-(t : Int)) ∧ (n ≠ 0 → s = decide (n < 0))

theorem Dt.of (s : Bool) (n : Int) (t : Nat) (h : n ≠ 0 → s = decide (n < 0)) : Dt (.number s (n.natAbs * 2 ^ t) (-(t : Int))) n := ⟨s, t, rfl, h⟩

theorem signed_of {s : Bool} {n : Int} (t k : Nat) (h : n ≠ 0 → s = decide (n < 0)) : signed s (n.natAbs * 2 ^ t) k = n * ((2 ^ (t + k) : Nat) : Int) := by
  unfold signed
  rw [Nat.shiftLeft_eq, Nat.mul_assoc, ← Nat.pow_add]
  generalize 2 ^ (t + k) = K
  by_cases h0 : n = 0
  · subst h0; simp
  · rw [h h0]
    by_cases hn : n < 0
    · simp only [hn, decide_true, if_true]
      have : (n.natAbs : Int) = -n := by omega
      rw [Int.natCast_mul, this, Int.neg_mul, Int.neg_neg]
    · simp only [hn, decide_false, Bool.false_eq_true, if_false]
      have : (n.natAbs : Int) = n := by omega
      rw [Int.natCast_mul, this]

theorem Dt.sum {d d' : Datum} {n m : Int} (h : Dt d n) (h' : Dt d' m) : ∃ e, d.sum d' = some e ∧ Dt e (n + m) := by
  obtain ⟨s, t, rfl, hs⟩ := h
  obtain ⟨s', t', rfl, hs'⟩ := h'
  refine ⟨_, rfl, ?_⟩
  have hb : min (-(t : Int)) (-(t' : Int)) = -((max t t' : Nat) : Int) := by omega
  have e1 : (-(t : Int) - -((max t t' : Nat) : Int)).toNat = max t t' - t := by omega
  have e2 : (-(t' : Int) - -((max t t' : Nat) : Int)).toNat = max t t' - t' := by omega
  have hT : signed s (n.natAbs * 2 ^ t) (max t t' - t) + signed s' (m.natAbs * 2 ^ t') (max t t' - t') = (n + m) * ((2 ^ (max t t') : Nat) : Int) := by
    rw [signed_of t _ hs, signed_of t' _ hs', show t + (max t t' - t) = max t t' by omega, show t' + (max t t' - t') = max t t' by omega, Int.add_mul]
  show Dt (.number _ _ _) (n + m)
  rw [hb, e1, e2, hT]
  have hp : (0 : Int) < ((2 ^ (max t t') : Nat) : Int) := by exact_mod_cast two_pow_pos _
  have hna : ((n + m) * ((2 ^ (max t t') : Nat) : Int)).natAbs = (n + m).natAbs * 2 ^ (max t t') := by rw [Int.natAbs_mul]; rfl
  rw [hna]
  refine Dt.of _ _ _ fun h0 => ?_
  have hne : (n + m) * ((2 ^ (max t t') : Nat) : Int) ≠ 0 := by
    intro e
    rcases Int.mul_eq_zero.1 e with e | e <;> omega
  rw [if_neg hne]
  generalize ((2 ^ (max t t') : Nat) : Int) = K at hp
  by_cases hn : n + m < 0
  · rw [decide_eq_true hn, decide_eq_true (Int.mul_neg_of_neg_of_pos hn hp)]
  · rw [decide_eq_false hn, decide_eq_false (Int.not_lt.2 (Int.mul_nonneg (by omega) (by omega)))]

theorem Dt.product {d d' : Datum} {n m : Int} (h : Dt d n) (h' : Dt d' m) : ∃ e, d.product d' = some e ∧ Dt e (n * m) := by
  obtain ⟨s, t, rfl, hs⟩ := h
  obtain ⟨s', t', rfl, hs'⟩ := h'
  refine ⟨_, rfl, ?_⟩
  have e1 : n.natAbs * 2 ^ t * (m.natAbs * 2 ^ t') = (n * m).natAbs * 2 ^ (t + t') := by
    rw [Int.natAbs_mul, Nat.pow_add]
    simp only [Nat.mul_assoc, Nat.mul_left_comm]
  have e2 : -(t : Int) + -(t' : Int) = -((t + t' : Nat) : Int) := by omega
  rw [e1, e2]
  refine Dt.of _ _ _ fun h0 => ?_
  have hn : n ≠ 0 := by rintro rfl; simp at h0
  have hm : m ≠ 0 := by rintro rfl; simp at h0
  rw [hs hn, hs' hm]
  by_cases a : n < 0 <;> by_cases b : m < 0
  · have := Int.mul_pos_of_neg_of_neg a b
    simp [a, b]; omega
  · have := Int.mul_neg_of_neg_of_pos a (show 0 < m by omega)
    simp [a, b, this]
  · have := Int.mul_neg_of_pos_of_neg (show 0 < n by omega) b
    simp [a, b, this]
  · have := Int.mul_pos (show 0 < n by omega) (show 0 < m by omega)
    simp [a, b]; omega

theorem Dt.opposite {d : Datum} {n : Int} (h : Dt d n) : Dt d.opposite (-n) := by
  obtain ⟨s, t, rfl, hs⟩ := h
  show Dt (.number (!s) _ _) (-n)
  rw [show n.natAbs = (-n).natAbs by omega]
  refine Dt.of _ _ _ fun h0 => ?_
  rw [hs (by omega)]
  by_cases a : n < 0
  · rw [decide_eq_true a, decide_eq_false (by omega)]; rfl
  · rw [decide_eq_false a, decide_eq_true (by omega)]; rfl

theorem Dt.order {d d' : Datum} {n m : Int} (h : Dt d n) (h' : Dt d' m) : d.order d' = some (compare n m) := by
  obtain ⟨s, t, rfl, hs⟩ := h
  obtain ⟨s', t', rfl, hs'⟩ := h'
  have hb : min (-(t : Int)) (-(t' : Int)) = -((max t t' : Nat) : Int) := by omega
  have e1 : (-(t : Int) - -((max t t' : Nat) : Int)).toNat = max t t' - t := by omega
  have e2 : (-(t' : Int) - -((max t t' : Nat) : Int)).toNat = max t t' - t' := by omega
  show some (compare _ _) = _
  rw [hb, e1, e2, signed_of t _ hs, signed_of t' _ hs', show t + (max t t' - t) = max t t' by omega, show t' + (max t t' - t') = max t t' by omega]
  have hp : (0 : Int) < ((2 ^ (max t t') : Nat) : Int) := by exact_mod_cast two_pow_pos _
  generalize ((2 ^ (max t t') : Nat) : Int) = K at hp
  congr 1
  rcases Int.lt_trichotomy n m with hc | rfl | hc
  · have : n * K < m * K := Int.mul_lt_mul_of_pos_right hc hp
    rw [Int.compare_eq_lt.2 this, Int.compare_eq_lt.2 hc]
  · simp
  · have : m * K < n * K := Int.mul_lt_mul_of_pos_right hc hp
    rw [Int.compare_eq_gt.2 this, Int.compare_eq_gt.2 hc]

theorem Dt.integral {d : Datum} {n : Int} (way : Toward) (h : Dt d n) : Dt (d.integral way) n := by
  obtain ⟨s, t, rfl, hs⟩ := h
  refine ⟨s, 0, ?_, hs⟩
  show Datum.number s (way.cut s ((n.natAbs * 2 ^ t) <<< (-(t : Int)).toNat) (- -(t : Int)).toNat) 0 = _
  rw [show (-(t : Int)).toNat = 0 by omega, show (- -(t : Int)).toNat = t by omega, Nat.shiftLeft_eq, Nat.pow_zero, Nat.mul_one, cut_whole, Nat.mul_one]
  · rfl
  · by_cases h0 : n.natAbs = 0
    · exact .inr h0
    · refine .inl ?_
      have h1 : 2 ^ t ≤ n.natAbs * 2 ^ t := Nat.le_mul_of_pos_left _ (by omega)
      have h2 : t ≤ (n.natAbs * 2 ^ t).log2 := (Nat.le_log2 (by
        intro e
        rcases Nat.mul_eq_zero.1 e with e | e
        · exact h0 e
        · have := two_pow_pos t; omega)).2 h1
      omega

/-- A word is the whole number n. -/
def V (b : Nat) (n : Int) : Prop := Dt (Ieee.double.read b) n

theorem Dt.write {d : Datum} {n : Int} (h : Dt d n) (hn : n.natAbs < 9007199254740992) : V (Ieee.double.write d) n := by
  obtain ⟨s, t, rfl, hs⟩ := h
  obtain ⟨t', ht⟩ := near_read s n.natAbs t hn
  exact ⟨s, t', ht, hs⟩

theorem V.add {a b : Nat} {n m : Int} (h : V a n) (h' : V b m) (hn : (n + m).natAbs < 9007199254740992) : ∃ r, floatBits .add .f64 a b = some r ∧ V r (n + m) := by
  obtain ⟨e, he, hd⟩ := Dt.sum h h'
  exact ⟨_, by show Option.map Ieee.double.write _ = _; exact congrArg (Option.map Ieee.double.write) he, hd.write hn⟩
theorem V.sub {a b : Nat} {n m : Int} (h : V a n) (h' : V b m) (hn : (n - m).natAbs < 9007199254740992) : ∃ r, floatBits .sub .f64 a b = some r ∧ V r (n - m) := by
  obtain ⟨e, he, hd⟩ := Dt.sum h (Dt.opposite h')
  exact ⟨_, by show Option.map Ieee.double.write _ = _; exact congrArg (Option.map Ieee.double.write) he, hd.write hn⟩
theorem V.mul {a b : Nat} {n m : Int} (h : V a n) (h' : V b m) (hn : (n * m).natAbs < 9007199254740992) : ∃ r, floatBits .mul .f64 a b = some r ∧ V r (n * m) := by
  obtain ⟨e, he, hd⟩ := Dt.product h h'
  exact ⟨_, by show Option.map Ieee.double.write _ = _; exact congrArg (Option.map Ieee.double.write) he, hd.write hn⟩
theorem V.order {a b : Nat} {n m : Int} (h : V a n) (h' : V b m) : FloatKind.f64.format.order a b = some (compare n m) := Dt.order h h'
theorem V.ofInt {n : Int} (hn : n.natAbs < 9007199254740992) : V (floatOfInt .f64 n) n := by
  refine Dt.write (d := .number (n < 0) n.natAbs 0) ⟨_, 0, ?_, fun _ => rfl⟩ hn
  simp
end Wh
end Go.Proofs.Ytnbkghlcpcmigaa
