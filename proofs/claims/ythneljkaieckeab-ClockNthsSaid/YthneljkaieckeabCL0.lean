/- Plain facts on ticks and frames: no program is spoken of here. -/
import Derived.Test.YthneljkaieckeabCL1
namespace Go.Proofs.Ythneljkaieckeab
open Go.RowKit Go.Lib Go.Sort
set_option linter.unusedVariables false

/-- Has a frame of f ticks such an offset? -/
def offB (o f : Int) : Bool := decide (1 ≤ f ∧ f ≤ 4096 ∧ 0 ≤ o ∧ o < f)
theorem offB_iff (o f : Int) : offB o f = true ↔ 1 ≤ f ∧ f ≤ 4096 ∧ 0 ≤ o ∧ o < f := by simp [offB]
theorem offB_is (o f : Int) : offB o f = (rightB f && holdsB (0, f) o) := by
  rw [Bool.eq_iff_iff, offB_iff]
  simp only [rightB, holdsB, Bool.and_eq_true, decide_eq_true_eq]
  omega

theorem ticks {t f : Int} (hf : 0 < f) : t = f * (t / f) + t % f ∧ 0 ≤ t % f ∧ t % f < f := ⟨(Int.mul_ediv_add_emod t f).symm, Int.emod_nonneg _ (by omega), Int.emod_lt_of_pos _ hf⟩
/-- A tick's frame and offset are one pair. -/
theorem tick_one {f q r : Int} (h0 : 0 ≤ r) (h1 : r < f) : (q * f + r) / f = q ∧ (q * f + r) % f = r := by
  have e : q * f + r = r + f * q := by rw [Int.mul_comm, Int.add_comm]
  have hf : f ≠ 0 := by omega
  constructor
  · rw [e, Int.add_mul_ediv_left _ _ hf, Int.ediv_eq_zero_of_lt h0 h1, Int.zero_add]
  · rw [e, Int.add_mul_emod_self_left, Int.emod_eq_of_lt h0 h1]
theorem tick_next {t f : Int} (hf : 0 < f) (h : t % f + 1 < f) : (t + 1) / f = t / f ∧ (t + 1) % f = t % f + 1 := by
  obtain ⟨a, b, c⟩ := ticks (t := t) hf
  have e : t + 1 = (t / f) * f + (t % f + 1) := by rw [Int.mul_comm]; omega
  have := tick_one (f := f) (q := t / f) (r := t % f + 1) (by omega) h
  rw [← e] at this
  exact this
theorem tick_turn {t f : Int} (hf : 0 < f) (h : ¬ t % f + 1 < f) : (t + 1) / f = t / f + 1 ∧ (t + 1) % f = 0 := by
  obtain ⟨a, b, c⟩ := ticks (t := t) hf
  have e : t + 1 = (t / f + 1) * f + 0 := by rw [Int.add_mul, Int.mul_comm]; omega
  have := tick_one (f := f) (q := t / f + 1) (r := 0) (by omega) hf
  rw [← e] at this
  exact this

/-- The first tick from one on that has an offset. -/
def nextV (t o f : Int) : Int := if offB o f = true ∧ t ≤ 2147483647 then (if o < (max t 0) % f then max t 0 + (o + f) - (max t 0) % f else max t 0 + o - (max t 0) % f) else -1
theorem next_is {t o f : Int} (h : offB o f = true) (ht : t ≤ 2147483647) : max t 0 ≤ nextV t o f ∧ nextV t o f - max t 0 < f ∧ nextV t o f % f = o := by
  have h' := (offB_iff o f).1 h
  obtain ⟨f1, f2, o1, o2⟩ := h'
  obtain ⟨a, b, c⟩ := ticks (t := max t 0) (f := f) (by omega)
  unfold nextV
  rw [if_pos ⟨h, ht⟩]
  split
  · refine ⟨by omega, by omega, ?_⟩
    have e : max t 0 + (o + f) - (max t 0) % f = ((max t 0) / f + 1) * f + o := by rw [Int.add_mul, Int.mul_comm]; omega
    rw [e]
    exact (tick_one o1 o2).2
  · refine ⟨by omega, by omega, ?_⟩
    have e : max t 0 + o - (max t 0) % f = ((max t 0) / f) * f + o := by rw [Int.mul_comm]; omega
    rw [e]
    exact (tick_one o1 o2).2
/-- No two ticks of one offset are nearer than a frame. -/
theorem off_far {a b f : Int} (hf : 0 < f) (hab : a < b) (h : b - a < f) : a % f ≠ b % f := by
  intro e
  have h1 := Int.emod_emod_of_dvd a (Int.dvd_refl f)
  obtain ⟨a1, a2, a3⟩ := ticks (t := a) hf
  obtain ⟨b1, b2, b3⟩ := ticks (t := b) hf
  have h2 : b - a = f * (b / f - a / f) := by rw [Int.mul_sub]; omega
  rcases Int.lt_trichotomy (b / f - a / f) 0 with q | q | q
  · have := Int.mul_le_mul_of_nonneg_left (show b / f - a / f ≤ -1 by omega) (Int.le_of_lt hf)
    omega
  · rw [q, Int.mul_zero] at h2
    omega
  · have := Int.mul_le_mul_of_nonneg_left (show 1 ≤ b / f - a / f by omega) (Int.le_of_lt hf)
    omega

/-- How many ticks ahead of one have an offset that is due. -/
def aheadV (t : Int) (p : Int × Int) (f : Int) : Int := t / f * (p.2 - p.1) + (if t % f - p.1 < 0 then 0 else if p.2 - p.1 < t % f - p.1 then p.2 - p.1 else t % f - p.1)
theorem ahead_next {t f : Int} {p : Int × Int} (hf : 0 < f) (h0 : 0 ≤ p.1) (h1 : p.1 < p.2) (h2 : p.2 ≤ f) : aheadV (t + 1) p f = aheadV t p f + (if holdsB p (t % f) then 1 else 0) := by
  obtain ⟨a, b, c⟩ := ticks (t := t) hf
  have hh : holdsB p (t % f) = true ↔ p.1 ≤ t % f ∧ t % f < p.2 := by simp [holdsB, h0]
  unfold aheadV
  by_cases h : t % f + 1 < f
  · obtain ⟨e1, e2⟩ := tick_next hf h
    rw [e1, e2]
    by_cases k : holdsB p (t % f) = true
    · rw [if_pos k]; rw [hh] at k; repeat' split
      all_goals omega
    · rw [if_neg k]; rw [hh] at k; repeat' split
      all_goals omega
  · obtain ⟨e1, e2⟩ := tick_turn hf h
    rw [e1, e2, Int.add_mul, Int.one_mul]
    by_cases k : holdsB p (t % f) = true
    · rw [if_pos k]; rw [hh] at k; repeat' split
      all_goals omega
    · rw [if_neg k]; rw [hh] at k; repeat' split
      all_goals omega
theorem ahead_more {f : Int} {p : Int × Int} (hf : 0 < f) (h0 : 0 ≤ p.1) (h1 : p.1 < p.2) (h2 : p.2 ≤ f) (t : Int) (k : Nat) : aheadV t p f ≤ aheadV (t + k) p f ∧ aheadV (t + k) p f ≤ aheadV t p f + k := by
  induction k with
  | zero => simp
  | succ k ih =>
    have e : t + ((k + 1 : Nat) : Int) = (t + k) + 1 := by omega
    rw [e, ahead_next hf h0 h1 h2]
    split <;> omega
/-- How many of the ticks from a on, k of them, have an offset of p. -/
def cntT (p : Int × Int) (f a : Int) : Nat → Int
  | 0 => 0
  | k + 1 => cntT p f a k + (if holdsB p ((a + k) % f) then 1 else 0)
theorem cntT_is {f : Int} {p : Int × Int} (hf : 0 < f) (h0 : 0 ≤ p.1) (h1 : p.1 < p.2) (h2 : p.2 ≤ f) (a : Int) (k : Nat) : cntT p f a k = aheadV (a + k) p f - aheadV a p f := by
  induction k with
  | zero => simp [cntT]
  | succ k ih =>
    have e : a + ((k + 1 : Nat) : Int) = (a + k) + 1 := by omega
    rw [e, ahead_next hf h0 h1 h2, cntT, ih]
    omega
theorem cntT_same {f : Int} {p q : Int × Int} (h : ∀ x, 0 ≤ x → x < f → holdsB p x = holdsB q x) (hf : 0 < f) (a : Int) (k : Nat) : cntT p f a k = cntT q f a k := by
  induction k with
  | zero => rfl
  | succ k ih =>
    obtain ⟨_, b, c⟩ := ticks (t := a + k) hf
    rw [cntT, cntT, ih, h _ b c]
theorem cntT_none {f : Int} {p : Int × Int} (h : ∀ x, 0 ≤ x → x < f → holdsB p x = false) (hf : 0 < f) (a : Int) (k : Nat) : cntT p f a k = 0 := by
  induction k with
  | zero => rfl
  | succ k ih =>
    obtain ⟨_, b, c⟩ := ticks (t := a + k) hf
    rw [cntT, ih, h _ b c]
    rfl
theorem cntT_le (p : Int × Int) (f a : Int) (k : Nat) : 0 ≤ cntT p f a k ∧ cntT p f a k ≤ k := by
  induction k with
  | zero => simp [cntT]
  | succ k ih => rw [cntT]; split <;> omega
/-- What two spans have in common lies in both. -/
theorem meet_in {p : Int × Int} {f : Int} (hm : meetsB p (0, f) = true) : 0 ≤ (meetV p (0, f)).1 ∧ (meetV p (0, f)).1 < (meetV p (0, f)).2 ∧ (meetV p (0, f)).2 ≤ f := by
  have h := hm
  rw [meets_iff] at h
  simp only [Bool.and_eq_true, isB, decide_eq_true_eq] at h
  obtain ⟨⟨_, _⟩, h3, h4⟩ := h
  unfold meetV
  rw [if_pos hm]
  refine ⟨h3, h4, ?_⟩
  simp only [bothOf]
  split <;> omega
theorem meet_holds {p : Int × Int} {f x : Int} (h0 : 0 ≤ x) (h1 : x < f) : holdsB (meetV p (0, f)) x = holdsB p x := by
  rw [holds_meet]
  have : holdsB (0, f) x = true := by simp [holdsB, h0, h1]
  rw [this, Bool.and_true]
theorem meet_not {p : Int × Int} {f x : Int} (hm : meetsB p (0, f) = false) (h0 : 0 ≤ x) (h1 : x < f) : holdsB p x = false := by
  have h := meet_holds (p := p) h0 h1
  have e : meetV p (0, f) = (0, 0) := by simp [meetV, hm]
  rw [e] at h
  rw [← h]
  simp [holdsB]
end Go.Proofs.Ythneljkaieckeab
