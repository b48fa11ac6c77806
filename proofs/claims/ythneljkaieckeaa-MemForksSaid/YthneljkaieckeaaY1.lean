/- Plain facts on spans laid place by place (the document's Runs): they rise, do not touch, and hold just the places that are asked for. No program is spoken of here. -/
import Derived.Test.YthneljkaieckeaaY0
namespace Go.Proofs.Ythneljkaieckeaa
open Go.RowKit Go.Lib Go.Sort
set_option linter.unusedVariables false

/-- One more place put to the runs. -/
def rStep (n : Nat) (o : Nat → Int × Int) (x : Int) (b : Bool) : Nat × (Nat → Int × Int) :=
  if b then (if 0 < n ∧ (o (n - 1)).2 = x then (n, So.upd o (n - 1) ((o (n - 1)).1, x + 1)) else (n + 1, So.upd o n (x, x + 1))) else (n, o)
/-- The runs of the places below k that p holds. -/
def rTo (p : Int → Bool) : Nat → Nat × (Nat → Int × Int)
  | 0 => (0, fun _ => (0, 0))
  | k + 1 => rStep (rTo p k).1 (rTo p k).2 k (p k)
theorem rStep_le (n : Nat) (o : Nat → Int × Int) (x : Int) (b : Bool) : (rStep n o x b).1 ≤ n + 1 := by
  unfold rStep; split <;> (try split) <;> simp
theorem rTo_le (p : Int → Bool) (k : Nat) : (rTo p k).1 ≤ k := by
  induction k with
  | zero => simp [rTo]
  | succ k ih => have := rStep_le (rTo p k).1 (rTo p k).2 k (p k); show (rStep _ _ _ _).1 ≤ _; omega

/-- What is known of the runs below k. -/
structure Running (p : Int → Bool) (k n : Nat) (o : Nat → Int × Int) : Prop where
  up : Rising n o
  ends : ∀ i, i < n → (o i).2 ≤ k
  same : ∀ x, inN o x n = (decide (0 ≤ x ∧ x < k) && p x)
theorem Running.step {p : Int → Bool} {k n : Nat} {o : Nat → Int × Int} (h : Running p k n o) : Running p (k + 1) (rStep n o k (p k)).1 (rStep n o k (p k)).2 := by
  have cut : ∀ x, p k = false → (decide (0 ≤ x ∧ x < ((k + 1 : Nat) : Int)) && p x) = (decide (0 ≤ x ∧ x < (k : Int)) && p x) := by
    intro x hp
    by_cases e : x = k
    · subst e; rw [hp]; simp
    · congr 1
      simp only [decide_eq_decide]
      omega
  have more : ∀ x, p k = true → (decide (0 ≤ x ∧ x < ((k + 1 : Nat) : Int)) && p x) = ((decide (0 ≤ x ∧ x < (k : Int)) && p x) || decide (x = k)) := by
    intro x hp
    by_cases e : x = k
    · subst e; rw [hp]; simp; omega
    · have e1 : decide (x = (k : Int)) = false := by simpa using e
      rw [e1, Bool.or_false]
      congr 1
      simp only [decide_eq_decide]
      omega
  unfold rStep
  by_cases c1 : p k = true
  · rw [if_pos c1]
    by_cases c2 : 0 < n ∧ (o (n - 1)).2 = k
    · rw [if_pos c2]
      obtain ⟨m, rfl⟩ : ∃ j, n = j + 1 := ⟨n - 1, by omega⟩
      simp only [Nat.add_sub_cancel] at c2 ⊢
      have am := h.up.1 m (by omega)
      unfold isS at am
      refine ⟨⟨fun i hi => ?_, fun i hi => ?_⟩, fun i hi => ?_, fun x => ?_⟩
      · by_cases e : i = m
        · subst e; simp [So.upd, isS]; omega
        · simp [So.upd, e]; exact h.up.1 i hi
      · by_cases e : i + 1 = m
        · simp [So.upd, e, show ¬ i = m by omega]; have := h.up.2 i (by omega); rw [e] at this; exact this
        · simp [So.upd, e, show ¬ i = m by omega]; exact h.up.2 i hi
      · by_cases e : i = m
        · subst e; simp [So.upd]
        · simp [So.upd, e]; have := h.ends i hi; omega
      · have h1 := h.same x
        rw [more x c1, ← h1]
        simp only [inN]
        rw [inN_same (o := So.upd o m ((o m).1, (k : Int) + 1)) (p := o) (fun i hi => by simp [So.upd, show ¬ i = m by omega]), Bool.or_assoc]
        congr 1
        rw [Bool.eq_iff_iff, Bool.or_eq_true, holdsB_iff, holdsB_iff, decide_eq_true_eq]
        simp only [So.upd, if_true]
        omega
    · rw [if_neg c2]
      refine ⟨⟨fun i hi => ?_, fun i hi => ?_⟩, fun i hi => ?_, fun x => ?_⟩
      · by_cases e : i = n
        · subst e; simp [So.upd, isS]; omega
        · simp [So.upd, e]; exact h.up.1 i (by simp at hi; omega)
      · simp at hi
        by_cases e : i + 1 = n
        · subst e
          have := h.ends i (by omega)
          simp at c2
          simp [So.upd]
          omega
        · simp [So.upd, e, show ¬ i = n by omega]; exact h.up.2 i (by omega)
      · by_cases e : i = n
        · subst e; simp [So.upd]
        · simp [So.upd, e]; have := h.ends i (by simp at hi; omega); omega
      · rw [more x c1, ← h.same x]
        simp only [inN]
        rw [inN_same (o := So.upd o n ((k : Int), (k : Int) + 1)) (p := o) (fun i hi => by simp [So.upd, show ¬ i = n by omega])]
        congr 1
        rw [Bool.eq_iff_iff, holdsB_iff, decide_eq_true_eq]
        simp only [So.upd, if_true]
        omega
  · rw [if_neg c1]
    have c1' : p k = false := by simpa using c1
    exact ⟨h.up, fun i hi => by have := h.ends i hi; show (o i).2 ≤ _; omega, fun x => by rw [cut x c1']; exact h.same x⟩
theorem running (p : Int → Bool) (k : Nat) : Running p k (rTo p k).1 (rTo p k).2 := by
  induction k with
  | zero =>
    refine ⟨⟨fun i hi => by simp [rTo] at hi, fun i hi => by simp [rTo] at hi⟩, fun i hi => by simp [rTo] at hi, fun x => ?_⟩
    have : decide (0 ≤ x ∧ x < ((0 : Nat) : Int)) = false := by simp <;> omega
    rw [this]
    rfl
  | succ k ih => exact ih.step

theorem Merging.up {d : Nat → Int × Int} {k m : Nat} {o : Nat → Int × Int} (h : Merging d k m o) : Rising m o := ⟨h.are, h.rise⟩
/-- Sorted spans that rise and do not touch are left by Merge as they are. -/
theorem merge_same {d e : Nat → Int × Int} {n : Nat} (hr : Rising n d) (hp : So.Perm 0 n d e) (hs : So.Sorted e 0 n) : (mTo e n).1 = n ∧ ∀ i, i < n → (mTo e n).2 i = d i := by
  have m := merging hs n (Nat.le_refl _)
  have same : ∀ x, inN (mTo e n).2 x (mTo e n).1 = inN d x n := fun x => by rw [m.same, inN_perm hp]
  exact ⟨m.up.len hr same, fun i hi => (m.up.one hr same i (by rw [m.up.len hr same]; exact hi)).2⟩
/-- Merged spans of one row, in whatever order it came, are the same. -/
theorem merge_one {d d2 e e2 : Nat → Int × Int} {n n2 : Nat} (hp : So.Perm 0 n d e) (hs : So.Sorted e 0 n) (hp2 : So.Perm 0 n2 d2 e2) (hs2 : So.Sorted e2 0 n2) (hx : ∀ x, inN d x n = inN d2 x n2) :
    (mTo e n).1 = (mTo e2 n2).1 ∧ ∀ i, i < (mTo e n).1 → (mTo e n).2 i = (mTo e2 n2).2 i := by
  have m := merging hs n (Nat.le_refl _)
  have m2 := merging hs2 n2 (Nat.le_refl _)
  have same : ∀ x, inN (mTo e n).2 x (mTo e n).1 = inN (mTo e2 n2).2 x (mTo e2 n2).1 := fun x => by rw [m.same, m2.same, inN_perm hp, inN_perm hp2, hx]
  exact ⟨m.up.len m2.up same, fun i hi => (m.up.one m2.up same i hi).2⟩
/-- Merged spans of places below k are the runs of these places. -/
theorem merge_runs {d e : Nat → Int × Int} {n k : Nat} {p : Int → Bool} (hp : So.Perm 0 n d e) (hs : So.Sorted e 0 n) (hd : ∀ i, i < n → (d i).2 ≤ k) (hx : ∀ x : Int, 0 ≤ x → x < (k : Int) → p x = inN d x n) :
    (mTo e n).1 = (rTo p k).1 ∧ ∀ i, i < (mTo e n).1 → (mTo e n).2 i = (rTo p k).2 i := by
  have m := merging hs n (Nat.le_refl _)
  have r := running p k
  have same : ∀ x, inN (mTo e n).2 x (mTo e n).1 = inN (rTo p k).2 x (rTo p k).1 := fun x => by
    rw [m.same, r.same, inN_perm hp]
    by_cases c : 0 ≤ x ∧ x < (k : Int)
    · rw [hx x c.1 c.2]; simp [c]
    · have : inN d x n = false := by
        rw [← Bool.not_eq_true, inN_iff]
        rintro ⟨i, hi, h⟩
        rw [holdsB_iff] at h
        have := hd i hi
        omega
      rw [this]
      simp [c]
  exact ⟨m.up.len r.up same, fun i hi => (m.up.one r.up same i hi).2⟩
/-- A row turned about has the same places. -/
theorem back_same {d : Nat → Int × Int} {n : Nat} (x : Int) : inN (fun i => d (n - 1 - i)) x n = inN d x n := by
  rw [Bool.eq_iff_iff, inN_iff, inN_iff]
  constructor
  · rintro ⟨i, hi, h⟩; exact ⟨n - 1 - i, by omega, h⟩
  · rintro ⟨i, hi, h⟩
    refine ⟨n - 1 - i, by omega, ?_⟩
    show holdsB (d (n - 1 - (n - 1 - i))) x = true
    rw [show n - 1 - (n - 1 - i) = i by omega]
    exact h
end Go.Proofs.Ythneljkaieckeaa
