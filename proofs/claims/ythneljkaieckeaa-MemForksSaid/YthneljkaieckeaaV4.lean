/- Plain facts: how many places spans have that are apart; and in whatever order. -/
import Derived.Test.YthneljkaieckeaaV3
namespace Go.Proofs.Ythneljkaieckeaa
open Go.RowKit Go.Lib Go.Sort
set_option linter.unusedVariables false

/-- The lengths of the first k spans, as the text adds them up. -/
def allN (d : Nat → Int × Int) : Nat → Int
  | 0 => 0
  | k + 1 => if isB (d k) then wrap64 (allN d k + wrap64 ((d k).2 - (d k).1)) else allN d k
theorem all_cnt {d : Nat → Int × Int} {n : Nat} (h1 : ∀ i, i < n → isS (d i)) (h2 : ∀ i j, i < j → j < n → ∀ x, ¬ (holdsB (d i) x = true ∧ holdsB (d j) x = true)) (h3 : ∀ i, i < n → (d i).2 ≤ 300) (k : Nat) (hk : k ≤ n) : allN d k = cnt (fun x => inN d x k) 300 := by
  induction k with
  | zero =>
    have z : ∀ N, cnt (fun x => inN d x 0) N = 0 := fun N => by
      induction N with
      | zero => rfl
      | succ N ih => simp only [cnt]; rw [ih]; rfl
    rw [z]
    rfl
  | succ k ih =>
    have e := cnt_or (p := fun x => inN d x k) (q := fun x => holdsB (d k) x) (N := 300) (fun x _ => by
      rintro ⟨a, b⟩
      rw [inN_iff] at a
      obtain ⟨i, hi, a⟩ := a
      exact h2 i k hi (by omega) x ⟨a, b⟩)
    have s := h1 k (by omega)
    have l := h3 k (by omega)
    have sb := (isB_iff _).2 s
    unfold isS at s
    have c := cnt_span (a := (d k).1) (b := (d k).2) s.1 (by omega) (N := 300)
    have t := cnt_le (fun x => inN d x (k + 1)) 300
    have e' : cnt (fun x => inN d x (k + 1)) 300 = cnt (fun x => inN d x k) 300 + cnt (fun x => holdsB (d k) x) 300 := e
    show (if isB (d k) then wrap64 (allN d k + wrap64 ((d k).2 - (d k).1)) else allN d k) = _
    rw [if_pos sb, ih (by omega), e']
    have c' : cnt (fun x => holdsB (d k) x) 300 = min (d k).2 300 - min (d k).1 300 := c
    have u := cnt_le (fun x => inN d x k) 300
    rw [c']
    rw [w64_id ((d k).2 - (d k).1) (by omega) (by omega), w64_id _ (by omega) (by omega)]
    omega
theorem inN_perm {n : Nat} {d e : Nat → Int × Int} (h : So.Perm 0 n d e) (x : Int) : inN e x n = inN d x n := by
  obtain ⟨s, t, h1, h2, h3, h4⟩ := h
  have ht : ∀ k, k < n → t k < n := fun k hk => by
    rcases Nat.lt_or_ge (t k) n with h | h
    · exact h
    · have := h3 (t k) (by omega)
      rw [h2] at this
      omega
  have hs : ∀ k, k < n → s k < n := fun k hk => by
    rcases Nat.lt_or_ge (s k) n with h | h
    · exact h
    · have := h3 (s k) (by omega)
      have e2 := h1 (s k)
      rw [this] at e2
      have e1 := h1 k
      rw [e1] at e2
      omega
  rw [Bool.eq_iff_iff, inN_iff, inN_iff]
  constructor
  · rintro ⟨i, hi, h⟩
    exact ⟨s i, hs i hi, by rw [← h4]; exact h⟩
  · rintro ⟨i, hi, h⟩
    exact ⟨t i, ht i hi, by rw [h4, h2]; exact h⟩
theorem perm_ends {n : Nat} {d e : Nat → Int × Int} (h : So.Perm 0 n d e) (hd : ∀ i, i < n → (d i).2 ≤ 300) : ∀ i, i < n → (e i).2 ≤ 300 := fun i hi => by
  obtain ⟨j, _, j2, e⟩ := h.into (k := i) ⟨by omega, hi⟩
  rw [e]; exact hd j j2
/-- What Total answers of small spans. -/
theorem total_is {n : Nat} {d e : Nat → Int × Int} (h : So.Perm 0 n d e) (hs : So.Sorted e 0 n) (hd : ∀ i, i < n → (d i).2 ≤ 300) : tTo (mTo e n).2 (mTo e n).1 = cnt (fun x => inN d x n) 300 := by
  have m := merging hs n (Nat.le_refl _)
  rw [total_cnt m.are m.rise (fun i hi => by
    obtain ⟨j, j1, j2⟩ := m.ends i hi
    rw [j2]; exact perm_ends h hd j j1) _ (Nat.le_refl _)]
  exact cnt_same fun x _ => by rw [m.same, inN_perm h]
/-- What the lengths of small spans that are apart come to. -/
theorem all_is {n : Nat} {d e : Nat → Int × Int} (h : So.Perm 0 n d e) (hi : ∀ i, i < n → isS (d i)) (hf : ∀ i j, i < j → j < n → isS (e i) → isS (e j) → (e i).2 ≤ (e j).1) (hd : ∀ i, i < n → (d i).2 ≤ 300) : allN d n = cnt (fun x => inN d x n) 300 := by
  refine all_cnt hi (fun i j hij hj x hx => ?_) hd n (Nat.le_refl _)
  obtain ⟨s, t, h1, h2, h3, h4⟩ := h
  have ht : ∀ k, k < n → t k < n := fun k hk => by
    rcases Nat.lt_or_ge (t k) n with h | h
    · exact h
    · have := h3 (t k) (by omega)
      rw [h2] at this
      omega
  have e1 : ∀ k, e (t k) = d k := fun k => by rw [h4, h2]
  have ne : t i ≠ t j := fun q => by
    have := h2 i
    rw [q, h2] at this
    omega
  obtain ⟨a, b⟩ := hx
  rw [holdsB_iff] at a b
  have si := hi i (by omega)
  have sj := hi j hj
  rw [← e1] at si sj a b
  rcases Nat.lt_or_ge (t i) (t j) with q | q
  · have := hf (t i) (t j) q (ht j hj) si sj
    omega
  · have := hf (t j) (t i) (by omega) (ht i (by omega)) sj si
    omega
end Go.Proofs.Ythneljkaieckeaa
