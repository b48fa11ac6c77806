/- Plain facts on what Merge leaves of sorted spans: spans, rising, that do not touch, of the same places; and how many places they have. No program is spoken of here. -/
import Derived.Test.YthneljkaieckeaaS5
import Derived.Test.YthneljkaieckeaaM1
namespace Go.Proofs.Ythneljkaieckeaa
open Go.RowKit Go.Lib Go.Sort
set_option linter.unusedVariables false

/-- Is a place in one of the first k spans? -/
def inN (d : Nat → Int × Int) (at' : Int) : Nat → Bool
  | 0 => false
  | k + 1 => inN d at' k || holdsB (d k) at'
theorem inN_iff (d : Nat → Int × Int) (at' : Int) (n : Nat) : inN d at' n = true ↔ ∃ i, i < n ∧ holdsB (d i) at' = true := by
  induction n with
  | zero => simp [inN]
  | succ n ih =>
    simp only [inN, Bool.or_eq_true, ih]
    constructor
    · rintro (⟨i, h1, h2⟩ | h)
      · exact ⟨i, by omega, h2⟩
      · exact ⟨n, by omega, h⟩
    · rintro ⟨i, h1, h2⟩
      by_cases h : i < n
      · exact .inl ⟨i, h, h2⟩
      · obtain rfl : i = n := by omega
        exact .inr h2
theorem holdsB_iff (p : Int × Int) (x : Int) : holdsB p x = true ↔ 0 ≤ p.1 ∧ p.1 ≤ x ∧ x < p.2 := by simp [holdsB]

/-- What has been merged of the first k of some sorted spans. -/
structure Merging (d : Nat → Int × Int) (k m : Nat) (o : Nat → Int × Int) : Prop where
  are : ∀ i, i < m → isS (o i)
  rise : ∀ i, i + 1 < m → (o i).2 < (o (i + 1)).1
  last : 0 < m → ∃ i, i < k ∧ (o (m - 1)).1 = (d i).1
  same : ∀ x, inN o x m = inN d x k
  ends : ∀ i, i < m → ∃ j, j < k ∧ (o i).2 = (d j).2

theorem inN_same {o p : Nat → Int × Int} {x : Int} {m : Nat} (h : ∀ i, i < m → o i = p i) : inN o x m = inN p x m := by
  induction m with
  | zero => rfl
  | succ m ih => simp only [inN]; rw [ih (fun i hi => h i (by omega)), h m (by omega)]

theorem Merging.step {d : Nat → Int × Int} {n k m : Nat} {o : Nat → Int × Int} (h : Merging d k m o) (hs : So.Sorted d 0 n) (hk : k < n) : Merging d (k + 1) (mStep m o (d k)).1 (mStep m o (d k)).2 := by
  unfold mStep
  by_cases c1 : isS (d k)
  · rw [if_pos c1]
    by_cases c2 : 0 < m ∧ (d k).1 ≤ (o (m - 1)).2
    · rw [if_pos c2]
      obtain ⟨m, rfl⟩ : ∃ j, m = j + 1 := ⟨m - 1, by omega⟩
      simp only [Nat.add_sub_cancel] at c2 ⊢
      obtain ⟨i, hi, ei⟩ := h.last (by omega)
      simp only [Nat.add_sub_cancel] at ei
      have hle : (o m).1 ≤ (d k).1 := by
        have := hs i k (by omega) (by omega) hk
        unfold So.le So.lt at this
        omega
      have ham := h.are m (by omega)
      unfold isS at c1 ham
      refine ⟨fun j hj => ?_, fun j hj => ?_, fun _ => ⟨i, by omega, ?_⟩, fun x => ?_, fun j hj => ?_⟩
      · by_cases e : j = m
        · subst e; simp [So.upd, isS]; omega
        · simp [So.upd, e]; exact h.are j hj
      · by_cases e : j + 1 = m
        · simp [So.upd, e, show ¬ j = m by omega]; have := h.rise j (by omega); rw [e] at this; exact this
        · simp [So.upd, e, show ¬ j = m by omega]; exact h.rise j (by omega)
      · simp [So.upd]; exact ei
      · have h1 := h.same x
        simp only [inN] at h1 ⊢
        rw [← h1, inN_same (o := So.upd o m ((o m).1, max (o m).2 (d k).2)) (p := o) (fun i hi => by simp [So.upd, show ¬ i = m by omega])]
        rw [Bool.or_assoc]
        congr 1
        rw [Bool.eq_iff_iff, Bool.or_eq_true, holdsB_iff, holdsB_iff, holdsB_iff]
        simp [So.upd]
        omega
      · by_cases e : j = m
        · subst e
          simp [So.upd]
          obtain ⟨q, q1, q2⟩ := h.ends j (by omega)
          by_cases c : (o j).2 ≤ (d k).2
          · exact ⟨k, by omega, by omega⟩
          · exact ⟨q, by omega, by omega⟩
        · simp [So.upd, e]
          obtain ⟨q, q1, q2⟩ := h.ends j (by omega)
          exact ⟨q, by omega, q2⟩
    · rw [if_neg c2]
      refine ⟨fun j hj => ?_, fun j hj => ?_, fun _ => ⟨k, by omega, ?_⟩, fun x => ?_, fun j hj => ?_⟩
      · by_cases e : j = m
        · subst e; simp [So.upd]; exact c1
        · simp [So.upd, e]; exact h.are j (by simp at hj; omega)
      · simp at hj
        by_cases e : j + 1 = m
        · subst e
          simp [So.upd]
          simp at c2
          omega
        · simp [So.upd, show ¬ j = m by omega, e]; exact h.rise j (by omega)
      · simp [So.upd]
      · simp only [inN]
        rw [← h.same x, inN_same (o := So.upd o m (d k)) (p := o) (fun i hi => by simp [So.upd, show ¬ i = m by omega])]
        simp [So.upd]
      · by_cases e : j = m
        · subst e; simp [So.upd]; exact ⟨k, by omega, rfl⟩
        · simp [So.upd, e]
          obtain ⟨q, q1, q2⟩ := h.ends j (by simp at hj; omega)
          exact ⟨q, by omega, q2⟩
  · rw [if_neg c1]
    refine ⟨h.are, h.rise, fun hm => ?_, fun x => ?_, fun j hj => ?_⟩
    · obtain ⟨i, hi, e⟩ := h.last hm
      exact ⟨i, by omega, e⟩
    · simp only [inN]
      rw [h.same x]
      have : holdsB (d k) x = false := by
        rw [← Bool.not_eq_true, holdsB_iff]
        unfold isS at c1
        omega
      rw [this, Bool.or_false]
    · obtain ⟨q, q1, q2⟩ := h.ends j hj
      exact ⟨q, by omega, q2⟩
theorem merging {d : Nat → Int × Int} {n : Nat} (hs : So.Sorted d 0 n) (k : Nat) (hk : k ≤ n) : Merging d k (mTo d k).1 (mTo d k).2 := by
  induction k with
  | zero => exact ⟨fun i hi => by simp [mTo] at hi, fun i hi => by simp [mTo] at hi, fun hm => by simp [mTo] at hm, fun x => rfl, fun i hi => by simp [mTo] at hi⟩
  | succ k ih => exact (ih (by omega)).step hs (by omega)

theorem w64_id (x : Int) (h0 : -9223372036854775808 ≤ x) (h1 : x < 9223372036854775808) : wrap64 x = x := by
  unfold wrap64
  omega
/-- How many of the places from 0 up to N are so. -/
def cnt (p : Int → Bool) : Nat → Int
  | 0 => 0
  | N + 1 => cnt p N + (if p N then 1 else 0)
theorem cnt_same {p q : Int → Bool} {N : Nat} (h : ∀ x : Nat, x < N → p x = q x) : cnt p N = cnt q N := by
  induction N with
  | zero => rfl
  | succ N ih => simp only [cnt]; rw [ih (fun x hx => h x (by omega)), h N (by omega)]
theorem cnt_or {p q : Int → Bool} {N : Nat} (h : ∀ x : Nat, x < N → ¬ (p x = true ∧ q x = true)) : cnt (fun x => p x || q x) N = cnt p N + cnt q N := by
  induction N with
  | zero => rfl
  | succ N ih =>
    simp only [cnt]
    rw [ih (fun x hx => h x (by omega))]
    have := h N (by omega)
    by_cases hp : p (N : Int) = true
    · by_cases hq : q (N : Int) = true
      · exact absurd ⟨hp, hq⟩ this
      · simp [hp, hq]; omega
    · by_cases hq : q (N : Int) = true
      · simp [hp, hq]; omega
      · simp [hp, hq]
theorem cnt_span {a b : Int} (h0 : 0 ≤ a) (h1 : a ≤ b) {N : Nat} : cnt (fun x => holdsB (a, b) x) N = min b N - min a N := by
  induction N with
  | zero => simp [cnt]; omega
  | succ N ih =>
    simp only [cnt]
    rw [ih]
    by_cases h : holdsB (a, b) (N : Int) = true
    · rw [if_pos h]
      rw [holdsB_iff] at h
      simp only at h
      omega
    · rw [if_neg h]
      rw [holdsB_iff] at h
      simp only at h
      omega
theorem cnt_le (p : Int → Bool) (N : Nat) : 0 ≤ cnt p N ∧ cnt p N ≤ N := by
  induction N with
  | zero => simp [cnt]
  | succ N ih => simp only [cnt]; split <;> omega
/-- Rising spans: the first ones end ahead of each later one. -/
theorem rise_far {o : Nat → Int × Int} {m : Nat} (h1 : ∀ i, i < m → isS (o i)) (h2 : ∀ i, i + 1 < m → (o i).2 < (o (i + 1)).1) {i j : Nat} (hij : i < j) (hj : j < m) : (o i).2 < (o j).1 := by
  induction j with
  | zero => omega
  | succ j ih =>
    by_cases e : i = j
    · subst e; exact h2 i hj
    · have a := ih (by omega) (by omega)
      have b := h1 j (by omega)
      have c := h2 j hj
      unfold isS at b
      omega
theorem total_cnt {o : Nat → Int × Int} {m : Nat} (h1 : ∀ i, i < m → isS (o i)) (h2 : ∀ i, i + 1 < m → (o i).2 < (o (i + 1)).1) (h3 : ∀ i, i < m → (o i).2 ≤ 300) (k : Nat) (hk : k ≤ m) : tTo o k = cnt (fun x => inN o x k) 300 := by
  induction k with
  | zero =>
    have z : ∀ N, cnt (fun x => inN o x 0) N = 0 := fun N => by
      induction N with
      | zero => rfl
      | succ N ih => simp only [cnt]; rw [ih]; rfl
    rw [z]
    rfl
  | succ k ih =>
    have e := cnt_or (p := fun x => inN o x k) (q := fun x => holdsB (o k) x) (N := 300) (fun x _ => by
      rintro ⟨a, b⟩
      rw [inN_iff] at a
      obtain ⟨i, hi, a⟩ := a
      rw [holdsB_iff] at a b
      have := rise_far h1 h2 hi (by omega)
      omega)
    have s := h1 k (by omega)
    have l := h3 k (by omega)
    unfold isS at s
    have c := cnt_span (a := (o k).1) (b := (o k).2) s.1 (by omega) (N := 300)
    have t := cnt_le (fun x => inN o x (k + 1)) 300
    have e' : cnt (fun x => inN o x (k + 1)) 300 = cnt (fun x => inN o x k) 300 + cnt (fun x => holdsB (o k) x) 300 := e
    show wrap64 (tTo o k + wrap64 ((o k).2 - (o k).1)) = _
    rw [ih (by omega), e']
    have c' : cnt (fun x => holdsB (o k) x) 300 = min (o k).2 300 - min (o k).1 300 := c
    have u := cnt_le (fun x => inN o x k) 300
    rw [c']
    rw [w64_id ((o k).2 - (o k).1) (by omega) (by omega), w64_id _ (by omega) (by omega)]
    omega
end Go.Proofs.Ythneljkaieckeaa
