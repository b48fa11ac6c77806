import Derived.Test.YthhodadfiipffaaDoorZ21
import Derived.Maps.AppendAt
import Derived.Test.YthhodadfiipffaaDoorZ14
set_option linter.all false
/- Is a place in one of some spans: the contract of the document's In. Are they small: that of its Small. -/
namespace Go.Proofs.YthhodadfiipffaaDoor
open Go.RowKit Go.Lib Go.Sort
set_option linter.unusedVariables false

/-- What Small says. -/
def SmallV (n : Nat) (d : Nat → Int × Int) (w : World) (e : Ending) (w' : World) : Prop :=
  ∃ r : Bool, e = .returned (.bool r) ∧ (r = true → n ≤ 30 ∧ ∀ i, i < n → (d i).2 ≤ 300) ∧ Below w.heap.size w w'
end Go.Proofs.YthhodadfiipffaaDoor

/- Do two of some spans meet, and are all spans that do not: the contracts of someMeet and Apart. -/
namespace Go.Proofs.YthhodadfiipffaaDoor
open Go.RowKit Go.Lib Go.Sort
set_option linter.unusedVariables false

/-- What someMeet says: no only if the sorted spans lie one behind the other. -/
def FarV (n : Nat) (d : Nat → Int × Int) (w : World) (e : Ending) (w' : World) : Prop :=
  ∃ (r : Bool) (d' : Nat → Int × Int), e = .returned (.bool r) ∧ So.Perm 0 n d d' ∧ So.Sorted d' 0 n ∧ (r = false → ∀ i j, i < j → j < n → isS (d' i) → isS (d' j) → (d' i).2 ≤ (d' j).1) ∧ Below w.heap.size w w'

end Go.Proofs.YthhodadfiipffaaDoor

/- Are all spans that do not meet: the contract of Apart. -/
namespace Go.Proofs.YthhodadfiipffaaDoor
open Go.RowKit Go.Lib Go.Sort
set_option linter.unusedVariables false

theorem isB_iff (p : Int × Int) : isB p = true ↔ isS p := by simp [isB, isS]
def IndexV (n : Nat) (d : Nat → Int × Int) (w : World) (e : Ending) (w' : World) : Prop :=
  ∃ j : Int, e = .returned (.int .i64 j) ∧ (j < 0 → ∀ i, i < n → isS (d i)) ∧ -1 ≤ j ∧ j < 1000001 ∧ Below w.heap.size w w'
def ContainsV (n : Nat) (d : Nat → Int × Int) (w : World) (e : Ending) (w' : World) : Prop :=
  ∃ r : Bool, e = .returned (.bool r) ∧ (r = false → ∀ i, i < n → isS (d i)) ∧ Below w.heap.size w w'
/-- What Apart says. -/
def ApartV (n : Nat) (d : Nat → Int × Int) (w : World) (e : Ending) (w' : World) : Prop :=
  ∃ (r : Bool), e = .returned (.bool r) ∧ (r = true → (∀ i, i < n → isS (d i)) ∧ ∃ d', So.Perm 0 n d d' ∧ So.Sorted d' 0 n ∧ ∀ i j, i < j → j < n → isS (d' i) → isS (d' j) → (d' i).2 ≤ (d' j).1) ∧ Below w.heap.size w w'
end Go.Proofs.YthhodadfiipffaaDoor

/- Plain facts: how many places spans have that are apart; and in whatever order. -/
namespace Go.Proofs.YthhodadfiipffaaDoor
open Go.RowKit Go.Lib Go.Sort
set_option linter.unusedVariables false

/-- The lengths of the first k spans, as1 the text adds them up. -/
def allN (d : Nat → Int × Int) : Nat → Int
  | 0 => 0
  | k + 1 => if isB (d k) then wrap64 (allN d k + wrap64 ((d k).2 - (d k).1)) else allN d k
theorem all_cnt {d : Nat → Int × Int} {n : Nat} (h1 : ∀ i, i < n → isS (d i)) (h2 : ∀ i j, i < j → j < n → ∀ x, ¬ (holdsB (d i) x = true ∧ holdsB (d j) x = true)) (h3 : ∀ i, i < n → (d i).2 ≤ 300) (k : Nat) (hk : k ≤ n) : allN d k = cnt (fun x => inN d x k) 300 := by
  induction k with
  | zero =>
    have z : ∀ N, cnt (fun x => inN d x 0) N = 0 := fun N => by
      induction N with
      | zero => rfl
      | succ N ih => simp only [cnt]; rw [ih]; rfl
    rw [z]
    rfl
  | succ k ih =>
    have e := cnt_or (p := fun x => inN d x k) (q := fun x => holdsB (d k) x) (N := 300) (fun x _ => by
      rintro ⟨a, b⟩
      rw [inN_iff] at a
      obtain ⟨i, hi, a⟩ := a
      exact h2 i k hi (by omega) x ⟨a, b⟩)
    have s := h1 k (by omega)
    have l := h3 k (by omega)
    have sb := (isB_iff _).2 s
    unfold isS at s
    have c := cnt_span (a := (d k).1) (b := (d k).2) s.1 (by omega) (N := 300)
    have t := cnt_le (fun x => inN d x (k + 1)) 300
    have e' : cnt (fun x => inN d x (k + 1)) 300 = cnt (fun x => inN d x k) 300 + cnt (fun x => holdsB (d k) x) 300 := e
    show (if isB (d k) then wrap64 (allN d k + wrap64 ((d k).2 - (d k).1)) else allN d k) = _
    rw [if_pos sb, ih (by omega), e']
    have c' : cnt (fun x => holdsB (d k) x) 300 = min (d k).2 300 - min (d k).1 300 := c
    have u := cnt_le (fun x => inN d x k) 300
    rw [c']
    rw [w64_id ((d k).2 - (d k).1) (by omega) (by omega), w64_id _ (by omega) (by omega)]
    omega
theorem inN_perm {n : Nat} {d e : Nat → Int × Int} (h : So.Perm 0 n d e) (x : Int) : inN e x n = inN d x n := by
  obtain ⟨s, t, h1, h2, h3, h4⟩ := h
  have ht : ∀ k, k < n → t k < n := fun k hk => by
    rcases Nat.lt_or_ge (t k) n with h | h
    · exact h
    · have := h3 (t k) (by omega)
      rw [h2] at this
      omega
  have hs : ∀ k, k < n → s k < n := fun k hk => by
    rcases Nat.lt_or_ge (s k) n with h | h
    · exact h
    · have := h3 (s k) (by omega)
      have e2 := h1 (s k)
      rw [this] at e2
      have e1 := h1 k
      rw [e1] at e2
      omega
  rw [Bool.eq_iff_iff, inN_iff, inN_iff]
  constructor
  · rintro ⟨i, hi, h⟩
    exact ⟨s i, hs i hi, by rw [← h4]; exact h⟩
  · rintro ⟨i, hi, h⟩
    exact ⟨t i, ht i hi, by rw [h4, h2]; exact h⟩
theorem perm_ends {n : Nat} {d e : Nat → Int × Int} (h : So.Perm 0 n d e) (hd : ∀ i, i < n → (d i).2 ≤ 300) : ∀ i, i < n → (e i).2 ≤ 300 := fun i hi => by
  obtain ⟨j, _, j2, e⟩ := h.into (k := i) ⟨by omega, hi⟩
  rw [e]; exact hd j j2
/-- What Total answers of small spans. -/
theorem total_is {n : Nat} {d e : Nat → Int × Int} (h : So.Perm 0 n d e) (hs : So.Sorted e 0 n) (hd : ∀ i, i < n → (d i).2 ≤ 300) : tTo (mTo e n).2 (mTo e n).1 = cnt (fun x => inN d x n) 300 := by
  have m := merging hs n (Nat.le_refl _)
  rw [total_cnt m.are m.rise (fun i hi => by
    obtain ⟨j, j1, j2⟩ := m.ends i hi
    rw [j2]; exact perm_ends h hd j j1) _ (Nat.le_refl _)]
  exact cnt_same fun x _ => by rw [m.same, inN_perm h]
/-- What the lengths of small spans that are apart come to. -/
theorem all_is {n : Nat} {d e : Nat → Int × Int} (h : So.Perm 0 n d e) (hi : ∀ i, i < n → isS (d i)) (hf : ∀ i j, i < j → j < n → isS (e i) → isS (e j) → (e i).2 ≤ (e j).1) (hd : ∀ i, i < n → (d i).2 ≤ 300) : allN d n = cnt (fun x => inN d x n) 300 := by
  refine all_cnt hi (fun i j hij hj x hx => ?_) hd n (Nat.le_refl _)
  obtain ⟨s, t, h1, h2, h3, h4⟩ := h
  have ht : ∀ k, k < n → t k < n := fun k hk => by
    rcases Nat.lt_or_ge (t k) n with h | h
    · exact h
    · have := h3 (t k) (by omega)
      rw [h2] at this
      omega
  have e1 : ∀ k, e (t k) = d k := fun k => by rw [h4, h2]
  have ne : t i ≠ t j := fun q => by
    have := h2 i
    rw [q, h2] at this
    omega
  obtain ⟨a, b⟩ := hx
  rw [holdsB_iff] at a b
  have si := hi i (by omega)
  have sj := hi j hj
  rw [← e1] at si sj a b
  rcases Nat.lt_or_ge (t i) (t j) with q | q
  · have := hf (t i) (t j) q (ht j hj) si sj
    omega
  · have := hf (t j) (t i) (by omega) (ht i (by omega)) sj si
    omega
end Go.Proofs.YthhodadfiipffaaDoor

/- Plain facts: rows of spans that rise and do not touch are one and the same if they have the same places. No program is spoken of here. -/
namespace Go.Proofs.YthhodadfiipffaaDoor
open Go.RowKit Go.Lib Go.Sort
set_option linter.unusedVariables false

/-- Spans, rising, that do not touch. -/
def Rising (m : Nat) (o : Nat → Int × Int) : Prop := (∀ i, i < m → isS (o i)) ∧ ∀ i, i + 1 < m → (o i).2 < (o (i + 1)).1
theorem Rising.far {m : Nat} {o : Nat → Int × Int} (h : Rising m o) {i j : Nat} (hij : i < j) (hj : j < m) : (o i).2 < (o j).1 := rise_far h.1 h.2 hij hj
theorem Rising.head {m : Nat} {o : Nat → Int × Int} (h : Rising (m + 1) o) {i : Nat} (hi : i < m + 1) : (o 0).1 ≤ (o i).1 := by
  by_cases e : i = 0
  · subst e; omega
  · have := h.far (show 0 < i by omega) hi
    have := h.1 0 (by omega)
    unfold isS at this
    omega
/-- What a place is held by. -/
theorem Rising.only {m : Nat} {o : Nat → Int × Int} (h : Rising m o) {i j : Nat} (hi : i < m) (hj : j < m) {x : Int} (a : holdsB (o i) x = true) (b : holdsB (o j) x = true) : i = j := by
  rw [holdsB_iff] at a b
  rcases Nat.lt_trichotomy i j with q | q | q
  · have := h.far q hj; omega
  · exact q
  · have := h.far q hi; omega
/-- The same places, the same spans: each span of one is one of the other. -/
theorem Rising.is {m n : Nat} {o p : Nat → Int × Int} (h : Rising m o) (k : Rising n p) (e : ∀ x, inN o x m = inN p x n) {i : Nat} (hi : i < m) : ∃ j, j < n ∧ o i = p j := by
  have s := h.1 i hi
  unfold isS at s
  -- the first place of o i lies in some p j
  have h1 : inN o (o i).1 m = true := (inN_iff _ _ _).2 ⟨i, hi, by rw [holdsB_iff]; omega⟩
  rw [e] at h1
  obtain ⟨j, hj, h1⟩ := (inN_iff _ _ _).1 h1
  refine ⟨j, hj, ?_⟩
  rw [holdsB_iff] at h1
  -- p j begins there: else the place ahead of it is in o, in another span that ends there
  have b1 : (p j).1 = (o i).1 := by
    rcases Int.lt_or_eq_of_le h1.2.1 with q | q
    · have h2 : inN p ((o i).1 - 1) n = true := (inN_iff _ _ _).2 ⟨j, hj, by rw [holdsB_iff]; omega⟩
      rw [← e] at h2
      obtain ⟨l, hl, h2⟩ := (inN_iff _ _ _).1 h2
      rw [holdsB_iff] at h2
      rcases Nat.lt_trichotomy l i with r | r | r
      · have := h.far r hi; omega
      · subst r; omega
      · have := h.far r hl; omega
    · exact q
  -- and ends where o i ends
  have b2 : (p j).2 = (o i).2 := by
    rcases Int.lt_trichotomy (p j).2 (o i).2 with q | q | q
    · have h2 : inN o (p j).2 m = true := (inN_iff _ _ _).2 ⟨i, hi, by rw [holdsB_iff]; omega⟩
      rw [e] at h2
      obtain ⟨l, hl, h2⟩ := (inN_iff _ _ _).1 h2
      rw [holdsB_iff] at h2
      rcases Nat.lt_trichotomy l j with r | r | r
      · have := k.far r hj; have := k.1 j hj; unfold isS at this; omega
      · subst r; omega
      · have := k.far r hl; omega
    · exact q
    · have h2 : inN p (o i).2 n = true := (inN_iff _ _ _).2 ⟨j, hj, by rw [holdsB_iff]; omega⟩
      rw [← e] at h2
      obtain ⟨l, hl, h2⟩ := (inN_iff _ _ _).1 h2
      rw [holdsB_iff] at h2
      rcases Nat.lt_trichotomy l i with r | r | r
      · have := h.far r hi; omega
      · subst r; omega
      · have := h.far r hl; omega
  exact Prod.ext b1.symm b2.symm
theorem Rising.lt {m : Nat} {o : Nat → Int × Int} (h : Rising m o) {i j : Nat} (hij : i < j) (hj : j < m) : (o i).1 < (o j).1 := by
  have a := h.far hij hj
  have b := h.1 i (by omega)
  unfold isS at b
  omega
theorem Rising.one {m n : Nat} {o p : Nat → Int × Int} (h : Rising m o) (k : Rising n p) (e : ∀ x, inN o x m = inN p x n) : ∀ i, i < m → i < n ∧ o i = p i := by
  intro i
  induction i using Nat.strongRecOn with
  | _ i ih =>
    intro hi
    obtain ⟨j, hj, ej⟩ := h.is k e hi
    rcases Nat.lt_trichotomy j i with r | r | r
    · have a := (ih j r (by omega)).2
      have b := h.lt r hi
      rw [a, ← ej] at b
      omega
    · subst r; exact ⟨hj, ej⟩
    · have hin : i < n := by omega
      refine ⟨hin, ?_⟩
      obtain ⟨l, hl, el⟩ := k.is h (fun x => (e x).symm) hin
      rcases Nat.lt_trichotomy l i with q | q | q
      · have a := (ih l q hl).2
        have b := k.lt q hin
        rw [← a, ← el] at b
        omega
      · subst q; exact el.symm
      · have a := h.lt q hl
        have b := k.lt r hj
        rw [ej, ← el] at a
        omega
theorem Rising.len {m n : Nat} {o p : Nat → Int × Int} (h : Rising m o) (k : Rising n p) (e : ∀ x, inN o x m = inN p x n) : m = n := by
  rcases Nat.lt_trichotomy m n with q | q | q
  · have a := (k.one h (fun x => (e x).symm) m q).1
    omega
  · exact q
  · have a := (h.one k e n q).1
    omega
end Go.Proofs.YthhodadfiipffaaDoor

/- Plain facts on spans laid place by place (the document's Runs): they rise, do not touch, and hold just the places that are asked for. No program is spoken of here. -/
namespace Go.Proofs.YthhodadfiipffaaDoor
open Go.RowKit Go.Lib Go.Sort
set_option linter.unusedVariables false

/-- One more place put to the runs. -/
def rStep (n : Nat) (o : Nat → Int × Int) (x : Int) (b : Bool) : Nat × (Nat → Int × Int) :=
  if b then (if 0 < n ∧ (o (n - 1)).2 = x then (n, So.upd o (n - 1) ((o (n - 1)).1, x + 1)) else (n + 1, So.upd o n (x, x + 1))) else (n, o)
/-- The runs of the places below k that p holds. -/
def rTo (p : Int → Bool) : Nat → Nat × (Nat → Int × Int)
  | 0 => (0, fun _ => (0, 0))
  | k + 1 => rStep (rTo p k).1 (rTo p k).2 k (p k)
theorem rStep_le (n : Nat) (o : Nat → Int × Int) (x : Int) (b : Bool) : (rStep n o x b).1 ≤ n + 1 := by
  unfold rStep; split <;> (try split) <;> simp
theorem rTo_le (p : Int → Bool) (k : Nat) : (rTo p k).1 ≤ k := by
  induction k with
  | zero => simp [rTo]
  | succ k ih => have := rStep_le (rTo p k).1 (rTo p k).2 k (p k); show (rStep _ _ _ _).1 ≤ _; omega

/-- What is known of the runs below k. -/
structure Running (p : Int → Bool) (k n : Nat) (o : Nat → Int × Int) : Prop where
  up : Rising n o
  ends : ∀ i, i < n → (o i).2 ≤ k
  same : ∀ x, inN o x n = (decide (0 ≤ x ∧ x < k) && p x)
theorem Running.step {p : Int → Bool} {k n : Nat} {o : Nat → Int × Int} (h : Running p k n o) : Running p (k + 1) (rStep n o k (p k)).1 (rStep n o k (p k)).2 := by
  have cut : ∀ x, p k = false → (decide (0 ≤ x ∧ x < ((k + 1 : Nat) : Int)) && p x) = (decide (0 ≤ x ∧ x < (k : Int)) && p x) := by
    intro x hp
    by_cases e : x = k
    · subst e; rw [hp]; simp
    · congr 1
      simp only [decide_eq_decide]
      omega
  have more : ∀ x, p k = true → (decide (0 ≤ x ∧ x < ((k + 1 : Nat) : Int)) && p x) = ((decide (0 ≤ x ∧ x < (k : Int)) && p x) || decide (x = k)) := by
    intro x hp
    by_cases e : x = k
    · subst e; rw [hp]; simp; omega
    · have e1 : decide (x = (k : Int)) = false := by simpa using e
      rw [e1, Bool.or_false]
      congr 1
      simp only [decide_eq_decide]
      omega
  unfold rStep
  by_cases c1 : p k = true
  · rw [if_pos c1]
    by_cases c2 : 0 < n ∧ (o (n - 1)).2 = k
    · rw [if_pos c2]
      obtain ⟨m, rfl⟩ : ∃ j, n = j + 1 := ⟨n - 1, by omega⟩
      simp only [Nat.add_sub_cancel] at c2 ⊢
      have am := h.up.1 m (by omega)
      unfold isS at am
      refine ⟨⟨fun i hi => ?_, fun i hi => ?_⟩, fun i hi => ?_, fun x => ?_⟩
      · by_cases e : i = m
        · subst e; simp [So.upd, isS]; omega
        · simp [So.upd, e]; exact h.up.1 i hi
      · by_cases e : i + 1 = m
        · simp [So.upd, e, show ¬ i = m by omega]; have := h.up.2 i (by omega); rw [e] at this; exact this
        · simp [So.upd, e, show ¬ i = m by omega]; exact h.up.2 i hi
      · by_cases e : i = m
        · subst e; simp [So.upd]
        · simp [So.upd, e]; have := h.ends i hi; omega
      · have h1 := h.same x
        rw [more x c1, ← h1]
        simp only [inN]
        rw [inN_same (o := So.upd o m ((o m).1, (k : Int) + 1)) (p := o) (fun i hi => by simp [So.upd, show ¬ i = m by omega]), Bool.or_assoc]
        congr 1
        rw [Bool.eq_iff_iff, Bool.or_eq_true, holdsB_iff, holdsB_iff, decide_eq_true_eq]
        simp only [So.upd, if_true]
        omega
    · rw [if_neg c2]
      refine ⟨⟨fun i hi => ?_, fun i hi => ?_⟩, fun i hi => ?_, fun x => ?_⟩
      · by_cases e : i = n
        · subst e; simp [So.upd, isS]; omega
        · simp [So.upd, e]; exact h.up.1 i (by simp at hi; omega)
      · simp at hi
        by_cases e : i + 1 = n
        · subst e
          have := h.ends i (by omega)
          simp at c2
          simp [So.upd]
          omega
        · simp [So.upd, e, show ¬ i = n by omega]; exact h.up.2 i (by omega)
      · by_cases e : i = n
        · subst e; simp [So.upd]
        · simp [So.upd, e]; have := h.ends i (by simp at hi; omega); omega
      · rw [more x c1, ← h.same x]
        simp only [inN]
        rw [inN_same (o := So.upd o n ((k : Int), (k : Int) + 1)) (p := o) (fun i hi => by simp [So.upd, show ¬ i = n by omega])]
        congr 1
        rw [Bool.eq_iff_iff, holdsB_iff, decide_eq_true_eq]
        simp only [So.upd, if_true]
        omega
  · rw [if_neg c1]
    have c1' : p k = false := by simpa using c1
    exact ⟨h.up, fun i hi => by have := h.ends i hi; show (o i).2 ≤ _; omega, fun x => by rw [cut x c1']; exact h.same x⟩
theorem running (p : Int → Bool) (k : Nat) : Running p k (rTo p k).1 (rTo p k).2 := by
  induction k with
  | zero =>
    refine ⟨⟨fun i hi => by simp [rTo] at hi, fun i hi => by simp [rTo] at hi⟩, fun i hi => by simp [rTo] at hi, fun x => ?_⟩
    have : decide (0 ≤ x ∧ x < ((0 : Nat) : Int)) = false := by simp <;> omega
    rw [this]
    rfl
  | succ k ih => exact ih.step

theorem Merging.up {d : Nat → Int × Int} {k m : Nat} {o : Nat → Int × Int} (h : Merging d k m o) : Rising m o := ⟨h.are, h.rise⟩
/-- Sorted spans that rise and do not touch are left by Merge as1 they are. -/
theorem merge_same {d e : Nat → Int × Int} {n : Nat} (hr : Rising n d) (hp : So.Perm 0 n d e) (hs : So.Sorted e 0 n) : (mTo e n).1 = n ∧ ∀ i, i < n → (mTo e n).2 i = d i := by
  have m := merging hs n (Nat.le_refl _)
  have same : ∀ x, inN (mTo e n).2 x (mTo e n).1 = inN d x n := fun x => by rw [m.same, inN_perm hp]
  exact ⟨m.up.len hr same, fun i hi => (m.up.one hr same i (by rw [m.up.len hr same]; exact hi)).2⟩
/-- Merged spans of one row, in whatever order it came, are the same. -/
theorem merge_one {d d2 e e2 : Nat → Int × Int} {n n2 : Nat} (hp : So.Perm 0 n d e) (hs : So.Sorted e 0 n) (hp2 : So.Perm 0 n2 d2 e2) (hs2 : So.Sorted e2 0 n2) (hx : ∀ x, inN d x n = inN d2 x n2) :
    (mTo e n).1 = (mTo e2 n2).1 ∧ ∀ i, i < (mTo e n).1 → (mTo e n).2 i = (mTo e2 n2).2 i := by
  have m := merging hs n (Nat.le_refl _)
  have m2 := merging hs2 n2 (Nat.le_refl _)
  have same : ∀ x, inN (mTo e n).2 x (mTo e n).1 = inN (mTo e2 n2).2 x (mTo e2 n2).1 := fun x => by rw [m.same, m2.same, inN_perm hp, inN_perm hp2, hx]
  exact ⟨m.up.len m2.up same, fun i hi => (m.up.one m2.up same i hi).2⟩
/-- Merged spans of places below k are the runs of these places. -/
theorem merge_runs {d e : Nat → Int × Int} {n k : Nat} {p : Int → Bool} (hp : So.Perm 0 n d e) (hs : So.Sorted e 0 n) (hd : ∀ i, i < n → (d i).2 ≤ k) (hx : ∀ x : Int, 0 ≤ x → x < (k : Int) → p x = inN d x n) :
    (mTo e n).1 = (rTo p k).1 ∧ ∀ i, i < (mTo e n).1 → (mTo e n).2 i = (rTo p k).2 i := by
  have m := merging hs n (Nat.le_refl _)
  have r := running p k
  have same : ∀ x, inN (mTo e n).2 x (mTo e n).1 = inN (rTo p k).2 x (rTo p k).1 := fun x => by
    rw [m.same, r.same, inN_perm hp]
    by_cases c : 0 ≤ x ∧ x < (k : Int)
    · rw [hx x c.1 c.2]; simp [c]
    · have : inN d x n = false := by
        rw [← Bool.not_eq_true, inN_iff]
        rintro ⟨i, hi, h⟩
        rw [holdsB_iff] at h
        have := hd i hi
        omega
      rw [this]
      simp [c]
  exact ⟨m.up.len r.up same, fun i hi => (m.up.one r.up same i hi).2⟩
/-- A row turned about has the same places. -/
theorem back_same {d : Nat → Int × Int} {n : Nat} (x : Int) : inN (fun i => d (n - 1 - i)) x n = inN d x n := by
  rw [Bool.eq_iff_iff, inN_iff, inN_iff]
  constructor
  · rintro ⟨i, hi, h⟩; exact ⟨n - 1 - i, by omega, h⟩
  · rintro ⟨i, hi, h⟩
    refine ⟨n - 1 - i, by omega, ?_⟩
    show holdsB (d (n - 1 - (n - 1 - i))) x = true
    rw [show n - 1 - (n - 1 - i) = i by omega]
    exact h
end Go.Proofs.YthhodadfiipffaaDoor

/- Meet: its contract; what it has to do with the document's answer. -/
namespace Go.Proofs.YthhodadfiipffaaDoor
open Go.RowKit Go.Lib Go.Sort
set_option linter.unusedVariables false

theorem meets_iff (a b : Int × Int) : meetsB a b = (isB a && isB b && isB (bothOf a b)) := by
  obtain ⟨a1, a2⟩ := a
  obtain ⟨b1, b2⟩ := b
  rw [Bool.eq_iff_iff]
  by_cases h1 : a1 < b1 <;> by_cases h2 : b2 < a2 <;> simp only [meetsB, isB, holdsB, bothOf, Bool.and_eq_true, Bool.or_eq_true, decide_eq_true_eq, h1, h2, if_true, if_false] <;> omega
theorem holds_meet (a b : Int × Int) (k : Int) : holdsB (meetV a b) k = (holdsB a k && holdsB b k) := by
  obtain ⟨a1, a2⟩ := a
  obtain ⟨b1, b2⟩ := b
  rw [Bool.eq_iff_iff]
  by_cases h : meetsB (a1, a2) (b1, b2) = true
  · have h' := h
    simp only [meetsB, isB, holdsB, Bool.and_eq_true, Bool.or_eq_true, decide_eq_true_eq] at h'
    by_cases h1 : a1 < b1 <;> by_cases h2 : b2 < a2 <;> simp only [meetV, h, holdsB, bothOf, Bool.and_eq_true, decide_eq_true_eq, h1, h2, if_true, if_false] <;> omega
  · have h' := h
    simp only [meetsB, isB, holdsB, Bool.and_eq_true, Bool.or_eq_true, decide_eq_true_eq] at h'
    simp only [meetV, h, holdsB, Bool.and_eq_true, decide_eq_true_eq, if_false, Bool.false_eq_true]
    omega

theorem boxes3 {w w2 : World} {p q : Int × Int} (g : (((w.alloc (.cells #[.int .i64 p.1, .int .i64 p.2] 60)).alloc (.cells #[.int .i64 q.1, .int .i64 q.2] 60)).alloc (.cells #[.int .i64 0, .int .i64 0] 60)).grownBy w2 none) :
    w2.cell? ⟨w.heap.size, 0, none⟩ = some (.int .i64 p.1) ∧ w2.cell? ⟨w.heap.size, 1, none⟩ = some (.int .i64 p.2) ∧ w2.cell? ⟨w.heap.size + 1, 0, none⟩ = some (.int .i64 q.1) ∧ w2.cell? ⟨w.heap.size + 1, 1, none⟩ = some (.int .i64 q.2) ∧
    w2.cell? ⟨w.heap.size + 1 + 1, 0, none⟩ = some (.int .i64 0) ∧ w2.cell? ⟨w.heap.size + 1 + 1, 1, none⟩ = some (.int .i64 0) ∧ w2.frozen? ⟨w.heap.size + 1 + 1, 0, none⟩ = false ∧ w2.frozen? ⟨w.heap.size + 1 + 1, 1, none⟩ = false := by
  have h1 := (((Blk.new w 60 #[.int .i64 p.1, .int .i64 p.2]).alloc (.cells #[.int .i64 q.1, .int .i64 q.2] 60)).alloc (.cells #[.int .i64 0, .int .i64 0] 60)).only g (by simp)
  have h2 := ((Blk.new (w.alloc (.cells #[.int .i64 p.1, .int .i64 p.2] 60)) 60 #[.int .i64 q.1, .int .i64 q.2]).alloc (.cells #[.int .i64 0, .int .i64 0] 60)).only g (by simp)
  have h3 := (Blk.new ((w.alloc (.cells #[.int .i64 p.1, .int .i64 p.2] 60)).alloc (.cells #[.int .i64 q.1, .int .i64 q.2] 60)) 60 #[.int .i64 0, .int .i64 0]).only g (by simp)
  refine ⟨h1.cell 0, h1.cell 1, ?_, ?_, ?_, ?_, ?_, ?_⟩
  · simpa using h2.cell 0
  · simpa using h2.cell 1
  · simpa using h3.cell 0
  · simpa using h3.cell 1
  · simpa using h3.free 0
  · simpa using h3.free 1

/-- Only blocks from B on were written. -/
theorem only_far {a w : World} (h : Below a.heap.size a w) : a.grownBy w none := ⟨h.os, h.tape, h.output, h.size, fun i hi _ => h.block i hi⟩

end Go.Proofs.YthhodadfiipffaaDoor

/- Spans laid place by place: the contract of the document's Runs. -/
namespace Go.Proofs.YthhodadfiipffaaDoor
open Go.RowKit Go.Lib Go.Sort
set_option linter.unusedVariables false

/-- What an append of one span to the call's own spans leaves. -/
theorem app_own {B n : Nat} {v v1 : Value} {o : Nat → Int × Int} {s : Int × Int} {W W' wz : World} (hV : RowV W B v n o) (hB : B ≤ W.heap.size) (hW : W.grownBy W' none)
    (hown : wz.ownsRow B 60 2 v1 (n + 1) (spCells n o ++ [.int .i64 s.1, .int .i64 s.2])) (hg : W'.grownBy wz v.ownBlock) :
    RowV wz B v1 (n + 1) (So.upd o n s) ∧ Below B W wz := by
  rw [spCells_upd] at hown
  exact ⟨row_of_own hown, (below_of_only hW hB (by simp)).trans (below_of_only hg (Nat.le_trans hB hW.size) (fun k hk => (hV.blk k hk).1))⟩
/-- The last of the call's own spans gets another end. -/
theorem put_end {w : World} {B h m co : Nat} {o : Nat → Int × Int} (hR : RowS w h (m + 1) co o) (hB : B ≤ h) {v : Int} :
    RowV (w.setCell ⟨h, m * 2 + 1, none⟩ (.int .i64 v)) B (.slice (some ⟨h, 0, none⟩) (m + 1) co) (m + 1) (So.upd o m ((o m).1, v)) ∧ w.grownBy (w.setCell ⟨h, m * 2 + 1, none⟩ (.int .i64 v)) (some h) := by
  refine ⟨.inr ⟨h, co, rfl, hB, ?_⟩, only_put (only_refl _ _) _ _⟩
  obtain ⟨cur, h1, h2, h3, h4⟩ := hR
  refine ⟨cur.setIfInBounds (m * 2 + 1) (.int .i64 v), ?_, h2, by simpa using h3, fun k hk => ?_⟩
  · have h1' : w.heap[h]? = some (.cells cur 60 (0, 0)) := h1
    simp only [World.setCell, Array.getElem?_modify, h1']
    simp
  · obtain ⟨e1, e2⟩ := h4 k hk
    have s1 : k * 2 + 1 < cur.size := (Array.getElem?_eq_some_iff.1 e2).1
    by_cases hkm : k = m
    · subst hkm
      have n1 : ¬ k * 2 + 1 = k * 2 := by omega
      simp [Array.getElem?_setIfInBounds, So.upd, s1, n1, e1]
    · have n1 : ¬ m * 2 + 1 = k * 2 := by omega
      have n2 : ¬ m * 2 + 1 = k * 2 + 1 := by omega
      simp [Array.getElem?_setIfInBounds, So.upd, hkm, n1, n2, e1, e2]
      intro h'
      omega
theorem RowV.far {w w' : World} {B n : Nat} {v : Value} {d : Nat → Int × Int} (h : RowV w B v n d) (hb : Below w.heap.size w w') : RowV w' B v n d := h.only (only_far hb) (own_none_or _)

/-- A row of the call's own in which nothing lies yet, though it is not nil. -/
theorem RowV.bare (w : World) (B : Nat) (d : Nat → Int × Int) (hB : B ≤ w.heap.size) : RowV (w.alloc (.cells #[] 60)) B (.slice (some ⟨w.heap.size, 0, none⟩) 0 0) 0 d :=
  .inr ⟨w.heap.size, 0, rfl, hB, ⟨#[], Blk.new w _ _, ⟨by omega, by simp⟩, rfl, fun i hi => by omega⟩⟩

def RunsV (p : Int → Bool) (B N : Nat) (w : World) (e : Ending) (w' : World) : Prop :=
  ∃ v, e = .returned v ∧ RowV w' B v (rTo p N).1 (rTo p N).2 ∧ Below B w w'

end Go.Proofs.YthhodadfiipffaaDoor

/- Where two memories are unlike: the contracts of Diff and of the document's. -/
namespace Go.Proofs.YthhodadfiipffaaDoor
open Go.RowKit Go.Lib Go.Sort
set_option linter.unusedVariables false

/-- Are two memories unlike at a place? -/
def unl (l m : List UInt8) (x : Int) : Bool := decide (l[x.toNat]? ≠ m[x.toNat]?)
theorem unl_sym (l m : List UInt8) : unl l m = unl m l := by
  funext x
  unfold unl
  rw [decide_eq_decide]
  exact ⟨fun h e => h e.symm, fun h e => h e.symm⟩
theorem unl_in {l m : List UInt8} {k : Nat} (h1 : k < l.length) (h2 : k < m.length) : unl l m k = decide ((l[k].toNat : Int) ≠ (m[k].toNat : Int)) := by
  unfold unl
  rw [show (k : Int).toNat = k by omega, List.getElem?_eq_getElem h1, List.getElem?_eq_getElem h2, decide_eq_decide]
  constructor
  · intro h e
    exact h (by rw [UInt8.toNat_inj.1 (by omega : l[k].toNat = m[k].toNat)])
  · intro h e
    injection e with e
    exact h (by rw [e])
theorem unl_out {l m : List UInt8} {k : Nat} (h : (k < l.length ∧ m.length ≤ k) ∨ (l.length ≤ k ∧ k < m.length)) : unl l m k = true := by
  unfold unl
  rw [show (k : Int).toNat = k by omega, decide_eq_true_eq]
  rcases h with ⟨h1, h2⟩ | ⟨h1, h2⟩
  · rw [List.getElem?_eq_getElem h1, List.getElem?_eq_none h2]; simp
  · rw [List.getElem?_eq_getElem h2, List.getElem?_eq_none h1]; simp

/-- One span put behind rising ones. -/
def eStep (n : Nat) (o : Nat → Int × Int) (s : Int × Int) : Nat × (Nat → Int × Int) :=
  if isS s then (if 0 < n ∧ (o (n - 1)).2 = s.1 then (n, So.upd o (n - 1) ((o (n - 1)).1, s.2)) else (n + 1, So.upd o n s)) else (n, o)
theorem eStep_one (n : Nat) (o : Nat → Int × Int) (k : Nat) : eStep n o ((k : Int), (k : Int) + 1) = rStep n o k true := by
  have h : isS ((k : Int), (k : Int) + 1) := by unfold isS; simp only; omega
  unfold eStep rStep
  rw [if_pos h]
  rfl
theorem upd_upd (o : Nat → Int × Int) (j : Nat) (p q : Int × Int) : So.upd (So.upd o j p) j q = So.upd o j q := by
  funext i
  simp only [So.upd]
  split <;> rfl
/-- Places that are all so, behind others: one span more. -/
theorem rTo_tail (p : Int → Bool) (m k : Nat) (h : ∀ x : Nat, m ≤ x → x < m + k → p x = true) : rTo p (m + k) = eStep (rTo p m).1 (rTo p m).2 ((m : Int), ((m + k : Nat) : Int)) := by
  induction k with
  | zero =>
    unfold eStep
    rw [if_neg (by unfold isS; simp)]
    rfl
  | succ k ih =>
    have hs : isS ((m : Int), ((m + (k + 1) : Nat) : Int)) := by unfold isS; simp only; omega
    show rStep (rTo p (m + k)).1 (rTo p (m + k)).2 ((m + k : Nat) : Int) (p ((m + k : Nat) : Int)) = _
    rw [h (m + k) (by omega) (by omega), ih (fun x h1 h2 => h x h1 (by omega))]
    by_cases hk : k = 0
    · subst hk
      have hn : ¬ isS ((m : Int), ((m + 0 : Nat) : Int)) := by unfold isS; simp
      have e1 : eStep (rTo p m).1 (rTo p m).2 ((m : Int), ((m + 0 : Nat) : Int)) = ((rTo p m).1, (rTo p m).2) := by unfold eStep; rw [if_neg hn]
      rw [e1]
      have := eStep_one (rTo p m).1 (rTo p m).2 m
      simp only [Nat.add_zero] at this ⊢
      rw [← this]
      congr 1
    · have hs0 : isS ((m : Int), ((m + k : Nat) : Int)) := by unfold isS; simp only; omega
      unfold eStep
      rw [if_pos hs0, if_pos hs]
      by_cases c : 0 < (rTo p m).1 ∧ ((rTo p m).2 ((rTo p m).1 - 1)).2 = (m : Int)
      · rw [if_pos c, if_pos c]
        unfold rStep
        rw [if_pos rfl, if_pos ⟨c.1, by simp [So.upd]⟩]
        simp only
        rw [upd_upd]
        simp only [So.upd, if_true]
        congr 2
      · rw [if_neg c, if_neg c]
        unfold rStep
        rw [if_pos rfl, if_pos ⟨by omega, by simp [So.upd]⟩]
        simp only [Nat.add_sub_cancel]
        rw [upd_upd]
        simp only [So.upd, if_true]
        congr 2

def ExtV (B n : Nat) (o : Nat → Int × Int) (s : Int × Int) (w : World) (e : Ending) (w' : World) : Prop :=
  ∃ v, e = .returned v ∧ RowV w' B v (eStep n o s).1 (eStep n o s).2 ∧ Below B w w'
set_option maxRecDepth 100000 in
set_option maxHeartbeats 3200000 in
theorem extend_any (B n : Nat) (v : Value) (o : Nat → Int × Int) (s : Int × Int) (w : World) (hV : RowV w B v n o) (hB : B ≤ w.heap.size) (hn : n ≤ 100000) :
    Calls Tryd.prog 38 #[v, spv s] w (ExtV B n o s w) := by
  obtain ⟨i0, hi0, hz0, hz1, hz2⟩ := info_parts span_info
  have HV := Lib.hid hV
  obtain ⟨A, c, rfl⟩ := hV.form
  clear hV
  obtain ⟨p, q⟩ := s
  have hb0 := (Below.refl B w).alloc hB (.cells #[.int .i64 p, .int .i64 q] 60)
  have HB0 := Lib.hid hb0
  clear hb0
  by_cases hs : isS (p, q)
  · obtain ⟨s0, s1⟩ := hs
    simp only at s0 s1
    by_cases h0 : 0 < n
    · rcases HV.out with ⟨_, rfl⟩ | ⟨g, co, hv2, hgB, hrow⟩
      · omega
      · obtain ⟨rfl, rfl⟩ : A = some ⟨g, 0, none⟩ ∧ c = co := by injection hv2 with e1 e2 e3; exact ⟨e1, e3⟩
        obtain ⟨m, rfl⟩ : ∃ m, n = m + 1 := ⟨n - 1, by omega⟩
        have HO := Lib.hid hrow
        have hgl := hrow.lt
        clear hrow hv2
        have i1 : (m : Int) < (m : Int) + 1 := by omega
        by_cases hle : (o m).2 = p
        · have he : eStep (m + 1) o (p, q) = (m + 1, So.upd o m ((o m).1, q)) := by unfold eStep; rw [if_pos ⟨s0, s1⟩, if_pos ⟨by omega, hle⟩]; rfl
          have HE := Lib.hid he
          clear he
          go_enter Tryd.func38, Tryd.ntmps38
          go_wp2_with (go_at_call 47; refine (is_yes (p, q) _ s0 s1).mono ?_; rintro e w2 ⟨rfl, g2⟩; have hblk := (Blk.new w 60 #[.int .i64 p, .int .i64 q]).only g2 (by simp); have e0 := hblk.cell 0; have e1 := hblk.cell 1; simp at e0 e1; have G3 := Lib.hid (only_trans (only_alloc (only_refl _ _) _) g2 : w.grownBy w2 none); have HO2 := Lib.hid (HO.out.only G3.out (by simp)); have HB2 := Lib.hid (HB0.out.trans (below_of_only g2 (Nat.le_trans hB (by simp)) (by simp))); have l0 := HO2.out.snd (show m < m + 1 by omega); rw [hle] at l0; have l1 := HO2.out.free (m * 2 + 1); have hne : ¬ w.heap.size = g := (by omega); clear hblk g2)
          go_quiet (fail)
          go_wp2
          go_ret
          have R := put_end (HO2.out.drewN nq) hgB (v := q)
          refine ⟨_, rfl, ?_, (below_drewN HB2.out nq).trans (below_of_only R.2 (Nat.le_trans hB (below_drewN HB2.out nq).size) (fun k hk => by injection hk with hk; omega))⟩
          rw [HE.out]
          exact R.1
        · have he : eStep (m + 1) o (p, q) = (m + 2, So.upd o (m + 1) (p, q)) := by unfold eStep; rw [if_pos ⟨s0, s1⟩, if_neg (fun h => hle h.2)]
          have HE := Lib.hid he
          clear he
          go_enter Tryd.func38, Tryd.ntmps38
          go_wp2_with (go_at_call 47; refine (is_yes (p, q) _ s0 s1).mono ?_; rintro e w2 ⟨rfl, g2⟩; have hblk := (Blk.new w 60 #[.int .i64 p, .int .i64 q]).only g2 (by simp); have e0 := hblk.cell 0; have e1 := hblk.cell 1; simp at e0 e1; have G3 := Lib.hid (only_trans (only_alloc (only_refl _ _) _) g2 : w.grownBy w2 none); have HO2 := Lib.hid (HO.out.only G3.out (by simp)); have HV2 := Lib.hid (HV.out.only G3.out (own_none_or _)); have HB2 := Lib.hid (HB0.out.trans (below_of_only g2 (Nat.le_trans hB (by simp)) (by simp))); have l0 := HO2.out.snd (show m < m + 1 by omega); clear hblk g2)
          go_quiet (fail)
          go_wp2_with (at_builtin; refine wpList_append_own_at _ rfl (.tmp 9) (.tmp 11) 57 rfl B 60 i0 _ 2 16 Tryd.underlying57 hi0 hz0 hz1 hz2 rfl (by decide) (.slice (some ⟨g, 0, none⟩) (m + 1) c) (m + 1) (spCells (m + 1) o) rfl (by exact World.ownsRow.alloc (w := w2.drewN nq) (own_of_row HV2.out) _) ⟨w2.heap.size, 0, none⟩ 1 1 [.int .i64 p, .int .i64 q] rfl rfl (one_cells (w2.drewN nq) _ _ _) (one_cell' _ _) (by unfold maxLen; omega) (by omega) (by have := HB2.out.size; simp; omega) ?_; intro v1 wz hown1 hg1 _ hat1; have R1 := Lib.hid (app_own (s := (p, q)) (W := w2.drewN nq) HV2.out (Nat.le_trans hB HB2.out.size) (only_alloc (only_refl (w2.drewN nq) none) _) hown1 hg1); clear hown1 hg1 hat1; obtain ⟨A1, c1, rfl⟩ := R1.out.1.form)
          go_ret
          refine ⟨_, rfl, ?_, (below_drewN HB2.out nq).trans R1.out.2⟩
          rw [HE.out]
          exact R1.out.1
    · obtain rfl : n = 0 := by omega
      have he : eStep 0 o (p, q) = (1, So.upd o 0 (p, q)) := by unfold eStep; rw [if_pos ⟨s0, s1⟩, if_neg (by omega)]
      have HE := Lib.hid he
      clear he
      go_enter Tryd.func38, Tryd.ntmps38
      go_wp2_with (go_at_call 47; refine (is_yes (p, q) _ s0 s1).mono ?_; rintro e w2 ⟨rfl, g2⟩; have hblk := (Blk.new w 60 #[.int .i64 p, .int .i64 q]).only g2 (by simp); have e0 := hblk.cell 0; have e1 := hblk.cell 1; simp at e0 e1; have G3 := Lib.hid (only_trans (only_alloc (only_refl _ _) _) g2 : w.grownBy w2 none); have HV2 := Lib.hid (HV.out.only G3.out (own_none_or _)); have HB2 := Lib.hid (HB0.out.trans (below_of_only g2 (Nat.le_trans hB (by simp)) (by simp))); clear hblk g2)
      go_quiet (fail)
      go_wp2_with (at_builtin; refine wpList_append_own_at _ rfl (.tmp 9) (.tmp 11) 57 rfl B 60 i0 _ 2 16 Tryd.underlying57 hi0 hz0 hz1 hz2 rfl (by decide) (.slice A 0 c) 0 (spCells 0 o) rfl (by exact World.ownsRow.alloc (w := w2.drewN nq) (own_of_row HV2.out) _) ⟨w2.heap.size, 0, none⟩ 1 1 [.int .i64 p, .int .i64 q] rfl rfl (one_cells (w2.drewN nq) _ _ _) (one_cell' _ _) (by unfold maxLen; omega) (by omega) (by have := HB2.out.size; simp; omega) ?_; intro v1 wz hown1 hg1 _ hat1; have R1 := Lib.hid (app_own (s := (p, q)) (W := w2.drewN nq) HV2.out (Nat.le_trans hB HB2.out.size) (only_alloc (only_refl (w2.drewN nq) none) _) hown1 hg1); clear hown1 hg1 hat1; obtain ⟨A1, c1, rfl⟩ := R1.out.1.form)
      go_ret
      refine ⟨_, rfl, ?_, (below_drewN HB2.out nq).trans R1.out.2⟩
      rw [HE.out]
      exact R1.out.1
  · have he : eStep n o (p, q) = (n, o) := by unfold eStep; rw [if_neg hs]
    have HE := Lib.hid he
    clear he
    go_enter Tryd.func38, Tryd.ntmps38
    go_wp2_with (go_at_call 47; refine (is_no (p, q) _ hs).mono ?_; rintro e w2 ⟨rfl, g2⟩; have G3 := Lib.hid (only_trans (only_alloc (only_refl _ _) _) g2 : w.grownBy w2 none); have HV2 := Lib.hid (HV.out.only G3.out (own_none_or _)); have HB2 := Lib.hid (HB0.out.trans (below_of_only g2 (Nat.le_trans hB (by simp)) (by simp))); clear g2)
    go_ret
    refine ⟨_, rfl, ?_, HB2.out⟩
    rw [HE.out]
    exact HV2.out
end Go.Proofs.YthhodadfiipffaaDoor
