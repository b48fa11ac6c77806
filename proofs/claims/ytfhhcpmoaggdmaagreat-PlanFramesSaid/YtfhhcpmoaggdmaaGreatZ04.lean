import Derived.Test.YtfhhcpmoaggdmaaGreatZ01
import Derived.Test.YtfhhcpmoaggdmaaGreatZ03
import Derived.Deep.RegionHeld3
import Derived.WalkMore
import Derived.Lib.QuietBelow
import Derived.Deep.Upon
import Derived.Lib.SliceRun
import Derived.Maps.AppendAt
import Derived.Lib.Hide
set_option linter.all false
/- Plain facts on what Merge leaves of sorted spans: spans, rising, that do not touch, of the same places; and how many places they have. No program is spoken of here. -/
namespace Go.Proofs.YtfhhcpmoaggdmaaGreat
open Go.RowKit Go.Lib Go.Sort
set_option linter.unusedVariables false

/-- Is a place in one of the first k spans? -/
def inN (d : Nat → Int × Int) (at' : Int) : Nat → Bool
  | 0 => false
  | k + 1 => inN d at' k || holdsB (d k) at'
theorem inN_iff (d : Nat → Int × Int) (at' : Int) (n : Nat) : inN d at' n = true ↔ ∃ i, i < n ∧ holdsB (d i) at' = true := by
  induction n with
  | zero => simp [inN]
  | succ n ih =>
    simp only [inN, Bool.or_eq_true, ih]
    constructor
    · rintro (⟨i, h1, h2⟩ | h)
      · exact ⟨i, by omega, h2⟩
      · exact ⟨n, by omega, h⟩
    · rintro ⟨i, h1, h2⟩
      by_cases h : i < n
      · exact .inl ⟨i, h, h2⟩
      · obtain rfl : i = n := by omega
        exact .inr h2
theorem holdsB_iff (p : Int × Int) (x : Int) : holdsB p x = true ↔ 0 ≤ p.1 ∧ p.1 ≤ x ∧ x < p.2 := by simp [holdsB]

/-- What has been merged of the first k of some sorted spans. -/
structure Merging (d : Nat → Int × Int) (k m : Nat) (o : Nat → Int × Int) : Prop where
  are : ∀ i, i < m → isS (o i)
  rise : ∀ i, i + 1 < m → (o i).2 < (o (i + 1)).1
  last : 0 < m → ∃ i, i < k ∧ (o (m - 1)).1 = (d i).1
  same : ∀ x, inN o x m = inN d x k
  ends : ∀ i, i < m → ∃ j, j < k ∧ (o i).2 = (d j).2

theorem inN_same {o p : Nat → Int × Int} {x : Int} {m : Nat} (h : ∀ i, i < m → o i = p i) : inN o x m = inN p x m := by
  induction m with
  | zero => rfl
  | succ m ih => simp only [inN]; rw [ih (fun i hi => h i (by omega)), h m (by omega)]

theorem Merging.step {d : Nat → Int × Int} {n k m : Nat} {o : Nat → Int × Int} (h : Merging d k m o) (hs : So.Sorted d 0 n) (hk : k < n) : Merging d (k + 1) (mStep m o (d k)).1 (mStep m o (d k)).2 := by
  unfold mStep
  by_cases c1 : isS (d k)
  · rw [if_pos c1]
    by_cases c2 : 0 < m ∧ (d k).1 ≤ (o (m - 1)).2
    · rw [if_pos c2]
      obtain ⟨m, rfl⟩ : ∃ j, m = j + 1 := ⟨m - 1, by omega⟩
      simp only [Nat.add_sub_cancel] at c2 ⊢
      obtain ⟨i, hi, ei⟩ := h.last (by omega)
      simp only [Nat.add_sub_cancel] at ei
      have hle : (o m).1 ≤ (d k).1 := by
        have := hs i k (by omega) (by omega) hk
        unfold So.le So.lt at this
        omega
      have ham := h.are m (by omega)
      unfold isS at c1 ham
      refine ⟨fun j hj => ?_, fun j hj => ?_, fun _ => ⟨i, by omega, ?_⟩, fun x => ?_, fun j hj => ?_⟩
      · by_cases e : j = m
        · subst e; simp [So.upd, isS]; omega
        · simp [So.upd, e]; exact h.are j hj
      · by_cases e : j + 1 = m
        · simp [So.upd, e, show ¬ j = m by omega]; have := h.rise j (by omega); rw [e] at this; exact this
        · simp [So.upd, e, show ¬ j = m by omega]; exact h.rise j (by omega)
      · simp [So.upd]; exact ei
      · have h1 := h.same x
        simp only [inN] at h1 ⊢
        rw [← h1, inN_same (o := So.upd o m ((o m).1, max (o m).2 (d k).2)) (p := o) (fun i hi => by simp [So.upd, show ¬ i = m by omega])]
        rw [Bool.or_assoc]
        congr 1
        rw [Bool.eq_iff_iff, Bool.or_eq_true, holdsB_iff, holdsB_iff, holdsB_iff]
        simp [So.upd]
        omega
      · by_cases e : j = m
        · subst e
          simp [So.upd]
          obtain ⟨q, q1, q2⟩ := h.ends j (by omega)
          by_cases c : (o j).2 ≤ (d k).2
          · exact ⟨k, by omega, by omega⟩
          · exact ⟨q, by omega, by omega⟩
        · simp [So.upd, e]
          obtain ⟨q, q1, q2⟩ := h.ends j (by omega)
          exact ⟨q, by omega, q2⟩
    · rw [if_neg c2]
      refine ⟨fun j hj => ?_, fun j hj => ?_, fun _ => ⟨k, by omega, ?_⟩, fun x => ?_, fun j hj => ?_⟩
      · by_cases e : j = m
        · subst e; simp [So.upd]; exact c1
        · simp [So.upd, e]; exact h.are j (by simp at hj; omega)
      · simp at hj
        by_cases e : j + 1 = m
        · subst e
          simp [So.upd]
          simp at c2
          omega
        · simp [So.upd, show ¬ j = m by omega, e]; exact h.rise j (by omega)
      · simp [So.upd]
      · simp only [inN]
        rw [← h.same x, inN_same (o := So.upd o m (d k)) (p := o) (fun i hi => by simp [So.upd, show ¬ i = m by omega])]
        simp [So.upd]
      · by_cases e : j = m
        · subst e; simp [So.upd]; exact ⟨k, by omega, rfl⟩
        · simp [So.upd, e]
          obtain ⟨q, q1, q2⟩ := h.ends j (by simp at hj; omega)
          exact ⟨q, by omega, q2⟩
  · rw [if_neg c1]
    refine ⟨h.are, h.rise, fun hm => ?_, fun x => ?_, fun j hj => ?_⟩
    · obtain ⟨i, hi, e⟩ := h.last hm
      exact ⟨i, by omega, e⟩
    · simp only [inN]
      rw [h.same x]
      have : holdsB (d k) x = false := by
        rw [← Bool.not_eq_true, holdsB_iff]
        unfold isS at c1
        omega
      rw [this, Bool.or_false]
    · obtain ⟨q, q1, q2⟩ := h.ends j hj
      exact ⟨q, by omega, q2⟩
theorem merging {d : Nat → Int × Int} {n : Nat} (hs : So.Sorted d 0 n) (k : Nat) (hk : k ≤ n) : Merging d k (mTo d k).1 (mTo d k).2 := by
  induction k with
  | zero => exact ⟨fun i hi => by simp [mTo] at hi, fun i hi => by simp [mTo] at hi, fun hm => by simp [mTo] at hm, fun x => rfl, fun i hi => by simp [mTo] at hi⟩
  | succ k ih => exact (ih (by omega)).step hs (by omega)

theorem w64_id (x : Int) (h0 : -9223372036854775808 ≤ x) (h1 : x < 9223372036854775808) : wrap64 x = x := by
  unfold wrap64
  omega
/-- How many of the places from 0 up to N are so. -/
def cnt (p : Int → Bool) : Nat → Int
  | 0 => 0
  | N + 1 => cnt p N + (if p N then 1 else 0)
theorem cnt_same {p q : Int → Bool} {N : Nat} (h : ∀ x : Nat, x < N → p x = q x) : cnt p N = cnt q N := by
  induction N with
  | zero => rfl
  | succ N ih => simp only [cnt]; rw [ih (fun x hx => h x (by omega)), h N (by omega)]
theorem cnt_or {p q : Int → Bool} {N : Nat} (h : ∀ x : Nat, x < N → ¬ (p x = true ∧ q x = true)) : cnt (fun x => p x || q x) N = cnt p N + cnt q N := by
  induction N with
  | zero => rfl
  | succ N ih =>
    simp only [cnt]
    rw [ih (fun x hx => h x (by omega))]
    have := h N (by omega)
    by_cases hp : p (N : Int) = true
    · by_cases hq : q (N : Int) = true
      · exact absurd ⟨hp, hq⟩ this
      · simp [hp, hq]; omega
    · by_cases hq : q (N : Int) = true
      · simp [hp, hq]; omega
      · simp [hp, hq]
theorem cnt_span {a b : Int} (h0 : 0 ≤ a) (h1 : a ≤ b) {N : Nat} : cnt (fun x => holdsB (a, b) x) N = min b N - min a N := by
  induction N with
  | zero => simp [cnt]; omega
  | succ N ih =>
    simp only [cnt]
    rw [ih]
    by_cases h : holdsB (a, b) (N : Int) = true
    · rw [if_pos h]
      rw [holdsB_iff] at h
      simp only at h
      omega
    · rw [if_neg h]
      rw [holdsB_iff] at h
      simp only at h
      omega
theorem cnt_le (p : Int → Bool) (N : Nat) : 0 ≤ cnt p N ∧ cnt p N ≤ N := by
  induction N with
  | zero => simp [cnt]
  | succ N ih => simp only [cnt]; split <;> omega
/-- Rising spans: the first ones end ahead of each later one. -/
theorem rise_far {o : Nat → Int × Int} {m : Nat} (h1 : ∀ i, i < m → isS (o i)) (h2 : ∀ i, i + 1 < m → (o i).2 < (o (i + 1)).1) {i j : Nat} (hij : i < j) (hj : j < m) : (o i).2 < (o j).1 := by
  induction j with
  | zero => omega
  | succ j ih =>
    by_cases e : i = j
    · subst e; exact h2 i hj
    · have a := ih (by omega) (by omega)
      have b := h1 j (by omega)
      have c := h2 j hj
      unfold isS at b
      omega
theorem total_cnt {o : Nat → Int × Int} {m : Nat} (h1 : ∀ i, i < m → isS (o i)) (h2 : ∀ i, i + 1 < m → (o i).2 < (o (i + 1)).1) (h3 : ∀ i, i < m → (o i).2 ≤ 300) (k : Nat) (hk : k ≤ m) : tTo o k = cnt (fun x => inN o x k) 300 := by
  induction k with
  | zero =>
    have z : ∀ N, cnt (fun x => inN o x 0) N = 0 := fun N => by
      induction N with
      | zero => rfl
      | succ N ih => simp only [cnt]; rw [ih]; rfl
    rw [z]
    rfl
  | succ k ih =>
    have e := cnt_or (p := fun x => inN o x k) (q := fun x => holdsB (o k) x) (N := 300) (fun x _ => by
      rintro ⟨a, b⟩
      rw [inN_iff] at a
      obtain ⟨i, hi, a⟩ := a
      rw [holdsB_iff] at a b
      have := rise_far h1 h2 hi (by omega)
      omega)
    have s := h1 k (by omega)
    have l := h3 k (by omega)
    unfold isS at s
    have c := cnt_span (a := (o k).1) (b := (o k).2) s.1 (by omega) (N := 300)
    have t := cnt_le (fun x => inN o x (k + 1)) 300
    have e' : cnt (fun x => inN o x (k + 1)) 300 = cnt (fun x => inN o x k) 300 + cnt (fun x => holdsB (o k) x) 300 := e
    show wrap64 (tTo o k + wrap64 ((o k).2 - (o k).1)) = _
    rw [ih (by omega), e']
    have c' : cnt (fun x => holdsB (o k) x) 300 = min (o k).2 300 - min (o k).1 300 := c
    have u := cnt_le (fun x => inN o x k) 300
    rw [c']
    rw [w64_id ((o k).2 - (o k).1) (by omega) (by omega), w64_id _ (by omega) (by omega)]
    omega
end Go.Proofs.YtfhhcpmoaggdmaaGreat

/- Is a place in one of some spans: the contract of the document's In. Are they small: that of its Small. -/
namespace Go.Proofs.YtfhhcpmoaggdmaaGreat
open Go.RowKit Go.Lib Go.Sort
set_option linter.unusedVariables false

/-- What Small says. -/
def SmallV (n : Nat) (d : Nat → Int × Int) (w : World) (e : Ending) (w' : World) : Prop :=
  ∃ r : Bool, e = .returned (.bool r) ∧ (r = true → n ≤ 30 ∧ ∀ i, i < n → (d i).2 ≤ 300) ∧ Below w.heap.size w w'
end Go.Proofs.YtfhhcpmoaggdmaaGreat

/- Do two of some spans meet, and are all spans that do not: the contracts of someMeet and Apart. -/
namespace Go.Proofs.YtfhhcpmoaggdmaaGreat
open Go.RowKit Go.Lib Go.Sort
set_option linter.unusedVariables false

/-- What someMeet says: no only if the sorted spans lie one behind the other. -/
def FarV (n : Nat) (d : Nat → Int × Int) (w : World) (e : Ending) (w' : World) : Prop :=
  ∃ (r : Bool) (d' : Nat → Int × Int), e = .returned (.bool r) ∧ So.Perm 0 n d d' ∧ So.Sorted d' 0 n ∧ (r = false → ∀ i j, i < j → j < n → isS (d' i) → isS (d' j) → (d' i).2 ≤ (d' j).1) ∧ Below w.heap.size w w'

end Go.Proofs.YtfhhcpmoaggdmaaGreat

/- Are all spans that do not meet: the contract of Apart. -/
namespace Go.Proofs.YtfhhcpmoaggdmaaGreat
open Go.RowKit Go.Lib Go.Sort
set_option linter.unusedVariables false

theorem isB_iff (p : Int × Int) : isB p = true ↔ isS p := by simp [isB, isS]
def IndexV (n : Nat) (d : Nat → Int × Int) (w : World) (e : Ending) (w' : World) : Prop :=
  ∃ j : Int, e = .returned (.int .i64 j) ∧ (j < 0 → ∀ i, i < n → isS (d i)) ∧ -1 ≤ j ∧ j < 1000001 ∧ Below w.heap.size w w'
def ContainsV (n : Nat) (d : Nat → Int × Int) (w : World) (e : Ending) (w' : World) : Prop :=
  ∃ r : Bool, e = .returned (.bool r) ∧ (r = false → ∀ i, i < n → isS (d i)) ∧ Below w.heap.size w w'
/-- What Apart says. -/
def ApartV (n : Nat) (d : Nat → Int × Int) (w : World) (e : Ending) (w' : World) : Prop :=
  ∃ (r : Bool), e = .returned (.bool r) ∧ (r = true → (∀ i, i < n → isS (d i)) ∧ ∃ d', So.Perm 0 n d d' ∧ So.Sorted d' 0 n ∧ ∀ i j, i < j → j < n → isS (d' i) → isS (d' j) → (d' i).2 ≤ (d' j).1) ∧ Below w.heap.size w w'
end Go.Proofs.YtfhhcpmoaggdmaaGreat

/- Plain facts: how many places spans have that are apart; and in whatever order. -/
namespace Go.Proofs.YtfhhcpmoaggdmaaGreat
open Go.RowKit Go.Lib Go.Sort
set_option linter.unusedVariables false

/-- The lengths of the first k spans, as1 the text adds them up. -/
def allN (d : Nat → Int × Int) : Nat → Int
  | 0 => 0
  | k + 1 => if isB (d k) then wrap64 (allN d k + wrap64 ((d k).2 - (d k).1)) else allN d k
theorem all_cnt {d : Nat → Int × Int} {n : Nat} (h1 : ∀ i, i < n → isS (d i)) (h2 : ∀ i j, i < j → j < n → ∀ x, ¬ (holdsB (d i) x = true ∧ holdsB (d j) x = true)) (h3 : ∀ i, i < n → (d i).2 ≤ 300) (k : Nat) (hk : k ≤ n) : allN d k = cnt (fun x => inN d x k) 300 := by
  induction k with
  | zero =>
    have z : ∀ N, cnt (fun x => inN d x 0) N = 0 := fun N => by
      induction N with
      | zero => rfl
      | succ N ih => simp only [cnt]; rw [ih]; rfl
    rw [z]
    rfl
  | succ k ih =>
    have e := cnt_or (p := fun x => inN d x k) (q := fun x => holdsB (d k) x) (N := 300) (fun x _ => by
      rintro ⟨a, b⟩
      rw [inN_iff] at a
      obtain ⟨i, hi, a⟩ := a
      exact h2 i k hi (by omega) x ⟨a, b⟩)
    have s := h1 k (by omega)
    have l := h3 k (by omega)
    have sb := (isB_iff _).2 s
    unfold isS at s
    have c := cnt_span (a := (d k).1) (b := (d k).2) s.1 (by omega) (N := 300)
    have t := cnt_le (fun x => inN d x (k + 1)) 300
    have e' : cnt (fun x => inN d x (k + 1)) 300 = cnt (fun x => inN d x k) 300 + cnt (fun x => holdsB (d k) x) 300 := e
    show (if isB (d k) then wrap64 (allN d k + wrap64 ((d k).2 - (d k).1)) else allN d k) = _
    rw [if_pos sb, ih (by omega), e']
    have c' : cnt (fun x => holdsB (d k) x) 300 = min (d k).2 300 - min (d k).1 300 := c
    have u := cnt_le (fun x => inN d x k) 300
    rw [c']
    rw [w64_id ((d k).2 - (d k).1) (by omega) (by omega), w64_id _ (by omega) (by omega)]
    omega
theorem inN_perm {n : Nat} {d e : Nat → Int × Int} (h : So.Perm 0 n d e) (x : Int) : inN e x n = inN d x n := by
  obtain ⟨s, t, h1, h2, h3, h4⟩ := h
  have ht : ∀ k, k < n → t k < n := fun k hk => by
    rcases Nat.lt_or_ge (t k) n with h | h
    · exact h
    · have := h3 (t k) (by omega)
      rw [h2] at this
      omega
  have hs : ∀ k, k < n → s k < n := fun k hk => by
    rcases Nat.lt_or_ge (s k) n with h | h
    · exact h
    · have := h3 (s k) (by omega)
      have e2 := h1 (s k)
      rw [this] at e2
      have e1 := h1 k
      rw [e1] at e2
      omega
  rw [Bool.eq_iff_iff, inN_iff, inN_iff]
  constructor
  · rintro ⟨i, hi, h⟩
    exact ⟨s i, hs i hi, by rw [← h4]; exact h⟩
  · rintro ⟨i, hi, h⟩
    exact ⟨t i, ht i hi, by rw [h4, h2]; exact h⟩
theorem perm_ends {n : Nat} {d e : Nat → Int × Int} (h : So.Perm 0 n d e) (hd : ∀ i, i < n → (d i).2 ≤ 300) : ∀ i, i < n → (e i).2 ≤ 300 := fun i hi => by
  obtain ⟨j, _, j2, e⟩ := h.into (k := i) ⟨by omega, hi⟩
  rw [e]; exact hd j j2
/-- What Total answers of small spans. -/
theorem total_is {n : Nat} {d e : Nat → Int × Int} (h : So.Perm 0 n d e) (hs : So.Sorted e 0 n) (hd : ∀ i, i < n → (d i).2 ≤ 300) : tTo (mTo e n).2 (mTo e n).1 = cnt (fun x => inN d x n) 300 := by
  have m := merging hs n (Nat.le_refl _)
  rw [total_cnt m.are m.rise (fun i hi => by
    obtain ⟨j, j1, j2⟩ := m.ends i hi
    rw [j2]; exact perm_ends h hd j j1) _ (Nat.le_refl _)]
  exact cnt_same fun x _ => by rw [m.same, inN_perm h]
/-- What the lengths of small spans that are apart come to. -/
theorem all_is {n : Nat} {d e : Nat → Int × Int} (h : So.Perm 0 n d e) (hi : ∀ i, i < n → isS (d i)) (hf : ∀ i j, i < j → j < n → isS (e i) → isS (e j) → (e i).2 ≤ (e j).1) (hd : ∀ i, i < n → (d i).2 ≤ 300) : allN d n = cnt (fun x => inN d x n) 300 := by
  refine all_cnt hi (fun i j hij hj x hx => ?_) hd n (Nat.le_refl _)
  obtain ⟨s, t, h1, h2, h3, h4⟩ := h
  have ht : ∀ k, k < n → t k < n := fun k hk => by
    rcases Nat.lt_or_ge (t k) n with h | h
    · exact h
    · have := h3 (t k) (by omega)
      rw [h2] at this
      omega
  have e1 : ∀ k, e (t k) = d k := fun k => by rw [h4, h2]
  have ne : t i ≠ t j := fun q => by
    have := h2 i
    rw [q, h2] at this
    omega
  obtain ⟨a, b⟩ := hx
  rw [holdsB_iff] at a b
  have si := hi i (by omega)
  have sj := hi j hj
  rw [← e1] at si sj a b
  rcases Nat.lt_or_ge (t i) (t j) with q | q
  · have := hf (t i) (t j) q (ht j hj) si sj
    omega
  · have := hf (t j) (t i) (by omega) (ht i (by omega)) sj si
    omega
end Go.Proofs.YtfhhcpmoaggdmaaGreat

/- Plain facts: rows of spans that rise and do not touch are one and the same if they have the same places. No program is spoken of here. -/
namespace Go.Proofs.YtfhhcpmoaggdmaaGreat
open Go.RowKit Go.Lib Go.Sort
set_option linter.unusedVariables false

/-- Spans, rising, that do not touch. -/
def Rising (m : Nat) (o : Nat → Int × Int) : Prop := (∀ i, i < m → isS (o i)) ∧ ∀ i, i + 1 < m → (o i).2 < (o (i + 1)).1
theorem Rising.far {m : Nat} {o : Nat → Int × Int} (h : Rising m o) {i j : Nat} (hij : i < j) (hj : j < m) : (o i).2 < (o j).1 := rise_far h.1 h.2 hij hj
theorem Rising.head {m : Nat} {o : Nat → Int × Int} (h : Rising (m + 1) o) {i : Nat} (hi : i < m + 1) : (o 0).1 ≤ (o i).1 := by
  by_cases e : i = 0
  · subst e; omega
  · have := h.far (show 0 < i by omega) hi
    have := h.1 0 (by omega)
    unfold isS at this
    omega
/-- What a place is held by. -/
theorem Rising.only {m : Nat} {o : Nat → Int × Int} (h : Rising m o) {i j : Nat} (hi : i < m) (hj : j < m) {x : Int} (a : holdsB (o i) x = true) (b : holdsB (o j) x = true) : i = j := by
  rw [holdsB_iff] at a b
  rcases Nat.lt_trichotomy i j with q | q | q
  · have := h.far q hj; omega
  · exact q
  · have := h.far q hi; omega
/-- The same places, the same spans: each span of one is one of the other. -/
theorem Rising.is {m n : Nat} {o p : Nat → Int × Int} (h : Rising m o) (k : Rising n p) (e : ∀ x, inN o x m = inN p x n) {i : Nat} (hi : i < m) : ∃ j, j < n ∧ o i = p j := by
  have s := h.1 i hi
  unfold isS at s
  -- the first place of o i lies in some p j
  have h1 : inN o (o i).1 m = true := (inN_iff _ _ _).2 ⟨i, hi, by rw [holdsB_iff]; omega⟩
  rw [e] at h1
  obtain ⟨j, hj, h1⟩ := (inN_iff _ _ _).1 h1
  refine ⟨j, hj, ?_⟩
  rw [holdsB_iff] at h1
  -- p j begins there: else the place ahead of it is in o, in another span that ends there
  have b1 : (p j).1 = (o i).1 := by
    rcases Int.lt_or_eq_of_le h1.2.1 with q | q
    · have h2 : inN p ((o i).1 - 1) n = true := (inN_iff _ _ _).2 ⟨j, hj, by rw [holdsB_iff]; omega⟩
      rw [← e] at h2
      obtain ⟨l, hl, h2⟩ := (inN_iff _ _ _).1 h2
      rw [holdsB_iff] at h2
      rcases Nat.lt_trichotomy l i with r | r | r
      · have := h.far r hi; omega
      · subst r; omega
      · have := h.far r hl; omega
    · exact q
  -- and ends where o i ends
  have b2 : (p j).2 = (o i).2 := by
    rcases Int.lt_trichotomy (p j).2 (o i).2 with q | q | q
    · have h2 : inN o (p j).2 m = true := (inN_iff _ _ _).2 ⟨i, hi, by rw [holdsB_iff]; omega⟩
      rw [e] at h2
      obtain ⟨l, hl, h2⟩ := (inN_iff _ _ _).1 h2
      rw [holdsB_iff] at h2
      rcases Nat.lt_trichotomy l j with r | r | r
      · have := k.far r hj; have := k.1 j hj; unfold isS at this; omega
      · subst r; omega
      · have := k.far r hl; omega
    · exact q
    · have h2 : inN p (o i).2 n = true := (inN_iff _ _ _).2 ⟨j, hj, by rw [holdsB_iff]; omega⟩
      rw [← e] at h2
      obtain ⟨l, hl, h2⟩ := (inN_iff _ _ _).1 h2
      rw [holdsB_iff] at h2
      rcases Nat.lt_trichotomy l i with r | r | r
      · have := h.far r hi; omega
      · subst r; omega
      · have := h.far r hl; omega
  exact Prod.ext b1.symm b2.symm
theorem Rising.lt {m : Nat} {o : Nat → Int × Int} (h : Rising m o) {i j : Nat} (hij : i < j) (hj : j < m) : (o i).1 < (o j).1 := by
  have a := h.far hij hj
  have b := h.1 i (by omega)
  unfold isS at b
  omega
theorem Rising.one {m n : Nat} {o p : Nat → Int × Int} (h : Rising m o) (k : Rising n p) (e : ∀ x, inN o x m = inN p x n) : ∀ i, i < m → i < n ∧ o i = p i := by
  intro i
  induction i using Nat.strongRecOn with
  | _ i ih =>
    intro hi
    obtain ⟨j, hj, ej⟩ := h.is k e hi
    rcases Nat.lt_trichotomy j i with r | r | r
    · have a := (ih j r (by omega)).2
      have b := h.lt r hi
      rw [a, ← ej] at b
      omega
    · subst r; exact ⟨hj, ej⟩
    · have hin : i < n := by omega
      refine ⟨hin, ?_⟩
      obtain ⟨l, hl, el⟩ := k.is h (fun x => (e x).symm) hin
      rcases Nat.lt_trichotomy l i with q | q | q
      · have a := (ih l q hl).2
        have b := k.lt q hin
        rw [← a, ← el] at b
        omega
      · subst q; exact el.symm
      · have a := h.lt q hl
        have b := k.lt r hj
        rw [ej, ← el] at a
        omega
theorem Rising.len {m n : Nat} {o p : Nat → Int × Int} (h : Rising m o) (k : Rising n p) (e : ∀ x, inN o x m = inN p x n) : m = n := by
  rcases Nat.lt_trichotomy m n with q | q | q
  · have a := (k.one h (fun x => (e x).symm) m q).1
    omega
  · exact q
  · have a := (h.one k e n q).1
    omega
end Go.Proofs.YtfhhcpmoaggdmaaGreat

/- Plain facts: rising spans cut to a frame. And the offsets that a frame has: the contract. -/
namespace Go.Proofs.YtfhhcpmoaggdmaaGreat
open Go.RowKit Go.Lib Go.Sort
set_option linter.unusedVariables false

/-- One more span, cut to a frame of f ticks. -/
def cStep (f : Int) (n : Nat) (p : Nat → Int × Int) (s : Int × Int) : Nat × (Nat → Int × Int) := if meetsB s (0, f) then (n + 1, So.upd p n (meetV s (0, f))) else (n, p)
def cTo (f : Int) (o : Nat → Int × Int) : Nat → Nat × (Nat → Int × Int)
  | 0 => (0, fun _ => (0, 0))
  | k + 1 => cStep f (cTo f o k).1 (cTo f o k).2 (o k)
theorem cStep_le (f : Int) (n : Nat) (p : Nat → Int × Int) (s : Int × Int) : (cStep f n p s).1 ≤ n + 1 := by unfold cStep; split <;> simp
theorem cTo_le (f : Int) (o : Nat → Int × Int) (k : Nat) : (cTo f o k).1 ≤ k := by
  induction k with
  | zero => simp [cTo]
  | succ k ih => have := cStep_le f (cTo f o k).1 (cTo f o k).2 (o k); show (cStep _ _ _ _).1 ≤ _; omega
structure Cutting (f : Int) (o : Nat → Int × Int) (k n : Nat) (p : Nat → Int × Int) : Prop where
  up : Rising n p
  ends : ∀ i, i < n → (p i).2 ≤ f
  from' : ∀ i, i < n → ∃ j, j < k ∧ (o j).1 ≤ (p i).1 ∧ (p i).2 ≤ (o j).2
  same : ∀ x, 0 ≤ x → x < f → inN p x n = inN o x k
theorem bothOf_in (s : Int × Int) (f : Int) (hm : meetsB s (0, f) = true) : s.1 ≤ (meetV s (0, f)).1 ∧ (meetV s (0, f)).2 ≤ s.2 := by
  unfold meetV
  rw [if_pos hm]
  simp only [bothOf]
  constructor <;> split <;> omega
theorem Cutting.step {f : Int} {o : Nat → Int × Int} {m k n : Nat} {p : Nat → Int × Int} (h : Cutting f o k n p) (ho : Rising m o) (hk : k < m) : Cutting f o (k + 1) (cStep f n p (o k)).1 (cStep f n p (o k)).2 := by
  unfold cStep
  by_cases hm : meetsB (o k) (0, f) = true
  · rw [if_pos hm]
    obtain ⟨q1, q2, q3⟩ := meet_in hm
    obtain ⟨q4, q5⟩ := bothOf_in (o k) f hm
    refine ⟨⟨fun i hi => ?_, fun i hi => ?_⟩, fun i hi => ?_, fun i hi => ?_, fun x x0 x1 => ?_⟩
    · by_cases e : i = n
      · subst e; simp [So.upd, isS]; exact ⟨q1, q2⟩
      · simp [So.upd, e]; exact h.up.1 i (by simp at hi; omega)
    · simp at hi
      by_cases e : i + 1 = n
      · subst e
        obtain ⟨j, hj, j1, j2⟩ := h.from' i (by omega)
        have := ho.far hj hk
        simp [So.upd]
        omega
      · simp [So.upd, e, show ¬ i = n by omega]; exact h.up.2 i (by omega)
    · by_cases e : i = n
      · subst e; simp [So.upd]; exact q3
      · simp [So.upd, e]; exact h.ends i (by simp at hi; omega)
    · by_cases e : i = n
      · subst e; simp [So.upd]; exact ⟨k, by omega, q4, q5⟩
      · simp [So.upd, e]
        obtain ⟨j, hj, j1, j2⟩ := h.from' i (by simp at hi; omega)
        exact ⟨j, by omega, j1, j2⟩
    · simp only [inN]
      rw [inN_same (o := So.upd p n (meetV (o k) (0, f))) (p := p) (fun i hi => by simp [So.upd, show ¬ i = n by omega]), h.same x x0 x1]
      simp only [So.upd, if_true]
      rw [meet_holds x0 x1]
  · rw [if_neg hm]
    have hm' : meetsB (o k) (0, f) = false := by simpa using hm
    refine ⟨h.up, h.ends, fun i hi => ?_, fun x x0 x1 => ?_⟩
    · obtain ⟨j, hj, j1, j2⟩ := h.from' i hi
      exact ⟨j, by omega, j1, j2⟩
    · simp only [inN]
      rw [h.same x x0 x1, meet_not hm' x0 x1, Bool.or_false]
theorem cutting {f : Int} {o : Nat → Int × Int} {m : Nat} (ho : Rising m o) (k : Nat) (hk : k ≤ m) : Cutting f o k (cTo f o k).1 (cTo f o k).2 := by
  induction k with
  | zero => exact ⟨⟨fun i hi => by simp [cTo] at hi, fun i hi => by simp [cTo] at hi⟩, fun i hi => by simp [cTo] at hi, fun i hi => by simp [cTo] at hi, fun x _ _ => rfl⟩
  | succ k ih => exact (ih (by omega)).step ho (by omega)
theorem Cutting.whole {f : Int} {o : Nat → Int × Int} {k n : Nat} {p : Nat → Int × Int} (h : Cutting f o k n p) (x : Int) : inN p x n = (decide (0 ≤ x ∧ x < f) && inN o x k) := by
  by_cases c : 0 ≤ x ∧ x < f
  · rw [h.same x c.1 c.2]; simp [c]
  · have : inN p x n = false := by
      rw [← Bool.not_eq_true, inN_iff]
      rintro ⟨i, hi, q⟩
      rw [holdsB_iff] at q
      have := h.ends i hi
      omega
    rw [this]; simp [c]

/-- The offsets of a frame of f ticks that are in one of some spans, as1 rising spans. -/
def FrameV (B len : Nat) (f : Int) (d : Nat → Int × Int) (w : World) (e : Ending) (w' : World) : Prop :=
  ∃ v n o, e = .returned v ∧ RowV w' B v n o ∧ n ≤ len ∧ Rising n o ∧ (∀ i, i < n → (o i).2 ≤ f) ∧ (∀ x, inN o x n = (rightB f && decide (0 ≤ x ∧ x < f) && inN d x len)) ∧ Below B w w'

/-- What an append of one span to the call's own spans leaves. -/
theorem app_own {B n : Nat} {v v1 : Value} {o : Nat → Int × Int} {s : Int × Int} {W W' wz : World} (hV : RowV W B v n o) (hB : B ≤ W.heap.size) (hW : W.grownBy W' none)
    (hown : wz.ownsRow B 40 2 v1 (n + 1) (spCells n o ++ [.int .i64 s.1, .int .i64 s.2])) (hg : W'.grownBy wz v.ownBlock) :
    RowV wz B v1 (n + 1) (So.upd o n s) ∧ Below B W wz := by
  rw [spCells_upd] at hown
  exact ⟨row_of_own hown, (below_of_only hW hB (by simp)).trans (below_of_only hg (Nat.le_trans hB hW.size) (fun k hk => (hV.blk k hk).1))⟩
theorem RowV.far {w w' : World} {B n : Nat} {v : Value} {d : Nat → Int × Int} (h : RowV w B v n d) (hb : Below w.heap.size w w') : RowV w' B v n d := h.only (only_far hb) (own_none_or _)

end Go.Proofs.YtfhhcpmoaggdmaaGreat

/- Plain facts on the ticks that have one of some offsets: how many there are ahead of one. No program is spoken of here. -/
namespace Go.Proofs.YtfhhcpmoaggdmaaGreat
open Go.RowKit Go.Lib Go.Sort
set_option linter.unusedVariables false

theorem cnt_step (p : Int → Bool) (N : Nat) : cnt p (N + 1) = cnt p N + (if p N then 1 else 0) := rfl
theorem cnt_more {p : Int → Bool} {M N : Nat} (h : M ≤ N) : cnt p M ≤ cnt p N := by
  induction N with
  | zero => obtain rfl : M = 0 := by omega
            exact Int.le_refl _
  | succ N ih =>
    by_cases e : M = N + 1
    · subst e; exact Int.le_refl _
    · have := ih (by omega)
      rw [cnt_step]
      split <;> omega
/-- Where p holds no more, the count stands. -/
theorem cnt_cut {p : Int → Bool} {M N : Nat} (h : M ≤ N) (hp : ∀ x : Int, M ≤ x → p x = false) : cnt p N = cnt p M := by
  induction N with
  | zero => obtain rfl : M = 0 := by omega
            rfl
  | succ N ih =>
    by_cases e : M = N + 1
    · subst e; rfl
    · rw [cnt_step, ih (by omega), hp N (by omega)]
      simp

/-- How many ticks ahead of t have an offset that p holds, E of each frame. -/
def gT (p : Int → Bool) (f E t : Int) : Int := t / f * E + cnt p (t % f).toNat
theorem gT_next {p : Int → Bool} {f E t : Int} (hf : 0 < f) (hE : E = cnt p f.toNat) : gT p f E (t + 1) = gT p f E t + (if p (t % f) then 1 else 0) := by
  obtain ⟨a, b, c⟩ := ticks (t := t) hf
  obtain ⟨r, hr⟩ : ∃ r : Nat, t % f = r := ⟨(t % f).toNat, by omega⟩
  unfold gT
  by_cases h : t % f + 1 < f
  · obtain ⟨e1, e2⟩ := tick_next hf h
    rw [e1, e2, hr, show ((r : Int) + 1).toNat = r + 1 by omega, show (r : Int).toNat = r by omega, cnt_step]
    omega
  · obtain ⟨e1, e2⟩ := tick_turn hf h
    have hfr : f.toNat = r + 1 := by omega
    rw [e1, e2, hr, Int.add_mul, Int.one_mul, show (r : Int).toNat = r by omega]
    have h0 : cnt p (0 : Int).toNat = 0 := rfl
    have hE2 : E = cnt p r + (if p r then 1 else 0) := by rw [hE, hfr, cnt_step]
    rw [h0]
    omega
theorem gT_more {p : Int → Bool} {f E t : Int} (hf : 0 < f) (hE : E = cnt p f.toNat) (k : Nat) : gT p f E t ≤ gT p f E (t + k) := by
  induction k with
  | zero => simp
  | succ k ih =>
    rw [show t + ((k + 1 : Nat) : Int) = (t + k) + 1 by omega, gT_next hf hE]
    split <;> omega
theorem gT_le {p : Int → Bool} {f E t u : Int} (hf : 0 < f) (hE : E = cnt p f.toNat) (h : t ≤ u) : gT p f E t ≤ gT p f E u := by
  have := gT_more (t := t) hf hE (u - t).toNat
  rw [show t + ((u - t).toNat : Int) = u by omega] at this
  exact this
/-- Of the ticks with such an offset one alone has so many ahead of it. -/
theorem gT_one {p : Int → Bool} {f E t u : Int} (hf : 0 < f) (hE : E = cnt p f.toNat) (ht : p (t % f) = true) (hu : p (u % f) = true) (h : gT p f E t = gT p f E u) : t = u := by
  rcases Int.lt_trichotomy t u with q | q | q
  · have h1 := gT_next (t := t) hf hE
    have h2 := gT_le (t := t + 1) (u := u) hf hE (by omega)
    rw [ht] at h1
    simp at h1
    omega
  · exact q
  · have h1 := gT_next (t := u) hf hE
    have h2 := gT_le (t := u + 1) (u := t) hf hE (by omega)
    rw [hu] at h1
    simp at h1
    omega
theorem gT_at {p : Int → Bool} {f E q r : Int} (h0 : 0 ≤ r) (h1 : r < f) : gT p f E (q * f + r) = q * E + cnt p r.toNat := by
  obtain ⟨e1, e2⟩ := tick_one (q := q) h0 h1
  unfold gT
  rw [e1, e2]

/-- How many places from a on lie in the first i spans. -/
def kN (o : Nat → Int × Int) (f a : Int) (i : Nat) : Int := cnt (fun x => inN o x i) f.toNat - cnt (fun x => inN o x i) a.toNat
/-- How many places of one span lie from a on. -/
def widthV (s : Int × Int) (a : Int) : Int := s.2 - (if s.1 < a then a else s.1)
theorem kN_zero (o : Nat → Int × Int) (f a : Int) : kN o f a 0 = 0 := by
  have z : ∀ N, cnt (fun x => inN o x 0) N = 0 := fun N => by
    induction N with
    | zero => rfl
    | succ N ih => rw [cnt_step, ih]; rfl
  unfold kN
  rw [z, z]
  rfl
theorem cnt_in_step {o : Nat → Int × Int} {n i : Nat} (ho : Rising n o) (hi : i < n) (N : Nat) : cnt (fun x => inN o x (i + 1)) N = cnt (fun x => inN o x i) N + (min (o i).2 N - min (o i).1 N) := by
  have e := cnt_or (p := fun x => inN o x i) (q := fun x => holdsB (o i) x) (N := N) (fun x _ => by
    rintro ⟨a, b⟩
    rw [inN_iff] at a
    obtain ⟨j, hj, a⟩ := a
    rw [holdsB_iff] at a b
    have := ho.far hj hi
    omega)
  have s := ho.1 i hi
  unfold isS at s
  have c := cnt_span (a := (o i).1) (b := (o i).2) s.1 (by omega) (N := N)
  have e' : cnt (fun x => inN o x (i + 1)) N = cnt (fun x => inN o x i) N + cnt (fun x => holdsB (o i) x) N := e
  rw [e']
  have c' : cnt (fun x => holdsB (o i) x) N = min (o i).2 N - min (o i).1 N := c
  rw [c']
theorem kN_step {o : Nat → Int × Int} {n i : Nat} {f a : Int} (ho : Rising n o) (he : (o i).2 ≤ f) (hi : i < n) (ha : 0 ≤ a) (haf : a ≤ f) : kN o f a (i + 1) = kN o f a i + (if widthV (o i) a ≤ 0 then 0 else widthV (o i) a) := by
  have s := ho.1 i hi
  unfold isS at s
  unfold kN
  rw [cnt_in_step ho hi, cnt_in_step ho hi]
  have e1 : (f.toNat : Int) = f := by omega
  have e2 : (a.toNat : Int) = a := by omega
  rw [e1, e2]
  unfold widthV
  repeat' split
  all_goals omega
theorem kN_all {o : Nat → Int × Int} {n : Nat} {f a : Int} : kN o f a n = cnt (fun x => inN o x n) f.toNat - cnt (fun x => inN o x n) a.toNat := rfl
/-- The places ahead of the end of a span lie in the spans up to it. -/
theorem cnt_upto {o : Nat → Int × Int} {n i : Nat} (ho : Rising n o) (hi : i < n) (N : Nat) (hN : (N : Int) ≤ (o i).2) : cnt (fun x => inN o x n) N = cnt (fun x => inN o x (i + 1)) N := by
  refine cnt_same fun x hx => ?_
  rw [Bool.eq_iff_iff, inN_iff, inN_iff]
  constructor
  · rintro ⟨j, hj, h⟩
    refine ⟨j, ?_, h⟩
    rw [holdsB_iff] at h
    rcases Nat.lt_or_ge j (i + 1) with q | q
    · exact q
    · have := ho.far (show i < j by omega) hj
      omega
  · rintro ⟨j, hj, h⟩
    exact ⟨j, by omega, h⟩
/-- The place found: so many are ahead of it. -/
theorem found_cnt {o : Nat → Int × Int} {n i : Nat} {f a m : Int} (ho : Rising n o) (he : (o i).2 ≤ f) (hi : i < n) (ha : 0 ≤ a) (hm : 1 ≤ m) (hw : m ≤ widthV (o i) a) :
    inN o ((if (o i).1 < a then a else (o i).1) + m - 1) n = true ∧ (if (o i).1 < a then a else (o i).1) + m - 1 < f ∧ 0 ≤ (if (o i).1 < a then a else (o i).1) + m - 1 ∧
      cnt (fun x => inN o x n) ((if (o i).1 < a then a else (o i).1) + m - 1).toNat = cnt (fun x => inN o x n) a.toNat + kN o f a i + m - 1 := by
  have s := ho.1 i hi
  unfold isS at s
  unfold widthV at hw
  obtain ⟨b, hb⟩ : ∃ b, b = (if (o i).1 < a then a else (o i).1) := ⟨_, rfl⟩
  rw [← hb] at hw ⊢
  have hb1 : a ≤ b ∧ (o i).1 ≤ b ∧ (b = a ∨ b = (o i).1) := by
    rw [hb]; split <;> omega
  refine ⟨(inN_iff _ _ _).2 ⟨i, hi, by rw [holdsB_iff]; omega⟩, by omega, by omega, ?_⟩
  have e2 : ((b + m - 1).toNat : Int) = b + m - 1 := by omega
  have e3 : (a.toNat : Int) = a := by omega
  rw [cnt_upto ho hi _ (by omega), cnt_upto ho hi a.toNat (by omega), cnt_in_step ho hi, cnt_in_step ho hi]
  have hcut : ∀ N : Nat, (o i).1 ≤ N → cnt (fun x => inN o x i) N = cnt (fun x => inN o x i) (o i).1.toNat := fun N hN => cnt_cut (by omega) (fun x hx => by
    rw [← Bool.not_eq_true, inN_iff]
    rintro ⟨j, hj, h⟩
    rw [holdsB_iff] at h
    have := ho.far hj hi
    omega)
  unfold kN
  have e4 : (f.toNat : Int) = f := by omega
  rw [hcut (b + m - 1).toNat (by omega), hcut f.toNat (by omega), e2, e3]
  omega
/-- Spans of no places are none. -/
theorem rising_none {n : Nat} {o : Nat → Int × Int} (h : Rising n o) (hx : ∀ x, inN o x n = false) : n = 0 := by
  rcases Nat.eq_zero_or_pos n with q | q
  · exact q
  · have s := h.1 0 q
    unfold isS at s
    have := (inN_iff o (o 0).1 n).2 ⟨0, q, by rw [holdsB_iff]; omega⟩
    rw [hx] at this
    cases this
end Go.Proofs.YtfhhcpmoaggdmaaGreat

/- Nth: its contract, for frames of up to 60 ticks. -/
namespace Go.Proofs.YtfhhcpmoaggdmaaGreat
open Go.RowKit Go.Lib Go.Sort
set_option linter.unusedVariables false

/-- What Nth answers. -/
def NthV (t n f : Int) (len : Nat) (d : Nat → Int × Int) (w : World) (e : Ending) (w' : World) : Prop :=
  ∃ r : Int, e = .returned (.int .i64 r) ∧ Below w.heap.size w w' ∧ ∃ p : Int → Bool, ∃ E : Int, (∀ x, p x = (rightB f && decide (0 ≤ x ∧ x < f) && inN d x len)) ∧ E = cnt p f.toNat ∧
    ((r = -1 ∧ (E = 0 ∨ n < 1 ∨ 65536 < n ∨ t < 0 ∨ 2147483647 < t)) ∨ (1 ≤ n ∧ n ≤ 65536 ∧ 0 ≤ t ∧ t ≤ 2147483647 ∧ 1 ≤ E ∧ 0 ≤ r ∧ r ≤ 200000000000 ∧ p (r % f) = true ∧ gT p f E r = gT p f E t + n - 1))

end Go.Proofs.YtfhhcpmoaggdmaaGreat

/- What every law of package clock asks first; the document's Offset and Next. -/
namespace Go.Proofs.YtfhhcpmoaggdmaaGreat
open Go.RowKit Go.Lib Go.Sort
set_option linter.unusedVariables false

theorem roff_any (t f : Int) (w : World) (h0 : 0 ≤ t) (h1 : 1 ≤ f) (h2 : t ≤ 9223372036854775807) : Calls Tryz.prog 39 #[.int .i64 t, .int .i64 f] w fun r w' => r = .returned (.int .i64 (t % f)) ∧ w = w' := by
  obtain ⟨a, b, c⟩ := ticks (t := t) (f := f) (by omega)
  have q0 : 0 ≤ t / f := Int.ediv_nonneg h0 (by omega)
  have q1 : t / f ≤ t := Int.ediv_le_self _ h0
  have q2 : 0 ≤ t / f * f := Int.mul_nonneg q0 (by omega)
  have q3 : t / f * f ≤ t := by rw [Int.mul_comm]; omega
  have q4 : t - t / f * f = t % f := by rw [Int.mul_comm]; omega
  have Q4 := Lib.hid q4
  clear a b c q4
  go_enter Tryz.func39, Tryz.ntmps39
  go_wp2
  go_ret
  exact ⟨ret_int Q4.out, rfl⟩

end Go.Proofs.YtfhhcpmoaggdmaaGreat

/- Count, and the document's: their contracts. -/
namespace Go.Proofs.YtfhhcpmoaggdmaaGreat
open Go.RowKit Go.Lib Go.Sort
set_option linter.unusedVariables false

theorem ahead_small {t f : Int} {p : Int × Int} (t0 : 0 ≤ t) (t1 : t ≤ 2147483647) (f1 : 1 ≤ f) (f2 : f ≤ 4096) (p0 : 0 ≤ p.1) (p1 : p.1 < p.2) (p2 : p.2 ≤ f) : 0 ≤ t / f ∧ t / f ≤ 2147483647 ∧ 0 ≤ t / f * (p.2 - p.1) ∧ t / f * (p.2 - p.1) ≤ 8796093018112 := by
  have q0 : 0 ≤ t / f := Int.ediv_nonneg t0 (by omega)
  have q1 : t / f ≤ t := Int.ediv_le_self _ t0
  refine ⟨q0, by omega, Int.mul_nonneg q0 (by omega), ?_⟩
  have := Int.mul_le_mul (show t / f ≤ 2147483647 by omega) (show p.2 - p.1 ≤ 4096 by omega) (by omega) (by omega)
  omega
theorem ahead_bounds {t f : Int} {p : Int × Int} (t0 : 0 ≤ t) (t1 : t ≤ 2147483647) (f1 : 1 ≤ f) (f2 : f ≤ 4096) (p0 : 0 ≤ p.1) (p1 : p.1 < p.2) (p2 : p.2 ≤ f) : 0 ≤ aheadV t p f ∧ aheadV t p f ≤ 8796093022208 := by
  obtain ⟨q0, q1, m0, m1⟩ := ahead_small t0 t1 f1 f2 p0 p1 p2
  unfold aheadV
  repeat' split
  all_goals omega
/-- How many ticks of a span have an offset that is in another one. -/
def countV (s p : Int × Int) (f : Int) : Int := if rightB f = true ∧ isB s = true ∧ s.2 ≤ 2147483647 ∧ meetsB p (0, f) = true then aheadV s.2 (meetV p (0, f)) f - aheadV s.1 (meetV p (0, f)) f else 0

end Go.Proofs.YtfhhcpmoaggdmaaGreat

/- Slices of the call's own that move along their rows: what they hold, and what an append, a clearing and a cut do. No program is spoken of here. -/
namespace Go.Proofs.YtfhhcpmoaggdmaaGreat
open Go.RowKit Go.Lib
set_option linter.unusedVariables false

/-- A slice of one-cell elements l: nil, or in a row that it may write. -/
def RowQ (w : World) (v : Value) (l : List Value) : Prop :=
  (v = .slice none 0 0 ∧ l = []) ∨ ∃ g off cap, v = .slice (some ⟨g, off, none⟩) l.length cap ∧ l.length ≤ cap ∧ cap ≤ maxLen ∧ g < w.heap.size ∧
    (∀ j, j < cap → (w.cell? ⟨g, off + j, none⟩).isSome = true ∧ w.frozen? ⟨g, off + j, none⟩ = false) ∧ ∀ j (hj : j < l.length), w.cell? ⟨g, off + j, none⟩ = some l[j]

def Keeps (S : Nat → Prop) (w w' : World) : Prop := w'.os = w.os ∧ w'.tape = w.tape ∧ w'.output = w.output ∧ w.heap.size ≤ w'.heap.size ∧ ∀ i, i < w.heap.size → ¬ S i → w'.heap[i]? = w.heap[i]?
theorem Keeps.refl (S : Nat → Prop) (w : World) : Keeps S w w := ⟨rfl, rfl, rfl, Nat.le_refl _, fun _ _ _ => rfl⟩
theorem Keeps.trans {S : Nat → Prop} {a b c : World} (h : Keeps S a b) (k : Keeps S b c) : Keeps S a c :=
  ⟨k.1.trans h.1, k.2.1.trans h.2.1, k.2.2.1.trans h.2.2.1, Nat.le_trans h.2.2.2.1 k.2.2.2.1, fun i hi hs => (k.2.2.2.2 i (Nat.lt_of_lt_of_le hi h.2.2.2.1) hs).trans (h.2.2.2.2 i hi hs)⟩
theorem Keeps.mono {S T : Nat → Prop} {a b : World} (h : Keeps S a b) (hs : ∀ i, i < a.heap.size → S i → T i) : Keeps T a b := ⟨h.1, h.2.1, h.2.2.1, h.2.2.2.1, fun i hi hn => h.2.2.2.2 i hi (fun x => hn (hs i hi x))⟩
theorem Keeps.of_only {a b : World} {row : Option Nat} (h : a.grownBy b row) {S : Nat → Prop} (hs : ∀ k, row = some k → S k) : Keeps S a b := ⟨h.os, h.tape, h.output, h.size, fun i hi hn => h.block i hi (fun e => hn (hs i e.symm))⟩
theorem Keeps.of_below {a b : World} (h : Below a.heap.size a b) (S : Nat → Prop) : Keeps S a b := ⟨h.os, h.tape, h.output, h.size, fun i hi _ => h.block i hi⟩
theorem Keeps.below {a b : World} {B : Nat} {S : Nat → Prop} (h : Keeps S a b) (hB : B ≤ a.heap.size) (hs : ∀ i, i < B → ¬ S i) : Below B a b := ⟨h.1, h.2.1, h.2.2.1, h.2.2.2.1, fun i hi => h.2.2.2.2 i (Nat.lt_of_lt_of_le hi hB) (hs i hi)⟩
theorem Keeps.size {S : Nat → Prop} {a b : World} (h : Keeps S a b) : a.heap.size ≤ b.heap.size := h.2.2.2.1
theorem Keeps.drew {S : Nat → Prop} {a b : World} (h : Keeps S a b) (n : Nat) : Keeps S a (b.drewN n) := h
theorem Keeps.put {S : Nat → Prop} {a b : World} (h : Keeps S a b) {p : Addr} (hp : S p.block ∨ a.heap.size ≤ p.block) (u : Value) : Keeps S a (b.setCell p u) :=
  ⟨h.1, h.2.1, h.2.2.1, by simpa using h.size, fun i hi hs => (Below.heap_setCell b p u i (by
    rintro rfl
    rcases hp with hp | hp
    · exact hs hp
    · omega)).trans (h.2.2.2.2 i hi hs)⟩
theorem Keeps.alloc {S : Nat → Prop} {a b : World} (h : Keeps S a b) (o : Obj) : Keeps S a (b.alloc o) :=
  ⟨h.1, h.2.1, h.2.2.1, Nat.le_trans h.size (by simp), fun i hi hs => (Below.heap_alloc b o i (Nat.lt_of_lt_of_le hi h.size)).trans (h.2.2.2.2 i hi hs)⟩
theorem Blk.keeps {S : Nat → Prop} {w w' : World} {g : Nat} {t : TypeId} {cs : Array Value} (h : Blk w g t cs) (k : Keeps S w w') (hg : ¬ S g) : Blk w' g t cs := (k.2.2.2.2 g h.lt hg).trans h

theorem setCells_at (b : Nat) : ∀ (vs : List Value) (o : Nat) (w : World), (w.setCells b o vs).os = w.os ∧ (w.setCells b o vs).tape = w.tape ∧ (w.setCells b o vs).output = w.output ∧ (w.setCells b o vs).heap.size = w.heap.size ∧ ∀ k, k ≠ b → (w.setCells b o vs).heap[k]? = w.heap[k]?
  | [], _, _ => ⟨rfl, rfl, rfl, rfl, fun _ _ => rfl⟩
  | v :: r, o, w => by
    obtain ⟨h1, h2, h3, h4, h5⟩ := setCells_at b r (o + 1) (w.setCell ⟨b, o, none⟩ v)
    refine ⟨h1, h2, h3, h4.trans (by simp), fun k hk => (h5 k hk).trans (Below.heap_setCell w _ v k hk)⟩
theorem only_cells (w : World) (b o : Nat) (vs : List Value) : w.grownBy (w.setCells b o vs) (some b) := by
  obtain ⟨h1, h2, h3, h4, h5⟩ := setCells_at b vs o w
  exact ⟨h1, h2, h3, Nat.le_of_eq h4.symm, fun k _ hk => h5 k (fun e => hk (by rw [e]))⟩

section
variable {w w' : World} {v : Value} {l : List Value}
theorem RowQ.nil (w : World) : RowQ w (.slice none 0 0) [] := .inl ⟨rfl, rfl⟩
theorem RowQ.form (h : RowQ w v l) : ∃ A c, v = .slice A l.length c := by
  rcases h with ⟨rfl, rfl⟩ | ⟨g, off, cap, rfl, _⟩
  · exact ⟨_, _, rfl⟩
  · exact ⟨_, _, rfl⟩
theorem RowQ.lt (h : RowQ w v l) : ∀ k, v.ownBlock = some k → k < w.heap.size := by
  intro k hk
  rcases h with ⟨rfl, _⟩ | ⟨g, off, cap, rfl, _, _, hg, _⟩
  · simp [Value.ownBlock] at hk
  · simp [Value.ownBlock] at hk
    omega
theorem RowQ.same (h : RowQ w v l) (hs : w.heap.size ≤ w'.heap.size) (hb : ∀ k, v.ownBlock = some k → w'.heap[k]? = w.heap[k]?) : RowQ w' v l := by
  rcases h with h | ⟨g, off, cap, rfl, h1, h2, h3, h4, h5⟩
  · exact .inl h
  · have hg := hb g rfl
    have hc : ∀ o, w'.cell? ⟨g, o, none⟩ = w.cell? ⟨g, o, none⟩ := fun o => by simp [World.cell?, hg]
    have hf : ∀ o, w'.frozen? ⟨g, o, none⟩ = w.frozen? ⟨g, o, none⟩ := fun o => by simp [World.frozen?, hg]
    exact .inr ⟨g, off, cap, rfl, h1, h2, by omega, fun j hj => by rw [hc, hf]; exact h4 j hj, fun j hj => by rw [hc]; exact h5 j hj⟩
theorem RowQ.keeps {S : Nat → Prop} (h : RowQ w v l) (k : Keeps S w w') (hn : ∀ i, v.ownBlock = some i → ¬ S i) : RowQ w' v l :=
  h.same k.size fun i hi => k.2.2.2.2 i (h.lt i hi) (hn i hi)
theorem RowQ.below {B : Nat} (h : RowQ w v l) (k : Below B w w') (hn : ∀ i, v.ownBlock = some i → i < B) : RowQ w' v l :=
  h.same k.size fun i hi => k.block i (hn i hi)
theorem RowQ.drewN (h : RowQ w v l) (n : Nat) : RowQ (w.drewN n) v l := h
theorem RowQ.alloc (h : RowQ w v l) (o : Obj) : RowQ (w.alloc o) v l := h.same (by simp) fun k hk => Below.heap_alloc w o k (h.lt k hk)
theorem RowQ.put (h : RowQ w v l) {p : Addr} (hp : v.ownBlock ≠ some p.block) (u : Value) : RowQ (w.setCell p u) v l :=
  h.same (by simp) fun k hk => Below.heap_setCell w p u k (by rintro rfl; exact hp hk)

/-- A new row whose first places hold l. -/
theorem RowQ.new (w : World) (cur : Array Value) (e : TypeId) (cap : Nat) (l : List Value) (hc : cur.size = cap) (hl : l.length ≤ cap) (hm : cap ≤ maxLen) (hp : ∀ j (hj : j < l.length), cur[j]? = some l[j]) :
    RowQ (w.alloc (.cells cur e)) (.slice (some ⟨w.heap.size, 0, none⟩) l.length cap) l := by
  have hb : Blk (w.alloc (.cells cur e)) w.heap.size e cur := Blk.new w e cur
  refine .inr ⟨w.heap.size, 0, cap, rfl, hl, hm, by simp, fun j hj => ⟨?_, hb.free _⟩, fun j hj => ?_⟩
  · rw [hb.cell, Nat.zero_add, Array.getElem?_eq_getElem (by omega)]
    rfl
  · rw [hb.cell, Nat.zero_add]
    exact hp j hj

theorem addr_at (g o j : Nat) : (⟨g, o, none⟩ : Addr).add j = ⟨g, o + j, none⟩ := by unfold Addr.add; split <;> simp_all

/-- What a slice reads as1, for an append of its elements. -/
theorem RowQ.src {P : Program} (h : RowQ w v l) (tx e' : TypeId) (hk : P.underlying tx = some (.slice e')) (h1 : ∀ u ∈ l, u.oneCell' = true) : Src P 1 tx v l.length l w := by
  rcases h with ⟨rfl, rfl⟩ | ⟨g, off, cap, rfl, _, _, _, _, h5⟩
  · exact Src.ofNil w hk 0
  · refine Src.ofSlice w hk _ _ _ _ (by simp) ?_ h1
    intro j u hu
    obtain ⟨hj, rfl⟩ := List.getElem?_eq_some_iff.1 hu
    rw [addr_at]
    exact h5 j hj

/-- append(v, x), v a slice of the call's own. -/
theorem run_push {P : Program} (w : World) (t e ty : TypeId) (i : TypeInfo) (z : Value) (bytes : Nat) (ht : P.underlying t = some (.slice e)) (hi : P.info? e = some i) (hz : i.zero = some z) (hs : i.size = 1) (hby : i.bytes = bytes) (hb16 : bytes ≤ 16) (hzs : z.cells.size = 1)
    (v : Value) (l : List Value) (h : RowQ w v l) (h1 : ∀ u ∈ l, u.oneCell' = true) (xs : Value) (x : Value) (hx : Src P 1 t xs 1 [x] w) (hn : l.length ≤ 1000000) :
    ∃ v' w', (Builtin.append_ #[t, t] ty #[v, xs]).run P w = .ok v' w' ∧ RowQ w' v' (l ++ [x]) ∧ w.grownBy w' v.ownBlock ∧ (v'.ownBlock = v.ownBlock ∨ v'.ownBlock = some w.heap.size) ∧ ∃ A c, v' = .slice A (l.length + 1) c := by
  have hbm : (l.length + 1) * bytes ≤ 140737488355328 := by
    have : (l.length + 1) * bytes ≤ 1000001 * 16 := Nat.mul_le_mul (by omega) hb16
    omega
  have hsrc : Src P i.size t xs 1 [x] w := by rw [hs]; exact hx
  have grown : ∀ (base : Option Addr) (cap : Nat), v = .slice base l.length cap → cap < l.length + 1 → ∃ v' w', (Builtin.append_ #[t, t] ty #[v, xs]).run P w = .ok v' w' ∧ RowQ w' v' (l ++ [x]) ∧ w.grownBy w' v.ownBlock ∧ (v'.ownBlock = v.ownBlock ∨ v'.ownBlock = some w.heap.size) ∧ ∃ A c, v' = .slice A (l.length + 1) c := by
    intro base cap hv hcap
    have hold := ((h.drewN 1).src (P := P) t e ht h1).cells
    have hm : l.length + 1 ≤ maxLen := by unfold maxLen; omega
    have hge := grownCap_ge w (l.length + 1) cap e
    have hcm := grownCap_le_maxLen w (l.length + 1) cap e hm
    rw [hv] at hold
    have hr := run_append_grow_src (P := P) w t t ty e i z ht hi hz base l.length cap l (by rw [hs]; exact hold) xs 1 [x] hsrc hcap (by omega) (by rw [hby]; exact growslice_fits hcap hbm)
    have hlen : (l ++ [x]).length = l.length + 1 := by simp
    rw [hv]
    refine ⟨_, _, hr, ?_, ⟨rfl, rfl, rfl, by simp, fun k hk _ => Below.heap_alloc w.drew _ k hk⟩, .inr rfl, _, _, rfl⟩
    have := RowQ.new w.drew ((l ++ [x]).toArray ++ Builtin.zeroCells z.cells (grownCap w (l.length + 1) cap e - (l.length + 1))) e (grownCap w (l.length + 1) cap e) (l ++ [x]) (by
      simp only [Array.size_append, List.size_toArray, size_zeroCells, hzs, hlen]
      omega) (by rw [hlen]; exact hge) hcm (by
      intro j hj
      rw [Array.getElem?_append_left (by simpa using hj)]
      simp only [List.getElem?_toArray]
      exact List.getElem?_eq_getElem hj)
    rw [hlen] at this
    exact this
  rcases h with ⟨rfl, rfl⟩ | ⟨g, off, cap, rfl, h2, h3, h4, h5, h6⟩
  · exact grown none 0 rfl (by simp)
  · by_cases hroom : l.length + 1 ≤ cap
    · have hr := run_append_room_src (P := P) w t t ty e i ht hi g off l.length cap xs 1 [x] hsrc hroom (by
        intro j hj
        simp at hj
        subst hj
        rw [hs, Nat.mul_one]
        exact (h5 l.length (by omega)).1) (by
        intro j hj
        simp at hj
        subst hj
        rw [hs, Nat.mul_one]
        exact (h5 l.length (by omega)).2)
      rw [hs, Nat.mul_one] at hr
      refine ⟨_, _, hr, .inr ⟨g, off, cap, by simp, by simpa using hroom, h3, ?_, ?_, ?_⟩, only_cells _ _ _ _, .inl rfl, _, _, rfl⟩
      · rw [(setCells_at g [x] (off + l.length) w).2.2.2.1]
        exact h4
      · intro j hj
        rw [World.frozen?_setCells]
        refine ⟨?_, (h5 j hj).2⟩
        by_cases e1 : j = l.length
        · subst e1
          have := World.cell?_setCells_in g [x] (off + l.length) w (by intro k hk; simp at hk; subst hk; exact (h5 l.length (by omega)).1) 0 (by simp)
          rw [Nat.add_zero] at this
          rw [this]
          rfl
        · rw [World.cell?_setCells_out g [x] (off + l.length) w _ (by intro _ _; simp; omega)]
          exact (h5 j hj).1
      · intro j hj
        by_cases e1 : j = l.length
        · subst e1
          have := World.cell?_setCells_in g [x] (off + l.length) w (by intro k hk; simp at hk; subst hk; exact (h5 l.length (by omega)).1) 0 (by simp)
          rw [Nat.add_zero] at this
          rw [this]
          simp
        · have hj' : j < l.length := by simp at hj; omega
          rw [World.cell?_setCells_out g [x] (off + l.length) w _ (by intro _ _; simp; omega), h6 j hj', List.getElem_append_left hj']
    · exact grown _ cap rfl (by omega)

/-- append(e, v...), e an empty slice that is not nil and has no room. -/
theorem run_all {P : Program} (w : World) (t e ty : TypeId) (i : TypeInfo) (z : Value) (bytes : Nat) (ht : P.underlying t = some (.slice e)) (hi : P.info? e = some i) (hz : i.zero = some z) (hs : i.size = 1) (hby : i.bytes = bytes) (hb16 : bytes ≤ 16) (hzs : z.cells.size = 1)
    (v : Value) (l : List Value) (h : RowQ w v l) (h1 : ∀ u ∈ l, u.oneCell' = true) (hn : l.length ≤ 1000000) (a : Nat) (ha : a < w.heap.size) :
    ∃ v' w', (Builtin.append_ #[t, t] ty #[.slice (some ⟨a, 0, none⟩) 0 0, v]).run P w = .ok v' w' ∧ RowQ w' v' l ∧ Below w.heap.size w w' ∧ (v'.ownBlock = some a ∨ v'.ownBlock = some w.heap.size) ∧ ∃ A c, v' = .slice (some A) l.length c := by
  have hsrc : Src P i.size t v l.length l w := by rw [hs]; exact h.src t e ht h1
  by_cases h0 : l = []
  · subst h0
    have hr := run_append_nothing (P := P) w t t ty e i ht hi (some ⟨a, 0, none⟩) 0 0 (Nat.le_refl _) v hsrc
    refine ⟨_, _, hr, .inr ⟨a, 0, 0, rfl, by simp, by simp [maxLen], ha, fun j hj => absurd hj (by omega), fun j hj => absurd hj (by simp)⟩, Below.refl _ _, .inl rfl, _, _, rfl⟩
  · have hpos : 0 < l.length := List.length_pos_iff.2 h0
    have hbm : l.length * bytes ≤ 140737488355328 := by
      have : l.length * bytes ≤ 1000000 * 16 := Nat.mul_le_mul hn hb16
      omega
    have hm : l.length ≤ maxLen := by unfold maxLen; omega
    have hge := grownCap_ge w (0 + l.length) 0 e
    have hcm := grownCap_le_maxLen w (0 + l.length) 0 e (by simpa using hm)
    have hold := run_firstCells_some (P := P) w.drew i.size 0 ⟨a, 0, none⟩ 0 0 [] (by simp) (by intro j u hu; cases hu)
    have hr := run_append_grow_src (P := P) w t t ty e i z ht hi hz (some ⟨a, 0, none⟩) 0 0 [] hold v l.length l hsrc (by omega) (by omega) (by rw [hby]; exact growslice_fits (by omega) (by simpa using hbm))
    rw [Nat.zero_add] at hr hge hcm
    refine ⟨_, _, hr, ?_, ⟨rfl, rfl, rfl, by simp, fun k hk => Below.heap_alloc w.drew _ k hk⟩, .inr rfl, _, _, rfl⟩
    exact RowQ.new w.drew _ e _ l (by
      simp only [Array.size_append, List.size_toArray, size_zeroCells, hzs, List.nil_append]
      omega) hge hcm (by
      intro j hj
      rw [Array.getElem?_append_left (by simpa using hj)]
      simp only [List.getElem?_toArray, List.nil_append]
      exact List.getElem?_eq_getElem hj)

/-- The first n elements of a slice are cleared: what is left behind them. -/
theorem RowQ.cleared {g off cap n : Nat} (z : Value) (h2 : l.length ≤ cap) (h3 : cap ≤ maxLen) (h4 : g < w.heap.size)
    (h5 : ∀ j, j < cap → (w.cell? ⟨g, off + j, none⟩).isSome = true ∧ w.frozen? ⟨g, off + j, none⟩ = false) (h6 : ∀ j (hj : j < l.length), w.cell? ⟨g, off + j, none⟩ = some l[j]) (hn : n ≤ l.length) :
    RowQ (w.setCells g off (List.replicate n z)) (.slice (some ⟨g, off + n, none⟩) (l.length - n) (cap - n)) (l.drop n) := by
  refine .inr ⟨g, off + n, cap - n, by simp, by simp; omega, by omega, by rw [(setCells_at g _ off w).2.2.2.1]; exact h4, fun j hj => ?_, fun j hj => ?_⟩
  · rw [World.frozen?_setCells, World.cell?_setCells_out g _ off w _ (by intro _ _; simp), Nat.add_assoc]
    exact h5 (n + j) (by omega)
  · have hj' : n + j < l.length := by simp at hj; omega
    rw [World.cell?_setCells_out g _ off w _ (by intro _ _; simp), Nat.add_assoc, h6 (n + j) hj', List.getElem_drop]
theorem RowQ.empty {g : Nat} (o : Nat) (hg : g < w.heap.size) : RowQ w (.slice (some ⟨g, o, none⟩) 0 0) [] :=
  .inr ⟨g, o, 0, rfl, by simp, by simp [maxLen], hg, fun j hj => absurd hj (by omega), fun j hj => absurd hj (by simp)⟩
/-- The first n elements of a slice, as1 a slice. -/
theorem RowQ.first {g off cap n : Nat} (h2 : l.length ≤ cap) (h3 : cap ≤ maxLen) (h4 : g < w.heap.size)
    (h5 : ∀ j, j < cap → (w.cell? ⟨g, off + j, none⟩).isSome = true ∧ w.frozen? ⟨g, off + j, none⟩ = false) (h6 : ∀ j (hj : j < l.length), w.cell? ⟨g, off + j, none⟩ = some l[j]) (hn : n ≤ l.length) :
    RowQ w (.slice (some ⟨g, off, none⟩) n cap) (l.take n) := by
  have hl : (l.take n).length = n := by simp; omega
  refine .inr ⟨g, off, cap, by rw [hl], by omega, h3, h4, h5, fun j hj => ?_⟩
  rw [h6 j (by omega), List.getElem_take]
/-- What is behind the first n elements of a slice, as1 a slice. -/
theorem RowQ.rest {g off cap n : Nat} (h2 : l.length ≤ cap) (h3 : cap ≤ maxLen) (h4 : g < w.heap.size)
    (h5 : ∀ j, j < cap → (w.cell? ⟨g, off + j, none⟩).isSome = true ∧ w.frozen? ⟨g, off + j, none⟩ = false) (h6 : ∀ j (hj : j < l.length), w.cell? ⟨g, off + j, none⟩ = some l[j]) (hn : n ≤ l.length) :
    RowQ w (.slice (some ⟨g, off + n, none⟩) (l.length - n) (cap - n)) (l.drop n) := by
  refine .inr ⟨g, off + n, cap - n, by simp, by simp; omega, by omega, h4, fun j hj => ?_, fun j hj => ?_⟩
  · rw [Nat.add_assoc]
    exact h5 (n + j) (by omega)
  · have hj' : n + j < l.length := by simp at hj; omega
    rw [Nat.add_assoc, h6 (n + j) hj', List.getElem_drop]
end

section
variable {P : Program} {w : World} {ops : Array Oper} {rest : List Oper} {o : Oper} {a : Act} {Q : Exit → Act → World → Prop}
/-- append, at the operation, where its run is known. -/
theorem wpList_append_eq (hgd : o.guard = none) (s x : Operand) (t : TypeId) (ho : o.op = .call { callee := .builtin .append, args := #[s, x], argTypes := #[t, t] })
    {v xs v' : Value} {w' : World} (hr : (Builtin.append_ #[t, t] o.type #[v, xs]).run P w = .ok v' w') (hs : a.eval s = v) (hx : a.eval x = xs) (h : wpList P ops Q rest (a.put o.dst v') w') : wpList P ops Q (o :: rest) a w := by
  refine wpList_plain hgd fun K hK => ?_
  unfold Oper.wp execOp
  simp only [ho, resolve, invoke, builtin, Sem.run_bind, Sem.run_pure, Result.andThen_ok, List.map_toArray, List.map_cons, List.map_nil, hs, hx, hr]
  exact hK _ _ h
/-- clear, at the operation, where its run is known. -/
theorem wpList_clear_eq (hgd : o.guard = none) (s : Operand) (t : TypeId) (ho : o.op = .call { callee := .builtin .clear, args := #[s], argTypes := #[t] })
    {v v' : Value} {w' : World} (hr : (Builtin.clear_ #[t] o.type #[v]).run P w = .ok v' w') (hs : a.eval s = v) (h : wpList P ops Q rest (a.put o.dst v') w') : wpList P ops Q (o :: rest) a w := by
  refine wpList_plain hgd fun K hK => ?_
  unfold Oper.wp execOp
  simp only [ho, resolve, invoke, builtin, Sem.run_bind, Sem.run_pure, Result.andThen_ok, List.map_toArray, List.map_cons, List.map_nil, hs, hr]
  exact hK _ _ h
end

/-- A queue, or the document's, lies in block b: its things, its limit, its drops. -/
def Que (w : World) (b : Nat) (T : TypeId) (v : Value) (l : List Value) (lim : Nat) (dr : Nat) : Prop :=
  Blk w b T #[v, .int .i64 lim, .int .i64 dr] ∧ RowQ w v l ∧ v.ownBlock ≠ some b
/-- Its blocks. -/
def OwnQ (b : Nat) (v : Value) (i : Nat) : Prop := i = b ∨ v.ownBlock = some i
theorem Que.lt {w : World} {b : Nat} {T : TypeId} {v : Value} {l : List Value} {lim dr : Nat} (h : Que w b T v l lim dr) : ∀ i, OwnQ b v i → i < w.heap.size := by
  rintro i (rfl | hi)
  · exact h.1.lt
  · exact h.2.1.lt i hi
theorem Que.keeps {w w' : World} {b : Nat} {T : TypeId} {v : Value} {l : List Value} {lim dr : Nat} {S : Nat → Prop} (h : Que w b T v l lim dr) (k : Keeps S w w') (hn : ∀ i, OwnQ b v i → ¬ S i) : Que w' b T v l lim dr :=
  ⟨h.1.keeps k (hn b (.inl rfl)), h.2.1.keeps k fun i hi => hn i (.inr hi), h.2.2⟩
/-- What a call that writes a queue leaves. -/
def QueN (w : World) (b : Nat) (T : TypeId) (v : Value) (lim : Nat) (w' : World) (l' : List Value) (dr' : Nat) : Prop :=
  ∃ v', Que w' b T v' l' lim dr' ∧ Keeps (OwnQ b v) w w' ∧ ∀ i, OwnQ b v' i → OwnQ b v i ∨ w.heap.size ≤ i
end Go.Proofs.YtfhhcpmoaggdmaaGreat
