/- Plain facts: rows of spans that rise and do not touch are one and the same if they have the same places. No program is spoken of here. -/
import Derived.Test.YthneljkaieckeaaV4
namespace Go.Proofs.Ythneljkaieckeaa
open Go.RowKit Go.Lib Go.Sort
set_option linter.unusedVariables false

/-- Spans, rising, that do not touch. -/
def Rising (m : Nat) (o : Nat → Int × Int) : Prop := (∀ i, i < m → isS (o i)) ∧ ∀ i, i + 1 < m → (o i).2 < (o (i + 1)).1
theorem Rising.far {m : Nat} {o : Nat → Int × Int} (h : Rising m o) {i j : Nat} (hij : i < j) (hj : j < m) : (o i).2 < (o j).1 := rise_far h.1 h.2 hij hj
theorem Rising.head {m : Nat} {o : Nat → Int × Int} (h : Rising (m + 1) o) {i : Nat} (hi : i < m + 1) : (o 0).1 ≤ (o i).1 := by
  by_cases e : i = 0
  · subst e; omega
  · have := h.far (show 0 < i by omega) hi
    have := h.1 0 (by omega)
    unfold isS at this
    omega
/-- What a place is held by. -/
theorem Rising.only {m : Nat} {o : Nat → Int × Int} (h : Rising m o) {i j : Nat} (hi : i < m) (hj : j < m) {x : Int} (a : holdsB (o i) x = true) (b : holdsB (o j) x = true) : i = j := by
  rw [holdsB_iff] at a b
  rcases Nat.lt_trichotomy i j with q | q | q
  · have := h.far q hj; omega
  · exact q
  · have := h.far q hi; omega
/-- The same places, the same spans: each span of one is one of the other. -/
theorem Rising.is {m n : Nat} {o p : Nat → Int × Int} (h : Rising m o) (k : Rising n p) (e : ∀ x, inN o x m = inN p x n) {i : Nat} (hi : i < m) : ∃ j, j < n ∧ o i = p j := by
  have s := h.1 i hi
  unfold isS at s
  -- the first place of o i lies in some p j
  have h1 : inN o (o i).1 m = true := (inN_iff _ _ _).2 ⟨i, hi, by rw [holdsB_iff]; omega⟩
  rw [e] at h1
  obtain ⟨j, hj, h1⟩ := (inN_iff _ _ _).1 h1
  refine ⟨j, hj, ?_⟩
  rw [holdsB_iff] at h1
  -- p j begins there: else the place ahead of it is in o, in another span that ends there
  have b1 : (p j).1 = (o i).1 := by
    rcases Int.lt_or_eq_of_le h1.2.1 with q | q
    · have h2 : inN p ((o i).1 - 1) n = true := (inN_iff _ _ _).2 ⟨j, hj, by rw [holdsB_iff]; omega⟩
      rw [← e] at h2
      obtain ⟨l, hl, h2⟩ := (inN_iff _ _ _).1 h2
      rw [holdsB_iff] at h2
      rcases Nat.lt_trichotomy l i with r | r | r
      · have := h.far r hi; omega
      · subst r; omega
      · have := h.far r hl; omega
    · exact q
  -- and ends where o i ends
  have b2 : (p j).2 = (o i).2 := by
    rcases Int.lt_trichotomy (p j).2 (o i).2 with q | q | q
    · have h2 : inN o (p j).2 m = true := (inN_iff _ _ _).2 ⟨i, hi, by rw [holdsB_iff]; omega⟩
      rw [e] at h2
      obtain ⟨l, hl, h2⟩ := (inN_iff _ _ _).1 h2
      rw [holdsB_iff] at h2
      rcases Nat.lt_trichotomy l j with r | r | r
      · have := k.far r hj; have := k.1 j hj; unfold isS at this; omega
      · subst r; omega
      · have := k.far r hl; omega
    · exact q
    · have h2 : inN p (o i).2 n = true := (inN_iff _ _ _).2 ⟨j, hj, by rw [holdsB_iff]; omega⟩
      rw [← e] at h2
      obtain ⟨l, hl, h2⟩ := (inN_iff _ _ _).1 h2
      rw [holdsB_iff] at h2
      rcases Nat.lt_trichotomy l i with r | r | r
      · have := h.far r hi; omega
      · subst r; omega
      · have := h.far r hl; omega
  exact Prod.ext b1.symm b2.symm
theorem Rising.lt {m : Nat} {o : Nat → Int × Int} (h : Rising m o) {i j : Nat} (hij : i < j) (hj : j < m) : (o i).1 < (o j).1 := by
  have a := h.far hij hj
  have b := h.1 i (by omega)
  unfold isS at b
  omega
theorem Rising.one {m n : Nat} {o p : Nat → Int × Int} (h : Rising m o) (k : Rising n p) (e : ∀ x, inN o x m = inN p x n) : ∀ i, i < m → i < n ∧ o i = p i := by
  intro i
  induction i using Nat.strongRecOn with
  | _ i ih =>
    intro hi
    obtain ⟨j, hj, ej⟩ := h.is k e hi
    rcases Nat.lt_trichotomy j i with r | r | r
    · have a := (ih j r (by omega)).2
      have b := h.lt r hi
      rw [a, ← ej] at b
      omega
    · subst r; exact ⟨hj, ej⟩
    · have hin : i < n := by omega
      refine ⟨hin, ?_⟩
      obtain ⟨l, hl, el⟩ := k.is h (fun x => (e x).symm) hin
      rcases Nat.lt_trichotomy l i with q | q | q
      · have a := (ih l q hl).2
        have b := k.lt q hin
        rw [← a, ← el] at b
        omega
      · subst q; exact el.symm
      · have a := h.lt q hl
        have b := k.lt r hj
        rw [ej, ← el] at a
        omega
theorem Rising.len {m n : Nat} {o p : Nat → Int × Int} (h : Rising m o) (k : Rising n p) (e : ∀ x, inN o x m = inN p x n) : m = n := by
  rcases Nat.lt_trichotomy m n with q | q | q
  · have a := (k.one h (fun x => (e x).symm) m q).1
    omega
  · exact q
  · have a := (h.one k e n q).1
    omega
end Go.Proofs.Ythneljkaieckeaa
