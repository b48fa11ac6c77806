/- Sorted: its contract, for rows of fewer than 20 spans. -/
import Derived.Test.YtgkegmkedkgkcaaS2
import Derived.Test.YtgkegmkedkgkcaaF
import Derived.Laws.AppendOwnNone
namespace Go.Proofs.Ytgkegmkedkgkcaa
open Go.RowKit Go.Lib Go.Sort
set_option linter.unusedVariables false

/-- Spans that came in, or were made: nil, or a row of cells. -/
def Spans (w : World) (A : Option Addr) (len cap : Nat) (d : Nat → Int × Int) : Prop :=
  (A = none → len = 0 ∧ cap = 0) ∧ (0 < len → ∃ b off, A = some ⟨b, off, none⟩ ∧ b < w.heap.size ∧ ∀ i, i < len → w.cell? ⟨b, off + i * 2, none⟩ = some (.int .i64 (d i).1) ∧ w.cell? ⟨b, off + i * 2 + 1, none⟩ = some (.int .i64 (d i).2))

/-- The cells of n spans. -/
def spCells (n : Nat) (d : Nat → Int × Int) : List Value := (List.range n).flatMap fun i => [.int .i64 (d i).1, .int .i64 (d i).2]
theorem spCells_succ (n : Nat) (d : Nat → Int × Int) : spCells (n + 1) d = spCells n d ++ [.int .i64 (d n).1, .int .i64 (d n).2] := by
  simp [spCells, List.range_succ]
theorem spCells_len (n : Nat) (d : Nat → Int × Int) : (spCells n d).length = n * 2 := by
  induction n with
  | zero => rfl
  | succ n ih => rw [spCells_succ, List.length_append, ih]; simp; omega
theorem spCells_get {n : Nat} {d : Nat → Int × Int} {i : Nat} (hi : i < n) : (spCells n d)[i * 2]? = some (.int .i64 (d i).1) ∧ (spCells n d)[i * 2 + 1]? = some (.int .i64 (d i).2) := by
  induction n with
  | zero => omega
  | succ n ih =>
    rw [spCells_succ]
    by_cases h : i < n
    · obtain ⟨h1, h2⟩ := ih h
      rw [List.getElem?_append_left (by rw [spCells_len]; omega), List.getElem?_append_left (by rw [spCells_len]; omega)]
      exact ⟨h1, h2⟩
    · obtain rfl : i = n := by omega
      rw [List.getElem?_append_right (by rw [spCells_len]; omega), List.getElem?_append_right (by rw [spCells_len]; omega), spCells_len]
      have e1 : i * 2 - i * 2 = 0 := by omega
      have e2 : i * 2 + 1 - i * 2 = 1 := by omega
      rw [e1, e2]
      exact ⟨rfl, rfl⟩
theorem spCells_cell (n : Nat) (d : Nat → Int × Int) : ∀ u ∈ spCells n d, u.oneCell' = true := by
  intro u hu
  simp only [spCells, List.mem_flatMap] at hu
  obtain ⟨i, _, hi⟩ := hu
  simp at hi
  rcases hi with rfl | rfl <;> rfl

/-- A value is a row of spans in a block from B on, or nil. -/
def RowV (w : World) (B : Nat) (v : Value) (n : Nat) (d : Nat → Int × Int) : Prop :=
  (v = .slice none 0 0 ∧ n = 0) ∨ ∃ g cap, v = .slice (some ⟨g, 0, none⟩) n cap ∧ B ≤ g ∧ RowS w g n cap d

theorem own_of_row {w : World} {B : Nat} {v : Value} {n : Nat} {d : Nat → Int × Int} (h : RowV w B v n d) : w.ownsRow B 36 2 v n (spCells n d) := by
  refine ⟨spCells_len n d, ?_⟩
  rcases h with ⟨rfl, rfl⟩ | ⟨g, cap, rfl, hB, cur, h1, ⟨h2, h3⟩, h4, h5⟩
  · exact .inl ⟨rfl, rfl⟩
  · refine .inr ⟨g, cap, cur, rfl, hB, h1, h2, h3, h4, ?_⟩
    apply List.ext_getElem?
    intro k
    by_cases hk : k < n * 2
    · rw [List.getElem?_take_of_lt hk]
      obtain ⟨i, hi⟩ : ∃ i, k = i * 2 ∨ k = i * 2 + 1 := ⟨k / 2, by omega⟩
      have hin : i < n := by omega
      obtain ⟨e1, e2⟩ := h5 i hin
      obtain ⟨s1, s2⟩ := spCells_get (d := d) hin
      rcases hi with rfl | rfl
      · rw [s1, ← e1]; simp
      · rw [s2, ← e2]; simp
    · rw [List.getElem?_eq_none (by simp; omega), List.getElem?_eq_none (by rw [spCells_len]; omega)]
theorem row_of_own {w : World} {B : Nat} {v : Value} {n : Nat} {d : Nat → Int × Int} (h : w.ownsRow B 36 2 v n (spCells n d)) : RowV w B v n d := by
  rcases h.2 with ⟨rfl, rfl⟩ | ⟨g, cap, cur, rfl, hB, h1, h2, h3, h4, h5⟩
  · exact .inl ⟨rfl, rfl⟩
  · refine .inr ⟨g, cap, rfl, hB, cur, h1, ⟨h2, h3⟩, h4, fun i hi => ?_⟩
    obtain ⟨s1, s2⟩ := spCells_get (d := d) hi
    rw [← h5] at s1 s2
    rw [List.getElem?_take_of_lt (by omega)] at s1 s2
    exact ⟨by simpa using s1, by simpa using s2⟩

theorem span_info : (Try.prog.info? 36).map (fun i => (i.zero, i.size, i.bytes)) = some (some (.agg #[.int .i64 0, .int .i64 0]), 2, 16) := by kernel_rfl

/-- Spans in order: a row of the call's own, in which the spans d stand sorted. -/
def SortedV (B n : Nat) (d : Nat → Int × Int) (w : World) (e : Ending) (w' : World) : Prop :=
  ∃ v d', e = .returned v ∧ RowV w' B v n d' ∧ So.Perm 0 n d d' ∧ So.Sorted d' 0 n ∧ Below B w w'

theorem spans_cells {w : World} {b off len : Nat} {d : Nat → Int × Int} (h : ∀ i, i < len → w.cell? ⟨b, off + i * 2, none⟩ = some (.int .i64 (d i).1) ∧ w.cell? ⟨b, off + i * 2 + 1, none⟩ = some (.int .i64 (d i).2)) :
    ∀ j u, (spCells len d)[j]? = some u → w.cell? ((⟨b, off, none⟩ : Addr).add j) = some u := by
  intro j u hj
  have hl : j < len * 2 := by
    rcases Nat.lt_or_ge j (len * 2) with h' | h'
    · exact h'
    · rw [List.getElem?_eq_none (by rw [spCells_len]; exact h')] at hj; cases hj
  obtain ⟨i, hi⟩ : ∃ i, j = i * 2 ∨ j = i * 2 + 1 := ⟨j / 2, by omega⟩
  have hin : i < len := by omega
  obtain ⟨e1, e2⟩ := h i hin
  obtain ⟨s1, s2⟩ := spCells_get (d := d) hin
  have ha : (⟨b, off, none⟩ : Addr).add j = ⟨b, off + j, none⟩ := by unfold Addr.add; split <;> simp_all
  rw [ha]
  rcases hi with rfl | rfl
  · rw [s1] at hj; rw [e1]; exact hj
  · rw [s2] at hj; rw [← Nat.add_assoc, e2]; exact hj

end Go.Proofs.Ytgkegmkedkgkcaa
