/- A row of spans in memory; the comparison that spans are sorted by. -/
import Derived.Test.YtgkegmkedkgkcaaRows
import Derived.Test.YtgkegmkedkgkcaaK
import Derived.Test.YtgkegmkedkgkcaaS0
import Derived.ProofKit
import Derived.OpenShut
import Derived.WalkLawsBesides
import Derived.WalkSpells
import Derived.BigQuiet
import Derived.Deep.QuietTactic
import Derived.Deep.RegionWith
import Derived.Lib.Hide
namespace Go.Proofs.Ytgkegmkedkgkcaa
open Go.RowKit Go.Lib
set_option linter.unusedVariables false

/-- A span as a value. -/
abbrev spv (p : Int × Int) : Value := .agg #[.int .i64 p.1, .int .i64 p.2]

/-- Block g holds, as its first n elements, the spans d. -/
def RowS (w : World) (g n cap : Nat) (d : Nat → Int × Int) : Prop :=
  ∃ cur : Array Value, w.heap[g]? = some (.cells cur 36 (0, 0)) ∧ (n ≤ cap ∧ cap ≤ maxLen) ∧ cur.size = cap * 2 ∧ ∀ i, i < n → cur[i * 2]? = some (.int .i64 (d i).1) ∧ cur[i * 2 + 1]? = some (.int .i64 (d i).2)

section
variable {w w' : World} {g n cap : Nat} {d : Nat → Int × Int}
theorem RowS.fst (h : RowS w g n cap d) {i : Nat} (hi : i < n) : w.cell? ⟨g, i * 2, none⟩ = some (.int .i64 (d i).1) := by
  obtain ⟨cur, h1, _, _, h4⟩ := h
  simp [World.cell?, h1, (h4 i hi).1]
theorem RowS.snd (h : RowS w g n cap d) {i : Nat} (hi : i < n) : w.cell? ⟨g, i * 2 + 1, none⟩ = some (.int .i64 (d i).2) := by
  obtain ⟨cur, h1, _, _, h4⟩ := h
  simp [World.cell?, h1, (h4 i hi).2]
theorem RowS.free (h : RowS w g n cap d) (i : Nat) : w.frozen? ⟨g, i, none⟩ = false := by
  obtain ⟨cur, h1, _⟩ := h
  simp [World.frozen?, h1]
theorem RowS.lt (h : RowS w g n cap d) : g < w.heap.size := by
  obtain ⟨cur, h1, _⟩ := h
  exact lt_of_block h1
theorem RowS.only {row : Option Nat} (h : RowS w g n cap d) (hb : w.grownBy w' row) (hg : some g ≠ row) : RowS w' g n cap d := by
  have hl := h.lt
  obtain ⟨cur, h1, h2⟩ := h
  exact ⟨cur, (hb.block g hl hg).trans h1, h2⟩
theorem RowS.below (h : RowS w g n cap d) (hb : Below w.heap.size w w') : RowS w' g n cap d := by
  have hl := h.lt
  obtain ⟨cur, h1, h2⟩ := h
  exact ⟨cur, (hb.block g hl).trans h1, h2⟩
theorem RowS.drewN (h : RowS w g n cap d) (k : Nat) : RowS (w.drewN k) g n cap d := h
theorem RowS.put (h : RowS w g n cap d) {i : Nat} (hi : i < n) (p : Int × Int) : RowS ((w.setCell ⟨g, i * 2, none⟩ (.int .i64 p.1)).setCell ⟨g, i * 2 + 1, none⟩ (.int .i64 p.2)) g n cap (So.upd d i p) := by
  obtain ⟨cur, h1, h2, h3, h4⟩ := h
  refine ⟨(cur.setIfInBounds (i * 2) (.int .i64 p.1)).setIfInBounds (i * 2 + 1) (.int .i64 p.2), ?_, h2, by simpa using h3, fun k hk => ?_⟩
  · simp [World.setCell, Array.getElem?_modify, h1]
  · obtain ⟨e1, e2⟩ := h4 k hk
    have s1 : k * 2 + 1 < cur.size := (Array.getElem?_eq_some_iff.1 e2).1
    by_cases hki : k = i
    · subst hki
      simp [Array.getElem?_setIfInBounds, So.upd, s1, show k * 2 < cur.size from by omega]
    · have n1 : ¬ i * 2 + 1 = k * 2 := by omega
      have n2 : ¬ i * 2 = k * 2 := by omega
      have n3 : ¬ i * 2 + 1 = k * 2 + 1 := by omega
      have n4 : ¬ i * 2 = k * 2 + 1 := by omega
      simp [Array.getElem?_setIfInBounds, So.upd, hki, n1, n2, n3, n4, e1, e2]
end

end Go.Proofs.Ytgkegmkedkgkcaa
