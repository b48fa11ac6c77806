/- Package asm: a text's parts, and what is kept of the program's tables, by their contracts. -/
import Derived.Test.YtgjpjmolfdiahaaDoorAX18
import Derived.Shelf.Strings.SplitShaped
namespace Go.Proofs
open Go.Shelf
shelf_lay LaysM.n146 Nm 146 at Tryd as Tryd.splitM
end Go.Proofs
namespace Go.Proofs.YtgjpjmolfdiahaaDoor
open Go.RowKit Go.Lib
set_option linter.unusedVariables false

/-- The program's tables, as they were laid. -/
structure Am.Gl (w : World) : Prop where
  nm : Nm w
  mx : ∃ k : Int, w.cell? ⟨2, 0, none⟩ = some (.int .i64 k)
  sz : 3 ≤ w.heap.size
theorem Am.Gl.keeps {w w' : World} {F : Nat → Prop} (h : Am.Gl w) (k : Keeps F w w') (hF : ∀ i, F i → 3 ≤ i) : Am.Gl w' := by
  have hs := h.sz
  have hk : ∀ i, i < 3 → w'.heap[i]? = w.heap[i]? := fun i hi => k.2.2.2.2 i (by omega) (fun e => by have := hF i e; omega)
  refine ⟨⟨fun j hj => ?_, by have := k.size; omega⟩, ?_, by have := k.size; omega⟩
  · rw [show w'.cell? ⟨0, j, none⟩ = w.cell? ⟨0, j, none⟩ from by simp only [World.cell?, hk 0 (by omega)]]
    exact h.nm.at' j hj
  · obtain ⟨q, hq⟩ := h.mx
    exact ⟨q, by rw [show w'.cell? ⟨2, 0, none⟩ = w.cell? ⟨2, 0, none⟩ from by simp only [World.cell?, hk 2 (by omega)]]; exact hq⟩
theorem Am.Gl.grown {w w' : World} (h : Am.Gl w) (g : w.grownBy w' none) : Am.Gl w' := h.keeps (F := fun _ => False) (Keeps.of_only g (fun k hk => by cases hk)) (fun i hi => hi.elim)
def Am.strs (L : List (List UInt8)) : List Value := L.map fun x => .string ⟨x.toArray⟩
theorem Am.split_cells (s : ByteArray) (y : UInt8) : (Go.Lib.splitB ⟨#[y]⟩ 0 (Go.Lib.countB s ⟨#[y]⟩) s).map Value.string = Am.strs (Am.spl y s.data.toList) := by
  rw [← Am.split_all, Am.strs, List.map_map]
  apply List.map_congr_left
  intro x _
  simp
theorem Am.split_count (s : ByteArray) (y : UInt8) : Go.Lib.countB s ⟨#[y]⟩ + 1 = (Am.spl y s.data.toList).length := by
  have h := congrArg List.length (Am.split_all s y)
  rw [List.length_map, Go.Lib.splitB_all ⟨#[y]⟩ (by show 1 ≤ 1; omega) 0 _ s rfl] at h
  exact h
theorem Am.split_any (y : UInt8) (s : ByteArray) (hs : s.size ≤ 100000) (w : World) (hg : Am.Gl w) :
    Calls Tryd.prog 43 #[.string s, .string ⟨#[y]⟩] w fun e w' => e = .returned (.slice (some ⟨w.heap.size, 0, none⟩) (Am.spl y s.data.toList).length (Am.spl y s.data.toList).length) ∧ w' = w.alloc (.cells (Am.strs (Am.spl y s.data.toList)).toArray 9) := by
  obtain ⟨k, hk⟩ := hg.mx
  have h : Calls Tryd.prog 43 #[.string s, .string ⟨#[y]⟩] w fun e w' => e = .returned (.slice (some ⟨w.heap.size, 0, none⟩) (Go.Lib.countB s ⟨#[y]⟩ + 1) (Go.Lib.countB s ⟨#[y]⟩ + 1)) ∧ w' = w.alloc (.cells ((Go.Lib.splitB ⟨#[y]⟩ 0 (Go.Lib.countB s ⟨#[y]⟩) s).map Value.string).toArray 9) :=
    Any.strings_Split { Tryd.splitM with } Tryd.splitM.i9 s ⟨#[y]⟩ k w (by omega) hk (by show 1 ≤ 1; omega)
  rw [Am.split_cells, Am.split_count] at h
  exact h
theorem Am.suf_yes {l : List UInt8} (h : l.getLast? = some 58) : Go.Lib.hasSuffix l [58] = true ∧ Go.Lib.trimSuffix l [58] = l.dropLast := by
  obtain ⟨a, rfl⟩ : ∃ a, l = a ++ [58] := by
    rw [List.getLast?_eq_some_iff] at h
    exact h
  have h1 : Go.Lib.hasSuffix (a ++ [58]) [58] = true := by
    unfold Go.Lib.hasSuffix
    rw [List.isSuffixOf_iff_suffix]
    exact List.suffix_append a [58]
  refine ⟨h1, ?_⟩
  unfold Go.Lib.trimSuffix
  rw [if_pos h1]
  simp
theorem Am.suf_no {l : List UInt8} (h : ¬ l.getLast? = some 58) : Go.Lib.hasSuffix l [58] = false := by
  cases e : Go.Lib.hasSuffix l [58] with
  | false => rfl
  | true =>
    exfalso
    unfold Go.Lib.hasSuffix at e
    rw [List.isSuffixOf_iff_suffix] at e
    obtain ⟨a, rfl⟩ := e
    exact h (by simp)
end Go.Proofs.YtgjpjmolfdiahaaDoor
