/- Package asm: a text's parts, and what is kept of the program's tables, by their contracts. -/
import Derived.Test.YtgjpjmolfdiahaaDoorAX18
import Derived.Shelf.Strings.SplitShaped
namespace Go.Proofs
open Go.Shelf
def Tryd.splitM_ren : Go.Shelf.Ren := ⟨fun | 146 => 43 | 221 => 54 | 268 => 66 | 138 => 67 | 143 => 68 | 195 => 77 | 197 => 78 | 218 => 79 | 219 => 80 | 260 => 91 | 217 => 92 | 225 => 93 | 224 => 94 | 267 => 95 | 266 => 101 | 314 => 102 | n => n, fun | 9 => 9 | 31 => 57 | 3 => 3 | 4 => 4 | 0 => 0 | 105 => 120 | 21 => 21 | 5 => 5 | 46 => 113 | 119 => 137 | 139 => 140 | 138 => 139 | 146 => 141 | 51 => 131 | n => n, fun | 1 => 2 | 3 => 3 | 4 => 4 | n => n⟩
theorem Tryd.splitM : Go.Proofs.LaysM.n146 Tryd.prog Tryd.splitM_ren := {
  mixed := by kernel_rfl
  f138 := Tryd.func67.trans (congrArg some (by kernel_rfl))
  f143 := Tryd.func68.trans (congrArg some (by kernel_rfl))
  f146 := Tryd.func43.trans (congrArg some (by kernel_rfl))
  f195 := Tryd.func77.trans (congrArg some (by kernel_rfl))
  f197 := Tryd.func78.trans (congrArg some (by kernel_rfl))
  f217 := Tryd.func92.trans (congrArg some (by kernel_rfl))
  f218 := Tryd.func79.trans (congrArg some (by kernel_rfl))
  f219 := Tryd.func80.trans (congrArg some (by kernel_rfl))
  f221 := Tryd.func54.trans (congrArg some (by kernel_rfl))
  f224 := Tryd.func94.trans (congrArg some (by kernel_rfl))
  f225 := Tryd.func93.trans (congrArg some (by kernel_rfl))
  f260 := Tryd.func91.trans (congrArg some (by kernel_rfl))
  f266 := Tryd.func101.trans (congrArg some (by kernel_rfl))
  f267 := Tryd.func95.trans (congrArg some (by kernel_rfl))
  f268 := Tryd.func66.trans (congrArg some (by kernel_rfl))
  f314 := Tryd.func102.trans (congrArg some (by kernel_rfl))
  t0 := Tryd.underlying0
  a0 := Tryd.isAgg0
  z0 := Tryd.sizeOf0
  v0 := Tryd.zeroValue0
  t3 := Tryd.underlying3
  a3 := Tryd.isAgg3
  z3 := Tryd.sizeOf3
  v3 := Tryd.zeroValue3
  t4 := Tryd.underlying4
  a4 := Tryd.isAgg4
  z4 := Tryd.sizeOf4
  v4 := Tryd.zeroValue4
  t5 := Tryd.underlying5
  a5 := Tryd.isAgg5
  z5 := Tryd.sizeOf5
  v5 := Tryd.zeroValue5
  t9 := Tryd.underlying9
  a9 := Tryd.isAgg9
  z9 := Tryd.sizeOf9
  v9 := Tryd.zeroValue9
  t21 := Tryd.underlying21
  a21 := Tryd.isAgg21
  z21 := Tryd.sizeOf21
  v21 := Tryd.zeroValue21
  t31 := Tryd.underlying57
  a31 := Tryd.isAgg57
  z31 := Tryd.sizeOf57
  v31 := Tryd.zeroValue57
  t46 := Tryd.underlying113
  a46 := Tryd.isAgg113
  z46 := Tryd.sizeOf113
  v46 := Tryd.zeroValue113
  t51 := Tryd.underlying131
  a51 := Tryd.isAgg131
  z51 := Tryd.sizeOf131
  v51 := Tryd.zeroValue131
  t105 := Tryd.underlying120
  a105 := Tryd.isAgg120
  z105 := Tryd.sizeOf120
  v105 := Tryd.zeroValue120
  t119 := Tryd.underlying137
  a119 := Tryd.isAgg137
  z119 := Tryd.sizeOf137
  t138 := Tryd.underlying139
  a138 := Tryd.isAgg139
  z138 := Tryd.sizeOf139
  v138 := Tryd.zeroValue139
  t139 := Tryd.underlying140
  a139 := Tryd.isAgg140
  z139 := Tryd.sizeOf140
  v139 := Tryd.zeroValue140
  t146 := Tryd.underlying141
  a146 := Tryd.isAgg141
  z146 := Tryd.sizeOf141
  v146 := Tryd.zeroValue141
  g1 := by kernel_rfl
  g3 := by kernel_rfl
  g4 := by kernel_rfl
  i0 := by kernel_rfl
  i3 := by kernel_rfl
  i4 := by kernel_rfl
  i5 := by kernel_rfl
  i9 := by kernel_rfl
  i21 := by kernel_rfl
  i31 := by kernel_rfl
  i46 := by kernel_rfl
  i51 := by kernel_rfl
  i105 := by kernel_rfl
  i138 := by kernel_rfl
  i139 := by kernel_rfl
  i146 := by kernel_rfl
  m1 := by kernel_rfl
  s1_3 := fun w h => Go.Proofs.cell_of_shapedOpen_int (zero := #[.int .i64 0]) (t := 3) h (of_decide_eq_true (by kernel_rfl)) (by kernel_rfl) rfl (by kernel_rfl) (by kernel_rfl) Tryd.underlying3
  m3 := by kernel_rfl
  m4 := by kernel_rfl }
end Go.Proofs
namespace Go.Proofs.YtgjpjmolfdiahaaDoor
open Go.RowKit Go.Lib
set_option linter.unusedVariables false

/-- The program's tables, as they were laid. -/
structure Am.Gl (w : World) : Prop where
  nm : Nm w
  mx : ∃ k : Int, w.cell? ⟨2, 0, none⟩ = some (.int .i64 k)
  sz : 3 ≤ w.heap.size
theorem Am.Gl.keeps {w w' : World} {F : Nat → Prop} (h : Am.Gl w) (k : Keeps F w w') (hF : ∀ i, F i → 3 ≤ i) : Am.Gl w' := by
  have hs := h.sz
  have hk : ∀ i, i < 3 → w'.heap[i]? = w.heap[i]? := fun i hi => k.2.2.2.2 i (by omega) (fun e => by have := hF i e; omega)
  refine ⟨⟨fun j hj => ?_, by have := k.size; omega⟩, ?_, by have := k.size; omega⟩
  · rw [show w'.cell? ⟨0, j, none⟩ = w.cell? ⟨0, j, none⟩ from by simp only [World.cell?, hk 0 (by omega)]]
    exact h.nm.at' j hj
  · obtain ⟨q, hq⟩ := h.mx
    exact ⟨q, by rw [show w'.cell? ⟨2, 0, none⟩ = w.cell? ⟨2, 0, none⟩ from by simp only [World.cell?, hk 2 (by omega)]]; exact hq⟩
theorem Am.Gl.grown {w w' : World} (h : Am.Gl w) (g : w.grownBy w' none) : Am.Gl w' := h.keeps (F := fun _ => False) (Keeps.of_only g (fun k hk => by cases hk)) (fun i hi => hi.elim)
def Am.strs (L : List (List UInt8)) : List Value := L.map fun x => .string ⟨x.toArray⟩
theorem Am.split_cells (s : ByteArray) (y : UInt8) : (Go.Lib.splitB ⟨#[y]⟩ 0 (Go.Lib.countB s ⟨#[y]⟩) s).map Value.string = Am.strs (Am.spl y s.data.toList) := by
  rw [← Am.split_all, Am.strs, List.map_map]
  apply List.map_congr_left
  intro x _
  simp
theorem Am.split_count (s : ByteArray) (y : UInt8) : Go.Lib.countB s ⟨#[y]⟩ + 1 = (Am.spl y s.data.toList).length := by
  have h := congrArg List.length (Am.split_all s y)
  rw [List.length_map, Go.Lib.splitB_all ⟨#[y]⟩ (by show 1 ≤ 1; omega) 0 _ s rfl] at h
  exact h
theorem Am.split_any (y : UInt8) (s : ByteArray) (hs : s.size ≤ 100000) (w : World) (hg : Am.Gl w) :
    Calls Tryd.prog 43 #[.string s, .string ⟨#[y]⟩] w fun e w' => e = .returned (.slice (some ⟨w.heap.size, 0, none⟩) (Am.spl y s.data.toList).length (Am.spl y s.data.toList).length) ∧ w' = w.alloc (.cells (Am.strs (Am.spl y s.data.toList)).toArray 9) := by
  obtain ⟨k, hk⟩ := hg.mx
  have h : Calls Tryd.prog 43 #[.string s, .string ⟨#[y]⟩] w fun e w' => e = .returned (.slice (some ⟨w.heap.size, 0, none⟩) (Go.Lib.countB s ⟨#[y]⟩ + 1) (Go.Lib.countB s ⟨#[y]⟩ + 1)) ∧ w' = w.alloc (.cells ((Go.Lib.splitB ⟨#[y]⟩ 0 (Go.Lib.countB s ⟨#[y]⟩) s).map Value.string).toArray 9) :=
    Any.strings_Split { Tryd.splitM with } Tryd.splitM.i9 s ⟨#[y]⟩ k w (by omega) hk (by show 1 ≤ 1; omega)
  rw [Am.split_cells, Am.split_count] at h
  exact h
theorem Am.suf_yes {l : List UInt8} (h : l.getLast? = some 58) : Go.Lib.hasSuffix l [58] = true ∧ Go.Lib.trimSuffix l [58] = l.dropLast := by
  obtain ⟨a, rfl⟩ : ∃ a, l = a ++ [58] := by
    rw [List.getLast?_eq_some_iff] at h
    exact h
  have h1 : Go.Lib.hasSuffix (a ++ [58]) [58] = true := by
    unfold Go.Lib.hasSuffix
    rw [List.isSuffixOf_iff_suffix]
    exact List.suffix_append a [58]
  refine ⟨h1, ?_⟩
  unfold Go.Lib.trimSuffix
  rw [if_pos h1]
  simp
theorem Am.suf_no {l : List UInt8} (h : ¬ l.getLast? = some 58) : Go.Lib.hasSuffix l [58] = false := by
  cases e : Go.Lib.hasSuffix l [58] with
  | false => rfl
  | true =>
    exfalso
    unfold Go.Lib.hasSuffix at e
    rw [List.isSuffixOf_iff_suffix] at e
    obtain ⟨a, rfl⟩ := e
    exact h (by simp)
end Go.Proofs.YtgjpjmolfdiahaaDoor
