/- How a law of package asm is opened: the tables as they were laid; texts that came in. -/
import Derived.Test.YtgjpjmolfdiahaaDoorKDR
import Derived.Test.YtgjpjmolfdiahaaDoorAX27
import Derived.Deep.DeepHandedRow
import Derived.LaidSub
import Derived.PinnedBridge
namespace Go.Proofs.YtgjpjmolfdiahaaDoor
open Go.RowKit Go.Lib Go.ChangeShapes Go.WideShapes Go.ChangeAt Go.Deep Go.Joins
open Go.ChangeMaps (open_string shut_string)
set_option linter.unusedVariables false

/-- The door's world, Go's own table of first bytes laid besides. -/
noncomputable def Am.lw (os : Os) : World :=
  let w0 := World.doorLaid Tryd.prog 400 os
  { w0 with heap := w0.heap.modify 3 fun
    | .cells _ t frozen => .cells (Go.Lib.firstTab.map fun z => Value.int .u8 z).toArray t frozen
    | o => o }
set_option maxRecDepth 100000 in
theorem Am.door (os : Os) (args : Array Value) : laidMetH Tryd.prog Rows.asmShiftsRow.laid ((Am.lw os).forCall (fun _ _ => 0) ⟨#[], args, []⟩).memory :=
  laidMetH_of_parts3 (fuel := 8) (laidMet_of_run' 8 (by kernel_rfl) (by kernel_rfl)) (by kernel_rfl) (by kernel_rfl)
/-- What the row's conditions give the walks. -/
theorem Am.gl_of {W : World} {l : List (String × DataW Unit)} (h : laidMetH Tryd.prog (("campanile/code.names", Rows.laid_campanile_code_names) :: l) W) (hs : W.ShapedOpen Tryd.prog) (hn : l.filter (fun x => x.1 == "campanile/code.names") = [] := by rfl) : Am.Gl W := by
  have h1 := h.filter (fun x => x.1 == "campanile/code.names")
  rw [show ((("campanile/code.names", Rows.laid_campanile_code_names) :: l : List (String × DataW Unit)).filter fun x => x.1 == "campanile/code.names") = laid1 from by rw [List.filter_cons_of_pos (by rfl), hn]; rfl] at h1
  obtain ⟨k, hk⟩ := Tryd.splitM.s1_3 W hs
  have hk2 : W.cell? ⟨2, 0, none⟩ = some (.int .i64 k) := hk
  exact ⟨nm_of_laid h1, ⟨k, hk2⟩, World.block_lt_of_cell? W _ hk2⟩
end Go.Proofs.YtgjpjmolfdiahaaDoor
