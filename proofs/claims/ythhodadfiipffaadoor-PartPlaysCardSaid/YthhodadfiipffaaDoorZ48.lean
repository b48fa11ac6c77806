import Derived.Test.YthhodadfiipffaaDoorZ47
import Derived.Test.YthhodadfiipffaaDoorCards
import Derived.Test.YthhodadfiipffaaDoorTie
import Derived.SevenTiedAt
set_option linter.all false
/- PartPlays: each mark and each state of any program is the document's, whatever it is told: for every program, size and deeds the law returns true. No condition but the tied card's: the package's table starts as1 the program's text lays it. -/
namespace Go.Proofs.YthhodadfiipffaaDoor
open Go

theorem partPlays_card : Rows.PartPlaysCardSaid :=
  Claim7.holds_tied_plain_at .later [] [.data] true _ false
    partPlays_holds (fun _ h => by cases h) (by kernel_rfl) (fun _ h => by cases h) partPlays_row_tie rfl ⟨rfl, rfl⟩ (by kernel_rfl) rfl
    (fun f fn hf hfn => by
      obtain rfl : f = 3 := Option.some.inj ((show Tryd.prog.funcNamed "campanile/campanilelaw27.PartPlays" = some 3 by kernel_rfl).symm.trans hf) |>.symm
      obtain rfl : fn = Tryd.f3 := (Option.some.inj (Tryd.func3.symm.trans hfn)).symm
      exact ⟨by kernel_rfl, fun j t ht => by
        rw [Tryd.params3] at ht
        have hm : t ∈ [9, 3, 22] := by simpa using Array.mem_of_getElem? ht
        have hall : ([9, 3, 22].all fun u => !Tryd.prog.wantsStandIn u) = true := by kernel_rfl
        exact (show Tryd.prog.wantsStandIn t = false by simpa using List.all_eq_true.1 hall t hm)⟩)
    (by kernel_rfl)
#print axioms partPlays_card
end Go.Proofs.YthhodadfiipffaaDoor
