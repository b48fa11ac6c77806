import Derived.Test.YthhodadfiipffaaDoorZ28
import Derived.Test.YthhodadfiipffaaDoorCards
import Derived.Test.YthhodadfiipffaaDoorTie
import Derived.SevenTiedAt
set_option linter.all false
/- PartStays: a partition depends on its own bytes alone, and changes none outside its view: for every program, size, text that stands around and deeds the law returns true. No condition but the tied card's: the package's table starts as1 the program's text lays it. -/
namespace Go.Proofs.YthhodadfiipffaaDoor
open Go

theorem partStays_card : Rows.PartStaysCardSaid :=
  Claim7.holds_tied_plain_at .later [] [.data] true _ false
    partStays_holds (fun _ h => by cases h) (by kernel_rfl) (fun _ h => by cases h) partStays_row_tie rfl ⟨rfl, rfl⟩ (by kernel_rfl) rfl
    (fun f fn hf hfn => by
      obtain rfl : f = 4 := Option.some.inj ((show Tryd.prog.funcNamed "campanile/campanilelaw27.PartStays" = some 4 by kernel_rfl).symm.trans hf) |>.symm
      obtain rfl : fn = Tryd.f4 := (Option.some.inj (Tryd.func4.symm.trans hfn)).symm
      exact ⟨by kernel_rfl, fun j t ht => by
        rw [Tryd.params4] at ht
        have hm : t ∈ [9, 3, 9, 22] := by simpa using Array.mem_of_getElem? ht
        have hall : ([9, 3, 9, 22].all fun u => !Tryd.prog.wantsStandIn u) = true := by kernel_rfl
        exact (show Tryd.prog.wantsStandIn t = false by simpa using List.all_eq_true.1 hall t hm)⟩)
    (by kernel_rfl)
#print axioms partStays_card
end Go.Proofs.YthhodadfiipffaaDoor
