import Derived.Test.YthhodadfiipffaaDoorZ49
import Derived.Test.YthhodadfiipffaaDoorCards
import Derived.Test.YthhodadfiipffaaDoorTie
import Derived.SevenTiedAt
set_option linter.all false
/- PartForks: what becomes of a fork changes nothing of the other one, and a nil partition does nothing: for every program and two rows of deeds the law returns true. No condition but the tied card's: the package's table starts as1 the program's text lays it. -/
namespace Go.Proofs.YthhodadfiipffaaDoor
open Go

theorem partForks_card : Rows.PartForksCardSaid :=
  Claim7.holds_tied_plain_at .later [] [.data] true _ false
    partForks_holds (fun _ h => by cases h) (by kernel_rfl) (fun _ h => by cases h) partForks_row_tie rfl ⟨rfl, rfl⟩ (by kernel_rfl) rfl
    (fun f fn hf hfn => by
      obtain rfl : f = 6 := Option.some.inj ((show Tryd.prog.funcNamed "campanile/campanilelaw27.PartForks" = some 6 by kernel_rfl).symm.trans hf) |>.symm
      obtain rfl : fn = Tryd.f6 := (Option.some.inj (Tryd.func6.symm.trans hfn)).symm
      exact ⟨by kernel_rfl, fun j t ht => by
        rw [Tryd.params6] at ht
        have hm : t ∈ [9, 22, 22] := by simpa using Array.mem_of_getElem? ht
        have hall : ([9, 22, 22].all fun u => !Tryd.prog.wantsStandIn u) = true := by kernel_rfl
        exact (show Tryd.prog.wantsStandIn t = false by simpa using List.all_eq_true.1 hall t hm)⟩)
    (by kernel_rfl)
#print axioms partForks_card
end Go.Proofs.YthhodadfiipffaaDoor
