/- CodePuts: what was put is got, and which instructions may be is the document's: for every instruction the law returns true. No condition but the tied card's: the package's table starts as the program's text lays it. -/
import Derived.Test.YtgmobncmkembiaaDoorKXR
import Derived.Test.YtgmobncmkembiaaDoorCards
import Derived.Test.YtgmobncmkembiaaDoorTie
import Derived.SevenTiedAt
namespace Go.Proofs.YtgmobncmkembiaaDoor
open Go

theorem codePuts_card : Rows.CodePutsCardSaid :=
  Claim7.holds_tied_plain_at .later [] [.data] true _ false
    codePuts_holds (fun _ h => by cases h) (by kernel_rfl) (fun _ h => by cases h) codePuts_row_tie rfl ⟨rfl, rfl⟩ (by kernel_rfl) rfl
    (fun f fn hf hfn => by
      obtain rfl : f = 3 := Option.some.inj ((show Tryd.prog.funcNamed "campanile/campanilelaw19.CodePuts" = some 3 by kernel_rfl).symm.trans hf) |>.symm
      obtain rfl : fn = Tryd.f3 := (Option.some.inj (Tryd.func3.symm.trans hfn)).symm
      exact ⟨by kernel_rfl, fun j t ht => by
        rw [Tryd.params3] at ht
        have hm : t ∈ [24] := by simpa using Array.mem_of_getElem? ht
        have hall : ([24].all fun u => !Tryd.prog.wantsStandIn u) = true := by kernel_rfl
        exact (show Tryd.prog.wantsStandIn t = false by simpa using List.all_eq_true.1 hall t hm)⟩)
    (by kernel_rfl)
#print axioms codePuts_card
end Go.Proofs.YtgmobncmkembiaaDoor
