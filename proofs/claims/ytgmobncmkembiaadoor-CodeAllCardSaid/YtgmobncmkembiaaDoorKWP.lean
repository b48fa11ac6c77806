/- CodeAll: all the instructions of any bytes, or where the first lies that is none and why, are the document's. No condition but the tied card's: the package's table starts as the program's text lays it. -/
import Derived.Test.YtgmobncmkembiaaDoorKWR
import Derived.Test.YtgmobncmkembiaaDoorCards
import Derived.Test.YtgmobncmkembiaaDoorTie
import Derived.SevenTiedAt
namespace Go.Proofs.YtgmobncmkembiaaDoor
open Go

theorem codeAll_card : Rows.CodeAllCardSaid :=
  Claim7.holds_tied_plain_at .later [] [.data] true _ false
    codeAll_holds (fun _ h => by cases h) (by kernel_rfl) (fun _ h => by cases h) codeAll_row_tie rfl ⟨rfl, rfl⟩ (by kernel_rfl) rfl
    (fun f fn hf hfn => by
      obtain rfl : f = 5 := Option.some.inj ((show Tryd.prog.funcNamed "campanile/campanilelaw19.CodeAll" = some 5 by kernel_rfl).symm.trans hf) |>.symm
      obtain rfl : fn = Tryd.f5 := (Option.some.inj (Tryd.func5.symm.trans hfn)).symm
      exact ⟨by kernel_rfl, fun j t ht => by
        rw [Tryd.params5] at ht
        have hm : t ∈ [9] := by simpa using Array.mem_of_getElem? ht
        have hall : ([9].all fun u => !Tryd.prog.wantsStandIn u) = true := by kernel_rfl
        exact (show Tryd.prog.wantsStandIn t = false by simpa using List.all_eq_true.1 hall t hm)⟩)
    (by kernel_rfl)
#print axioms codeAll_card
end Go.Proofs.YtgmobncmkembiaaDoor
