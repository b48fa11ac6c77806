/- CodeGets: the instruction of any bytes, or why they are none, is the document's, and what is got is put as those bytes: for every text the law returns true. No condition but the tied card's: the package's table starts as the program's text lays it. -/
import Derived.Test.YtgmobncmkembiaaDoorKYR
import Derived.Test.YtgmobncmkembiaaDoorCards
import Derived.Test.YtgmobncmkembiaaDoorTie
import Derived.SevenTiedAt
namespace Go.Proofs.YtgmobncmkembiaaDoor
open Go

theorem codeGets_card : Rows.CodeGetsCardSaid :=
  Claim7.holds_tied_plain_at .later [] [.data] true _ false
    codeGets_holds (fun _ h => by cases h) (by kernel_rfl) (fun _ h => by cases h) codeGets_row_tie rfl ⟨rfl, rfl⟩ (by kernel_rfl) rfl
    (fun f fn hf hfn => by
      obtain rfl : f = 4 := Option.some.inj ((show Tryd.prog.funcNamed "campanile/campanilelaw19.CodeGets" = some 4 by kernel_rfl).symm.trans hf) |>.symm
      obtain rfl : fn = Tryd.f4 := (Option.some.inj (Tryd.func4.symm.trans hfn)).symm
      exact ⟨by kernel_rfl, fun j t ht => by
        rw [Tryd.params4] at ht
        have hm : t ∈ [9] := by simpa using Array.mem_of_getElem? ht
        have hall : ([9].all fun u => !Tryd.prog.wantsStandIn u) = true := by kernel_rfl
        exact (show Tryd.prog.wantsStandIn t = false by simpa using List.all_eq_true.1 hall t hm)⟩)
    (by kernel_rfl)
#print axioms codeGets_card
end Go.Proofs.YtgmobncmkembiaaDoor
