/- CodeNames: each code has a name of its own, by which it is found, and which have a register, or may go elsewhere, is the document's: for every code, text and instruction the law returns true. No condition but the tied card's: the package's table starts as the program's text lays it. -/
import Derived.Test.YtgmobncmkembiaaDoorKZR
import Derived.Test.YtgmobncmkembiaaDoorCards
import Derived.Test.YtgmobncmkembiaaDoorTie
import Derived.SevenTiedAt
namespace Go.Proofs.YtgmobncmkembiaaDoor
open Go

theorem codeNames_card : Rows.CodeNamesCardSaid :=
  Claim7.holds_tied_plain_at .later [] [.data] true _ false
    codeNames_holds (fun _ h => by cases h) (by kernel_rfl) (fun _ h => by cases h) codeNames_row_tie rfl ⟨rfl, rfl⟩ (by kernel_rfl) rfl
    (fun f fn hf hfn => by
      obtain rfl : f = 6 := Option.some.inj ((show Tryd.prog.funcNamed "campanile/campanilelaw19.CodeNames" = some 6 by kernel_rfl).symm.trans hf) |>.symm
      obtain rfl : fn = Tryd.f6 := (Option.some.inj (Tryd.func6.symm.trans hfn)).symm
      exact ⟨by kernel_rfl, fun j t ht => by
        rw [Tryd.params6] at ht
        have hm : t ∈ [22, 9, 24] := by simpa using Array.mem_of_getElem? ht
        have hall : ([22, 9, 24].all fun u => !Tryd.prog.wantsStandIn u) = true := by kernel_rfl
        exact (show Tryd.prog.wantsStandIn t = false by simpa using List.all_eq_true.1 hall t hm)⟩)
    (by kernel_rfl)
#print axioms codeNames_card
end Go.Proofs.YtgmobncmkembiaaDoor
