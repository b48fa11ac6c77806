/- AsmShifts: passed-over lines play no part: with one more of them ahead the program is the same, and what is wrong is a line further: for every text and remark the law returns true. No condition but the tied card's: the listed tables start as the program's text lays them. -/
import Derived.Test.YtgjpjmolfdiahaaDoorAXSR
import Derived.Test.YtgjpjmolfdiahaaDoorCards
import Derived.Test.YtgjpjmolfdiahaaDoorTie
import Derived.SevenTiedAt
namespace Go.Proofs.YtgjpjmolfdiahaaDoor
open Go

theorem asmShifts_card : Rows.AsmShiftsCardSaid :=
  Claim7.holds_tied_plain_at .later [] _ true _ true
    asmShifts_holds (fun _ h => by cases h) (by kernel_rfl) (fun _ h => by cases h) asmShifts_row_tie rfl ⟨rfl, rfl⟩ (by kernel_rfl) rfl
    (fun f fn hf hfn => by
      obtain rfl : f = 6 := Option.some.inj ((show Tryd.prog.funcNamed "campanile/campanilelaw20.AsmShifts" = some 6 by kernel_rfl).symm.trans hf) |>.symm
      obtain rfl : fn = Tryd.f6 := (Option.some.inj (Tryd.func6.symm.trans hfn)).symm
      exact ⟨by kernel_rfl, fun j t ht => by
        rw [Tryd.params6] at ht
        have hm : t ∈ [9, 9] := by simpa using Array.mem_of_getElem? ht
        have hall : ([9, 9].all fun u => !Tryd.prog.wantsStandIn u) = true := by kernel_rfl
        exact (show Tryd.prog.wantsStandIn t = false by simpa using List.all_eq_true.1 hall t hm)⟩)
    (by kernel_rfl)
#print axioms asmShifts_card
end Go.Proofs.YtgjpjmolfdiahaaDoor
