/- ToneLines: what was put on a line is read: for every text the law returns true. No condition but the tied card's: the package's table starts as the program's text lays it. -/
import Derived.Test.YtnbkghlcpcmigabDoorTLR
import Derived.Test.YtnbkghlcpcmigabDoorCards
import Derived.Test.YtnbkghlcpcmigabDoorTie
import Derived.SevenTiedAt
namespace Go.Proofs.YtnbkghlcpcmigabDoor
open Go

theorem lines_card : Rows.ToneLinesCardSaid :=
  Claim7.holds_tied_plain_at .later [] [.data] true (true, "32fe8510ff168f023cb270c2f9e722f9d18fe2a12679e33f01d9b02444c5879b") false
    lines_holds (fun _ h => by cases h) (by kernel_rfl) (fun _ h => by cases h) toneLines_row_tie rfl ⟨rfl, rfl⟩ (by kernel_rfl) rfl
    (fun f fn hf hfn => by
      obtain rfl : f = 3 := Option.some.inj ((show Tryd.prog.funcNamed "campanile/campanilelaw10.ToneLines" = some 3 by kernel_rfl).symm.trans hf) |>.symm
      obtain rfl : fn = Tryd.f3 := (Option.some.inj (Tryd.func3.symm.trans hfn)).symm
      exact ⟨by kernel_rfl, fun j t ht => by
        rw [Tryd.params3] at ht
        have hm : t ∈ [9] := by simpa using Array.mem_of_getElem? ht
        have hall : ([9].all fun u => !Tryd.prog.wantsStandIn u) = true := by kernel_rfl
        exact (show Tryd.prog.wantsStandIn t = false by simpa using List.all_eq_true.1 hall t hm)⟩)
    (by kernel_rfl)
#print axioms lines_card
end Go.Proofs.YtnbkghlcpcmigabDoor
