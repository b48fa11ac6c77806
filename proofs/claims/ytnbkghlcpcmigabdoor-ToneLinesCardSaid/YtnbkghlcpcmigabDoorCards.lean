/-
  DERIVED. GIVEN WITH THE SEED: THE CARDS: each row of YtnbkghlcpcmigabDoorRows.lean that lists a variable, with what it lists TIED to the program's text (the seventh form; the later family's looks); each row that meets fmt, with fmt's text TOLD by the authors' own Lean function (tested against real Go, not proved from fmt's source: count such statements apart). THE CARD IS WHAT COUNTS. Prove the row's statement (the work); the ties are given (YtnbkghlcpcmigabDoorTie.lean); close each card by the builder's one call (the guide's Derived/Test/ToyasCard.lean, 'card_holds'). Laid BY PROGRAM, IN A SANDBOX (cutbox-door.mjs). By AI agents, Wed Nov 11 2026. No macro, syntax, notation, axiom, sorry.
-/
import Derived.Test.YtnbkghlcpcmigabDoorRows
import GoSem.ClaimSeven
namespace Go.Proofs.YtnbkghlcpcmigabDoor
namespace Rows

/-- THE TIED CARD OF 'campanilelaw10.ToneLines'. -/
def toneLinesCard : Claim7 := { stood := { row := toneLinesRow, standIns := [], harness := (true, "32fe8510ff168f023cb270c2f9e722f9d18fe2a12679e33f01d9b02444c5879b"), looks := false }, kinds := [], alts := [], laidByText := true, laidKinds := [.data], laidTests := true, laidLooks := .later }
def ToneLinesCardSaid : Prop := Claim7.holds Tryd.pinned (.plain (OpenSpec.ofChange toneLinesSpec)) toneLinesCard

/-- THE SECOND FORM's CARD OF 'campanilelaw10.ToneLines'. -/
def toneLinesUptoCard : Claim7 := { stood := { row := toneLinesUptoRow, standIns := [], harness := (true, "32fe8510ff168f023cb270c2f9e722f9d18fe2a12679e33f01d9b02444c5879b"), looks := false }, kinds := [], alts := [], laidByText := true, laidKinds := [.data], laidTests := true, laidLooks := .later }
def ToneLinesUptoCardSaid : Prop := Claim7.holds Tryd.pinned (.plain (OpenSpec.upto toneLinesSpec)) toneLinesUptoCard
end Rows
end Go.Proofs.YtnbkghlcpcmigabDoor
