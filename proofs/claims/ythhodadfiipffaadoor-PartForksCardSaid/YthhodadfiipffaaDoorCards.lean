/-
  DERIVED. GIVEN WITH THE SEED: THE CARDS: each row of YthhodadfiipffaaDoorRows.lean that lists a variable, with what it lists TIED to the program's text (the seventh form; the later family's looks); each row that meets fmt, with fmt's text TOLD by the authors' own Lean function (tested against real Go, not proved from fmt's source: count such statements apart). THE CARD IS WHAT COUNTS. Prove the row's statement (the work); the ties are given (YthhodadfiipffaaDoorTie.lean); close each card by the builder's one call (the guide's Derived/Test/ToyasCard.lean, 'card_holds'). Laid BY PROGRAM, IN A SANDBOX (cutbox-door.mjs). By AI agents, Wed Nov 11 2026. No macro, syntax, notation, axiom, sorry.
-/
import Derived.Test.YthhodadfiipffaaDoorRows
import GoSem.ClaimSeven
namespace Go.Proofs.YthhodadfiipffaaDoor
namespace Rows

/-- THE TIED CARD OF 'campanilelaw27.PartPlays'. -/
def partPlaysCard : Claim7 := { stood := { row := partPlaysRow, standIns := [], harness := (true, "03a804d6cb38d0c9db8f99f490d917b47fbee96224002804146564bebf2d7ec4"), looks := false }, kinds := [], alts := [], laidByText := true, laidKinds := [.data], laidTests := true, laidLooks := .later }
def PartPlaysCardSaid : Prop := Claim7.holds Tryd.pinned (.plain (OpenSpec.ofChange partPlaysSpec)) partPlaysCard

/-- THE TIED CARD OF 'campanilelaw27.PartStays'. -/
def partStaysCard : Claim7 := { stood := { row := partStaysRow, standIns := [], harness := (true, "03a804d6cb38d0c9db8f99f490d917b47fbee96224002804146564bebf2d7ec4"), looks := false }, kinds := [], alts := [], laidByText := true, laidKinds := [.data], laidTests := true, laidLooks := .later }
def PartStaysCardSaid : Prop := Claim7.holds Tryd.pinned (.plain (OpenSpec.ofChange partStaysSpec)) partStaysCard

/-- THE TIED CARD OF 'campanilelaw27.PartResults'. -/
def partResultsCard : Claim7 := { stood := { row := partResultsRow, standIns := [], harness := (true, "03a804d6cb38d0c9db8f99f490d917b47fbee96224002804146564bebf2d7ec4"), looks := false }, kinds := [], alts := [], laidByText := true, laidKinds := [.data], laidTests := true, laidLooks := .later }
def PartResultsCardSaid : Prop := Claim7.holds Tryd.pinned (.plain (OpenSpec.ofChange partResultsSpec)) partResultsCard

/-- THE TIED CARD OF 'campanilelaw27.PartForks'. -/
def partForksCard : Claim7 := { stood := { row := partForksRow, standIns := [], harness := (true, "03a804d6cb38d0c9db8f99f490d917b47fbee96224002804146564bebf2d7ec4"), looks := false }, kinds := [], alts := [], laidByText := true, laidKinds := [.data], laidTests := true, laidLooks := .later }
def PartForksCardSaid : Prop := Claim7.holds Tryd.pinned (.plain (OpenSpec.ofChange partForksSpec)) partForksCard

/-- THE SECOND FORM's CARD OF 'campanilelaw27.PartPlays'. -/
def partPlaysUptoCard : Claim7 := { stood := { row := partPlaysUptoRow, standIns := [], harness := (true, "03a804d6cb38d0c9db8f99f490d917b47fbee96224002804146564bebf2d7ec4"), looks := false }, kinds := [], alts := [], laidByText := true, laidKinds := [.data], laidTests := true, laidLooks := .later }
def PartPlaysUptoCardSaid : Prop := Claim7.holds Tryd.pinned (.plain (OpenSpec.upto partPlaysSpec)) partPlaysUptoCard

/-- THE SECOND FORM's CARD OF 'campanilelaw27.PartStays'. -/
def partStaysUptoCard : Claim7 := { stood := { row := partStaysUptoRow, standIns := [], harness := (true, "03a804d6cb38d0c9db8f99f490d917b47fbee96224002804146564bebf2d7ec4"), looks := false }, kinds := [], alts := [], laidByText := true, laidKinds := [.data], laidTests := true, laidLooks := .later }
def PartStaysUptoCardSaid : Prop := Claim7.holds Tryd.pinned (.plain (OpenSpec.upto partStaysSpec)) partStaysUptoCard

/-- THE SECOND FORM's CARD OF 'campanilelaw27.PartResults'. -/
def partResultsUptoCard : Claim7 := { stood := { row := partResultsUptoRow, standIns := [], harness := (true, "03a804d6cb38d0c9db8f99f490d917b47fbee96224002804146564bebf2d7ec4"), looks := false }, kinds := [], alts := [], laidByText := true, laidKinds := [.data], laidTests := true, laidLooks := .later }
def PartResultsUptoCardSaid : Prop := Claim7.holds Tryd.pinned (.plain (OpenSpec.upto partResultsSpec)) partResultsUptoCard

/-- THE SECOND FORM's CARD OF 'campanilelaw27.PartForks'. -/
def partForksUptoCard : Claim7 := { stood := { row := partForksUptoRow, standIns := [], harness := (true, "03a804d6cb38d0c9db8f99f490d917b47fbee96224002804146564bebf2d7ec4"), looks := false }, kinds := [], alts := [], laidByText := true, laidKinds := [.data], laidTests := true, laidLooks := .later }
def PartForksUptoCardSaid : Prop := Claim7.holds Tryd.pinned (.plain (OpenSpec.upto partForksSpec)) partForksUptoCard
end Rows
end Go.Proofs.YthhodadfiipffaaDoor
