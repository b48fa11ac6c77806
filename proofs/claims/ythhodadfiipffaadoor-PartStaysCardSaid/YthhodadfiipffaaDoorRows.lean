/-
  NARROWER THAN 'FOR EVERY INPUT', by the rows' own cells (each row's printed sentence says how): PartPlays: laid · PartStays: laid · PartResults: laid · PartForks: laid.
  DERIVED. THE GIVEN ROWS OF THIS SEAT. 4 by the template 'for every input the law returns true; each argument reads behind the call as it read before'; 0 by the template 'total and deterministic' (their statements: YthhodadfiipffaaDoorTotals.lean).
  GIVEN WITH THE SEED: the statements are not yours to turn. If you find one false, say at which input.
  Laid BY PROGRAM, IN A SANDBOX (cutbox-rows.mjs): the forced cells as the released guide's own fill.sh prints them over the translation 9ddf9d0015964661… (all of the seat's roots in one cut). By AI agents, Wed Nov 11 2026. No macro, syntax, notation, axiom, sorry.
-/
import Derived.Test.YthhodadfiipffaaDoorChecked
import GoSem.Claim
import GoSem.ClaimJoined
import GoSem.ClaimMapViews
import Derived.JoinedTies
import Derived.KernelRfl
namespace Go.Proofs.YthhodadfiipffaaDoor
/- THE CELL 'sum', in the pinned program and in every row, IS THE sha256 OF THE DUMP (.gsa) THAT YthhodadfiipffaaDoorProg.lean LOADS. Nothing in Lean hashes anything: it is a label: what it is worth is what the hold of that sum in a sandbox is worth. -/
noncomputable def Tryd.pinned : Pinned := { name := "ythhodadfiipffaadoor", sum := "9ddf9d00159646617334b5f536c1e51df7e29aa38755f3d96f4c577e58b33b8a", checked := Tryd.checked }
namespace Rows
def none {H : Type} : Left H := { results := [], args := [] }

/- WHAT THE LISTED PACKAGE-LEVEL VARIABLES READ AS WHEN THE CALL BEGINS. Each datum BY PROGRAM (the guide's laid-datum.mjs) off the statement by which the dump's own 'gosem.cut.vars' lays the variable. In a bare row this is a premise. The card (YthhodadfiipffaaDoorCards.lean) ties it to the program's text. -/
def laid_campanile_code_names {H : Type} : DataW H := .agg [.lit (.string [115, 116, 111, 112]), .lit (.string [115, 101, 116]), .lit (.string [109, 111, 118, 101]), .lit (.string [97, 100, 100]), .lit (.string [115, 117, 98]), .lit (.string [97, 110, 100]), .lit (.string [120, 111, 114]), .lit (.string [114, 101, 97, 100]), .lit (.string [119, 114, 105, 116, 101]), .lit (.string [114, 101, 97, 100, 50]), .lit (.string [119, 114, 105, 116, 101, 50]), .lit (.string [106, 117, 109, 112]), .lit (.string [122, 101, 114, 111]), .lit (.string [108, 101, 115, 115]), .lit (.string [99, 97, 108, 108]), .lit (.string [114, 101, 115, 116])]

/-- 'campanilelaw27.PartPlays': WHATEVER THE INPUT: true; the input reads as it did. -/
def partPlaysSpec : ChangeSpec := { name := "partPlays", fn := fun _ => fun
  | [d1, d2, d3] => { results := [.lit (.bool true)], args := [d1, d2, d3] }
  | _ => none }
def partPlaysRow : OpenClaim := { program := "ythhodadfiipffaadoor", sum := "9ddf9d00159646617334b5f536c1e51df7e29aa38755f3d96f4c577e58b33b8a", func := "campanile/campanilelaw27.PartPlays", spec := "partPlays", named := ["campanile/code.names"], apart := false, laid := [("campanile/code.names", laid_campanile_code_names)] }
def PartPlaysSaid : Prop := partPlaysRow.holds Tryd.pinned (OpenSpec.ofChange partPlaysSpec)

/-- ITS FALSE NEIGHBOUR: 'it returns false'. Refute it at one input. -/
def partPlaysWrong : ChangeSpec := { name := "partPlays", fn := fun _ => fun
  | [d1, d2, d3] => { results := [.lit (.bool false)], args := [d1, d2, d3] }
  | _ => none }
def PartPlaysWrongFalsely : Prop := partPlaysRow.holds Tryd.pinned (OpenSpec.ofChange partPlaysWrong)

/-- 'campanilelaw27.PartStays': WHATEVER THE INPUT: true; the input reads as it did. -/
def partStaysSpec : ChangeSpec := { name := "partStays", fn := fun _ => fun
  | [d1, d2, d3, d4] => { results := [.lit (.bool true)], args := [d1, d2, d3, d4] }
  | _ => none }
def partStaysRow : OpenClaim := { program := "ythhodadfiipffaadoor", sum := "9ddf9d00159646617334b5f536c1e51df7e29aa38755f3d96f4c577e58b33b8a", func := "campanile/campanilelaw27.PartStays", spec := "partStays", named := ["campanile/code.names"], apart := false, laid := [("campanile/code.names", laid_campanile_code_names)] }
def PartStaysSaid : Prop := partStaysRow.holds Tryd.pinned (OpenSpec.ofChange partStaysSpec)

/-- ITS FALSE NEIGHBOUR: 'it returns false'. Refute it at one input. -/
def partStaysWrong : ChangeSpec := { name := "partStays", fn := fun _ => fun
  | [d1, d2, d3, d4] => { results := [.lit (.bool false)], args := [d1, d2, d3, d4] }
  | _ => none }
def PartStaysWrongFalsely : Prop := partStaysRow.holds Tryd.pinned (OpenSpec.ofChange partStaysWrong)

/-- 'campanilelaw27.PartResults': WHATEVER THE INPUT: true; the input reads as it did. -/
def partResultsSpec : ChangeSpec := { name := "partResults", fn := fun _ => fun
  | [d1, d2] => { results := [.lit (.bool true)], args := [d1, d2] }
  | _ => none }
def partResultsRow : OpenClaim := { program := "ythhodadfiipffaadoor", sum := "9ddf9d00159646617334b5f536c1e51df7e29aa38755f3d96f4c577e58b33b8a", func := "campanile/campanilelaw27.PartResults", spec := "partResults", named := ["campanile/code.names"], apart := false, laid := [("campanile/code.names", laid_campanile_code_names)] }
def PartResultsSaid : Prop := partResultsRow.holds Tryd.pinned (OpenSpec.ofChange partResultsSpec)

/-- ITS FALSE NEIGHBOUR: 'it returns false'. Refute it at one input. -/
def partResultsWrong : ChangeSpec := { name := "partResults", fn := fun _ => fun
  | [d1, d2] => { results := [.lit (.bool false)], args := [d1, d2] }
  | _ => none }
def PartResultsWrongFalsely : Prop := partResultsRow.holds Tryd.pinned (OpenSpec.ofChange partResultsWrong)

/-- 'campanilelaw27.PartForks': WHATEVER THE INPUT: true; the input reads as it did. -/
def partForksSpec : ChangeSpec := { name := "partForks", fn := fun _ => fun
  | [d1, d2, d3] => { results := [.lit (.bool true)], args := [d1, d2, d3] }
  | _ => none }
def partForksRow : OpenClaim := { program := "ythhodadfiipffaadoor", sum := "9ddf9d00159646617334b5f536c1e51df7e29aa38755f3d96f4c577e58b33b8a", func := "campanile/campanilelaw27.PartForks", spec := "partForks", named := ["campanile/code.names"], apart := false, laid := [("campanile/code.names", laid_campanile_code_names)] }
def PartForksSaid : Prop := partForksRow.holds Tryd.pinned (OpenSpec.ofChange partForksSpec)

/-- ITS FALSE NEIGHBOUR: 'it returns false'. Refute it at one input. -/
def partForksWrong : ChangeSpec := { name := "partForks", fn := fun _ => fun
  | [d1, d2, d3] => { results := [.lit (.bool false)], args := [d1, d2, d3] }
  | _ => none }
def PartForksWrongFalsely : Prop := partForksRow.holds Tryd.pinned (OpenSpec.ofChange partForksWrong)

/- THE SECOND FORM. 'bulk': how many values and letters a reading holds, each counted each time it is reached (what is shared counts as often as it is met; a slice's spare places count too). A statement '..UptoSaid' is the law's where the arguments, and the package variables that the reading takes, are together of bulk at most 1048576: NARROWER than '..Said'. Prove '..Said' where nothing that the law and all that it calls make is longer than what came in: it says more and counts as full. Else prove '..UptoSaid'. A law counts once. -/
mutual
def uptoBulk {H : Type} : DataW H → Nat
  | .lit (.string bytes) => bytes.length + 1
  | .lit _ => 1
  | .nil => 1
  | .ptr d => uptoBulk d + 1
  | .slice elems spare => uptoBulkAll elems + uptoBulkAll spare + 1
  | .agg parts => uptoBulkAll parts + 1
  | .iface _ d => uptoBulk d + 1
  | .map entries => uptoBulkEntries entries + 1
  | .held _ => 1
def uptoBulkAll {H : Type} : List (DataW H) → Nat
  | [] => 0
  | d :: r => uptoBulk d + uptoBulkAll r
def uptoBulkEntries {H : Type} : List (Lit × DataW H) → Nat
  | [] => 0
  | x :: r => uptoBulkEntry x + uptoBulkEntries r
def uptoBulkEntry {H : Type} : Lit × DataW H → Nat
  | (.string bytes, d) => bytes.length + uptoBulk d + 1
  | (_, d) => uptoBulk d + 1
 end
def uptoSmall : (H : Type) → List (DataW H) → Bool := fun _ ds => decide (uptoBulkAll ds ≤ 1048576)
def OpenSpec.upto (s : _root_.Go.ChangeSpec) : _root_.Go.OpenSpec := { _root_.Go.OpenSpec.ofChange s with cond := some uptoSmall }

/-- 'campanilelaw27.PartPlays', WHERE WHAT IT READS IS OF BULK AT MOST 1048576: true; the input reads as it did. -/
def partPlaysUptoRow : OpenClaim := { program := "ythhodadfiipffaadoor", sum := "9ddf9d00159646617334b5f536c1e51df7e29aa38755f3d96f4c577e58b33b8a", func := "campanile/campanilelaw27.PartPlays", spec := "partPlays", named := ["campanile/code.names"], apart := false, laid := [("campanile/code.names", laid_campanile_code_names)], narrowed := true }
def PartPlaysUptoSaid : Prop := partPlaysUptoRow.holds Tryd.pinned (OpenSpec.upto partPlaysSpec)

/-- 'campanilelaw27.PartStays', WHERE WHAT IT READS IS OF BULK AT MOST 1048576: true; the input reads as it did. -/
def partStaysUptoRow : OpenClaim := { program := "ythhodadfiipffaadoor", sum := "9ddf9d00159646617334b5f536c1e51df7e29aa38755f3d96f4c577e58b33b8a", func := "campanile/campanilelaw27.PartStays", spec := "partStays", named := ["campanile/code.names"], apart := false, laid := [("campanile/code.names", laid_campanile_code_names)], narrowed := true }
def PartStaysUptoSaid : Prop := partStaysUptoRow.holds Tryd.pinned (OpenSpec.upto partStaysSpec)

/-- 'campanilelaw27.PartResults', WHERE WHAT IT READS IS OF BULK AT MOST 1048576: true; the input reads as it did. -/
def partResultsUptoRow : OpenClaim := { program := "ythhodadfiipffaadoor", sum := "9ddf9d00159646617334b5f536c1e51df7e29aa38755f3d96f4c577e58b33b8a", func := "campanile/campanilelaw27.PartResults", spec := "partResults", named := ["campanile/code.names"], apart := false, laid := [("campanile/code.names", laid_campanile_code_names)], narrowed := true }
def PartResultsUptoSaid : Prop := partResultsUptoRow.holds Tryd.pinned (OpenSpec.upto partResultsSpec)

/-- 'campanilelaw27.PartForks', WHERE WHAT IT READS IS OF BULK AT MOST 1048576: true; the input reads as it did. -/
def partForksUptoRow : OpenClaim := { program := "ythhodadfiipffaadoor", sum := "9ddf9d00159646617334b5f536c1e51df7e29aa38755f3d96f4c577e58b33b8a", func := "campanile/campanilelaw27.PartForks", spec := "partForks", named := ["campanile/code.names"], apart := false, laid := [("campanile/code.names", laid_campanile_code_names)], narrowed := true }
def PartForksUptoSaid : Prop := partForksUptoRow.holds Tryd.pinned (OpenSpec.upto partForksSpec)

end Rows
end Go.Proofs.YthhodadfiipffaaDoor
