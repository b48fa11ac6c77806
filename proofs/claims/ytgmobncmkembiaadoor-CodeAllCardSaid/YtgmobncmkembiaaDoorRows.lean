/-
  NARROWER THAN 'FOR EVERY INPUT', by the rows' own cells (each row's printed sentence says how): CodePuts: laid · CodeGets: laid · CodeAll: laid · CodeNames: laid.
  DERIVED. THE GIVEN ROWS OF THIS SEAT. 4 by the template 'for every input the law returns true; each argument reads behind the call as it read before'; 0 by the template 'total and deterministic' (their statements: YtgmobncmkembiaaDoorTotals.lean).
  GIVEN WITH THE SEED: the statements are not yours to turn. If you find one false, say at which input.
  Laid BY PROGRAM, IN A SANDBOX (cutbox-rows.mjs): the forced cells as the released guide's own fill.sh prints them over the translation 7ce4ac0be8ddd279… (all of the seat's roots in one cut). By AI agents, Wed Nov 11 2026. No macro, syntax, notation, axiom, sorry.
-/
import Derived.Test.YtgmobncmkembiaaDoorChecked
import GoSem.Claim
import GoSem.ClaimJoined
import GoSem.ClaimMapViews
import Derived.JoinedTies
import Derived.KernelRfl
namespace Go.Proofs.YtgmobncmkembiaaDoor
/- THE CELL 'sum', in the pinned program and in every row, IS THE sha256 OF THE DUMP (.gsa) THAT YtgmobncmkembiaaDoorProg.lean LOADS. Nothing in Lean hashes anything: it is a label: what it is worth is what the hold of that sum in a sandbox is worth. -/
noncomputable def Tryd.pinned : Pinned := { name := "ytgmobncmkembiaadoor", sum := "7ce4ac0be8ddd279c2c13cd6054c137b2baadfd89ab15524d680a60151ce9a82", checked := Tryd.checked }
namespace Rows
def none {H : Type} : Left H := { results := [], args := [] }

/- WHAT THE LISTED PACKAGE-LEVEL VARIABLES READ AS WHEN THE CALL BEGINS. Each datum BY PROGRAM (the guide's laid-datum.mjs) off the statement by which the dump's own 'gosem.cut.vars' lays the variable. In a bare row this is a premise. The card (YtgmobncmkembiaaDoorCards.lean) ties it to the program's text. -/
def laid_campanile_code_names {H : Type} : DataW H := .agg [.lit (.string [115, 116, 111, 112]), .lit (.string [115, 101, 116]), .lit (.string [109, 111, 118, 101]), .lit (.string [97, 100, 100]), .lit (.string [115, 117, 98]), .lit (.string [97, 110, 100]), .lit (.string [120, 111, 114]), .lit (.string [114, 101, 97, 100]), .lit (.string [119, 114, 105, 116, 101]), .lit (.string [114, 101, 97, 100, 50]), .lit (.string [119, 114, 105, 116, 101, 50]), .lit (.string [106, 117, 109, 112]), .lit (.string [122, 101, 114, 111]), .lit (.string [108, 101, 115, 115]), .lit (.string [99, 97, 108, 108]), .lit (.string [114, 101, 115, 116])]

/-- 'campanilelaw19.CodePuts': WHATEVER THE INPUT: true; the input reads as it did. -/
def codePutsSpec : ChangeSpec := { name := "codePuts", fn := fun _ => fun
  | [d] => { results := [.lit (.bool true)], args := [d] }
  | _ => none }
def codePutsRow : OpenClaim := { program := "ytgmobncmkembiaadoor", sum := "7ce4ac0be8ddd279c2c13cd6054c137b2baadfd89ab15524d680a60151ce9a82", func := "campanile/campanilelaw19.CodePuts", spec := "codePuts", named := ["campanile/code.names"], apart := false, laid := [("campanile/code.names", laid_campanile_code_names)] }
def CodePutsSaid : Prop := codePutsRow.holds Tryd.pinned (OpenSpec.ofChange codePutsSpec)

/-- ITS FALSE NEIGHBOUR: 'it returns false'. Refute it at one input. -/
def codePutsWrong : ChangeSpec := { name := "codePuts", fn := fun _ => fun
  | [d] => { results := [.lit (.bool false)], args := [d] }
  | _ => none }
def CodePutsWrongFalsely : Prop := codePutsRow.holds Tryd.pinned (OpenSpec.ofChange codePutsWrong)

/-- 'campanilelaw19.CodeGets': WHATEVER THE INPUT: true; the input reads as it did. -/
def codeGetsSpec : ChangeSpec := { name := "codeGets", fn := fun _ => fun
  | [d] => { results := [.lit (.bool true)], args := [d] }
  | _ => none }
def codeGetsRow : OpenClaim := { program := "ytgmobncmkembiaadoor", sum := "7ce4ac0be8ddd279c2c13cd6054c137b2baadfd89ab15524d680a60151ce9a82", func := "campanile/campanilelaw19.CodeGets", spec := "codeGets", named := ["campanile/code.names"], apart := false, laid := [("campanile/code.names", laid_campanile_code_names)] }
def CodeGetsSaid : Prop := codeGetsRow.holds Tryd.pinned (OpenSpec.ofChange codeGetsSpec)

/-- ITS FALSE NEIGHBOUR: 'it returns false'. Refute it at one input. -/
def codeGetsWrong : ChangeSpec := { name := "codeGets", fn := fun _ => fun
  | [d] => { results := [.lit (.bool false)], args := [d] }
  | _ => none }
def CodeGetsWrongFalsely : Prop := codeGetsRow.holds Tryd.pinned (OpenSpec.ofChange codeGetsWrong)

/-- 'campanilelaw19.CodeAll': WHATEVER THE INPUT: true; the input reads as it did. -/
def codeAllSpec : ChangeSpec := { name := "codeAll", fn := fun _ => fun
  | [d] => { results := [.lit (.bool true)], args := [d] }
  | _ => none }
def codeAllRow : OpenClaim := { program := "ytgmobncmkembiaadoor", sum := "7ce4ac0be8ddd279c2c13cd6054c137b2baadfd89ab15524d680a60151ce9a82", func := "campanile/campanilelaw19.CodeAll", spec := "codeAll", named := ["campanile/code.names"], apart := false, laid := [("campanile/code.names", laid_campanile_code_names)] }
def CodeAllSaid : Prop := codeAllRow.holds Tryd.pinned (OpenSpec.ofChange codeAllSpec)

/-- ITS FALSE NEIGHBOUR: 'it returns false'. Refute it at one input. -/
def codeAllWrong : ChangeSpec := { name := "codeAll", fn := fun _ => fun
  | [d] => { results := [.lit (.bool false)], args := [d] }
  | _ => none }
def CodeAllWrongFalsely : Prop := codeAllRow.holds Tryd.pinned (OpenSpec.ofChange codeAllWrong)

/-- 'campanilelaw19.CodeNames': WHATEVER THE INPUT: true; the input reads as it did. -/
def codeNamesSpec : ChangeSpec := { name := "codeNames", fn := fun _ => fun
  | [d1, d2, d3] => { results := [.lit (.bool true)], args := [d1, d2, d3] }
  | _ => none }
def codeNamesRow : OpenClaim := { program := "ytgmobncmkembiaadoor", sum := "7ce4ac0be8ddd279c2c13cd6054c137b2baadfd89ab15524d680a60151ce9a82", func := "campanile/campanilelaw19.CodeNames", spec := "codeNames", named := ["campanile/code.names"], apart := false, laid := [("campanile/code.names", laid_campanile_code_names)] }
def CodeNamesSaid : Prop := codeNamesRow.holds Tryd.pinned (OpenSpec.ofChange codeNamesSpec)

/-- ITS FALSE NEIGHBOUR: 'it returns false'. Refute it at one input. -/
def codeNamesWrong : ChangeSpec := { name := "codeNames", fn := fun _ => fun
  | [d1, d2, d3] => { results := [.lit (.bool false)], args := [d1, d2, d3] }
  | _ => none }
def CodeNamesWrongFalsely : Prop := codeNamesRow.holds Tryd.pinned (OpenSpec.ofChange codeNamesWrong)

/- THE SECOND FORM. 'bulk': how many values and letters a reading holds, each counted each time it is reached (what is shared counts as often as it is met; a slice's spare places count too). A statement '..UptoSaid' is the law's where the arguments, and the package variables that the reading takes, are together of bulk at most 1048576: NARROWER than '..Said'. Prove '..Said' where nothing that the law and all that it calls make is longer than what came in: it says more and counts as full. Else prove '..UptoSaid'. A law counts once. -/
mutual
def uptoBulk {H : Type} : DataW H → Nat
  | .lit (.string bytes) => bytes.length + 1
  | .lit _ => 1
  | .nil => 1
  | .ptr d => uptoBulk d + 1
  | .slice elems spare => uptoBulkAll elems + uptoBulkAll spare + 1
  | .agg parts => uptoBulkAll parts + 1
  | .iface _ d => uptoBulk d + 1
  | .map entries => uptoBulkEntries entries + 1
  | .held _ => 1
def uptoBulkAll {H : Type} : List (DataW H) → Nat
  | [] => 0
  | d :: r => uptoBulk d + uptoBulkAll r
def uptoBulkEntries {H : Type} : List (Lit × DataW H) → Nat
  | [] => 0
  | x :: r => uptoBulkEntry x + uptoBulkEntries r
def uptoBulkEntry {H : Type} : Lit × DataW H → Nat
  | (.string bytes, d) => bytes.length + uptoBulk d + 1
  | (_, d) => uptoBulk d + 1
 end
def uptoSmall : (H : Type) → List (DataW H) → Bool := fun _ ds => decide (uptoBulkAll ds ≤ 1048576)
def OpenSpec.upto (s : _root_.Go.ChangeSpec) : _root_.Go.OpenSpec := { _root_.Go.OpenSpec.ofChange s with cond := some uptoSmall }

/-- 'campanilelaw19.CodePuts', WHERE WHAT IT READS IS OF BULK AT MOST 1048576: true; the input reads as it did. -/
def codePutsUptoRow : OpenClaim := { program := "ytgmobncmkembiaadoor", sum := "7ce4ac0be8ddd279c2c13cd6054c137b2baadfd89ab15524d680a60151ce9a82", func := "campanile/campanilelaw19.CodePuts", spec := "codePuts", named := ["campanile/code.names"], apart := false, laid := [("campanile/code.names", laid_campanile_code_names)], narrowed := true }
def CodePutsUptoSaid : Prop := codePutsUptoRow.holds Tryd.pinned (OpenSpec.upto codePutsSpec)

/-- 'campanilelaw19.CodeGets', WHERE WHAT IT READS IS OF BULK AT MOST 1048576: true; the input reads as it did. -/
def codeGetsUptoRow : OpenClaim := { program := "ytgmobncmkembiaadoor", sum := "7ce4ac0be8ddd279c2c13cd6054c137b2baadfd89ab15524d680a60151ce9a82", func := "campanile/campanilelaw19.CodeGets", spec := "codeGets", named := ["campanile/code.names"], apart := false, laid := [("campanile/code.names", laid_campanile_code_names)], narrowed := true }
def CodeGetsUptoSaid : Prop := codeGetsUptoRow.holds Tryd.pinned (OpenSpec.upto codeGetsSpec)

/-- 'campanilelaw19.CodeAll', WHERE WHAT IT READS IS OF BULK AT MOST 1048576: true; the input reads as it did. -/
def codeAllUptoRow : OpenClaim := { program := "ytgmobncmkembiaadoor", sum := "7ce4ac0be8ddd279c2c13cd6054c137b2baadfd89ab15524d680a60151ce9a82", func := "campanile/campanilelaw19.CodeAll", spec := "codeAll", named := ["campanile/code.names"], apart := false, laid := [("campanile/code.names", laid_campanile_code_names)], narrowed := true }
def CodeAllUptoSaid : Prop := codeAllUptoRow.holds Tryd.pinned (OpenSpec.upto codeAllSpec)

/-- 'campanilelaw19.CodeNames', WHERE WHAT IT READS IS OF BULK AT MOST 1048576: true; the input reads as it did. -/
def codeNamesUptoRow : OpenClaim := { program := "ytgmobncmkembiaadoor", sum := "7ce4ac0be8ddd279c2c13cd6054c137b2baadfd89ab15524d680a60151ce9a82", func := "campanile/campanilelaw19.CodeNames", spec := "codeNames", named := ["campanile/code.names"], apart := false, laid := [("campanile/code.names", laid_campanile_code_names)], narrowed := true }
def CodeNamesUptoSaid : Prop := codeNamesUptoRow.holds Tryd.pinned (OpenSpec.upto codeNamesSpec)

end Rows
end Go.Proofs.YtgmobncmkembiaaDoor
