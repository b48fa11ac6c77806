/-
  No cell of these rows narrows 'for every input' (looked for: loops, veiled, ifaces, maps, wideKeys, modest, calm, conditions, laid).
  DERIVED. THE GIVEN ROWS OF THIS SEAT. 4 by the template 'for every input the law returns true; each argument reads behind the call as it read before'; 0 by the template 'total and deterministic' (their statements: YthlapnljinkekaaTotals.lean).
  GIVEN WITH THE SEED: the statements are not yours to turn. If you find one false, say at which input.
  Laid BY PROGRAM, IN A SANDBOX (cutbox-rows.mjs): the forced cells as the released guide's own fill.sh prints them over the translation bb84751d4a1de080… (all of the seat's roots in one cut). By AI agents, Wed Nov 11 2026. No macro, syntax, notation, axiom, sorry.
-/
import Derived.Test.YthlapnljinkekaaChecked
import GoSem.Claim
import GoSem.ClaimJoined
import GoSem.ClaimMapViews
import Derived.JoinedTies
import Derived.KernelRfl
namespace Go.Proofs.Ythlapnljinkekaa
/- THE CELL 'sum', in the pinned program and in every row, IS THE sha256 OF THE DUMP (.gsa) THAT YthlapnljinkekaaProg.lean LOADS. Nothing in Lean hashes anything: it is a label: what it is worth is what the hold of that sum in a sandbox is worth. -/
noncomputable def Try.pinned : Pinned := { name := "ythlapnljinkekaa", sum := "bb84751d4a1de0809b84ebb3e03137da70eacb88b3f35351f661fb99b40313bd", checked := Try.checked }
namespace Rows
def none {H : Type} : Left H := { results := [], args := [] }

/-- 'campanilelaw05.RegionRows': WHATEVER THE INPUT: true; the input reads as it did. -/
def regionRowsSpec : ChangeSpec := { name := "regionRows", fn := fun _ => fun
  | [d1, d2] => { results := [.lit (.bool true)], args := [d1, d2] }
  | _ => none }
def regionRowsRow : OpenClaim := { program := "ythlapnljinkekaa", sum := "bb84751d4a1de0809b84ebb3e03137da70eacb88b3f35351f661fb99b40313bd", func := "campanile/campanilelaw05.RegionRows", spec := "regionRows", unfollowed := true, recurses := true, apart := false }
def RegionRowsSaid : Prop := regionRowsRow.holds Try.pinned (OpenSpec.ofChange regionRowsSpec)

/-- ITS FALSE NEIGHBOUR: 'it returns false'. Refute it at one input. -/
def regionRowsWrong : ChangeSpec := { name := "regionRows", fn := fun _ => fun
  | [d1, d2] => { results := [.lit (.bool false)], args := [d1, d2] }
  | _ => none }
def RegionRowsWrongFalsely : Prop := regionRowsRow.holds Try.pinned (OpenSpec.ofChange regionRowsWrong)

/-- 'campanilelaw05.RegionMaps': WHATEVER THE INPUT: true; the input reads as it did. -/
def regionMapsSpec : ChangeSpec := { name := "regionMaps", fn := fun _ => fun
  | [d1, d2, d3, d4] => { results := [.lit (.bool true)], args := [d1, d2, d3, d4] }
  | _ => none }
def regionMapsRow : OpenClaim := { program := "ythlapnljinkekaa", sum := "bb84751d4a1de0809b84ebb3e03137da70eacb88b3f35351f661fb99b40313bd", func := "campanile/campanilelaw05.RegionMaps", spec := "regionMaps", unfollowed := true, recurses := true, apart := false }
def RegionMapsSaid : Prop := regionMapsRow.holds Try.pinned (OpenSpec.ofChange regionMapsSpec)

/-- ITS FALSE NEIGHBOUR: 'it returns false'. Refute it at one input. -/
def regionMapsWrong : ChangeSpec := { name := "regionMaps", fn := fun _ => fun
  | [d1, d2, d3, d4] => { results := [.lit (.bool false)], args := [d1, d2, d3, d4] }
  | _ => none }
def RegionMapsWrongFalsely : Prop := regionMapsRow.holds Try.pinned (OpenSpec.ofChange regionMapsWrong)

/-- 'campanilelaw05.RegionBacks': WHATEVER THE INPUT: true; the input reads as it did. -/
def regionBacksSpec : ChangeSpec := { name := "regionBacks", fn := fun _ => fun
  | [d1, d2] => { results := [.lit (.bool true)], args := [d1, d2] }
  | _ => none }
def regionBacksRow : OpenClaim := { program := "ythlapnljinkekaa", sum := "bb84751d4a1de0809b84ebb3e03137da70eacb88b3f35351f661fb99b40313bd", func := "campanile/campanilelaw05.RegionBacks", spec := "regionBacks", unfollowed := true, recurses := true, apart := false }
def RegionBacksSaid : Prop := regionBacksRow.holds Try.pinned (OpenSpec.ofChange regionBacksSpec)

/-- ITS FALSE NEIGHBOUR: 'it returns false'. Refute it at one input. -/
def regionBacksWrong : ChangeSpec := { name := "regionBacks", fn := fun _ => fun
  | [d1, d2] => { results := [.lit (.bool false)], args := [d1, d2] }
  | _ => none }
def RegionBacksWrongFalsely : Prop := regionBacksRow.holds Try.pinned (OpenSpec.ofChange regionBacksWrong)

/-- 'campanilelaw05.RegionNil': WHATEVER THE INPUT: true; the input reads as it did. -/
def regionNilSpec : ChangeSpec := { name := "regionNil", fn := fun _ => fun
  | [d1, d2, d3] => { results := [.lit (.bool true)], args := [d1, d2, d3] }
  | _ => none }
def regionNilRow : OpenClaim := { program := "ythlapnljinkekaa", sum := "bb84751d4a1de0809b84ebb3e03137da70eacb88b3f35351f661fb99b40313bd", func := "campanile/campanilelaw05.RegionNil", spec := "regionNil", unfollowed := true, recurses := true, apart := false }
def RegionNilSaid : Prop := regionNilRow.holds Try.pinned (OpenSpec.ofChange regionNilSpec)

/-- ITS FALSE NEIGHBOUR: 'it returns false'. Refute it at one input. -/
def regionNilWrong : ChangeSpec := { name := "regionNil", fn := fun _ => fun
  | [d1, d2, d3] => { results := [.lit (.bool false)], args := [d1, d2, d3] }
  | _ => none }
def RegionNilWrongFalsely : Prop := regionNilRow.holds Try.pinned (OpenSpec.ofChange regionNilWrong)

/- THE SECOND FORM. 'bulk': how many values and letters a reading holds, each counted each time it is reached (what is shared counts as often as it is met; a slice's spare places count too). A statement '..UptoSaid' is the law's where the arguments, and the package variables that the reading takes, are together of bulk at most 1048576: NARROWER than '..Said'. Prove '..Said' where nothing that the law and all that it calls make is longer than what came in: it says more and counts as full. Else prove '..UptoSaid'. A law counts once. -/
mutual
def uptoBulk {H : Type} : DataW H → Nat
  | .lit (.string bytes) => bytes.length + 1
  | .lit _ => 1
  | .nil => 1
  | .ptr d => uptoBulk d + 1
  | .slice elems spare => uptoBulkAll elems + uptoBulkAll spare + 1
  | .agg parts => uptoBulkAll parts + 1
  | .iface _ d => uptoBulk d + 1
  | .map entries => uptoBulkEntries entries + 1
  | .held _ => 1
def uptoBulkAll {H : Type} : List (DataW H) → Nat
  | [] => 0
  | d :: r => uptoBulk d + uptoBulkAll r
def uptoBulkEntries {H : Type} : List (Lit × DataW H) → Nat
  | [] => 0
  | x :: r => uptoBulkEntry x + uptoBulkEntries r
def uptoBulkEntry {H : Type} : Lit × DataW H → Nat
  | (.string bytes, d) => bytes.length + uptoBulk d + 1
  | (_, d) => uptoBulk d + 1
 end
def uptoSmall : (H : Type) → List (DataW H) → Bool := fun _ ds => decide (uptoBulkAll ds ≤ 1048576)
def OpenSpec.upto (s : _root_.Go.ChangeSpec) : _root_.Go.OpenSpec := { _root_.Go.OpenSpec.ofChange s with cond := some uptoSmall }

/-- 'campanilelaw05.RegionRows', WHERE WHAT IT READS IS OF BULK AT MOST 1048576: true; the input reads as it did. -/
def regionRowsUptoRow : OpenClaim := { program := "ythlapnljinkekaa", sum := "bb84751d4a1de0809b84ebb3e03137da70eacb88b3f35351f661fb99b40313bd", func := "campanile/campanilelaw05.RegionRows", spec := "regionRows", unfollowed := true, recurses := true, apart := false, narrowed := true }
def RegionRowsUptoSaid : Prop := regionRowsUptoRow.holds Try.pinned (OpenSpec.upto regionRowsSpec)

/-- 'campanilelaw05.RegionMaps', WHERE WHAT IT READS IS OF BULK AT MOST 1048576: true; the input reads as it did. -/
def regionMapsUptoRow : OpenClaim := { program := "ythlapnljinkekaa", sum := "bb84751d4a1de0809b84ebb3e03137da70eacb88b3f35351f661fb99b40313bd", func := "campanile/campanilelaw05.RegionMaps", spec := "regionMaps", unfollowed := true, recurses := true, apart := false, narrowed := true }
def RegionMapsUptoSaid : Prop := regionMapsUptoRow.holds Try.pinned (OpenSpec.upto regionMapsSpec)

/-- 'campanilelaw05.RegionBacks', WHERE WHAT IT READS IS OF BULK AT MOST 1048576: true; the input reads as it did. -/
def regionBacksUptoRow : OpenClaim := { program := "ythlapnljinkekaa", sum := "bb84751d4a1de0809b84ebb3e03137da70eacb88b3f35351f661fb99b40313bd", func := "campanile/campanilelaw05.RegionBacks", spec := "regionBacks", unfollowed := true, recurses := true, apart := false, narrowed := true }
def RegionBacksUptoSaid : Prop := regionBacksUptoRow.holds Try.pinned (OpenSpec.upto regionBacksSpec)

/-- 'campanilelaw05.RegionNil', WHERE WHAT IT READS IS OF BULK AT MOST 1048576: true; the input reads as it did. -/
def regionNilUptoRow : OpenClaim := { program := "ythlapnljinkekaa", sum := "bb84751d4a1de0809b84ebb3e03137da70eacb88b3f35351f661fb99b40313bd", func := "campanile/campanilelaw05.RegionNil", spec := "regionNil", unfollowed := true, recurses := true, apart := false, narrowed := true }
def RegionNilUptoSaid : Prop := regionNilUptoRow.holds Try.pinned (OpenSpec.upto regionNilSpec)

end Rows
end Go.Proofs.Ythlapnljinkekaa
