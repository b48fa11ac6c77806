/-
  No cell of these rows narrows 'for every input' (looked for: loops, veiled, ifaces, maps, wideKeys, modest, calm, conditions, laid).
  DERIVED. THE GIVEN ROWS OF THIS SEAT. 5 by the template 'for every input the law returns true; each argument reads behind the call as it read before'; 0 by the template 'total and deterministic' (their statements: YtecpplaobbkemaaTotals.lean).
  GIVEN WITH THE SEED: the statements are not yours to turn. If you find one false, say at which input.
  Laid BY PROGRAM, IN A SANDBOX (cutbox-rows.mjs): the forced cells as the released guide's own fill.sh prints them over the translation 1696f9bd4175bf8c… (all of the seat's roots in one cut). By AI agents, Wed Nov 11 2026. No macro, syntax, notation, axiom, sorry.
-/
import Derived.Test.YtecpplaobbkemaaChecked
import GoSem.Claim
import GoSem.ClaimJoined
import GoSem.ClaimMapViews
import Derived.JoinedTies
import Derived.KernelRfl
namespace Go.Proofs.Ytecpplaobbkemaa
/- THE CELL 'sum', in the pinned program and in every row, IS THE sha256 OF THE DUMP (.gsa) THAT YtecpplaobbkemaaProg.lean LOADS. Nothing in Lean hashes anything: it is a label: what it is worth is what the hold of that sum in a sandbox is worth. -/
noncomputable def Try.pinned : Pinned := { name := "ytecpplaobbkemaa", sum := "1696f9bd4175bf8c234f892f0ead72ace835f04197288264ece3f4a195c84a70", checked := Try.checked }
namespace Rows
def none {H : Type} : Left H := { results := [], args := [] }

/-- 'campanilelaw17.SlotTables': WHATEVER THE INPUT: true; the input reads as it did. -/
def slotTablesSpec : ChangeSpec := { name := "slotTables", fn := fun _ => fun
  | [d1, d2] => { results := [.lit (.bool true)], args := [d1, d2] }
  | _ => none }
def slotTablesRow : OpenClaim := { program := "ytecpplaobbkemaa", sum := "1696f9bd4175bf8c234f892f0ead72ace835f04197288264ece3f4a195c84a70", func := "campanile/campanilelaw17.SlotTables", spec := "slotTables", unfollowed := true, recurses := true, apart := false }
def SlotTablesSaid : Prop := slotTablesRow.holds Try.pinned (OpenSpec.ofChange slotTablesSpec)

/-- ITS FALSE NEIGHBOUR: 'it returns false'. Refute it at one input. -/
def slotTablesWrong : ChangeSpec := { name := "slotTables", fn := fun _ => fun
  | [d1, d2] => { results := [.lit (.bool false)], args := [d1, d2] }
  | _ => none }
def SlotTablesWrongFalsely : Prop := slotTablesRow.holds Try.pinned (OpenSpec.ofChange slotTablesWrong)

/-- 'campanilelaw17.SlotSteps': WHATEVER THE INPUT: true; the input reads as it did. -/
def slotStepsSpec : ChangeSpec := { name := "slotSteps", fn := fun _ => fun
  | [d1, d2, d3] => { results := [.lit (.bool true)], args := [d1, d2, d3] }
  | _ => none }
def slotStepsRow : OpenClaim := { program := "ytecpplaobbkemaa", sum := "1696f9bd4175bf8c234f892f0ead72ace835f04197288264ece3f4a195c84a70", func := "campanile/campanilelaw17.SlotSteps", spec := "slotSteps", unfollowed := true, recurses := true, apart := false }
def SlotStepsSaid : Prop := slotStepsRow.holds Try.pinned (OpenSpec.ofChange slotStepsSpec)

/-- ITS FALSE NEIGHBOUR: 'it returns false'. Refute it at one input. -/
def slotStepsWrong : ChangeSpec := { name := "slotSteps", fn := fun _ => fun
  | [d1, d2, d3] => { results := [.lit (.bool false)], args := [d1, d2, d3] }
  | _ => none }
def SlotStepsWrongFalsely : Prop := slotStepsRow.holds Try.pinned (OpenSpec.ofChange slotStepsWrong)

/-- 'campanilelaw17.SlotStarts': WHATEVER THE INPUT: true; the input reads as it did. -/
def slotStartsSpec : ChangeSpec := { name := "slotStarts", fn := fun _ => fun
  | [d1, d2, d3, d4] => { results := [.lit (.bool true)], args := [d1, d2, d3, d4] }
  | _ => none }
def slotStartsRow : OpenClaim := { program := "ytecpplaobbkemaa", sum := "1696f9bd4175bf8c234f892f0ead72ace835f04197288264ece3f4a195c84a70", func := "campanile/campanilelaw17.SlotStarts", spec := "slotStarts", unfollowed := true, recurses := true, apart := false }
def SlotStartsSaid : Prop := slotStartsRow.holds Try.pinned (OpenSpec.ofChange slotStartsSpec)

/-- ITS FALSE NEIGHBOUR: 'it returns false'. Refute it at one input. -/
def slotStartsWrong : ChangeSpec := { name := "slotStarts", fn := fun _ => fun
  | [d1, d2, d3, d4] => { results := [.lit (.bool false)], args := [d1, d2, d3, d4] }
  | _ => none }
def SlotStartsWrongFalsely : Prop := slotStartsRow.holds Try.pinned (OpenSpec.ofChange slotStartsWrong)

/-- 'campanilelaw17.SlotFrames': WHATEVER THE INPUT: true; the input reads as it did. -/
def slotFramesSpec : ChangeSpec := { name := "slotFrames", fn := fun _ => fun
  | [d1, d2, d3, d4] => { results := [.lit (.bool true)], args := [d1, d2, d3, d4] }
  | _ => none }
def slotFramesRow : OpenClaim := { program := "ytecpplaobbkemaa", sum := "1696f9bd4175bf8c234f892f0ead72ace835f04197288264ece3f4a195c84a70", func := "campanile/campanilelaw17.SlotFrames", spec := "slotFrames", unfollowed := true, recurses := true, apart := false }
def SlotFramesSaid : Prop := slotFramesRow.holds Try.pinned (OpenSpec.ofChange slotFramesSpec)

/-- ITS FALSE NEIGHBOUR: 'it returns false'. Refute it at one input. -/
def slotFramesWrong : ChangeSpec := { name := "slotFrames", fn := fun _ => fun
  | [d1, d2, d3, d4] => { results := [.lit (.bool false)], args := [d1, d2, d3, d4] }
  | _ => none }
def SlotFramesWrongFalsely : Prop := slotFramesRow.holds Try.pinned (OpenSpec.ofChange slotFramesWrong)

/-- 'campanilelaw17.SlotNil': WHATEVER THE INPUT: true; the input reads as it did. -/
def slotNilSpec : ChangeSpec := { name := "slotNil", fn := fun _ => fun
  | [d1, d2] => { results := [.lit (.bool true)], args := [d1, d2] }
  | _ => none }
def slotNilRow : OpenClaim := { program := "ytecpplaobbkemaa", sum := "1696f9bd4175bf8c234f892f0ead72ace835f04197288264ece3f4a195c84a70", func := "campanile/campanilelaw17.SlotNil", spec := "slotNil", unfollowed := true, recurses := true, apart := false }
def SlotNilSaid : Prop := slotNilRow.holds Try.pinned (OpenSpec.ofChange slotNilSpec)

/-- ITS FALSE NEIGHBOUR: 'it returns false'. Refute it at one input. -/
def slotNilWrong : ChangeSpec := { name := "slotNil", fn := fun _ => fun
  | [d1, d2] => { results := [.lit (.bool false)], args := [d1, d2] }
  | _ => none }
def SlotNilWrongFalsely : Prop := slotNilRow.holds Try.pinned (OpenSpec.ofChange slotNilWrong)

/- THE SECOND FORM. 'bulk': how many values and letters a reading holds, each counted each time it is reached (what is shared counts as often as it is met; a slice's spare places count too). A statement '..UptoSaid' is the law's where the arguments, and the package variables that the reading takes, are together of bulk at most 1048576: NARROWER than '..Said'. Prove '..Said' where nothing that the law and all that it calls make is longer than what came in: it says more and counts as full. Else prove '..UptoSaid'. A law counts once. -/
mutual
def uptoBulk {H : Type} : DataW H → Nat
  | .lit (.string bytes) => bytes.length + 1
  | .lit _ => 1
  | .nil => 1
  | .ptr d => uptoBulk d + 1
  | .slice elems spare => uptoBulkAll elems + uptoBulkAll spare + 1
  | .agg parts => uptoBulkAll parts + 1
  | .iface _ d => uptoBulk d + 1
  | .map entries => uptoBulkEntries entries + 1
  | .held _ => 1
def uptoBulkAll {H : Type} : List (DataW H) → Nat
  | [] => 0
  | d :: r => uptoBulk d + uptoBulkAll r
def uptoBulkEntries {H : Type} : List (Lit × DataW H) → Nat
  | [] => 0
  | x :: r => uptoBulkEntry x + uptoBulkEntries r
def uptoBulkEntry {H : Type} : Lit × DataW H → Nat
  | (.string bytes, d) => bytes.length + uptoBulk d + 1
  | (_, d) => uptoBulk d + 1
 end
def uptoSmall : (H : Type) → List (DataW H) → Bool := fun _ ds => decide (uptoBulkAll ds ≤ 1048576)
def OpenSpec.upto (s : _root_.Go.ChangeSpec) : _root_.Go.OpenSpec := { _root_.Go.OpenSpec.ofChange s with cond := some uptoSmall }

/-- 'campanilelaw17.SlotTables', WHERE WHAT IT READS IS OF BULK AT MOST 1048576: true; the input reads as it did. -/
def slotTablesUptoRow : OpenClaim := { program := "ytecpplaobbkemaa", sum := "1696f9bd4175bf8c234f892f0ead72ace835f04197288264ece3f4a195c84a70", func := "campanile/campanilelaw17.SlotTables", spec := "slotTables", unfollowed := true, recurses := true, apart := false, narrowed := true }
def SlotTablesUptoSaid : Prop := slotTablesUptoRow.holds Try.pinned (OpenSpec.upto slotTablesSpec)

/-- 'campanilelaw17.SlotSteps', WHERE WHAT IT READS IS OF BULK AT MOST 1048576: true; the input reads as it did. -/
def slotStepsUptoRow : OpenClaim := { program := "ytecpplaobbkemaa", sum := "1696f9bd4175bf8c234f892f0ead72ace835f04197288264ece3f4a195c84a70", func := "campanile/campanilelaw17.SlotSteps", spec := "slotSteps", unfollowed := true, recurses := true, apart := false, narrowed := true }
def SlotStepsUptoSaid : Prop := slotStepsUptoRow.holds Try.pinned (OpenSpec.upto slotStepsSpec)

/-- 'campanilelaw17.SlotStarts', WHERE WHAT IT READS IS OF BULK AT MOST 1048576: true; the input reads as it did. -/
def slotStartsUptoRow : OpenClaim := { program := "ytecpplaobbkemaa", sum := "1696f9bd4175bf8c234f892f0ead72ace835f04197288264ece3f4a195c84a70", func := "campanile/campanilelaw17.SlotStarts", spec := "slotStarts", unfollowed := true, recurses := true, apart := false, narrowed := true }
def SlotStartsUptoSaid : Prop := slotStartsUptoRow.holds Try.pinned (OpenSpec.upto slotStartsSpec)

/-- 'campanilelaw17.SlotFrames', WHERE WHAT IT READS IS OF BULK AT MOST 1048576: true; the input reads as it did. -/
def slotFramesUptoRow : OpenClaim := { program := "ytecpplaobbkemaa", sum := "1696f9bd4175bf8c234f892f0ead72ace835f04197288264ece3f4a195c84a70", func := "campanile/campanilelaw17.SlotFrames", spec := "slotFrames", unfollowed := true, recurses := true, apart := false, narrowed := true }
def SlotFramesUptoSaid : Prop := slotFramesUptoRow.holds Try.pinned (OpenSpec.upto slotFramesSpec)

/-- 'campanilelaw17.SlotNil', WHERE WHAT IT READS IS OF BULK AT MOST 1048576: true; the input reads as it did. -/
def slotNilUptoRow : OpenClaim := { program := "ytecpplaobbkemaa", sum := "1696f9bd4175bf8c234f892f0ead72ace835f04197288264ece3f4a195c84a70", func := "campanile/campanilelaw17.SlotNil", spec := "slotNil", unfollowed := true, recurses := true, apart := false, narrowed := true }
def SlotNilUptoSaid : Prop := slotNilUptoRow.holds Try.pinned (OpenSpec.upto slotNilSpec)

end Rows
end Go.Proofs.Ytecpplaobbkemaa
