/-
  No cell of these rows narrows 'for every input' (looked for: loops, veiled, ifaces, maps, wideKeys, modest, calm, conditions, laid).
  DERIVED. THE GIVEN ROWS OF THIS SEAT. 3 by the template 'for every input the law returns true; each argument reads behind the call as it read before'; 0 by the template 'total and deterministic' (their statements: YtfhhcpmoaggdmaaGreatTotals.lean).
  GIVEN WITH THE SEED: the statements are not yours to turn. If you find one false, say at which input.
  Laid BY PROGRAM, IN A SANDBOX (cutbox-rows.mjs): the forced cells as the released guide's own fill.sh prints them over the translation 7dda15a839d801a1… (all of the seat's roots in one cut). By AI agents, Wed Nov 11 2026. No macro, syntax, notation, axiom, sorry.
-/
import Derived.Test.YtfhhcpmoaggdmaaGreatChecked
import GoSem.Claim
import GoSem.ClaimJoined
import GoSem.ClaimMapViews
import Derived.JoinedTies
import Derived.KernelRfl
namespace Go.Proofs.YtfhhcpmoaggdmaaGreat
/- THE CELL 'sum', in the pinned program and in every row, IS THE sha256 OF THE DUMP (.gsa) THAT YtfhhcpmoaggdmaaGreatProg.lean LOADS. Nothing in Lean hashes anything: it is a label: what it is worth is what the hold of that sum in a sandbox is worth. -/
noncomputable def Tryz.pinned : Pinned := { name := "ytfhhcpmoaggdmaagreat", sum := "7dda15a839d801a1ecd27d610732f10aed679c9734c08012f195bbbfe2798958", checked := Tryz.checked }
namespace Rows
def none {H : Type} : Left H := { results := [], args := [] }

/-- 'campanilelaw18.PlanRows': WHATEVER THE INPUT: true; the input reads as it did. -/
def planRowsSpec : ChangeSpec := { name := "planRows", fn := fun _ => fun
  | [d1, d2, d3] => { results := [.lit (.bool true)], args := [d1, d2, d3] }
  | _ => none }
def planRowsRow : OpenClaim := { program := "ytfhhcpmoaggdmaagreat", sum := "7dda15a839d801a1ecd27d610732f10aed679c9734c08012f195bbbfe2798958", func := "campanile/campanilelaw18.PlanRows", spec := "planRows", unfollowed := true, recurses := true, apart := false }
def PlanRowsSaid : Prop := planRowsRow.holds Tryz.pinned (OpenSpec.ofChange planRowsSpec)

/-- ITS FALSE NEIGHBOUR: 'it returns false'. Refute it at one input. -/
def planRowsWrong : ChangeSpec := { name := "planRows", fn := fun _ => fun
  | [d1, d2, d3] => { results := [.lit (.bool false)], args := [d1, d2, d3] }
  | _ => none }
def PlanRowsWrongFalsely : Prop := planRowsRow.holds Tryz.pinned (OpenSpec.ofChange planRowsWrong)

/-- 'campanilelaw18.PlanTicks': WHATEVER THE INPUT: true; the input reads as it did. -/
def planTicksSpec : ChangeSpec := { name := "planTicks", fn := fun _ => fun
  | [d1, d2] => { results := [.lit (.bool true)], args := [d1, d2] }
  | _ => none }
def planTicksRow : OpenClaim := { program := "ytfhhcpmoaggdmaagreat", sum := "7dda15a839d801a1ecd27d610732f10aed679c9734c08012f195bbbfe2798958", func := "campanile/campanilelaw18.PlanTicks", spec := "planTicks", unfollowed := true, recurses := true, apart := false }
def PlanTicksSaid : Prop := planTicksRow.holds Tryz.pinned (OpenSpec.ofChange planTicksSpec)

/-- ITS FALSE NEIGHBOUR: 'it returns false'. Refute it at one input. -/
def planTicksWrong : ChangeSpec := { name := "planTicks", fn := fun _ => fun
  | [d1, d2] => { results := [.lit (.bool false)], args := [d1, d2] }
  | _ => none }
def PlanTicksWrongFalsely : Prop := planTicksRow.holds Tryz.pinned (OpenSpec.ofChange planTicksWrong)

/-- 'campanilelaw18.PlanFrames': WHATEVER THE INPUT: true; the input reads as it did. -/
def planFramesSpec : ChangeSpec := { name := "planFrames", fn := fun _ => fun
  | [d1, d2] => { results := [.lit (.bool true)], args := [d1, d2] }
  | _ => none }
def planFramesRow : OpenClaim := { program := "ytfhhcpmoaggdmaagreat", sum := "7dda15a839d801a1ecd27d610732f10aed679c9734c08012f195bbbfe2798958", func := "campanile/campanilelaw18.PlanFrames", spec := "planFrames", unfollowed := true, recurses := true, apart := false }
def PlanFramesSaid : Prop := planFramesRow.holds Tryz.pinned (OpenSpec.ofChange planFramesSpec)

/-- ITS FALSE NEIGHBOUR: 'it returns false'. Refute it at one input. -/
def planFramesWrong : ChangeSpec := { name := "planFrames", fn := fun _ => fun
  | [d1, d2] => { results := [.lit (.bool false)], args := [d1, d2] }
  | _ => none }
def PlanFramesWrongFalsely : Prop := planFramesRow.holds Tryz.pinned (OpenSpec.ofChange planFramesWrong)

/- THE SECOND FORM. 'bulk': how many values and letters a reading holds, each counted each time it is reached (what is shared counts as often as it is met; a slice's spare places count too). A statement '..UptoSaid' is the law's where the arguments, and the package variables that the reading takes, are together of bulk at most 1048576: NARROWER than '..Said'. Prove '..Said' where nothing that the law and all that it calls make is longer than what came in: it says more and counts as full. Else prove '..UptoSaid'. A law counts once. -/
mutual
def uptoBulk {H : Type} : DataW H → Nat
  | .lit (.string bytes) => bytes.length + 1
  | .lit _ => 1
  | .nil => 1
  | .ptr d => uptoBulk d + 1
  | .slice elems spare => uptoBulkAll elems + uptoBulkAll spare + 1
  | .agg parts => uptoBulkAll parts + 1
  | .iface _ d => uptoBulk d + 1
  | .map entries => uptoBulkEntries entries + 1
  | .held _ => 1
def uptoBulkAll {H : Type} : List (DataW H) → Nat
  | [] => 0
  | d :: r => uptoBulk d + uptoBulkAll r
def uptoBulkEntries {H : Type} : List (Lit × DataW H) → Nat
  | [] => 0
  | x :: r => uptoBulkEntry x + uptoBulkEntries r
def uptoBulkEntry {H : Type} : Lit × DataW H → Nat
  | (.string bytes, d) => bytes.length + uptoBulk d + 1
  | (_, d) => uptoBulk d + 1
 end
def uptoSmall : (H : Type) → List (DataW H) → Bool := fun _ ds => decide (uptoBulkAll ds ≤ 1048576)
def OpenSpec.upto (s : _root_.Go.ChangeSpec) : _root_.Go.OpenSpec := { _root_.Go.OpenSpec.ofChange s with cond := some uptoSmall }

/-- 'campanilelaw18.PlanRows', WHERE WHAT IT READS IS OF BULK AT MOST 1048576: true; the input reads as it did. -/
def planRowsUptoRow : OpenClaim := { program := "ytfhhcpmoaggdmaagreat", sum := "7dda15a839d801a1ecd27d610732f10aed679c9734c08012f195bbbfe2798958", func := "campanile/campanilelaw18.PlanRows", spec := "planRows", unfollowed := true, recurses := true, apart := false, narrowed := true }
def PlanRowsUptoSaid : Prop := planRowsUptoRow.holds Tryz.pinned (OpenSpec.upto planRowsSpec)

/-- 'campanilelaw18.PlanTicks', WHERE WHAT IT READS IS OF BULK AT MOST 1048576: true; the input reads as it did. -/
def planTicksUptoRow : OpenClaim := { program := "ytfhhcpmoaggdmaagreat", sum := "7dda15a839d801a1ecd27d610732f10aed679c9734c08012f195bbbfe2798958", func := "campanile/campanilelaw18.PlanTicks", spec := "planTicks", unfollowed := true, recurses := true, apart := false, narrowed := true }
def PlanTicksUptoSaid : Prop := planTicksUptoRow.holds Tryz.pinned (OpenSpec.upto planTicksSpec)

/-- 'campanilelaw18.PlanFrames', WHERE WHAT IT READS IS OF BULK AT MOST 1048576: true; the input reads as it did. -/
def planFramesUptoRow : OpenClaim := { program := "ytfhhcpmoaggdmaagreat", sum := "7dda15a839d801a1ecd27d610732f10aed679c9734c08012f195bbbfe2798958", func := "campanile/campanilelaw18.PlanFrames", spec := "planFrames", unfollowed := true, recurses := true, apart := false, narrowed := true }
def PlanFramesUptoSaid : Prop := planFramesUptoRow.holds Tryz.pinned (OpenSpec.upto planFramesSpec)

end Rows
end Go.Proofs.YtfhhcpmoaggdmaaGreat
