/-
  No cell of these rows narrows 'for every input' (looked for: loops, veiled, ifaces, maps, wideKeys, modest, calm, conditions, laid).
  DERIVED. THE GIVEN ROWS OF THIS SEAT. 3 by the template 'for every input the law returns true; each argument reads behind the call as it read before'; 0 by the template 'total and deterministic' (their statements: YtbbgijjeimjgoaaTotals.lean).
  GIVEN WITH THE SEED: the statements are not yours to turn. If you find one false, say at which input.
  Laid BY PROGRAM, IN A SANDBOX (cutbox-rows.mjs): the forced cells as the released guide's own fill.sh prints them over the translation 50d713f77441fa0a… (all of the seat's roots in one cut). By AI agents, Wed Nov 11 2026. No macro, syntax, notation, axiom, sorry.
-/
import Derived.Test.YtbbgijjeimjgoaaChecked
import GoSem.Claim
import GoSem.ClaimJoined
import GoSem.ClaimMapViews
import Derived.JoinedTies
import Derived.KernelRfl
namespace Go.Proofs.Ytbbgijjeimjgoaa
/- THE CELL 'sum', in the pinned program and in every row, IS THE sha256 OF THE DUMP (.gsa) THAT YtbbgijjeimjgoaaProg.lean LOADS. Nothing in Lean hashes anything: it is a label: what it is worth is what the hold of that sum in a sandbox is worth. -/
noncomputable def Try.pinned : Pinned := { name := "ytbbgijjeimjgoaa", sum := "50d713f77441fa0a7fc35f83af006d308de1afd16372e2f13b78f53b99f38253", checked := Try.checked }
namespace Rows
def none {H : Type} : Left H := { results := [], args := [] }

/-- 'campanilelaw22.LatchPlays': WHATEVER THE INPUT: true; the input reads as it did. -/
def latchPlaysSpec : ChangeSpec := { name := "latchPlays", fn := fun _ => fun
  | [d1, d2] => { results := [.lit (.bool true)], args := [d1, d2] }
  | _ => none }
def latchPlaysRow : OpenClaim := { program := "ytbbgijjeimjgoaa", sum := "50d713f77441fa0a7fc35f83af006d308de1afd16372e2f13b78f53b99f38253", func := "campanile/campanilelaw22.LatchPlays", spec := "latchPlays", apart := false }
def LatchPlaysSaid : Prop := latchPlaysRow.holds Try.pinned (OpenSpec.ofChange latchPlaysSpec)

/-- ITS FALSE NEIGHBOUR: 'it returns false'. Refute it at one input. -/
def latchPlaysWrong : ChangeSpec := { name := "latchPlays", fn := fun _ => fun
  | [d1, d2] => { results := [.lit (.bool false)], args := [d1, d2] }
  | _ => none }
def LatchPlaysWrongFalsely : Prop := latchPlaysRow.holds Try.pinned (OpenSpec.ofChange latchPlaysWrong)

/-- 'campanilelaw22.LatchApart': WHATEVER THE INPUT: true; the input reads as it did. -/
def latchApartSpec : ChangeSpec := { name := "latchApart", fn := fun _ => fun
  | [d1, d2] => { results := [.lit (.bool true)], args := [d1, d2] }
  | _ => none }
def latchApartRow : OpenClaim := { program := "ytbbgijjeimjgoaa", sum := "50d713f77441fa0a7fc35f83af006d308de1afd16372e2f13b78f53b99f38253", func := "campanile/campanilelaw22.LatchApart", spec := "latchApart", apart := false }
def LatchApartSaid : Prop := latchApartRow.holds Try.pinned (OpenSpec.ofChange latchApartSpec)

/-- ITS FALSE NEIGHBOUR: 'it returns false'. Refute it at one input. -/
def latchApartWrong : ChangeSpec := { name := "latchApart", fn := fun _ => fun
  | [d1, d2] => { results := [.lit (.bool false)], args := [d1, d2] }
  | _ => none }
def LatchApartWrongFalsely : Prop := latchApartRow.holds Try.pinned (OpenSpec.ofChange latchApartWrong)

/-- 'campanilelaw22.LatchForks': WHATEVER THE INPUT: true; the input reads as it did. -/
def latchForksSpec : ChangeSpec := { name := "latchForks", fn := fun _ => fun
  | [d1, d2, d3] => { results := [.lit (.bool true)], args := [d1, d2, d3] }
  | _ => none }
def latchForksRow : OpenClaim := { program := "ytbbgijjeimjgoaa", sum := "50d713f77441fa0a7fc35f83af006d308de1afd16372e2f13b78f53b99f38253", func := "campanile/campanilelaw22.LatchForks", spec := "latchForks", apart := false }
def LatchForksSaid : Prop := latchForksRow.holds Try.pinned (OpenSpec.ofChange latchForksSpec)

/-- ITS FALSE NEIGHBOUR: 'it returns false'. Refute it at one input. -/
def latchForksWrong : ChangeSpec := { name := "latchForks", fn := fun _ => fun
  | [d1, d2, d3] => { results := [.lit (.bool false)], args := [d1, d2, d3] }
  | _ => none }
def LatchForksWrongFalsely : Prop := latchForksRow.holds Try.pinned (OpenSpec.ofChange latchForksWrong)

/- THE SECOND FORM. 'bulk': how many values and letters a reading holds, each counted each time it is reached (what is shared counts as often as it is met; a slice's spare places count too). A statement '..UptoSaid' is the law's where the arguments, and the package variables that the reading takes, are together of bulk at most 1048576: NARROWER than '..Said'. Prove '..Said' where nothing that the law and all that it calls make is longer than what came in: it says more and counts as full. Else prove '..UptoSaid'. A law counts once. -/
mutual
def uptoBulk {H : Type} : DataW H → Nat
  | .lit (.string bytes) => bytes.length + 1
  | .lit _ => 1
  | .nil => 1
  | .ptr d => uptoBulk d + 1
  | .slice elems spare => uptoBulkAll elems + uptoBulkAll spare + 1
  | .agg parts => uptoBulkAll parts + 1
  | .iface _ d => uptoBulk d + 1
  | .map entries => uptoBulkEntries entries + 1
  | .held _ => 1
def uptoBulkAll {H : Type} : List (DataW H) → Nat
  | [] => 0
  | d :: r => uptoBulk d + uptoBulkAll r
def uptoBulkEntries {H : Type} : List (Lit × DataW H) → Nat
  | [] => 0
  | x :: r => uptoBulkEntry x + uptoBulkEntries r
def uptoBulkEntry {H : Type} : Lit × DataW H → Nat
  | (.string bytes, d) => bytes.length + uptoBulk d + 1
  | (_, d) => uptoBulk d + 1
 end
def uptoSmall : (H : Type) → List (DataW H) → Bool := fun _ ds => decide (uptoBulkAll ds ≤ 1048576)
def OpenSpec.upto (s : _root_.Go.ChangeSpec) : _root_.Go.OpenSpec := { _root_.Go.OpenSpec.ofChange s with cond := some uptoSmall }

/-- 'campanilelaw22.LatchPlays', WHERE WHAT IT READS IS OF BULK AT MOST 1048576: true; the input reads as it did. -/
def latchPlaysUptoRow : OpenClaim := { program := "ytbbgijjeimjgoaa", sum := "50d713f77441fa0a7fc35f83af006d308de1afd16372e2f13b78f53b99f38253", func := "campanile/campanilelaw22.LatchPlays", spec := "latchPlays", apart := false, narrowed := true }
def LatchPlaysUptoSaid : Prop := latchPlaysUptoRow.holds Try.pinned (OpenSpec.upto latchPlaysSpec)

/-- 'campanilelaw22.LatchApart', WHERE WHAT IT READS IS OF BULK AT MOST 1048576: true; the input reads as it did. -/
def latchApartUptoRow : OpenClaim := { program := "ytbbgijjeimjgoaa", sum := "50d713f77441fa0a7fc35f83af006d308de1afd16372e2f13b78f53b99f38253", func := "campanile/campanilelaw22.LatchApart", spec := "latchApart", apart := false, narrowed := true }
def LatchApartUptoSaid : Prop := latchApartUptoRow.holds Try.pinned (OpenSpec.upto latchApartSpec)

/-- 'campanilelaw22.LatchForks', WHERE WHAT IT READS IS OF BULK AT MOST 1048576: true; the input reads as it did. -/
def latchForksUptoRow : OpenClaim := { program := "ytbbgijjeimjgoaa", sum := "50d713f77441fa0a7fc35f83af006d308de1afd16372e2f13b78f53b99f38253", func := "campanile/campanilelaw22.LatchForks", spec := "latchForks", apart := false, narrowed := true }
def LatchForksUptoSaid : Prop := latchForksUptoRow.holds Try.pinned (OpenSpec.upto latchForksSpec)

end Rows
end Go.Proofs.Ytbbgijjeimjgoaa
