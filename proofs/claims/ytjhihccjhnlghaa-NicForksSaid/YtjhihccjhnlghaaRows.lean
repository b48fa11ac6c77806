/-
  No cell of these rows narrows 'for every input' (looked for: loops, veiled, ifaces, maps, wideKeys, modest, calm, conditions, laid).
  DERIVED. THE GIVEN ROWS OF THIS SEAT. 4 by the template 'for every input the law returns true; each argument reads behind the call as it read before'; 0 by the template 'total and deterministic' (their statements: YtjhihccjhnlghaaTotals.lean).
  GIVEN WITH THE SEED: the statements are not yours to turn. If you find one false, say at which input.
  Laid BY PROGRAM, IN A SANDBOX (cutbox-rows.mjs): the forced cells as the released guide's own fill.sh prints them over the translation be8c6f1f29f44830… (all of the seat's roots in one cut). By AI agents, Wed Nov 11 2026. No macro, syntax, notation, axiom, sorry.
-/
import Derived.Test.YtjhihccjhnlghaaChecked
import GoSem.Claim
import GoSem.ClaimJoined
import GoSem.ClaimMapViews
import Derived.JoinedTies
import Derived.KernelRfl
namespace Go.Proofs.Ytjhihccjhnlghaa
/- THE CELL 'sum', in the pinned program and in every row, IS THE sha256 OF THE DUMP (.gsa) THAT YtjhihccjhnlghaaProg.lean LOADS. Nothing in Lean hashes anything: it is a label: what it is worth is what the hold of that sum in a sandbox is worth. -/
noncomputable def Try.pinned : Pinned := { name := "ytjhihccjhnlghaa", sum := "be8c6f1f29f448309dc9442d47e4f9d8582e2b59827574ab9e6b85d3ef913dd8", checked := Try.checked }
namespace Rows
def none {H : Type} : Left H := { results := [], args := [] }

/-- 'campanilelaw13.NicPlays': WHATEVER THE INPUT: true; the input reads as it did. -/
def nicPlaysSpec : ChangeSpec := { name := "nicPlays", fn := fun _ => fun
  | [d1, d2] => { results := [.lit (.bool true)], args := [d1, d2] }
  | _ => none }
def nicPlaysRow : OpenClaim := { program := "ytjhihccjhnlghaa", sum := "be8c6f1f29f448309dc9442d47e4f9d8582e2b59827574ab9e6b85d3ef913dd8", func := "campanile/campanilelaw13.NicPlays", spec := "nicPlays", apart := false }
def NicPlaysSaid : Prop := nicPlaysRow.holds Try.pinned (OpenSpec.ofChange nicPlaysSpec)

/-- ITS FALSE NEIGHBOUR: 'it returns false'. Refute it at one input. -/
def nicPlaysWrong : ChangeSpec := { name := "nicPlays", fn := fun _ => fun
  | [d1, d2] => { results := [.lit (.bool false)], args := [d1, d2] }
  | _ => none }
def NicPlaysWrongFalsely : Prop := nicPlaysRow.holds Try.pinned (OpenSpec.ofChange nicPlaysWrong)

/-- 'campanilelaw13.NicApart': WHATEVER THE INPUT: true; the input reads as it did. -/
def nicApartSpec : ChangeSpec := { name := "nicApart", fn := fun _ => fun
  | [d1, d2, d3] => { results := [.lit (.bool true)], args := [d1, d2, d3] }
  | _ => none }
def nicApartRow : OpenClaim := { program := "ytjhihccjhnlghaa", sum := "be8c6f1f29f448309dc9442d47e4f9d8582e2b59827574ab9e6b85d3ef913dd8", func := "campanile/campanilelaw13.NicApart", spec := "nicApart", apart := false }
def NicApartSaid : Prop := nicApartRow.holds Try.pinned (OpenSpec.ofChange nicApartSpec)

/-- ITS FALSE NEIGHBOUR: 'it returns false'. Refute it at one input. -/
def nicApartWrong : ChangeSpec := { name := "nicApart", fn := fun _ => fun
  | [d1, d2, d3] => { results := [.lit (.bool false)], args := [d1, d2, d3] }
  | _ => none }
def NicApartWrongFalsely : Prop := nicApartRow.holds Try.pinned (OpenSpec.ofChange nicApartWrong)

/-- 'campanilelaw13.NicBack': WHATEVER THE INPUT: true; the input reads as it did. -/
def nicBackSpec : ChangeSpec := { name := "nicBack", fn := fun _ => fun
  | [d1, d2, d3, d4] => { results := [.lit (.bool true)], args := [d1, d2, d3, d4] }
  | _ => none }
def nicBackRow : OpenClaim := { program := "ytjhihccjhnlghaa", sum := "be8c6f1f29f448309dc9442d47e4f9d8582e2b59827574ab9e6b85d3ef913dd8", func := "campanile/campanilelaw13.NicBack", spec := "nicBack", apart := false }
def NicBackSaid : Prop := nicBackRow.holds Try.pinned (OpenSpec.ofChange nicBackSpec)

/-- ITS FALSE NEIGHBOUR: 'it returns false'. Refute it at one input. -/
def nicBackWrong : ChangeSpec := { name := "nicBack", fn := fun _ => fun
  | [d1, d2, d3, d4] => { results := [.lit (.bool false)], args := [d1, d2, d3, d4] }
  | _ => none }
def NicBackWrongFalsely : Prop := nicBackRow.holds Try.pinned (OpenSpec.ofChange nicBackWrong)

/-- 'campanilelaw13.NicForks': WHATEVER THE INPUT: true; the input reads as it did. -/
def nicForksSpec : ChangeSpec := { name := "nicForks", fn := fun _ => fun
  | [d1, d2, d3] => { results := [.lit (.bool true)], args := [d1, d2, d3] }
  | _ => none }
def nicForksRow : OpenClaim := { program := "ytjhihccjhnlghaa", sum := "be8c6f1f29f448309dc9442d47e4f9d8582e2b59827574ab9e6b85d3ef913dd8", func := "campanile/campanilelaw13.NicForks", spec := "nicForks", apart := false }
def NicForksSaid : Prop := nicForksRow.holds Try.pinned (OpenSpec.ofChange nicForksSpec)

/-- ITS FALSE NEIGHBOUR: 'it returns false'. Refute it at one input. -/
def nicForksWrong : ChangeSpec := { name := "nicForks", fn := fun _ => fun
  | [d1, d2, d3] => { results := [.lit (.bool false)], args := [d1, d2, d3] }
  | _ => none }
def NicForksWrongFalsely : Prop := nicForksRow.holds Try.pinned (OpenSpec.ofChange nicForksWrong)

/- THE SECOND FORM. 'bulk': how many values and letters a reading holds, each counted each time it is reached (what is shared counts as often as it is met; a slice's spare places count too). A statement '..UptoSaid' is the law's where the arguments, and the package variables that the reading takes, are together of bulk at most 1048576: NARROWER than '..Said'. Prove '..Said' where nothing that the law and all that it calls make is longer than what came in: it says more and counts as full. Else prove '..UptoSaid'. A law counts once. -/
mutual
def uptoBulk {H : Type} : DataW H → Nat
  | .lit (.string bytes) => bytes.length + 1
  | .lit _ => 1
  | .nil => 1
  | .ptr d => uptoBulk d + 1
  | .slice elems spare => uptoBulkAll elems + uptoBulkAll spare + 1
  | .agg parts => uptoBulkAll parts + 1
  | .iface _ d => uptoBulk d + 1
  | .map entries => uptoBulkEntries entries + 1
  | .held _ => 1
def uptoBulkAll {H : Type} : List (DataW H) → Nat
  | [] => 0
  | d :: r => uptoBulk d + uptoBulkAll r
def uptoBulkEntries {H : Type} : List (Lit × DataW H) → Nat
  | [] => 0
  | x :: r => uptoBulkEntry x + uptoBulkEntries r
def uptoBulkEntry {H : Type} : Lit × DataW H → Nat
  | (.string bytes, d) => bytes.length + uptoBulk d + 1
  | (_, d) => uptoBulk d + 1
 end
def uptoSmall : (H : Type) → List (DataW H) → Bool := fun _ ds => decide (uptoBulkAll ds ≤ 1048576)
def OpenSpec.upto (s : _root_.Go.ChangeSpec) : _root_.Go.OpenSpec := { _root_.Go.OpenSpec.ofChange s with cond := some uptoSmall }

/-- 'campanilelaw13.NicPlays', WHERE WHAT IT READS IS OF BULK AT MOST 1048576: true; the input reads as it did. -/
def nicPlaysUptoRow : OpenClaim := { program := "ytjhihccjhnlghaa", sum := "be8c6f1f29f448309dc9442d47e4f9d8582e2b59827574ab9e6b85d3ef913dd8", func := "campanile/campanilelaw13.NicPlays", spec := "nicPlays", apart := false, narrowed := true }
def NicPlaysUptoSaid : Prop := nicPlaysUptoRow.holds Try.pinned (OpenSpec.upto nicPlaysSpec)

/-- 'campanilelaw13.NicApart', WHERE WHAT IT READS IS OF BULK AT MOST 1048576: true; the input reads as it did. -/
def nicApartUptoRow : OpenClaim := { program := "ytjhihccjhnlghaa", sum := "be8c6f1f29f448309dc9442d47e4f9d8582e2b59827574ab9e6b85d3ef913dd8", func := "campanile/campanilelaw13.NicApart", spec := "nicApart", apart := false, narrowed := true }
def NicApartUptoSaid : Prop := nicApartUptoRow.holds Try.pinned (OpenSpec.upto nicApartSpec)

/-- 'campanilelaw13.NicBack', WHERE WHAT IT READS IS OF BULK AT MOST 1048576: true; the input reads as it did. -/
def nicBackUptoRow : OpenClaim := { program := "ytjhihccjhnlghaa", sum := "be8c6f1f29f448309dc9442d47e4f9d8582e2b59827574ab9e6b85d3ef913dd8", func := "campanile/campanilelaw13.NicBack", spec := "nicBack", apart := false, narrowed := true }
def NicBackUptoSaid : Prop := nicBackUptoRow.holds Try.pinned (OpenSpec.upto nicBackSpec)

/-- 'campanilelaw13.NicForks', WHERE WHAT IT READS IS OF BULK AT MOST 1048576: true; the input reads as it did. -/
def nicForksUptoRow : OpenClaim := { program := "ytjhihccjhnlghaa", sum := "be8c6f1f29f448309dc9442d47e4f9d8582e2b59827574ab9e6b85d3ef913dd8", func := "campanile/campanilelaw13.NicForks", spec := "nicForks", apart := false, narrowed := true }
def NicForksUptoSaid : Prop := nicForksUptoRow.holds Try.pinned (OpenSpec.upto nicForksSpec)

end Rows
end Go.Proofs.Ytjhihccjhnlghaa
