/-
  No cell of these rows narrows 'for every input' (looked for: loops, veiled, ifaces, maps, wideKeys, modest, calm, conditions, laid).
  DERIVED. THE GIVEN ROWS OF THIS SEAT. 4 by the template 'for every input the law returns true; each argument reads behind the call as it read before'; 0 by the template 'total and deterministic' (their statements: YtldhggaghhjebaaTotals.lean).
  GIVEN WITH THE SEED: the statements are not yours to turn. If you find one false, say at which input.
  Laid BY PROGRAM, IN A SANDBOX (cutbox-rows.mjs): the forced cells as the released guide's own fill.sh prints them over the translation 7bc49677a2c556f3… (all of the seat's roots in one cut). By AI agents, Wed Nov 11 2026. No macro, syntax, notation, axiom, sorry.
-/
import Derived.Test.YtldhggaghhjebaaChecked
import GoSem.Claim
import GoSem.ClaimJoined
import GoSem.ClaimMapViews
import Derived.JoinedTies
import Derived.KernelRfl
namespace Go.Proofs.Ytldhggaghhjebaa
/- THE CELL 'sum', in the pinned program and in every row, IS THE sha256 OF THE DUMP (.gsa) THAT YtldhggaghhjebaaProg.lean LOADS. Nothing in Lean hashes anything: it is a label: what it is worth is what the hold of that sum in a sandbox is worth. -/
noncomputable def Try.pinned : Pinned := { name := "ytldhggaghhjebaa", sum := "7bc49677a2c556f38022622771b1055824471946fb80ab19c5e82e7e525616cb", checked := Try.checked }
namespace Rows
def none {H : Type} : Left H := { results := [], args := [] }

/-- 'campanilelaw24.DescBytes': WHATEVER THE INPUT: true; the input reads as it did. -/
def descBytesSpec : ChangeSpec := { name := "descBytes", fn := fun _ => fun
  | [d] => { results := [.lit (.bool true)], args := [d] }
  | _ => none }
def descBytesRow : OpenClaim := { program := "ytldhggaghhjebaa", sum := "7bc49677a2c556f38022622771b1055824471946fb80ab19c5e82e7e525616cb", func := "campanile/campanilelaw24.DescBytes", spec := "descBytes", apart := false }
def DescBytesSaid : Prop := descBytesRow.holds Try.pinned (OpenSpec.ofChange descBytesSpec)

/-- ITS FALSE NEIGHBOUR: 'it returns false'. Refute it at one input. -/
def descBytesWrong : ChangeSpec := { name := "descBytes", fn := fun _ => fun
  | [d] => { results := [.lit (.bool false)], args := [d] }
  | _ => none }
def DescBytesWrongFalsely : Prop := descBytesRow.holds Try.pinned (OpenSpec.ofChange descBytesWrong)

/-- 'campanilelaw24.DescParses': WHATEVER THE INPUT: true; the input reads as it did. -/
def descParsesSpec : ChangeSpec := { name := "descParses", fn := fun _ => fun
  | [d] => { results := [.lit (.bool true)], args := [d] }
  | _ => none }
def descParsesRow : OpenClaim := { program := "ytldhggaghhjebaa", sum := "7bc49677a2c556f38022622771b1055824471946fb80ab19c5e82e7e525616cb", func := "campanile/campanilelaw24.DescParses", spec := "descParses", apart := false }
def DescParsesSaid : Prop := descParsesRow.holds Try.pinned (OpenSpec.ofChange descParsesSpec)

/-- ITS FALSE NEIGHBOUR: 'it returns false'. Refute it at one input. -/
def descParsesWrong : ChangeSpec := { name := "descParses", fn := fun _ => fun
  | [d] => { results := [.lit (.bool false)], args := [d] }
  | _ => none }
def DescParsesWrongFalsely : Prop := descParsesRow.holds Try.pinned (OpenSpec.ofChange descParsesWrong)

/-- 'campanilelaw24.DescChecks': WHATEVER THE INPUT: true; the input reads as it did. -/
def descChecksSpec : ChangeSpec := { name := "descChecks", fn := fun _ => fun
  | [d1, d2, d3, d4] => { results := [.lit (.bool true)], args := [d1, d2, d3, d4] }
  | _ => none }
def descChecksRow : OpenClaim := { program := "ytldhggaghhjebaa", sum := "7bc49677a2c556f38022622771b1055824471946fb80ab19c5e82e7e525616cb", func := "campanile/campanilelaw24.DescChecks", spec := "descChecks", apart := false }
def DescChecksSaid : Prop := descChecksRow.holds Try.pinned (OpenSpec.ofChange descChecksSpec)

/-- ITS FALSE NEIGHBOUR: 'it returns false'. Refute it at one input. -/
def descChecksWrong : ChangeSpec := { name := "descChecks", fn := fun _ => fun
  | [d1, d2, d3, d4] => { results := [.lit (.bool false)], args := [d1, d2, d3, d4] }
  | _ => none }
def DescChecksWrongFalsely : Prop := descChecksRow.holds Try.pinned (OpenSpec.ofChange descChecksWrong)

/-- 'campanilelaw24.DescStays': WHATEVER THE INPUT: true; the input reads as it did. -/
def descStaysSpec : ChangeSpec := { name := "descStays", fn := fun _ => fun
  | [d1, d2] => { results := [.lit (.bool true)], args := [d1, d2] }
  | _ => none }
def descStaysRow : OpenClaim := { program := "ytldhggaghhjebaa", sum := "7bc49677a2c556f38022622771b1055824471946fb80ab19c5e82e7e525616cb", func := "campanile/campanilelaw24.DescStays", spec := "descStays", apart := false }
def DescStaysSaid : Prop := descStaysRow.holds Try.pinned (OpenSpec.ofChange descStaysSpec)

/-- ITS FALSE NEIGHBOUR: 'it returns false'. Refute it at one input. -/
def descStaysWrong : ChangeSpec := { name := "descStays", fn := fun _ => fun
  | [d1, d2] => { results := [.lit (.bool false)], args := [d1, d2] }
  | _ => none }
def DescStaysWrongFalsely : Prop := descStaysRow.holds Try.pinned (OpenSpec.ofChange descStaysWrong)

/- THE SECOND FORM. 'bulk': how many values and letters a reading holds, each counted each time it is reached (what is shared counts as often as it is met; a slice's spare places count too). A statement '..UptoSaid' is the law's where the arguments, and the package variables that the reading takes, are together of bulk at most 1048576: NARROWER than '..Said'. Prove '..Said' where nothing that the law and all that it calls make is longer than what came in: it says more and counts as full. Else prove '..UptoSaid'. A law counts once. -/
mutual
def uptoBulk {H : Type} : DataW H → Nat
  | .lit (.string bytes) => bytes.length + 1
  | .lit _ => 1
  | .nil => 1
  | .ptr d => uptoBulk d + 1
  | .slice elems spare => uptoBulkAll elems + uptoBulkAll spare + 1
  | .agg parts => uptoBulkAll parts + 1
  | .iface _ d => uptoBulk d + 1
  | .map entries => uptoBulkEntries entries + 1
  | .held _ => 1
def uptoBulkAll {H : Type} : List (DataW H) → Nat
  | [] => 0
  | d :: r => uptoBulk d + uptoBulkAll r
def uptoBulkEntries {H : Type} : List (Lit × DataW H) → Nat
  | [] => 0
  | x :: r => uptoBulkEntry x + uptoBulkEntries r
def uptoBulkEntry {H : Type} : Lit × DataW H → Nat
  | (.string bytes, d) => bytes.length + uptoBulk d + 1
  | (_, d) => uptoBulk d + 1
 end
def uptoSmall : (H : Type) → List (DataW H) → Bool := fun _ ds => decide (uptoBulkAll ds ≤ 1048576)
def OpenSpec.upto (s : _root_.Go.ChangeSpec) : _root_.Go.OpenSpec := { _root_.Go.OpenSpec.ofChange s with cond := some uptoSmall }

/-- 'campanilelaw24.DescBytes', WHERE WHAT IT READS IS OF BULK AT MOST 1048576: true; the input reads as it did. -/
def descBytesUptoRow : OpenClaim := { program := "ytldhggaghhjebaa", sum := "7bc49677a2c556f38022622771b1055824471946fb80ab19c5e82e7e525616cb", func := "campanile/campanilelaw24.DescBytes", spec := "descBytes", apart := false, narrowed := true }
def DescBytesUptoSaid : Prop := descBytesUptoRow.holds Try.pinned (OpenSpec.upto descBytesSpec)

/-- 'campanilelaw24.DescParses', WHERE WHAT IT READS IS OF BULK AT MOST 1048576: true; the input reads as it did. -/
def descParsesUptoRow : OpenClaim := { program := "ytldhggaghhjebaa", sum := "7bc49677a2c556f38022622771b1055824471946fb80ab19c5e82e7e525616cb", func := "campanile/campanilelaw24.DescParses", spec := "descParses", apart := false, narrowed := true }
def DescParsesUptoSaid : Prop := descParsesUptoRow.holds Try.pinned (OpenSpec.upto descParsesSpec)

/-- 'campanilelaw24.DescChecks', WHERE WHAT IT READS IS OF BULK AT MOST 1048576: true; the input reads as it did. -/
def descChecksUptoRow : OpenClaim := { program := "ytldhggaghhjebaa", sum := "7bc49677a2c556f38022622771b1055824471946fb80ab19c5e82e7e525616cb", func := "campanile/campanilelaw24.DescChecks", spec := "descChecks", apart := false, narrowed := true }
def DescChecksUptoSaid : Prop := descChecksUptoRow.holds Try.pinned (OpenSpec.upto descChecksSpec)

/-- 'campanilelaw24.DescStays', WHERE WHAT IT READS IS OF BULK AT MOST 1048576: true; the input reads as it did. -/
def descStaysUptoRow : OpenClaim := { program := "ytldhggaghhjebaa", sum := "7bc49677a2c556f38022622771b1055824471946fb80ab19c5e82e7e525616cb", func := "campanile/campanilelaw24.DescStays", spec := "descStays", apart := false, narrowed := true }
def DescStaysUptoSaid : Prop := descStaysUptoRow.holds Try.pinned (OpenSpec.upto descStaysSpec)

end Rows
end Go.Proofs.Ytldhggaghhjebaa
