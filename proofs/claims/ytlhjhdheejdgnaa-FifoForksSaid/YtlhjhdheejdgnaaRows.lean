/-
  No cell of these rows narrows 'for every input' (looked for: loops, veiled, ifaces, maps, wideKeys, modest, calm, conditions, laid).
  DERIVED. THE GIVEN ROWS OF THIS SEAT. 4 by the template 'for every input the law returns true; each argument reads behind the call as it read before'; 0 by the template 'total and deterministic' (their statements: YtlhjhdheejdgnaaTotals.lean).
  GIVEN WITH THE SEED: the statements are not yours to turn. If you find one false, say at which input.
  Laid BY PROGRAM, IN A SANDBOX (cutbox-rows.mjs): the forced cells as the released guide's own fill.sh prints them over the translation 59c629919f296793… (all of the seat's roots in one cut). By AI agents, Wed Nov 11 2026. No macro, syntax, notation, axiom, sorry.
-/
import Derived.Test.YtlhjhdheejdgnaaChecked
import GoSem.Claim
import GoSem.ClaimJoined
import GoSem.ClaimMapViews
import Derived.JoinedTies
import Derived.KernelRfl
namespace Go.Proofs.Ytlhjhdheejdgnaa
/- THE CELL 'sum', in the pinned program and in every row, IS THE sha256 OF THE DUMP (.gsa) THAT YtlhjhdheejdgnaaProg.lean LOADS. Nothing in Lean hashes anything: it is a label: what it is worth is what the hold of that sum in a sandbox is worth. -/
noncomputable def Try.pinned : Pinned := { name := "ytlhjhdheejdgnaa", sum := "59c629919f29679322c8065d3f66e7a0def6445c0890cfd7aea35bbe6798230c", checked := Try.checked }
namespace Rows
def none {H : Type} : Left H := { results := [], args := [] }

/-- 'campanilelaw07.FifoPlays': WHATEVER THE INPUT: true; the input reads as it did. -/
def fifoPlaysSpec : ChangeSpec := { name := "fifoPlays", fn := fun _ => fun
  | [d1, d2] => { results := [.lit (.bool true)], args := [d1, d2] }
  | _ => none }
def fifoPlaysRow : OpenClaim := { program := "ytlhjhdheejdgnaa", sum := "59c629919f29679322c8065d3f66e7a0def6445c0890cfd7aea35bbe6798230c", func := "campanile/campanilelaw07.FifoPlays", spec := "fifoPlays", unfollowed := true, recurses := true, apart := false }
def FifoPlaysSaid : Prop := fifoPlaysRow.holds Try.pinned (OpenSpec.ofChange fifoPlaysSpec)

/-- ITS FALSE NEIGHBOUR: 'it returns false'. Refute it at one input. -/
def fifoPlaysWrong : ChangeSpec := { name := "fifoPlays", fn := fun _ => fun
  | [d1, d2] => { results := [.lit (.bool false)], args := [d1, d2] }
  | _ => none }
def FifoPlaysWrongFalsely : Prop := fifoPlaysRow.holds Try.pinned (OpenSpec.ofChange fifoPlaysWrong)

/-- 'campanilelaw07.FifoCounts': WHATEVER THE INPUT: true; the input reads as it did. -/
def fifoCountsSpec : ChangeSpec := { name := "fifoCounts", fn := fun _ => fun
  | [d1, d2] => { results := [.lit (.bool true)], args := [d1, d2] }
  | _ => none }
def fifoCountsRow : OpenClaim := { program := "ytlhjhdheejdgnaa", sum := "59c629919f29679322c8065d3f66e7a0def6445c0890cfd7aea35bbe6798230c", func := "campanile/campanilelaw07.FifoCounts", spec := "fifoCounts", apart := false }
def FifoCountsSaid : Prop := fifoCountsRow.holds Try.pinned (OpenSpec.ofChange fifoCountsSpec)

/-- ITS FALSE NEIGHBOUR: 'it returns false'. Refute it at one input. -/
def fifoCountsWrong : ChangeSpec := { name := "fifoCounts", fn := fun _ => fun
  | [d1, d2] => { results := [.lit (.bool false)], args := [d1, d2] }
  | _ => none }
def FifoCountsWrongFalsely : Prop := fifoCountsRow.holds Try.pinned (OpenSpec.ofChange fifoCountsWrong)

/-- 'campanilelaw07.FifoForks': WHATEVER THE INPUT: true; the input reads as it did. -/
def fifoForksSpec : ChangeSpec := { name := "fifoForks", fn := fun _ => fun
  | [d1, d2, d3] => { results := [.lit (.bool true)], args := [d1, d2, d3] }
  | _ => none }
def fifoForksRow : OpenClaim := { program := "ytlhjhdheejdgnaa", sum := "59c629919f29679322c8065d3f66e7a0def6445c0890cfd7aea35bbe6798230c", func := "campanile/campanilelaw07.FifoForks", spec := "fifoForks", unfollowed := true, recurses := true, apart := false }
def FifoForksSaid : Prop := fifoForksRow.holds Try.pinned (OpenSpec.ofChange fifoForksSpec)

/-- ITS FALSE NEIGHBOUR: 'it returns false'. Refute it at one input. -/
def fifoForksWrong : ChangeSpec := { name := "fifoForks", fn := fun _ => fun
  | [d1, d2, d3] => { results := [.lit (.bool false)], args := [d1, d2, d3] }
  | _ => none }
def FifoForksWrongFalsely : Prop := fifoForksRow.holds Try.pinned (OpenSpec.ofChange fifoForksWrong)

/-- 'campanilelaw08.CrcSums': WHATEVER THE INPUT: true; the input reads as it did. -/
def crcSumsSpec : ChangeSpec := { name := "crcSums", fn := fun _ => fun
  | [d1, d2] => { results := [.lit (.bool true)], args := [d1, d2] }
  | _ => none }
def crcSumsRow : OpenClaim := { program := "ytlhjhdheejdgnaa", sum := "59c629919f29679322c8065d3f66e7a0def6445c0890cfd7aea35bbe6798230c", func := "campanile/campanilelaw08.CrcSums", spec := "crcSums", apart := false }
def CrcSumsSaid : Prop := crcSumsRow.holds Try.pinned (OpenSpec.ofChange crcSumsSpec)

/-- ITS FALSE NEIGHBOUR: 'it returns false'. Refute it at one input. -/
def crcSumsWrong : ChangeSpec := { name := "crcSums", fn := fun _ => fun
  | [d1, d2] => { results := [.lit (.bool false)], args := [d1, d2] }
  | _ => none }
def CrcSumsWrongFalsely : Prop := crcSumsRow.holds Try.pinned (OpenSpec.ofChange crcSumsWrong)

/- THE SECOND FORM. 'bulk': how many values and letters a reading holds, each counted each time it is reached (what is shared counts as often as it is met; a slice's spare places count too). A statement '..UptoSaid' is the law's where the arguments, and the package variables that the reading takes, are together of bulk at most 1048576: NARROWER than '..Said'. Prove '..Said' where nothing that the law and all that it calls make is longer than what came in: it says more and counts as full. Else prove '..UptoSaid'. A law counts once. -/
mutual
def uptoBulk {H : Type} : DataW H → Nat
  | .lit (.string bytes) => bytes.length + 1
  | .lit _ => 1
  | .nil => 1
  | .ptr d => uptoBulk d + 1
  | .slice elems spare => uptoBulkAll elems + uptoBulkAll spare + 1
  | .agg parts => uptoBulkAll parts + 1
  | .iface _ d => uptoBulk d + 1
  | .map entries => uptoBulkEntries entries + 1
  | .held _ => 1
def uptoBulkAll {H : Type} : List (DataW H) → Nat
  | [] => 0
  | d :: r => uptoBulk d + uptoBulkAll r
def uptoBulkEntries {H : Type} : List (Lit × DataW H) → Nat
  | [] => 0
  | x :: r => uptoBulkEntry x + uptoBulkEntries r
def uptoBulkEntry {H : Type} : Lit × DataW H → Nat
  | (.string bytes, d) => bytes.length + uptoBulk d + 1
  | (_, d) => uptoBulk d + 1
 end
def uptoSmall : (H : Type) → List (DataW H) → Bool := fun _ ds => decide (uptoBulkAll ds ≤ 1048576)
def OpenSpec.upto (s : _root_.Go.ChangeSpec) : _root_.Go.OpenSpec := { _root_.Go.OpenSpec.ofChange s with cond := some uptoSmall }

/-- 'campanilelaw07.FifoPlays', WHERE WHAT IT READS IS OF BULK AT MOST 1048576: true; the input reads as it did. -/
def fifoPlaysUptoRow : OpenClaim := { program := "ytlhjhdheejdgnaa", sum := "59c629919f29679322c8065d3f66e7a0def6445c0890cfd7aea35bbe6798230c", func := "campanile/campanilelaw07.FifoPlays", spec := "fifoPlays", unfollowed := true, recurses := true, apart := false, narrowed := true }
def FifoPlaysUptoSaid : Prop := fifoPlaysUptoRow.holds Try.pinned (OpenSpec.upto fifoPlaysSpec)

/-- 'campanilelaw07.FifoCounts', WHERE WHAT IT READS IS OF BULK AT MOST 1048576: true; the input reads as it did. -/
def fifoCountsUptoRow : OpenClaim := { program := "ytlhjhdheejdgnaa", sum := "59c629919f29679322c8065d3f66e7a0def6445c0890cfd7aea35bbe6798230c", func := "campanile/campanilelaw07.FifoCounts", spec := "fifoCounts", apart := false, narrowed := true }
def FifoCountsUptoSaid : Prop := fifoCountsUptoRow.holds Try.pinned (OpenSpec.upto fifoCountsSpec)

/-- 'campanilelaw07.FifoForks', WHERE WHAT IT READS IS OF BULK AT MOST 1048576: true; the input reads as it did. -/
def fifoForksUptoRow : OpenClaim := { program := "ytlhjhdheejdgnaa", sum := "59c629919f29679322c8065d3f66e7a0def6445c0890cfd7aea35bbe6798230c", func := "campanile/campanilelaw07.FifoForks", spec := "fifoForks", unfollowed := true, recurses := true, apart := false, narrowed := true }
def FifoForksUptoSaid : Prop := fifoForksUptoRow.holds Try.pinned (OpenSpec.upto fifoForksSpec)

/-- 'campanilelaw08.CrcSums', WHERE WHAT IT READS IS OF BULK AT MOST 1048576: true; the input reads as it did. -/
def crcSumsUptoRow : OpenClaim := { program := "ytlhjhdheejdgnaa", sum := "59c629919f29679322c8065d3f66e7a0def6445c0890cfd7aea35bbe6798230c", func := "campanile/campanilelaw08.CrcSums", spec := "crcSums", apart := false, narrowed := true }
def CrcSumsUptoSaid : Prop := crcSumsUptoRow.holds Try.pinned (OpenSpec.upto crcSumsSpec)

end Rows
end Go.Proofs.Ytlhjhdheejdgnaa
