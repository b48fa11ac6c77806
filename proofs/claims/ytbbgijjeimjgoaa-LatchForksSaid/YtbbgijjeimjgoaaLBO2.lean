/- LatchForks, as its last text calls it. -/
import Derived.Test.YtbbgijjeimjgoaaLB8
import Derived.Test.YtbbgijjeimjgoaaLAO
namespace Go.Proofs.Ytbbgijjeimjgoaa
open Go.RowKit Go.Lib
theorem latchforks_run (x : Int) (A : Option Addr) (n cp : Nat) (d : Nat → Lt.Ded) (B : Option Addr) (n2 cp2 : Nat) (d2 : Nat → Lt.Ded) (w : World) (hx : fitI x) (hd : Lt.DedL w A n d) (hf : ∀ i, i < n → Lt.Fit (d i)) (hn : n ≤ cp) (hc : cp ≤ 9223372036854775807) (hd2 : Lt.DedL w B n2 d2) (hf2 : ∀ i, i < n2 → Lt.Fit (d2 i)) (hn2 : n2 ≤ cp2) (hc2 : cp2 ≤ 9223372036854775807) : Calls Try.prog 5 #[.int .i64 x, .slice A n cp, .slice B n2 cp2] w fun e w' => e = .returned (.bool true) ∧ Below w.heap.size w w' :=
  latchforks_walk x A n cp d B n2 cp2 d2 w hd (by omega) hd2 (by omega)
end Go.Proofs.Ytbbgijjeimjgoaa
