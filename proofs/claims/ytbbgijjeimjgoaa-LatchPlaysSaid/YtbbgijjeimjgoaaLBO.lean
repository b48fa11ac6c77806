/- LatchPlays, as its last text calls it. -/
import Derived.Test.YtbbgijjeimjgoaaLB6
import Derived.Test.YtbbgijjeimjgoaaLAO
namespace Go.Proofs.Ytbbgijjeimjgoaa
open Go.RowKit Go.Lib
theorem latchplays_run (x : Int) (A : Option Addr) (n cp : Nat) (d : Nat → Lt.Ded) (w : World) (hx : fitI x) (hd : Lt.DedL w A n d) (hf : ∀ i, i < n → Lt.Fit (d i)) (hn : n ≤ cp) (hc : cp ≤ 9223372036854775807) : Calls Try.prog 3 #[.int .i64 x, .slice A n cp] w fun e w' => e = .returned (.bool true) ∧ Below w.heap.size w w' :=
  latchplays_walk x A n cp d w hd (by omega)
end Go.Proofs.Ytbbgijjeimjgoaa
