/- The library's insertion sort at spans: its contract. -/
import Derived.Test.YtgkegmkedkgkcaaS1
import Derived.BigRegion
import Derived.Lib.QuietBelow
namespace Go.Proofs.Ytgkegmkedkgkcaa
open Go.RowKit Go.Lib Go.Sort
set_option linter.unusedVariables false

/-- The row from a on, up to b, has been put in order. -/
def SortsTo (g n cap a b : Nat) (d : Nat → Int × Int) (w w' : World) : Prop := ∃ d', So.Perm a b d d' ∧ So.Sorted d' a b ∧ RowS w' g n cap d' ∧ w.grownBy w' (some g)

end Go.Proofs.Ytgkegmkedkgkcaa
