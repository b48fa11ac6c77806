/- The merge in place, and the stable sort: their contracts. -/
import Derived.Test.YthneljkaieckeaaT5b
namespace Go.Proofs.Ythneljkaieckeaa
open Go.RowKit Go.Lib Go.Sort
set_option linter.unusedVariables false

/-- In blocks of s, up to p, the row stands in order; behind p, up to n, in blocks of t. -/
def Blocks (d : Nat → Int × Int) (s p t n : Nat) : Prop := (∀ c, s * c + s ≤ p → So.Sorted d (s * c) (s * c + s)) ∧ (∀ c, p ≤ t * c → t * c < n → So.Sorted d (t * c) (min (t * c + t) n))

end Go.Proofs.Ythneljkaieckeaa
