/- Is a place in one of some spans: the contract of the document's In. Are they small: that of its Small. -/
import Derived.Test.YthneljkaieckeaaU4
import Derived.Test.YthneljkaieckeaaV0
namespace Go.Proofs.Ythneljkaieckeaa
open Go.RowKit Go.Lib Go.Sort
set_option linter.unusedVariables false

/-- What Small says. -/
def SmallV (n : Nat) (d : Nat → Int × Int) (w : World) (e : Ending) (w' : World) : Prop :=
  ∃ r : Bool, e = .returned (.bool r) ∧ (r = true → n ≤ 30 ∧ ∀ i, i < n → (d i).2 ≤ 300) ∧ Below w.heap.size w w'
end Go.Proofs.Ythneljkaieckeaa
