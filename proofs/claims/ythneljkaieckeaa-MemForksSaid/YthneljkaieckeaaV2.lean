/- Do two of some spans meet, and are all spans that do not: the contracts of someMeet and Apart. -/
import Derived.Test.YthneljkaieckeaaV1
namespace Go.Proofs.Ythneljkaieckeaa
open Go.RowKit Go.Lib Go.Sort
set_option linter.unusedVariables false

/-- What someMeet says: no only if the sorted spans lie one behind the other. -/
def FarV (n : Nat) (d : Nat → Int × Int) (w : World) (e : Ending) (w' : World) : Prop :=
  ∃ (r : Bool) (d' : Nat → Int × Int), e = .returned (.bool r) ∧ So.Perm 0 n d d' ∧ So.Sorted d' 0 n ∧ (r = false → ∀ i j, i < j → j < n → isS (d' i) → isS (d' j) → (d' i).2 ≤ (d' j).1) ∧ Below w.heap.size w w'

end Go.Proofs.Ythneljkaieckeaa
