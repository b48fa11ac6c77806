/- The document's order of spans, place by place: its contract. -/
import Derived.Test.YthneljkaieckeaaT7
import Derived.Test.YthneljkaieckeaaS5
namespace Go.Proofs.Ythneljkaieckeaa
open Go.RowKit Go.Lib Go.Sort
set_option linter.unusedVariables false

def ltB (a b : Int × Int) : Bool := decide (a.1 < b.1) || (decide (a.1 = b.1) && decide (a.2 < b.2))
theorem ltB_iff (a b : Int × Int) : ltB a b = true ↔ So.lt a b := by simp [ltB, So.lt]
end Go.Proofs.Ythneljkaieckeaa
