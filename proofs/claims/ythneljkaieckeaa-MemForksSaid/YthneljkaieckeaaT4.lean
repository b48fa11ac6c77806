/- The merge in place: its contract, where the second part is one span. -/
import Derived.Test.YthneljkaieckeaaT3
namespace Go.Proofs.Ythneljkaieckeaa
open Go.RowKit Go.Lib Go.Sort
set_option linter.unusedVariables false

end Go.Proofs.Ythneljkaieckeaa
