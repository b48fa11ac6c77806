/- The merge in place: its contract, where one part is one span. -/
import Derived.Test.YthneljkaieckeaaT2
namespace Go.Proofs.Ythneljkaieckeaa
open Go.RowKit Go.Lib Go.Sort
set_option linter.unusedVariables false

end Go.Proofs.Ythneljkaieckeaa
