/- The merge in place: its contract, where the middle is not left of the second part. -/
import Derived.Test.YthneljkaieckeaaT5a
namespace Go.Proofs.Ythneljkaieckeaa
open Go.RowKit Go.Lib Go.Sort
set_option linter.unusedVariables false

end Go.Proofs.Ythneljkaieckeaa
