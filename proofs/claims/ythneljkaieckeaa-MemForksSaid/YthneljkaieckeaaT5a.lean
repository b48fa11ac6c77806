/- The merge in place: its contract, where the middle is left of the second part. -/
import Derived.Test.YthneljkaieckeaaT4
namespace Go.Proofs.Ythneljkaieckeaa
open Go.RowKit Go.Lib Go.Sort
set_option linter.unusedVariables false

end Go.Proofs.Ythneljkaieckeaa
