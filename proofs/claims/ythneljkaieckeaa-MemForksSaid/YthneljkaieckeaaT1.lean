/- The exchange of two parts of a row of spans: its contract. -/
import Derived.Test.YthneljkaieckeaaT0
import Derived.Test.YthneljkaieckeaaS3
namespace Go.Proofs.Ythneljkaieckeaa
open Go.RowKit Go.Lib Go.Sort
set_option linter.unusedVariables false

end Go.Proofs.Ythneljkaieckeaa
