/- The stable sort of up to 60 spans: its contract. -/
import Derived.Test.YthneljkaieckeaaT6
namespace Go.Proofs.Ythneljkaieckeaa
open Go.RowKit Go.Lib Go.Sort
set_option linter.unusedVariables false

end Go.Proofs.Ythneljkaieckeaa
