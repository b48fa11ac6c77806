/- A part of a row of spans is turned: its contract. -/
import Derived.Test.YthneljkaieckeaaT1
namespace Go.Proofs.Ythneljkaieckeaa
open Go.RowKit Go.Lib Go.Sort
set_option linter.unusedVariables false

end Go.Proofs.Ythneljkaieckeaa
