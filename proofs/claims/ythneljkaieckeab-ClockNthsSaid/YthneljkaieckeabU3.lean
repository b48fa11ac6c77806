/- Are two rows of spans the same: the contract of the document's Same. -/
import Derived.Test.YthneljkaieckeabU2
namespace Go.Proofs.Ythneljkaieckeab
open Go.RowKit Go.Lib Go.Sort
set_option linter.unusedVariables false

end Go.Proofs.Ythneljkaieckeab
