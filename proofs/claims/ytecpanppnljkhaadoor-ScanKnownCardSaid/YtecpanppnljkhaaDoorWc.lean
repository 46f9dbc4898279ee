/- Walks, part c: the specification's operations on two words. -/
import Derived.Test.YtecpanppnljkhaaDoorWa
namespace Go.Proofs.YtecpanppnljkhaaDoor
open Go.RowKit
set_option linter.unusedVariables false

end Go.Proofs.YtecpanppnljkhaaDoor
