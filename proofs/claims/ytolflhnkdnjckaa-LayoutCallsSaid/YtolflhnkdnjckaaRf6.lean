/- The reference's Read of layer 2. Conditions: as each theorem names them. -/
import Derived.Test.YtolflhnkdnjckaaRf5
namespace Go.Proofs.Ytolflhnkdnjckaa
open Go.ChangeShapes Go.WideShapes Go.ChangeAt Go.RowKit
set_option linter.unusedVariables false

end Go.Proofs.Ytolflhnkdnjckaa
