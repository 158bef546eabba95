/- The reference's Image of layer 2. Conditions: as the theorem names them. -/
import Derived.Test.YtolflhnkdnjckaaRf7
namespace Go.Proofs.Ytolflhnkdnjckaa
open Go.ChangeShapes Go.WideShapes Go.ChangeAt Go.RowKit
set_option linter.unusedVariables false

end Go.Proofs.Ytolflhnkdnjckaa
