/- Contracts of the kit's small functions: Pick. Conditions: as each theorem names them. -/
import Derived.Test.YteolnghnlfeakaaRows
import Derived.Test.YteolnghnlfeakaaWld
import Derived.WalkKit
import Derived.ProofKit
namespace Go.Proofs.Yteolnghnlfeakaa
open Go.ChangeShapes Go.WideShapes Go.ChangeAt Go.RowKit
set_option linter.unusedVariables false
set_option maxRecDepth 100000

end Go.Proofs.Yteolnghnlfeakaa
