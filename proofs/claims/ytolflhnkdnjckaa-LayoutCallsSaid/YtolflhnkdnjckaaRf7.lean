/- kit.SameRegions of two slices of the same regions. Conditions: as the theorem names them. -/
import Derived.Test.YtolflhnkdnjckaaRf6
namespace Go.Proofs.Ytolflhnkdnjckaa
open Go.ChangeShapes Go.WideShapes Go.ChangeAt Go.RowKit
set_option linter.unusedVariables false

end Go.Proofs.Ytolflhnkdnjckaa
