/- The reference's Store of layer 2. Conditions: as each theorem names them. -/
import Derived.Test.YteolnghnlfeakaaRf3
namespace Go.Proofs.Yteolnghnlfeakaa
open Go.ChangeShapes Go.WideShapes Go.ChangeAt Go.RowKit
set_option linter.unusedVariables false

/-- the blocks that a write to the reference's memory may change -/
def Pcs (D : Nat → Nat) (L : List (Int × Int)) : Nat → Prop := fun b => ∃ j, j < L.length ∧ b = D j

end Go.Proofs.Yteolnghnlfeakaa
