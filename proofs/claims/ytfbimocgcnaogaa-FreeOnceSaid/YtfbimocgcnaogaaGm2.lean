/- Contracts of gmem's find and of what stands on it. Conditions: as each theorem names them. -/
import Derived.Test.YtfbimocgcnaogaaGm1
namespace Go.Proofs.Ytfbimocgcnaogaa
open Go.ChangeShapes Go.WideShapes Go.ChangeAt Go.RowKit
set_option linter.unusedVariables false

/-- the bytes that 'find' returns -/
def findV (ib : Nat) (n : Int) : Option Nat → Value
  | none => .slice none 0 0
  | some k => .slice (some ⟨ib, k, none⟩) n.toNat n.toNat

end Go.Proofs.Ytfbimocgcnaogaa
