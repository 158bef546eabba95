/- Contracts of gmem's accesses that only read: word, Load, Has, Read, Image. Conditions: as each theorem names them. -/
import Derived.Test.YtfbimocgcnaogaaGm2
import Derived.OwnWalk
import Derived.WalkSpells
import Derived.Laws.CopyOwn
import Derived.Deep.WholeRow
namespace Go.Proofs.Ytfbimocgcnaogaa
open Go.ChangeShapes Go.WideShapes Go.ChangeAt Go.RowKit
set_option linter.unusedVariables false

/-- is it the width of a word? -/
def wid (n : Int) : Bool := n == 1 || n == 2 || n == 4 || n == 8
theorem wid_iff {n : Int} : wid n = true ↔ n = 1 ∨ n = 2 ∨ n = 4 ∨ n = 8 := by
  unfold wid
  simp
  omega
/-- what 'word' returns, and its error -/
def accE (L : List (Int × Int)) (a n : Int) : Int := if wid n then (if (loc L a n).isSome then 0 else 5) else 2
def accV (ib : Nat) (L : List (Int × Int)) (a n : Int) : Value := if wid n then findV ib n (loc L a n) else .slice none 0 0

/-! ## Load -/
def loadV (L : List (Int × Int)) (M : List Int) (a n : Int) : Int :=
  if wid n then (match loc L a n with | some k => le ((M.drop k).take n.toNat) | none => 0) else 0
/-! ## Has -/
end Go.Proofs.Ytfbimocgcnaogaa
