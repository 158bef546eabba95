/- Gm2 Gm3: joined texts. Conditions: as each theorem names them. -/
import Derived.Test.YtgdokgpplldddaaKp03
import Derived.OwnWalk
import Derived.WalkSpells
import Derived.Laws.CopyOwn
import Derived.Deep.WholeRow
/- Contracts of gmem's find and of what stands on it. Conditions: as each theorem names them. -/
namespace Go.Proofs.Ytgdokgpplldddaa
open Go.ChangeShapes Go.WideShapes Go.ChangeAt Go.RowKit
set_option linter.unusedVariables false

/-- the bytes that 'find' returns -/
def findV (ib : Nat) (n : Int) : Option Nat → Value
  | none => .slice none 0 0
  | some k => .slice (some ⟨ib, k, none⟩) n.toNat n.toNat

end Go.Proofs.Ytgdokgpplldddaa

/- Contracts of gmem's accesses that only read: word, Load, Has, Read, Image. Conditions: as each theorem names them. -/
namespace Go.Proofs.Ytgdokgpplldddaa
open Go.ChangeShapes Go.WideShapes Go.ChangeAt Go.RowKit
set_option linter.unusedVariables false

theorem eqnil (w : World) (a : Option Addr) (n c : Nat) : (binOp .eql 49 (.slice a n c) (.slice none 0 0)).run Try.prog w = .ok (.bool a.isNone) w := Lib.run_eql_slice_nil w 49 5 a n c 0 0 Try.underlying49
theorem neqnil (w : World) (a : Option Addr) (n c : Nat) : (binOp .neq 49 (.slice a n c) (.slice none 0 0)).run Try.prog w = .ok (.bool (!a.isNone)) w := run_neq_slice_nil_any w 49 5 a n c 0 0 Try.underlying49
/-- is it the width of a word? -/
def wid (n : Int) : Bool := n == 1 || n == 2 || n == 4 || n == 8
theorem wid_iff {n : Int} : wid n = true ↔ n = 1 ∨ n = 2 ∨ n = 4 ∨ n = 8 := by
  unfold wid
  simp
  omega
/-- what 'word' returns, and its error -/
def accE (L : List (Int × Int)) (a n : Int) : Int := if wid n then (if (loc L a n).isSome then 0 else 5) else 2
def accV (ib : Nat) (L : List (Int × Int)) (a n : Int) : Value := if wid n then findV ib n (loc L a n) else .slice none 0 0

/-! ## Load -/
def loadV (L : List (Int × Int)) (M : List Int) (a n : Int) : Int :=
  if wid n then (match loc L a n with | some k => le ((M.drop k).take n.toNat) | none => 0) else 0
/-! ## Has -/
end Go.Proofs.Ytgdokgpplldddaa
