/- Contracts of serial.Check, checkMove, Go, Word, Read and of the reference's: results, and old memory stays. Conditions: as each theorem names them. -/
import Derived.Test.YtolflhnkdnjckaaSer1
namespace Go.Proofs.Ytolflhnkdnjckaa
open Go.ChangeShapes Go.WideShapes Go.ChangeAt Go.RowKit
set_option linter.unusedVariables false

abbrev pos (a : Int) (b : Bool) : Value := .agg #[.int .i64 a, .bool b]

/-- may a position be moved so? -/
def movable (p by' n : Int) : Prop := 1 ≤ n ∧ n ≤ 32768 ∧ 0 ≤ p ∧ p < n ∧ 0 ≤ by' ∧ by' ≤ n

end Go.Proofs.Ytolflhnkdnjckaa
