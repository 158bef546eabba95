/- Ser7 Liv: joined texts. Conditions: as each theorem names them. -/
import Derived.Test.YtgdokgpplldddaaKp15
/- Contracts of serial.Between and of the reference's NeedAt at wrong positions, Between; of serial.Start: results, and old memory stays. Conditions: as each theorem names them. -/
namespace Go.Proofs.Ytgdokgpplldddaa
open Go.ChangeShapes Go.WideShapes Go.ChangeAt Go.RowKit
set_option linter.unusedVariables false

/-- the way from one position to the other -/
def btw1 (a b n : Int) (eb nb : Bool) : Int := b - a + if eb = nb then 0 else n
def btw (a b n : Int) (eb nb : Bool) : Int := if btw1 a b n eb nb < 0 then btw1 a b n eb nb + 2 * n else btw1 a b n eb nb
theorem btw_neg {a b n : Int} {eb nb : Bool} (h : btw1 a b n eb nb < 0) : btw a b n eb nb = btw1 a b n eb nb + 2 * n := by
  unfold btw
  rw [if_pos h]
theorem btw_pos {a b n : Int} {eb nb : Bool} (h : ¬ btw1 a b n eb nb < 0) : btw a b n eb nb = btw1 a b n eb nb := by
  unfold btw
  rw [if_neg h]
theorem btw_ret {x y : Int} (h : x = y) : Ending.returned (.tuple #[.int .i64 x, .int .i64 0]) = .returned (.tuple #[.int .i64 y, .int .i64 0]) := by rw [h]

end Go.Proofs.Ytgdokgpplldddaa

/- The contract of the statements' common examples, 'lives': it returns true and leaves old memory alone. No condition. -/
namespace Go.Proofs.Ytgdokgpplldddaa
open Go.ChangeShapes Go.WideShapes Go.ChangeAt Go.RowKit
set_option linter.unusedVariables false

end Go.Proofs.Ytgdokgpplldddaa
