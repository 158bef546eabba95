/- Arguments that came in, read as the statements' own words: bytes, regions. Conditions: as each theorem names them. -/
import Derived.Test.YtfbimocgcnaogaaGm5
import Derived.OpenShut
import Derived.Deep.SlicePairs
import Derived.Lib.SmallJoins
namespace Go.Proofs.Ytfbimocgcnaogaa
open Go.ChangeShapes Go.WideShapes Go.ChangeAt Go.RowKit
set_option linter.unusedVariables false
set_option maxRecDepth 100000

section
variable {H : Type} {enc : TypeId × Value → H} {W : World} {r : Reach} {b0 : Nat} {v : Value} {d : DataW H} {p : List MemPlace}

theorem add_some {w : World} {a : Addr} {k : Nat} {v : Value} (h : w.cell? (a.add k) = some v) (hk : k = 0 ∨ a.spot = none) : a.spot = none := by
  rcases hk with rfl | h'
  · simpa [Addr.add] using World.cell?_spot h
  · exact h'

end
end Go.Proofs.Ytfbimocgcnaogaa
