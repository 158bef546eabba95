/- Contracts of desc: the words of a code: set and get. Conditions: as each theorem names them. -/
import Derived.Test.YtolflhnkdnjckaaGm8
import Derived.Deep.MidRow
namespace Go.Proofs.Ytolflhnkdnjckaa
open Go.ChangeShapes Go.WideShapes Go.ChangeAt Go.RowKit
set_option linter.unusedVariables false
set_option maxRecDepth 100000

theorem drewN_setCell (w : World) (m : Nat) (a : Addr) (v : Value) : (w.drewN m).setCell a v = (w.setCell a v).drewN m := rfl
theorem chg_dn {S : Nat → Prop} {a w : World} (h : Chg S a w) (n : Nat) : Chg S a (w.drewN n) := ⟨h.os, h.tape, h.output, h.size, h.block⟩

end Go.Proofs.Ytolflhnkdnjckaa
