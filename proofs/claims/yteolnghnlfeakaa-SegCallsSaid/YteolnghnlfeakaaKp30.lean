/- Dsc1 Dsc2: joined texts. Conditions: as each theorem names them. -/
import Derived.Test.YteolnghnlfeakaaKp07
import Derived.Deep.MidRow
/- Contracts of desc: the words of a code: set and get. Conditions: as each theorem names them. -/
namespace Go.Proofs.Yteolnghnlfeakaa
open Go.ChangeShapes Go.WideShapes Go.ChangeAt Go.RowKit
set_option linter.unusedVariables false
set_option maxRecDepth 100000

theorem drewN_setCell (w : World) (m : Nat) (a : Addr) (v : Value) : (w.drewN m).setCell a v = (w.setCell a v).drewN m := rfl
theorem chg_dn {S : Nat → Prop} {a w : World} (h : Chg S a w) (n : Nat) : Chg S a (w.drewN n) := ⟨h.os, h.tape, h.output, h.size, h.block⟩

end Go.Proofs.Yteolnghnlfeakaa

/- Contracts of desc: descriptors in a code, and the bytes of one. Conditions: as each theorem names them. -/
namespace Go.Proofs.Yteolnghnlfeakaa
open Go.ChangeShapes Go.WideShapes Go.ChangeAt Go.RowKit
set_option linter.unusedVariables false
set_option maxRecDepth 100000

/-- the four words of a descriptor, packed or not -/
structure Dsc where
  a : Int
  l : Int
  f : Int
  n : Int
structure isDsc (d : Dsc) : Prop where
  a : 0 ≤ d.a ∧ d.a < 18446744073709551616
  l : 0 ≤ d.l ∧ d.l < 4294967296
  f : 0 ≤ d.f ∧ d.f < 65536
  n : 0 ≤ d.n ∧ d.n < 65536
def dB (d : Dsc) : List Int := leB 8 d.a ++ (leB 4 d.l ++ (leB 2 d.f ++ leB 2 d.n))
theorem dB_length (d : Dsc) : (dB d).length = 16 := by simp [dB, leB_length]
theorem dB_bytes (d : Dsc) : isBytes (dB d) := isBytes_append (leB_bytes _ _) (isBytes_append (leB_bytes _ _) (isBytes_append (leB_bytes _ _) (leB_bytes _ _)))
abbrev dV (d : Dsc) : Value := .agg #[.int .u64 d.a, .int .u32 d.l, .int .u16 d.f, .int .u16 d.n]
abbrev dC (d : Dsc) : List Value := [.int .u64 d.a, .int .u32 d.l, .int .u16 d.f, .int .u16 d.n]
/-- the block of a code holds these bytes -/
abbrev Row (w : World) (b : Nat) (t : TypeId) (M : List Int) : Prop := w.heap[b]? = some (.cells (bv M) t (0, 0))

end Go.Proofs.Yteolnghnlfeakaa
