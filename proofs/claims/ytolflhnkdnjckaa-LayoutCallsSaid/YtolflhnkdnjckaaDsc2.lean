/- Contracts of desc: descriptors in a code, and the bytes of one. Conditions: as each theorem names them. -/
import Derived.Test.YtolflhnkdnjckaaDsc1
namespace Go.Proofs.Ytolflhnkdnjckaa
open Go.ChangeShapes Go.WideShapes Go.ChangeAt Go.RowKit
set_option linter.unusedVariables false
set_option maxRecDepth 100000

/-- the four words of a descriptor, packed or not -/
structure Dsc where
  a : Int
  l : Int
  f : Int
  n : Int
structure isDsc (d : Dsc) : Prop where
  a : 0 ≤ d.a ∧ d.a < 18446744073709551616
  l : 0 ≤ d.l ∧ d.l < 4294967296
  f : 0 ≤ d.f ∧ d.f < 65536
  n : 0 ≤ d.n ∧ d.n < 65536
def dB (d : Dsc) : List Int := leB 8 d.a ++ (leB 4 d.l ++ (leB 2 d.f ++ leB 2 d.n))
theorem dB_length (d : Dsc) : (dB d).length = 16 := by simp [dB, leB_length]
theorem dB_bytes (d : Dsc) : isBytes (dB d) := isBytes_append (leB_bytes _ _) (isBytes_append (leB_bytes _ _) (isBytes_append (leB_bytes _ _) (leB_bytes _ _)))
abbrev dV (d : Dsc) : Value := .agg #[.int .u64 d.a, .int .u32 d.l, .int .u16 d.f, .int .u16 d.n]
abbrev dC (d : Dsc) : List Value := [.int .u64 d.a, .int .u32 d.l, .int .u16 d.f, .int .u16 d.n]
/-- the block of a code holds these bytes -/
abbrev Row (w : World) (b : Nat) (t : TypeId) (M : List Int) : Prop := w.heap[b]? = some (.cells (bv M) t (0, 0))

end Go.Proofs.Ytolflhnkdnjckaa
