/- Contracts of desc: a descriptor out of a code; Bytes, PackedBytes, Read, ReadPacked. Conditions: as each theorem names them. -/
import Derived.Test.YtolflhnkdnjckaaDsc2
namespace Go.Proofs.Ytolflhnkdnjckaa
open Go.ChangeShapes Go.WideShapes Go.ChangeAt Go.RowKit
set_option linter.unusedVariables false
set_option maxRecDepth 100000

/-- the descriptor with these bytes -/
def dR (M : List Int) : Dsc := ⟨le ((M.drop 0).take 8), le ((M.drop 8).take 4), le ((M.drop 12).take 2), le ((M.drop 14).take 2)⟩
theorem le_part {M : List Int} (hB : isBytes M) (hM : M.length = 16) (k n : Nat) (hk : k + n ≤ 16) : 0 ≤ le ((M.drop k).take n) ∧ le ((M.drop k).take n) < pow2 (8 * n) := by
  have hb := isBytes_take (isBytes_drop hB k) n
  have hl : ((M.drop k).take n).length = n := by simp; omega
  have h1 := le_hi hb
  rw [hl] at h1
  exact ⟨le_lo hb, h1⟩
theorem dR_is {M : List Int} (hB : isBytes M) (hM : M.length = 16) : isDsc (dR M) :=
  ⟨le_part hB hM 0 8 (by omega), le_part hB hM 8 4 (by omega), le_part hB hM 12 2 (by omega), le_part hB hM 14 2 (by omega)⟩

end Go.Proofs.Ytolflhnkdnjckaa
