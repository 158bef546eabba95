/- Contracts of serial.Word, Read, Power, Align and of the reference's: results, and old memory stays. Conditions: as each theorem names them. -/
import Derived.Test.YtolflhnkdnjckaaSer2
namespace Go.Proofs.Ytolflhnkdnjckaa
open Go.ChangeShapes Go.WideShapes Go.ChangeAt Go.RowKit
set_option linter.unusedVariables false

def wordI (a : Int) (b : Bool) : Int := a % 32768 + if b then 32768 else 0
theorem word_f (a : Int) : bits .andNot .u16 (IntKind.u16.wrap a) 32768 = wordI a false := by
  rw [IntKind.wrap_u16, u16_low15 _ (by omega) (by omega)]
  unfold wordI
  simp <;> omega
theorem word_t (a : Int) : bits .or .u16 (bits .andNot .u16 (IntKind.u16.wrap a) 32768) 32768 = wordI a true := by
  rw [IntKind.wrap_u16, u16_low15 _ (by omega) (by omega), u16_or15 _ (by omega) (by omega)]
  unfold wordI
  simp <;> omega
theorem rword_f (a : Int) : IntKind.u16.wrap (bits BinOp.and IntKind.i64 a 32767) = wordI a false := by
  rw [i64_low15, IntKind.wrap_u16]
  unfold wordI
  simp <;> omega
theorem rword_t (a : Int) : IntKind.u16.wrap (IntKind.u16.wrap (bits BinOp.and IntKind.i64 a 32767) + 32768) = wordI a true := by
  rw [i64_low15, IntKind.wrap_u16, IntKind.wrap_u16]
  unfold wordI
  simp <;> omega

theorem bit15_ne (x : Int) (h0 : 0 ≤ x) (h1 : x < 65536) : (bits .and .u16 x 32768 != 0) = decide (32768 ≤ x) := by
  rw [u16_bit15 x h0 h1]
  by_cases h : 32768 ≤ x
  · simp [h]
    omega
  · simp [h]
    omega

end Go.Proofs.Ytolflhnkdnjckaa
