/- Ser3 Ser4: joined texts. Conditions: as each theorem names them. -/
import Derived.Test.YtgdokgpplldddaaKp13
/- Contracts of serial.Word, Read, Power, Align and of the reference's: results, and old memory stays. Conditions: as each theorem names them. -/
namespace Go.Proofs.Ytgdokgpplldddaa
open Go.ChangeShapes Go.WideShapes Go.ChangeAt Go.RowKit
set_option linter.unusedVariables false

def wordI (a : Int) (b : Bool) : Int := a % 32768 + if b then 32768 else 0
theorem word_f (a : Int) : bits .andNot .u16 (IntKind.u16.wrap a) 32768 = wordI a false := by
  rw [IntKind.wrap_u16, u16_low15 _ (by omega) (by omega)]
  unfold wordI
  simp <;> omega
theorem word_t (a : Int) : bits .or .u16 (bits .andNot .u16 (IntKind.u16.wrap a) 32768) 32768 = wordI a true := by
  rw [IntKind.wrap_u16, u16_low15 _ (by omega) (by omega), u16_or15 _ (by omega) (by omega)]
  unfold wordI
  simp <;> omega
theorem rword_f (a : Int) : IntKind.u16.wrap (bits BinOp.and IntKind.i64 a 32767) = wordI a false := by
  rw [i64_low15, IntKind.wrap_u16]
  unfold wordI
  simp <;> omega
theorem rword_t (a : Int) : IntKind.u16.wrap (IntKind.u16.wrap (bits BinOp.and IntKind.i64 a 32767) + 32768) = wordI a true := by
  rw [i64_low15, IntKind.wrap_u16, IntKind.wrap_u16]
  unfold wordI
  simp <;> omega

theorem bit15_ne (x : Int) (h0 : 0 ≤ x) (h1 : x < 65536) : (bits .and .u16 x 32768 != 0) = decide (32768 ≤ x) := by
  rw [u16_bit15 x h0 h1]
  by_cases h : 32768 ≤ x
  · simp [h]
    omega
  · simp [h]
    omega

end Go.Proofs.Ytgdokgpplldddaa

/- Contracts of serial.Power, Align, NeedAt, Between and of the reference's: results, and old memory stays. Conditions: as each theorem names them. -/
namespace Go.Proofs.Ytgdokgpplldddaa
open Go.ChangeShapes Go.WideShapes Go.ChangeAt Go.RowKit
set_option linter.unusedVariables false

def powI (n : Int) : Bool := decide (1 ≤ n ∧ n ≤ 32768) && powB n

theorem powI_none (n : Int) (h : ∀ i : Nat, i < 16 → n ≠ pow2 i) : powI n = false := by
  unfold powI
  by_cases hn : 1 ≤ n ∧ n ≤ 32768
  · rw [powB_false (by omega) (by omega)]
    · simp
    · rintro ⟨k, hk, he⟩
      by_cases hk16 : k < 16
      · exact h k hk16 he
      · have := pow2_le (j := 16) (k := k) (by omega)
        have e16 : pow2 16 = 65536 := by decide
        omega
  · rw [show decide (1 ≤ n ∧ n ≤ 32768) = false from by simp; omega]
    rfl
theorem powI_some (k : Nat) (h : k < 16) : powI (pow2 k) = true := by
  unfold powI
  have h1 := pow2_pos k
  have h2 := pow2_le (j := k) (k := 15) (by omega)
  have e15 : pow2 15 = 32768 := by decide
  rw [(powB_iff (pow2 k) (by omega) (by omega)).2 ⟨k, by omega, rfl⟩]
  simp
  omega

end Go.Proofs.Ytgdokgpplldddaa
