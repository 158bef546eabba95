/- Feature bits of the reference, layer 6: All, Known, needs. Conditions: as each theorem names them. -/
import Derived.Test.YtahhbfcafkiilaaFr1
namespace Go.Proofs.Ytahhbfcafkiilaa
open Go.ChangeShapes Go.WideShapes Go.ChangeAt Go.RowKit
set_option linter.unusedVariables false
set_option maxRecDepth 100000

theorem or_int {a b c : Nat} (ha : a < N64) (hb : b < N64) (h : a ||| b = c) : bits .or .u64 (a : Int) (b : Int) = (c : Int) := by
  rw [u64_or_nat a b ha hb, h]
theorem or_intc {a b c : Nat} {x y : Int} (hx : x = (a : Int)) (hy : y = (b : Int)) (ha : a < N64) (hb : b < N64) (h : a ||| b = c) : bits .or .u64 x y = (c : Int) := by
  rw [hx, hy, u64_or_nat a b ha hb, h]
theorem and_int {a b : Nat} (ha : a < N64) (hb : b < N64) : bits .and .u64 (a : Int) (b : Int) = ((a &&& b : Nat) : Int) := u64_and_nat a b ha hb
theorem min_int {a b : Nat} (ha : a < N64) (hb : b < N64) : bits .andNot .u64 (a : Int) (b : Int) = (minF a b : Int) := u64_andNot_nat a b ha hb
theorem zero_int (a : Nat) : ((a : Int) == 0) = decide (a = 0) := by
  by_cases h : a = 0
  · simp [h]
  · simp [h]
theorem below_two {w w1 w2 : World} (h1 : Below w.heap.size w w1) (h2 : Below w1.heap.size w1 w2) : Below w.heap.size w w2 := h1.trans (h2.mono h1.size)

/-- needs' answer -/
def nF (k b : Int) : Nat := if k = 1 then (if b = 18 ∨ b = 19 ∨ b = 22 then 2 ^ 17 else if b = 23 then 2 ^ 17 + 2 ^ 5 else 0) else 0
theorem nF_lt (k b : Int) : nF k b < N64 := by
  unfold nF
  split
  · split
    · decide
    · split <;> decide
  · decide
theorem nF_bit (k : Int) (b j : Nat) : (nF k b).testBit j = ndsF k b j := by
  unfold nF ndsF
  by_cases hk : k = 1
  · rw [if_pos hk, decide_eq_true hk, Bool.true_and]
    by_cases h1 : b = 18 ∨ b = 19 ∨ b = 22
    · rw [if_pos (by omega), one_bit, decide_eq_true (show b = 18 ∨ b = 19 ∨ b = 22 ∨ b = 23 by omega), decide_eq_false (show ¬ b = 23 by omega)]
      simp [eq_comm]
    · rw [if_neg (by omega)]
      by_cases h2 : b = 23
      · rw [if_pos (by omega), decide_eq_true (show b = 18 ∨ b = 19 ∨ b = 22 ∨ b = 23 by omega), decide_eq_true h2]
        rw [show (2 : Nat) ^ 17 + 2 ^ 5 = 2 ^ 17 ||| 2 ^ 5 by decide, Nat.testBit_or, one_bit, one_bit]
        simp [eq_comm]
      · rw [if_neg (by omega), Nat.zero_testBit, decide_eq_false (show ¬ (b = 18 ∨ b = 19 ∨ b = 22 ∨ b = 23) by omega), decide_eq_false h2]
        rfl
  · rw [if_neg hk, decide_eq_false hk, Nat.zero_testBit]
    rfl
end Go.Proofs.Ytahhbfcafkiilaa
