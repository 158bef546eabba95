/- The reference of layer 3: Avail, Used, Mark. Conditions: as each theorem names them. -/
import Derived.Test.YtfjccpalkdmniaaDsc5
namespace Go.Proofs.Ytfjccpalkdmniaa
open Go.ChangeShapes Go.WideShapes Go.ChangeAt Go.RowKit
set_option linter.unusedVariables false
set_option maxRecDepth 100000

theorem and_bit (n k : Nat) : n &&& 2 ^ k = if n.testBit k then 2 ^ k else 0 := by
  apply Nat.eq_of_testBit_eq
  intro i
  rw [Nat.testBit_and, Nat.testBit_two_pow]
  by_cases h : k = i
  · subst h
    cases hb : n.testBit k <;> simp
  · cases hb : n.testBit k <;> simp [h]
theorem own_bits (n : Nat) : ownN n = (if n.testBit 7 then 128 else 0) ||| (if n.testBit 15 then 32768 else 0) := by
  have h7 := and_bit n 7
  have h15 := and_bit n 15
  unfold ownN
  rw [show (32896 : Nat) = 2 ^ 7 ||| 2 ^ 15 from by decide, Nat.and_or_distrib_left, h7, h15]
theorem ravail_any (n : Nat) (b : Bool) (w : World) (hn : n < 65536) : Calls Try.prog 56 #[.int .u16 n, .bool b] w fun e w' => e = .returned (.bool (decide (ownN n = mkN b false))) ∧ w = w' := by
  have e7 : bits .and .u16 (n : Int) 128 = (((if n.testBit 7 then 128 else 0 : Nat)) : Int) := (u16_and_nat n 128 hn (by omega)).trans (by rw [show (128 : Nat) = 2 ^ 7 from by decide, and_bit])
  have e15 : bits .and .u16 (n : Int) 32768 = (((if n.testBit 15 then 32768 else 0 : Nat)) : Int) := (u16_and_nat n 32768 hn (by omega)).trans (by rw [show (32768 : Nat) = 2 ^ 15 from by decide, and_bit])
  have ho := own_bits n
  cases h7 : n.testBit 7 <;> cases h15 : n.testBit 15 <;> cases b
  all_goals
    rw [h7] at e7 ho
    rw [h15] at e15 ho
    rw [ho]
    simp only [if_true, Bool.false_eq_true, if_false] at e7 e15
    clear ho h7 h15
    go_enter Try.func56, Try.ntmps56
    go_wp2_with fail
    go_ret
    exact ⟨rfl, rfl⟩
theorem rused_any (n : Nat) (b : Bool) (w : World) (hn : n < 65536) : Calls Try.prog 57 #[.int .u16 n, .bool b] w fun e w' => e = .returned (.bool (decide (ownN n = mkN b true))) ∧ w = w' := by
  have e7 : bits .and .u16 (n : Int) 128 = (((if n.testBit 7 then 128 else 0 : Nat)) : Int) := (u16_and_nat n 128 hn (by omega)).trans (by rw [show (128 : Nat) = 2 ^ 7 from by decide, and_bit])
  have e15 : bits .and .u16 (n : Int) 32768 = (((if n.testBit 15 then 32768 else 0 : Nat)) : Int) := (u16_and_nat n 32768 hn (by omega)).trans (by rw [show (32768 : Nat) = 2 ^ 15 from by decide, and_bit])
  have ho := own_bits n
  cases h7 : n.testBit 7 <;> cases h15 : n.testBit 15 <;> cases b
  all_goals
    rw [h7] at e7 ho
    rw [h15] at e15 ho
    rw [ho]
    simp only [if_true, Bool.false_eq_true, if_false] at e7 e15
    clear ho h7 h15
    go_enter Try.func57, Try.ntmps57
    go_wp2_with fail
    go_ret
    exact ⟨rfl, rfl⟩
theorem rmark_any (n : Nat) (a b : Bool) (w : World) (hn : n < 65536) : Calls Try.prog 59 #[.int .u16 n, .bool a, .bool b] w fun e w' => e = .returned (.int .u16 ((markN n a b : Nat) : Int)) ∧ w = w' := by
  have e1 : bits .andNot .u16 (n : Int) 32896 = ((n &&& 32639 : Nat) : Int) := u16_andNot_nat n 32896 hn (by omega)
  have hr : (n &&& 32639) < 65536 := and_lt (by decide)
  have e2 : bits .or .u16 ((n &&& 32639 : Nat) : Int) 128 = (((n &&& 32639) ||| 128 : Nat) : Int) := u16_or_nat _ 128 hr (by omega)
  have e3 : bits .or .u16 ((n &&& 32639 : Nat) : Int) 32768 = (((n &&& 32639) ||| 32768 : Nat) : Int) := u16_or_nat _ 32768 hr (by omega)
  have hr2 : ((n &&& 32639) ||| 128) < 65536 := Nat.or_lt_two_pow (n := 16) hr (by decide)
  have e4 : bits .or .u16 (((n &&& 32639) ||| 128 : Nat) : Int) 32768 = ((((n &&& 32639) ||| 128) ||| 32768 : Nat) : Int) := u16_or_nat _ 32768 hr2 (by omega)
  have m1 : markN n false false = (n &&& 32639) ||| 32768 := rfl
  have m2 : markN n false true = (n &&& 32639) ||| 0 := rfl
  have m3 : markN n true false = (n &&& 32639) ||| 128 := rfl
  have m4 : markN n true true = ((n &&& 32639) ||| 128) ||| 32768 := by
    rw [Nat.or_assoc]
    rfl
  rw [Nat.or_zero] at m2
  cases a <;> cases b
  · rw [m1]
    clear m1 m2 m3 m4
    go_enter Try.func59, Try.ntmps59
    go_wp2_with fail
    go_ret
    exact ⟨rfl, rfl⟩
  · rw [m2]
    clear m1 m2 m3 m4
    go_enter Try.func59, Try.ntmps59
    go_wp2_with fail
    go_ret
    exact ⟨rfl, rfl⟩
  · rw [m3]
    clear m1 m2 m3 m4
    go_enter Try.func59, Try.ntmps59
    go_wp2_with fail
    go_ret
    exact ⟨rfl, rfl⟩
  · rw [m4]
    clear m1 m2 m3 m4
    go_enter Try.func59, Try.ntmps59
    go_wp2_with fail
    go_ret
    exact ⟨rfl, rfl⟩
end Go.Proofs.Ytfjccpalkdmniaa
