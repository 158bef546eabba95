/- Contracts of desc: the flags of a packed descriptor (Mark, Avail, Used); words of used elements and events. Conditions: as each theorem names them. -/
import Derived.Test.YtfjccpalkdmniaaLe
import Derived.Test.YtfjccpalkdmniaaWld
import Derived.Test.YtfjccpalkdmniaaRows
import Derived.WalkKit
import Derived.ProofKit
namespace Go.Proofs.Ytfjccpalkdmniaa
open Go.ChangeShapes Go.WideShapes Go.ChangeAt Go.RowKit
set_option linter.unusedVariables false
set_option maxRecDepth 100000

/-- the owner's flags -/
def mkN (w u : Bool) : Nat := (if w then 128 else 0) ||| (if w == u then 32768 else 0)
def markN (n : Nat) (w u : Bool) : Nat := (n &&& 32639) ||| mkN w u
def ownN (n : Nat) : Nat := n &&& 32896
theorem and_lt {n m k : Nat} (h : m < k) : n &&& m < k := Nat.lt_of_le_of_lt Nat.and_le_right h
theorem mkN_lt (w u : Bool) : mkN w u < 65536 := by cases w <;> cases u <;> decide
theorem markN_lt (n : Nat) (w u : Bool) : markN n w u < 65536 := Nat.or_lt_two_pow (n := 16) (and_lt (by decide)) (mkN_lt w u)

theorem when_any (f : Int) (b : Bool) (w : World) : Calls Try.prog 83 #[.int .u16 f, .bool b] w fun e w' => e = .returned (.int .u16 (if b then f else 0)) ∧ w = w' := by
  cases b
  all_goals
    go_enter Try.func83, Try.ntmps83
    go_wp2_with fail
    go_ret
    exact ⟨rfl, rfl⟩
theorem mark_any (a b : Bool) (w : World) : Calls Try.prog 72 #[.bool a, .bool b] w fun e w' => e = .returned (.int .u16 ((mkN a b : Nat) : Int)) ∧ w = w' := by
  have h1 := fun (u : World) => when_any 128 a u
  have h2 := fun (u : World) => when_any 32768 (a == b) u
  have H1 := hid_mk h1
  have H2 := hid_mk h2
  clear h1 h2
  cases a <;> cases b
  all_goals
    go_enter Try.func72, Try.ntmps72
    go_wp2_with fail
    refine (H1.out _).mono ?_
    rintro e w1 ⟨rfl, rfl⟩
    go_wp2_with fail
    refine (H2.out _).mono ?_
    rintro e w1 ⟨rfl, rfl⟩
    go_wp2_with fail
    go_ret
    exact ⟨rfl, rfl⟩
theorem Mark_any (n : Nat) (a b : Bool) (w : World) (hn : n < 65536) : Calls Try.prog 58 #[.int .u16 n, .bool a, .bool b] w fun e w' => e = .returned (.int .u16 ((markN n a b : Nat) : Int)) ∧ w = w' := by
  have h1 := mark_any a b w
  have e1 : bits .andNot .u16 (n : Int) 32896 = ((n &&& 32639 : Nat) : Int) := u16_andNot_nat n 32896 hn (by omega)
  have e2 : bits .or .u16 ((n &&& 32639 : Nat) : Int) ((mkN a b : Nat) : Int) = ((markN n a b : Nat) : Int) := u16_or_nat _ _ (and_lt (by decide)) (mkN_lt a b)
  have hm : IntKind.u16.wrap ((markN n a b : Nat) : Int) = ((markN n a b : Nat) : Int) := by
    have := markN_lt n a b
    rw [IntKind.wrap_u16]
    omega
  have H1 := hid_mk h1
  clear h1
  go_enter Try.func58, Try.ntmps58
  go_wp2_with fail
  refine H1.out.mono ?_
  rintro e w1 ⟨rfl, rfl⟩
  go_wp2_with fail
  go_ret
  exact ⟨rfl, rfl⟩
theorem Avail_any (n : Nat) (a : Bool) (w : World) (hn : n < 65536) : Calls Try.prog 38 #[.int .u16 n, .bool a] w fun e w' => e = .returned (.bool (decide (ownN n = mkN a false))) ∧ w = w' := by
  have h1 := mark_any a false w
  have e1 : bits .and .u16 (n : Int) 32896 = ((ownN n : Nat) : Int) := u16_and_nat n 32896 hn (by omega)
  have H1 := hid_mk h1
  clear h1
  go_enter Try.func38, Try.ntmps38
  go_wp2_with fail
  refine H1.out.mono ?_
  rintro e w1 ⟨rfl, rfl⟩
  go_wp2_with fail
  go_ret
  refine ⟨ret_eq ?_, rfl⟩
  show Value.bool (((ownN n : Nat) : Int) == ((mkN a false : Nat) : Int)) = _
  congr 1
  by_cases h : ownN n = mkN a false
  · simp [h]
  · simp [h]
    omega
theorem Used_any (n : Nat) (a : Bool) (w : World) (hn : n < 65536) : Calls Try.prog 39 #[.int .u16 n, .bool a] w fun e w' => e = .returned (.bool (decide (ownN n = mkN a true))) ∧ w = w' := by
  have h1 := mark_any a true w
  have e1 : bits .and .u16 (n : Int) 32896 = ((ownN n : Nat) : Int) := u16_and_nat n 32896 hn (by omega)
  have H1 := hid_mk h1
  clear h1
  go_enter Try.func39, Try.ntmps39
  go_wp2_with fail
  refine H1.out.mono ?_
  rintro e w1 ⟨rfl, rfl⟩
  go_wp2_with fail
  go_ret
  refine ⟨ret_eq ?_, rfl⟩
  show Value.bool (((ownN n : Nat) : Int) == ((mkN a true : Nat) : Int)) = _
  congr 1
  by_cases h : ownN n = mkN a true
  · simp [h]
  · simp [h]
    omega

/-! ## plain facts on the flags -/
theorem own_mark (n : Nat) (a b : Bool) : ownN (markN n a b) = mkN a b := by
  unfold ownN markN
  rw [Nat.and_or_distrib_right, Nat.and_assoc]
  have e : (32639 : Nat) &&& 32896 = 0 := by decide
  rw [e, Nat.and_zero, Nat.zero_or]
  cases a <;> cases b <;> decide
theorem rest_mark (n : Nat) (a b : Bool) : markN n a b &&& 32639 = n &&& 32639 := by
  unfold markN
  rw [Nat.and_or_distrib_right, Nat.and_assoc]
  have e : (32639 : Nat) &&& 32639 = 32639 := by decide
  have e2 : mkN a b &&& 32639 = 0 := by cases a <;> cases b <;> decide
  rw [e, e2, Nat.or_zero]
theorem mark_mark (n : Nat) (a b c d : Bool) : markN (markN n a b) c d = markN n c d := by
  have h := rest_mark n a b
  show (markN n a b &&& 32639) ||| mkN c d = (n &&& 32639) ||| mkN c d
  rw [h]
end Go.Proofs.Ytfjccpalkdmniaa
