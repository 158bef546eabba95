/- Contracts of package serial's functions, of the reference's and of the kit's: what each call returns, and that it leaves old memory alone. Conditions: as each theorem names them. -/
import Derived.Test.YtomeodmadnobfaaRows
import Derived.Test.YtomeodmadnobfaaBits
import Derived.WalkKit
import Derived.ProofKit
import Derived.OpenShut
import Derived.Below
import Derived.Deep.DeepCutAuto
namespace Go.Proofs.Ytomeodmadnobfaa
open Go.ChangeShapes Go.WideShapes Go.ChangeAt Go.RowKit
set_option linter.unusedVariables false

theorem bcell {W w1 : World} (hb : Below W.heap.size W w1) : (∀ b o, b < W.heap.size → w1.cell? ⟨b, o, none⟩ = W.cell? ⟨b, o, none⟩) ∧ (∀ b o, b < W.heap.size → w1.frozen? ⟨b, o, none⟩ = W.frozen? ⟨b, o, none⟩) :=
  ⟨fun b o h => hb.cell (p := ⟨b, o, none⟩) h, fun b o h => hb.frozen (p := ⟨b, o, none⟩) h⟩

theorem ret_eq {a b : Value} (h : a = b) : Ending.returned a = .returned b := by rw [h]

/-! ## numbers -/
theorem validSize_yes (n : Int) (w : World) (h1 : 1 ≤ n) (h2 : n ≤ 32768) :
    Calls Try.prog 34 #[.int .i64 n] w fun e w' => e = .returned (.bool true) ∧ w = w' := by
  go_enter Try.func34, Try.ntmps34
  go_wp2
  go_ret
  exact ⟨rfl, rfl⟩

theorem validSize_no (n : Int) (w : World) (h : n < 1 ∨ 32768 < n) :
    Calls Try.prog 34 #[.int .i64 n] w fun e w' => e = .returned (.bool false) ∧ w = w' := by
  rcases h with h | h
  · go_enter Try.func34, Try.ntmps34
    go_wp2
    go_ret
    exact ⟨rfl, rfl⟩
  · have h' : 1 ≤ n := by omega
    go_enter Try.func34, Try.ntmps34
    go_wp2
    go_ret
    exact ⟨by simp; omega, rfl⟩

theorem rsize_yes (n : Int) (w : World) (h1 : 1 ≤ n) (h2 : n ≤ 32768) :
    Calls Try.prog 36 #[.int .i64 n] w fun e w' => e = .returned (.bool true) ∧ w = w' := by
  go_enter Try.func36, Try.ntmps36
  go_wp2
  go_ret
  exact ⟨rfl, rfl⟩

theorem rsize_no (n : Int) (w : World) (h : n < 1 ∨ 32768 < n) :
    Calls Try.prog 36 #[.int .i64 n] w fun e w' => e = .returned (.bool false) ∧ w = w' := by
  rcases h with h | h
  · go_enter Try.func36, Try.ntmps36
    go_wp2
    go_ret
    exact ⟨rfl, rfl⟩
  · have h' : 1 ≤ n := by omega
    go_enter Try.func36, Try.ntmps36
    go_wp2
    go_ret
    exact ⟨by simp; omega, rfl⟩

def sub16 (a b : Int) : Int := IntKind.u16.wrap (a - b)
theorem sub16_eq (a b : Int) : sub16 a b = (a - b) % 65536 := IntKind.wrap_u16 _

theorem dist_any (a b : Int) (w : World) :
    Calls Try.prog 16 #[.int .u16 a, .int .u16 b] w fun e w' => e = .returned (.int .u16 (sub16 a b)) ∧ w = w' := by
  go_enter Try.func16, Try.ntmps16
  go_wp2
  go_ret
  exact ⟨rfl, rfl⟩

theorem rdist_any (a b : Int) (w : World) :
    Calls Try.prog 17 #[.int .u16 a, .int .u16 b] w fun e w' => e = .returned (.int .u16 (sub16 a b)) ∧ w = w' := by
  go_enter Try.func17, Try.ntmps17
  go_wp2
  go_ret
  exact ⟨rfl, rfl⟩

def needB (event next old : Int) : Bool := decide (sub16 (sub16 next event) 1 < sub16 next old)

theorem need_any (a b c : Int) (w : World) :
    Calls Try.prog 18 #[.int .u16 a, .int .u16 b, .int .u16 c] w fun e w' => e = .returned (.bool (needB a b c)) ∧ w = w' := by
  go_enter Try.func18, Try.ntmps18
  go_wp2_with (go_at_call 16; refine (dist_any _ _ _).mono ?_; rintro e w' ⟨rfl, rfl⟩)
  go_ret
  exact ⟨rfl, rfl⟩

theorem rneed_any (a b c : Int) (w : World) :
    Calls Try.prog 19 #[.int .u16 a, .int .u16 b, .int .u16 c] w fun e w' => e = .returned (.bool (needB a b c)) ∧ w = w' := by
  go_enter Try.func19, Try.ntmps19
  go_wp2_with (go_at_call 17; refine (rdist_any _ _ _).mono ?_; rintro e w' ⟨rfl, rfl⟩)
  go_ret
  exact ⟨rfl, rfl⟩

theorem pick_any (n m : Int) (w : World) (h : 1 ≤ m) (hm : m ≤ 9223372036854775807) :
    Calls Try.prog 32 #[.int .i64 n, .int .i64 m] w fun e w' => e = .returned (.int .i64 (n % m)) ∧ w = w' := by
  have ht : n.tmod m = n % m ∨ (n.tmod m < 0 ∧ n.tmod m + m = n % m) := by
    by_cases hn : n < 0
    · have e1 := Int.tmod_eq_emod (a := n) (b := m)
      have e2 := Int.emod_nonneg n (show m ≠ 0 by omega)
      have e3 := Int.emod_lt_of_pos n (show 0 < m by omega)
      by_cases hd : m ∣ n
      · left
        rw [e1]
        simp [hd]
      · right
        rw [if_neg (by simp [hd]; omega)] at e1
        omega
    · left
      exact Int.tmod_eq_emod_of_nonneg (by omega)
  have hb0 := Int.emod_nonneg n (show m ≠ 0 by omega)
  have hb1 := Int.emod_lt_of_pos n (show 0 < m by omega)
  rcases ht with ht | ⟨ht1, ht2⟩
  · have H : Hid (n.tmod m = n % m) := ht
    have ht0 : 0 ≤ n.tmod m := by omega
    clear ht
    go_enter Try.func32, Try.ntmps32
    go_wp2
    go_ret
    exact ⟨ret_eq (by rw [← H.out]; rfl), rfl⟩
  · have H : Hid (n.tmod m + m = n % m) := ht2
    have hlo : 0 ≤ n.tmod m + m := by omega
    clear ht2
    go_enter Try.func32, Try.ntmps32
    go_wp2
    go_ret
    exact ⟨ret_eq (by rw [← H.out]; rfl), rfl⟩

/-! ## powers -/
theorem isPower_any (n : Int) (w : World) :
    Calls Try.prog 35 #[.int .u64 n] w fun e w' => e = .returned (.bool (powB n)) ∧ w = w' := by
  by_cases h : n = 0
  · subst h
    go_enter Try.func35, Try.ntmps35
    go_wp2
    go_ret
    exact ⟨rfl, rfl⟩
  · have h0 : (n != 0) = true := by simp [h]
    go_enter Try.func35, Try.ntmps35
    go_wp2
    go_ret
    exact ⟨by simp [powB, h0], rfl⟩

theorem isPower_yes (n : Int) (w : World) (h : powB n = true) :
    Calls Try.prog 35 #[.int .u64 n] w fun e w' => e = .returned (.bool true) ∧ w = w' := by
  rw [← h]
  exact isPower_any n w
theorem isPower_no (n : Int) (w : World) (h : powB n = false) :
    Calls Try.prog 35 #[.int .u64 n] w fun e w' => e = .returned (.bool false) ∧ w = w' := by
  rw [← h]
  exact isPower_any n w

end Go.Proofs.Ytomeodmadnobfaa
