/- Contracts of serial.Power, Align, NeedAt, Between and of the reference's: results, and old memory stays. Conditions: as each theorem names them. -/
import Derived.Test.YtolflhnkdnjckaaSer3
namespace Go.Proofs.Ytolflhnkdnjckaa
open Go.ChangeShapes Go.WideShapes Go.ChangeAt Go.RowKit
set_option linter.unusedVariables false

def powI (n : Int) : Bool := decide (1 ≤ n ∧ n ≤ 32768) && powB n

theorem power_any (n : Int) (w : World) :
    Calls Try.prog 44 #[.int .i64 n] w fun e w' => e = .returned (.bool (powI n)) ∧ w = w' := by
  by_cases h : n < 1 ∨ 32768 < n
  · have hf : powI n = false := by
      unfold powI
      rw [show decide (1 ≤ n ∧ n ≤ 32768) = false from by simp; omega]
      rfl
    rw [hf]
    clear hf
    go_enter Try.func44, Try.ntmps44
    go_wp2_with (go_at_call 51; refine (validSize_no _ _ h).mono ?_; rintro e w' ⟨rfl, rfl⟩)
    go_ret
    exact ⟨rfl, rfl⟩
  · have hf : powI n = powB n := by
      unfold powI
      rw [show decide (1 ≤ n ∧ n ≤ 32768) = true from by simp; omega]
      rfl
    have hw : IntKind.u64.wrap n = n := by
      rw [IntKind.wrap_u64]
      omega
    rw [hf]
    clear hf
    have h1 : 1 ≤ n := by omega
    have h2 : n ≤ 32768 := by omega
    go_enter Try.func44, Try.ntmps44
    go_wp2_with (first | (go_at_call 51; refine (validSize_yes _ _ h1 h2).mono ?_; rintro e w' ⟨rfl, rfl⟩) | (go_at_call 45; refine (isPower_any _ _).mono ?_; rintro e w' ⟨rfl, rfl⟩))
    go_ret
    exact ⟨by simp, rfl⟩

theorem powI_none (n : Int) (h : ∀ i : Nat, i < 16 → n ≠ pow2 i) : powI n = false := by
  unfold powI
  by_cases hn : 1 ≤ n ∧ n ≤ 32768
  · rw [powB_false (by omega) (by omega)]
    · simp
    · rintro ⟨k, hk, he⟩
      by_cases hk16 : k < 16
      · exact h k hk16 he
      · have := pow2_le (j := 16) (k := k) (by omega)
        have e16 : pow2 16 = 65536 := by decide
        omega
  · rw [show decide (1 ≤ n ∧ n ≤ 32768) = false from by simp; omega]
    rfl
theorem powI_some (k : Nat) (h : k < 16) : powI (pow2 k) = true := by
  unfold powI
  have h1 := pow2_pos k
  have h2 := pow2_le (j := k) (k := 15) (by omega)
  have e15 : pow2 15 = 32768 := by decide
  rw [(powB_iff (pow2 k) (by omega) (by omega)).2 ⟨k, by omega, rfl⟩]
  simp
  omega

theorem rpower_any (n : Int) (w : World) :
    Calls Try.prog 49 #[.int .i64 n] w fun e w' => e = .returned (.bool (powI n)) ∧ w = w' := by
  go_enter Try.func49, Try.ntmps49
  go_wp2
  go_loop [3] (fun k => ∃ j : Nat, j ≤ 16 ∧ k = .int .i64 (pow2 j) ∧ ∀ i : Nat, i < j → n ≠ pow2 i) (fun k => (65536 - intOf k).toNat)
  case atStart => exact ⟨0, by omega, rfl, fun i hi => by omega⟩
  case round =>
    obtain ⟨j, hj, rfl, hall⟩ := hrel
    have HA : Hid (∀ i : Nat, i < j → n ≠ pow2 i) := hall
    clear hall
    have hp := pow2_pos j
    by_cases hj16 : j = 16
    · subst hj16
      have e16 : pow2 16 = 65536 := by decide
      have HF : Hid (false = powI n) := (powI_none n HA.out).symm
      go_wp2
      go_ret
      exact ⟨congrArg (fun b => Ending.returned (.bool b)) HF.out, rfl⟩
    · have h2 := pow2_le (j := j) (k := 15) (by omega)
      have e15 : pow2 15 = 32768 := by decide
      have h3 : pow2 j ≤ 32768 := by omega
      have h4 : Hid (2 * pow2 j = pow2 (j + 1)) := (pow2_succ j).symm
      clear e15 h2
      by_cases hn : pow2 j = n
      · have HF : Hid (true = powI n) := by
          rw [← hn]
          exact (powI_some j (by omega)).symm
        have hb : (pow2 j == n) = true := by simp [hn]
        clear hn
        go_wp2
        go_ret
        exact ⟨congrArg (fun b => Ending.returned (.bool b)) HF.out, rfl⟩
      · have hb : (pow2 j == n) = false := by simp [hn]
        go_wp2
        go_round
        case rel => exact ⟨j + 1, by omega, by rw [← h4.out], fun i hi => by
          by_cases hij : i = j
          · subst hij
            exact fun h => hn h.symm
          · exact HA.out i (by omega)⟩
        case measure =>
          simp [intOf]
          omega

end Go.Proofs.Ytolflhnkdnjckaa
