/- Contracts of package serial's functions, of the reference's and of the kit's: what each call returns, and that it leaves old memory alone. Conditions: as each theorem names them. -/
import Derived.Test.YtolflhnkdnjckaaRows
import Derived.Test.YtolflhnkdnjckaaBits
import Derived.Test.YtolflhnkdnjckaaKit
import Derived.WalkKit
import Derived.ProofKit
import Derived.OpenShut
import Derived.Below
import Derived.Deep.DeepCutAuto
namespace Go.Proofs.Ytolflhnkdnjckaa
open Go.ChangeShapes Go.WideShapes Go.ChangeAt Go.RowKit
set_option linter.unusedVariables false

/-! ## numbers -/
theorem validSize_yes (n : Int) (w : World) (h1 : 1 ≤ n) (h2 : n ≤ 32768) :
    Calls Try.prog 51 #[.int .i64 n] w fun e w' => e = .returned (.bool true) ∧ w = w' := by
  go_enter Try.func51, Try.ntmps51
  go_wp2
  go_ret
  exact ⟨rfl, rfl⟩

theorem validSize_no (n : Int) (w : World) (h : n < 1 ∨ 32768 < n) :
    Calls Try.prog 51 #[.int .i64 n] w fun e w' => e = .returned (.bool false) ∧ w = w' := by
  rcases h with h | h
  · go_enter Try.func51, Try.ntmps51
    go_wp2
    go_ret
    exact ⟨rfl, rfl⟩
  · have h' : 1 ≤ n := by omega
    go_enter Try.func51, Try.ntmps51
    go_wp2
    go_ret
    exact ⟨by simp; omega, rfl⟩

def sub16 (a b : Int) : Int := IntKind.u16.wrap (a - b)
theorem sub16_eq (a b : Int) : sub16 a b = (a - b) % 65536 := IntKind.wrap_u16 _

def needB (event next old : Int) : Bool := decide (sub16 (sub16 next event) 1 < sub16 next old)

/-! ## powers -/
theorem isPower_any (n : Int) (w : World) :
    Calls Try.prog 45 #[.int .u64 n] w fun e w' => e = .returned (.bool (powB n)) ∧ w = w' := by
  by_cases h : n = 0
  · subst h
    go_enter Try.func45, Try.ntmps45
    go_wp2
    go_ret
    exact ⟨rfl, rfl⟩
  · have h0 : (n != 0) = true := by simp [h]
    go_enter Try.func45, Try.ntmps45
    go_wp2
    go_ret
    exact ⟨by simp [powB, h0], rfl⟩

theorem isPower_yes (n : Int) (w : World) (h : powB n = true) :
    Calls Try.prog 45 #[.int .u64 n] w fun e w' => e = .returned (.bool true) ∧ w = w' := by
  rw [← h]
  exact isPower_any n w
theorem isPower_no (n : Int) (w : World) (h : powB n = false) :
    Calls Try.prog 45 #[.int .u64 n] w fun e w' => e = .returned (.bool false) ∧ w = w' := by
  rw [← h]
  exact isPower_any n w

end Go.Proofs.Ytolflhnkdnjckaa
