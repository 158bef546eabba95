/- Contracts of the kit's small functions: Pick. Conditions: as each theorem names them. -/
import Derived.Test.YtfbimocgcnaogaaRows
import Derived.Test.YtfbimocgcnaogaaWld
import Derived.WalkKit
import Derived.ProofKit
namespace Go.Proofs.Ytfbimocgcnaogaa
open Go.ChangeShapes Go.WideShapes Go.ChangeAt Go.RowKit
set_option linter.unusedVariables false
set_option maxRecDepth 100000

theorem pick_any (n m : Int) (w : World) (h : 1 ≤ m) (hm : m ≤ 9223372036854775807) :
    Calls Try.prog 20 #[.int .i64 n, .int .i64 m] w fun e w' => e = .returned (.int .i64 (n % m)) ∧ w = w' := by
  have ht : n.tmod m = n % m ∨ (n.tmod m < 0 ∧ n.tmod m + m = n % m) := by
    by_cases hn : n < 0
    · have e1 := Int.tmod_eq_emod (a := n) (b := m)
      have e2 := Int.emod_nonneg n (show m ≠ 0 by omega)
      have e3 := Int.emod_lt_of_pos n (show 0 < m by omega)
      by_cases hd : m ∣ n
      · left
        rw [e1]
        simp [hd]
      · right
        rw [if_neg (by simp [hd]; omega)] at e1
        omega
    · left
      exact Int.tmod_eq_emod_of_nonneg (by omega)
  have hb0 := Int.emod_nonneg n (show m ≠ 0 by omega)
  have hb1 := Int.emod_lt_of_pos n (show 0 < m by omega)
  rcases ht with ht | ⟨ht1, ht2⟩
  · have H : Hid (n.tmod m = n % m) := ht
    have ht0 : 0 ≤ n.tmod m := by omega
    clear ht
    go_enter Try.func20, Try.ntmps20
    go_wp2
    go_ret
    exact ⟨ret_eq (by rw [← H.out]; rfl), rfl⟩
  · have H : Hid (n.tmod m + m = n % m) := ht2
    have hlo : 0 ≤ n.tmod m + m := by omega
    clear ht2
    go_enter Try.func20, Try.ntmps20
    go_wp2
    go_ret
    exact ⟨ret_eq (by rw [← H.out]; rfl), rfl⟩

theorem pick_at (n m r : Int) (w : World) (h : 1 ≤ m) (hm : m ≤ 9223372036854775807) (hr : n % m = r) :
    Calls Try.prog 20 #[.int .i64 n, .int .i64 m] w fun e w' => e = .returned (.int .i64 r) ∧ w = w' := by
  subst hr
  exact pick_any n m w h hm
end Go.Proofs.Ytfbimocgcnaogaa
