/- Ser7 Liv Ser8: joined texts. Conditions: as each theorem names them. -/
import Derived.Test.YtfhhgcgbgmilcaaGreatKp10
/- Contracts of serial.Between and of the reference's NeedAt at wrong positions, Between; of serial.Start: results, and old memory stays. Conditions: as each theorem names them. -/
namespace Go.Proofs.YtfhhgcgbgmilcaaGreat
open Go.ChangeShapes Go.WideShapes Go.ChangeAt Go.RowKit
set_option linter.unusedVariables false

/-- the way from one position to the other -/
def btw1 (a b n : Int) (eb nb : Bool) : Int := b - a + if eb = nb then 0 else n
def btw (a b n : Int) (eb nb : Bool) : Int := if btw1 a b n eb nb < 0 then btw1 a b n eb nb + 2 * n else btw1 a b n eb nb
theorem btw_neg {a b n : Int} {eb nb : Bool} (h : btw1 a b n eb nb < 0) : btw a b n eb nb = btw1 a b n eb nb + 2 * n := by
  unfold btw
  rw [if_pos h]
theorem btw_pos {a b n : Int} {eb nb : Bool} (h : ¬ btw1 a b n eb nb < 0) : btw a b n eb nb = btw1 a b n eb nb := by
  unfold btw
  rw [if_neg h]
theorem btw_ret {x y : Int} (h : x = y) : Ending.returned (.tuple #[.int .i64 x, .int .i64 0]) = .returned (.tuple #[.int .i64 y, .int .i64 0]) := by rw [h]

end Go.Proofs.YtfhhgcgbgmilcaaGreat

/- The contract of the statements' common examples, 'lives': it returns true and leaves old memory alone. No condition. -/
namespace Go.Proofs.YtfhhgcgbgmilcaaGreat
open Go.ChangeShapes Go.WideShapes Go.ChangeAt Go.RowKit
set_option linter.unusedVariables false

end Go.Proofs.YtfhhgcgbgmilcaaGreat

/- The contract of serial.Go in one piece, for every valid move; plain facts on it. Conditions: the position and the move are valid. -/
namespace Go.Proofs.YtfhhgcgbgmilcaaGreat
open Go.ChangeShapes Go.WideShapes Go.ChangeAt Go.RowKit
set_option linter.unusedVariables false

/-- where a move leads -/
def goA (p d n : Int) : Int := if p + d < n then p + d else p + d - n
def goW (p d n : Int) (b : Bool) : Bool := if p + d < n then b else !b

theorem goA_lo {p d n : Int} (h3 : 0 ≤ p) (h5 : 0 ≤ d) : 0 ≤ goA p d n := by
  unfold goA
  split <;> omega
theorem goA_hi {p d n : Int} (h4 : p < n) (h6 : d ≤ n) : goA p d n < n := by
  unfold goA
  split <;> omega

theorem go_any (p d n : Int) (b : Bool) (w : World) (h1 : 1 ≤ n) (h2 : n ≤ 32768) (h3 : 0 ≤ p) (h4 : p < n) (h5 : 0 ≤ d) (h6 : d ≤ n) :
    Calls Tryz.prog 82 #[.agg #[.int .i64 p, .bool b], .int .i64 d, .int .i64 n] w fun e w' => e = .returned (.tuple #[.agg #[.int .i64 (goA p d n), .bool (goW p d n b)], .int .i64 0]) ∧ Below w.heap.size w w' := by
  by_cases h : p + d < n
  · have e1 : goA p d n = p + d := by
      unfold goA
      rw [if_pos h]
    have e2 : goW p d n b = b := by
      unfold goW
      rw [if_pos h]
    rw [e1, e2]
    exact go_in p d n b w h1 h2 h3 h4 h5 h6 h
  · have e1 : goA p d n = p + d - n := by
      unfold goA
      rw [if_neg h]
    have e2 : goW p d n b = !b := by
      unfold goW
      rw [if_neg h]
    rw [e1, e2]
    exact go_over p d n b w h1 h2 h3 h4 h5 h6 (by omega)

theorem seen_is (p d k n : Int) (b : Bool) (h1 : 1 ≤ n) (h2 : n ≤ 32768) (h3 : 0 ≤ p) (h4 : p < n) (h5 : 0 ≤ d) (h6 : d ≤ n) (h7 : 0 ≤ k) (h8 : k < n) :
    needAtB (goA p k n) (goA p d n) d n (goW p k n b) (goW p d n b) = decide (k < d) := by
  unfold needAtB goA goW needB
  by_cases c1 : p + d < n
  · by_cases c2 : p + k < n
    · cases b <;> simp [c1, c2, sub16_eq, IntKind.wrap_u16] <;> omega
    · cases b <;> simp [c1, c2, sub16_eq, IntKind.wrap_u16] <;> omega
  · by_cases c2 : p + k < n
    · cases b <;> simp [c1, c2, sub16_eq, IntKind.wrap_u16] <;> omega
    · cases b <;> simp [c1, c2, sub16_eq, IntKind.wrap_u16] <;> omega

theorem pick_in (n m : Int) (w : World) (h : 1 ≤ m) (hm : m ≤ 65536) :
    Calls Tryz.prog 7 #[.int .i64 n, .int .i64 m] w fun e w' => ∃ x : Int, (0 ≤ x ∧ x < m ∧ x = n % m) ∧ e = .returned (.int .i64 x) ∧ w = w' :=
  (pick_any n m w h (by omega)).mono fun e w' ⟨he, hw⟩ => ⟨n % m, ⟨Int.emod_nonneg n (by omega), Int.emod_lt_of_pos n (by omega), rfl⟩, he, hw⟩

end Go.Proofs.YtfhhgcgbgmilcaaGreat
