/- The contract of math/bits.Len64: no more than 64 bits, and the number lies below that power. Condition: a number of 64 bits. -/
import Derived.Test.YtfbimocgcnaogaaRows
import Derived.Test.YtfbimocgcnaogaaWld
import Derived.WalkKit
import Derived.ProofKit
import Derived.Lib.BitFns
import Derived.Lib.Strings
import Derived.Lib.Slices
import Derived.Lib.Small
import Derived.Lib.Walk
namespace Go.Proofs.Ytfbimocgcnaogaa
open Go.ChangeShapes Go.WideShapes Go.ChangeAt Go.RowKit
set_option linter.unusedVariables false

theorem len_lt : ∀ n : Fin 256, n.val < 2 ^ Lib.bitLen n.val := by decide +kernel
/-- the last byte's length, a power of 256 further up -/
theorem len_up (x b : Int) (k : Nat) (h0 : 0 ≤ b) (h1 : b ≤ 255) (hx0 : 0 ≤ x) (hx : x < (b + 1) * ((2 ^ k : Nat) : Int)) : ∃ n : Nat, (Lib.bitLen b.toNat : Int) + k = n ∧ n ≤ 8 + k ∧ x.toNat < 2 ^ n := by
  have hl := len_lt ⟨b.toNat, by omega⟩
  have hle := Lib.bitLen_le8' b h0 h1
  refine ⟨Lib.bitLen b.toNat + k, by omega, by omega, ?_⟩
  simp only at hl
  rw [Nat.pow_add]
  have h3 : (b.toNat + 1) * 2 ^ k ≤ 2 ^ Lib.bitLen b.toNat * 2 ^ k := Nat.mul_le_mul_right _ hl
  have h4 : (x.toNat : Int) < (((b.toNat + 1) * 2 ^ k : Nat) : Int) := by
    rw [Int.natCast_mul]
    have e : ((b.toNat + 1 : Nat) : Int) = b + 1 := by omega
    rw [e]
    omega
  omega

theorem tab_size : Lib.len8tab.size = 256 := by decide +kernel
theorem tab_fin : ∀ i : Fin 256, (Lib.len8tab[i.val]'(by rw [tab_size]; exact i.isLt)).toNat = Lib.bitLen i.val := by decide +kernel
theorem tab_at (b : Int) (h : b.toNat < Lib.len8tab.size) : ((Lib.len8tab[b.toNat]'h).toNat : Int) = Lib.bitLen b.toNat := by
  have := tab_fin ⟨b.toNat, by rw [tab_size] at h; exact h⟩
  simp only at this
  omega
theorem len_fin (w : World) (x b : Int) (k : Nat) (h : b.toNat < Lib.len8tab.size) (hk : k ≤ 56) (hk0 : 1 ≤ k) (hb0 : 0 ≤ b) (hb1 : b ≤ 255) (h0 : 0 ≤ x) (hx : x < (b + 1) * ((2 ^ k : Nat) : Int)) :
    ∃ n : Nat, Ending.returned (.int .i64 (wrap64 ((k : Int) + wrap64 ((Lib.len8tab[b.toNat]'h).toNat : Int)))) = .returned (.int .i64 n) ∧ (n ≤ 64 ∧ x.toNat < 2 ^ n) ∧ w = w := by
  obtain ⟨n, h1, h2, h3⟩ := len_up x b k hb0 hb1 h0 hx
  have hle := Lib.bitLen_le8' b hb0 hb1
  refine ⟨n, ret_eq ?_, ⟨by omega, h3⟩, rfl⟩
  rw [tab_at b h, IntWalk.wrap64_in (Lib.bitLen b.toNat : Int) (by omega), IntWalk.wrap64_in _ (by omega)]
  congr 1
  omega
theorem len_fin0 (w : World) (x : Int) (h : x.toNat < Lib.len8tab.size) (hb1 : x ≤ 255) (h0 : 0 ≤ x) :
    ∃ n : Nat, Ending.returned (.int .i64 (wrap64 (wrap64 ((Lib.len8tab[x.toNat]'h).toNat : Int)))) = .returned (.int .i64 n) ∧ (n ≤ 64 ∧ x.toNat < 2 ^ n) ∧ w = w := by
  obtain ⟨n, h1, h2, h3⟩ := len_up x x 0 h0 hb1 h0 (by simp; omega)
  have hle := Lib.bitLen_le8' x h0 hb1
  refine ⟨n, ret_eq ?_, ⟨by omega, h3⟩, rfl⟩
  rw [tab_at x h, IntWalk.wrap64_in (Lib.bitLen x.toNat : Int) (by omega), IntWalk.wrap64_in _ (by omega)]
  congr 1

end Go.Proofs.Ytfbimocgcnaogaa
