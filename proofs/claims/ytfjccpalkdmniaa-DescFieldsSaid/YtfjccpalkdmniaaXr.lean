/- Changing one byte of a little-endian word changes the word by that byte, shifted. No program in sight. -/
import Derived.Test.YtfjccpalkdmniaaLe
import Derived.Laws.BitsAllLaws
namespace Go.Proofs.Ytfjccpalkdmniaa
open Go
set_option linter.unusedVariables false
set_option maxRecDepth 100000

/-- on numbers -/
def leN : List Nat → Nat
  | [] => 0
  | x :: l => 2 ^ 8 * leN l + x
theorem xor_low {x y L : Nat} (hx : x < 2 ^ 8) (hy : y < 2 ^ 8) : (2 ^ 8 * L + x) ^^^ y = 2 ^ 8 * L + (x ^^^ y) := by
  apply Nat.eq_of_testBit_eq
  intro i
  rw [Nat.testBit_xor, Nat.testBit_two_pow_mul_add _ hx, Nat.testBit_two_pow_mul_add _ (Nat.xor_lt_two_pow hx hy), Nat.testBit_xor]
  by_cases h : i < 8
  · simp [h]
  · have : y.testBit i = false := Nat.testBit_lt_two_pow (Nat.lt_of_lt_of_le hy (Nat.pow_le_pow_right (by omega) (by omega)))
    simp [h, this]
theorem xor_high {x L z : Nat} (hx : x < 2 ^ 8) : (2 ^ 8 * L + x) ^^^ (2 ^ 8 * z) = 2 ^ 8 * (L ^^^ z) + x := by
  apply Nat.eq_of_testBit_eq
  intro i
  rw [Nat.testBit_xor, Nat.testBit_two_pow_mul_add _ hx, Nat.testBit_two_pow_mul_add _ hx, Nat.testBit_two_pow_mul, Nat.testBit_xor]
  by_cases h : i < 8
  · simp [h, show ¬ 8 ≤ i by omega]
  · simp [h, show 8 ≤ i by omega]
theorem leN_xor : ∀ (l : List Nat) (k y : Nat), (∀ x ∈ l, x < 2 ^ 8) → y < 2 ^ 8 → k < l.length → leN (l.set k (l.getD k 0 ^^^ y)) = leN l ^^^ (2 ^ (8 * k) * y)
  | [], k, y, _, _, hk => by simp at hk
  | x :: l, 0, y, hl, hy, _ => by
    have hx := hl x (by simp)
    simp only [List.set_cons_zero, leN, List.getD_cons_zero]
    rw [Nat.mul_zero, Nat.pow_zero, Nat.one_mul, xor_low hx hy]
  | x :: l, k + 1, y, hl, hy, hk => by
    have hx := hl x (by simp)
    have ih := leN_xor l k y (fun z hz => hl z (by simp [hz])) hy (by simpa using hk)
    simp only [List.set_cons_succ, leN, List.getD_cons_succ]
    have e : 2 ^ (8 * (k + 1)) * y = 2 ^ 8 * (2 ^ (8 * k) * y) := by
      rw [← Nat.mul_assoc, ← Nat.pow_add, show 8 + 8 * k = 8 * (k + 1) by omega]
    rw [ih, e, xor_high hx]
theorem leN_toNat : ∀ {l : List Int}, isBytes l → le l = ((leN (l.map Int.toNat) : Nat) : Int)
  | [], _ => rfl
  | x :: l, h => by
    have h1 := isBytes_cons h
    have ih := leN_toNat h1.2
    simp only [le, List.map_cons, leN, ih]
    have : ((2 ^ 8 : Nat) : Int) = 256 := by decide
    push_cast
    omega
theorem toNat_set (l : List Int) (k : Nat) (v : Int) : (l.set k v).map Int.toNat = (l.map Int.toNat).set k v.toNat := by rw [List.map_set]
theorem le_xor {l : List Int} (hl : isBytes l) (k : Nat) (y : Int) (hy : 0 ≤ y ∧ y < 256) (hk : k < l.length) :
    le (l.set k (bits .xor .u8 (l.getD k 0) y)) = (((le l).toNat ^^^ (2 ^ (8 * k) * y.toNat) : Nat) : Int) := by
  have hb := isBytes_at hl k
  have hx : bits .xor .u8 (l.getD k 0) y = (((l.getD k 0).toNat ^^^ y.toNat : Nat) : Int) := u8_xor _ _ hb.1 hb.2 hy.1 hy.2
  have hxl : (l.getD k 0).toNat ^^^ y.toNat < 2 ^ 8 := Nat.xor_lt_two_pow (by have := hb.2; omega) (by have := hy.2; omega)
  have hset : isBytes (l.set k (bits .xor .u8 (l.getD k 0) y)) := fun z hz => by
    rcases List.mem_or_eq_of_mem_set hz with h | h
    · exact hl z h
    · rw [h, hx]
      omega
  have hmem : ∀ x ∈ l.map Int.toNat, x < 2 ^ 8 := fun x hx => by
    obtain ⟨z, hz, rfl⟩ := List.mem_map.1 hx
    have := hl z hz
    omega
  have hget : (l.map Int.toNat).getD k 0 = (l.getD k 0).toNat := by
    simp [List.getD, hk]
  have h := leN_xor (l.map Int.toNat) k y.toNat hmem (by have := hy.2; omega) (by simpa using hk)
  rw [leN_toNat hset, toNat_set, hx, Int.toNat_natCast, ← hget, h, leN_toNat hl, Int.toNat_natCast]
theorem sh_lt {k n : Nat} {y : Int} (hy : 0 ≤ y ∧ y < 256) (hk : k < n) : 2 ^ (8 * k) * y.toNat < 2 ^ (8 * n) := by
  have h1 : y.toNat < 2 ^ 8 := by have := hy.2; omega
  have h2 : 2 ^ (8 * k) * y.toNat < 2 ^ (8 * k) * 2 ^ 8 := Nat.mul_lt_mul_of_pos_left h1 (Nat.two_pow_pos _)
  rw [← Nat.pow_add] at h2
  exact Nat.lt_of_lt_of_le h2 (Nat.pow_le_pow_right (by omega) (by omega))
theorem sh_cast {k : Nat} {y : Int} (hy : 0 ≤ y ∧ y < 256) : pow2 (8 * k) * y = ((2 ^ (8 * k) * y.toNat : Nat) : Int) := by
  unfold pow2
  rw [Int.natCast_mul, Int.toNat_of_nonneg hy.1]
theorem le_xor64 {l : List Int} (hl : isBytes l) (h8 : l.length = 8) (k : Nat) (y : Int) (hy : 0 ≤ y ∧ y < 256) (hk : k < 8) : le (l.set k (bits .xor .u8 (l.getD k 0) y)) = bits .xor .u64 (le l) (pow2 (8 * k) * y) := by
  have h0 := le_lo hl
  have h1 := le_hi hl
  rw [h8] at h1
  have h2 : pow2 (8 * 8) = 18446744073709551616 := by decide
  have h3 := sh_lt (n := 8) hy hk
  have h4 : (2 : Nat) ^ (8 * 8) = 18446744073709551616 := by decide
  rw [le_xor hl k y hy (by omega), sh_cast hy, u64_xor _ _ h0 (by omega) (by omega) (by omega), Int.toNat_natCast]
theorem le_xor32 {l : List Int} (hl : isBytes l) (h8 : l.length = 4) (k : Nat) (y : Int) (hy : 0 ≤ y ∧ y < 256) (hk : k < 4) : le (l.set k (bits .xor .u8 (l.getD k 0) y)) = bits .xor .u32 (le l) (pow2 (8 * k) * y) := by
  have h0 := le_lo hl
  have h1 := le_hi hl
  rw [h8] at h1
  have h2 : pow2 (8 * 4) = 4294967296 := by decide
  have h3 := sh_lt (n := 4) hy hk
  have h4 : (2 : Nat) ^ (8 * 4) = 4294967296 := by decide
  rw [le_xor hl k y hy (by omega), sh_cast hy, u32_xor _ _ h0 (by omega) (by omega) (by omega), Int.toNat_natCast]
theorem le_xor16 {l : List Int} (hl : isBytes l) (h8 : l.length = 2) (k : Nat) (y : Int) (hy : 0 ≤ y ∧ y < 256) (hk : k < 2) : le (l.set k (bits .xor .u8 (l.getD k 0) y)) = bits .xor .u16 (le l) (pow2 (8 * k) * y) := by
  have h0 := le_lo hl
  have h1 := le_hi hl
  rw [h8] at h1
  have h2 : pow2 (8 * 2) = 65536 := by decide
  have h3 := sh_lt (n := 2) hy hk
  have h4 : (2 : Nat) ^ (8 * 2) = 65536 := by decide
  rw [le_xor hl k y hy (by omega), sh_cast hy, u16_xor _ _ h0 (by omega) (by omega) (by omega), Int.toNat_natCast]
/-- a part of a list, one place of which is set -/
theorem part_set_in (M : List Int) (o n k : Nat) (v : Int) (h1 : o ≤ k) (h2 : k < o + n) (h3 : k < M.length) : ((M.set k v).drop o).take n = ((M.drop o).take n).set (k - o) v := by
  rw [List.drop_set, if_neg (by omega), List.take_set]
theorem part_set_out (M : List Int) (o n k : Nat) (v : Int) (h : k < o ∨ o + n ≤ k) : ((M.set k v).drop o).take n = (M.drop o).take n := by
  rw [List.drop_set]
  by_cases h1 : k < o
  · rw [if_pos h1]
  · rw [if_neg h1, List.take_set, List.set_eq_of_length_le]
    simp
    omega
theorem part_at (M : List Int) (o n k : Nat) (h1 : o ≤ k) (h2 : k < o + n) : ((M.drop o).take n).getD (k - o) 0 = M.getD k 0 := by
  simp only [List.getD_eq_getElem?_getD, List.getElem?_take, List.getElem?_drop]
  rw [if_pos (by omega), show o + (k - o) = k from by omega]
end Go.Proofs.Ytfjccpalkdmniaa
