/- Ser5 Ser6: joined texts. Conditions: as each theorem names them. -/
import Derived.Test.YtgdokgpplldddaaKp14
/- Contracts of serial.Align and of the reference's: results; the world stays. Conditions: both numbers fit 64 bits. -/
namespace Go.Proofs.Ytgdokgpplldddaa
open Go.ChangeShapes Go.WideShapes Go.ChangeAt Go.RowKit
set_option linter.unusedVariables false

def alOk (n t : Int) : Bool := powB t && decide (n + t ≤ 18446744073709551616)
def alV (n t : Int) : Int := if alOk n t = true then t * ((n + t - 1) / t) else 0
def alE (n t : Int) : Int := if alOk n t = true then 0 else 2

theorem al_no (n t : Int) (h : alOk n t = false) : alV n t = 0 ∧ alE n t = 2 := by
  unfold alV alE
  rw [h]
  exact ⟨rfl, rfl⟩
theorem al_yes (n t v : Int) (h : alOk n t = true) (hv : t * ((n + t - 1) / t) = v) : alV n t = v ∧ alE n t = 0 := by
  unfold alV alE
  rw [h]
  exact ⟨hv, rfl⟩
theorem al_ret {n t v x : Int} (h : alV n t = v ∧ alE n t = x) : Ending.returned (.tuple #[.int .u64 v, .int .i64 x]) = .returned (.tuple #[.int .u64 (alV n t), .int .i64 (alE n t)]) := by
  rw [h.1, h.2]

theorem al_np (n t : Int) (h : powB t = false) : alV n t = 0 ∧ alE n t = 2 := al_no n t (by unfold alOk; rw [h]; rfl)

theorem al_big (n t : Int) (hn : U64 n) (ht : U64 t) (hp : powB t = true) (h : IntKind.u64.wrap (-t) < n) : alV n t = 0 ∧ alE n t = 2 := by
  apply al_no
  obtain ⟨k, hk, rfl⟩ := (powB_iff t ht.1 ht.2).1 hp
  have h1 := pow2_pos k
  have h2 := pow2_lt (j := k) (k := 64) hk
  have e64 : pow2 64 = 18446744073709551616 := by decide
  rw [IntKind.wrap_u64] at h
  unfold alOk
  rw [show decide (n + pow2 k ≤ 18446744073709551616) = false from by simp; omega]
  simp

theorem al_fits (n t : Int) (hn : U64 n) (ht : U64 t) (hp : powB t = true) (h : n ≤ IntKind.u64.wrap (-t)) :
    alV n t = bits .andNot .u64 (IntKind.u64.wrap (IntKind.u64.wrap (n + t) - 1)) (IntKind.u64.wrap (t - 1)) ∧ alE n t = 0 := by
  obtain ⟨k, hk, rfl⟩ := (powB_iff t ht.1 ht.2).1 hp
  have h1 := pow2_pos k
  have h2 := pow2_lt (j := k) (k := 64) hk
  have e64 : pow2 64 = 18446744073709551616 := by decide
  have hn0 := hn.1
  rw [IntKind.wrap_u64] at h
  apply al_yes
  · unfold alOk
    rw [hp, show decide (n + pow2 k ≤ 18446744073709551616) = true from by simp; omega]
    rfl
  · rw [IntKind.wrap_u64, IntKind.wrap_u64, IntKind.wrap_u64]
    have e1 : ((n + pow2 k) % 18446744073709551616 - 1) % 18446744073709551616 = n + pow2 k - 1 := by omega
    have e2 : (pow2 k - 1) % 18446744073709551616 = pow2 k - 1 := by omega
    rw [e1, e2, u64_align _ k hk (by omega) (by omega)]

theorem ral_powB (t : Int) : powB t = !(t == 0 || bits .and .u64 t (IntKind.u64.wrap (t - 1)) != 0) := by
  unfold powB
  cases h1 : t == 0 <;> cases h2 : bits .and .u64 t (IntKind.u64.wrap (t - 1)) == 0 <;> simp_all [bne]

theorem ral_mod (n t : Int) (hn : U64 n) (ht : U64 t) (hp : powB t = true) (h : (n.tmod t == 0) = true) : alV n t = n ∧ alE n t = 0 := by
  obtain ⟨k, hk, rfl⟩ := (powB_iff t ht.1 ht.2).1 hp
  have h1 := pow2_pos k
  have h2 := pow2_lt (j := k) (k := 64) hk
  have e64 : pow2 64 = 18446744073709551616 := by decide
  rw [Int.tmod_eq_emod_of_nonneg hn.1, beq_iff_eq] at h
  obtain ⟨q, hq⟩ := Int.dvd_of_emod_eq_zero h
  have hs := pow2_split (j := k) (k := 64) (by omega)
  have hn1 := hn.2
  have hlt : q < pow2 (64 - k) := by
    rw [← e64, hs, hq] at hn1
    exact Int.lt_of_mul_lt_mul_left hn1 (by omega)
  have hle : pow2 k * (q + 1) ≤ pow2 k * pow2 (64 - k) := Int.mul_le_mul_of_nonneg_left (by omega) (by omega)
  rw [Int.mul_add, Int.mul_one, ← hq, ← hs, e64] at hle
  apply al_yes
  · unfold alOk
    rw [hp, show decide (n + pow2 k ≤ 18446744073709551616) = true from by simp; omega]
    rfl
  · have : (n + pow2 k - 1) / pow2 k = q := by
      rw [hq, show pow2 k * q + pow2 k - 1 = (pow2 k - 1) + pow2 k * q from by omega, Int.add_mul_ediv_left _ _ (by omega), Int.ediv_eq_zero_of_lt (by omega) (by omega)]
      omega
    rw [this, hq]

theorem ral_split (n t : Int) (hn : U64 n) (ht : U64 t) (hp : powB t = true) (h : (n.tmod t == 0) = false) :
    ∃ k : Nat, ∃ q r M : Int, k < 64 ∧ t = pow2 k ∧ n = pow2 k * q + r ∧ n.tmod t = r ∧ 0 < r ∧ r < pow2 k ∧ 0 ≤ q ∧ q < M ∧ pow2 k * M = 18446744073709551616 ∧ (n + t - 1) / t = q + 1 ∧ 1 ≤ pow2 k := by
  obtain ⟨k, hk, rfl⟩ := (powB_iff t ht.1 ht.2).1 hp
  have h1 := pow2_pos k
  have e64 : pow2 64 = 18446744073709551616 := by decide
  rw [Int.tmod_eq_emod_of_nonneg hn.1, beq_eq_false_iff_ne] at h
  have hs := pow2_split (j := k) (k := 64) (by omega)
  have hd := Int.mul_ediv_add_emod n (pow2 k)
  have hr0 := Int.emod_nonneg n (show pow2 k ≠ 0 by omega)
  have hr1 := Int.emod_lt_of_pos n (show 0 < pow2 k by omega)
  have hq0 := Int.ediv_nonneg hn.1 (show 0 ≤ pow2 k by omega)
  have hn1 := hn.2
  refine ⟨k, n / pow2 k, n % pow2 k, pow2 (64 - k), hk, rfl, hd.symm, Int.tmod_eq_emod_of_nonneg hn.1, by omega, hr1, hq0, ?_, by rw [← hs, e64], ?_, h1⟩
  · have hlt : pow2 k * (n / pow2 k) < pow2 k * pow2 (64 - k) := by
      rw [← hs, e64]
      omega
    exact Int.lt_of_mul_lt_mul_left hlt (by omega)
  · have e1 : n + pow2 k - 1 = (n % pow2 k - 1) + pow2 k * (n / pow2 k + 1) := by
      rw [Int.mul_add, Int.mul_one]
      omega
    rw [e1, Int.add_mul_ediv_left _ _ (by omega), Int.ediv_eq_zero_of_lt (by omega) (by omega)]
    omega

theorem ral_over (n t : Int) (hn : U64 n) (ht : U64 t) (hp : powB t = true) (h : (n.tmod t == 0) = false) (hlt : IntKind.u64.wrap (IntKind.u64.wrap (n - n.tmod t) + t) < n) : alV n t = 0 ∧ alE n t = 2 := by
  obtain ⟨k, q, r, M, hk, rfl, hq, hm, r0, r1, q0, qM, hM, hdiv, h1⟩ := ral_split n t hn ht hp h
  have hn0 := hn.1
  have hn1 := hn.2
  have hle : pow2 k * (q + 1) ≤ pow2 k * M := Int.mul_le_mul_of_nonneg_left (by omega) (by omega)
  rw [Int.mul_add, Int.mul_one] at hle
  have hpq : 0 ≤ pow2 k * q := Int.mul_nonneg (by omega) q0
  rw [hm, IntKind.wrap_u64, IntKind.wrap_u64] at hlt
  apply al_no
  unfold alOk
  rw [show decide (n + pow2 k ≤ 18446744073709551616) = false from by simp; omega]
  simp

theorem ral_up (n t : Int) (hn : U64 n) (ht : U64 t) (hp : powB t = true) (h : (n.tmod t == 0) = false) (hlt : n ≤ IntKind.u64.wrap (IntKind.u64.wrap (n - n.tmod t) + t)) :
    alV n t = IntKind.u64.wrap (IntKind.u64.wrap (n - n.tmod t) + t) ∧ alE n t = 0 := by
  obtain ⟨k, q, r, M, hk, rfl, hq, hm, r0, r1, q0, qM, hM, hdiv, h1⟩ := ral_split n t hn ht hp h
  have hn0 := hn.1
  have hn1 := hn.2
  have hle : pow2 k * (q + 1) ≤ pow2 k * M := Int.mul_le_mul_of_nonneg_left (by omega) (by omega)
  rw [Int.mul_add, Int.mul_one] at hle
  have hpq : 0 ≤ pow2 k * q := Int.mul_nonneg (by omega) q0
  rw [hm, IntKind.wrap_u64, IntKind.wrap_u64] at hlt ⊢
  by_cases hMq : q + 1 = M
  · rw [← hMq, Int.mul_add, Int.mul_one] at hM
    omega
  · have hle2 : pow2 k * (q + 2) ≤ pow2 k * M := Int.mul_le_mul_of_nonneg_left (by omega) (by omega)
    rw [Int.mul_add] at hle2
    apply al_yes
    · unfold alOk
      rw [hp, show decide (n + pow2 k ≤ 18446744073709551616) = true from by simp; omega]
      rfl
    · rw [hdiv, Int.mul_add, Int.mul_one]
      omega

end Go.Proofs.Ytgdokgpplldddaa

/- Contracts of serial.NeedAt, Between and of the reference's: results, and old memory stays. Conditions: as each theorem names them. -/
namespace Go.Proofs.Ytgdokgpplldddaa
open Go.ChangeShapes Go.WideShapes Go.ChangeAt Go.RowKit
set_option linter.unusedVariables false

/-- the answer of NeedAt, of positions that are valid -/
def needAtB (ea na d n : Int) (eb nb : Bool) : Bool := needB (if eb = nb then ea else IntKind.u16.wrap (ea - n)) na (IntKind.u16.wrap (na - d))
theorem needAt_ret {a b : Bool} (h : a = b) : Ending.returned (.tuple #[.bool a, .int .i64 0]) = .returned (.tuple #[.bool b, .int .i64 0]) := by rw [h]
theorem low16_same (x : Int) (h0 : 0 ≤ x) (h1 : x < 65536) : x % 65536 = x := Int.emod_eq_of_lt h0 h1

end Go.Proofs.Ytgdokgpplldddaa
