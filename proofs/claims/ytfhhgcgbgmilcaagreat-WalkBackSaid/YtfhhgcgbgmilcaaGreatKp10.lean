/- Ser4 Ser5 Ser6: joined texts. Conditions: as each theorem names them. -/
import Derived.Test.YtfhhgcgbgmilcaaGreatKp09
/- Contracts of serial.Power, Align, NeedAt, Between and of the reference's: results, and old memory stays. Conditions: as each theorem names them. -/
namespace Go.Proofs.YtfhhgcgbgmilcaaGreat
open Go.ChangeShapes Go.WideShapes Go.ChangeAt Go.RowKit
set_option linter.unusedVariables false

def powI (n : Int) : Bool := decide (1 ≤ n ∧ n ≤ 32768) && powB n

theorem power_any (n : Int) (w : World) :
    Calls Tryz.prog 104 #[.int .i64 n] w fun e w' => e = .returned (.bool (powI n)) ∧ w = w' := by
  by_cases h : n < 1 ∨ 32768 < n
  · have hf : powI n = false := by
      unfold powI
      rw [show decide (1 ≤ n ∧ n ≤ 32768) = false from by simp; omega]
      rfl
    rw [hf]
    clear hf
    go_enter Tryz.func104, Tryz.ntmps104
    go_wp2_with (go_at_call 80; refine (validSize_no _ _ h).mono ?_; rintro e w' ⟨rfl, rfl⟩)
    go_ret
    exact ⟨rfl, rfl⟩
  · have hf : powI n = powB n := by
      unfold powI
      rw [show decide (1 ≤ n ∧ n ≤ 32768) = true from by simp; omega]
      rfl
    have hw : IntKind.u64.wrap n = n := by
      rw [IntKind.wrap_u64]
      omega
    rw [hf]
    clear hf
    have h1 : 1 ≤ n := by omega
    have h2 : n ≤ 32768 := by omega
    go_enter Tryz.func104, Tryz.ntmps104
    go_wp2_with (first | (go_at_call 80; refine (validSize_yes _ _ h1 h2).mono ?_; rintro e w' ⟨rfl, rfl⟩) | (go_at_call 110; refine (isPower_any _ _).mono ?_; rintro e w' ⟨rfl, rfl⟩))
    go_ret
    exact ⟨by simp, rfl⟩

theorem powI_none (n : Int) (h : ∀ i : Nat, i < 16 → n ≠ pow2 i) : powI n = false := by
  unfold powI
  by_cases hn : 1 ≤ n ∧ n ≤ 32768
  · rw [powB_false (by omega) (by omega)]
    · simp
    · rintro ⟨k, hk, he⟩
      by_cases hk16 : k < 16
      · exact h k hk16 he
      · have := pow2_le (j := 16) (k := k) (by omega)
        have e16 : pow2 16 = 65536 := by decide
        omega
  · rw [show decide (1 ≤ n ∧ n ≤ 32768) = false from by simp; omega]
    rfl
theorem powI_some (k : Nat) (h : k < 16) : powI (pow2 k) = true := by
  unfold powI
  have h1 := pow2_pos k
  have h2 := pow2_le (j := k) (k := 15) (by omega)
  have e15 : pow2 15 = 32768 := by decide
  rw [(powB_iff (pow2 k) (by omega) (by omega)).2 ⟨k, by omega, rfl⟩]
  simp
  omega

theorem rpower_any (n : Int) (w : World) :
    Calls Tryz.prog 103 #[.int .i64 n] w fun e w' => e = .returned (.bool (powI n)) ∧ w = w' := by
  go_enter Tryz.func103, Tryz.ntmps103
  go_wp2
  go_loop [3] (fun k => ∃ j : Nat, j ≤ 16 ∧ k = .int .i64 (pow2 j) ∧ ∀ i : Nat, i < j → n ≠ pow2 i) (fun k => (65536 - intOf k).toNat)
  case atStart => exact ⟨0, by omega, rfl, fun i hi => by omega⟩
  case round =>
    obtain ⟨j, hj, rfl, hall⟩ := hrel
    have HA : Hid (∀ i : Nat, i < j → n ≠ pow2 i) := hall
    clear hall
    have hp := pow2_pos j
    by_cases hj16 : j = 16
    · subst hj16
      have e16 : pow2 16 = 65536 := by decide
      have HF : Hid (false = powI n) := (powI_none n HA.out).symm
      go_wp2
      go_ret
      exact ⟨congrArg (fun b => Ending.returned (.bool b)) HF.out, rfl⟩
    · have h2 := pow2_le (j := j) (k := 15) (by omega)
      have e15 : pow2 15 = 32768 := by decide
      have h3 : pow2 j ≤ 32768 := by omega
      have h4 : Hid (2 * pow2 j = pow2 (j + 1)) := (pow2_succ j).symm
      clear e15 h2
      by_cases hn : pow2 j = n
      · have HF : Hid (true = powI n) := by
          rw [← hn]
          exact (powI_some j (by omega)).symm
        have hb : (pow2 j == n) = true := by simp [hn]
        clear hn
        go_wp2
        go_ret
        exact ⟨congrArg (fun b => Ending.returned (.bool b)) HF.out, rfl⟩
      · have hb : (pow2 j == n) = false := by simp [hn]
        go_wp2
        go_round
        case rel => exact ⟨j + 1, by omega, by rw [← h4.out], fun i hi => by
          by_cases hij : i = j
          · subst hij
            exact fun h => hn h.symm
          · exact HA.out i (by omega)⟩
        case measure =>
          simp [intOf]
          omega

end Go.Proofs.YtfhhgcgbgmilcaaGreat

/- Contracts of serial.Align and of the reference's: results; the world stays. Conditions: both numbers fit 64 bits. -/
namespace Go.Proofs.YtfhhgcgbgmilcaaGreat
open Go.ChangeShapes Go.WideShapes Go.ChangeAt Go.RowKit
set_option linter.unusedVariables false

def alOk (n t : Int) : Bool := powB t && decide (n + t ≤ 18446744073709551616)
def alV (n t : Int) : Int := if alOk n t = true then t * ((n + t - 1) / t) else 0
def alE (n t : Int) : Int := if alOk n t = true then 0 else 2

theorem al_no (n t : Int) (h : alOk n t = false) : alV n t = 0 ∧ alE n t = 2 := by
  unfold alV alE
  rw [h]
  exact ⟨rfl, rfl⟩
theorem al_yes (n t v : Int) (h : alOk n t = true) (hv : t * ((n + t - 1) / t) = v) : alV n t = v ∧ alE n t = 0 := by
  unfold alV alE
  rw [h]
  exact ⟨hv, rfl⟩
theorem al_ret {n t v x : Int} (h : alV n t = v ∧ alE n t = x) : Ending.returned (.tuple #[.int .u64 v, .int .i64 x]) = .returned (.tuple #[.int .u64 (alV n t), .int .i64 (alE n t)]) := by
  rw [h.1, h.2]

theorem al_np (n t : Int) (h : powB t = false) : alV n t = 0 ∧ alE n t = 2 := al_no n t (by unfold alOk; rw [h]; rfl)

theorem al_big (n t : Int) (hn : U64 n) (ht : U64 t) (hp : powB t = true) (h : IntKind.u64.wrap (-t) < n) : alV n t = 0 ∧ alE n t = 2 := by
  apply al_no
  obtain ⟨k, hk, rfl⟩ := (powB_iff t ht.1 ht.2).1 hp
  have h1 := pow2_pos k
  have h2 := pow2_lt (j := k) (k := 64) hk
  have e64 : pow2 64 = 18446744073709551616 := by decide
  rw [IntKind.wrap_u64] at h
  unfold alOk
  rw [show decide (n + pow2 k ≤ 18446744073709551616) = false from by simp; omega]
  simp

theorem al_fits (n t : Int) (hn : U64 n) (ht : U64 t) (hp : powB t = true) (h : n ≤ IntKind.u64.wrap (-t)) :
    alV n t = bits .andNot .u64 (IntKind.u64.wrap (IntKind.u64.wrap (n + t) - 1)) (IntKind.u64.wrap (t - 1)) ∧ alE n t = 0 := by
  obtain ⟨k, hk, rfl⟩ := (powB_iff t ht.1 ht.2).1 hp
  have h1 := pow2_pos k
  have h2 := pow2_lt (j := k) (k := 64) hk
  have e64 : pow2 64 = 18446744073709551616 := by decide
  have hn0 := hn.1
  rw [IntKind.wrap_u64] at h
  apply al_yes
  · unfold alOk
    rw [hp, show decide (n + pow2 k ≤ 18446744073709551616) = true from by simp; omega]
    rfl
  · rw [IntKind.wrap_u64, IntKind.wrap_u64, IntKind.wrap_u64]
    have e1 : ((n + pow2 k) % 18446744073709551616 - 1) % 18446744073709551616 = n + pow2 k - 1 := by omega
    have e2 : (pow2 k - 1) % 18446744073709551616 = pow2 k - 1 := by omega
    rw [e1, e2, u64_align _ k hk (by omega) (by omega)]

theorem ral_powB (t : Int) : powB t = !(t == 0 || bits .and .u64 t (IntKind.u64.wrap (t - 1)) != 0) := by
  unfold powB
  cases h1 : t == 0 <;> cases h2 : bits .and .u64 t (IntKind.u64.wrap (t - 1)) == 0 <;> simp_all [bne]

theorem ral_mod (n t : Int) (hn : U64 n) (ht : U64 t) (hp : powB t = true) (h : (n.tmod t == 0) = true) : alV n t = n ∧ alE n t = 0 := by
  obtain ⟨k, hk, rfl⟩ := (powB_iff t ht.1 ht.2).1 hp
  have h1 := pow2_pos k
  have h2 := pow2_lt (j := k) (k := 64) hk
  have e64 : pow2 64 = 18446744073709551616 := by decide
  rw [Int.tmod_eq_emod_of_nonneg hn.1, beq_iff_eq] at h
  obtain ⟨q, hq⟩ := Int.dvd_of_emod_eq_zero h
  have hs := pow2_split (j := k) (k := 64) (by omega)
  have hn1 := hn.2
  have hlt : q < pow2 (64 - k) := by
    rw [← e64, hs, hq] at hn1
    exact Int.lt_of_mul_lt_mul_left hn1 (by omega)
  have hle : pow2 k * (q + 1) ≤ pow2 k * pow2 (64 - k) := Int.mul_le_mul_of_nonneg_left (by omega) (by omega)
  rw [Int.mul_add, Int.mul_one, ← hq, ← hs, e64] at hle
  apply al_yes
  · unfold alOk
    rw [hp, show decide (n + pow2 k ≤ 18446744073709551616) = true from by simp; omega]
    rfl
  · have : (n + pow2 k - 1) / pow2 k = q := by
      rw [hq, show pow2 k * q + pow2 k - 1 = (pow2 k - 1) + pow2 k * q from by omega, Int.add_mul_ediv_left _ _ (by omega), Int.ediv_eq_zero_of_lt (by omega) (by omega)]
      omega
    rw [this, hq]

theorem ral_split (n t : Int) (hn : U64 n) (ht : U64 t) (hp : powB t = true) (h : (n.tmod t == 0) = false) :
    ∃ k : Nat, ∃ q r M : Int, k < 64 ∧ t = pow2 k ∧ n = pow2 k * q + r ∧ n.tmod t = r ∧ 0 < r ∧ r < pow2 k ∧ 0 ≤ q ∧ q < M ∧ pow2 k * M = 18446744073709551616 ∧ (n + t - 1) / t = q + 1 ∧ 1 ≤ pow2 k := by
  obtain ⟨k, hk, rfl⟩ := (powB_iff t ht.1 ht.2).1 hp
  have h1 := pow2_pos k
  have e64 : pow2 64 = 18446744073709551616 := by decide
  rw [Int.tmod_eq_emod_of_nonneg hn.1, beq_eq_false_iff_ne] at h
  have hs := pow2_split (j := k) (k := 64) (by omega)
  have hd := Int.mul_ediv_add_emod n (pow2 k)
  have hr0 := Int.emod_nonneg n (show pow2 k ≠ 0 by omega)
  have hr1 := Int.emod_lt_of_pos n (show 0 < pow2 k by omega)
  have hq0 := Int.ediv_nonneg hn.1 (show 0 ≤ pow2 k by omega)
  have hn1 := hn.2
  refine ⟨k, n / pow2 k, n % pow2 k, pow2 (64 - k), hk, rfl, hd.symm, Int.tmod_eq_emod_of_nonneg hn.1, by omega, hr1, hq0, ?_, by rw [← hs, e64], ?_, h1⟩
  · have hlt : pow2 k * (n / pow2 k) < pow2 k * pow2 (64 - k) := by
      rw [← hs, e64]
      omega
    exact Int.lt_of_mul_lt_mul_left hlt (by omega)
  · have e1 : n + pow2 k - 1 = (n % pow2 k - 1) + pow2 k * (n / pow2 k + 1) := by
      rw [Int.mul_add, Int.mul_one]
      omega
    rw [e1, Int.add_mul_ediv_left _ _ (by omega), Int.ediv_eq_zero_of_lt (by omega) (by omega)]
    omega

theorem ral_over (n t : Int) (hn : U64 n) (ht : U64 t) (hp : powB t = true) (h : (n.tmod t == 0) = false) (hlt : IntKind.u64.wrap (IntKind.u64.wrap (n - n.tmod t) + t) < n) : alV n t = 0 ∧ alE n t = 2 := by
  obtain ⟨k, q, r, M, hk, rfl, hq, hm, r0, r1, q0, qM, hM, hdiv, h1⟩ := ral_split n t hn ht hp h
  have hn0 := hn.1
  have hn1 := hn.2
  have hle : pow2 k * (q + 1) ≤ pow2 k * M := Int.mul_le_mul_of_nonneg_left (by omega) (by omega)
  rw [Int.mul_add, Int.mul_one] at hle
  have hpq : 0 ≤ pow2 k * q := Int.mul_nonneg (by omega) q0
  rw [hm, IntKind.wrap_u64, IntKind.wrap_u64] at hlt
  apply al_no
  unfold alOk
  rw [show decide (n + pow2 k ≤ 18446744073709551616) = false from by simp; omega]
  simp

theorem ral_up (n t : Int) (hn : U64 n) (ht : U64 t) (hp : powB t = true) (h : (n.tmod t == 0) = false) (hlt : n ≤ IntKind.u64.wrap (IntKind.u64.wrap (n - n.tmod t) + t)) :
    alV n t = IntKind.u64.wrap (IntKind.u64.wrap (n - n.tmod t) + t) ∧ alE n t = 0 := by
  obtain ⟨k, q, r, M, hk, rfl, hq, hm, r0, r1, q0, qM, hM, hdiv, h1⟩ := ral_split n t hn ht hp h
  have hn0 := hn.1
  have hn1 := hn.2
  have hle : pow2 k * (q + 1) ≤ pow2 k * M := Int.mul_le_mul_of_nonneg_left (by omega) (by omega)
  rw [Int.mul_add, Int.mul_one] at hle
  have hpq : 0 ≤ pow2 k * q := Int.mul_nonneg (by omega) q0
  rw [hm, IntKind.wrap_u64, IntKind.wrap_u64] at hlt ⊢
  by_cases hMq : q + 1 = M
  · rw [← hMq, Int.mul_add, Int.mul_one] at hM
    omega
  · have hle2 : pow2 k * (q + 2) ≤ pow2 k * M := Int.mul_le_mul_of_nonneg_left (by omega) (by omega)
    rw [Int.mul_add] at hle2
    apply al_yes
    · unfold alOk
      rw [hp, show decide (n + pow2 k ≤ 18446744073709551616) = true from by simp; omega]
      rfl
    · rw [hdiv, Int.mul_add, Int.mul_one]
      omega

theorem ralign_any (n t : Int) (w : World) (hn : U64 n) (ht : U64 t) :
    Calls Tryz.prog 50 #[.int .u64 n, .int .u64 t] w fun e w' => e = .returned (.tuple #[.int .u64 (alV n t), .int .i64 (alE n t)]) ∧ w = w' := by
  have HN := hid_mk hn
  have HT := hid_mk ht
  clear hn ht
  have hpb := ral_powB t
  cases hz : t == 0
  · cases hb : bits .and .u64 t (IntKind.u64.wrap (t - 1)) != 0
    · have hp : powB t = true := by rw [hpb, hz, hb]; rfl
      have H : Hid (powB t = true) := hp
      clear hp hpb
      have hz0 : ¬ t = 0 := by simpa using hz
      go_enter Tryz.func50, Tryz.ntmps50
      go_wp2
      all_goals go_ret2
      · exact ⟨al_ret (ral_mod n t HN.out HT.out H.out ‹_›), rfl⟩
      · exact ⟨al_ret (ral_over n t HN.out HT.out H.out ‹_› ‹_›), rfl⟩
      · exact ⟨al_ret (ral_up n t HN.out HT.out H.out ‹_› ‹_›), rfl⟩
    · have hp : powB t = false := by rw [hpb, hz, hb]; rfl
      have HR : Hid (Ending.returned (.tuple #[.int .u64 0, .int .i64 2]) = .returned (.tuple #[.int .u64 (alV n t), .int .i64 (alE n t)])) := al_ret (al_np n t hp)
      clear hp hpb
      go_enter Tryz.func50, Tryz.ntmps50
      go_wp2
      go_ret2
      exact ⟨HR.out, rfl⟩
  · have hp : powB t = false := by rw [hpb, hz]; rfl
    have HR : Hid (Ending.returned (.tuple #[.int .u64 0, .int .i64 2]) = .returned (.tuple #[.int .u64 (alV n t), .int .i64 (alE n t)])) := al_ret (al_np n t hp)
    clear hp hpb
    go_enter Tryz.func50, Tryz.ntmps50
    go_wp2
    go_ret2
    exact ⟨HR.out, rfl⟩

end Go.Proofs.YtfhhgcgbgmilcaaGreat

/- Contracts of serial.NeedAt, Between and of the reference's: results, and old memory stays. Conditions: as each theorem names them. -/
namespace Go.Proofs.YtfhhgcgbgmilcaaGreat
open Go.ChangeShapes Go.WideShapes Go.ChangeAt Go.RowKit
set_option linter.unusedVariables false

/-- the answer of NeedAt, of positions that are valid -/
def needAtB (ea na d n : Int) (eb nb : Bool) : Bool := needB (if eb = nb then ea else IntKind.u16.wrap (ea - n)) na (IntKind.u16.wrap (na - d))
theorem needAt_ret {a b : Bool} (h : a = b) : Ending.returned (.tuple #[.bool a, .int .i64 0]) = .returned (.tuple #[.bool b, .int .i64 0]) := by rw [h]
theorem low16_same (x : Int) (h0 : 0 ≤ x) (h1 : x < 65536) : x % 65536 = x := Int.emod_eq_of_lt h0 h1

end Go.Proofs.YtfhhgcgbgmilcaaGreat
