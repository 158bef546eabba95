/-
  PROVED: dumbwaiterlaw01.SerialAligns returns true for every number, power and size, and what was in memory stays as it was. Conditions: none.
-/
import Derived.Test.YtomeodmadnobfaaRows
import Derived.Test.YtomeodmadnobfaaSer8
import Derived.WalkKit
import Derived.ProofKit
import Derived.OpenShut
import Derived.ShutString
import Derived.ChangeOld
import Derived.Below
import Derived.Carry
import Derived.Lib.SmallJoins
namespace Go.Proofs.Ytomeodmadnobfaa.serialAligns
open Go.ChangeShapes Go.WideShapes Go.ChangeAt Go.RowKit
set_option linter.unusedVariables false


theorem alOk_iff (n : Int) (k : Nat) (hk : k < 64) : alOk n (pow2 k) = true ↔ n + pow2 k ≤ 18446744073709551616 := by
  have h1 := pow2_pos k
  have h2 := pow2_lt (j := k) (k := 64) hk
  have e64 : pow2 64 = 18446744073709551616 := by decide
  have hp : powB (pow2 k) = true := (powB_iff (pow2 k) (by omega) (by omega)).2 ⟨k, hk, rfl⟩
  unfold alOk
  rw [hp]
  simp
theorem alOk_not (n : Int) (k : Nat) (hk : k < 64) (h : alOk n (pow2 k) = false) : 18446744073709551616 < n + pow2 k := by
  have := alOk_iff n k hk
  rw [h] at this
  simp at this
  omega
/-- a multiple: the smallest that is not below -/
theorem alV_is (n : Int) (k : Nat) (h0 : 0 ≤ n) (h : alOk n (pow2 k) = true) : ∃ q : Int, alV n (pow2 k) = pow2 k * q ∧ 0 ≤ q ∧ n ≤ pow2 k * q ∧ pow2 k * q < n + pow2 k := by
  have h1 := pow2_pos k
  refine ⟨(n + pow2 k - 1) / pow2 k, ?_, ?_, ?_, ?_⟩
  · unfold alV
    rw [if_pos h]
  · exact Int.ediv_nonneg (by omega) (by omega)
  · have hd := Int.mul_ediv_add_emod (n + pow2 k - 1) (pow2 k)
    have hr1 := Int.emod_lt_of_pos (n + pow2 k - 1) (show 0 < pow2 k by omega)
    omega
  · have hd := Int.mul_ediv_add_emod (n + pow2 k - 1) (pow2 k)
    have hr0 := Int.emod_nonneg (n + pow2 k - 1) (show pow2 k ≠ 0 by omega)
    omega
theorem mul_gap {T q r : Int} (hT : 1 ≤ T) (h : T * q < T * r) : T * q + T ≤ T * r := by
  have hlt : q < r := Int.lt_of_mul_lt_mul_left h (by omega)
  have : T * (q + 1) ≤ T * r := Int.mul_le_mul_of_nonneg_left (by omega) (by omega)
  rw [Int.mul_add, Int.mul_one] at this
  exact this
theorem al_facts (n : Int) (k : Nat) (hk : k < 63) (hn : U64 n) (h : alOk n (pow2 k) = true) :
    n ≤ alV n (pow2 k) ∧ IntKind.u64.wrap (alV n (pow2 k) - n) < pow2 k ∧ ((alV n (pow2 k)).tmod (pow2 k) == 0) = true ∧ U64 (alV n (pow2 k)) ∧ alV (alV n (pow2 k)) (pow2 k) = alV n (pow2 k) ∧ alE (alV n (pow2 k)) (pow2 k) = 0 := by
  have h1 := pow2_pos k
  have h2 := pow2_lt (j := k) (k := 64) (by omega)
  have e64 : pow2 64 = 18446744073709551616 := by decide
  have hn0 := hn.1
  obtain ⟨q, hq, q0, hlo, hhi⟩ := alV_is n k hn.1 h
  have hle := (alOk_iff n k (by omega)).1 h
  have hs := pow2_split (j := k) (k := 64) (by omega)
  have htop : pow2 k * q + pow2 k ≤ pow2 64 := by
    rw [hs]
    exact mul_gap h1 (by rw [← hs, e64]; omega)
  rw [hq]
  have hok : alOk (pow2 k * q) (pow2 k) = true := (alOk_iff _ k (by omega)).2 (by omega)
  obtain ⟨r, hr, r0, rlo, rhi⟩ := alV_is (pow2 k * q) k (by omega) hok
  refine ⟨hlo, ?_, ?_, ⟨by omega, by omega⟩, ?_, ?_⟩
  · rw [IntKind.wrap_u64]
    omega
  · rw [beq_iff_eq]
    exact Int.mul_tmod_right _ _
  · rw [hr]
    by_cases hrq : pow2 k * q < pow2 k * r
    · have := mul_gap h1 hrq
      omega
    · omega
  · unfold alE
    rw [if_pos hok]
theorem al_next (n : Int) (k : Nat) (hn0 : 0 ≤ n) (h : alOk n (pow2 k) = true) (h2 : alOk n (pow2 (k + 1)) = true) : alV n (pow2 k) ≤ alV n (pow2 (k + 1)) := by
  have h1 := pow2_pos k
  obtain ⟨q, hq, q0, hlo, hhi⟩ := alV_is n k hn0 h
  obtain ⟨r, hr, r0, rlo, rhi⟩ := alV_is n (k + 1) hn0 h2
  rw [hq, hr]
  rw [pow2_succ, Int.mul_comm 2 (pow2 k), Int.mul_assoc] at *
  by_cases hlt : pow2 k * (2 * r) < pow2 k * q
  · have := mul_gap h1 hlt
    omega
  · omega
theorem al_far (n : Int) (k : Nat) (hk : k < 63) (hn : U64 n) (h : alOk n (pow2 k) = false) : IntKind.u64.wrap (18446744073709551615 - IntKind.u64.wrap (pow2 k - 1)) < n := by
  have h1 := pow2_pos k
  have h2 := pow2_lt (j := k) (k := 64) (by omega)
  have e64 : pow2 64 = 18446744073709551616 := by decide
  have h3 := alOk_not n k (by omega) h
  rw [IntKind.wrap_u64, IntKind.wrap_u64]
  omega
theorem shl_pow (k : Nat) (hk : k < 63) : IntKind.u64.wrap (2 ^ k) = pow2 k := by
  have h1 := pow2_pos k
  have h2 := pow2_lt (j := k) (k := 64) (by omega)
  have e64 : pow2 64 = 18446744073709551616 := by decide
  have e : (2 : Int) ^ k = pow2 k := by
    unfold pow2
    simp
  rw [e, IntKind.wrap_u64]
  omega
theorem dbl_pow (k : Nat) (hk : k < 63) : IntKind.u64.wrap (2 * pow2 k) = pow2 (k + 1) := by
  have h1 := pow2_pos (k + 1)
  have h2 := pow2_lt (j := k + 1) (k := 64) (by omega)
  have e64 : pow2 64 = 18446744073709551616 := by decide
  rw [← pow2_succ, IntKind.wrap_u64]
  omega
theorem u64_pow (k : Nat) (hk : k < 64) : U64 (pow2 k) := by
  have h1 := pow2_pos k
  have h2 := pow2_lt (j := k) (k := 64) (by omega)
  have e64 : pow2 64 = 18446744073709551616 := by decide
  exact ⟨by omega, by omega⟩
theorem align_yes (n t : Int) (w : World) (hn : U64 n) (ht : U64 t) (h : alOk n t = true) :
    Calls Try.prog 12 #[.int .u64 n, .int .u64 t] w fun e w' => e = .returned (.tuple #[.int .u64 (alV n t), .int .i64 0]) ∧ w = w' := by
  have h' := align_any n t w hn ht
  rw [show alE n t = 0 from by unfold alE; rw [if_pos h]] at h'
  exact h'
theorem align_no (n t : Int) (w : World) (hn : U64 n) (ht : U64 t) (h : alOk n t = false) :
    Calls Try.prog 12 #[.int .u64 n, .int .u64 t] w fun e w' => e = .returned (.tuple #[.int .u64 0, .int .i64 2]) ∧ w = w' := by
  have h' := align_any n t w hn ht
  rw [(al_no n t h).1, (al_no n t h).2] at h'
  exact h'
theorem powI_iff (n : Int) : powI n = true ↔ ∃ k : Nat, k < 16 ∧ n = pow2 k := by
  constructor
  · intro h
    by_cases he : ∃ k : Nat, k < 16 ∧ n = pow2 k
    · exact he
    · have := powI_none n (fun i hi hni => he ⟨i, hi, hni⟩)
      rw [this] at h
      cases h
  · rintro ⟨k, hk, rfl⟩
    exact powI_some k hk
theorem powI_dbl (n : Int) (h1 : 1 ≤ n) (h2 : n ≤ 16384) : powI (2 * n) = powI n := by
  have e14 : pow2 14 = 16384 := by decide
  rw [Bool.eq_iff_iff, powI_iff, powI_iff]
  constructor
  · rintro ⟨k, hk, he⟩
    match k, hk, he with
    | 0, _, he =>
      have : pow2 0 = 1 := by decide
      omega
    | k + 1, hk, he =>
      rw [pow2_succ] at he
      exact ⟨k, by omega, by omega⟩
  · rintro ⟨k, hk, he⟩
    refine ⟨k + 1, ?_, by rw [pow2_succ]; omega⟩
    by_cases hk15 : k + 1 < 16
    · exact hk15
    · have := pow2_lt (j := 14) (k := k) (by omega)
      omega

theorem walk (a0 a1 a2 : Int) (w0 : (Lit.int .u64 a0).wf = true) (w1 : (Lit.int .i64 a1).wf = true) (w2 : (Lit.int .i64 a2).wf = true) (w : World) :
    Calls Try.prog 8 #[.int .u64 a0, .int .i64 a1, .int .i64 a2] w fun e w' => e = .returned (.bool true) ∧ Below w.heap.size w w' := by
  have hn : U64 a0 := by
    have := bounds_u64 w0
    exact ⟨this.1, by omega⟩
  clear w0 w1 w2
  go_enter Try.func8, Try.ntmps8
  go_wp2_with fail
  refine (lives_any _).mono ?_
  rintro e u1 ⟨rfl, hb1⟩
  go_wp2_with fail
  refine (pick_at _ _ _ (by omega) (by omega)).mono ?_
  rintro e w' ⟨k, ⟨hk0, hk1, hkx⟩, rfl, rfl⟩
  clear hkx
  obtain ⟨K, rfl⟩ := Int.eq_ofNat_of_zero_le hk0
  have hK : K < 63 := by omega
  have eT := shl_pow K hK
  have hT := u64_pow K (by omega)
  have hTz : ¬ pow2 K = 0 := by
    have := pow2_pos K
    omega
  clear hk0 hk1
  go_wp2_with fail
  cases hok : alOk a0 (pow2 K)
  · have hfar := al_far a0 K hK hn hok
    refine (align_no a0 (pow2 K) _ hn hT hok).mono ?_
    rintro e w' ⟨rfl, rfl⟩
    clear hok eT
    go_wp2_with fail
    go_ret
    exact ⟨rfl, hb1⟩
  · obtain ⟨f1, f2, f3, f4, f5, f6⟩ := al_facts a0 K hK hn hok
    refine (align_yes a0 (pow2 K) _ hn hT hok).mono ?_
    rintro e w' ⟨rfl, rfl⟩
    clear eT
    have F5 : Hid (alV (alV a0 (pow2 K)) (pow2 K) = alV a0 (pow2 K)) := f5
    have F6 : Hid (alE (alV a0 (pow2 K)) (pow2 K) = 0) := f6
    have HOK : Hid (alOk a0 (pow2 K) = true) := hok
    clear f5 f6 hok
    go_wp2_with fail
    refine (align_any _ _ _ f4 hT).mono ?_
    rw [F5.out, F6.out]
    rintro e w' ⟨rfl, rfl⟩
    have eD := dbl_pow K hK
    have hD := u64_pow (K + 1) (by omega)
    go_wp2_with fail
    cases hok2 : alOk a0 (pow2 (K + 1))
    · refine (align_no a0 _ _ hn hD hok2).mono ?_
      rintro e w' ⟨rfl, rfl⟩
      clear eD hok2
      go_wp2_with fail
      refine (pick_at _ _ _ (by omega) (by omega)).mono ?_
      rintro e w' ⟨z, ⟨hz0, hz1, hzx⟩, rfl, rfl⟩
      clear hzx
      have ep := powI_dbl (1 + z) (by omega) (by omega)
      go_wp2_with (go_at_call 15; refine (power_any _ _).mono ?_; rintro e w' ⟨rfl, rfl⟩)
      go_ret
      exact ⟨rfl, hb1⟩
    · have hnx := al_next a0 K hn.1 HOK.out hok2
      refine (align_yes a0 _ _ hn hD hok2).mono ?_
      rintro e w' ⟨rfl, rfl⟩
      clear eD hok2
      go_wp2_with fail
      refine (pick_at _ _ _ (by omega) (by omega)).mono ?_
      rintro e w' ⟨z, ⟨hz0, hz1, hzx⟩, rfl, rfl⟩
      clear hzx
      have ep := powI_dbl (1 + z) (by omega) (by omega)
      go_wp2_with (go_at_call 15; refine (power_any _ _).mono ?_; rintro e w' ⟨rfl, rfl⟩)
      go_ret
      exact ⟨rfl, hb1⟩

/-! ### the row's frame -/
theorem own : ownKnob Try.prog.godebug = none := by kernel_rfl
theorem laidOut : laidOutB Try.prog = true := by kernel_rfl

set_option maxRecDepth 100000 in
theorem lifted (os : Os) (started : os.Started) (H : Type) (enc : TypeId × Value → H) :
    ReturnsInHanded {} Try.checked os 8 .any (Rows.serialAlignsSpec.pre6 enc Try.prog Try.f8 Rows.serialAlignsRow.domain false) (Rows.serialAlignsSpec.post enc Try.prog Try.f8 false true false false) := by
  refine returnsInHanded_of_change (C := Try.checked) own started (by kernel_rfl) Try.func8
    (ChangeSpec.witness6 (enc := enc) (C := Try.checked) false ⟨#[], #[.int .u64 0, .int .i64 0, .int .i64 0], []⟩ 8 (by kernel_rfl) (by kernel_rfl) (by kernel_rfl) (by kernel_rfl)) ?_
  intro W base args ds gs before hval0 hW hcnd _
  have hval : ∀ (j : Nat) t v, Try.f8.params[j]? = some t → args[j]? = some v → Value.okWide Try.prog W .any base t v := hval0
  have hW' := hW
  obtain ⟨p, q, hA0, hV, rfl, hfz, hnd⟩ := hW
  have hA : DataW.TrodAll enc Try.prog W 0 (fun _ => true) true Try.f8.params.toList args.toList ds p := hA0
  rw [Try.params8] at hA hval
  obtain ⟨v0, vs0, d0, ds0, p0, q0, hargs, rfl, rfl, h0, r0⟩ := trodAll_cons hA
  obtain ⟨v1, vs1, d1, ds1, p1, q1, rfl, rfl, rfl, h1, r1⟩ := trodAll_cons r0
  obtain ⟨v2, vs2, d2, ds2, p2, q2, rfl, rfl, rfl, h2, r2⟩ := trodAll_cons r1
  obtain ⟨rfl, rfl, rfl⟩ := trodAll_nil r2
  obtain rfl : args = #[v0, v1, v2] := by cases args; simp_all
  obtain ⟨rfl, rfl⟩ := trodVars_none hV
  have k0 := h0
  have lt0 : ∀ x ∈ p0, x.block < W.heap.size := by
    obtain ⟨m, hm⟩ := k0
    exact DataW.trod_lt m _ _ _ hm
  have k1 := h1
  have lt1 : ∀ x ∈ p1, x.block < W.heap.size := by
    obtain ⟨m, hm⟩ := k1
    exact DataW.trod_lt m _ _ _ hm
  have k2 := h2
  have lt2 : ∀ x ∈ p2, x.block < W.heap.size := by
    obtain ⟨m, hm⟩ := k2
    exact DataW.trod_lt m _ _ _ hm
  obtain ⟨a0, rfl, rfl, rfl, w0⟩ := open_int Try.underlying29 (hval 0 29 v0 rfl rfl) h0
  obtain ⟨a1, rfl, rfl, rfl, w1⟩ := open_int Try.underlying3 (hval 1 3 v1 rfl rfl) h1
  obtain ⟨a2, rfl, rfl, rfl, w2⟩ := open_int Try.underlying3 (hval 2 3 v2 rfl rfl) h2
  clear hA0 hval0
  refine (walk a0 a1 a2 w0 w1 w2 W).mono fun e W' ⟨he, bel⟩ => ?_
  subst he
  exact ⟨_, rfl, _, _, _, [], _, [], hW', trodAll_mk1 (shut_bool Try.underlying4 _), (trodAll_cons_mk (Below.trod laidOut (by kernel_rfl) (of_decide_eq_true (by kernel_rfl)) k0 bel lt0) (trodAll_cons_mk (Below.trod laidOut (by kernel_rfl) (of_decide_eq_true (by kernel_rfl)) k1 bel lt1) (trodAll_cons_mk (Below.trod laidOut (by kernel_rfl) (of_decide_eq_true (by kernel_rfl)) k2 bel lt2) trodAll_mk0))), rfl, bel.frame _, fun h => by cases h⟩

theorem over : Rows.serialAlignsRow.holds Try.pinned (OpenSpec.ofChange Rows.serialAlignsSpec) :=
  OpenClaim.holds_of_wide 8 Try.f8 rfl rfl rfl rfl rfl rfl rfl ⟨rfl, rfl, rfl, rfl, rfl⟩ rfl rfl rfl rfl rfl (by kernel_rfl) Try.func8 (by kernel_rfl)
    (of_decide_eq_true (by kernel_rfl)) (by unfold Func.isWrapper; first | (rw [if_pos (by decide +kernel)]; kernel_rfl) | (rw [if_neg (by decide +kernel)]; exact ⟨rfl, rfl⟩))
    (fun os started H enc _ => lifted os started H enc)

/-- THE STATEMENT -/
theorem serialAligns_holds : Rows.SerialAlignsSaid := over
#print axioms serialAligns_holds
end Go.Proofs.Ytomeodmadnobfaa.serialAligns
