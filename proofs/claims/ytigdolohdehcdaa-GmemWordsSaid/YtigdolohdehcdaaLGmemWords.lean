/-
  PROVED: dumbwaiterlaw02.GmemWords returns true for every address, two words and width, and what was in memory stays as it was. Conditions: none.
-/
import Derived.Test.YtigdolohdehcdaaRows
import Derived.Test.YtigdolohdehcdaaWdMath
import Derived.Test.YtigdolohdehcdaaKit
import Derived.WalkKit
import Derived.ProofKit
import Derived.OpenShut
import Derived.ShutString
import Derived.ChangeOld
import Derived.Below
import Derived.Carry
import Derived.Lib.SmallJoins
import Derived.Deep.RegionHeld3
namespace Go.Proofs.Ytigdolohdehcdaa.gmemWords
open Go.ChangeShapes Go.WideShapes Go.ChangeAt Go.RowKit
set_option linter.unusedVariables false


set_option maxRecDepth 100000 in
set_option maxHeartbeats 4000000 in
theorem walkN (w : World) (at_ v x width : Int) (q n j : Nat) (hv : U64 v) (hx : U64 x) (hq : at_ % 57 = (q : Int)) (hq2 : q ≤ 56) (hn : n = 1 ∨ n = 2 ∨ n = 4) (hj : width % 3 = (j : Int)) (htab : #[Value.int .i64 1, .int .i64 2, .int .i64 4][j]? = some (.int .i64 n)) :
    Calls Try.prog 7 #[.int .i64 at_, .int .u64 v, .int .u64 x, .int .i64 width] w fun e w' => e = .returned (.bool true) ∧ Below w.heap.size w w' := by
  have hn1 : (1 : Int) ≤ (n : Int) := by omega
  have hn4 : (n : Int) ≤ 4 := by omega
  have HN := hid_mk hn
  have hj2 : j < 3 := by omega
  have hs1 := acc_ok q 0 8 (by omega) (by omega)
  have hs2 := store8 q v hq2
  simp only [Nat.add_zero, Int.cast_ofNat_Int] at hs1
  have hst : ∀ h : j < [Value.int .i64 1, .int .i64 2, .int .i64 4].length, [Value.int .i64 1, .int .i64 2, .int .i64 4][j]'h = .int .i64 n := fun h => by
    have e : [Value.int .i64 1, .int .i64 2, .int .i64 4][j]? = some (.int .i64 n) := by simpa using htab
    rw [List.getElem?_eq_getElem h] at e
    exact Option.some.inj e
  have HQ := hid_mk hq2
  have HM2 := hid_mk hs2
  clear hn hs2 htab
  go_enter Try.func7, Try.ntmps7
  go_wp2_with fail
  refine (lives_any _).mono ?_
  rintro e w1 ⟨rfl, hb⟩
  have B1 := hid_mk hb
  clear hb
  go_wp2_with fail
  refine (new_any _ L64 _ (regsLit w1 L64 28) (isRegs_of (by decide)) (by decide) (by decide) (by decide)).mono ?_
  rintro e w2 ⟨p, ib, qb, rfl, hm, ⟨g1, g2, g3⟩, hb⟩
  have M2 := hid_mk hm
  have B2 := hid_mk (below_new B1.out hb)
  have gi : w.heap.size ≤ ib := by
    have := B1.out.size
    rw [sizeA] at g2
    omega
  have hqi : (q : Int) ≤ 56 := by omega
  clear hb hm g1 g2 g3
  go_wp2_with (go_at_call 20; refine (pick_at _ _ _ _ (by omega) (by omega) (by assumption)).mono ?_; rintro e w' ⟨rfl, rfl⟩)
  have hUk : U64 (1000 + (q : Int)) := by omega
  refine (store_any p ib qb L64 _ (1000 + (q : Int)) 8 v _ (M2.out.below ((Below.refl _ _).alloc (Nat.le_refl _) _)) hUk hv).mono ?_
  rw [hs1, HM2.out]
  rintro e w3 ⟨rfl, hm, hc⟩
  have M3 := hid_mk hm
  have B3 := hid_mk (hc.since1 (B2.out.alloc B2.out.size _) gi)
  clear hm hc hs1 HM2
  go_wp2_with fail
  go_loopw [13, 14, 15, 16] (fun b i _ _ wr => ∃ t s : Nat, t = n * s ∧ t ≤ 8 ∧ i = .int .i64 ((t : Int) - n) ∧ b = .int .u64 (v / pow2 (8 * t)) ∧ Hid (IsMem wr p ib qb L64 (put Z64 q (leB 8 v))) ∧ Hid (Below w.heap.size w wr)) (fun _ i _ _ _ => (intOf i + 8).toNat)
  case atStart =>
    refine ⟨8, 8 / n, ?_, by omega, rfl, ?_, M3, B3⟩
    · rcases HN.out with h | h | h <;> rw [h]
    · rw [div_all v hv]
  case round =>
    obtain ⟨t, s, hts, ht8, rfl, rfl, M4, B4⟩ := hrel
    have HTS := hid_mk hts
    clear hts
    by_cases hge : n ≤ t
    · obtain ⟨i, rfl⟩ : ∃ i, t = i + n := ⟨t - n, by omega⟩
      have h1 := acc_ok q i n (by have := HN.out; omega) (by have := HQ.out; omega)
      have h2 := load_part q i n v hv (by have := HN.out; omega) (by omega) HQ.out
      rw [show (1000 + ((q + i : Nat) : Int)) = 1000 + (q : Int) + (i : Int) from by omega] at h1 h2
      have H1 := hid_mk h1
      have H2 := hid_mk h2
      clear h1 h2
      go_wp2_with fail
      refine (load_any p ib qb L64 _ (1000 + (q : Int) + (i : Int)) n _ M4.out (by have := HQ.out; omega)).mono ?_
      rw [H1.out, H2.out]
      rintro e w5 ⟨rfl, hb⟩
      have M5 := hid_mk (M4.out.below hb)
      have B5 := hid_mk (below_then B4.out hb)
      clear hb
      have hsm : (v / pow2 (8 * i) % pow2 (8 * n) / 2 ^ (8 * n) != 0) = false := by
        rw [two_pow_int, part_small]
        rfl
      have HBK := hid_mk (back_step v i n hv HN.out (by omega))
      go_wp2_with fail
      go_roundw
      case rel =>
        refine ⟨i, s - 1, ?_, by omega, rfl, ?_, M5, B5⟩
        · have h := HTS.out
          rcases HN.out with h1 | h1 | h1 <;> subst h1 <;> omega
        · rw [two_pow_int, HBK.out]
      case measure =>
        simp [intOf]
        omega
    · have ht0 : t = 0 := by
        have h := HTS.out
        rcases HN.out with h1 | h1 | h1 <;> subst h1 <;> omega
      subst ht0
      have hv0 : v / pow2 (8 * 0) = v := by simp [pow2]
      simp only [hv0]
      have hneg : decide (0 ≤ (0 : Int) - (n : Int)) = false := by simp; omega
      have hp0 := pow2_pos (8 * n)
      have hmask : IntKind.u64.wrap (IntKind.u64.wrap (2 ^ (8 * n)) - 1) = pow2 (8 * n) - 1 := by
        have h2 : pow2 (8 * n) < 18446744073709551616 := pow2_lt (k := 64) (by omega)
        have h3 : (2 : Int) ^ (8 * n) = pow2 (8 * n) := two_pow_int _
        rw [h3, IntKind.wrap_u64, IntKind.wrap_u64]
        omega
      have h1 := acc_ok q 0 n (by have := HN.out; omega) (by have := HQ.out; omega)
      have h2 := storeN q n v x HN.out HQ.out
      simp only [Nat.add_zero] at h1
      have H1 := hid_mk h1
      have H2 := hid_mk h2
      clear hge ht8 hv0 hp0 h1 h2
      go_wp2_with fail
      refine (store_any p ib qb L64 _ (1000 + (q : Int)) n x _ M4.out hUk hx).mono ?_
      rw [H1.out, H2.out]
      rintro e w5 ⟨rfl, hm, hc⟩
      have M5 := hid_mk hm
      have B5 := hid_mk (hc.since1 B4.out gi)
      have h3 := acc_ok q 0 8 (by omega) (by have := HQ.out; omega)
      simp only [Nat.add_zero, Int.cast_ofNat_Int] at h3
      have H3 := hid_mk h3
      have H4 := hid_mk (load_mix q n v x hv hx (by omega) HQ.out)
      clear hm hc h3 H1 H2 hmask
      go_wp2_with fail
      refine (load_any p ib qb L64 _ (1000 + (q : Int)) 8 _ M5.out hUk).mono ?_
      rw [H3.out, H4.out]
      rintro e w6 ⟨rfl, hb⟩
      have M6 := hid_mk (M5.out.below hb)
      have B6 := hid_mk (below_then B5.out hb)
      have H5 := hid_mk (readE8 q HQ.out)
      have H6 := hid_mk (read_mix q n v x (by omega) HQ.out)
      clear hb H3 H4
      go_wp2_with fail
      refine (read_any p ib qb L64 _ (1000 + (q : Int)) 8 _ M6.out hUk (by decide)).mono ?_
      rw [H5.out, H6.out]
      rintro e w7 ⟨vb, rfl, hnb, hb⟩
      have hml := mixB_len n v x (by omega)
      obtain ⟨bb, bc, rfl, hbb1, hbb2, hbb3, hbb4⟩ := hnb.form (by omega)
      rw [hml]
      rw [hml] at hbb3 hbb4
      have M7 := hid_mk (M6.out.below hb)
      have B7 := hid_mk (below_then B6.out hb)
      have HC := hid_mk hbb4
      have hmix : (mixV n v x != bits .or .u64 (bits .andNot .u64 v (pow2 (8 * n) - 1)) (bits .and .u64 x (pow2 (8 * n) - 1))) = false := by
        rw [mix_bits n v x hv hx HN.out]
        simp
      clear hb H5 H6 hnb hbb4 hml
      have hbi : bb ≠ ib := by
        have := lt_blk M6.out.img
        omega
      go_wp2_with fail
      go_loop [21] (fun i => ∃ k : Nat, k ≤ 8 ∧ i = .int .i64 k) (fun i => 8 - (intOf i).toNat)
      case atStart => exact ⟨0, by omega, rfl⟩
      case round =>
        obtain ⟨k, hk8, rfl⟩ := hrel
        by_cases hk : k < 8
        · have hcell := HC.out k hk
          have hb2 := mix_byte n k v x hv hx (by omega) hk
          simp only [List.getD_eq_getElem?_getD] at hcell hb2
          have hki : (k : Int) < 8 := by omega
          have hbne : ((mixB n v x)[k]?.getD 0 != mixV n v x / 2 ^ (8 * k) % 256) = false := by
            rw [two_pow_int, hb2]
            simp
          clear hb2
          generalize (mixB n v x)[k]?.getD 0 = y at *
          go_wp2_with fail
          go_round
          case rel => exact ⟨k + 1, by omega, by go_num⟩
          case measure => simp [intOf]; omega
        · obtain rfl : k = 8 := by omega
          have hcell := HC.out 0 (by omega)
          generalize (mixB n v x).getD 0 0 = y at hcell
          have hyb : isBytes [bits .xor .u8 y 1] := by
            have := bounds_u8 (wf_bits .xor .u8 y 1)
            exact isBytes_mk this.1 (by omega) isBytes_nil
          have HYB := hid_mk hyb
          have hWW := writeW q (bits .xor .u8 y 1) (put Z64 q (mixB n v x)) HQ.out
          have hwe := hWW.1
          have HWM := hid_mk hWW.2
          have HML := hid_mk (mixB_len n v x (by omega))
          have hcz := convZ q
          have hzn := zNew q
          have hzo := zOld q
          have hmk := fun (W : World) => makeB W .u64 q (by omega)
          have hkq : IntKind.u64.wrap (1000 + (q : Int) - 1000) = (q : Int) := by
            rw [IntKind.wrap_u64]
            omega
          have hq0 : (0 : Int) ≤ (q : Int) := by omega
          clear hWW hyb hk8 hk hbb1 hbb2 hmix
          go_wp2_with fail
          go_region_with
            (first
              | (go_at_call 12; refine (write_any p ib qb L64 _ (1000 + (q : Int)) _ [bits .xor .u8 y 1] _ (M7.out.below (by first | exact ((Below.refl _ _).alloc (Nat.le_refl _) _).drew | exact (Below.refl _ _).drew.alloc (Nat.le_refl _) _)) hUk ((bytesLit w7 [bits .xor .u8 y 1] 5).below (Below.refl _ _).drew) HYB.out (by simp)).mono ?_; rintro e w' ⟨rfl, hmw, hcw⟩)
              | (go_at_call 13; refine (image_any p ib qb L64 _ _ (by first | assumption | exact IsMem.below (by assumption) ((Below.refl _ _).alloc (Nat.le_refl _) _))).mono ?_; rintro e w' ⟨vi, rfl, hni, hbim⟩; rw [HWM.out] at hni; obtain ⟨ib2, ic2, rfl, ⟨hz0, hz1⟩, hz2, hz3⟩ := imgZ hni (by have := HML.out; have := HQ.out; omega) (by have := HQ.out; simp; omega) hbim; clear hni))
          all_goals go_wp2_with fail
          all_goals go_ret
          all_goals
            have B9 := hcw.since1 (by first | exact (B7.out.alloc B7.out.size _).drew | exact B7.out.drew.alloc B7.out.size _) gi
            refine ⟨rfl, ?_⟩
            first
              | exact below_then B9 hbim
              | exact below_new B9 hbim
              | exact (below_then B9 hbim).alloc (below_then B9 hbim).size _

theorem walk (w : World) (a0 a1 a2 a3 : Int) (w0 : (Lit.int .i64 a0).wf = true) (w1 : (Lit.int .u64 a1).wf = true) (w2 : (Lit.int .u64 a2).wf = true) (w3 : (Lit.int .i64 a3).wf = true) :
    Calls Try.prog 7 #[.int .i64 a0, .int .u64 a1, .int .u64 a2, .int .i64 a3] w fun e w' => e = .returned (.bool true) ∧ Below w.heap.size w w' := by
  have h1 := bounds_u64 w1
  have h2 := bounds_u64 w2
  have hq0 := Int.emod_nonneg a0 (show (57 : Int) ≠ 0 by omega)
  have hq1 := Int.emod_lt_of_pos a0 (show (0 : Int) < 57 by omega)
  have hj0 := Int.emod_nonneg a3 (show (3 : Int) ≠ 0 by omega)
  have hj1 := Int.emod_lt_of_pos a3 (show (0 : Int) < 3 by omega)
  obtain ⟨q, hq⟩ := Int.eq_ofNat_of_zero_le hq0
  obtain ⟨j, hj⟩ := Int.eq_ofNat_of_zero_le hj0
  have hj3 : j = 0 ∨ j = 1 ∨ j = 2 := by omega
  rcases hj3 with rfl | rfl | rfl
  · exact walkN w a0 a1 a2 a3 q 1 0 ⟨h1.1, by omega⟩ ⟨h2.1, by omega⟩ hq (by omega) (by omega) hj rfl
  · exact walkN w a0 a1 a2 a3 q 2 1 ⟨h1.1, by omega⟩ ⟨h2.1, by omega⟩ hq (by omega) (by omega) hj rfl
  · exact walkN w a0 a1 a2 a3 q 4 2 ⟨h1.1, by omega⟩ ⟨h2.1, by omega⟩ hq (by omega) (by omega) hj rfl

/-! ### the row's frame -/
theorem own : ownKnob Try.prog.godebug = none := by kernel_rfl
theorem laidOut : laidOutB Try.prog = true := by kernel_rfl

set_option maxRecDepth 100000 in
theorem lifted (os : Os) (started : os.Started) (H : Type) (enc : TypeId × Value → H) :
    ReturnsInHanded {} Try.checked os 7 .any (Rows.gmemWordsSpec.pre6 enc Try.prog Try.f7 Rows.gmemWordsRow.domain false) (Rows.gmemWordsSpec.post enc Try.prog Try.f7 false true false false) := by
  refine returnsInHanded_of_change (C := Try.checked) own started (by kernel_rfl) Try.func7
    (ChangeSpec.witness6 (enc := enc) (C := Try.checked) false ⟨#[], #[.int .i64 0, .int .u64 0, .int .u64 0, .int .i64 0], []⟩ 8 (by kernel_rfl) (by kernel_rfl) (by kernel_rfl) (by kernel_rfl)) ?_
  intro W base args ds gs before hval0 hW hcnd _
  have hval : ∀ (j : Nat) t v, Try.f7.params[j]? = some t → args[j]? = some v → Value.okWide Try.prog W .any base t v := hval0
  have hW' := hW
  obtain ⟨p, q, hA0, hV, rfl, hfz, hnd⟩ := hW
  have hA : DataW.TrodAll enc Try.prog W 0 (fun _ => true) true Try.f7.params.toList args.toList ds p := hA0
  rw [Try.params7] at hA hval
  obtain ⟨v0, vs0, d0, ds0, p0, q0, hargs, rfl, rfl, h0, r0⟩ := trodAll_cons hA
  obtain ⟨v1, vs1, d1, ds1, p1, q1, rfl, rfl, rfl, h1, r1⟩ := trodAll_cons r0
  obtain ⟨v2, vs2, d2, ds2, p2, q2, rfl, rfl, rfl, h2, r2⟩ := trodAll_cons r1
  obtain ⟨v3, vs3, d3, ds3, p3, q3, rfl, rfl, rfl, h3, r3⟩ := trodAll_cons r2
  obtain ⟨rfl, rfl, rfl⟩ := trodAll_nil r3
  obtain rfl : args = #[v0, v1, v2, v3] := by cases args; simp_all
  obtain ⟨rfl, rfl⟩ := trodVars_none hV
  have k0 := h0
  have lt0 : ∀ x ∈ p0, x.block < W.heap.size := by
    obtain ⟨m, hm⟩ := k0
    exact DataW.trod_lt m _ _ _ hm
  have k1 := h1
  have lt1 : ∀ x ∈ p1, x.block < W.heap.size := by
    obtain ⟨m, hm⟩ := k1
    exact DataW.trod_lt m _ _ _ hm
  have k2 := h2
  have lt2 : ∀ x ∈ p2, x.block < W.heap.size := by
    obtain ⟨m, hm⟩ := k2
    exact DataW.trod_lt m _ _ _ hm
  have k3 := h3
  have lt3 : ∀ x ∈ p3, x.block < W.heap.size := by
    obtain ⟨m, hm⟩ := k3
    exact DataW.trod_lt m _ _ _ hm
  obtain ⟨a0, rfl, rfl, rfl, w0⟩ := open_int Try.underlying3 (hval 0 3 v0 rfl rfl) h0
  obtain ⟨a1, rfl, rfl, rfl, w1⟩ := open_int Try.underlying26 (hval 1 26 v1 rfl rfl) h1
  obtain ⟨a2, rfl, rfl, rfl, w2⟩ := open_int Try.underlying26 (hval 2 26 v2 rfl rfl) h2
  obtain ⟨a3, rfl, rfl, rfl, w3⟩ := open_int Try.underlying3 (hval 3 3 v3 rfl rfl) h3
  clear hA0 hval0
  refine (walk W a0 a1 a2 a3 w0 w1 w2 w3).mono fun e W' ⟨he, bel⟩ => ?_
  subst he
  exact ⟨_, rfl, _, _, _, [], _, [], hW', trodAll_mk1 (shut_bool Try.underlying4 _), (trodAll_cons_mk (Below.trod laidOut (by kernel_rfl) (of_decide_eq_true (by kernel_rfl)) k0 bel lt0) (trodAll_cons_mk (Below.trod laidOut (by kernel_rfl) (of_decide_eq_true (by kernel_rfl)) k1 bel lt1) (trodAll_cons_mk (Below.trod laidOut (by kernel_rfl) (of_decide_eq_true (by kernel_rfl)) k2 bel lt2) (trodAll_cons_mk (Below.trod laidOut (by kernel_rfl) (of_decide_eq_true (by kernel_rfl)) k3 bel lt3) trodAll_mk0)))), rfl, bel.frame _, fun h => by cases h⟩

theorem over : Rows.gmemWordsRow.holds Try.pinned (OpenSpec.ofChange Rows.gmemWordsSpec) :=
  OpenClaim.holds_of_wide 7 Try.f7 rfl rfl rfl rfl rfl rfl rfl ⟨rfl, rfl, rfl, rfl, rfl⟩ rfl rfl rfl rfl rfl (by kernel_rfl) Try.func7 (by kernel_rfl)
    (of_decide_eq_true (by kernel_rfl)) (by unfold Func.isWrapper; first | (rw [if_pos (by decide +kernel)]; kernel_rfl) | (rw [if_neg (by decide +kernel)]; exact ⟨rfl, rfl⟩))
    (fun os started H enc _ => lifted os started H enc)

/-- THE STATEMENT -/
theorem gmemWords_holds : Rows.GmemWordsSaid := over
#print axioms gmemWords_holds
end Go.Proofs.Ytigdolohdehcdaa.gmemWords
