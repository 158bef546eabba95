/-
  PROVED: dumbwaiterlaw06.FeatSets returns true for every kind and two sets, and what was in memory stays as it was. Conditions: none.
-/
import Derived.Test.YtahhbfcafkiilaaRows
import Derived.Test.YtahhbfcafkiilaaFl
import Derived.WalkKit
import Derived.ProofKit
import Derived.OpenShut
import Derived.ShutString
import Derived.ChangeOld
import Derived.Below
import Derived.Carry
import Derived.Lib.SmallJoins
namespace Go.Proofs.Ytahhbfcafkiilaa.featSets
open Go.ChangeShapes Go.WideShapes Go.ChangeAt Go.RowKit
set_option linter.unusedVariables false



set_option maxRecDepth 100000 in
set_option maxHeartbeats 4000000 in
theorem walk (w : World) (a0 a1 a2 : Int) (w0 : (Lit.int .i64 a0).wf = true) (w1 : (Lit.int .u64 a1).wf = true) (w2 : (Lit.int .u64 a2).wf = true) :
    Calls Try.prog 4 #[.int .i64 a0, .int .u64 a1, .int .u64 a2] w fun e w' => e = .returned (.bool true) ∧ Below w.heap.size w w' := by
  obtain ⟨b10, b11⟩ := bounds_u64 w1
  obtain ⟨b20, b21⟩ := bounds_u64 w2
  clear w0 w1 w2
  obtain ⟨A0, rfl⟩ := Int.eq_ofNat_of_zero_le b10
  obtain ⟨B0, rfl⟩ := Int.eq_ofNat_of_zero_le b20
  have hA0 : A0 < N64 := by
    show A0 < 18446744073709551616
    omega
  have hB0 : B0 < N64 := by
    show B0 < 18446744073709551616
    omega
  clear b10 b11 b20 b21
  obtain ⟨r, hr⟩ : ∃ r, a0 % 3 = r := ⟨_, rfl⟩
  have r0 : 0 ≤ r := by omega
  have r1 : r < 3 := by omega
  have HP := hid_mk (fun u => pick_at a0 3 r u (by decide) (by decide) hr)
  obtain ⟨K, hK⟩ : ∃ K, 1 + r = K := ⟨_, rfl⟩
  have hk : K = 1 ∨ K = 2 ∨ K = 3 := by omega
  have hw : IntKind.i64.wrap (1 + r) = K := by rw [hK]; exact IntWalk.i64_in _ (by omega)
  clear hr
  have HA := hid_mk (fall K)
  have hal := allF_lt K
  have OA := hid_mk (u64_and_nat A0 (allF K) hA0 hal)
  have OB := hid_mk (u64_and_nat B0 (allF K) hB0 hal)
  have hsa : subF (A0 &&& allF K) (allF K) := fun i h => by
    rw [Nat.testBit_and, Bool.and_eq_true] at h
    exact h.2
  have hsb : subF (B0 &&& allF K) (allF K) := fun i h => by
    rw [Nat.testBit_and, Bool.and_eq_true] at h
    exact h.2
  have hla : A0 &&& allF K < N64 := and_lt _ hA0
  have hlb : B0 &&& allF K < N64 := and_lt _ hB0
  generalize A0 &&& allF K = A at *
  generalize B0 &&& allF K = B at *
  have hka : knownF K A = true := (knownF_iff hla).2 ⟨hk, hsa⟩
  have hkb : knownF K B = true := (knownF_iff hlb).2 ⟨hk, hsb⟩
  generalize allF K = al at *
  have hcx := Clo.clo hla hka
  have hcy := Clo.clo hlb hkb
  have ex := or_need hla hka
  have ey := or_need hlb hkb
  have hlx := cloF_lt (k := K) hla
  have hly := cloF_lt (k := K) hlb
  have hln := needF_lt (k := K) hla
  have hlm := needF_lt (k := K) hlb
  have HKA := hid_mk (fknown K A hla)
  rw [hka] at HKA
  have hca := closedF_need hka
  have HNA := hid_mk (fneeds K A hla)
  have HNB := hid_mk (fneeds K B hlb)
  have HCA := hid_mk (fclosed K A hla)
  rw [hca] at HCA
  have HZ := hid_mk (zero_int (needF K A))
  generalize cloF K A = X at *
  generalize cloF K B = Y at *
  have OX : Hid (bits .or .u64 (A : Int) (needF K A : Nat) = X) := or_int hla hln ex
  have OY : Hid (bits .or .u64 (B : Int) (needF K B : Nat) = Y) := or_int hlb hlm ey
  have HCX := hid_mk (fclosed K X hlx)
  rw [(closedF_iff hlx).2 hcx] at HCX
  have HCY := hid_mk (fclosed K Y hly)
  rw [(closedF_iff hly).2 hcy] at HCY
  have HNX := hid_mk (fneeds K X hlx)
  rw [needF_closed ((closedF_iff hlx).2 hcx)] at HNX
  have OO := hid_mk (u64_or_nat X Y hlx hly)
  have OW := hid_mk (u64_and_nat X Y hlx hly)
  have HCO := hid_mk (fclosed K (X ||| Y) (or_lt hlx hly))
  rw [(closedF_iff (or_lt hlx hly)).2 (hcx.or hcy)] at HCO
  have HCN := hid_mk (fclosed K (X &&& Y) (and_lt _ hlx))
  rw [(closedF_iff (and_lt _ hlx)).2 (hcx.and hcy)] at HCN
  clear hk hka hkb hcx hcy ex ey hca
  generalize needF K A = NA at *
  generalize needF K B = NB at *
  generalize X ||| Y = XO at *
  generalize X &&& Y = XN at *
  generalize hz : decide (NA = 0) = z at *
  clear hz hA0 hB0 hal hsa hsb hla hlb hlx hly hln hlm
  go_enter Try.func4, Try.ntmps4
  go_wp2_with fail
  refine (lives6_any _).mono ?_
  rintro e w1 ⟨rfl, hb⟩
  have B1 := hid_mk (hb)
  clear hb
  go_wp2_with fail
  refine (HP.out _).mono ?_
  rintro e u ⟨rfl, rfl⟩
  go_wp2_with fail
  refine (HA.out _).mono ?_
  rintro e w3 ⟨rfl, hb⟩
  have B3 := hid_mk (below_two B1.out hb)
  clear hb
  go_wp2_with fail
  refine (HA.out _).mono ?_
  rintro e w4 ⟨rfl, hb⟩
  have B4 := hid_mk (below_two B3.out hb)
  clear hb
  go_wp2_with fail
  rw [OA.out, OB.out]
  refine (HNA.out _).mono ?_
  rintro e w5 ⟨rfl, hb⟩
  have B5 := hid_mk (below_two B4.out hb)
  clear hb
  go_wp2_with fail
  refine (HNB.out _).mono ?_
  rintro e w6 ⟨rfl, hb⟩
  have B6 := hid_mk (below_two B5.out hb)
  clear hb
  go_wp2_with fail
  rw [OX.out, OY.out]
  refine (HKA.out _).mono ?_
  rintro e w7 ⟨rfl, hb⟩
  have B7 := hid_mk (below_two B6.out hb)
  clear hb
  go_wp2_with fail
  refine (HCX.out _).mono ?_
  rintro e w8 ⟨rfl, hb⟩
  have B8 := hid_mk (below_two B7.out hb)
  clear hb
  go_wp2_with fail
  refine (HCY.out _).mono ?_
  rintro e w9 ⟨rfl, hb⟩
  have B9 := hid_mk (below_two B8.out hb)
  clear hb
  go_wp2_with fail
  refine (HNX.out _).mono ?_
  rintro e w10 ⟨rfl, hb⟩
  have B10 := hid_mk (below_two B9.out hb)
  clear hb
  go_wp2_with fail
  rw [OO.out]
  refine (HCO.out _).mono ?_
  rintro e w11 ⟨rfl, hb⟩
  have B11 := hid_mk (below_two B10.out hb)
  clear hb
  go_wp2_with fail
  rw [OW.out]
  refine (HCN.out _).mono ?_
  rintro e w12 ⟨rfl, hb⟩
  have B12 := hid_mk (below_two B11.out hb)
  clear hb
  go_wp2_with fail
  refine (HCA.out _).mono ?_
  rintro e w13 ⟨rfl, hb⟩
  have B13 := hid_mk (below_two B12.out hb)
  clear hb
  go_wp2_with fail
  refine (HNA.out _).mono ?_
  rintro e w14 ⟨rfl, hb⟩
  have B14 := hid_mk (below_two B13.out hb)
  clear hb
  go_wp2_with fail
  go_ret
  exact ⟨ret_eq (by
    show Value.bool _ = _
    rw [HZ.out]
    simp), B14.out⟩

/-! ### the row's frame -/
theorem own : ownKnob Try.prog.godebug = none := by kernel_rfl
theorem laidOut : laidOutB Try.prog = true := by kernel_rfl

set_option maxRecDepth 100000 in
theorem lifted (os : Os) (started : os.Started) (H : Type) (enc : TypeId × Value → H) :
    ReturnsInHanded {} Try.checked os 4 .any (Rows.featSetsSpec.pre6 enc Try.prog Try.f4 Rows.featSetsRow.domain false) (Rows.featSetsSpec.post enc Try.prog Try.f4 false true false false) := by
  refine returnsInHanded_of_change (C := Try.checked) own started (by kernel_rfl) Try.func4
    (ChangeSpec.witness6 (enc := enc) (C := Try.checked) false ⟨#[], #[.int .i64 0, .int .u64 0, .int .u64 0], []⟩ 8 (by kernel_rfl) (by kernel_rfl) (by kernel_rfl) (by kernel_rfl)) ?_
  intro W base args ds gs before hval0 hW hcnd _
  have hval : ∀ (j : Nat) t v, Try.f4.params[j]? = some t → args[j]? = some v → Value.okWide Try.prog W .any base t v := hval0
  have hW' := hW
  obtain ⟨p, q, hA0, hV, rfl, hfz, hnd⟩ := hW
  have hA : DataW.TrodAll enc Try.prog W 0 (fun _ => true) true Try.f4.params.toList args.toList ds p := hA0
  rw [Try.params4] at hA hval
  obtain ⟨v0, vs0, d0, ds0, p0, q0, hargs, rfl, rfl, h0, r0⟩ := trodAll_cons hA
  obtain ⟨v1, vs1, d1, ds1, p1, q1, rfl, rfl, rfl, h1, r1⟩ := trodAll_cons r0
  obtain ⟨v2, vs2, d2, ds2, p2, q2, rfl, rfl, rfl, h2, r2⟩ := trodAll_cons r1
  obtain ⟨rfl, rfl, rfl⟩ := trodAll_nil r2
  obtain rfl : args = #[v0, v1, v2] := by cases args; simp_all
  obtain ⟨rfl, rfl⟩ := trodVars_none hV
  have k0 := h0
  have lt0 : ∀ x ∈ p0, x.block < W.heap.size := by
    obtain ⟨m, hm⟩ := k0
    exact DataW.trod_lt m _ _ _ hm
  have k1 := h1
  have lt1 : ∀ x ∈ p1, x.block < W.heap.size := by
    obtain ⟨m, hm⟩ := k1
    exact DataW.trod_lt m _ _ _ hm
  have k2 := h2
  have lt2 : ∀ x ∈ p2, x.block < W.heap.size := by
    obtain ⟨m, hm⟩ := k2
    exact DataW.trod_lt m _ _ _ hm
  obtain ⟨a0, rfl, rfl, rfl, w0⟩ := open_int Try.underlying3 (hval 0 3 v0 rfl rfl) h0
  obtain ⟨a1, rfl, rfl, rfl, w1⟩ := open_int Try.underlying22 (hval 1 22 v1 rfl rfl) h1
  obtain ⟨a2, rfl, rfl, rfl, w2⟩ := open_int Try.underlying22 (hval 2 22 v2 rfl rfl) h2
  clear hA0 hval0
  refine (walk W a0 a1 a2 w0 w1 w2).mono fun e W' ⟨he, bel⟩ => ?_
  subst he
  exact ⟨_, rfl, _, _, _, [], _, [], hW', trodAll_mk1 (shut_bool Try.underlying4 _), (trodAll_cons_mk (Below.trod laidOut (by kernel_rfl) (of_decide_eq_true (by kernel_rfl)) k0 bel lt0) (trodAll_cons_mk (Below.trod laidOut (by kernel_rfl) (of_decide_eq_true (by kernel_rfl)) k1 bel lt1) (trodAll_cons_mk (Below.trod laidOut (by kernel_rfl) (of_decide_eq_true (by kernel_rfl)) k2 bel lt2) trodAll_mk0))), rfl, bel.frame _, fun h => by cases h⟩

theorem over : Rows.featSetsRow.holds Try.pinned (OpenSpec.ofChange Rows.featSetsSpec) :=
  OpenClaim.holds_of_wide 4 Try.f4 rfl rfl rfl rfl rfl rfl rfl ⟨rfl, rfl, rfl, rfl, rfl⟩ rfl rfl rfl rfl rfl (by kernel_rfl) Try.func4 (by kernel_rfl)
    (of_decide_eq_true (by kernel_rfl)) (by unfold Func.isWrapper; first | (rw [if_pos (by decide +kernel)]; kernel_rfl) | (rw [if_neg (by decide +kernel)]; exact ⟨rfl, rfl⟩))
    (fun os started H enc _ => lifted os started H enc)

/-- THE STATEMENT -/
theorem featSets_holds : Rows.FeatSetsSaid := over
#print axioms featSets_holds
end Go.Proofs.Ytahhbfcafkiilaa.featSets
