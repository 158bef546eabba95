/-
  PROVED: dumbwaiterlaw06.FeatBest returns true for every kind, offer, wish and set, and what was in memory stays as it was. Conditions: none.
-/
import Derived.Test.YtahhbfcafkiilaaRows
import Derived.Test.YtahhbfcafkiilaaFl
import Derived.WalkKit
import Derived.ProofKit
import Derived.OpenShut
import Derived.ShutString
import Derived.ChangeOld
import Derived.Below
import Derived.Carry
import Derived.Lib.SmallJoins
namespace Go.Proofs.Ytahhbfcafkiilaa.featBest
open Go.ChangeShapes Go.WideShapes Go.ChangeAt Go.RowKit
set_option linter.unusedVariables false



theorem and_zero {o : Nat} (h : o.testBit 32 = false) : o &&& 2 ^ 32 = 0 := by
  refine zero_iff.2 fun i => ?_
  rw [Nat.testBit_and, one_bit]
  by_cases e : 32 = i
  · rw [← e, h]
    rfl
  · rw [decide_eq_false e, Bool.and_false]
theorem ne_int {a : Nat} (h : a ≠ 0) : ((a : Int) == 0) = false := by
  rw [zero_int]
  exact decide_eq_false h
theorem known_and {K : Int} {T : Nat} (hk : K = 1 ∨ K = 2 ∨ K = 3) (hT : T < N64) : knownF K (T &&& allF K) = true :=
  (knownF_iff (and_lt _ hT)).2 ⟨hk, fun i h => by
    rw [Nat.testBit_and, Bool.and_eq_true] at h
    exact h.2⟩

set_option maxRecDepth 100000 in
set_option maxHeartbeats 4000000 in
theorem walk (w : World) (a0 a1 a2 a3 : Int) (w0 : (Lit.int .i64 a0).wf = true) (w1 : (Lit.int .u64 a1).wf = true) (w2 : (Lit.int .u64 a2).wf = true) (w3 : (Lit.int .u64 a3).wf = true) :
    Calls Try.prog 5 #[.int .i64 a0, .int .u64 a1, .int .u64 a2, .int .u64 a3] w fun e w' => e = .returned (.bool true) ∧ Below w.heap.size w w' := by
  obtain ⟨b10, b11⟩ := bounds_u64 w1
  obtain ⟨b20, b21⟩ := bounds_u64 w2
  obtain ⟨b30, b31⟩ := bounds_u64 w3
  clear w0 w1 w2 w3
  obtain ⟨o, rfl⟩ := Int.eq_ofNat_of_zero_le b10
  obtain ⟨wt, rfl⟩ := Int.eq_ofNat_of_zero_le b20
  obtain ⟨t, rfl⟩ := Int.eq_ofNat_of_zero_le b30
  have ho : o < N64 := by
    show o < 18446744073709551616
    omega
  have hwt : wt < N64 := by
    show wt < 18446744073709551616
    omega
  have ht : t < N64 := by
    show t < 18446744073709551616
    omega
  clear b10 b11 b20 b21 b30 b31
  obtain ⟨r, hr⟩ : ∃ r, a0 % 3 = r := ⟨_, rfl⟩
  have r0 : 0 ≤ r := by omega
  have r1 : r < 3 := by omega
  have HP := hid_mk (fun u => pick_at a0 3 r u (by decide) (by decide) hr)
  obtain ⟨K, hK⟩ : ∃ K, 1 + r = K := ⟨_, rfl⟩
  have hk : K = 1 ∨ K = 2 ∨ K = 3 := by omega
  have hw : IntKind.i64.wrap (1 + r) = K := by rw [hK]; exact IntWalk.i64_in _ (by omega)
  clear hr
  have H32 := hid_mk (bit_law 32 (by decide))
  have HB := hid_mk (fbest K o wt ho hwt)
  have ha0 : allF K ≠ 0 := allF_pos.2 hk
  cases hv : o.testBit 32
  · have e : bestB K o = false := by
      unfold bestB
      rw [hv, Bool.and_false]
    have e1 : bestR K o wt = 0 := by
      unfold bestR
      rw [e]
      rfl
    have e2 : bestE K o = 2 := by
      unfold bestE
      rw [e]
      rfl
    rw [e1, e2] at HB
    have OZ := hid_mk (u64_and_nat o (2 ^ 32) ho (by decide))
    rw [and_zero hv] at OZ
    clear e e1 e2 ha0 hv hk
    generalize 2 ^ 32 = b32 at *
    go_enter Try.func5, Try.ntmps5
    go_wp2_with fail
    refine (lives6_any _).mono ?_
    rintro e w1 ⟨rfl, hb⟩
    have B1 := hid_mk (hb)
    clear hb
    go_wp2_with fail
    refine (HP.out _).mono ?_
    rintro e u ⟨rfl, rfl⟩
    go_wp2_with fail
    refine (H32.out _).mono ?_
    rintro e u ⟨rfl, rfl⟩
    go_wp2_with fail
    refine (HB.out _).mono ?_
    rintro e w4 ⟨rfl, hb⟩
    have B4 := hid_mk (below_two B1.out hb)
    clear hb
    go_wp2_with fail
    go_ret
    exact ⟨ret_eq (by
      show Value.bool _ = _
      rw [OZ.out]
      rfl), B4.out⟩
  · have e : bestB K o = true := by
      unfold bestB
      rw [hv, decide_eq_true ha0]
      rfl
    have e1 : bestR K o wt = bestF K o wt := by
      unfold bestR
      rw [if_pos e]
    have e2 : bestE K o = 0 := by
      unfold bestE
      rw [if_pos e]
    rw [e1, e2] at HB
    have hbl : bestF K o wt < N64 := bestF_lt ho
    have hbc := Clo.best (w := wt) ho hk hv
    have hb32 : (bestF K o wt).testBit 32 = true := hbc.v1
    have eb : bestB K (bestF K o wt) = true := by
      unfold bestB
      rw [hb32, decide_eq_true ha0]
      rfl
    have HG := hid_mk (fbest K (bestF K o wt) wt hbl hwt)
    have e3 : bestR K (bestF K o wt) wt = bestF K o wt := by
      unfold bestR
      rw [if_pos eb, best_again ho hk hv]
    have e4 : bestE K (bestF K o wt) = 0 := by
      unfold bestE
      rw [if_pos eb]
    rw [e3, e4] at HG
    have HA := hid_mk (fall K)
    have hlv : wt ||| 2 ^ 32 < N64 := or_lt hwt (by decide)
    have hlt : t &&& o < N64 := and_lt _ ht
    have hlt2 : (t &&& o) &&& (wt ||| 2 ^ 32) < N64 := and_lt _ hlt
    have hlt3 : ((t &&& o) &&& (wt ||| 2 ^ 32)) &&& allF K < N64 := and_lt _ hlt2
    have OT : Hid (bits .and .u64 (bits .and .u64 (bits .and .u64 (t : Int) (o : Int)) (bits .or .u64 (wt : Int) ((2 ^ 32 : Nat) : Int))) (allF K : Nat) = ((((t &&& o) &&& (wt ||| 2 ^ 32)) &&& allF K : Nat) : Int)) := by
      show _ = _
      rw [u64_and_nat t o ht ho, u64_or_nat wt (2 ^ 32) hwt (by decide), u64_and_nat _ _ hlt hlv, u64_and_nat _ _ hlt2 (allF_lt K)]
    have hkn := known_and (K := K) hk hlt2
    generalize ((t &&& o) &&& (wt ||| 2 ^ 32)) &&& allF K = T at *
    have HNT := hid_mk (fneeds K T hlt3)
    have OX : Hid (bits .or .u64 (T : Int) (needF K T : Nat) = (cloF K T : Nat)) := or_int hlt3 (needF_lt hlt3) (or_need hlt3 hkn)
    have hcl := Clo.clo hlt3 hkn
    have hlx := cloF_lt (k := K) hlt3
    have HAT := hid_mk (faccept K o (cloF K T) ho hlx)
    have HAB := hid_mk (faccept K o (bestF K o wt) ho hbl)
    rw [(acceptF_iff hbl ho).2 ⟨hbc, best_offer ho⟩] at HAB
    have HM := fun (a1 : acceptF K o (cloF K T) = true) (a2 : minF (cloF K T) (wt ||| 2 ^ 32) = 0) => (minF_zero hbl hlx).2 (best_most ho hcl ((acceptF_iff hlx ho).1 a1).2 ((minF_zero hlv hlx).1 a2))
    have hbw : minF (bestF K o wt) (wt ||| 2 ^ 32) = 0 := (minF_zero hlv hbl).2 (best_wish ho)
    have q3 : (bits .andNot .u64 (bestF K o wt : Nat) (bits .or .u64 (wt : Int) ((2 ^ 32 : Nat) : Int)) == 0) = true := by
      rw [u64_or_nat wt (2 ^ 32) hwt (by decide), min_int hbl hlv, hbw]
      rfl
    have Q1 : (bits .andNot .u64 (cloF K T : Nat) (bits .or .u64 (wt : Int) ((2 ^ 32 : Nat) : Int)) == 0) = decide (minF (cloF K T) (wt ||| 2 ^ 32) = 0) := by
      rw [u64_or_nat wt (2 ^ 32) hwt (by decide), min_int hlx hlv, zero_int]
    have Q2 := min_int hlx hbl
    clear e e1 e2 e3 e4 eb hb32 ha0 hv hk hbc hbw hcl hkn hlt hlt2
    generalize wt ||| 2 ^ 32 = wv at *
    generalize 2 ^ 32 = b32 at *
    generalize allF K = al at *
    generalize needF K T = NT at *
    generalize cloF K T = X at *
    generalize bestF K o wt = B at *
    cases hac : acceptF K o X
    · rw [hac] at HAT
      clear HM Q1 Q2 hac
      go_enter Try.func5, Try.ntmps5
      go_wp2_with fail
      refine (lives6_any _).mono ?_
      rintro e w1 ⟨rfl, hb⟩
      have B1 := hid_mk (hb)
      clear hb
      go_wp2_with fail
      refine (HP.out _).mono ?_
      rintro e u ⟨rfl, rfl⟩
      go_wp2_with fail
      refine (H32.out _).mono ?_
      rintro e u ⟨rfl, rfl⟩
      go_wp2_with fail
      refine (HB.out _).mono ?_
      rintro e w4 ⟨rfl, hb⟩
      have B4 := hid_mk (below_two B1.out hb)
      clear hb
      go_wp2_with fail
      refine (HA.out _).mono ?_
      rintro e w5 ⟨rfl, hb⟩
      have B5 := hid_mk (below_two B4.out hb)
      clear hb
      go_wp2_with fail
      rw [OT.out]
      refine (HNT.out _).mono ?_
      rintro e w6 ⟨rfl, hb⟩
      have B6 := hid_mk (below_two B5.out hb)
      clear hb
      go_wp2_with fail
      rw [OX.out]
      refine (HAT.out _).mono ?_
      rintro e w7 ⟨rfl, hb⟩
      have B7 := hid_mk (below_two B6.out hb)
      clear hb
      go_wp2_with fail
      refine (HG.out _).mono ?_
      rintro e w8 ⟨rfl, hb⟩
      have B8 := hid_mk (below_two B7.out hb)
      clear hb
      go_wp2_with fail
      refine (HAB.out _).mono ?_
      rintro e w9 ⟨rfl, hb⟩
      have B9 := hid_mk (below_two B8.out hb)
      clear hb
      go_wp2_with fail
      go_ret
      exact ⟨rfl, B9.out⟩
    · rw [hac] at HAT
      by_cases hz : minF X wv = 0
      · have q1 := Q1
        rw [decide_eq_true hz] at q1
        have q2 : (bits .andNot .u64 (X : Nat) (B : Nat) != 0) = false := by
          rw [Q2, HM hac hz]
          rfl
        clear HM Q1 Q2 hz hac
        go_enter Try.func5, Try.ntmps5
        go_wp2_with fail
        refine (lives6_any _).mono ?_
        rintro e w1 ⟨rfl, hb⟩
        have B1 := hid_mk (hb)
        clear hb
        go_wp2_with fail
        refine (HP.out _).mono ?_
        rintro e u ⟨rfl, rfl⟩
        go_wp2_with fail
        refine (H32.out _).mono ?_
        rintro e u ⟨rfl, rfl⟩
        go_wp2_with fail
        refine (HB.out _).mono ?_
        rintro e w4 ⟨rfl, hb⟩
        have B4 := hid_mk (below_two B1.out hb)
        clear hb
        go_wp2_with fail
        refine (HA.out _).mono ?_
        rintro e w5 ⟨rfl, hb⟩
        have B5 := hid_mk (below_two B4.out hb)
        clear hb
        go_wp2_with fail
        rw [OT.out]
        refine (HNT.out _).mono ?_
        rintro e w6 ⟨rfl, hb⟩
        have B6 := hid_mk (below_two B5.out hb)
        clear hb
        go_wp2_with fail
        rw [OX.out]
        refine (HAT.out _).mono ?_
        rintro e w7 ⟨rfl, hb⟩
        have B7 := hid_mk (below_two B6.out hb)
        clear hb
        go_wp2_with fail
        refine (HG.out _).mono ?_
        rintro e w8 ⟨rfl, hb⟩
        have B8 := hid_mk (below_two B7.out hb)
        clear hb
        go_wp2_with fail
        refine (HAB.out _).mono ?_
        rintro e w9 ⟨rfl, hb⟩
        have B9 := hid_mk (below_two B8.out hb)
        clear hb
        go_wp2_with fail
        go_ret
        exact ⟨rfl, B9.out⟩
      · have q1 := Q1
        rw [decide_eq_false hz] at q1
        clear HM Q1 Q2 hz hac
        go_enter Try.func5, Try.ntmps5
        go_wp2_with fail
        refine (lives6_any _).mono ?_
        rintro e w1 ⟨rfl, hb⟩
        have B1 := hid_mk (hb)
        clear hb
        go_wp2_with fail
        refine (HP.out _).mono ?_
        rintro e u ⟨rfl, rfl⟩
        go_wp2_with fail
        refine (H32.out _).mono ?_
        rintro e u ⟨rfl, rfl⟩
        go_wp2_with fail
        refine (HB.out _).mono ?_
        rintro e w4 ⟨rfl, hb⟩
        have B4 := hid_mk (below_two B1.out hb)
        clear hb
        go_wp2_with fail
        refine (HA.out _).mono ?_
        rintro e w5 ⟨rfl, hb⟩
        have B5 := hid_mk (below_two B4.out hb)
        clear hb
        go_wp2_with fail
        rw [OT.out]
        refine (HNT.out _).mono ?_
        rintro e w6 ⟨rfl, hb⟩
        have B6 := hid_mk (below_two B5.out hb)
        clear hb
        go_wp2_with fail
        rw [OX.out]
        refine (HAT.out _).mono ?_
        rintro e w7 ⟨rfl, hb⟩
        have B7 := hid_mk (below_two B6.out hb)
        clear hb
        go_wp2_with fail
        refine (HG.out _).mono ?_
        rintro e w8 ⟨rfl, hb⟩
        have B8 := hid_mk (below_two B7.out hb)
        clear hb
        go_wp2_with fail
        refine (HAB.out _).mono ?_
        rintro e w9 ⟨rfl, hb⟩
        have B9 := hid_mk (below_two B8.out hb)
        clear hb
        go_wp2_with fail
        go_ret
        exact ⟨rfl, B9.out⟩

/-! ### the row's frame -/
theorem own : ownKnob Try.prog.godebug = none := by kernel_rfl
theorem laidOut : laidOutB Try.prog = true := by kernel_rfl

set_option maxRecDepth 100000 in
theorem lifted (os : Os) (started : os.Started) (H : Type) (enc : TypeId × Value → H) :
    ReturnsInHanded {} Try.checked os 5 .any (Rows.featBestSpec.pre6 enc Try.prog Try.f5 Rows.featBestRow.domain false) (Rows.featBestSpec.post enc Try.prog Try.f5 false true false false) := by
  refine returnsInHanded_of_change (C := Try.checked) own started (by kernel_rfl) Try.func5
    (ChangeSpec.witness6 (enc := enc) (C := Try.checked) false ⟨#[], #[.int .i64 0, .int .u64 0, .int .u64 0, .int .u64 0], []⟩ 8 (by kernel_rfl) (by kernel_rfl) (by kernel_rfl) (by kernel_rfl)) ?_
  intro W base args ds gs before hval0 hW hcnd _
  have hval : ∀ (j : Nat) t v, Try.f5.params[j]? = some t → args[j]? = some v → Value.okWide Try.prog W .any base t v := hval0
  have hW' := hW
  obtain ⟨p, q, hA0, hV, rfl, hfz, hnd⟩ := hW
  have hA : DataW.TrodAll enc Try.prog W 0 (fun _ => true) true Try.f5.params.toList args.toList ds p := hA0
  rw [Try.params5] at hA hval
  obtain ⟨v0, vs0, d0, ds0, p0, q0, hargs, rfl, rfl, h0, r0⟩ := trodAll_cons hA
  obtain ⟨v1, vs1, d1, ds1, p1, q1, rfl, rfl, rfl, h1, r1⟩ := trodAll_cons r0
  obtain ⟨v2, vs2, d2, ds2, p2, q2, rfl, rfl, rfl, h2, r2⟩ := trodAll_cons r1
  obtain ⟨v3, vs3, d3, ds3, p3, q3, rfl, rfl, rfl, h3, r3⟩ := trodAll_cons r2
  obtain ⟨rfl, rfl, rfl⟩ := trodAll_nil r3
  obtain rfl : args = #[v0, v1, v2, v3] := by cases args; simp_all
  obtain ⟨rfl, rfl⟩ := trodVars_none hV
  have k0 := h0
  have lt0 : ∀ x ∈ p0, x.block < W.heap.size := by
    obtain ⟨m, hm⟩ := k0
    exact DataW.trod_lt m _ _ _ hm
  have k1 := h1
  have lt1 : ∀ x ∈ p1, x.block < W.heap.size := by
    obtain ⟨m, hm⟩ := k1
    exact DataW.trod_lt m _ _ _ hm
  have k2 := h2
  have lt2 : ∀ x ∈ p2, x.block < W.heap.size := by
    obtain ⟨m, hm⟩ := k2
    exact DataW.trod_lt m _ _ _ hm
  have k3 := h3
  have lt3 : ∀ x ∈ p3, x.block < W.heap.size := by
    obtain ⟨m, hm⟩ := k3
    exact DataW.trod_lt m _ _ _ hm
  obtain ⟨a0, rfl, rfl, rfl, w0⟩ := open_int Try.underlying3 (hval 0 3 v0 rfl rfl) h0
  obtain ⟨a1, rfl, rfl, rfl, w1⟩ := open_int Try.underlying22 (hval 1 22 v1 rfl rfl) h1
  obtain ⟨a2, rfl, rfl, rfl, w2⟩ := open_int Try.underlying22 (hval 2 22 v2 rfl rfl) h2
  obtain ⟨a3, rfl, rfl, rfl, w3⟩ := open_int Try.underlying22 (hval 3 22 v3 rfl rfl) h3
  clear hA0 hval0
  refine (walk W a0 a1 a2 a3 w0 w1 w2 w3).mono fun e W' ⟨he, bel⟩ => ?_
  subst he
  exact ⟨_, rfl, _, _, _, [], _, [], hW', trodAll_mk1 (shut_bool Try.underlying4 _), (trodAll_cons_mk (Below.trod laidOut (by kernel_rfl) (of_decide_eq_true (by kernel_rfl)) k0 bel lt0) (trodAll_cons_mk (Below.trod laidOut (by kernel_rfl) (of_decide_eq_true (by kernel_rfl)) k1 bel lt1) (trodAll_cons_mk (Below.trod laidOut (by kernel_rfl) (of_decide_eq_true (by kernel_rfl)) k2 bel lt2) (trodAll_cons_mk (Below.trod laidOut (by kernel_rfl) (of_decide_eq_true (by kernel_rfl)) k3 bel lt3) trodAll_mk0)))), rfl, bel.frame _, fun h => by cases h⟩

theorem over : Rows.featBestRow.holds Try.pinned (OpenSpec.ofChange Rows.featBestSpec) :=
  OpenClaim.holds_of_wide 5 Try.f5 rfl rfl rfl rfl rfl rfl rfl ⟨rfl, rfl, rfl, rfl, rfl⟩ rfl rfl rfl rfl rfl (by kernel_rfl) Try.func5 (by kernel_rfl)
    (of_decide_eq_true (by kernel_rfl)) (by unfold Func.isWrapper; first | (rw [if_pos (by decide +kernel)]; kernel_rfl) | (rw [if_neg (by decide +kernel)]; exact ⟨rfl, rfl⟩))
    (fun os started H enc _ => lifted os started H enc)

/-- THE STATEMENT -/
theorem featBest_holds : Rows.FeatBestSaid := over
#print axioms featBest_holds
end Go.Proofs.Ytahhbfcafkiilaa.featBest
