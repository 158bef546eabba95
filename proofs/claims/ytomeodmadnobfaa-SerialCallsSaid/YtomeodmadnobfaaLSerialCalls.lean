/-
  PROVED: dumbwaiterlaw01.SerialCalls returns true for every three words, two positions, move, size and two numbers, and what was in memory stays as it was. Conditions: none.
-/
import Derived.Test.YtomeodmadnobfaaRows
import Derived.Test.YtomeodmadnobfaaSer9
import Derived.WalkKit
import Derived.ProofKit
import Derived.OpenShut
import Derived.ShutString
import Derived.ChangeOld
import Derived.Below
import Derived.Carry
import Derived.Lib.SmallJoins
import Derived.Deep.RegionHeld3
namespace Go.Proofs.Ytomeodmadnobfaa.serialCalls
open Go.ChangeShapes Go.WideShapes Go.ChangeAt Go.RowKit
set_option linter.unusedVariables false


theorem keepS {B : Nat} {u w w' : World} {x y : Value} (hB : B < u.heap.size) (h : Below u.heap.size u w ∧ w.cell? ⟨B, 0, none⟩ = some x ∧ w.cell? ⟨B, 1, none⟩ = some y) (hb : Below w.heap.size w w') :
    Below u.heap.size u w' ∧ w'.cell? ⟨B, 0, none⟩ = some x ∧ w'.cell? ⟨B, 1, none⟩ = some y := by
  obtain ⟨h1, h2, h3⟩ := h
  have hz := h1.size
  exact ⟨h1.trans (hb.mono hz), (hb.cell (p := ⟨B, 0, none⟩) (Nat.lt_of_lt_of_le hB hz)).trans h2, (hb.cell (p := ⟨B, 1, none⟩) (Nat.lt_of_lt_of_le hB hz)).trans h3⟩

set_option maxRecDepth 100000 in
set_option maxHeartbeats 4000000 in
theorem walk (a0 a1 a2 a3 : Int) (b3 : Bool) (a4 : Int) (b4 : Bool) (a5 a6 a7 a8 : Int) (w0 : (Lit.int .u16 a0).wf = true) (w1 : (Lit.int .u16 a1).wf = true) (w2 : (Lit.int .u16 a2).wf = true) (w3 : (Lit.int .i64 a3).wf = true) (w4 : (Lit.int .i64 a4).wf = true) (w5 : (Lit.int .i64 a5).wf = true) (w6 : (Lit.int .i64 a6).wf = true) (w7 : (Lit.int .u64 a7).wf = true) (w8 : (Lit.int .u64 a8).wf = true) (w : World) :
    Calls Try.prog 4 #[.int .u16 a0, .int .u16 a1, .int .u16 a2, .agg #[.int .i64 a3, .bool b3], .agg #[.int .i64 a4, .bool b4], .int .i64 a5, .int .i64 a6, .int .u64 a7, .int .u64 a8] w fun e w' => e = .returned (.bool true) ∧ Below w.heap.size w w' := by
  have hn : U64 a7 := by
    have := bounds_u64 w7
    exact ⟨this.1, by omega⟩
  have ht : U64 a8 := by
    have := bounds_u64 w8
    exact ⟨this.1, by omega⟩
  have hx : 0 ≤ a0 ∧ a0 < 65536 := by
    have := bounds_u16 w0
    omega
  have hx0 : Hid (0 ≤ a0) := hx.1
  have hx1 : Hid (a0 < 65536) := hx.2
  clear w0 w1 w2 w3 w4 w5 w6 w7 w8 hx
  go_enter Try.func4, Try.ntmps4
  go_wp2_with fail
  refine (lives_any _).mono ?_
  rintro e u1 ⟨rfl, hb1⟩
  have p0 := hb1.cell (p := ⟨w.heap.size, 0, none⟩) (by simp; omega)
  have p1 := hb1.cell (p := ⟨w.heap.size, 1, none⟩) (by simp; omega)
  have q0 := hb1.cell (p := ⟨w.heap.size + 1, 0, none⟩) (by simp)
  have q1 := hb1.cell (p := ⟨w.heap.size + 1, 1, none⟩) (by simp)
  have z1 : w.heap.size + 1 < u1.heap.size := by
    have := hb1.size
    simp at this
    omega
  have z0 : w.heap.size < u1.heap.size := by omega
  simp [go_sem] at p0 p1 q0 q1
  go_wp2_with fail
  go_region_held3 (fun w' => Below u1.heap.size u1 w' ∧ w'.cell? ⟨w.heap.size, 0, none⟩ = some (.int .i64 a3) ∧ w'.cell? ⟨w.heap.size, 1, none⟩ = some (.bool b3))
    (first | exact ⟨(Below.refl _ _).drew, p0, p1⟩ | exact keepS z0 (by assumption) (by assumption) | assumption)
    (first
      | (go_at_call 16; refine (dist_any _ _ _).mono ?_; rintro e w' ⟨rfl, rfl⟩)
      | (go_at_call 17; refine (rdist_any _ _ _).mono ?_; rintro e w' ⟨rfl, rfl⟩)
      | (go_at_call 18; refine (need_any _ _ _ _).mono ?_; rintro e w' ⟨rfl, rfl⟩)
      | (go_at_call 19; refine (rneed_any _ _ _ _).mono ?_; rintro e w' ⟨rfl, rfl⟩)
      | (go_at_call 20; refine (check_all _ _ _ _).mono ?_; rintro e w' ⟨rfl, hb⟩)
      | (go_at_call 21; refine (rcheck_all _ _ _ _).mono ?_; rintro e w' ⟨rfl, hb⟩)
      | (go_at_call 22; refine (word_any _ _ _).mono ?_; rintro e w' ⟨rfl, hb⟩)
      | (go_at_call 23; refine (rword_any _ _ _).mono ?_; rintro e w' ⟨rfl, hb⟩)
      | (go_at_call 15; refine (power_any _ _).mono ?_; rintro e w' ⟨rfl, rfl⟩)
      | (go_at_call 24; refine (rpower_any _ _).mono ?_; rintro e w' ⟨rfl, rfl⟩))
  obtain ⟨hB, r0, r1⟩ : Below u1.heap.size u1 w' ∧ w'.cell? ⟨w.heap.size, 0, none⟩ = some (.int .i64 a3) ∧ w'.cell? ⟨w.heap.size, 1, none⟩ = some (.bool b3) := by assumption
  have r2 := (hB.cell (p := ⟨w.heap.size + 1, 0, none⟩) z1).trans q0
  have r3 := (hB.cell (p := ⟨w.heap.size + 1, 1, none⟩) z1).trans q1
  have zb := hB.size
  clear hb p0 p1 q0 q1
  obtain ⟨u2, rfl⟩ : ∃ u2, u2 = w' := ⟨_, rfl⟩
  have y0x2 : w.heap.size < u2.heap.size := by omega
  have y1x2 : w.heap.size + 1 < u2.heap.size := by omega
  go_wp2_with fail
  refine (go_all _ _ _ _ _).mono ?_
  rintro e u3 ⟨rfl, hv3⟩
  have z3 : u2.heap.size ≤ u3.heap.size := hv3.size
  obtain ⟨hc3, hf3⟩ := bcell hv3
  have y0x3 : w.heap.size < u3.heap.size := by omega
  have y1x3 : w.heap.size + 1 < u3.heap.size := by omega
  have x0x3 : w.heap.size < u3.heap.size + 1 := by omega
  go_wp2_with fail
  refine (rgo_all _ _ _ _ _).mono ?_
  rintro e u4 ⟨rfl, hv4⟩
  have z4 : u3.heap.size < u4.heap.size := by
    have := hv4.size
    simp at this
    omega
  obtain ⟨hc4, hf4⟩ := bcell hv4
  have y0x4 : w.heap.size < u4.heap.size := by omega
  have y1x4 : w.heap.size + 1 < u4.heap.size := by omega
  have x0x4 : w.heap.size < u4.heap.size + 1 := by omega
  have y3x4 : u3.heap.size < u4.heap.size := by omega
  have x3x4 : u3.heap.size < u4.heap.size + 1 := by omega
  go_wp2_with fail
  refine (read_all _ _ _ hx0.out hx1.out).mono ?_
  rintro e u5 ⟨rfl, hv5⟩
  have z5 : u4.heap.size < u5.heap.size := by
    have := hv5.size
    simp at this
    omega
  obtain ⟨hc5, hf5⟩ := bcell hv5
  have y0x5 : w.heap.size < u5.heap.size := by omega
  have y1x5 : w.heap.size + 1 < u5.heap.size := by omega
  have x0x5 : w.heap.size < u5.heap.size + 1 := by omega
  have y3x5 : u3.heap.size < u5.heap.size := by omega
  have x3x5 : u3.heap.size < u5.heap.size + 1 := by omega
  have y4x5 : u4.heap.size < u5.heap.size := by omega
  have x4x5 : u4.heap.size < u5.heap.size + 1 := by omega
  go_wp2_with fail
  refine (rread_all _ _ _ hx0.out hx1.out).mono ?_
  rintro e u6 ⟨rfl, hv6⟩
  have z6 : u5.heap.size < u6.heap.size := by
    have := hv6.size
    simp at this
    omega
  obtain ⟨hc6, hf6⟩ := bcell hv6
  have y0x6 : w.heap.size < u6.heap.size := by omega
  have y1x6 : w.heap.size + 1 < u6.heap.size := by omega
  have x0x6 : w.heap.size < u6.heap.size + 1 := by omega
  have y3x6 : u3.heap.size < u6.heap.size := by omega
  have x3x6 : u3.heap.size < u6.heap.size + 1 := by omega
  have y4x6 : u4.heap.size < u6.heap.size := by omega
  have x4x6 : u4.heap.size < u6.heap.size + 1 := by omega
  have y5x6 : u5.heap.size < u6.heap.size := by omega
  have x5x6 : u5.heap.size < u6.heap.size + 1 := by omega
  go_wp2_with fail
  refine (needAt_all _ _ _ _ _ _ _).mono ?_
  rintro e u7 ⟨rfl, hv7⟩
  have z7 : u6.heap.size < u7.heap.size := by
    have := hv7.size
    simp at this
    omega
  obtain ⟨hc7, hf7⟩ := bcell hv7
  have y0x7 : w.heap.size < u7.heap.size := by omega
  have y1x7 : w.heap.size + 1 < u7.heap.size := by omega
  have x0x7 : w.heap.size < u7.heap.size + 1 := by omega
  go_wp2_with fail
  refine (rneedAt_all _ _ _ _ _ _ _).mono ?_
  rintro e u8 ⟨rfl, hv8⟩
  have z8 : u7.heap.size ≤ u8.heap.size := hv8.size
  obtain ⟨hc8, hf8⟩ := bcell hv8
  have y0x8 : w.heap.size < u8.heap.size := by omega
  have y1x8 : w.heap.size + 1 < u8.heap.size := by omega
  have x0x8 : w.heap.size < u8.heap.size + 1 := by omega
  go_wp2_with fail
  refine (between_all _ _ _ _ _ _).mono ?_
  rintro e u9 ⟨rfl, hv9⟩
  have z9 : u8.heap.size ≤ u9.heap.size := hv9.size
  obtain ⟨hc9, hf9⟩ := bcell hv9
  have y0x9 : w.heap.size < u9.heap.size := by omega
  have y1x9 : w.heap.size + 1 < u9.heap.size := by omega
  have x0x9 : w.heap.size < u9.heap.size + 1 := by omega
  go_wp2_with fail
  refine (rbetween_all _ _ _ _ _ _).mono ?_
  rintro e u10 ⟨rfl, hv10⟩
  have z10 : u9.heap.size ≤ u10.heap.size := hv10.size
  obtain ⟨hc10, hf10⟩ := bcell hv10
  have y0x10 : w.heap.size < u10.heap.size := by omega
  have y1x10 : w.heap.size + 1 < u10.heap.size := by omega
  have x0x10 : w.heap.size < u10.heap.size + 1 := by omega
  go_wp2_with fail
  refine (align_any _ _ _ hn ht).mono ?_
  rintro e w' ⟨rfl, rfl⟩
  go_wp2_with fail
  refine (ralign_any _ _ _ hn ht).mono ?_
  rintro e w' ⟨rfl, rfl⟩
  go_wp2_with fail
  go_ret
  clear hc3 hf3 hc4 hf4 hc5 hf5 hc6 hf6 hc7 hf7 hc8 hf8 hc9 hf9 hc10 hf10
  exact ⟨rfl, by repeat (first | exact Below.refl _ _ | (refine Below.alloc ?_ (by first | omega | (simp; done) | (simp; omega)) _) | (refine Below.trans ?_ (hv10.mono (by first | omega | (simp; done) | (simp; omega)))) | (refine Below.trans ?_ (hv9.mono (by first | omega | (simp; done) | (simp; omega)))) | (refine Below.trans ?_ (hv8.mono (by first | omega | (simp; done) | (simp; omega)))) | (refine Below.trans ?_ (hv7.mono (by first | omega | (simp; done) | (simp; omega)))) | (refine Below.trans ?_ (hv6.mono (by first | omega | (simp; done) | (simp; omega)))) | (refine Below.trans ?_ (hv5.mono (by first | omega | (simp; done) | (simp; omega)))) | (refine Below.trans ?_ (hv4.mono (by first | omega | (simp; done) | (simp; omega)))) | (refine Below.trans ?_ (hv3.mono (by first | omega | (simp; done) | (simp; omega)))) | (refine Below.trans ?_ (hB.mono (by first | omega | (simp; done) | (simp; omega)))) | (refine Below.trans ?_ (hb1.mono (by first | omega | (simp; done) | (simp; omega)))))⟩

/-! ### the row's frame -/
theorem own : ownKnob Try.prog.godebug = none := by kernel_rfl
theorem laidOut : laidOutB Try.prog = true := by kernel_rfl

set_option maxRecDepth 100000 in
theorem lifted (os : Os) (started : os.Started) (H : Type) (enc : TypeId × Value → H) :
    ReturnsInHanded {} Try.checked os 4 .any (Rows.serialCallsSpec.pre6 enc Try.prog Try.f4 Rows.serialCallsRow.domain false) (Rows.serialCallsSpec.post enc Try.prog Try.f4 false true false false) := by
  refine returnsInHanded_of_change (C := Try.checked) own started (by kernel_rfl) Try.func4
    (ChangeSpec.witness6 (enc := enc) (C := Try.checked) false ⟨#[], #[.int .u16 0, .int .u16 0, .int .u16 0, .agg #[.int .i64 0, .bool false], .agg #[.int .i64 0, .bool false], .int .i64 0, .int .i64 0, .int .u64 0, .int .u64 0], []⟩ 8 (by kernel_rfl) (by kernel_rfl) (by kernel_rfl) (by kernel_rfl)) ?_
  intro W base args ds gs before hval0 hW hcnd _
  have hval : ∀ (j : Nat) t v, Try.f4.params[j]? = some t → args[j]? = some v → Value.okWide Try.prog W .any base t v := hval0
  have hW' := hW
  obtain ⟨p, q, hA0, hV, rfl, hfz, hnd⟩ := hW
  have hA : DataW.TrodAll enc Try.prog W 0 (fun _ => true) true Try.f4.params.toList args.toList ds p := hA0
  rw [Try.params4] at hA hval
  obtain ⟨v0, vs0, d0, ds0, p0, q0, hargs, rfl, rfl, h0, r0⟩ := trodAll_cons hA
  obtain ⟨v1, vs1, d1, ds1, p1, q1, rfl, rfl, rfl, h1, r1⟩ := trodAll_cons r0
  obtain ⟨v2, vs2, d2, ds2, p2, q2, rfl, rfl, rfl, h2, r2⟩ := trodAll_cons r1
  obtain ⟨v3, vs3, d3, ds3, p3, q3, rfl, rfl, rfl, h3, r3⟩ := trodAll_cons r2
  obtain ⟨v4, vs4, d4, ds4, p4, q4, rfl, rfl, rfl, h4, r4⟩ := trodAll_cons r3
  obtain ⟨v5, vs5, d5, ds5, p5, q5, rfl, rfl, rfl, h5, r5⟩ := trodAll_cons r4
  obtain ⟨v6, vs6, d6, ds6, p6, q6, rfl, rfl, rfl, h6, r6⟩ := trodAll_cons r5
  obtain ⟨v7, vs7, d7, ds7, p7, q7, rfl, rfl, rfl, h7, r7⟩ := trodAll_cons r6
  obtain ⟨v8, vs8, d8, ds8, p8, q8, rfl, rfl, rfl, h8, r8⟩ := trodAll_cons r7
  obtain ⟨rfl, rfl, rfl⟩ := trodAll_nil r8
  obtain rfl : args = #[v0, v1, v2, v3, v4, v5, v6, v7, v8] := by cases args; simp_all
  obtain ⟨rfl, rfl⟩ := trodVars_none hV
  have k0 := h0
  have lt0 : ∀ x ∈ p0, x.block < W.heap.size := by
    obtain ⟨m, hm⟩ := k0
    exact DataW.trod_lt m _ _ _ hm
  have k1 := h1
  have lt1 : ∀ x ∈ p1, x.block < W.heap.size := by
    obtain ⟨m, hm⟩ := k1
    exact DataW.trod_lt m _ _ _ hm
  have k2 := h2
  have lt2 : ∀ x ∈ p2, x.block < W.heap.size := by
    obtain ⟨m, hm⟩ := k2
    exact DataW.trod_lt m _ _ _ hm
  have k3 := h3
  have lt3 : ∀ x ∈ p3, x.block < W.heap.size := by
    obtain ⟨m, hm⟩ := k3
    exact DataW.trod_lt m _ _ _ hm
  have k4 := h4
  have lt4 : ∀ x ∈ p4, x.block < W.heap.size := by
    obtain ⟨m, hm⟩ := k4
    exact DataW.trod_lt m _ _ _ hm
  have k5 := h5
  have lt5 : ∀ x ∈ p5, x.block < W.heap.size := by
    obtain ⟨m, hm⟩ := k5
    exact DataW.trod_lt m _ _ _ hm
  have k6 := h6
  have lt6 : ∀ x ∈ p6, x.block < W.heap.size := by
    obtain ⟨m, hm⟩ := k6
    exact DataW.trod_lt m _ _ _ hm
  have k7 := h7
  have lt7 : ∀ x ∈ p7, x.block < W.heap.size := by
    obtain ⟨m, hm⟩ := k7
    exact DataW.trod_lt m _ _ _ hm
  have k8 := h8
  have lt8 : ∀ x ∈ p8, x.block < W.heap.size := by
    obtain ⟨m, hm⟩ := k8
    exact DataW.trod_lt m _ _ _ hm
  obtain ⟨a0, rfl, rfl, rfl, w0⟩ := open_int Try.underlying28 (hval 0 28 v0 rfl rfl) h0
  obtain ⟨a1, rfl, rfl, rfl, w1⟩ := open_int Try.underlying28 (hval 1 28 v1 rfl rfl) h1
  obtain ⟨a2, rfl, rfl, rfl, w2⟩ := open_int Try.underlying28 (hval 2 28 v2 rfl rfl) h2
  obtain ⟨c30, c31, y30, y31, m3, rfl, rfl, rfl, hy30, hy31⟩ := Go.Joins.open_agg2 Try.underlying23 (by kernel_rfl) (by kernel_rfl) (hval 3 23 v3 rfl rfl) h3
  obtain ⟨a3, e30, rfl, w3⟩ := DataW.trod_int Try.underlying3 hy30
  obtain ⟨b3, e31, rfl⟩ := DataW.trod_bool Try.underlying4 hy31
  simp at e30 e31
  subst e30 e31
  obtain ⟨c40, c41, y40, y41, m4, rfl, rfl, rfl, hy40, hy41⟩ := Go.Joins.open_agg2 Try.underlying23 (by kernel_rfl) (by kernel_rfl) (hval 4 23 v4 rfl rfl) h4
  obtain ⟨a4, e40, rfl, w4⟩ := DataW.trod_int Try.underlying3 hy40
  obtain ⟨b4, e41, rfl⟩ := DataW.trod_bool Try.underlying4 hy41
  simp at e40 e41
  subst e40 e41
  obtain ⟨a5, rfl, rfl, rfl, w5⟩ := open_int Try.underlying3 (hval 5 3 v5 rfl rfl) h5
  obtain ⟨a6, rfl, rfl, rfl, w6⟩ := open_int Try.underlying3 (hval 6 3 v6 rfl rfl) h6
  obtain ⟨a7, rfl, rfl, rfl, w7⟩ := open_int Try.underlying29 (hval 7 29 v7 rfl rfl) h7
  obtain ⟨a8, rfl, rfl, rfl, w8⟩ := open_int Try.underlying29 (hval 8 29 v8 rfl rfl) h8
  clear hA0 hval0
  refine (walk a0 a1 a2 a3 b3 a4 b4 a5 a6 a7 a8 w0 w1 w2 w3 w4 w5 w6 w7 w8 W).mono fun e W' ⟨he, bel⟩ => ?_
  subst he
  exact ⟨_, rfl, _, _, _, [], _, [], hW', trodAll_mk1 (shut_bool Try.underlying4 _), (trodAll_cons_mk (Below.trod laidOut (by kernel_rfl) (of_decide_eq_true (by kernel_rfl)) k0 bel lt0) (trodAll_cons_mk (Below.trod laidOut (by kernel_rfl) (of_decide_eq_true (by kernel_rfl)) k1 bel lt1) (trodAll_cons_mk (Below.trod laidOut (by kernel_rfl) (of_decide_eq_true (by kernel_rfl)) k2 bel lt2) (trodAll_cons_mk (Below.trod laidOut (by kernel_rfl) (of_decide_eq_true (by kernel_rfl)) k3 bel lt3) (trodAll_cons_mk (Below.trod laidOut (by kernel_rfl) (of_decide_eq_true (by kernel_rfl)) k4 bel lt4) (trodAll_cons_mk (Below.trod laidOut (by kernel_rfl) (of_decide_eq_true (by kernel_rfl)) k5 bel lt5) (trodAll_cons_mk (Below.trod laidOut (by kernel_rfl) (of_decide_eq_true (by kernel_rfl)) k6 bel lt6) (trodAll_cons_mk (Below.trod laidOut (by kernel_rfl) (of_decide_eq_true (by kernel_rfl)) k7 bel lt7) (trodAll_cons_mk (Below.trod laidOut (by kernel_rfl) (of_decide_eq_true (by kernel_rfl)) k8 bel lt8) trodAll_mk0))))))))), rfl, bel.frame _, fun h => by cases h⟩

theorem over : Rows.serialCallsRow.holds Try.pinned (OpenSpec.ofChange Rows.serialCallsSpec) :=
  OpenClaim.holds_of_wide 4 Try.f4 rfl rfl rfl rfl rfl rfl rfl ⟨rfl, rfl, rfl, rfl, rfl⟩ rfl rfl rfl rfl rfl (by kernel_rfl) Try.func4 (by kernel_rfl)
    (of_decide_eq_true (by kernel_rfl)) (by unfold Func.isWrapper; first | (rw [if_pos (by decide +kernel)]; kernel_rfl) | (rw [if_neg (by decide +kernel)]; exact ⟨rfl, rfl⟩))
    (fun os started H enc _ => lifted os started H enc)

/-- THE STATEMENT -/
theorem serialCalls_holds : Rows.SerialCallsSaid := over
#print axioms serialCalls_holds
end Go.Proofs.Ytomeodmadnobfaa.serialCalls
