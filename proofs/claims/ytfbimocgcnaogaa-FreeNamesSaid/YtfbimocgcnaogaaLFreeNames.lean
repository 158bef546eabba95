/-
  PROVED: dumbwaiterlaw08.FreeNames returns true, and what was in memory stays as it was. Conditions: none.
-/
import Derived.Test.YtfbimocgcnaogaaRows
import Derived.Test.YtfbimocgcnaogaaFel
import Derived.WalkKit
import Derived.ProofKit
import Derived.OpenShut
import Derived.ShutString
import Derived.ChangeOld
import Derived.Below
import Derived.Carry
import Derived.Lib.SmallJoins
namespace Go.Proofs.Ytfbimocgcnaogaa.freeNames
open Go.ChangeShapes Go.WideShapes Go.ChangeAt Go.RowKit
set_option linter.unusedVariables false

set_option maxRecDepth 100000 in
set_option maxHeartbeats 2000000 in
theorem walk (w0 : World) : Calls Try.prog 3 #[] w0 fun e w' => e = .returned (.bool true) ∧ Below w0.heap.size w0 w' := by
  have C1 : Hid (∀ u, Calls Try.prog 7 #[.int .i64 0] u fun e u' => ∃ a c, e = .returned (.tuple #[.agg #[.int .i64 0, .slice a 0 c], .int .i64 2]) ∧ IntsK w0.heap.size u' (.slice a 0 c) [] ∧ Below u.heap.size u u') := hid_mk (fun u => by
    have h := frnew 0 u (by constructor <;> decide)
    rw [show newLS 0 = 0 by decide +kernel, show newLE 0 = 2 by decide +kernel, show newLL 0 = [] by decide +kernel] at h
    refine h.mono ?_
    rintro e u' ⟨v, he, hq, _, hb⟩
    obtain ⟨a, c, rfl⟩ := hq.len
    exact ⟨a, c, he, hq.mono (Nat.zero_le _), hb⟩)
  have C2 : Hid (∀ u, Calls Try.prog 7 #[.int .i64 3] u fun e u' => ∃ a c, e = .returned (.tuple #[.agg #[.int .i64 3, .slice a 3 c], .int .i64 0]) ∧ IntsK w0.heap.size u' (.slice a 3 c) [0, 1, 2] ∧ Below u.heap.size u u') := hid_mk (fun u => by
    have h := frnew 3 u (by constructor <;> decide)
    rw [show newLS 3 = 3 by decide +kernel, show newLE 3 = 0 by decide +kernel, show newLL 3 = [0, 1, 2] by decide +kernel] at h
    refine h.mono ?_
    rintro e u' ⟨v, he, hq, _, hb⟩
    obtain ⟨a, c, rfl⟩ := hq.len
    exact ⟨a, c, he, hq.mono (Nat.zero_le _), hb⟩)
  have C3 : Hid (∀ u a c, IntsK w0.heap.size u (.slice a 3 c) [0, 1, 2] → w0.heap.size ≤ u.heap.size → Calls Try.prog 8 #[.agg #[.int .i64 3, .slice a 3 c], .int .i64 4] u fun e u' => ∃ a1 c1 a2 c2, e = .returned (.tuple #[.slice a1 0 c1, .agg #[.int .i64 0, .slice a2 0 c2], .int .i64 7]) ∧ IntsK w0.heap.size u' (.slice a1 0 c1) [] ∧ IntsK w0.heap.size u' (.slice a2 0 c2) [] ∧ Below u.heap.size u u') := hid_mk (fun u a c hv hB => by
    have h := frtake w0.heap.size 3 (.slice a 3 c) [0, 1, 2] 4 u hv hB (by constructor <;> decide) (by constructor <;> decide) (by decide)
    rw [show takS 3 [0, 1, 2] 4 = 0 by decide +kernel, show takE 3 [0, 1, 2] 4 = 7 by decide +kernel, show takA 3 [0, 1, 2] 4 = [] by decide +kernel, show takR 3 [0, 1, 2] 4 = [] by decide +kernel] at h
    refine h.mono ?_
    rintro e u' ⟨v1, v2, he, ⟨hq, _, _⟩, ⟨hr, _⟩, hb⟩
    obtain ⟨a1, c1, rfl⟩ := hq.len
    obtain ⟨a2, c2, rfl⟩ := hr.len
    exact ⟨a1, c1, a2, c2, he, hq, hr, hb⟩)
  have C4 : Hid (∀ u a c, IntsK w0.heap.size u (.slice a 3 c) [0, 1, 2] → w0.heap.size ≤ u.heap.size → Calls Try.prog 8 #[.agg #[.int .i64 3, .slice a 3 c], .int .i64 0] u fun e u' => ∃ a1 c1 a2 c2, e = .returned (.tuple #[.slice a1 0 c1, .agg #[.int .i64 0, .slice a2 0 c2], .int .i64 2]) ∧ IntsK w0.heap.size u' (.slice a1 0 c1) [] ∧ IntsK w0.heap.size u' (.slice a2 0 c2) [] ∧ Below u.heap.size u u') := hid_mk (fun u a c hv hB => by
    have h := frtake w0.heap.size 3 (.slice a 3 c) [0, 1, 2] 0 u hv hB (by constructor <;> decide) (by constructor <;> decide) (by decide)
    rw [show takS 3 [0, 1, 2] 0 = 0 by decide +kernel, show takE 3 [0, 1, 2] 0 = 2 by decide +kernel, show takA 3 [0, 1, 2] 0 = [] by decide +kernel, show takR 3 [0, 1, 2] 0 = [] by decide +kernel] at h
    refine h.mono ?_
    rintro e u' ⟨v1, v2, he, ⟨hq, _, _⟩, ⟨hr, _⟩, hb⟩
    obtain ⟨a1, c1, rfl⟩ := hq.len
    obtain ⟨a2, c2, rfl⟩ := hr.len
    exact ⟨a1, c1, a2, c2, he, hq, hr, hb⟩)
  have C5 : Hid (∀ u a c b, b = u.heap.size → IntsK w0.heap.size u (.slice a 3 c) [0, 1, 2] → w0.heap.size ≤ u.heap.size → Calls Try.prog 9 #[.agg #[.int .i64 3, .slice a 3 c], .slice (some ⟨b, 0, none⟩) 1 1] (u.alloc (.cells #[.int .i64 3] 3)) fun e u' => ∃ a1 c1, e = .returned (.tuple #[.agg #[.int .i64 0, .slice a1 0 c1], .int .i64 2]) ∧ IntsK w0.heap.size u' (.slice a1 0 c1) [] ∧ Below u.heap.size u u') := hid_mk (fun u a c b e hv hB => by
    subst e
    have h := frgive w0.heap.size 3 (.slice a 3 c) (.slice (some ⟨u.heap.size, 0, none⟩) 1 1) [0, 1, 2] [3] _ (hv.below (below_box u (.cells #[.int .i64 3] 3))) (IntsK.lit _ u [3]) (by rw [sizeA]; omega) (by constructor <;> decide) (by decide) (by decide)
    rw [show givS 3 [0, 1, 2] [3] = 0 by decide +kernel, show givE 3 [0, 1, 2] [3] = 2 by decide +kernel, show givR 3 [0, 1, 2] [3] = [] by decide +kernel] at h
    refine h.mono ?_
    rintro e u' ⟨v1, he, ⟨hq, _⟩, hb⟩
    obtain ⟨a1, c1, rfl⟩ := hq.len
    exact ⟨a1, c1, he, hq, below_then (below_box u _) hb⟩)
  have C6 : Hid (∀ u a c, IntsK w0.heap.size u (.slice a 3 c) [0, 1, 2] → w0.heap.size ≤ u.heap.size → Calls Try.prog 8 #[.agg #[.int .i64 3, .slice a 3 c], .int .i64 3] u fun e u' => ∃ a1 c1 a2 c2, e = .returned (.tuple #[.slice a1 3 c1, .agg #[.int .i64 3, .slice a2 0 c2], .int .i64 0]) ∧ IntsK w0.heap.size u' (.slice a1 3 c1) [0, 1, 2] ∧ IntsK w0.heap.size u' (.slice a2 0 c2) [] ∧ Below u.heap.size u u') := hid_mk (fun u a c hv hB => by
    have h := frtake w0.heap.size 3 (.slice a 3 c) [0, 1, 2] 3 u hv hB (by constructor <;> decide) (by constructor <;> decide) (by decide)
    rw [show takS 3 [0, 1, 2] 3 = 3 by decide +kernel, show takE 3 [0, 1, 2] 3 = 0 by decide +kernel, show takA 3 [0, 1, 2] 3 = [0, 1, 2] by decide +kernel, show takR 3 [0, 1, 2] 3 = [] by decide +kernel] at h
    refine h.mono ?_
    rintro e u' ⟨v1, v2, he, ⟨hq, _, _⟩, ⟨hr, _⟩, hb⟩
    obtain ⟨a1, c1, rfl⟩ := hq.len
    obtain ⟨a2, c2, rfl⟩ := hr.len
    exact ⟨a1, c1, a2, c2, he, hq, hr, hb⟩)
  have C7 : Hid (∀ u a c, IntsZ u (.slice a 3 c) [0, 1, 2] → Calls Try.prog 11 #[.agg #[.int .i64 3, .slice a 3 c]] u fun e u' => e = .returned (.int .i64 3) ∧ Below u.heap.size u u') := hid_mk (fun u a c hv => by
    have h := frcount 3 (.slice a 3 c) [0, 1, 2] u hv (by constructor <;> decide) (by decide)
    rw [show cntL 3 [0, 1, 2] = 3 by decide +kernel] at h
    exact h)
  have C8 : Hid (∀ u a c, IntsZ u (.slice a 3 c) [0, 1, 2] → Calls Try.prog 12 #[.agg #[.int .i64 3, .slice a 3 c], .int .i64 2] u fun e u' => e = .returned (.bool true) ∧ Below u.heap.size u u') := hid_mk (fun u a c hv => by
    have h := fris 3 (.slice a 3 c) [0, 1, 2] 2 u hv (by constructor <;> decide) (by constructor <;> decide) (by decide)
    rw [show isL 3 [0, 1, 2] 2 = true by decide +kernel] at h
    exact h)
  have C9 : Hid (∀ u a c, IntsZ u (.slice a 3 c) [0, 1, 2] → Calls Try.prog 12 #[.agg #[.int .i64 3, .slice a 3 c], .int .i64 3] u fun e u' => e = .returned (.bool false) ∧ Below u.heap.size u u') := hid_mk (fun u a c hv => by
    have h := fris 3 (.slice a 3 c) [0, 1, 2] 3 u hv (by constructor <;> decide) (by constructor <;> decide) (by decide)
    rw [show isL 3 [0, 1, 2] 3 = false by decide +kernel] at h
    exact h)
  have C10 : Hid (∀ u a c, IntsZ u (.slice a 2 c) [1, 1] → Calls Try.prog 13 #[.agg #[.int .i64 2, .slice a 2 c]] u fun e u' => e = .returned (.int .i64 2) ∧ Below u.heap.size u u') := hid_mk (fun u a c hv => by
    have h := frcheck 2 (.slice a 2 c) [1, 1] u hv (by constructor <;> decide) (by decide)
    rw [show chkLE 2 [1, 1] = 2 by decide +kernel] at h
    exact h)
  have C11 : Hid (∀ u a c, IntsZ u (.slice a 3 c) [0, 1, 2] → Calls Try.prog 14 #[.agg #[.int .i64 3, .slice a 3 c], .agg #[.int .i64 3, .slice a 3 c]] u fun e u' => e = .returned (.bool true) ∧ Below u.heap.size u u') := hid_mk (fun u a c hv => by
    have h := frsame 3 3 (.slice a 3 c) (.slice a 3 c) [0, 1, 2] [0, 1, 2] u hv hv (by decide)
    rw [show sameF 3 [0, 1, 2] 3 [0, 1, 2] = true by decide +kernel] at h
    exact h)
  have B := hid_mk (Below.refl w0.heap.size w0)
  go_enter Try.func3, Try.ntmps3
  go_wp2_with fail
  refine (C1.out _).mono ?_
  rintro e w1 ⟨a1, c1, rfl, hq, hb⟩
  replace B := hid_mk (below_then B.out hb)
  clear hb
  clear hq
  have hbx := below_box w1 (.cells #[.int .i64 0, .slice a1 0 c1] 24)
  replace B := hid_mk (below_then B.out hbx)
  clear hbx
  go_wp2_with fail
  refine (C2.out _).mono ?_
  rintro e w2 ⟨a2, c2, rfl, hq, hb⟩
  replace B := hid_mk (below_then B.out hb)
  have Q0 := hid_mk hq
  clear hb hq
  have hx := blk_new w2 [.int .i64 3, .slice a2 3 c2] 24
  have hbx := below_box w2 (.cells #[.int .i64 3, .slice a2 3 c2] 24)
  have Gf : Hid (w0.heap.size ≤ w2.heap.size) := hid_mk B.out.size
  replace Q0 := hid_mk (Q0.out.below hbx)
  replace B := hid_mk (below_then B.out hbx)
  have Xf := hid_mk hx
  clear hx hbx
  go_wp2_with fail
  refine (C3.out _ _ _ Q0.out B.out.size).mono ?_
  rintro e w3 ⟨a3, c3, a4, c4, rfl, hq, hr, hb⟩
  replace Q0 := hid_mk (Q0.out.below hb)
  replace Xf := hid_mk (Xf.out.below hb)
  replace B := hid_mk (below_then B.out hb)
  clear hb
  clear hq hr
  obtain ⟨lf, cf0, cf1, ff0, ff1⟩ := blk2 Xf.out
  have hbx := below_box w3 (.cells #[.int .i64 0, .slice a4 0 c4] 24)
  replace Q0 := hid_mk (Q0.out.below hbx)
  replace Xf := hid_mk (Xf.out.below hbx)
  replace B := hid_mk (below_then B.out hbx)
  clear hbx
  go_wp2_with fail
  refine (C4.out _ _ _ Q0.out B.out.size).mono ?_
  rintro e w4 ⟨a5, c5, a6, c6, rfl, hq, hr, hb⟩
  clear lf cf0 cf1 ff0 ff1
  replace Q0 := hid_mk (Q0.out.below hb)
  replace Xf := hid_mk (Xf.out.below hb)
  replace B := hid_mk (below_then B.out hb)
  clear hb
  clear hq hr
  obtain ⟨lf, cf0, cf1, ff0, ff1⟩ := blk2 Xf.out
  have hbx := below_box w4 (.cells #[.int .i64 0, .slice a6 0 c6] 24)
  replace Q0 := hid_mk (Q0.out.below hbx)
  replace Xf := hid_mk (Xf.out.below hbx)
  replace B := hid_mk (below_then B.out hbx)
  clear hbx
  go_wp2_with fail
  refine (C5.out ((w4.alloc (.cells #[.int .i64 0, .slice a6 0 c6] 24))) _ _ _ (by first | rfl | simp) Q0.out B.out.size).mono ?_
  rintro e w5 ⟨a7, c7, rfl, hq, hb⟩
  clear lf cf0 cf1 ff0 ff1
  replace Q0 := hid_mk (Q0.out.below hb)
  replace Xf := hid_mk (Xf.out.below hb)
  replace B := hid_mk (below_then B.out hb)
  clear hb
  clear hq
  obtain ⟨lf, cf0, cf1, ff0, ff1⟩ := blk2 Xf.out
  have hbx := below_box w5 (.cells #[.int .i64 0, .slice a7 0 c7] 24)
  replace Q0 := hid_mk (Q0.out.below hbx)
  replace Xf := hid_mk (Xf.out.below hbx)
  replace B := hid_mk (below_then B.out hbx)
  clear hbx
  go_wp2_with fail
  refine (C6.out _ _ _ Q0.out B.out.size).mono ?_
  rintro e w6 ⟨a8, c8, a9, c9, rfl, hq, hr, hb⟩
  clear lf cf0 cf1 ff0 ff1
  replace Q0 := hid_mk (Q0.out.below hb)
  replace Xf := hid_mk (Xf.out.below hb)
  replace B := hid_mk (below_then B.out hb)
  clear hb
  clear hq hr
  obtain ⟨lf, cf0, cf1, ff0, ff1⟩ := blk2 Xf.out
  have hbx := below_box w6 (.cells #[.int .i64 3, .slice a9 0 c9] 24)
  replace Q0 := hid_mk (Q0.out.below hbx)
  replace Xf := hid_mk (Xf.out.below hbx)
  replace B := hid_mk (below_then B.out hbx)
  clear hbx
  go_wp2_with fail
  refine (lives8_any _).mono ?_
  rintro e w7 ⟨rfl, hb⟩
  clear lf cf0 cf1 ff0 ff1
  replace Q0 := hid_mk (Q0.out.below hb)
  replace Xf := hid_mk (Xf.out.below hb)
  replace B := hid_mk (below_then B.out hb)
  clear hb
  obtain ⟨lf, cf0, cf1, ff0, ff1⟩ := blk2 Xf.out
  go_wp2_with fail
  refine (C7.out _ _ _ Q0.out.1).mono ?_
  rintro e w8 ⟨rfl, hb⟩
  clear lf cf0 cf1 ff0 ff1
  replace Q0 := hid_mk (Q0.out.below hb)
  replace Xf := hid_mk (Xf.out.below hb)
  replace B := hid_mk (below_then B.out hb)
  clear hb
  obtain ⟨lf, cf0, cf1, ff0, ff1⟩ := blk2 Xf.out
  go_wp2_with fail
  refine (C8.out _ _ _ Q0.out.1).mono ?_
  rintro e w9 ⟨rfl, hb⟩
  clear lf cf0 cf1 ff0 ff1
  replace Q0 := hid_mk (Q0.out.below hb)
  replace Xf := hid_mk (Xf.out.below hb)
  replace B := hid_mk (below_then B.out hb)
  clear hb
  obtain ⟨lf, cf0, cf1, ff0, ff1⟩ := blk2 Xf.out
  go_wp2_with fail
  refine (C9.out _ _ _ Q0.out.1).mono ?_
  rintro e w10 ⟨rfl, hb⟩
  clear lf cf0 cf1 ff0 ff1
  replace Q0 := hid_mk (Q0.out.below hb)
  replace Xf := hid_mk (Xf.out.below hb)
  replace B := hid_mk (below_then B.out hb)
  clear hb
  have hbx := below_box w10 (.cells #[.int .i64 1, .int .i64 1] 3)
  replace Q0 := hid_mk (Q0.out.below hbx)
  replace Xf := hid_mk (Xf.out.below hbx)
  replace B := hid_mk (below_then B.out hbx)
  clear hbx
  have hl := (IntsK.lit 0 w10 [1, 1]).1
  obtain ⟨lf, cf0, cf1, ff0, ff1⟩ := blk2 Xf.out
  go_wp2_with fail
  refine (C10.out _ _ _ hl).mono ?_
  rintro e w11 ⟨rfl, hb⟩
  clear lf cf0 cf1 ff0 ff1
  replace Q0 := hid_mk (Q0.out.below hb)
  replace Xf := hid_mk (Xf.out.below hb)
  replace B := hid_mk (below_then B.out hb)
  clear hb
  clear hl
  obtain ⟨lf, cf0, cf1, ff0, ff1⟩ := blk2 Xf.out
  go_wp2_with fail
  refine (C11.out _ _ _ Q0.out.1).mono ?_
  rintro e w12 ⟨rfl, hb⟩
  clear lf cf0 cf1 ff0 ff1
  replace Q0 := hid_mk (Q0.out.below hb)
  replace Xf := hid_mk (Xf.out.below hb)
  replace B := hid_mk (below_then B.out hb)
  clear hb
  go_wp2_with fail
  go_ret
  exact ⟨rfl, B.out⟩

/-! ### the row's frame -/
theorem own : ownKnob Try.prog.godebug = none := by kernel_rfl
theorem laidOut : laidOutB Try.prog = true := by kernel_rfl

set_option maxRecDepth 100000 in
theorem lifted (os : Os) (started : os.Started) (H : Type) (enc : TypeId × Value → H) :
    ReturnsInHanded {} Try.checked os 3 .any (Rows.freeNamesSpec.pre6 enc Try.prog Try.f3 Rows.freeNamesRow.domain false) (Rows.freeNamesSpec.post enc Try.prog Try.f3 false true false false) := by
  refine returnsInHanded_of_change (C := Try.checked) own started (by kernel_rfl) Try.func3
    (ChangeSpec.witness6 (enc := enc) (C := Try.checked) false ⟨#[], #[], []⟩ 8 (by kernel_rfl) (by kernel_rfl) (by kernel_rfl) (by kernel_rfl)) ?_
  intro W base args ds gs before hval0 hW hcnd _
  have hval : ∀ (j : Nat) t v, Try.f3.params[j]? = some t → args[j]? = some v → Value.okWide Try.prog W .any base t v := hval0
  have hW' := hW
  obtain ⟨p, q, hA0, hV, rfl, hfz, hnd⟩ := hW
  have hA : DataW.TrodAll enc Try.prog W 0 (fun _ => true) true Try.f3.params.toList args.toList ds p := hA0
  rw [Try.params3] at hA hval
  obtain ⟨hargs, rfl, rfl⟩ := trodAll_nil hA
  obtain rfl : args = #[] := by cases args; simp_all
  obtain ⟨rfl, rfl⟩ := trodVars_none hV
  clear hA0 hval0
  refine (walk W).mono fun e W' ⟨he, bel⟩ => ?_
  subst he
  exact ⟨_, rfl, _, _, _, [], _, [], hW', trodAll_mk1 (shut_bool Try.underlying4 _), trodAll_mk0, rfl, bel.frame _, fun h => by cases h⟩

theorem over : Rows.freeNamesRow.holds Try.pinned (OpenSpec.ofChange Rows.freeNamesSpec) :=
  OpenClaim.holds_of_wide 3 Try.f3 rfl rfl rfl rfl rfl rfl rfl ⟨rfl, rfl, rfl, rfl, rfl⟩ rfl rfl rfl rfl rfl (by kernel_rfl) Try.func3 (by kernel_rfl)
    (of_decide_eq_true (by kernel_rfl)) (by unfold Func.isWrapper; first | (rw [if_pos (by decide +kernel)]; kernel_rfl) | (rw [if_neg (by decide +kernel)]; exact ⟨rfl, rfl⟩))
    (fun os started H enc _ => lifted os started H enc)

/-- THE STATEMENT -/
theorem freeNames_holds : Rows.FreeNamesSaid := over
#print axioms freeNames_holds
end Go.Proofs.Ytfbimocgcnaogaa.freeNames
