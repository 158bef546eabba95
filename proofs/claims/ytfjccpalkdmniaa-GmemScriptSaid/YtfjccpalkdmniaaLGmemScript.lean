/-
  PROVED: dumbwaiterlaw02.GmemScript returns true for every list of regions and every list of calls, and what was in memory stays as it was. Conditions: none.
-/
import Derived.Test.YtfjccpalkdmniaaRows
import Derived.Test.YtfjccpalkdmniaaSCmain
import Derived.WalkKit
import Derived.ProofKit
import Derived.OpenShut
import Derived.ShutString
import Derived.ChangeOld
import Derived.Below
import Derived.Carry
import Derived.Lib.SmallJoins
namespace Go.Proofs.Ytfjccpalkdmniaa.gmemScript
open Go.ChangeShapes Go.WideShapes Go.ChangeAt Go.RowKit
set_option linter.unusedVariables false


theorem walk (w : World) (v0 : Value) (L : List (Int × Int)) (hv0 : RegsAt w v0 L) (hb0 : isRegs L) (hm0 : L.length ≤ maxLen) (v1 : Value) (A : List ActT) (hv1 : ActsAt w v1 A) (hb1 : isActs w A) (hm1 : A.length ≤ maxLen) :
    Calls Try.prog 3 #[v0, v1] w fun e w' => e = .returned (.bool true) ∧ Below w.heap.size w w' := by
  obtain ⟨va, vc, rfl⟩ := hv0.len
  obtain ⟨vb, vd, rfl⟩ := hv1.len
  cases c1 : lightB L 20000 with
  | false => exact walk_light w va vb vc vd L hv0 hb0 A c1
  | true =>
    cases c2 : smallB A with
    | false => exact walk_small w va vb vc vd L hv0 hb0 A hv1 hb1 c1 c2
    | true =>
      have h40 : L.length ≤ 40 := by
        unfold lightB at c1
        simp at c1
        exact c1.1
      have h80 : (∀ j, j < min A.length 81 → (actAt A j).l.length ≤ 2000) ∧ A.length ≤ 80 := by
        unfold smallB at c2
        rw [Bool.and_eq_true, decide_eq_true_eq, decide_eq_true_eq] at c2
        exact c2
      by_cases h : L.length ≤ 16 ∧ okR (-1) 1048576 L = true
      · exact walk_main w va vb vc vd L hv0 hb0 A hv1 hb1 c1 c2 (by unfold chkE; rw [if_pos h]) h.1 h.2 h80.2 (fun j hj => h80.1 j (by omega))
      · exact walk_chk w va vb vc vd L hv0 hb0 A hv1 hb1 c1 c2 (by unfold chkE; rw [if_neg h]) h40

/-! ### the row's frame -/
theorem own : ownKnob Try.prog.godebug = none := by kernel_rfl
theorem laidOut : laidOutB Try.prog = true := by kernel_rfl

set_option maxRecDepth 100000 in
theorem lifted (os : Os) (started : os.Started) (H : Type) (enc : TypeId × Value → H) :
    ReturnsInHanded {} Try.checked os 3 .any (Rows.gmemScriptSpec.pre6 enc Try.prog Try.f3 Rows.gmemScriptRow.domain false) (Rows.gmemScriptSpec.post enc Try.prog Try.f3 false true false false) := by
  refine returnsInHanded_of_change (C := Try.checked) own started (by kernel_rfl) Try.func3
    (ChangeSpec.witness6 (enc := enc) (C := Try.checked) false ⟨#[], #[.slice none 0 0, .slice none 0 0], []⟩ 8 (by kernel_rfl) (by kernel_rfl) (by kernel_rfl) (by kernel_rfl)) ?_
  intro W base args ds gs before hval0 hW hcnd _
  have hval : ∀ (j : Nat) t v, Try.f3.params[j]? = some t → args[j]? = some v → Value.okWide Try.prog W .any base t v := hval0
  have hW' := hW
  obtain ⟨p, q, hA0, hV, rfl, hfz, hnd⟩ := hW
  have hA : DataW.TrodAll enc Try.prog W 0 (fun _ => true) true Try.f3.params.toList args.toList ds p := hA0
  rw [Try.params3] at hA hval
  obtain ⟨v0, vs0, d0, ds0, p0, q0, hargs, rfl, rfl, h0, r0⟩ := trodAll_cons hA
  obtain ⟨v1, vs1, d1, ds1, p1, q1, rfl, rfl, rfl, h1, r1⟩ := trodAll_cons r0
  obtain ⟨rfl, rfl, rfl⟩ := trodAll_nil r1
  obtain rfl : args = #[v0, v1] := by cases args; simp_all
  obtain ⟨rfl, rfl⟩ := trodVars_none hV
  have k0 := h0
  have lt0 : ∀ x ∈ p0, x.block < W.heap.size := by
    obtain ⟨m, hm⟩ := k0
    exact DataW.trod_lt m _ _ _ hm
  have k1 := h1
  have lt1 : ∀ x ∈ p1, x.block < W.heap.size := by
    obtain ⟨m, hm⟩ := k1
    exact DataW.trod_lt m _ _ _ hm
  obtain ⟨l0, hv0, hb0, hm0⟩ := open_regs (hval 0 22 v0 rfl rfl) h0
  obtain ⟨l1, hv1, hb1, hm1⟩ := open_acts2 (hval 1 23 v1 rfl rfl) h1
  clear hA0 hval0
  refine (walk W v0 l0 hv0 hb0 hm0 v1 l1 hv1 hb1 hm1).mono fun e W' ⟨he, bel⟩ => ?_
  subst he
  exact ⟨_, rfl, _, _, _, [], _, [], hW', trodAll_mk1 (shut_bool Try.underlying4 _), (trodAll_cons_mk (Below.trod laidOut (by kernel_rfl) (of_decide_eq_true (by kernel_rfl)) k0 bel lt0) (trodAll_cons_mk (Below.trod laidOut (by kernel_rfl) (of_decide_eq_true (by kernel_rfl)) k1 bel lt1) trodAll_mk0)), rfl, bel.frame _, fun h => by cases h⟩

theorem over : Rows.gmemScriptRow.holds Try.pinned (OpenSpec.ofChange Rows.gmemScriptSpec) :=
  OpenClaim.holds_of_wide 3 Try.f3 rfl rfl rfl rfl rfl rfl rfl ⟨rfl, rfl, rfl, rfl, rfl⟩ rfl rfl rfl rfl rfl (by kernel_rfl) Try.func3 (by kernel_rfl)
    (of_decide_eq_true (by kernel_rfl)) (by unfold Func.isWrapper; first | (rw [if_pos (by decide +kernel)]; kernel_rfl) | (rw [if_neg (by decide +kernel)]; exact ⟨rfl, rfl⟩))
    (fun os started H enc _ => lifted os started H enc)

/-- THE STATEMENT -/
theorem gmemScript_holds : Rows.GmemScriptSaid := over
#print axioms gmemScript_holds
end Go.Proofs.Ytfjccpalkdmniaa.gmemScript
