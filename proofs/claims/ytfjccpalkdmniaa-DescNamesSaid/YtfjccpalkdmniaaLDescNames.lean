/-
  PROVED: dumbwaiterlaw03.DescNames returns true, and what was in memory stays as it was. Conditions: none.
-/
import Derived.Test.YtfjccpalkdmniaaRows
import Derived.Test.YtfjccpalkdmniaaDsc6
import Derived.Test.YtfjccpalkdmniaaDsc9
import Derived.WalkKit
import Derived.ProofKit
import Derived.OpenShut
import Derived.ShutString
import Derived.ChangeOld
import Derived.Below
import Derived.Carry
import Derived.Lib.SmallJoins
namespace Go.Proofs.Ytfjccpalkdmniaa.descNames
open Go.ChangeShapes Go.WideShapes Go.ChangeAt Go.RowKit
set_option linter.unusedVariables false


set_option maxRecDepth 100000 in
set_option maxHeartbeats 2000000 in
theorem walk (w : World) :
    Calls Try.prog 4 #[] w fun e w' => e = .returned (.bool true) ∧ Below w.heap.size w w' := by
  have hm15 : ∀ u : World, (Instr.makeSlice 37 (.int .i64 15) (.int .i64 15)).run Try.prog u = .ok (.slice (some ⟨u.heap.size, 0, none⟩) 15 15) (u.alloc (.cells (bv (List.replicate 15 0)) 5)) := fun u => makeB u .i64 15 (by omega)
  have hm17 : ∀ u : World, (Instr.makeSlice 37 (.int .i64 17) (.int .i64 17)).run Try.prog u = .ok (.slice (some ⟨u.heap.size, 0, none⟩) 17 17) (u.alloc (.cells (bv (List.replicate 17 0)) 5)) := fun u => makeB u .i64 17 (by omega)
  have HU := hid_mk (fun (u : World) => by
    have h := usedWord_any 1 2 u (by omega) (by omega)
    rw [show (1 : Int) + 4294967296 * 2 = 8589934593 from by decide] at h
    exact h)
  have HE := hid_mk (fun (u : World) => by
    have h := eventWord_any 3 2 u (by omega) (by omega)
    rw [show (3 : Int) + 65536 * 2 = 131075 from by decide] at h
    exact h)
  have HA1 := hid_mk (fun (u : World) => by
    have h := Avail_any 128 true u (by omega)
    rw [show decide (ownN 128 = mkN true false) = true from by decide] at h
    exact h)
  have HA2 := hid_mk (fun (u : World) => by
    have h := Avail_any 32896 true u (by omega)
    rw [show decide (ownN 32896 = mkN true false) = false from by decide] at h
    exact h)
  have HA3 := hid_mk (fun (u : World) => by
    have h := Used_any 0 false u (by omega)
    rw [show decide (ownN 0 = mkN false true) = true from by decide] at h
    exact h)
  go_enter Try.func4, Try.ntmps4
  go_wp2_with fail
  refine (read_no _ (List.replicate 15 0) _ (rowAt (heap_alloc_new _ _) 15 (by simp)) (by simp) (by simp)).mono ?_
  rintro e w1 ⟨rfl, hb⟩
  have HB1 := hid_mk (below_new (Below.refl _ _) hb)
  clear hb
  go_wp2_with fail
  refine (pread_no (.slice none 0 0) [] _ (Or.inl ⟨⟨none, 0, rfl, fun _ => rfl⟩, rfl⟩) (by simp) (by simp)).mono ?_
  rintro e w2 ⟨rfl, hb⟩
  have HB2 := hid_mk (below_new HB1.out hb)
  clear hb
  go_wp2_with fail
  refine (readTable_no _ 17 17 _ (by omega) (by omega)).mono ?_
  rintro e w3 ⟨rfl, hb⟩
  have HB3 := hid_mk (show Below w.heap.size w w3 from by subst hb; exact (HB2.out.alloc HB2.out.size _).alloc (by rw [sizeA]; have := HB2.out.size; omega) _)
  clear hb
  go_wp2_with fail
  refine (readTable_nil none 0 _).mono ?_
  rintro e w4 ⟨rfl, hb⟩
  have HB4 := hid_mk (below_then HB3.out hb)
  clear hb
  go_wp2_with fail
  refine (lives3_any _).mono ?_
  rintro e w5 ⟨rfl, hb⟩
  have HB5 := hid_mk (below_then HB4.out hb)
  clear hb
  go_wp2_with fail
  refine (HU.out _).mono ?_
  rintro e w6 ⟨rfl, hb⟩
  have HB6 := hid_mk (below_then HB5.out hb)
  clear hb
  go_wp2_with fail
  refine (HE.out _).mono ?_
  rintro e w7 ⟨rfl, hb⟩
  have HB7 := hid_mk (below_then HB6.out hb)
  clear hb
  go_wp2_with fail
  refine (HA1.out _).mono ?_
  rintro e w8 ⟨rfl, rfl⟩
  go_wp2_with fail
  refine (HA2.out _).mono ?_
  rintro e w8 ⟨rfl, rfl⟩
  go_wp2_with fail
  refine (HA3.out _).mono ?_
  rintro e w8 ⟨rfl, rfl⟩
  go_wp2_with fail
  go_ret
  exact ⟨rfl, HB7.out⟩

/-! ### the row's frame -/
theorem own : ownKnob Try.prog.godebug = none := by kernel_rfl
theorem laidOut : laidOutB Try.prog = true := by kernel_rfl

set_option maxRecDepth 100000 in
theorem lifted (os : Os) (started : os.Started) (H : Type) (enc : TypeId × Value → H) :
    ReturnsInHanded {} Try.checked os 4 .any (Rows.descNamesSpec.pre6 enc Try.prog Try.f4 Rows.descNamesRow.domain false) (Rows.descNamesSpec.post enc Try.prog Try.f4 false true false false) := by
  refine returnsInHanded_of_change (C := Try.checked) own started (by kernel_rfl) Try.func4
    (ChangeSpec.witness6 (enc := enc) (C := Try.checked) false ⟨#[], #[], []⟩ 8 (by kernel_rfl) (by kernel_rfl) (by kernel_rfl) (by kernel_rfl)) ?_
  intro W base args ds gs before hval0 hW hcnd _
  have hval : ∀ (j : Nat) t v, Try.f4.params[j]? = some t → args[j]? = some v → Value.okWide Try.prog W .any base t v := hval0
  have hW' := hW
  obtain ⟨p, q, hA0, hV, rfl, hfz, hnd⟩ := hW
  have hA : DataW.TrodAll enc Try.prog W 0 (fun _ => true) true Try.f4.params.toList args.toList ds p := hA0
  rw [Try.params4] at hA hval
  obtain ⟨hargs, rfl, rfl⟩ := trodAll_nil hA
  obtain rfl : args = #[] := by cases args; simp_all
  obtain ⟨rfl, rfl⟩ := trodVars_none hV
  clear hA0 hval0
  refine (walk W).mono fun e W' ⟨he, bel⟩ => ?_
  subst he
  exact ⟨_, rfl, _, _, _, [], _, [], hW', trodAll_mk1 (shut_bool Try.underlying4 _), trodAll_mk0, rfl, bel.frame _, fun h => by cases h⟩

theorem over : Rows.descNamesRow.holds Try.pinned (OpenSpec.ofChange Rows.descNamesSpec) :=
  OpenClaim.holds_of_wide 4 Try.f4 rfl rfl rfl rfl rfl rfl rfl ⟨rfl, rfl, rfl, rfl, rfl⟩ rfl rfl rfl rfl rfl (by kernel_rfl) Try.func4 (by kernel_rfl)
    (of_decide_eq_true (by kernel_rfl)) (by unfold Func.isWrapper; first | (rw [if_pos (by decide +kernel)]; kernel_rfl) | (rw [if_neg (by decide +kernel)]; exact ⟨rfl, rfl⟩))
    (fun os started H enc _ => lifted os started H enc)

/-- THE STATEMENT -/
theorem descNames_holds : Rows.DescNamesSaid := over
#print axioms descNames_holds
end Go.Proofs.Ytfjccpalkdmniaa.descNames
