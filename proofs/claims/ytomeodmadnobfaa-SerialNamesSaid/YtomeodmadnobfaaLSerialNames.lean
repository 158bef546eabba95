/-
  PROVED: dumbwaiterlaw01.SerialNames returns true at every call, and what was in memory stays as it was. Conditions: none.
-/
import Derived.Test.YtomeodmadnobfaaRows
import Derived.Test.YtomeodmadnobfaaLiv
import Derived.WalkKit
import Derived.ProofKit
import Derived.OpenShut
import Derived.ShutString
import Derived.ChangeOld
import Derived.Below
import Derived.Carry
import Derived.Lib.SmallJoins
namespace Go.Proofs.Ytomeodmadnobfaa.serialNames
open Go.ChangeShapes Go.WideShapes Go.ChangeAt Go.RowKit
set_option linter.unusedVariables false


theorem read1 (w : World) : Calls Try.prog 11 #[.int .u16 4, .int .i64 4] w fun e w' => e = .returned (.tuple #[.agg #[.int .i64 0, .bool false], .int .i64 4]) ∧ Below w.heap.size w w' :=
  read_bad 4 4 w (by omega) (by omega) (by omega) (by omega) (by omega)
theorem read2 (w : World) : Calls Try.prog 11 #[.int .u16 0, .int .i64 0] w fun e w' => e = .returned (.tuple #[.agg #[.int .i64 0, .bool false], .int .i64 2]) ∧ Below w.heap.size w w' :=
  read_arg 0 0 w (by omega)
theorem read3 (w : World) : Calls Try.prog 11 #[.int .u16 32771, .int .i64 4] w fun e w' => e = .returned (.tuple #[.agg #[.int .i64 3, .bool true], .int .i64 0]) ∧ Below w.heap.size w w' :=
  read_yes 32771 4 w (by omega) (by omega) (by omega) (by omega) (by omega)
theorem align1 (w : World) : Calls Try.prog 12 #[.int .u64 5, .int .u64 3] w fun e w' => e = .returned (.tuple #[.int .u64 0, .int .i64 2]) ∧ w = w' := by
  have h := align_any 5 3 w (by unfold U64; omega) (by unfold U64; omega)
  rw [show alV 5 3 = 0 from by decide, show alE 5 3 = 2 from by decide] at h
  exact h
theorem align2 (w : World) : Calls Try.prog 12 #[.int .u64 18446744073709551615, .int .u64 2] w fun e w' => e = .returned (.tuple #[.int .u64 0, .int .i64 2]) ∧ w = w' := by
  have h := align_any 18446744073709551615 2 w (by unfold U64; omega) (by unfold U64; omega)
  rw [show alV 18446744073709551615 2 = 0 from by decide, show alE 18446744073709551615 2 = 2 from by decide] at h
  exact h
theorem align3 (w : World) : Calls Try.prog 12 #[.int .u64 5, .int .u64 4] w fun e w' => e = .returned (.tuple #[.int .u64 8, .int .i64 0]) ∧ w = w' := by
  have h := align_any 5 4 w (by unfold U64; omega) (by unfold U64; omega)
  rw [show alV 5 4 = 8 from by decide, show alE 5 4 = 0 from by decide] at h
  exact h
theorem power1 (w : World) : Calls Try.prog 15 #[.int .i64 32768] w fun e w' => e = .returned (.bool true) ∧ w = w' := power_any 32768 w
theorem power2 (w : World) : Calls Try.prog 15 #[.int .i64 65536] w fun e w' => e = .returned (.bool false) ∧ w = w' := power_any 65536 w
theorem power3 (w : World) : Calls Try.prog 15 #[.int .i64 0] w fun e w' => e = .returned (.bool false) ∧ w = w' := power_any 0 w
theorem power4 (w : World) : Calls Try.prog 15 #[.int .i64 12] w fun e w' => e = .returned (.bool false) ∧ w = w' := power_any 12 w

theorem walk (w : World) :
    Calls Try.prog 3 #[] w fun e w' => e = .returned (.bool true) ∧ Below w.heap.size w w' := by
  go_enter Try.func3, Try.ntmps3
  go_wp2_with fail
  refine (go_no 4 1 4 false _ (by omega)).mono ?_
  rintro e w1 ⟨rfl, hb1⟩
  have z1 := hb1.size
  go_wp2_with fail
  refine (read1 _).mono ?_
  rintro e w2 ⟨rfl, hb2⟩
  have z2 := hb2.size
  obtain ⟨hc2, hf2⟩ := bcell hb2
  go_wp2_with fail
  refine (read2 _).mono ?_
  rintro e w3 ⟨rfl, hb3⟩
  have z3 := hb3.size
  obtain ⟨hc3, hf3⟩ := bcell hb3
  go_wp2_with fail
  refine (read3 _).mono ?_
  rintro e w4 ⟨rfl, hb4⟩
  have z4 := hb4.size
  obtain ⟨hc4, hf4⟩ := bcell hb4
  go_wp2_with fail
  refine (align1 _).mono ?_
  rintro e w' ⟨rfl, rfl⟩
  go_wp2_with fail
  refine (align2 _).mono ?_
  rintro e w' ⟨rfl, rfl⟩
  go_wp2_with fail
  refine (align3 _).mono ?_
  rintro e w' ⟨rfl, rfl⟩
  go_wp2_with fail
  refine (lives_any _).mono ?_
  rintro e w5 ⟨rfl, hb5⟩
  have z5 := hb5.size
  obtain ⟨hc5, hf5⟩ := bcell hb5
  go_wp2_with fail
  refine (start_any _).mono ?_
  rintro e w6 ⟨rfl, hb6⟩
  have z6 := hb6.size
  go_wp2_with fail
  refine (power1 _).mono ?_
  rintro e w' ⟨rfl, rfl⟩
  go_wp2_with fail
  refine (power2 _).mono ?_
  rintro e w' ⟨rfl, rfl⟩
  go_wp2_with fail
  refine (power3 _).mono ?_
  rintro e w' ⟨rfl, rfl⟩
  go_wp2_with fail
  refine (power4 _).mono ?_
  rintro e w' ⟨rfl, rfl⟩
  go_wp2_with fail
  go_ret
  clear hc2 hf2 hc3 hf3 hc4 hf4 hc5 hf5
  simp at z1 z2 z3 z4 z5 z6
  exact ⟨rfl, by repeat (first | exact Below.refl _ _ | (refine Below.alloc ?_ (by first | omega | (simp; done) | (simp; omega)) _) | (refine Below.trans ?_ (hb6.mono (by first | omega | (simp; done) | (simp; omega)))) | (refine Below.trans ?_ (hb5.mono (by first | omega | (simp; done) | (simp; omega)))) | (refine Below.trans ?_ (hb4.mono (by first | omega | (simp; done) | (simp; omega)))) | (refine Below.trans ?_ (hb3.mono (by first | omega | (simp; done) | (simp; omega)))) | (refine Below.trans ?_ (hb2.mono (by first | omega | (simp; done) | (simp; omega)))) | (refine Below.trans ?_ (hb1.mono (by first | omega | (simp; done) | (simp; omega)))))⟩

/-! ### the row's frame -/
theorem own : ownKnob Try.prog.godebug = none := by kernel_rfl
theorem laidOut : laidOutB Try.prog = true := by kernel_rfl

set_option maxRecDepth 100000 in
theorem lifted (os : Os) (started : os.Started) (H : Type) (enc : TypeId × Value → H) :
    ReturnsInHanded {} Try.checked os 3 .any (Rows.serialNamesSpec.pre6 enc Try.prog Try.f3 Rows.serialNamesRow.domain false) (Rows.serialNamesSpec.post enc Try.prog Try.f3 false true false false) := by
  refine returnsInHanded_of_change (C := Try.checked) own started (by kernel_rfl) Try.func3
    (ChangeSpec.witness6 (enc := enc) (C := Try.checked) false ⟨#[], #[], []⟩ 8 (by kernel_rfl) (by kernel_rfl) (by kernel_rfl) (by kernel_rfl)) ?_
  intro W base args ds gs before hval0 hW hcnd _
  have hval : ∀ (j : Nat) t v, Try.f3.params[j]? = some t → args[j]? = some v → Value.okWide Try.prog W .any base t v := hval0
  have hW' := hW
  obtain ⟨p, q, hA0, hV, rfl, hfz, hnd⟩ := hW
  have hA : DataW.TrodAll enc Try.prog W 0 (fun _ => true) true Try.f3.params.toList args.toList ds p := hA0
  rw [Try.params3] at hA hval
  obtain ⟨hargs, rfl, rfl⟩ := trodAll_nil hA
  obtain rfl : args = #[] := by cases args; simp_all
  obtain ⟨rfl, rfl⟩ := trodVars_none hV
  clear hA0 hval0
  refine (walk W).mono fun e W' ⟨he, bel⟩ => ?_
  subst he
  exact ⟨_, rfl, _, _, _, [], _, [], hW', trodAll_mk1 (shut_bool Try.underlying4 _), trodAll_mk0, rfl, bel.frame _, fun h => by cases h⟩

theorem over : Rows.serialNamesRow.holds Try.pinned (OpenSpec.ofChange Rows.serialNamesSpec) :=
  OpenClaim.holds_of_wide 3 Try.f3 rfl rfl rfl rfl rfl rfl rfl ⟨rfl, rfl, rfl, rfl, rfl⟩ rfl rfl rfl rfl rfl (by kernel_rfl) Try.func3 (by kernel_rfl)
    (of_decide_eq_true (by kernel_rfl)) (by unfold Func.isWrapper; first | (rw [if_pos (by decide +kernel)]; kernel_rfl) | (rw [if_neg (by decide +kernel)]; exact ⟨rfl, rfl⟩))
    (fun os started H enc _ => lifted os started H enc)

/-- THE STATEMENT -/
theorem serialNames_holds : Rows.SerialNamesSaid := over
#print axioms serialNames_holds
end Go.Proofs.Ytomeodmadnobfaa.serialNames
