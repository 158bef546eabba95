/- The contract of the statements' common examples, 'lives': it returns true and leaves old memory alone. No condition. -/
import Derived.Test.YtomeodmadnobfaaSer6
import Derived.Test.YtomeodmadnobfaaSer7
namespace Go.Proofs.Ytomeodmadnobfaa
open Go.ChangeShapes Go.WideShapes Go.ChangeAt Go.RowKit
set_option linter.unusedVariables false

theorem needAt_lives (w : World) :
    Calls Try.prog 27 #[.agg #[.int .i64 3, .bool true], .agg #[.int .i64 0, .bool false], .int .i64 1, .int .i64 4] w fun e w' => e = .returned (.tuple #[.bool true, .int .i64 0]) ∧ Below w.heap.size w w' := by
  have h := needAt_yes 3 0 1 4 true false w (by omega) (by omega) (by omega) (by omega) (by omega) (by omega) (by omega) (by omega)
  rw [show needAtB 3 0 1 4 true false = true from by decide] at h
  exact h

theorem lives_any (w : World) :
    Calls Try.prog 13 #[] w fun e w' => e = .returned (.bool true) ∧ Below w.heap.size w w' := by
  go_enter Try.func13, Try.ntmps13
  go_wp2_with (first | (go_at_call 10; refine (go_over 2 3 4 true _ (by omega) (by omega) (by omega) (by omega) (by omega) (by omega) (by omega)).mono ?_; rintro e w2 ⟨rfl, hb2⟩) | (go_at_call 27; refine (needAt_lives _).mono ?_; rintro e w1 ⟨rfl, hb⟩; obtain ⟨hc, hf⟩ := bcell hb) | go_in)
  go_ret
  have hz := hb.size
  have hz2 := hb2.size
  simp at hz
  exact ⟨rfl, by repeat (first | exact Below.refl _ _ | (refine Below.alloc ?_ (by first | omega | (simp; done) | (simp; omega)) _) | (refine Below.trans ?_ (hb.mono (by first | omega | (simp; done) | (simp; omega)))) | (refine Below.trans ?_ (hb2.mono (by first | omega | (simp; done) | (simp; omega)))))⟩

end Go.Proofs.Ytomeodmadnobfaa
