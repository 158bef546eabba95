/- The statements' common examples of layer 3: lives. Conditions: none. -/
import Derived.Test.YtfjccpalkdmniaaDsc4
import Derived.Test.YtfjccpalkdmniaaDsc5
namespace Go.Proofs.Ytfjccpalkdmniaa
open Go.ChangeShapes Go.WideShapes Go.ChangeAt Go.RowKit
set_option linter.unusedVariables false
set_option maxRecDepth 100000

theorem lives3_any (w : World) : Calls Try.prog 35 #[] w fun e w' => e = .returned (.bool true) ∧ Below w.heap.size w w' := by
  have hs : strOfNums (dB ⟨4096, 32, 1, 5⟩) = ⟨#[0, 16, 0, 0, 0, 0, 0, 0, 32, 0, 0, 0, 1, 0, 5, 0]⟩ := by decide
  have m1 : markN 2 true false = 130 := by decide
  have m2 : markN 2 true true = 32898 := by decide
  have h1 := fun (u : World) => Mark_any 2 true false u (by decide)
  have h2 := fun (u : World) => Mark_any 2 true true u (by decide)
  rw [m1] at h1
  rw [m2] at h2
  have H1 := hid_mk h1
  have H2 := hid_mk h2
  clear h1 h2
  go_enter Try.func35, Try.ntmps35
  go_wp2_with fail
  refine (bytes_any ⟨4096, 32, 1, 5⟩ w ⟨by decide, by decide, by decide, by decide⟩).mono ?_
  rintro e w1 ⟨rfl, hr, hb⟩
  have hcv := convRow (c := 16) hr (dB_length _)
  rw [hs] at hcv
  have HB := hid_mk hb
  clear hr hb
  go_wp2_with fail
  refine (H1.out _).mono ?_
  rintro e w2 ⟨rfl, rfl⟩
  go_wp2_with fail
  refine (H2.out _).mono ?_
  rintro e w2 ⟨rfl, rfl⟩
  go_wp2_with fail
  go_ret
  exact ⟨rfl, HB.out⟩
end Go.Proofs.Ytfjccpalkdmniaa
