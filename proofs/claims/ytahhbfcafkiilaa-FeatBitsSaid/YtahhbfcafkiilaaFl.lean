/- The statements' common examples of layer 6: lives. Conditions: none. -/
import Derived.Test.YtahhbfcafkiilaaFc
namespace Go.Proofs.Ytahhbfcafkiilaa
open Go.ChangeShapes Go.WideShapes Go.ChangeAt Go.RowKit
set_option linter.unusedVariables false
set_option maxRecDepth 100000

/-- a bit by its value -/
theorem bit_is (n m : Nat) (hn : n < 64) (hm : 2 ^ n = m) (w : World) :
    Calls Try.prog 7 #[.int .i64 n] w fun e w' => e = .returned (.int .u64 (m : Nat)) ∧ w' = w := by
  rw [← hm]
  exact bit_law n hn w

set_option maxHeartbeats 2000000 in
theorem lives6_any (w : World) : Calls Try.prog 10 #[] w fun e w' => e = .returned (.bool true) ∧ Below w.heap.size w w' := by
  have e1 : bestR 1 (2 ^ 32 ||| 2 ^ 22) 18446744073709551615 = 2 ^ 32 := by decide +kernel
  have e2 : bestE 1 (2 ^ 32 ||| 2 ^ 22) = 0 := by decide +kernel
  have e3 : closedF 1 (2 ^ 32 ||| 2 ^ 19) = false := by decide +kernel
  have e4 : closedF 1 (2 ^ 32 ||| 2 ^ 19 ||| 2 ^ 17) = true := by decide +kernel
  have H32 := hid_mk (bit_law 32 (by decide))
  have H22 := hid_mk (bit_law 22 (by decide))
  have H19 := hid_mk (bit_law 19 (by decide))
  have H17 := hid_mk (bit_law 17 (by decide))
  have O1 := hid_mk (u64_or_nat (2 ^ 32) (2 ^ 22) (by decide) (by decide))
  have O2 := hid_mk (u64_or_nat (2 ^ 32) (2 ^ 19) (by decide) (by decide))
  have O3 := hid_mk (u64_or_nat (2 ^ 32 ||| 2 ^ 19) (2 ^ 17) (by decide) (by decide))
  have HB := hid_mk (fbest 1 (2 ^ 32 ||| 2 ^ 22) 18446744073709551615 (by decide) (by decide))
  have HC1 := hid_mk (fclosed 1 (2 ^ 32 ||| 2 ^ 19) (by decide))
  have HC2 := hid_mk (fclosed 1 (2 ^ 32 ||| 2 ^ 19 ||| 2 ^ 17) (by decide))
  rw [e1, e2] at HB
  rw [e3] at HC1
  rw [e4] at HC2
  clear e1 e2 e3 e4
  generalize 2 ^ 32 ||| 2 ^ 19 ||| 2 ^ 17 = c3 at *
  generalize 2 ^ 32 ||| 2 ^ 19 = c2 at *
  generalize 2 ^ 32 ||| 2 ^ 22 = c1 at *
  generalize 2 ^ 32 = b32 at *
  generalize 2 ^ 22 = b22 at *
  generalize 2 ^ 19 = b19 at *
  generalize 2 ^ 17 = b17 at *
  go_enter Try.func10, Try.ntmps10
  go_wp2_with fail
  refine (H32.out _).mono ?_
  rintro e u ⟨rfl, rfl⟩
  go_wp2_with fail
  refine (H22.out _).mono ?_
  rintro e u ⟨rfl, rfl⟩
  go_wp2_with fail
  rw [O1.out]
  refine (HB.out _).mono ?_
  rintro e w1 ⟨rfl, hb1⟩
  go_wp2_with fail
  refine (H19.out _).mono ?_
  rintro e u ⟨rfl, rfl⟩
  go_wp2_with fail
  rw [O2.out]
  refine (HC1.out _).mono ?_
  rintro e w2 ⟨rfl, hb2⟩
  go_wp2_with fail
  refine (H19.out _).mono ?_
  rintro e u ⟨rfl, rfl⟩
  go_wp2_with fail
  refine (H17.out _).mono ?_
  rintro e u ⟨rfl, rfl⟩
  go_wp2_with fail
  rw [O2.out, O3.out]
  refine (HC2.out _).mono ?_
  rintro e w3 ⟨rfl, hb3⟩
  go_wp2_with fail
  go_ret
  exact ⟨rfl, below_two (below_two hb1 hb2) hb3⟩
end Go.Proofs.Ytahhbfcafkiilaa
