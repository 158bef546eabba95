/-
  PROVED: dumbwaiterlaw06.FeatNames returns true for every input, and what was in memory stays as it was. Conditions: none.
-/
import Derived.Test.YtahhbfcafkiilaaRows
import Derived.Test.YtahhbfcafkiilaaFl
import Derived.WalkKit
import Derived.ProofKit
import Derived.OpenShut
import Derived.ShutString
import Derived.ChangeOld
import Derived.Below
import Derived.Carry
import Derived.Lib.SmallJoins
namespace Go.Proofs.Ytahhbfcafkiilaa.featNames
open Go.ChangeShapes Go.WideShapes Go.ChangeAt Go.RowKit
set_option linter.unusedVariables false



set_option maxRecDepth 100000 in
set_option maxHeartbeats 4000000 in
theorem walk (w : World) :
    Calls Try.prog 3 #[] w fun e w' => e = .returned (.bool true) ∧ Below w.heap.size w w' := by
  have s1 : bestR 0 (2 ^ 32) 0 = 0 := by decide +kernel
  have s2 : bestE 0 (2 ^ 32) = 2 := by decide +kernel
  have s3 : bestR 2 0 0 = 0 := by decide +kernel
  have s4 : bestE 2 0 = 2 := by decide +kernel
  have s5 : withR 0 [64] = 0 := by decide +kernel
  have s6 : withE [64] = 2 := by decide +kernel
  obtain ⟨S, s7⟩ : ∃ S, withR (2 ^ 32) [29, 28] = S := ⟨_, rfl⟩
  have s8 : withE [29, 28] = 0 := by decide +kernel
  have s0 : S < N64 := by rw [← s7]; decide +kernel
  have s9 : S.testBit 29 = true := by rw [← s7]; decide +kernel
  have s10 : S.testBit 28 = true := by rw [← s7]; decide +kernel
  have s11 : S.testBit 34 = false := by rw [← s7]; decide +kernel
  have s12 : allF 4 = 0 := by decide +kernel
  have s13 : knownF 2 (2 ^ 17) = false := by decide +kernel
  have s14 : needF 1 (2 ^ 23) = 2 ^ 32 ||| 2 ^ 17 ||| 2 ^ 5 := by decide +kernel
  have s15 : hasF S 32 = true := by rw [← s7]; decide +kernel
  have s16 : hasF S (-1) = false := by rw [← s7]; decide +kernel
  have s17 : hasF S 64 = false := by rw [← s7]; decide +kernel
  have s18 : closedF 2 0 = false := by decide +kernel
  have H32 := hid_mk (bit_law 32 (by decide))
  have H17 := hid_mk (bit_law 17 (by decide))
  have H23 := hid_mk (bit_law 23 (by decide))
  have H5 := hid_mk (bit_law 5 (by decide))
  have HB0 := hid_mk (fbest 0 (2 ^ 32) 0 (by decide) (by decide))
  rw [s1, s2] at HB0
  have HB2 := hid_mk (fbest 2 0 0 (by decide) (by decide))
  rw [s3, s4] at HB2
  have HW1 := hid_mk (fun u => (fwith 0 _ [64] (by decide) (by decide) _ (ints_lit u [64] 3)).mono fun e w' h => (⟨h.1, ((Below.refl _ u).alloc (Nat.le_refl _) _).trans (h.2.mono (by simp))⟩ : _ ∧ Below u.heap.size u w'))
  rw [s5, s6] at HW1
  have HW2 := hid_mk (fun u => (fwith (2 ^ 32) _ [29, 28] (by decide) (by decide) _ (ints_lit u [29, 28] 3)).mono fun e w' h => (⟨h.1, ((Below.refl _ u).alloc (Nat.le_refl _) _).trans (h.2.mono (by simp))⟩ : _ ∧ Below u.heap.size u w'))
  rw [s7, s8] at HW2
  have HO := hid_mk (fopts S s0)
  rw [s9, s10, s11] at HO
  have HA4 := hid_mk (fall 4)
  rw [s12] at HA4
  have HK := hid_mk (fknown 2 (2 ^ 17) (by decide))
  rw [s13] at HK
  have HN := hid_mk (fneeds 1 (2 ^ 23) (by decide))
  rw [s14] at HN
  have HH1 := hid_mk (fhas S s0 32)
  rw [s15] at HH1
  have HH2 := hid_mk (fhas S s0 (-1))
  rw [s16] at HH2
  have HH3 := hid_mk (fhas S s0 64)
  rw [s17] at HH3
  have HC := hid_mk (fclosed 2 0 (by decide))
  rw [s18] at HC
  have O1 := hid_mk (u64_or_nat (2 ^ 32) (2 ^ 17) (by decide) (by decide))
  have O2 := hid_mk (u64_or_nat (2 ^ 32 ||| 2 ^ 17) (2 ^ 5) (by decide) (by decide))
  have hq : (((2 ^ 32 ||| 2 ^ 17 ||| 2 ^ 5 : Nat) : Int) == bits .or .u64 (bits .or .u64 ((2 ^ 32 : Nat) : Int) ((2 ^ 17 : Nat) : Int)) ((2 ^ 5 : Nat) : Int)) = true := by
    rw [O1.out, O2.out]
    simp
  clear s0 s1 s2 s3 s4 s5 s6 s7 s8 s9 s10 s11 s12 s13 s14 s15 s16 s17 s18
  generalize 2 ^ 32 ||| 2 ^ 17 ||| 2 ^ 5 = c3 at *
  generalize 2 ^ 32 ||| 2 ^ 17 = c2 at *
  generalize 2 ^ 32 = b32 at *
  generalize 2 ^ 17 = b17 at *
  generalize 2 ^ 23 = b23 at *
  generalize 2 ^ 5 = b5 at *
  go_enter Try.func3, Try.ntmps3
  go_wp2_with fail
  refine (H32.out _).mono ?_
  rintro e u ⟨rfl, rfl⟩
  go_wp2_with fail
  refine (HB0.out _).mono ?_
  rintro e w2 ⟨rfl, hb⟩
  have B2 := hid_mk (hb)
  clear hb
  go_wp2_with fail
  refine (HB2.out _).mono ?_
  rintro e w3 ⟨rfl, hb⟩
  have B3 := hid_mk (below_two B2.out hb)
  clear hb
  go_wp2_with fail
  refine (HW1.out _).mono ?_
  rintro e w4 ⟨rfl, hb⟩
  have B4 := hid_mk (below_two B3.out hb)
  clear hb
  go_wp2_with fail
  refine (HW2.out _).mono ?_
  rintro e w5 ⟨rfl, hb⟩
  have B5 := hid_mk (below_two B4.out hb)
  clear hb
  go_wp2_with fail
  refine (lives6_any _).mono ?_
  rintro e w6 ⟨rfl, hb⟩
  have B6 := hid_mk (below_two B5.out hb)
  clear hb
  go_wp2_with fail
  refine (HO.out _).mono ?_
  rintro e w7 ⟨rfl, hb⟩
  have B7 := hid_mk (below_two B6.out hb)
  clear hb
  go_wp2_with fail
  refine (HA4.out _).mono ?_
  rintro e w8 ⟨rfl, hb⟩
  have B8 := hid_mk (below_two B7.out hb)
  clear hb
  go_wp2_with fail
  refine (H17.out _).mono ?_
  rintro e u ⟨rfl, rfl⟩
  go_wp2_with fail
  refine (HK.out _).mono ?_
  rintro e w10 ⟨rfl, hb⟩
  have B10 := hid_mk (below_two B8.out hb)
  clear hb
  go_wp2_with fail
  refine (H23.out _).mono ?_
  rintro e u ⟨rfl, rfl⟩
  go_wp2_with fail
  refine (HN.out _).mono ?_
  rintro e w12 ⟨rfl, hb⟩
  have B12 := hid_mk (below_two B10.out hb)
  clear hb
  go_wp2_with fail
  refine (H17.out _).mono ?_
  rintro e u ⟨rfl, rfl⟩
  go_wp2_with fail
  refine (H5.out _).mono ?_
  rintro e u ⟨rfl, rfl⟩
  go_wp2_with fail
  refine (HH1.out _).mono ?_
  rintro e w15 ⟨rfl, hb⟩
  have B15 := hid_mk (below_two B12.out hb)
  clear hb
  go_wp2_with fail
  refine (HH2.out _).mono ?_
  rintro e w16 ⟨rfl, hb⟩
  have B16 := hid_mk (below_two B15.out hb)
  clear hb
  go_wp2_with fail
  refine (HH3.out _).mono ?_
  rintro e w17 ⟨rfl, hb⟩
  have B17 := hid_mk (below_two B16.out hb)
  clear hb
  go_wp2_with fail
  refine (HC.out _).mono ?_
  rintro e w18 ⟨rfl, hb⟩
  have B18 := hid_mk (below_two B17.out hb)
  clear hb
  go_wp2_with fail
  go_ret
  exact ⟨rfl, B18.out⟩

/-! ### the row's frame -/
theorem own : ownKnob Try.prog.godebug = none := by kernel_rfl
theorem laidOut : laidOutB Try.prog = true := by kernel_rfl

set_option maxRecDepth 100000 in
theorem lifted (os : Os) (started : os.Started) (H : Type) (enc : TypeId × Value → H) :
    ReturnsInHanded {} Try.checked os 3 .any (Rows.featNamesSpec.pre6 enc Try.prog Try.f3 Rows.featNamesRow.domain false) (Rows.featNamesSpec.post enc Try.prog Try.f3 false true false false) := by
  refine returnsInHanded_of_change (C := Try.checked) own started (by kernel_rfl) Try.func3
    (ChangeSpec.witness6 (enc := enc) (C := Try.checked) false ⟨#[], #[], []⟩ 8 (by kernel_rfl) (by kernel_rfl) (by kernel_rfl) (by kernel_rfl)) ?_
  intro W base args ds gs before hval0 hW hcnd _
  have hval : ∀ (j : Nat) t v, Try.f3.params[j]? = some t → args[j]? = some v → Value.okWide Try.prog W .any base t v := hval0
  have hW' := hW
  obtain ⟨p, q, hA0, hV, rfl, hfz, hnd⟩ := hW
  have hA : DataW.TrodAll enc Try.prog W 0 (fun _ => true) true Try.f3.params.toList args.toList ds p := hA0
  rw [Try.params3] at hA hval
  obtain ⟨hargs, rfl, rfl⟩ := trodAll_nil hA
  obtain rfl : args = #[] := by cases args; simp_all
  obtain ⟨rfl, rfl⟩ := trodVars_none hV
  clear hA0 hval0
  refine (walk W).mono fun e W' ⟨he, bel⟩ => ?_
  subst he
  exact ⟨_, rfl, _, _, _, [], _, [], hW', trodAll_mk1 (shut_bool Try.underlying4 _), trodAll_mk0, rfl, bel.frame _, fun h => by cases h⟩

theorem over : Rows.featNamesRow.holds Try.pinned (OpenSpec.ofChange Rows.featNamesSpec) :=
  OpenClaim.holds_of_wide 3 Try.f3 rfl rfl rfl rfl rfl rfl rfl ⟨rfl, rfl, rfl, rfl, rfl⟩ rfl rfl rfl rfl rfl (by kernel_rfl) Try.func3 (by kernel_rfl)
    (of_decide_eq_true (by kernel_rfl)) (by unfold Func.isWrapper; first | (rw [if_pos (by decide +kernel)]; kernel_rfl) | (rw [if_neg (by decide +kernel)]; exact ⟨rfl, rfl⟩))
    (fun os started H enc _ => lifted os started H enc)

/-- THE STATEMENT -/
theorem featNames_holds : Rows.FeatNamesSaid := over
#print axioms featNames_holds
end Go.Proofs.Ytahhbfcafkiilaa.featNames
