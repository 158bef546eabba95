/-
  PROVED: dumbwaiterlaw02.GmemNames returns true at every call, and what was in memory stays as it was. Conditions: none.
-/
import Derived.Test.YtigdolohdehcdaaRows
import Derived.Test.YtigdolohdehcdaaGm8
import Derived.WalkKit
import Derived.ProofKit
import Derived.OpenShut
import Derived.ShutString
import Derived.ChangeOld
import Derived.Below
import Derived.Carry
import Derived.Lib.SmallJoins
namespace Go.Proofs.Ytigdolohdehcdaa.gmemNames
open Go.ChangeShapes Go.WideShapes Go.ChangeAt Go.RowKit
set_option linter.unusedVariables false


abbrev LA : List (Int × Int) := [(5, 0)]
abbrev LB : List (Int × Int) := [(5, 5), (9, 1)]
abbrev LC : List (Int × Int) := [(18446744073709551615, 2)]
abbrev LD : List (Int × Int) := [(18446744073709551614, 2)]

set_option maxRecDepth 100000 in
set_option maxHeartbeats 4000000 in
theorem walk (w : World) :
    Calls Try.prog 3 #[] w fun e w' => e = .returned (.bool true) ∧ Below w.heap.size w w' := by
  have hs1 : accE LD 0 3 = 2 := by decide
  have hs2 : readE LD 5 (-1) = 2 := by decide
  have hs3 : readE LD 7 0 = 0 := by decide
  have hs4 : readL LD (List.replicate (sumR LD) 0) 7 0 = [] := by decide
  have hs5 : writeE LD 9 [] = 0 := by decide
  have hs6 : writeM LD (List.replicate (sumR LD) 0) 9 [] = [0, 0] := by decide
  have hs7 : writeE LD 18446744073709551615 [7] = 0 := by decide
  have hs8 : writeM LD [0, 0] 18446744073709551615 [7] = [0, 7] := by decide
  have hs9 : (loc LD 18446744073709551614 2).isSome = true := by decide
  have hs10 : (loc LD 18446744073709551614 3).isSome = false := by decide
  have hs11 : (loc LD 18446744073709551614 0).isSome = false := by decide
  have hs12 : strOfNums [0, 7] = ⟨#[0, 7]⟩ := by decide
  go_enter Try.func3, Try.ntmps3
  go_wp2_with fail
  refine (new_no _ LA _ (regsLit w LA 28) (isRegs_of (by decide)) (by decide) (by decide)).mono ?_
  rintro e w1 ⟨rfl, hb⟩
  have B1 := hid_mk (below_new (Below.refl _ _) hb)
  clear hb
  go_wp2_with fail
  refine (new_no _ LB _ (regsLit w1 LB 28) (isRegs_of (by decide)) (by decide) (by decide)).mono ?_
  rintro e w2 ⟨rfl, hb⟩
  have B2 := hid_mk (below_new B1.out hb)
  clear hb
  go_wp2_with fail
  refine (new_no _ LC _ (regsLit w2 LC 28) (isRegs_of (by decide)) (by decide) (by decide)).mono ?_
  rintro e w3 ⟨rfl, hb⟩
  have B3 := hid_mk (below_new B2.out hb)
  clear hb
  go_wp2_with fail
  refine (new_any _ LD _ (regsLit w3 LD 28) (isRegs_of (by decide)) (by decide) (by decide) (by decide)).mono ?_
  rintro e w4 ⟨p, ib, qb, rfl, hm, ⟨g1, g2, g3⟩, hb⟩
  have M4 := hid_mk hm
  have B4 := hid_mk (below_new B3.out hb)
  have gi : w.heap.size ≤ ib := by
    have := B3.out.size
    rw [sizeA] at g2
    omega
  clear hb hm g1 g2 g3
  go_wp2_with fail
  refine (load_any p ib qb LD _ 0 3 _ M4.out (by simp [U64])).mono ?_
  rintro e w5 ⟨rfl, hb⟩
  have M5 := hid_mk (M4.out.below hb)
  have B5 := hid_mk (below_then B4.out hb)
  clear hb
  go_wp2_with fail
  refine (read_any p ib qb LD _ 5 (-1) _ M5.out (by simp [U64]) (by decide)).mono ?_
  rintro e w6 ⟨v6, rfl, hn, hb⟩
  have M6 := hid_mk (M5.out.below hb)
  have B6 := hid_mk (below_then B5.out hb)
  clear hb hn
  go_wp2_with fail
  refine (read_any p ib qb LD _ 7 0 _ M6.out (by simp [U64]) (by decide)).mono ?_
  rintro e w7 ⟨v7, rfl, hn, hb⟩
  have M7 := hid_mk (M6.out.below hb)
  have B7 := hid_mk (below_then B6.out hb)
  rw [hs4] at hn
  obtain ⟨va, vc, rfl⟩ := hn.len
  clear hb hn
  go_wp2_with fail
  refine (lives_any _).mono ?_
  rintro e w8 ⟨rfl, hb⟩
  have M8 := hid_mk (M7.out.below hb)
  have B8 := hid_mk (below_then B7.out hb)
  clear hb
  go_wp2_with fail
  refine (write_any p ib qb LD _ 9 _ [] _ M8.out (by simp [U64]) (Or.inl ⟨⟨_, _, rfl⟩, rfl⟩) isBytes_nil (by decide)).mono ?_
  rintro e w9 ⟨rfl, hm, hc⟩
  rw [hs6] at hm
  have M9 := hid_mk hm
  have B9 := hid_mk (hc.since1 B8.out gi)
  clear hm hc
  go_wp2_with fail
  refine (write_any p ib qb LD _ 18446744073709551615 _ [7] _ (M9.out.below ((Below.refl _ _).alloc (Nat.le_refl _) _)) (by simp [U64]) (bytesLit w9 [7] 5) (isBytes_of (by decide)) (by decide)).mono ?_
  rintro e w10 ⟨rfl, hm, hc⟩
  rw [hs8] at hm
  have M10 := hid_mk hm
  have B10 := hid_mk (hc.since1 (B9.out.alloc B9.out.size _) gi)
  clear hm hc
  go_wp2_with fail
  refine (image_any p ib qb LD _ _ M10.out).mono ?_
  rintro e w11 ⟨v11, rfl, hn, hb⟩
  have M11 := hid_mk (M10.out.below hb)
  have B11 := hid_mk (below_then B10.out hb)
  have hcv := convN hn
  rw [hs12] at hcv
  clear hn hb
  go_wp2_with fail
  refine (has_any p ib qb LD _ 18446744073709551614 2 _ M11.out (by simp [U64]) (by simp [U64])).mono ?_
  rintro e w12 ⟨rfl, hb⟩
  have M12 := hid_mk (M11.out.below hb)
  have B12 := hid_mk (below_then B11.out hb)
  clear hb
  go_wp2_with fail
  refine (has_any p ib qb LD _ 18446744073709551614 3 _ M12.out (by simp [U64]) (by simp [U64])).mono ?_
  rintro e w13 ⟨rfl, hb⟩
  have M13 := hid_mk (M12.out.below hb)
  have B13 := hid_mk (below_then B12.out hb)
  clear hb
  go_wp2_with fail
  refine (has_any p ib qb LD _ 18446744073709551614 0 _ M13.out (by simp [U64]) (by simp [U64])).mono ?_
  rintro e w14 ⟨rfl, hb⟩
  have B14 := hid_mk (below_then B13.out hb)
  clear hb
  go_wp2_with fail
  go_ret
  exact ⟨rfl, B14.out⟩

/-! ### the row's frame -/
theorem own : ownKnob Try.prog.godebug = none := by kernel_rfl
theorem laidOut : laidOutB Try.prog = true := by kernel_rfl

set_option maxRecDepth 100000 in
theorem lifted (os : Os) (started : os.Started) (H : Type) (enc : TypeId × Value → H) :
    ReturnsInHanded {} Try.checked os 3 .any (Rows.gmemNamesSpec.pre6 enc Try.prog Try.f3 Rows.gmemNamesRow.domain false) (Rows.gmemNamesSpec.post enc Try.prog Try.f3 false true false false) := by
  refine returnsInHanded_of_change (C := Try.checked) own started (by kernel_rfl) Try.func3
    (ChangeSpec.witness6 (enc := enc) (C := Try.checked) false ⟨#[], #[], []⟩ 8 (by kernel_rfl) (by kernel_rfl) (by kernel_rfl) (by kernel_rfl)) ?_
  intro W base args ds gs before hval0 hW hcnd _
  have hval : ∀ (j : Nat) t v, Try.f3.params[j]? = some t → args[j]? = some v → Value.okWide Try.prog W .any base t v := hval0
  have hW' := hW
  obtain ⟨p, q, hA0, hV, rfl, hfz, hnd⟩ := hW
  have hA : DataW.TrodAll enc Try.prog W 0 (fun _ => true) true Try.f3.params.toList args.toList ds p := hA0
  rw [Try.params3] at hA hval
  obtain ⟨hargs, rfl, rfl⟩ := trodAll_nil hA
  obtain rfl : args = #[] := by cases args; simp_all
  obtain ⟨rfl, rfl⟩ := trodVars_none hV
  clear hA0 hval0
  refine (walk W).mono fun e W' ⟨he, bel⟩ => ?_
  subst he
  exact ⟨_, rfl, _, _, _, [], _, [], hW', trodAll_mk1 (shut_bool Try.underlying4 _), trodAll_mk0, rfl, bel.frame _, fun h => by cases h⟩

theorem over : Rows.gmemNamesRow.holds Try.pinned (OpenSpec.ofChange Rows.gmemNamesSpec) :=
  OpenClaim.holds_of_wide 3 Try.f3 rfl rfl rfl rfl rfl rfl rfl ⟨rfl, rfl, rfl, rfl, rfl⟩ rfl rfl rfl rfl rfl (by kernel_rfl) Try.func3 (by kernel_rfl)
    (of_decide_eq_true (by kernel_rfl)) (by unfold Func.isWrapper; first | (rw [if_pos (by decide +kernel)]; kernel_rfl) | (rw [if_neg (by decide +kernel)]; exact ⟨rfl, rfl⟩))
    (fun os started H enc _ => lifted os started H enc)

/-- THE STATEMENT -/
theorem gmemNames_holds : Rows.GmemNamesSaid := over
#print axioms gmemNames_holds
end Go.Proofs.Ytigdolohdehcdaa.gmemNames
