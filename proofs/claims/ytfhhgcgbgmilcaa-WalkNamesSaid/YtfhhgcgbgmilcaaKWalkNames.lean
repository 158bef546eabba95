/-
  PROVED: dumbwaiterlaw10.WalkNames returns true, and what was in memory stays as it was. Conditions: none.
-/
import Derived.Test.YtfhhgcgbgmilcaaKp40
import Derived.Test.YtfhhgcgbgmilcaaRows
import Derived.WalkKit
import Derived.ProofKit
import Derived.OpenShut
import Derived.ShutString
import Derived.ChangeOld
import Derived.Below
import Derived.Carry
import Derived.Lib.SmallJoins

namespace Go.Proofs.Ytfhhgcgbgmilcaa.walkNames
open Go.ChangeShapes Go.WideShapes Go.ChangeAt Go.RowKit
set_option linter.unusedVariables false

def wn1 : List Int := writeM R1k k0 0 (dB ⟨512, 16, 4, 0⟩)
def wn2 : List Int := writeM R1k wn1 512 (dB ⟨300, 7, 2, 0⟩)
set_option maxRecDepth 100000 in
set_option maxHeartbeats 1000000 in
theorem walk (w : World) : Calls Try.prog 3 #[] w fun e w' => e = .returned (.bool true) ∧ Below w.heap.size w w' := by
  have HNew := hid_mk (fun u b h0 hb => new1k w u b h0 hb)
  have HB := hid_mk (Below.refl w.heap.size w)
  go_enter Try.func3, Try.ntmps3
  go_wp2_with fail
  refine (place4 false 80 118 (by decide +kernel) (by decide +kernel) _).mono ?_
  rintro e w1 ⟨rfl, hb⟩
  replace HB := hid_mk (below_then HB.out hb)
  clear hb
  have hbx := below_box w1 (.cells #[.bool false, .int .i64 4, .int .u64 0, .int .u64 64, .int .u64 80] 24)
  replace HB := hid_mk (below_then HB.out hbx)
  have XR := hid_mk (blk_new w1 [.bool false, .int .i64 4, .int .u64 0, .int .u64 64, .int .u64 80] 24)
  clear hbx
  go_wp2_with fail
  refine (place4 true 68 72 (by decide +kernel) (by decide +kernel) _).mono ?_
  rintro e w2 ⟨rfl, hb⟩
  replace XR := hid_mk (XR.out.below hb)
  replace HB := hid_mk (below_then HB.out hb)
  clear hb
  have hbx := below_box w2 (.cells #[.bool true, .int .i64 4, .int .u64 0, .int .u64 64, .int .u64 68] 24)
  replace XR := hid_mk (XR.out.below hbx)
  replace HB := hid_mk (below_then HB.out hbx)
  have XP := hid_mk (blk_new w2 [.bool true, .int .i64 4, .int .u64 0, .int .u64 64, .int .u64 68] 24)
  clear hbx
  go_wp2_with fail
  refine (HNew.out _ _ HB.out (by simp)).mono ?_
  rintro e w3 ⟨p, ib, qb, rfl, hm, hb⟩
  replace XR := hid_mk (XR.out.below hb)
  replace XP := hid_mk (XP.out.below hb)
  replace HB := hid_mk (below_then HB.out hb)
  have HM := hid_mk (hm)
  clear hm hb HNew
  replace HM : Hid (MdS w p ib qb R1k k0 w3) := HM
  obtain ⟨XRl, XR0, XR1, XR2, XR3, XR4, _⟩ := cells5 XR.out
  go_wp2_with fail
  refine (wksplit_nil false 4 0 64 80 0 true _).mono ?_
  rintro e w4 ⟨sv, rfl, hq, hb⟩
  replace XR := hid_mk (XR.out.below hb)
  replace XP := hid_mk (XP.out.below hb)
  replace HM := hid_mk (HM.out.below hb)
  replace HB := hid_mk (below_then HB.out hb)
  clear hb
  obtain ⟨sa, sz, rfl⟩ := hq.len
  clear hq
  clear XRl XR0 XR1 XR2 XR3 XR4
  obtain ⟨XPl, XP0, XP1, XP2, XP3, XP4, _⟩ := cells5 XP.out
  go_wp2_with fail
  refine (HM.out.split true 4 0 64 68 0 true 2 [] 0 (by constructor <;> decide) (by constructor <;> decide) (by constructor <;> decide) (by constructor <;> decide) (by decide +kernel) (by decide +kernel) rfl).mono ?_
  rintro e w5 ⟨ta, tc, rfl, hq, hb⟩
  replace XR := hid_mk (XR.out.below hb)
  replace XP := hid_mk (XP.out.below hb)
  replace HM := hid_mk (HM.out.below hb)
  replace HB := hid_mk (below_then HB.out hb)
  clear hb
  clear hq
  clear XPl XP0 XP1 XP2 XP3 XP4
  obtain ⟨XRl, XR0, XR1, XR2, XR3, XR4, _⟩ := cells5 XR.out
  go_wp2_with fail
  refine (HM.out.split false 4 0 64 80 4 true 4 [] 0 (by constructor <;> decide) (by constructor <;> decide) (by constructor <;> decide) (by constructor <;> decide) (by decide +kernel) (by decide +kernel) rfl).mono ?_
  rintro e w6 ⟨ua, uc, rfl, hq, hb⟩
  replace XR := hid_mk (XR.out.below hb)
  replace XP := hid_mk (XP.out.below hb)
  replace HM := hid_mk (HM.out.below hb)
  replace HB := hid_mk (below_then HB.out hb)
  clear hb
  clear hq
  clear XRl XR0 XR1 XR2 XR3 XR4
  obtain ⟨XRl, XR0, XR1, XR2, XR3, XR4, _⟩ := cells5 XR.out
  go_wp2_with fail
  refine (HM.out.split false 4 0 64 80 (-1) true 4 [] 0 (by constructor <;> decide) (by constructor <;> decide) (by constructor <;> decide) (by constructor <;> decide) (by decide +kernel) (by decide +kernel) rfl).mono ?_
  rintro e w7 ⟨va, vc, rfl, hq, hb⟩
  replace XR := hid_mk (XR.out.below hb)
  replace XP := hid_mk (XP.out.below hb)
  replace HM := hid_mk (HM.out.below hb)
  replace HB := hid_mk (below_then HB.out hb)
  clear hb
  clear hq
  clear XRl XR0 XR1 XR2 XR3 XR4
  obtain ⟨XRl, XR0, XR1, XR2, XR3, XR4, _⟩ := cells5 XR.out
  go_wp2_with fail
  refine (HM.out.packed false 4 0 64 80 0 false true 0 0 2 [] 0 (by constructor <;> decide) (by constructor <;> decide) (by constructor <;> decide) (by decide +kernel) (by decide +kernel) (by decide +kernel) (by decide +kernel) rfl).mono ?_
  rintro e w8 ⟨xa, xc, rfl, hq, hb⟩
  replace XR := hid_mk (XR.out.below hb)
  replace XP := hid_mk (XP.out.below hb)
  replace HM := hid_mk (HM.out.below hb)
  replace HB := hid_mk (below_then HB.out hb)
  clear hb
  clear hq
  clear XRl XR0 XR1 XR2 XR3 XR4
  have hbx := below_box w8 (.cells #[.int .i64 0, .int .i64 0, .slice xa 0 xc] 38)
  replace XR := hid_mk (XR.out.below hbx)
  replace XP := hid_mk (XP.out.below hbx)
  replace HM := hid_mk (HM.out.below hbx)
  replace HB := hid_mk (below_then HB.out hbx)
  clear hbx
  obtain ⟨XPl, XP0, XP1, XP2, XP3, XP4, _⟩ := cells5 XP.out
  go_wp2_with fail
  refine (HM.out.packed true 4 0 64 68 4 false true 0 0 2 [] 0 (by constructor <;> decide) (by constructor <;> decide) (by constructor <;> decide) (by decide +kernel) (by decide +kernel) (by decide +kernel) (by decide +kernel) rfl).mono ?_
  rintro e w9 ⟨ya, yc, rfl, hq, hb⟩
  replace XR := hid_mk (XR.out.below hb)
  replace XP := hid_mk (XP.out.below hb)
  replace HM := hid_mk (HM.out.below hb)
  replace HB := hid_mk (below_then HB.out hb)
  clear hb
  clear hq
  clear XPl XP0 XP1 XP2 XP3 XP4
  have hbx := below_box w9 (.cells #[.int .i64 0, .int .i64 0, .slice ya 0 yc] 38)
  replace XR := hid_mk (XR.out.below hbx)
  replace XP := hid_mk (XP.out.below hbx)
  replace HM := hid_mk (HM.out.below hbx)
  replace HB := hid_mk (below_then HB.out hbx)
  clear hbx
  go_wp2_with fail
  refine (rbytes_any ⟨512, 16, 4, 0⟩ _ ⟨by decide, by decide, by decide, by decide⟩).mono ?_
  rintro e w10 ⟨bv, rfl, hob, hb⟩
  replace XR := hid_mk (XR.out.below hb)
  replace XP := hid_mk (XP.out.below hb)
  replace HM := hid_mk (HM.out.below hb)
  replace HB := hid_mk (below_then HB.out hb)
  clear hb
  have HNB := hid_mk (newBytes_of hob)
  clear hob
  go_wp2_with fail
  refine (HM.out.write 0 _ _ (by constructor <;> decide) HNB.out.at (dB_bytes _) (by rw [dB_length]; decide)).mono ?_
  rintro e w11 ⟨rfl, hm, hk⟩
  replace XR := hid_mk (hk.at XR.out (by decide))
  replace XP := hid_mk (hk.at XP.out (by decide))
  replace HM : Hid (MdS w p ib qb R1k wn1 w11) := hid_mk hm
  replace HB := hid_mk (HM.out.old)
  clear HNB hm hk
  go_wp2_with fail
  refine (rbytes_any ⟨300, 7, 2, 0⟩ _ ⟨by decide, by decide, by decide, by decide⟩).mono ?_
  rintro e w12 ⟨bv, rfl, hob, hb⟩
  replace XR := hid_mk (XR.out.below hb)
  replace XP := hid_mk (XP.out.below hb)
  replace HM := hid_mk (HM.out.below hb)
  replace HB := hid_mk (below_then HB.out hb)
  clear hb
  have HNB := hid_mk (newBytes_of hob)
  clear hob
  go_wp2_with fail
  refine (HM.out.write 512 _ _ (by constructor <;> decide) HNB.out.at (dB_bytes _) (by rw [dB_length]; decide)).mono ?_
  rintro e w13 ⟨rfl, hm, hk⟩
  replace XR := hid_mk (hk.at XR.out (by decide))
  replace XP := hid_mk (hk.at XP.out (by decide))
  replace HM : Hid (MdS w p ib qb R1k wn2 w13) := hid_mk hm
  replace HB := hid_mk (HM.out.old)
  clear HNB hm hk
  obtain ⟨XRl, XR0, XR1, XR2, XR3, XR4, _⟩ := cells5 XR.out
  go_wp2_with fail
  refine (HM.out.split false 4 0 64 80 0 true 0 [⟨300, 7, true⟩] 1 (by constructor <;> decide) (by constructor <;> decide) (by constructor <;> decide) (by constructor <;> decide) (by decide +kernel) (by decide +kernel) rfl).mono ?_
  rintro e w14 ⟨za, zc, rfl, hq, hb⟩
  replace XR := hid_mk (XR.out.below hb)
  replace XP := hid_mk (XP.out.below hb)
  replace HM := hid_mk (HM.out.below hb)
  replace HB := hid_mk (below_then HB.out hb)
  have HT := hid_mk (hq)
  clear hb hq
  clear XRl XR0 XR1 XR2 XR3 XR4
  obtain ⟨XRl, XR0, XR1, XR2, XR3, XR4, _⟩ := cells5 XR.out
  go_wp2_with fail
  refine (HM.out.split false 4 0 64 80 0 false 4 [] 0 (by constructor <;> decide) (by constructor <;> decide) (by constructor <;> decide) (by constructor <;> decide) (by decide +kernel) (by decide +kernel) rfl).mono ?_
  rintro e w15 ⟨na, nc, rfl, hq, hb⟩
  replace XR := hid_mk (XR.out.below hb)
  replace XP := hid_mk (XP.out.below hb)
  replace HM := hid_mk (HM.out.below hb)
  replace HT := hid_mk (HT.out.below hb)
  replace HB := hid_mk (below_then HB.out hb)
  clear hb
  clear hq
  clear XRl XR0 XR1 XR2 XR3 XR4
  go_wp2_with fail
  refine (lives10_any _).mono ?_
  rintro e w16 ⟨rfl, hb⟩
  replace XR := hid_mk (XR.out.below hb)
  replace XP := hid_mk (XP.out.below hb)
  replace HM := hid_mk (HM.out.below hb)
  replace HT := hid_mk (HT.out.below hb)
  replace HB := hid_mk (below_then HB.out hb)
  clear hb
  go_wp2_with fail
  have hbx := below_box w16 (.cells (segCells [⟨300, 7, true⟩]).toArray 53)
  replace XR := hid_mk (XR.out.below hbx)
  replace XP := hid_mk (XP.out.below hbx)
  replace HM := hid_mk (HM.out.below hbx)
  replace HT := hid_mk (HT.out.below hbx)
  replace HB := hid_mk (below_then HB.out hbx)
  have HL := hid_mk (segs_lit10 w16 [⟨300, 7, true⟩] 53)
  clear hbx
  refine (ksame10 _ _ [⟨300, 7, true⟩] [⟨300, 7, true⟩] _ HT.out HL.out (by decide) rfl).mono ?_
  rintro e w17 ⟨rfl, hb⟩
  replace XR := hid_mk (XR.out.below hb)
  replace XP := hid_mk (XP.out.below hb)
  replace HM := hid_mk (HM.out.below hb)
  replace HT := hid_mk (HT.out.below hb)
  replace HL := hid_mk (HL.out.below hb)
  replace HB := hid_mk (below_then HB.out hb)
  clear hb
  obtain ⟨XRl, XR0, XR1, XR2, XR3, XR4, _⟩ := cells5 XR.out
  go_wp2_with fail
  refine (HM.out.reads false 4 0 64 80 0 true 2 (by constructor <;> decide) (by constructor <;> decide) (by constructor <;> decide) (by constructor <;> decide) (by decide +kernel)).mono ?_
  rintro e w18 ⟨rfl, hb⟩
  replace XR := hid_mk (XR.out.below hb)
  replace XP := hid_mk (XP.out.below hb)
  replace HM := hid_mk (HM.out.below hb)
  replace HT := hid_mk (HT.out.below hb)
  replace HL := hid_mk (HL.out.below hb)
  replace HB := hid_mk (below_then HB.out hb)
  clear hb
  clear XRl XR0 XR1 XR2 XR3 XR4
  obtain ⟨XRl, XR0, XR1, XR2, XR3, XR4, _⟩ := cells5 XR.out
  go_wp2_with fail
  refine (HM.out.reads false 4 0 64 80 4 true 0 (by constructor <;> decide) (by constructor <;> decide) (by constructor <;> decide) (by constructor <;> decide) (by decide +kernel)).mono ?_
  rintro e w19 ⟨rfl, hb⟩
  replace XR := hid_mk (XR.out.below hb)
  replace XP := hid_mk (XP.out.below hb)
  replace HM := hid_mk (HM.out.below hb)
  replace HT := hid_mk (HT.out.below hb)
  replace HL := hid_mk (HL.out.below hb)
  replace HB := hid_mk (below_then HB.out hb)
  clear hb
  clear XRl XR0 XR1 XR2 XR3 XR4
  obtain ⟨XRl, XR0, XR1, XR2, XR3, XR4, _⟩ := cells5 XR.out
  go_wp2_with fail
  refine (wkreads_nil false 4 0 64 80 0 true _).mono ?_
  rintro e w20 ⟨rfl, hb⟩
  replace XR := hid_mk (XR.out.below hb)
  replace XP := hid_mk (XP.out.below hb)
  replace HM := hid_mk (HM.out.below hb)
  replace HT := hid_mk (HT.out.below hb)
  replace HL := hid_mk (HL.out.below hb)
  replace HB := hid_mk (below_then HB.out hb)
  clear hb
  clear XRl XR0 XR1 XR2 XR3 XR4
  go_wp2_with fail
  go_ret
  exact ⟨rfl, HB.out⟩

/-! ### the row's frame -/
theorem own : ownKnob Try.prog.godebug = none := by kernel_rfl
theorem laidOut : laidOutB Try.prog = true := by kernel_rfl

set_option maxRecDepth 100000 in
theorem lifted (os : Os) (started : os.Started) (H : Type) (enc : TypeId × Value → H) :
    ReturnsInHanded {} Try.checked os 3 .any (Rows.walkNamesSpec.pre6 enc Try.prog Try.f3 Rows.walkNamesRow.domain false) (Rows.walkNamesSpec.post enc Try.prog Try.f3 false true false false) := by
  refine returnsInHanded_of_change (C := Try.checked) own started (by kernel_rfl) Try.func3
    (ChangeSpec.witness6 (enc := enc) (C := Try.checked) false ⟨#[], #[], []⟩ 8 (by kernel_rfl) (by kernel_rfl) (by kernel_rfl) (by kernel_rfl)) ?_
  intro W base args ds gs before hval0 hW hcnd _
  have hval : ∀ (j : Nat) t v, Try.f3.params[j]? = some t → args[j]? = some v → Value.okWide Try.prog W .any base t v := hval0
  have hW' := hW
  obtain ⟨p, q, hA0, hV, rfl, hfz, hnd⟩ := hW
  have hA : DataW.TrodAll enc Try.prog W 0 (fun _ => true) true Try.f3.params.toList args.toList ds p := hA0
  rw [Try.params3] at hA hval
  obtain ⟨hargs, rfl, rfl⟩ := trodAll_nil hA
  obtain rfl : args = #[] := by cases args; simp_all
  obtain ⟨rfl, rfl⟩ := trodVars_none hV
  clear hA0 hval0
  refine (walk W).mono fun e W' ⟨he, bel⟩ => ?_
  subst he
  exact ⟨_, rfl, _, _, _, [], _, [], hW', trodAll_mk1 (shut_bool Try.underlying4 _), trodAll_mk0, rfl, bel.frame _, fun h => by cases h⟩

theorem over : Rows.walkNamesRow.holds Try.pinned (OpenSpec.ofChange Rows.walkNamesSpec) :=
  OpenClaim.holds_of_wide 3 Try.f3 rfl rfl rfl rfl rfl rfl rfl ⟨rfl, rfl, rfl, rfl, rfl⟩ rfl rfl rfl rfl rfl (by kernel_rfl) Try.func3 (by kernel_rfl)
    (of_decide_eq_true (by kernel_rfl)) (by unfold Func.isWrapper; first | (rw [if_pos (by decide +kernel)]; kernel_rfl) | (rw [if_neg (by decide +kernel)]; exact ⟨rfl, rfl⟩))
    (fun os started H enc _ => lifted os started H enc)

/-- THE STATEMENT -/
theorem walkNames_holds : Rows.WalkNamesSaid := over
#print axioms walkNames_holds
end Go.Proofs.Ytfhhgcgbgmilcaa.walkNames
