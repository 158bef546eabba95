/- GmemScript where its inputs are not gone through, or the regions are not valid: it returns true. Conditions: as each theorem names them. -/
import Derived.Test.YtfjccpalkdmniaaRf10
import Derived.Test.YtfjccpalkdmniaaAct2
namespace Go.Proofs.Ytfjccpalkdmniaa.gmemScript
open Go.ChangeShapes Go.WideShapes Go.ChangeAt Go.RowKit
set_option linter.unusedVariables false
set_option maxRecDepth 100000

set_option maxHeartbeats 4000000 in
theorem walk_light (w : World) (va vb : Option Addr) (vc vd : Nat) (L : List (Int × Int)) (hv0 : RegsAt w (.slice va L.length vc) L) (hb0 : isRegs L) (A : List ActT) (c1 : lightB L 20000 = false) :
    Calls Try.prog 3 #[.slice va L.length vc, .slice vb A.length vd] w fun e w' => e = .returned (.bool true) ∧ Below w.heap.size w w' := by
  have HV0 := hid_mk hv0
  have HU0 := hid_mk hb0
  have HL := hid_mk c1
  clear c1 hv0 hb0
  go_enter Try.func3, Try.ntmps3
  go_wp2_with fail
  refine (lives_any _).mono ?_
  rintro e w1 ⟨rfl, hb⟩
  have B1 := hid_mk hb
  clear hb
  go_wp2_with fail
  refine (light_any _ L 20000 _ (HV0.out.below B1.out) HU0.out).mono ?_
  rw [HL.out]
  rintro e w' ⟨rfl, rfl⟩
  go_wp2_with fail
  go_ret
  exact ⟨rfl, B1.out⟩

set_option maxHeartbeats 4000000 in
theorem walk_small (w : World) (va vb : Option Addr) (vc vd : Nat) (L : List (Int × Int)) (hv0 : RegsAt w (.slice va L.length vc) L) (hb0 : isRegs L) (A : List ActT) (hv1 : ActsAt w (.slice vb A.length vd) A) (hb1 : isActs w A) (c1 : lightB L 20000 = true) (c2 : smallB A = false) :
    Calls Try.prog 3 #[.slice va L.length vc, .slice vb A.length vd] w fun e w' => e = .returned (.bool true) ∧ Below w.heap.size w w' := by
  have HV0 := hid_mk hv0
  have HU0 := hid_mk hb0
  have HV1 := hid_mk hv1
  have HU1 := hid_mk hb1
  have HL := hid_mk c1
  have HS := hid_mk c2
  clear c1 c2 hv0 hb0 hv1 hb1
  go_enter Try.func3, Try.ntmps3
  go_wp2_with fail
  refine (lives_any _).mono ?_
  rintro e w1 ⟨rfl, hb⟩
  have B1 := hid_mk hb
  clear hb
  go_wp2_with fail
  refine (light_any _ L 20000 _ (HV0.out.below B1.out) HU0.out).mono ?_
  rw [HL.out]
  rintro e w' ⟨rfl, rfl⟩
  go_wp2_with fail
  refine (small_any _ A _ (HV1.out.below B1.out) (HU1.out.below B1.out)).mono ?_
  rw [HS.out]
  rintro e w' ⟨rfl, rfl⟩
  go_wp2_with fail
  go_ret
  exact ⟨rfl, B1.out⟩

set_option maxHeartbeats 4000000 in
theorem walk_chk (w : World) (va vb : Option Addr) (vc vd : Nat) (L : List (Int × Int)) (hv0 : RegsAt w (.slice va L.length vc) L) (hb0 : isRegs L) (A : List ActT) (hv1 : ActsAt w (.slice vb A.length vd) A) (hb1 : isActs w A) (c1 : lightB L 20000 = true) (c2 : smallB A = true) (c3 : chkE L = 2) (hm : L.length ≤ 40) :
    Calls Try.prog 3 #[.slice va L.length vc, .slice vb A.length vd] w fun e w' => e = .returned (.bool true) ∧ Below w.heap.size w w' := by
  have HV0 := hid_mk hv0
  have HU0 := hid_mk hb0
  have HV1 := hid_mk hv1
  have HU1 := hid_mk hb1
  have HL := hid_mk c1
  have HS := hid_mk c2
  have HC := hid_mk c3
  have HM := hid_mk hm
  clear c1 c2 c3 hm hv0 hb0 hv1 hb1
  go_enter Try.func3, Try.ntmps3
  go_wp2_with fail
  refine (lives_any _).mono ?_
  rintro e w1 ⟨rfl, hb⟩
  have B1 := hid_mk hb
  clear hb
  go_wp2_with fail
  refine (light_any _ L 20000 _ (HV0.out.below B1.out) HU0.out).mono ?_
  rw [HL.out]
  rintro e w' ⟨rfl, rfl⟩
  go_wp2_with fail
  refine (small_any _ A _ (HV1.out.below B1.out) (HU1.out.below B1.out)).mono ?_
  rw [HS.out]
  rintro e w' ⟨rfl, rfl⟩
  go_wp2_with fail
  refine (kregs_any _ L _ (HV0.out.below B1.out) (by have := HM.out; omega)).mono ?_
  rintro e w3 ⟨v3, rfl, hr3, hb⟩
  have R3 := hid_mk hr3
  have B3 := hid_mk (below_then B1.out hb)
  clear hb hr3
  go_wp2_with fail
  refine (new_no v3 L _ R3.out HU0.out (by have := HM.out; omega) HC.out).mono ?_
  rintro e w4 ⟨rfl, hb⟩
  have B4 := hid_mk (below_then B3.out hb)
  clear hb
  go_wp2_with fail
  refine (rnew_no _ L _ (HV0.out.below B4.out) HU0.out (by have := HM.out; omega) (by rw [HC.out]; decide)).mono ?_
  rintro e w5 ⟨rfl, hb⟩
  have B5 := hid_mk (below_then B4.out hb)
  clear hb
  go_wp2_with fail
  refine (check_any _ L _ (HV0.out.below B5.out) HU0.out (by have := HM.out; omega)).mono ?_
  rw [HC.out]
  rintro e w6 ⟨rfl, hb⟩
  have B6 := hid_mk (below_then B5.out hb)
  clear hb
  go_wp2_with fail
  refine (check_any _ L _ (HV0.out.below B6.out) HU0.out (by have := HM.out; omega)).mono ?_
  rw [HC.out]
  rintro e w7 ⟨rfl, hb⟩
  have B7 := hid_mk (below_then B6.out hb)
  clear hb
  go_wp2_with fail
  go_ret
  exact ⟨rfl, B7.out⟩
end Go.Proofs.Ytfjccpalkdmniaa.gmemScript
