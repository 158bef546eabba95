/- GmemHolds where its inputs are not gone through: it returns true. Conditions: as each theorem names them. -/
import Derived.Test.YtigdolohdehcdaaMp
import Derived.Deep.RegionHeld3
namespace Go.Proofs.Ytigdolohdehcdaa.gmemHolds
open Go.ChangeShapes Go.WideShapes Go.ChangeAt Go.RowKit
set_option linter.unusedVariables false

set_option maxRecDepth 100000 in
set_option maxHeartbeats 8000000 in
theorem walk_light (w : World) (va vb : Option Addr) (vc vd : Nat) (L : List (Int × Int)) (hv0 : RegsAt w (.slice va L.length vc) L) (hb0 : isRegs L) (A : List ActT) (hv1 : ActsAt w (.slice vb A.length vd) A) (hb1 : isActs w A) (c1 : lightB L 20000 = false) :
    Calls Try.prog 6 #[.slice va L.length vc, .slice vb A.length vd] w fun e w' => e = .returned (.bool true) ∧ Below w.heap.size w w' := by
  have HV0 := hid_mk hv0
  have HU0 := hid_mk hb0
  have HV1 := hid_mk hv1
  have HU1 := hid_mk hb1
  have HBX := hid_mk ((Below.refl w.heap.size w).alloc (Nat.le_refl _) (.cells #[.slice va L.length vc] 29))
  have HLT : Hid (w.heap.size < (w.alloc (.cells #[.slice va L.length vc] 29)).heap.size) := hid_mk (by rw [sizeA]; omega)
  have hlb : (w.alloc (.cells #[.slice va L.length vc] 29)).cell? ⟨w.heap.size, 0, none⟩ = some (.slice va L.length vc) := by go_simp
  have HL := hid_mk c1
  clear c1
  clear hv0 hb0 hv1 hb1
  go_enter Try.func6, Try.ntmps6
  go_wp2_with fail
  refine (lives_any _).mono ?_
  rintro e w1 ⟨rfl, hb⟩
  have hl1 := (hb.cell (p := ⟨w.heap.size, 0, none⟩) HLT.out).trans hlb
  have B1 := hid_mk (HBX.out.trans (hb.mono (by rw [sizeA]; omega)))
  clear hb
  go_wp2_with fail
  refine (light_any _ L 20000 _ (HV0.out.below B1.out) HU0.out).mono ?_
  rw [HL.out]
  rintro e w' ⟨rfl, rfl⟩
  go_wp2_with fail
  go_ret
  exact ⟨rfl, B1.out⟩

set_option maxRecDepth 100000 in
set_option maxHeartbeats 8000000 in
theorem walk_small (w : World) (va vb : Option Addr) (vc vd : Nat) (L : List (Int × Int)) (hv0 : RegsAt w (.slice va L.length vc) L) (hb0 : isRegs L) (A : List ActT) (hv1 : ActsAt w (.slice vb A.length vd) A) (hb1 : isActs w A) (c1 : lightB L 20000 = true) (c2 : smallB A = false) :
    Calls Try.prog 6 #[.slice va L.length vc, .slice vb A.length vd] w fun e w' => e = .returned (.bool true) ∧ Below w.heap.size w w' := by
  have HV0 := hid_mk hv0
  have HU0 := hid_mk hb0
  have HV1 := hid_mk hv1
  have HU1 := hid_mk hb1
  have HBX := hid_mk ((Below.refl w.heap.size w).alloc (Nat.le_refl _) (.cells #[.slice va L.length vc] 29))
  have HLT : Hid (w.heap.size < (w.alloc (.cells #[.slice va L.length vc] 29)).heap.size) := hid_mk (by rw [sizeA]; omega)
  have hlb : (w.alloc (.cells #[.slice va L.length vc] 29)).cell? ⟨w.heap.size, 0, none⟩ = some (.slice va L.length vc) := by go_simp
  have HL := hid_mk c1
  have HS := hid_mk c2
  clear c1 c2
  clear hv0 hb0 hv1 hb1
  go_enter Try.func6, Try.ntmps6
  go_wp2_with fail
  refine (lives_any _).mono ?_
  rintro e w1 ⟨rfl, hb⟩
  have hl1 := (hb.cell (p := ⟨w.heap.size, 0, none⟩) HLT.out).trans hlb
  have B1 := hid_mk (HBX.out.trans (hb.mono (by rw [sizeA]; omega)))
  clear hb
  go_wp2_with fail
  refine (light_any _ L 20000 _ (HV0.out.below B1.out) HU0.out).mono ?_
  rw [HL.out]
  rintro e w' ⟨rfl, rfl⟩
  go_wp2_with fail
  refine (small_any _ A _ (HV1.out.below B1.out) (HU1.out.below B1.out)).mono ?_
  rw [HS.out]
  rintro e w' ⟨rfl, rfl⟩
  go_wp2_with fail
  go_ret
  exact ⟨rfl, B1.out⟩

set_option maxRecDepth 100000 in
set_option maxHeartbeats 8000000 in
theorem walk_chk (w : World) (va vb : Option Addr) (vc vd : Nat) (L : List (Int × Int)) (hv0 : RegsAt w (.slice va L.length vc) L) (hb0 : isRegs L) (A : List ActT) (hv1 : ActsAt w (.slice vb A.length vd) A) (hb1 : isActs w A) (c1 : lightB L 20000 = true) (c2 : smallB A = true) (c3 : chkE L = 2) (hm : L.length ≤ 40) :
    Calls Try.prog 6 #[.slice va L.length vc, .slice vb A.length vd] w fun e w' => e = .returned (.bool true) ∧ Below w.heap.size w w' := by
  have HV0 := hid_mk hv0
  have HU0 := hid_mk hb0
  have HV1 := hid_mk hv1
  have HU1 := hid_mk hb1
  have HBX := hid_mk ((Below.refl w.heap.size w).alloc (Nat.le_refl _) (.cells #[.slice va L.length vc] 29))
  have HLT : Hid (w.heap.size < (w.alloc (.cells #[.slice va L.length vc] 29)).heap.size) := hid_mk (by rw [sizeA]; omega)
  have hlb : (w.alloc (.cells #[.slice va L.length vc] 29)).cell? ⟨w.heap.size, 0, none⟩ = some (.slice va L.length vc) := by go_simp
  have HL := hid_mk c1
  have HS := hid_mk c2
  have HC3 := hid_mk c3
  have HM := hid_mk hm
  clear c1 c2 c3 hm
  clear hv0 hb0 hv1 hb1
  go_enter Try.func6, Try.ntmps6
  go_wp2_with fail
  refine (lives_any _).mono ?_
  rintro e w1 ⟨rfl, hb⟩
  have hl1 := (hb.cell (p := ⟨w.heap.size, 0, none⟩) HLT.out).trans hlb
  have B1 := hid_mk (HBX.out.trans (hb.mono (by rw [sizeA]; omega)))
  clear hb
  go_wp2_with fail
  refine (light_any _ L 20000 _ (HV0.out.below B1.out) HU0.out).mono ?_
  rw [HL.out]
  rintro e w' ⟨rfl, rfl⟩
  go_wp2_with fail
  refine (small_any _ A _ (HV1.out.below B1.out) (HU1.out.below B1.out)).mono ?_
  rw [HS.out]
  rintro e w' ⟨rfl, rfl⟩
  go_wp2_with fail
  refine (check_any _ L _ (HV0.out.below B1.out) HU0.out (by have := HM.out; omega)).mono ?_
  rw [HC3.out]
  rintro e w2 ⟨rfl, hb⟩
  have B2 := hid_mk (below_then B1.out hb)
  clear hb
  go_wp2_with fail
  go_ret
  exact ⟨rfl, B2.out⟩


end Go.Proofs.Ytigdolohdehcdaa.gmemHolds
