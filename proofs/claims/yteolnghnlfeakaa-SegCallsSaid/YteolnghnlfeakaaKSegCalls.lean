/-
  PROVED: dumbwaiterlaw05.SegCalls returns true for any regions, two lists of segments, bytes and numbers, and what was in memory stays as it was. Conditions: none.
-/
import Derived.Test.YteolnghnlfeakaaKp27
import Derived.Test.YteolnghnlfeakaaKp28
import Derived.Test.YteolnghnlfeakaaKp23
import Derived.Test.YteolnghnlfeakaaKp29
import Derived.Test.YteolnghnlfeakaaKp32
import Derived.Test.YteolnghnlfeakaaKp08
import Derived.Test.YteolnghnlfeakaaKp17
import Derived.Test.YteolnghnlfeakaaRows
import Derived.WalkKit
import Derived.ProofKit
import Derived.OpenShut
import Derived.ShutString
import Derived.ChangeOld
import Derived.Below
import Derived.Carry
import Derived.Lib.SmallJoins

namespace Go.Proofs.Yteolnghnlfeakaa.segCalls
open Go.ChangeShapes Go.WideShapes Go.ChangeAt Go.RowKit
set_option linter.unusedVariables false


set_option maxRecDepth 100000 in
set_option maxHeartbeats 1000000 in
theorem walk_light (w : World) (ra : Option Addr) (rc : Nat) (R : List (Int × Int)) (hv0 : RegsAt w (.slice ra R.length rc) R) (hb0 : isRegs R) (va vb vl : Option Addr) (vc vd vm nL nO nl : Nat) (f n : Int) (wr : Bool) (c1 : lightB R 20000 = false) :
    Calls Try.prog 4 #[.slice ra R.length rc, .slice va nL vc, .slice vb nO vd, .slice vl nl vm, .int .u64 f, .int .u64 n, .bool wr] w fun e w' => e = .returned (.bool true) ∧ Below w.heap.size w w' := by
  have HV0 := hid_mk hv0
  have HU0 := hid_mk hb0
  have HL := hid_mk c1
  clear c1
  clear hv0 hb0
  go_enter Try.func4, Try.ntmps4
  go_wp2_with fail
  refine (lives5_any _).mono ?_
  rintro e w1 ⟨rfl, hb⟩
  have B1 := hid_mk hb
  clear hb
  go_wp2_with fail
  refine (light_any _ R 20000 _ (HV0.out.below B1.out) HU0.out).mono ?_
  rw [HL.out]
  rintro e w' ⟨rfl, rfl⟩
  go_wp2_with fail
  go_ret
  exact ⟨rfl, B1.out⟩

set_option maxRecDepth 100000 in
set_option maxHeartbeats 1000000 in
theorem walk_L (w : World) (ra : Option Addr) (rc : Nat) (R : List (Int × Int)) (hv0 : RegsAt w (.slice ra R.length rc) R) (hb0 : isRegs R) (va vb vl : Option Addr) (vc vd vm nL nO nl : Nat) (f n : Int) (wr : Bool) (c1 : lightB R 20000 = true) (h1 : 100 < nL) :
    Calls Try.prog 4 #[.slice ra R.length rc, .slice va nL vc, .slice vb nO vd, .slice vl nl vm, .int .u64 f, .int .u64 n, .bool wr] w fun e w' => e = .returned (.bool true) ∧ Below w.heap.size w w' := by
  have HV0 := hid_mk hv0
  have HU0 := hid_mk hb0
  have HL := hid_mk c1
  have h1i : (100 : Int) < (nL : Int) := by omega
  clear c1 h1
  clear hv0 hb0
  go_enter Try.func4, Try.ntmps4
  go_wp2_with fail
  refine (lives5_any _).mono ?_
  rintro e w1 ⟨rfl, hb⟩
  have B1 := hid_mk hb
  clear hb
  go_wp2_with fail
  refine (light_any _ R 20000 _ (HV0.out.below B1.out) HU0.out).mono ?_
  rw [HL.out]
  rintro e w' ⟨rfl, rfl⟩
  go_wp2_with fail
  go_ret
  exact ⟨rfl, B1.out⟩

set_option maxRecDepth 100000 in
set_option maxHeartbeats 1000000 in
theorem walk_O (w : World) (ra : Option Addr) (rc : Nat) (R : List (Int × Int)) (hv0 : RegsAt w (.slice ra R.length rc) R) (hb0 : isRegs R) (va vb vl : Option Addr) (vc vd vm nL nO nl : Nat) (f n : Int) (wr : Bool) (c1 : lightB R 20000 = true) (h1 : nL ≤ 100) (h2 : 100 < nO) :
    Calls Try.prog 4 #[.slice ra R.length rc, .slice va nL vc, .slice vb nO vd, .slice vl nl vm, .int .u64 f, .int .u64 n, .bool wr] w fun e w' => e = .returned (.bool true) ∧ Below w.heap.size w w' := by
  have HV0 := hid_mk hv0
  have HU0 := hid_mk hb0
  have HL := hid_mk c1
  have h1i : (nL : Int) ≤ 100 := by omega
  have h2i : (100 : Int) < (nO : Int) := by omega
  clear c1 h1 h2
  clear hv0 hb0
  go_enter Try.func4, Try.ntmps4
  go_wp2_with fail
  refine (lives5_any _).mono ?_
  rintro e w1 ⟨rfl, hb⟩
  have B1 := hid_mk hb
  clear hb
  go_wp2_with fail
  refine (light_any _ R 20000 _ (HV0.out.below B1.out) HU0.out).mono ?_
  rw [HL.out]
  rintro e w' ⟨rfl, rfl⟩
  go_wp2_with fail
  go_ret
  exact ⟨rfl, B1.out⟩

set_option maxRecDepth 100000 in
set_option maxHeartbeats 1000000 in
theorem walk_b (w : World) (ra : Option Addr) (rc : Nat) (R : List (Int × Int)) (hv0 : RegsAt w (.slice ra R.length rc) R) (hb0 : isRegs R) (va vb vl : Option Addr) (vc vd vm nL nO nl : Nat) (f n : Int) (wr : Bool) (c1 : lightB R 20000 = true) (h1 : nL ≤ 100) (h2 : nO ≤ 100) (h3 : 20000 < nl) :
    Calls Try.prog 4 #[.slice ra R.length rc, .slice va nL vc, .slice vb nO vd, .slice vl nl vm, .int .u64 f, .int .u64 n, .bool wr] w fun e w' => e = .returned (.bool true) ∧ Below w.heap.size w w' := by
  have HV0 := hid_mk hv0
  have HU0 := hid_mk hb0
  have HL := hid_mk c1
  have h1i : (nL : Int) ≤ 100 := by omega
  have h2i : (nO : Int) ≤ 100 := by omega
  have h3i : (20000 : Int) < (nl : Int) := by omega
  clear c1 h1 h2 h3
  clear hv0 hb0
  go_enter Try.func4, Try.ntmps4
  go_wp2_with fail
  refine (lives5_any _).mono ?_
  rintro e w1 ⟨rfl, hb⟩
  have B1 := hid_mk hb
  clear hb
  go_wp2_with fail
  refine (light_any _ R 20000 _ (HV0.out.below B1.out) HU0.out).mono ?_
  rw [HL.out]
  rintro e w' ⟨rfl, rfl⟩
  go_wp2_with fail
  go_ret
  exact ⟨rfl, B1.out⟩

set_option maxRecDepth 100000 in
set_option maxHeartbeats 2000000 in
theorem walk_nil (w : World) (ra : Option Addr) (rc : Nat) (R : List (Int × Int)) (hv0 : RegsAt w (.slice ra R.length rc) R) (hb0 : isRegs R) (va vb vl : Option Addr) (vc vd vm : Nat) (L O : List Sg) (l : List Int) (hv1 : SegsAt w (.slice va L.length vc) L) (hu1 : isSgs L) (hv2 : SegsAt w (.slice vb O.length vd) O) (hu2 : isSgs O) (hv3 : BytesAt w (.slice vl l.length vm) l) (hlb : isBytes l) (f n : Int) (wr : Bool) (hf : U64 f) (hn : U64 n)
    (c1 : lightB R 20000 = true) (h1 : L.length ≤ 100) (h2 : O.length ≤ 100) (h3 : l.length ≤ 20000) (h40 : R.length ≤ 40) (hx : chkE R = 2) :
    Calls Try.prog 4 #[.slice ra R.length rc, .slice va L.length vc, .slice vb O.length vd, .slice vl l.length vm, .int .u64 f, .int .u64 n, .bool wr] w fun e w' => e = .returned (.bool true) ∧ Below w.heap.size w w' := by
  have HV0 := hid_mk hv0
  have HU0 := hid_mk hb0
  have HV1 := hid_mk hv1
  have HU1 := hid_mk hu1
  have HV2 := hid_mk hv2
  have HU2 := hid_mk hu2
  have HV3 := hid_mk hv3
  have HLB := hid_mk hlb
  have HF := hid_mk hf
  have HN := hid_mk hn
  have HL := hid_mk c1
  have h1i : (L.length : Int) ≤ 100 := by omega
  have h2i : (O.length : Int) ≤ 100 := by omega
  have h3i : (l.length : Int) ≤ 20000 := by omega
  have H3 := hid_mk (show l.length ≤ 1000000 from Nat.le_trans h3 (by decide))
  have H40 := hid_mk (show R.length ≤ 1000000 from Nat.le_trans h40 (by decide))
  obtain ⟨t0, ht0⟩ : ∃ x, totE false L = x := ⟨_, rfl⟩
  obtain ⟨t1, ht1⟩ : ∃ x, totE true L = x := ⟨_, rfl⟩
  obtain ⟨se, hse⟩ : ∃ x, segE L = x := ⟨_, rfl⟩
  obtain ⟨P, hP⟩ : ∃ x, partE wr L = x := ⟨_, rfl⟩
  obtain ⟨C, hC⟩ : ∃ x, cutE L f n = x := ⟨_, rfl⟩
  obtain ⟨so, hso⟩ : ∃ x, sameS L O = x := ⟨_, rfl⟩
  have hPl : P.length ≤ 1000 := by
    rw [← hP]
    exact Nat.le_trans partE_len (by decide)
  have hCl : C.length ≤ 1000 := by
    rw [← hC]
    unfold cutE
    split
    · exact Nat.le_trans (cutS_len L f n) (by omega)
    · simp
  have HT0 := hid_mk ht0
  have HT1 := hid_mk ht1
  have HSE := hid_mk hse
  have HP := hid_mk hP
  have HC := hid_mk hC
  have HSO := hid_mk hso
  have HPl := hid_mk hPl
  have HCl := hid_mk hCl
  have HLl := hid_mk (show L.length ≤ 1000 from Nat.le_trans h1 (by decide))
  have hne0 : (t0 != t0) = false := by simp
  have hne1 : (t1 != t1) = false := by simp
  have hne2 : (se != se) = false := by simp
  have hne3 : (so != so) = false := by simp
  have HX := hid_mk hx
  have HX2 := hid_mk (show chkE R ≠ 0 by rw [hx]; decide)
  clear hx
  clear hv0 hb0 hv1 hu1 hv2 hu2 hv3 hlb hf hn c1 h1 h2 h3 h40 ht0 ht1 hse hP hC hso hPl hCl
  go_enter Try.func4, Try.ntmps4
  go_wp2_with fail
  refine (lives5_any _).mono ?_
  rintro e w1 ⟨rfl, hb⟩
  have B1 := hid_mk hb
  clear hb
  go_wp2_with fail
  refine (light_any _ R 20000 _ (HV0.out.below B1.out) HU0.out).mono ?_
  rw [HL.out]
  rintro e w2 ⟨rfl, hs2⟩
  have hb : Below w1.heap.size w1 w2 := by
    rw [← hs2]
    exact Below.refl _ _
  clear hs2
  have B2 := hid_mk (below_then B1.out hb)
  clear hb
  go_wp2_with fail
  refine (kregs_any _ R _ (HV0.out.below B2.out) H40.out).mono ?_
  rintro e w3 ⟨v3, rfl, hr, hb⟩
  obtain ⟨x3, y3, rfl⟩ := hr.len
  have B3 := hid_mk (below_then B2.out hb)
  have Rg3 := hid_mk (hr)
  clear hb hr
  go_wp2_with fail
  refine (new_no _ R _ Rg3.out HU0.out (Nat.le_trans H40.out (by decide)) HX.out).mono ?_
  rintro e w4 ⟨rfl, hb⟩
  have B4 := hid_mk (below_then B3.out hb)
  have Rg4 := hid_mk (Rg3.out.below hb)
  clear hb
  go_wp2_with fail
  refine (rnew_no _ R _ (HV0.out.below B4.out) HU0.out (Nat.le_trans H40.out (by decide)) HX2.out).mono ?_
  rintro e w5 ⟨rfl, hb⟩
  have B5 := hid_mk (below_then B4.out hb)
  clear hb
  go_wp2_with fail
  refine (ptotal _ L _ (HV1.out.below B5.out) HU1.out).mono ?_
  rw [HT0.out, HT1.out]
  rintro e w6 ⟨rfl, hb⟩
  have B6 := hid_mk (below_then B5.out hb)
  clear hb
  go_wp2_with fail
  refine (rsegtot _ L _ (HV1.out.below B6.out) HU1.out).mono ?_
  rw [HT0.out, HT1.out]
  rintro e w7 ⟨rfl, m7, hm7⟩
  have hb : Below w6.heap.size w6 w7 := by
    rw [hm7]
    exact below_drewN _ _
  clear hm7
  have B7 := hid_mk (below_then B6.out hb)
  clear hb
  go_wp2_with fail
  refine (pcheck _ L _ (HV1.out.below B7.out) HU1.out).mono ?_
  rw [HSE.out]
  rintro e w8 ⟨rfl, hb⟩
  have B8 := hid_mk (below_then B7.out hb)
  clear hb
  go_wp2_with fail
  refine (rsegchk _ L _ (HV1.out.below B8.out) HU1.out).mono ?_
  rw [HSE.out]
  rintro e w9 ⟨rfl, m9, hm9⟩
  have hb : Below w8.heap.size w8 w9 := by
    rw [hm9]
    exact below_drewN _ _
  clear hm9
  have B9 := hid_mk (below_then B8.out hb)
  clear hb
  go_wp2_with fail
  refine (pin_nil _ _).mono ?_
  rintro e w10 ⟨rfl, hs10⟩
  have hb : Below w9.heap.size w9 w10 := by
    rw [← hs10]
    exact Below.refl _ _
  clear hs10
  have B10 := hid_mk (below_then B9.out hb)
  clear hb
  go_wp2_with fail
  refine (rsegin_nil _ _).mono ?_
  rintro e w11 ⟨rfl, hs11⟩
  have hb : Below w10.heap.size w10 w11 := by
    rw [← hs11]
    exact Below.refl _ _
  clear hs11
  have B11 := hid_mk (below_then B10.out hb)
  clear hb
  go_wp2_with fail
  refine (ppart _ wr L _ (HV1.out.below B11.out) HU1.out).mono ?_
  rw [HP.out]
  rintro e w12 ⟨v12, rfl, ho, hb⟩
  obtain ⟨x12, y12, rfl⟩ := ho.at.len
  have B12 := hid_mk (below_then B11.out hb)
  have Oa12 := hid_mk (ho.at)
  clear hb ho
  go_wp2_with fail
  refine (rsegpart _ wr L _ (HV1.out.below B12.out) HU1.out).mono ?_
  rw [HP.out]
  rintro e w13 ⟨v13, rfl, ho, hb⟩
  obtain ⟨x13, y13, rfl⟩ := ho.at.len
  have B13 := hid_mk (below_then B12.out hb)
  have Oa13 := hid_mk (Oa12.out.below hb)
  have Ob13 := hid_mk (ho.at)
  clear hb ho
  go_wp2_with fail
  refine (ksame_any _ _ P P _ Oa13.out Ob13.out HPl.out).mono ?_
  rw [sameS_self]
  rintro e w14 ⟨rfl, m14, hm14⟩
  have hb : Below w13.heap.size w13 w14 := by
    rw [hm14]
    exact below_drewN _ _
  clear hm14
  have B14 := hid_mk (below_then B13.out hb)
  have Oa14 := hid_mk (Oa13.out.below hb)
  have Ob14 := hid_mk (Ob13.out.below hb)
  clear hb
  go_wp2_with fail
  refine (pcut _ f n L _ (HV1.out.below B14.out) HU1.out HF.out HN.out).mono ?_
  rw [HC.out]
  rintro e w15 ⟨v15, rfl, ho, hb⟩
  obtain ⟨x15, y15, rfl⟩ := ho.at.len
  have B15 := hid_mk (below_then B14.out hb)
  have Oa15 := hid_mk (ho.at)
  clear hb ho
  go_wp2_with fail
  refine (rsegcut _ f n L _ (HV1.out.below B15.out) HU1.out HF.out HN.out).mono ?_
  rw [HC.out]
  rintro e w16 ⟨v16, rfl, ho, hb⟩
  obtain ⟨x16, y16, rfl⟩ := ho.at.len
  have B16 := hid_mk (below_then B15.out hb)
  have Oa16 := hid_mk (Oa15.out.below hb)
  have Ob16 := hid_mk (ho.at)
  clear hb ho
  go_wp2_with fail
  refine (ksame_any _ _ C C _ Oa16.out Ob16.out HCl.out).mono ?_
  rw [sameS_self]
  rintro e w17 ⟨rfl, m17, hm17⟩
  have hb : Below w16.heap.size w16 w17 := by
    rw [hm17]
    exact below_drewN _ _
  clear hm17
  have B17 := hid_mk (below_then B16.out hb)
  have Oa17 := hid_mk (Oa16.out.below hb)
  have Ob17 := hid_mk (Ob16.out.below hb)
  clear hb
  go_wp2_with fail
  refine (psame _ _ L O _ (HV1.out.below B17.out) (HV2.out.below B17.out) HLl.out).mono ?_
  rw [HSO.out]
  rintro e w18 ⟨rfl, m18, hm18⟩
  have hb : Below w17.heap.size w17 w18 := by
    rw [hm18]
    exact below_drewN _ _
  clear hm18
  have B18 := hid_mk (below_then B17.out hb)
  clear hb
  go_wp2_with fail
  refine (ksame_any _ _ L O _ (HV1.out.below B18.out) (HV2.out.below B18.out) HLl.out).mono ?_
  rw [HSO.out]
  rintro e w19 ⟨rfl, m19, hm19⟩
  have hb : Below w18.heap.size w18 w19 := by
    rw [hm19]
    exact below_drewN _ _
  clear hm19
  have B19 := hid_mk (below_then B18.out hb)
  clear hb
  go_wp2_with fail
  go_ret
  exact ⟨rfl, B19.out⟩

set_option maxRecDepth 100000 in
set_option maxHeartbeats 2000000 in
theorem walk_main (w : World) (ra : Option Addr) (rc : Nat) (R : List (Int × Int)) (hv0 : RegsAt w (.slice ra R.length rc) R) (hb0 : isRegs R) (va vb vl : Option Addr) (vc vd vm : Nat) (L O : List Sg) (l : List Int) (hv1 : SegsAt w (.slice va L.length vc) L) (hu1 : isSgs L) (hv2 : SegsAt w (.slice vb O.length vd) O) (hu2 : isSgs O) (hv3 : BytesAt w (.slice vl l.length vm) l) (hlb : isBytes l) (f n : Int) (wr : Bool) (hf : U64 f) (hn : U64 n)
    (c1 : lightB R 20000 = true) (h1 : L.length ≤ 100) (h2 : O.length ≤ 100) (h3 : l.length ≤ 20000) (h40 : R.length ≤ 40) (hx : R.length ≤ 16 ∧ okR (-1) 1048576 R = true) :
    Calls Try.prog 4 #[.slice ra R.length rc, .slice va L.length vc, .slice vb O.length vd, .slice vl l.length vm, .int .u64 f, .int .u64 n, .bool wr] w fun e w' => e = .returned (.bool true) ∧ Below w.heap.size w w' := by
  have HV0 := hid_mk hv0
  have HU0 := hid_mk hb0
  have HV1 := hid_mk hv1
  have HU1 := hid_mk hu1
  have HV2 := hid_mk hv2
  have HU2 := hid_mk hu2
  have HV3 := hid_mk hv3
  have HLB := hid_mk hlb
  have HF := hid_mk hf
  have HN := hid_mk hn
  have HL := hid_mk c1
  have h1i : (L.length : Int) ≤ 100 := by omega
  have h2i : (O.length : Int) ≤ 100 := by omega
  have h3i : (l.length : Int) ≤ 20000 := by omega
  have H3 := hid_mk (show l.length ≤ 1000000 from Nat.le_trans h3 (by decide))
  have H40 := hid_mk (show R.length ≤ 1000000 from Nat.le_trans h40 (by decide))
  obtain ⟨t0, ht0⟩ : ∃ x, totE false L = x := ⟨_, rfl⟩
  obtain ⟨t1, ht1⟩ : ∃ x, totE true L = x := ⟨_, rfl⟩
  obtain ⟨se, hse⟩ : ∃ x, segE L = x := ⟨_, rfl⟩
  obtain ⟨P, hP⟩ : ∃ x, partE wr L = x := ⟨_, rfl⟩
  obtain ⟨C, hC⟩ : ∃ x, cutE L f n = x := ⟨_, rfl⟩
  obtain ⟨so, hso⟩ : ∃ x, sameS L O = x := ⟨_, rfl⟩
  have hPl : P.length ≤ 1000 := by
    rw [← hP]
    exact Nat.le_trans partE_len (by decide)
  have hCl : C.length ≤ 1000 := by
    rw [← hC]
    unfold cutE
    split
    · exact Nat.le_trans (cutS_len L f n) (by omega)
    · simp
  have HT0 := hid_mk ht0
  have HT1 := hid_mk ht1
  have HSE := hid_mk hse
  have HP := hid_mk hP
  have HC := hid_mk hC
  have HSO := hid_mk hso
  have HPl := hid_mk hPl
  have HCl := hid_mk hCl
  have HLl := hid_mk (show L.length ≤ 1000 from Nat.le_trans h1 (by decide))
  have hne0 : (t0 != t0) = false := by simp
  have hne1 : (t1 != t1) = false := by simp
  have hne2 : (se != se) = false := by simp
  have hne3 : (so != so) = false := by simp
  have HX := hid_mk hx
  have HX0 := hid_mk (show chkE R = 0 by unfold chkE; rw [if_pos hx])
  have HXN : Hid (∀ j, j < R.length → 0 ≤ (at_ R j).2 ∧ (at_ R j).2 ≤ 1048576) := fun j hj => by
    have := okR_at hx.2 j hj
    omega
  obtain ⟨ie, hie⟩ : ∃ x, inE R L = x := ⟨_, rfl⟩
  obtain ⟨io, hio⟩ : ∃ x, inE R O = x := ⟨_, rfl⟩
  obtain ⟨sn, hsn⟩ : ∃ x, scatN R L l = x := ⟨_, rfl⟩
  obtain ⟨M2, hM2⟩ : ∃ x, scatM R (List.replicate (sumR R) 0) L l = x := ⟨_, rfl⟩
  obtain ⟨G, hG⟩ : ∃ x, gatL R M2 O = x := ⟨_, rfl⟩
  have HIE := hid_mk hie
  have HIO := hid_mk hio
  have HSN := hid_mk hsn
  have HM2 := hid_mk hM2
  have HG := hid_mk hG
  have hne4 : (ie != ie) = false := by simp
  have hbL : 0 < L.length → ∀ b o n c, (Value.slice va L.length vc) = .slice (some ⟨b, o, none⟩) n c → b < w.heap.size := fun h0 b o n c e => by
    rcases hv1 with ⟨_, hl⟩ | ⟨b', o', c', he, h2, _⟩
    · rw [hl] at h0
      exact absurd h0 (by simp)
    · cases he
      cases e
      exact h2
  have hbl : 0 < l.length → ∀ b o, vl = some ⟨b, o, none⟩ → b < w.heap.size := fun h0 b o e => by
    rcases hv3 with ⟨_, hl⟩ | ⟨b', o', c', he, h2, _⟩
    · rw [hl] at h0
      exact absurd h0 (by simp)
    · cases he
      cases e
      exact h2
  have HBL := hid_mk hbL
  have HBl := hid_mk hbl
  have hsz : sumR R ≤ 1048576 := by
    rcases okR_sum hx.2 with h | h
    · omega
    · rw [h]
      decide
  have HSz := hid_mk hsz
  clear hx hie hio hsn hM2 hG hbL hbl hsz
  clear hv0 hb0 hv1 hu1 hv2 hu2 hv3 hlb hf hn c1 h1 h2 h3 h40 ht0 ht1 hse hP hC hso hPl hCl
  go_enter Try.func4, Try.ntmps4
  go_wp2_with fail
  refine (lives5_any _).mono ?_
  rintro e w1 ⟨rfl, hb⟩
  have B1 := hid_mk hb
  clear hb
  go_wp2_with fail
  refine (light_any _ R 20000 _ (HV0.out.below B1.out) HU0.out).mono ?_
  rw [HL.out]
  rintro e w2 ⟨rfl, hs2⟩
  have hb : Below w1.heap.size w1 w2 := by
    rw [← hs2]
    exact Below.refl _ _
  clear hs2
  have B2 := hid_mk (below_then B1.out hb)
  clear hb
  go_wp2_with fail
  refine (kregs_any _ R _ (HV0.out.below B2.out) H40.out).mono ?_
  rintro e w3 ⟨v3, rfl, hr, hb⟩
  obtain ⟨x3, y3, rfl⟩ := hr.len
  have B3 := hid_mk (below_then B2.out hb)
  have Rg3 := hid_mk (hr)
  clear hb hr
  go_wp2_with fail
  refine (new_any _ R _ Rg3.out HU0.out (Nat.le_trans H40.out (by decide)) HX.out.2 HX.out.1).mono ?_
  rintro e w4 ⟨p, ib, qb, rfl, hm, ⟨g1, g2, g3⟩, hb⟩
  have gi : w.heap.size ≤ ib := Nat.le_trans B3.out.size g2
  have gl1 := lt_blk hm.obj
  have gl2 := lt_blk hm.img
  have gl3 := lt_blk hm.prt
  have GI := hid_mk gi
  have GL := hid_mk (And.intro gl1 (And.intro gl2 gl3))
  clear gi gl1 gl2 gl3
  have B4 := hid_mk (below_then B3.out hb)
  have Rg4 := hid_mk (Rg3.out.below hb)
  have Me4 := hid_mk (hm)
  clear hb hm g1 g2 g3
  go_wp2_with fail
  refine (rnew_any _ R _ (HV0.out.below B4.out) HU0.out HX.out.2 HX.out.1 HX0.out HXN.out).mono ?_
  rintro e w5 ⟨rp, lb, bb, cL, cB, aB, D, rfl, ⟨q1, q2, q3⟩, hr, hb⟩
  have GR := hid_mk (And.intro q1 (And.intro q2 q3))
  clear q1 q2 q3
  have GW := hid_mk B4.out.size
  have B5 := hid_mk (below_then B4.out hb)
  have Me5 := hid_mk (Me4.out.below hb)
  have Re5 := hid_mk (hr)
  clear hb hr
  generalize hbase : w4.heap.size = base at *
  clear hbase
  go_wp2_with fail
  refine (ptotal _ L _ (HV1.out.below B5.out) HU1.out).mono ?_
  rw [HT0.out, HT1.out]
  rintro e w6 ⟨rfl, hb⟩
  have B6 := hid_mk (below_then B5.out hb)
  have Me6 := hid_mk (Me5.out.below hb)
  have Re6 := hid_mk (Re5.out.below hb)
  clear hb
  go_wp2_with fail
  refine (rsegtot _ L _ (HV1.out.below B6.out) HU1.out).mono ?_
  rw [HT0.out, HT1.out]
  rintro e w7 ⟨rfl, m7, hm7⟩
  have hb : Below w6.heap.size w6 w7 := by
    rw [hm7]
    exact below_drewN _ _
  clear hm7
  have B7 := hid_mk (below_then B6.out hb)
  have Me7 := hid_mk (Me6.out.below hb)
  have Re7 := hid_mk (Re6.out.below hb)
  clear hb
  go_wp2_with fail
  refine (pcheck _ L _ (HV1.out.below B7.out) HU1.out).mono ?_
  rw [HSE.out]
  rintro e w8 ⟨rfl, hb⟩
  have B8 := hid_mk (below_then B7.out hb)
  have Me8 := hid_mk (Me7.out.below hb)
  have Re8 := hid_mk (Re7.out.below hb)
  clear hb
  go_wp2_with fail
  refine (rsegchk _ L _ (HV1.out.below B8.out) HU1.out).mono ?_
  rw [HSE.out]
  rintro e w9 ⟨rfl, m9, hm9⟩
  have hb : Below w8.heap.size w8 w9 := by
    rw [hm9]
    exact below_drewN _ _
  clear hm9
  have B9 := hid_mk (below_then B8.out hb)
  have Me9 := hid_mk (Me8.out.below hb)
  have Re9 := hid_mk (Re8.out.below hb)
  clear hb
  go_wp2_with fail
  refine (pin _ L p ib qb R _ _ (HV1.out.below B9.out) HU1.out Me9.out).mono ?_
  rw [HIE.out]
  rintro e w10 ⟨rfl, hb⟩
  have B10 := hid_mk (below_then B9.out hb)
  have Me10 := hid_mk (Me9.out.below hb)
  have Re10 := hid_mk (Re9.out.below hb)
  clear hb
  go_wp2_with fail
  refine (rsegin _ L base rp lb bb cL cB aB D R _ _ (HV1.out.below B10.out) HU1.out Re10.out).mono ?_
  rw [HIE.out]
  rintro e w11 ⟨rfl, hb⟩
  have B11 := hid_mk (below_then B10.out hb)
  have Me11 := hid_mk (Me10.out.below hb)
  have Re11 := hid_mk (Re10.out.below hb)
  clear hb
  go_wp2_with fail
  refine (ppart _ wr L _ (HV1.out.below B11.out) HU1.out).mono ?_
  rw [HP.out]
  rintro e w12 ⟨v12, rfl, ho, hb⟩
  obtain ⟨x12, y12, rfl⟩ := ho.at.len
  have B12 := hid_mk (below_then B11.out hb)
  have Me12 := hid_mk (Me11.out.below hb)
  have Re12 := hid_mk (Re11.out.below hb)
  have Oa12 := hid_mk (ho.at)
  clear hb ho
  go_wp2_with fail
  refine (rsegpart _ wr L _ (HV1.out.below B12.out) HU1.out).mono ?_
  rw [HP.out]
  rintro e w13 ⟨v13, rfl, ho, hb⟩
  obtain ⟨x13, y13, rfl⟩ := ho.at.len
  have B13 := hid_mk (below_then B12.out hb)
  have Me13 := hid_mk (Me12.out.below hb)
  have Re13 := hid_mk (Re12.out.below hb)
  have Oa13 := hid_mk (Oa12.out.below hb)
  have Ob13 := hid_mk (ho.at)
  clear hb ho
  go_wp2_with fail
  refine (ksame_any _ _ P P _ Oa13.out Ob13.out HPl.out).mono ?_
  rw [sameS_self]
  rintro e w14 ⟨rfl, m14, hm14⟩
  have hb : Below w13.heap.size w13 w14 := by
    rw [hm14]
    exact below_drewN _ _
  clear hm14
  have B14 := hid_mk (below_then B13.out hb)
  have Me14 := hid_mk (Me13.out.below hb)
  have Re14 := hid_mk (Re13.out.below hb)
  have Oa14 := hid_mk (Oa13.out.below hb)
  have Ob14 := hid_mk (Ob13.out.below hb)
  clear hb
  go_wp2_with fail
  refine (pcut _ f n L _ (HV1.out.below B14.out) HU1.out HF.out HN.out).mono ?_
  rw [HC.out]
  rintro e w15 ⟨v15, rfl, ho, hb⟩
  obtain ⟨x15, y15, rfl⟩ := ho.at.len
  have B15 := hid_mk (below_then B14.out hb)
  have Me15 := hid_mk (Me14.out.below hb)
  have Re15 := hid_mk (Re14.out.below hb)
  have Oa15 := hid_mk (ho.at)
  clear hb ho
  go_wp2_with fail
  refine (rsegcut _ f n L _ (HV1.out.below B15.out) HU1.out HF.out HN.out).mono ?_
  rw [HC.out]
  rintro e w16 ⟨v16, rfl, ho, hb⟩
  obtain ⟨x16, y16, rfl⟩ := ho.at.len
  have B16 := hid_mk (below_then B15.out hb)
  have Me16 := hid_mk (Me15.out.below hb)
  have Re16 := hid_mk (Re15.out.below hb)
  have Oa16 := hid_mk (Oa15.out.below hb)
  have Ob16 := hid_mk (ho.at)
  clear hb ho
  go_wp2_with fail
  refine (ksame_any _ _ C C _ Oa16.out Ob16.out HCl.out).mono ?_
  rw [sameS_self]
  rintro e w17 ⟨rfl, m17, hm17⟩
  have hb : Below w16.heap.size w16 w17 := by
    rw [hm17]
    exact below_drewN _ _
  clear hm17
  have B17 := hid_mk (below_then B16.out hb)
  have Me17 := hid_mk (Me16.out.below hb)
  have Re17 := hid_mk (Re16.out.below hb)
  have Oa17 := hid_mk (Oa16.out.below hb)
  have Ob17 := hid_mk (Ob16.out.below hb)
  clear hb
  go_wp2_with fail
  refine (psame _ _ L O _ (HV1.out.below B17.out) (HV2.out.below B17.out) HLl.out).mono ?_
  rw [HSO.out]
  rintro e w18 ⟨rfl, m18, hm18⟩
  have hb : Below w17.heap.size w17 w18 := by
    rw [hm18]
    exact below_drewN _ _
  clear hm18
  have B18 := hid_mk (below_then B17.out hb)
  have Me18 := hid_mk (Me17.out.below hb)
  have Re18 := hid_mk (Re17.out.below hb)
  clear hb
  go_wp2_with fail
  refine (ksame_any _ _ L O _ (HV1.out.below B18.out) (HV2.out.below B18.out) HLl.out).mono ?_
  rw [HSO.out]
  rintro e w19 ⟨rfl, m19, hm19⟩
  have hb : Below w18.heap.size w18 w19 := by
    rw [hm19]
    exact below_drewN _ _
  clear hm19
  have B19 := hid_mk (below_then B18.out hb)
  have Me19 := hid_mk (Me18.out.below hb)
  have Re19 := hid_mk (Re18.out.below hb)
  clear hb
  go_wp2_with fail
  refine (ksegs_any _ L _ (HV1.out.below B19.out) HLl.out).mono ?_
  rintro e w20 ⟨v20, rfl, ho, hb⟩
  obtain ⟨xS, yS, rfl⟩ := ho.at.len
  have B20 := hid_mk (below_then B19.out hb)
  have Me20 := hid_mk (Me19.out.below hb)
  have Re20 := hid_mk (Re19.out.below hb)
  have Sl20 := hid_mk (ho.at)
  clear hb ho
  go_wp2_with fail
  refine (own_any _ l _ (HV3.out.below B20.out) H3.out).mono ?_
  rintro e w21 ⟨v21, rfl, hnb, hb⟩
  obtain ⟨xB, yB, rfl⟩ := newBytes_len hnb
  have hxB : ∀ b o, xB = some ⟨b, o, none⟩ → b ≠ ib := fun b o e => by
    have hib := lt_blk Me20.out.img
    rcases hnb with ⟨he, _⟩ | ⟨b', c', he, h2, _⟩
    · injection he with e1
      rw [e1] at e
      cases e
    · injection he with e1
      rw [e1] at e
      cases e
      omega
  have HXB := hid_mk hxB
  clear hxB
  have B21 := hid_mk (below_then B20.out hb)
  have Me21 := hid_mk (Me20.out.below hb)
  have Re21 := hid_mk (Re20.out.below hb)
  have Sl21 := hid_mk (Sl20.out.below hb)
  have By21 := hid_mk (hnb.at)
  clear hb hnb
  go_wp2_with fail
  refine (pscat _ L xB yB l p ib qb R _ _ Sl21.out HU1.out By21.out HLB.out H3.out Me21.out HXB.out).mono ?_
  rw [HSN.out, HIE.out, HM2.out]
  rintro e w22 ⟨rfl, hm, hc⟩
  have B22 := hid_mk (hc.since1 B21.out GI.out)
  have Me22 := hid_mk hm
  have hre : IsRef w22 base rp lb bb cL cB aB D R (List.replicate (sumR R) 0) := by
    have h := Re21.out
    have h1 := GL.out
    have h2 := GR.out
    refine h.keep hc (fun e => by omega) (fun h0 => ⟨fun e => by omega, fun e => by have := h2.2.2 h0; omega⟩) (fun q hq e => by have := (h.ne q hq).2.2.2; omega)
  have Re22 := hid_mk hre
  clear hm hc hre
  go_wp2_with fail
  refine (rsegscat _ L vl vm l base rp lb bb cL cB aB D R _ _ (HV1.out.below B22.out) HU1.out (HV3.out.below B22.out) HLB.out H3.out Re22.out (fun h b o n c e => Nat.lt_of_lt_of_le (HBL.out h b o n c e) GW.out) (fun h b o e => Nat.lt_of_lt_of_le (HBl.out h b o e) GW.out)).mono ?_
  rw [HSN.out, HIE.out, HM2.out]
  rintro e w23 ⟨rfl, hr, hc⟩
  have Re23 := hid_mk hr
  have hme : IsMem w23 p ib qb R M2 := by
    have h1 := GL.out
    have hh := Re22.out
    refine Me22.out.keep hc ?_ ?_ ?_
    · rintro ⟨q, hq, e⟩
      have := (hh.ne q hq).2.2.2
      omega
    · rintro ⟨q, hq, e⟩
      have := (hh.ne q hq).2.2.2
      omega
    · rintro ⟨q, hq, e⟩
      have := (hh.ne q hq).2.2.2
      omega
  have Me23 := hid_mk hme
  have hbk : Below w.heap.size w w23 := hc.since B22.out (fun b hbp => by
    obtain ⟨q, hq, e⟩ := hbp
    have := (Re22.out.ne q hq).2.2.2
    have := GW.out
    omega)
  have B23 := hid_mk hbk
  clear hr hc hme hbk
  go_wp2_with fail
  refine (pgat _ O p ib qb R _ _ (HV2.out.below B23.out) HU2.out Me23.out).mono ?_
  rw [HIO.out, HG.out]
  rintro e w24 ⟨v24, rfl, hnb, hb⟩
  obtain ⟨xP, yP, rfl⟩ := newBytes_len hnb
  have B24 := hid_mk (below_then B23.out hb)
  have Me24 := hid_mk (Me23.out.below hb)
  have Re24 := hid_mk (Re23.out.below hb)
  have Np24 := hid_mk (hnb)
  clear hb hnb
  go_wp2_with fail
  refine (rseggat _ O base rp lb bb cL cB aB D R _ _ (HV2.out.below B24.out) HU2.out Re24.out).mono ?_
  rw [HIO.out, HG.out]
  rintro e w25 ⟨v25, rfl, hnb, hb⟩
  obtain ⟨xQ, yQ, rfl⟩ := newBytes_len hnb
  have B25 := hid_mk (below_then B24.out hb)
  have Me25 := hid_mk (Me24.out.below hb)
  have Re25 := hid_mk (Re24.out.below hb)
  have Np25 := hid_mk (Np24.out.below hb)
  have Nq25 := hid_mk (hnb)
  clear hb hnb
  have hcp : ∀ u, Below w25.heap.size w25 u → (convert 38 9 (.slice xP G.length yP)).run Try.prog u = .ok (.string (strOfNums G)) u := fun u hu => convN (Np25.out.below hu)
  have hcq : ∀ u, Below w25.heap.size w25 u → (convert 38 9 (.slice xQ G.length yQ)).run Try.prog u = .ok (.string (strOfNums G)) u := fun u hu => convN (Nq25.out.below hu)
  have HCP := hid_mk hcp
  have HCQ := hid_mk hcq
  clear hcp hcq
  go_wp2_with fail
  refine wp_region_outl
    [(fun v _ => v = .int .i64 sn),
    (fun v _ => v = .int .i64 sn),
    (fun v _ => v = .bool true),
    (fun v _ => v = .bool true),
    (fun v _ => v = .int .i64 ie),
    (fun v _ => v = .int .i64 ie),
    (fun v _ => v = .bool true),
    (fun v _ => v = .bool true),
    (fun v _ => v = .bool true),
    (fun v _ => v = .slice xP G.length yP),
    (fun v _ => v = .string (strOfNums G)),
    (fun v _ => v = .slice xQ G.length yQ),
    (fun v _ => v = .string (strOfNums G)),
    (fun v _ => v = .bool true),
    (fun v _ => v = .bool true),
    (fun v _ => v = .bool true),
    (fun v _ => v = .int .i64 io),
    (fun v _ => v = .int .i64 io),
    (fun v _ => v = .bool true),
    (fun v _ => v = .bool true),
    (fun v _ => v = .bool true),
    (fun v _ => v = .pointer (some ⟨p, 0, none⟩)),
    (newP M2),
    (fun v _ => v = .string (strOfNums M2)),
    (fun v _ => v = .pointer (some ⟨rp, 0, none⟩)),
    (newP M2),
    (fun v _ => v = .string (strOfNums M2)),
    (fun v _ => v = .bool true),
    (fun v _ => v = .bool true),
    (fun v _ => v = .bool true)]
    (fun u => Below w25.heap.size w25 u) (by kernel_rfl) (by kernel_rfl) ?_ (fun u u' hb h => h.trans (hb.mono h.size)) ((Below.refl _ _).drew) ?_ ?_
  · refine And.intro (up_eq _) ?_
    refine And.intro (up_eq _) ?_
    refine And.intro (up_eq _) ?_
    refine And.intro (up_eq _) ?_
    refine And.intro (up_eq _) ?_
    refine And.intro (up_eq _) ?_
    refine And.intro (up_eq _) ?_
    refine And.intro (up_eq _) ?_
    refine And.intro (up_eq _) ?_
    refine And.intro (up_eq _) ?_
    refine And.intro (up_eq _) ?_
    refine And.intro (up_eq _) ?_
    refine And.intro (up_eq _) ?_
    refine And.intro (up_eq _) ?_
    refine And.intro (up_eq _) ?_
    refine And.intro (up_eq _) ?_
    refine And.intro (up_eq _) ?_
    refine And.intro (up_eq _) ?_
    refine And.intro (up_eq _) ?_
    refine And.intro (up_eq _) ?_
    refine And.intro (up_eq _) ?_
    refine And.intro (up_eq _) ?_
    refine And.intro (up_newP _) ?_
    refine And.intro (up_eq _) ?_
    refine And.intro (up_eq _) ?_
    refine And.intro (up_newP _) ?_
    refine And.intro (up_eq _) ?_
    refine And.intro (up_eq _) ?_
    refine And.intro (up_eq _) ?_
    refine And.intro (up_eq _) ?_
    trivial
  · refine And.intro ?_ (And.intro ?_ (And.intro ?_ (And.intro ?_ (And.intro ?_ (And.intro ?_ (And.intro ?_ (And.intro ?_ (And.intro ?_ (And.intro ?_ (And.intro ?_ (And.intro ?_ (And.intro ?_ (And.intro ?_ (And.intro ?_ (And.intro ?_ (And.intro ?_ (And.intro ?_ (And.intro ?_ (And.intro ?_ (And.intro ?_ (And.intro ?_ (And.intro ?_ (And.intro ?_ (And.intro ?_ (And.intro ?_ (And.intro ?_ (And.intro ?_ (And.intro ?_ (And.intro ?_ (True.intro))))))))))))))))))))))))))))))
    · refine ostep_val (.int .i64 sn) (by kernel_rfl) (fun _ A1 W1 inv hall => ⟨wanted_none rfl, ?_, rfl⟩)
      have h23 : A1.eval (.tmp 23) = .int .i64 sn := (inv.base 23 (by kernel_rfl)).trans rfl
      simp only [execOp, h23, Sem.run_pure]
    · refine ostep_val (.int .i64 sn) (by kernel_rfl) (fun _ A1 W1 inv hall => ⟨wanted_none rfl, ?_, rfl⟩)
      have h24 : A1.eval (.tmp 24) = .int .i64 sn := (inv.base 24 (by kernel_rfl)).trans rfl
      simp only [execOp, h24, Sem.run_pure]
    · refine ostep_val (.bool true) (by kernel_rfl) (fun _ A1 W1 inv hall => ⟨wanted_none rfl, ?_, rfl⟩)
      have h158 : A1.eval (.tmp 158) = .int .i64 sn := inv.get hall 0 158 (by kernel_rfl) (by kernel_rfl)
      have h159 : A1.eval (.tmp 159) = .int .i64 sn := inv.get hall 1 159 (by kernel_rfl) (by kernel_rfl)
      simp only [execOp, h158, h159]
      simp [eqGuard, go_sem]
    · refine ostep_val (.bool true) (by kernel_rfl) (fun _ A1 W1 inv hall => ⟨wanted_none rfl, ?_, rfl⟩)
      have h160 : A1.eval (.tmp 160) = .bool true := inv.get hall 2 160 (by kernel_rfl) (by kernel_rfl)
      simp only [execOp, h160, Sem.run_pure]
    · refine ostep_val (.int .i64 ie) (by kernel_rfl) (fun _ A1 W1 inv hall => ⟨wanted_some (g := 3) (d := 161) (b := true) rfl (by kernel_rfl) (inv.get hall 3 161 (by kernel_rfl) (by kernel_rfl)), ?_, rfl⟩)
      have h16 : A1.eval (.tmp 16) = .int .i64 ie := (inv.base 16 (by kernel_rfl)).trans rfl
      simp only [execOp, h16, Sem.run_pure]
    · refine ostep_val (.int .i64 ie) (by kernel_rfl) (fun _ A1 W1 inv hall => ⟨wanted_some (g := 3) (d := 161) (b := true) rfl (by kernel_rfl) (inv.get hall 3 161 (by kernel_rfl) (by kernel_rfl)), ?_, rfl⟩)
      have h18 : A1.eval (.tmp 18) = .int .i64 ie := (inv.base 18 (by kernel_rfl)).trans rfl
      simp only [execOp, h18, Sem.run_pure]
    · refine ostep_val (.bool true) (by kernel_rfl) (fun _ A1 W1 inv hall => ⟨wanted_some (g := 3) (d := 161) (b := true) rfl (by kernel_rfl) (inv.get hall 3 161 (by kernel_rfl) (by kernel_rfl)), ?_, rfl⟩)
      have h162 : A1.eval (.tmp 162) = .int .i64 ie := inv.get hall 4 162 (by kernel_rfl) (by kernel_rfl)
      have h163 : A1.eval (.tmp 163) = .int .i64 ie := inv.get hall 5 163 (by kernel_rfl) (by kernel_rfl)
      simp only [execOp, h162, h163]
      simp [eqGuard, go_sem]
    · refine ostep_val (.bool true) (by kernel_rfl) (fun _ A1 W1 inv hall => ⟨wanted_none rfl, ?_, rfl⟩)
      have h161 : A1.eval (.tmp 161) = .bool true := inv.get hall 3 161 (by kernel_rfl) (by kernel_rfl)
      have h164 : A1.eval (.tmp 164) = .bool true := inv.get hall 6 164 (by kernel_rfl) (by kernel_rfl)
      simp only [execOp, h161, h164]
      simp [asBool]
    · refine ostep_val (.bool true) (by kernel_rfl) (fun _ A1 W1 inv hall => ⟨wanted_none rfl, ?_, rfl⟩)
      have h165 : A1.eval (.tmp 165) = .bool true := inv.get hall 7 165 (by kernel_rfl) (by kernel_rfl)
      simp only [execOp, h165, Sem.run_pure]
    · refine ostep_val (.slice xP G.length yP) (by kernel_rfl) (fun _ A1 W1 inv hall => ⟨wanted_some (g := 8) (d := 166) (b := true) rfl (by kernel_rfl) (inv.get hall 8 166 (by kernel_rfl) (by kernel_rfl)), ?_, rfl⟩)
      have h25 : A1.eval (.tmp 25) = .slice xP G.length yP := (inv.base 25 (by kernel_rfl)).trans rfl
      simp only [execOp, h25, Sem.run_pure]
    · refine ostep_val (.string (strOfNums G)) (by kernel_rfl) (fun _ A1 W1 inv hall => ⟨wanted_some (g := 8) (d := 166) (b := true) rfl (by kernel_rfl) (inv.get hall 8 166 (by kernel_rfl) (by kernel_rfl)), ?_, rfl⟩)
      have h167 : A1.eval (.tmp 167) = .slice xP G.length yP := inv.get hall 9 167 (by kernel_rfl) (by kernel_rfl)
      simp only [execOp, h167, Sem.run_bind, HCP.out W1 inv.s, Result.andThen_ok, Sem.run_pure]
    · refine ostep_val (.slice xQ G.length yQ) (by kernel_rfl) (fun _ A1 W1 inv hall => ⟨wanted_some (g := 8) (d := 166) (b := true) rfl (by kernel_rfl) (inv.get hall 8 166 (by kernel_rfl) (by kernel_rfl)), ?_, rfl⟩)
      have h27 : A1.eval (.tmp 27) = .slice xQ G.length yQ := (inv.base 27 (by kernel_rfl)).trans rfl
      simp only [execOp, h27, Sem.run_pure]
    · refine ostep_val (.string (strOfNums G)) (by kernel_rfl) (fun _ A1 W1 inv hall => ⟨wanted_some (g := 8) (d := 166) (b := true) rfl (by kernel_rfl) (inv.get hall 8 166 (by kernel_rfl) (by kernel_rfl)), ?_, rfl⟩)
      have h169 : A1.eval (.tmp 169) = .slice xQ G.length yQ := inv.get hall 11 169 (by kernel_rfl) (by kernel_rfl)
      simp only [execOp, h169, Sem.run_bind, HCQ.out W1 inv.s, Result.andThen_ok, Sem.run_pure]
    · refine ostep_val (.bool true) (by kernel_rfl) (fun _ A1 W1 inv hall => ⟨wanted_some (g := 8) (d := 166) (b := true) rfl (by kernel_rfl) (inv.get hall 8 166 (by kernel_rfl) (by kernel_rfl)), ?_, rfl⟩)
      have h168 : A1.eval (.tmp 168) = .string (strOfNums G) := inv.get hall 10 168 (by kernel_rfl) (by kernel_rfl)
      have h170 : A1.eval (.tmp 170) = .string (strOfNums G) := inv.get hall 12 170 (by kernel_rfl) (by kernel_rfl)
      simp only [execOp, h168, h170]
      simp [eqGuard, go_sem]
    · refine ostep_val (.bool true) (by kernel_rfl) (fun _ A1 W1 inv hall => ⟨wanted_none rfl, ?_, rfl⟩)
      have h166 : A1.eval (.tmp 166) = .bool true := inv.get hall 8 166 (by kernel_rfl) (by kernel_rfl)
      have h171 : A1.eval (.tmp 171) = .bool true := inv.get hall 13 171 (by kernel_rfl) (by kernel_rfl)
      simp only [execOp, h166, h171]
      simp [asBool]
    · refine ostep_val (.bool true) (by kernel_rfl) (fun _ A1 W1 inv hall => ⟨wanted_none rfl, ?_, rfl⟩)
      have h172 : A1.eval (.tmp 172) = .bool true := inv.get hall 14 172 (by kernel_rfl) (by kernel_rfl)
      simp only [execOp, h172, Sem.run_pure]
    · refine ostep_val (.int .i64 io) (by kernel_rfl) (fun _ A1 W1 inv hall => ⟨wanted_some (g := 15) (d := 173) (b := true) rfl (by kernel_rfl) (inv.get hall 15 173 (by kernel_rfl) (by kernel_rfl)), ?_, rfl⟩)
      have h26 : A1.eval (.tmp 26) = .int .i64 io := (inv.base 26 (by kernel_rfl)).trans rfl
      simp only [execOp, h26, Sem.run_pure]
    · refine ostep_val (.int .i64 io) (by kernel_rfl) (fun _ A1 W1 inv hall => ⟨wanted_some (g := 15) (d := 173) (b := true) rfl (by kernel_rfl) (inv.get hall 15 173 (by kernel_rfl) (by kernel_rfl)), ?_, rfl⟩)
      have h28 : A1.eval (.tmp 28) = .int .i64 io := (inv.base 28 (by kernel_rfl)).trans rfl
      simp only [execOp, h28, Sem.run_pure]
    · refine ostep_val (.bool true) (by kernel_rfl) (fun _ A1 W1 inv hall => ⟨wanted_some (g := 15) (d := 173) (b := true) rfl (by kernel_rfl) (inv.get hall 15 173 (by kernel_rfl) (by kernel_rfl)), ?_, rfl⟩)
      have h174 : A1.eval (.tmp 174) = .int .i64 io := inv.get hall 16 174 (by kernel_rfl) (by kernel_rfl)
      have h175 : A1.eval (.tmp 175) = .int .i64 io := inv.get hall 17 175 (by kernel_rfl) (by kernel_rfl)
      simp only [execOp, h174, h175]
      simp [eqGuard, go_sem]
    · refine ostep_val (.bool true) (by kernel_rfl) (fun _ A1 W1 inv hall => ⟨wanted_none rfl, ?_, rfl⟩)
      have h173 : A1.eval (.tmp 173) = .bool true := inv.get hall 15 173 (by kernel_rfl) (by kernel_rfl)
      have h176 : A1.eval (.tmp 176) = .bool true := inv.get hall 18 176 (by kernel_rfl) (by kernel_rfl)
      simp only [execOp, h173, h176]
      simp [asBool]
    · refine ostep_val (.bool true) (by kernel_rfl) (fun _ A1 W1 inv hall => ⟨wanted_none rfl, ?_, rfl⟩)
      have h177 : A1.eval (.tmp 177) = .bool true := inv.get hall 19 177 (by kernel_rfl) (by kernel_rfl)
      simp only [execOp, h177, Sem.run_pure]
    · refine ostep_val (.pointer (some ⟨p, 0, none⟩)) (by kernel_rfl) (fun _ A1 W1 inv hall => ⟨wanted_some (g := 20) (d := 178) (b := true) rfl (by kernel_rfl) (inv.get hall 20 178 (by kernel_rfl) (by kernel_rfl)), ?_, rfl⟩)
      have h15 : A1.eval (.tmp 15) = .pointer (some ⟨p, 0, none⟩) := (inv.base 15 (by kernel_rfl)).trans rfl
      simp only [execOp, h15, Sem.run_pure]
    · refine ostep_call 32 (by kernel_rfl) _ _ (by kernel_rfl) rfl (fun _ A1 W1 inv hall => ⟨wanted_some (g := 20) (d := 178) (b := true) rfl (by kernel_rfl) (inv.get hall 20 178 (by kernel_rfl) (by kernel_rfl)), #[.pointer (some ⟨p, 0, none⟩)], ?_, ?_⟩)
      · have h179 : A1.eval (.tmp 179) = .pointer (some ⟨p, 0, none⟩) := inv.get hall 21 179 (by kernel_rfl) (by kernel_rfl)
        simp [h179]
      · refine (image_any p ib qb R M2 _ (Me25.out.below inv.s)).mono ?_
        rintro e u ⟨v, rfl, hnb, hb⟩
        exact ⟨v, rfl, ⟨_, hnb⟩, hb⟩
    · refine ostep_val (.string (strOfNums M2)) (by kernel_rfl) (fun _ A1 W1 inv hall => ⟨wanted_some (g := 20) (d := 178) (b := true) rfl (by kernel_rfl) (inv.get hall 20 178 (by kernel_rfl) (by kernel_rfl)), ?_, rfl⟩)
      have h180 : (newP M2) (A1.eval (.tmp 180)) W1 := inv.get hall 22 180 (by kernel_rfl) (by kernel_rfl)
      simp only [execOp, Sem.run_bind, conv_newP h180, Result.andThen_ok, Sem.run_pure]
    · refine ostep_val (.pointer (some ⟨rp, 0, none⟩)) (by kernel_rfl) (fun _ A1 W1 inv hall => ⟨wanted_some (g := 20) (d := 178) (b := true) rfl (by kernel_rfl) (inv.get hall 20 178 (by kernel_rfl) (by kernel_rfl)), ?_, rfl⟩)
      have h17 : A1.eval (.tmp 17) = .pointer (some ⟨rp, 0, none⟩) := (inv.base 17 (by kernel_rfl)).trans rfl
      simp only [execOp, h17, Sem.run_pure]
    · refine ostep_call 33 (by kernel_rfl) _ _ (by kernel_rfl) rfl (fun _ A1 W1 inv hall => ⟨wanted_some (g := 20) (d := 178) (b := true) rfl (by kernel_rfl) (inv.get hall 20 178 (by kernel_rfl) (by kernel_rfl)), #[.pointer (some ⟨rp, 0, none⟩)], ?_, ?_⟩)
      · have h182 : A1.eval (.tmp 182) = .pointer (some ⟨rp, 0, none⟩) := inv.get hall 24 182 (by kernel_rfl) (by kernel_rfl)
        simp [h182]
      · refine (rimage_any base rp lb bb cL cB aB D R M2 _ (Re25.out.below inv.s) HSz.out).mono ?_
        rintro e u ⟨v, rfl, hnb, hb⟩
        exact ⟨v, rfl, ⟨_, hnb⟩, hb⟩
    · refine ostep_val (.string (strOfNums M2)) (by kernel_rfl) (fun _ A1 W1 inv hall => ⟨wanted_some (g := 20) (d := 178) (b := true) rfl (by kernel_rfl) (inv.get hall 20 178 (by kernel_rfl) (by kernel_rfl)), ?_, rfl⟩)
      have h183 : (newP M2) (A1.eval (.tmp 183)) W1 := inv.get hall 25 183 (by kernel_rfl) (by kernel_rfl)
      simp only [execOp, Sem.run_bind, conv_newP h183, Result.andThen_ok, Sem.run_pure]
    · refine ostep_val (.bool true) (by kernel_rfl) (fun _ A1 W1 inv hall => ⟨wanted_some (g := 20) (d := 178) (b := true) rfl (by kernel_rfl) (inv.get hall 20 178 (by kernel_rfl) (by kernel_rfl)), ?_, rfl⟩)
      have h181 : A1.eval (.tmp 181) = .string (strOfNums M2) := inv.get hall 23 181 (by kernel_rfl) (by kernel_rfl)
      have h184 : A1.eval (.tmp 184) = .string (strOfNums M2) := inv.get hall 26 184 (by kernel_rfl) (by kernel_rfl)
      simp only [execOp, h181, h184]
      simp [eqGuard, go_sem]
    · refine ostep_val (.bool true) (by kernel_rfl) (fun _ A1 W1 inv hall => ⟨wanted_none rfl, ?_, rfl⟩)
      have h178 : A1.eval (.tmp 178) = .bool true := inv.get hall 20 178 (by kernel_rfl) (by kernel_rfl)
      have h185 : A1.eval (.tmp 185) = .bool true := inv.get hall 27 185 (by kernel_rfl) (by kernel_rfl)
      simp only [execOp, h178, h185]
      simp [asBool]
    · refine ostep_val (.bool true) (by kernel_rfl) (fun _ A1 W1 inv hall => ⟨wanted_none rfl, ?_, rfl⟩)
      have h186 : A1.eval (.tmp 186) = .bool true := inv.get hall 28 186 (by kernel_rfl) (by kernel_rfl)
      simp only [execOp, h186, Sem.run_pure]
  · intro listed A1 W1 inv hall
    have hlast : A1.eval (.tmp 14) = .bool true := inv.fin 29 14 (by kernel_rfl) (hall 29 (Nat.lt_of_lt_of_eq (by decide : 29 < 30) (by kernel_rfl)))
    refine (by assumption : ∀ (a : Act) (w : World), Code.wp Try.prog Code.ret _ a w → _) A1 W1 ?_
    go_wp2_with fail
    simp only [Act.eval, Array.getD_eq_getD_getElem?] at hlast
    exact bodyPost_ret (v := .bool true) (by simp [results, Try.results4, go_sem, hlast]) inv.dfr ⟨rfl, below_then B25.out inv.s⟩

theorem walk (w : World) (v0 : Value) (R : List (Int × Int)) (hv0 : RegsAt w v0 R) (hb0 : isRegs R) (hm0 : R.length ≤ maxLen) (v1 : Value) (L : List Sg) (hv1 : SegsAt w v1 L) (hu1 : isSgs L) (hm1 : L.length ≤ maxLen) (v2 : Value) (O : List Sg) (hv2 : SegsAt w v2 O) (hu2 : isSgs O) (hm2 : O.length ≤ maxLen) (v3 : Value) (l : List Int) (hv3 : BytesAt w v3 l) (hlb : isBytes l) (hm3 : l.length ≤ maxLen) (f n : Int) (wr : Bool) (w4 : (Lit.int .u64 f).wf = true) (w5 : (Lit.int .u64 n).wf = true) :
    Calls Try.prog 4 #[v0, v1, v2, v3, .int .u64 f, .int .u64 n, .bool wr] w fun e w' => e = .returned (.bool true) ∧ Below w.heap.size w w' := by
  have hf := bounds_u64 w4
  have hn := bounds_u64 w5
  obtain ⟨ra, rc, rfl⟩ := hv0.len
  obtain ⟨va, vc, rfl⟩ := hv1.len
  obtain ⟨vb, vd, rfl⟩ := hv2.len
  obtain ⟨vl, vm, rfl⟩ := bytes_len hv3
  cases c1 : lightB R 20000 with
  | false => exact walk_light w ra rc R hv0 hb0 va vb vl vc vd vm _ _ _ f n wr c1
  | true =>
    have h40 : R.length ≤ 40 := by
      unfold lightB at c1
      simp at c1
      exact c1.1
    by_cases h1 : 100 < L.length
    · exact walk_L w ra rc R hv0 hb0 va vb vl vc vd vm _ _ _ f n wr c1 h1
    · by_cases h2 : 100 < O.length
      · exact walk_O w ra rc R hv0 hb0 va vb vl vc vd vm _ _ _ f n wr c1 (by omega) h2
      · by_cases h3 : 20000 < l.length
        · exact walk_b w ra rc R hv0 hb0 va vb vl vc vd vm _ _ _ f n wr c1 (by omega) (by omega) h3
        · by_cases hx : R.length ≤ 16 ∧ okR (-1) 1048576 R = true
          · exact walk_main w ra rc R hv0 hb0 va vb vl vc vd vm L O l hv1 hu1 hv2 hu2 hv3 hlb f n wr ⟨by omega, by omega⟩ ⟨by omega, by omega⟩ c1 (by omega) (by omega) (by omega) h40 hx
          · exact walk_nil w ra rc R hv0 hb0 va vb vl vc vd vm L O l hv1 hu1 hv2 hu2 hv3 hlb f n wr ⟨by omega, by omega⟩ ⟨by omega, by omega⟩ c1 (by omega) (by omega) (by omega) h40 (by unfold chkE; rw [if_neg hx])

/-! ### the row's frame -/
theorem own : ownKnob Try.prog.godebug = none := by kernel_rfl
theorem laidOut : laidOutB Try.prog = true := by kernel_rfl

set_option maxRecDepth 100000 in
theorem lifted (os : Os) (started : os.Started) (H : Type) (enc : TypeId × Value → H) :
    ReturnsInHanded {} Try.checked os 4 .any (Rows.segCallsSpec.pre6 enc Try.prog Try.f4 Rows.segCallsRow.domain false) (Rows.segCallsSpec.post enc Try.prog Try.f4 false true false false) := by
  refine returnsInHanded_of_change (C := Try.checked) own started (by kernel_rfl) Try.func4
    (ChangeSpec.witness6 (enc := enc) (C := Try.checked) false ⟨#[], #[.slice none 0 0, .slice none 0 0, .slice none 0 0, .slice none 0 0, .int .u64 0, .int .u64 0, .bool false], []⟩ 8 (by kernel_rfl) (by kernel_rfl) (by kernel_rfl) (by kernel_rfl)) ?_
  intro W base args ds gs before hval0 hW hcnd _
  have hval : ∀ (j : Nat) t v, Try.f4.params[j]? = some t → args[j]? = some v → Value.okWide Try.prog W .any base t v := hval0
  have hW' := hW
  obtain ⟨p, q, hA0, hV, rfl, hfz, hnd⟩ := hW
  have hA : DataW.TrodAll enc Try.prog W 0 (fun _ => true) true Try.f4.params.toList args.toList ds p := hA0
  rw [Try.params4] at hA hval
  obtain ⟨v0, vs0, d0, ds0, p0, q0, hargs, rfl, rfl, h0, r0⟩ := trodAll_cons hA
  obtain ⟨v1, vs1, d1, ds1, p1, q1, rfl, rfl, rfl, h1, r1⟩ := trodAll_cons r0
  obtain ⟨v2, vs2, d2, ds2, p2, q2, rfl, rfl, rfl, h2, r2⟩ := trodAll_cons r1
  obtain ⟨v3, vs3, d3, ds3, p3, q3, rfl, rfl, rfl, h3, r3⟩ := trodAll_cons r2
  obtain ⟨v4, vs4, d4, ds4, p4, q4, rfl, rfl, rfl, h4, r4⟩ := trodAll_cons r3
  obtain ⟨v5, vs5, d5, ds5, p5, q5, rfl, rfl, rfl, h5, r5⟩ := trodAll_cons r4
  obtain ⟨v6, vs6, d6, ds6, p6, q6, rfl, rfl, rfl, h6, r6⟩ := trodAll_cons r5
  obtain ⟨rfl, rfl, rfl⟩ := trodAll_nil r6
  obtain rfl : args = #[v0, v1, v2, v3, v4, v5, v6] := by cases args; simp_all
  obtain ⟨rfl, rfl⟩ := trodVars_none hV
  have k0 := h0
  have lt0 : ∀ x ∈ p0, x.block < W.heap.size := by
    obtain ⟨m, hm⟩ := k0
    exact DataW.trod_lt m _ _ _ hm
  have k1 := h1
  have lt1 : ∀ x ∈ p1, x.block < W.heap.size := by
    obtain ⟨m, hm⟩ := k1
    exact DataW.trod_lt m _ _ _ hm
  have k2 := h2
  have lt2 : ∀ x ∈ p2, x.block < W.heap.size := by
    obtain ⟨m, hm⟩ := k2
    exact DataW.trod_lt m _ _ _ hm
  have k3 := h3
  have lt3 : ∀ x ∈ p3, x.block < W.heap.size := by
    obtain ⟨m, hm⟩ := k3
    exact DataW.trod_lt m _ _ _ hm
  have k4 := h4
  have lt4 : ∀ x ∈ p4, x.block < W.heap.size := by
    obtain ⟨m, hm⟩ := k4
    exact DataW.trod_lt m _ _ _ hm
  have k5 := h5
  have lt5 : ∀ x ∈ p5, x.block < W.heap.size := by
    obtain ⟨m, hm⟩ := k5
    exact DataW.trod_lt m _ _ _ hm
  have k6 := h6
  have lt6 : ∀ x ∈ p6, x.block < W.heap.size := by
    obtain ⟨m, hm⟩ := k6
    exact DataW.trod_lt m _ _ _ hm
  obtain ⟨l0, hv0, hb0, hm0⟩ := open_regs (hval 0 29 v0 rfl rfl) h0
  obtain ⟨l1, hv1, hb1, hm1⟩ := open_segs (hval 1 33 v1 rfl rfl) h1
  obtain ⟨l2, hv2, hb2, hm2⟩ := open_segs (hval 2 33 v2 rfl rfl) h2
  obtain ⟨l3, hv3, hb3, hm3⟩ := open_bytes (hval 3 38 v3 rfl rfl) h3
  obtain ⟨a4, rfl, rfl, rfl, w4⟩ := open_int Try.underlying26 (hval 4 26 v4 rfl rfl) h4
  obtain ⟨a5, rfl, rfl, rfl, w5⟩ := open_int Try.underlying26 (hval 5 26 v5 rfl rfl) h5
  obtain ⟨a6, rfl, rfl, rfl⟩ := open_bool Try.underlying4 (hval 6 4 v6 rfl rfl) h6
  clear hA0 hval0
  refine (walk W v0 l0 hv0 hb0 hm0 v1 l1 hv1 hb1 hm1 v2 l2 hv2 hb2 hm2 v3 l3 hv3 hb3 hm3 a4 a5 a6 w4 w5).mono fun e W' ⟨he, bel⟩ => ?_
  subst he
  exact ⟨_, rfl, _, _, _, [], _, [], hW', trodAll_mk1 (shut_bool Try.underlying4 _), (trodAll_cons_mk (Below.trod laidOut (by kernel_rfl) (of_decide_eq_true (by kernel_rfl)) k0 bel lt0) (trodAll_cons_mk (Below.trod laidOut (by kernel_rfl) (of_decide_eq_true (by kernel_rfl)) k1 bel lt1) (trodAll_cons_mk (Below.trod laidOut (by kernel_rfl) (of_decide_eq_true (by kernel_rfl)) k2 bel lt2) (trodAll_cons_mk (Below.trod laidOut (by kernel_rfl) (of_decide_eq_true (by kernel_rfl)) k3 bel lt3) (trodAll_cons_mk (Below.trod laidOut (by kernel_rfl) (of_decide_eq_true (by kernel_rfl)) k4 bel lt4) (trodAll_cons_mk (Below.trod laidOut (by kernel_rfl) (of_decide_eq_true (by kernel_rfl)) k5 bel lt5) (trodAll_cons_mk (Below.trod laidOut (by kernel_rfl) (of_decide_eq_true (by kernel_rfl)) k6 bel lt6) trodAll_mk0))))))), rfl, bel.frame _, fun h => by cases h⟩

theorem over : Rows.segCallsRow.holds Try.pinned (OpenSpec.ofChange Rows.segCallsSpec) :=
  OpenClaim.holds_of_wide 4 Try.f4 rfl rfl rfl rfl rfl rfl rfl ⟨rfl, rfl, rfl, rfl, rfl⟩ rfl rfl rfl rfl rfl (by kernel_rfl) Try.func4 (by kernel_rfl)
    (of_decide_eq_true (by kernel_rfl)) (by unfold Func.isWrapper; first | (rw [if_pos (by decide +kernel)]; kernel_rfl) | (rw [if_neg (by decide +kernel)]; exact ⟨rfl, rfl⟩))
    (fun os started H enc _ => lifted os started H enc)

/-- THE STATEMENT -/
theorem segCalls_holds : Rows.SegCallsSaid := over
#print axioms segCalls_holds
end Go.Proofs.Yteolnghnlfeakaa.segCalls
