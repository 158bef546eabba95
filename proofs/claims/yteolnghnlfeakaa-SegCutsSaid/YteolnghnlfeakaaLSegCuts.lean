/-
  PROVED: dumbwaiterlaw05.SegCuts returns true for every list of segments and every three numbers, and what was in memory stays as it was. Conditions: none.
-/
import Derived.Test.YteolnghnlfeakaaRows
import Derived.Test.YteolnghnlfeakaaPg13
import Derived.Test.YteolnghnlfeakaaSgOpen
import Derived.WalkKit
import Derived.ProofKit
import Derived.OpenShut
import Derived.ShutString
import Derived.ChangeOld
import Derived.Below
import Derived.Carry
import Derived.Lib.SmallJoins
namespace Go.Proofs.Yteolnghnlfeakaa.segCuts
open Go.ChangeShapes Go.WideShapes Go.ChangeAt Go.RowKit
set_option linter.unusedVariables false


set_option maxRecDepth 100000 in
set_option maxHeartbeats 2000000 in
theorem walk (w : World) (v : Value) (L : List Sg) (hv : SegsAt w v L) (hu : isSgs L) (hm : L.length ≤ maxLen) (a1 a2 a3 : Int) (w1 : (Lit.int .u64 a1).wf = true) (w2 : (Lit.int .u64 a2).wf = true) (w3 : (Lit.int .u64 a3).wf = true) :
    Calls Try.prog 6 #[v, .int .u64 a1, .int .u64 a2, .int .u64 a3] w fun e w' => e = .returned (.bool true) ∧ Below w.heap.size w w' := by
  have HV := hid_mk hv
  have HU := hid_mk hu
  obtain ⟨va, vc, rfl⟩ := hv.len
  obtain ⟨b10, b11⟩ := bounds_u64 w1
  obtain ⟨b20, b21⟩ := bounds_u64 w2
  obtain ⟨b30, b31⟩ := bounds_u64 w3
  clear w1 w2 w3 hv
  by_cases h100 : 100 < L.length
  · have h100i : (100 : Int) < (L.length : Int) := by omega
    go_enter Try.func6, Try.ntmps6
    go_wp2_with (go_at_call 13; refine (lives5_any _).mono ?_; rintro e w1 ⟨rfl, hb1⟩)
    go_ret
    exact ⟨rfl, hb1⟩
  have h100i : (L.length : Int) ≤ 100 := by omega
  clear hm
  by_cases hE : segE L = 0
  · obtain ⟨f, hf⟩ : ∃ f, a1 % 8589934592 = f := ⟨_, rfl⟩
    obtain ⟨n, hn⟩ : ∃ n, a2 % 8589934592 = n := ⟨_, rfl⟩
    obtain ⟨m, hm⟩ : ∃ m, a3 % 8589934592 = m := ⟨_, rfl⟩
    have f0 : 0 ≤ f := by omega
    have f1 : f < 8589934592 := by omega
    have n0 : 0 ≤ n := by omega
    have n1 : n < 8589934592 := by omega
    have m0 : 0 ≤ m := by omega
    have m1 : m < 8589934592 := by omega
    obtain ⟨o1, o2, o3⟩ := (segE_ok hu).1 hE
    have hS0 := sumS_nonneg hu
    have hRT := totS_sum L
    have hbd0 := tot_bd false hu hE
    have hbd1 := tot_bd true hu hE
    have hCE := segE_cut (f := f) (n := n) hu hE f0 n0
    have hAE := segE_cut (f := 0) (n := f) hu hE (Int.le_refl 0) f0
    have hBE := segE_cut (f := f) (n := sumS L) hu hE f0 hS0
    have hCs := sum_cut (f := f) (n := n) hu f0 n0
    have hAB0 := two_halves (f := f) false hu hE f0
    have hAB1 := two_halves (f := f) true hu hE f0
    have hD := cut_twice (f := f) (n := n) (m := m) hu hE f0 n0 m0
    have hP2 := part_two o2
    have hCl := cutS_len L f n
    have hDl := cutS_len (cutS L f n) m n
    have hAll := cutS_all L (sumS L) false hu o2 (Int.le_refl _)
    obtain ⟨K, hK⟩ : ∃ K, min m n = K := ⟨_, rfl⟩
    rw [hK] at hD
    obtain ⟨C, hC⟩ : ∃ C, cutS L f n = C := ⟨_, rfl⟩
    obtain ⟨A, hA⟩ : ∃ A, cutS L 0 f = A := ⟨_, rfl⟩
    obtain ⟨B, hB⟩ : ∃ B, cutS L f (sumS L) = B := ⟨_, rfl⟩
    rw [hC] at hCE hCs hD hCl hDl
    rw [hA] at hAE hAB0 hAB1
    rw [hB] at hBE hAB0 hAB1
    obtain ⟨D, hD1⟩ : ∃ D, cutS C m n = D := ⟨_, rfl⟩
    rw [hD1] at hD hDl
    have hCsum := totS_sum C
    have hCb0 := tot_bd false hCE.2 hCE.1
    have hCb1 := tot_bd true hCE.2 hCE.1
    have hAb0 := tot_bd false hAE.2 hAE.1
    have hAb1 := tot_bd true hAE.2 hAE.1
    have hBb0 := tot_bd false hBE.2 hBE.1
    have hBb1 := tot_bd true hBE.2 hBE.1
    obtain ⟨P0, hP0⟩ : ∃ P, partS false L = P := ⟨_, rfl⟩
    obtain ⟨P1, hP1⟩ : ∃ P, partS true L = P := ⟨_, rfl⟩
    have hPl0 := partS_le false L
    have hPl1 := partS_le true L
    rw [hP0, hP1] at hP2
    rw [hP0] at hPl0
    rw [hP1] at hPl1
    obtain ⟨r, hr⟩ : ∃ r, totS false L = r := ⟨_, rfl⟩
    obtain ⟨t, ht⟩ : ∃ t, totS true L = t := ⟨_, rfl⟩
    obtain ⟨c0, hc0⟩ : ∃ t, totS false C = t := ⟨_, rfl⟩
    obtain ⟨c1, hc1⟩ : ∃ t, totS true C = t := ⟨_, rfl⟩
    obtain ⟨p0, hp0⟩ : ∃ t, totS false A = t := ⟨_, rfl⟩
    obtain ⟨p1, hp1⟩ : ∃ t, totS true A = t := ⟨_, rfl⟩
    obtain ⟨q0, hq0⟩ : ∃ t, totS false B = t := ⟨_, rfl⟩
    obtain ⟨q1, hq1⟩ : ∃ t, totS true B = t := ⟨_, rfl⟩
    obtain ⟨H, hH0⟩ : ∃ H, sumS C = H := ⟨_, rfl⟩
    rw [hr, ht] at hRT
    rw [hr] at hbd0 hAB0
    rw [ht] at hbd1 hAB1
    rw [hc0, hc1, hH0] at hCsum
    rw [hH0] at hCs
    rw [hc0] at hCb0
    rw [hc1] at hCb1
    rw [hp0] at hAb0 hAB0
    rw [hp1] at hAb1 hAB1
    rw [hq0] at hBb0 hAB0
    rw [hq1] at hBb1 hAB1
    have HR := hid_mk hr
    have HT := hid_mk ht
    have HC := hid_mk hC
    have HA := hid_mk hA
    have HC0 := hid_mk hc0
    have HC1 := hid_mk hc1
    have HA0 := hid_mk hp0
    have HA1 := hid_mk hp1
    have HBl0 := hid_mk hq0
    have HBl1 := hid_mk hq1
    have HCe := hid_mk hCE.1
    have HCu := hid_mk hCE.2
    have HAe := hid_mk hAE.1
    have HAu := hid_mk hAE.2
    have HBe := hid_mk hBE.1
    have HBu := hid_mk hBE.2
    have HD := hid_mk hD1
    have HD2 := hid_mk hD.symm
    have HP0 := hid_mk hP0
    have HP1 := hid_mk hP1
    have HP2 := hid_mk hP2
    have HPl := hid_mk (show P0.length ≤ 64 ∧ P1.length ≤ 64 from ⟨Nat.le_trans hPl0 o1, Nat.le_trans hPl1 o1⟩)
    have HDl := hid_mk (show D.length ≤ 1000 from Nat.le_trans (Nat.le_trans hDl hCl) (Nat.le_trans o1 (by decide)))
    have HLl := hid_mk (show L.length ≤ 1000 from Nat.le_trans o1 (by decide))
    have HE := hid_mk hE
    have HAll0 := hAll
    generalize hS : sumS L = S at *
    have HBl := hid_mk hB
    have HAll := hid_mk hAll
    have HH := hid_mk hCs
    have S0 : 0 ≤ S := hS0
    have S1 : S < 4294967296 := o3
    have hw1 : IntKind.u64.wrap (r + t) = S := by rw [IntKind.wrap_u64]; omega
    have hw2 : IntKind.u64.wrap (S - f) = if f < S then S - f else IntKind.u64.wrap (S - f) := by
      by_cases h : f < S
      · rw [if_pos h, IntKind.wrap_u64]
        omega
      · rw [if_neg h]
    have hw3 : IntKind.u64.wrap (c0 + c1) = H := by rw [IntKind.wrap_u64]; omega
    have hw4 : IntKind.u64.wrap (p0 + p1) = p0 + p1 := by rw [IntKind.wrap_u64]; omega
    have hw5 : IntKind.u64.wrap (p0 + p1 + q0) = p0 + p1 + q0 := by rw [IntKind.wrap_u64]; omega
    have hw6 : IntKind.u64.wrap (p0 + p1 + q0 + q1) = S := by rw [IntKind.wrap_u64]; omega
    have hw7 : IntKind.u64.wrap (p0 + q0) = r := by rw [IntKind.wrap_u64]; omega
    have hw8 : IntKind.u64.wrap (f + m) = f + m := by rw [IntKind.wrap_u64]; omega
    have K0 : 0 ≤ n - K := by omega
    have K1 : n - K < 8589934592 := by omega
    have hw9 : IntKind.u64.wrap (n - K) = n - K := by rw [IntKind.wrap_u64]; omega
    have HW2 := hid_mk hw2
    have hneH : (H != H) = false := by simp
    have hneS : (S != S) = false := by simp
    have hneR : (r != r) = false := by simp
    clear hw2 hS o1 o2 o3 hS0 hRT hbd0 hbd1 hCE hAE hBE hCs hAB0 hAB1 hD hP2 hCl hDl hAll hC hA hB hD1 hCsum hCb0 hCb1 hAb0 hAb1 hBb0 hBb1 hP0 hP1 hPl0 hPl1 hr ht hc0 hc1 hp0 hp1 hq0 hq1 hH0 HAll0 hE hu
    go_enter Try.func6, Try.ntmps6
    go_wp2_with fail
    refine (lives5_any _).mono ?_
    rintro e w1 ⟨rfl, hb⟩
    have HB1 := hid_mk hb
    clear hb
    go_wp2_with fail
    refine (pcheck _ L _ (HV.out.below HB1.out) HU.out).mono ?_
    rw [HE.out]
    rintro e w2 ⟨rfl, hb⟩
    have HB2 := hid_mk (below_then HB1.out hb)
    clear hb
    go_wp2_with fail
    refine (ptotal_ok (HV.out.below HB2.out) HU.out HE.out HR.out HT.out).mono ?_
    rintro e w3 ⟨rfl, hb⟩
    have HB3 := hid_mk (below_then HB2.out hb)
    clear hb
    go_wp2_with fail
    refine (pcut_ok (HV.out.below HB3.out) HU.out HE.out ⟨f0, by omega⟩ ⟨n0, by omega⟩ HC.out).mono ?_
    rintro e w4 ⟨xC, yC, rfl, ho, hb⟩
    have HB4 := hid_mk (below_then HB3.out hb)
    have HOC4 := hid_mk ho.at
    clear ho hb
    go_wp2_with fail
    refine (ptotal_ok HOC4.out HCu.out HCe.out HC0.out HC1.out).mono ?_
    rintro e w5 ⟨rfl, hb⟩
    have HB5 := hid_mk (below_then HB4.out hb)
    have HOC5 := hid_mk (HOC4.out.below hb)
    clear hb
    by_cases hfS : f < S
    · have hH : min n (S - f) = H := by
        have := HH.out
        rw [if_pos hfS] at this
        omega
      have hdf : decide (f < S) = true := by simp; omega
      have hw2 : IntKind.u64.wrap (S - f) = S - f := by rw [IntKind.wrap_u64]; omega
      go_wp2_with fail
      refine (pcut_ok (HV.out.below HB5.out) HU.out HE.out ⟨by omega, by omega⟩ ⟨f0, by omega⟩ HA.out).mono ?_
      rintro e w6 ⟨xA, yA, rfl, ho, hb⟩
      have HB6 := hid_mk (below_then HB5.out hb)
      have HOA6 := hid_mk ho.at
      have HOC6 := hid_mk (HOC5.out.below hb)
      clear ho hb
      go_wp2_with fail
      refine (pcut_ok (HV.out.below HB6.out) HU.out HE.out ⟨f0, by omega⟩ ⟨S0, by omega⟩ HBl.out).mono ?_
      rintro e w7 ⟨xB, yB, rfl, ho, hb⟩
      have HB7 := hid_mk (below_then HB6.out hb)
      have HOA7 := hid_mk (HOA6.out.below hb)
      have HOB7 := hid_mk ho.at
      have HOC7 := hid_mk (HOC6.out.below hb)
      clear ho hb
      go_wp2_with fail
      refine (ptotal_ok HOA7.out HAu.out HAe.out HA0.out HA1.out).mono ?_
      rintro e w8 ⟨rfl, hb⟩
      have HB8 := hid_mk (below_then HB7.out hb)
      have HOB8 := hid_mk (HOB7.out.below hb)
      have HOC8 := hid_mk (HOC7.out.below hb)
      clear hb
      go_wp2_with fail
      refine (ptotal_ok HOB8.out HBu.out HBe.out HBl0.out HBl1.out).mono ?_
      rintro e w9 ⟨rfl, hb⟩
      have HB9 := hid_mk (below_then HB8.out hb)
      have HOC9 := hid_mk (HOC8.out.below hb)
      clear hb
      go_wp2_with fail
      refine (pcheck _ C _ HOC9.out HCu.out).mono ?_
      rw [HCe.out]
      rintro e w10 ⟨rfl, hb⟩
      have HB10 := hid_mk (below_then HB9.out hb)
      have HOC10 := hid_mk (HOC9.out.below hb)
      clear hb
      go_wp2_with fail
      refine (pcut_ok HOC10.out HCu.out HCe.out ⟨m0, by omega⟩ ⟨n0, by omega⟩ HD.out).mono ?_
      rintro e w11 ⟨xD, yD, rfl, ho, hb⟩
      have HB11 := hid_mk (below_then HB10.out hb)
      have HOD11 := hid_mk ho.at
      clear ho hb
      go_wp2_with fail
      refine (pcut_ok (HV.out.below HB11.out) HU.out HE.out ⟨by omega, by omega⟩ ⟨by omega, by omega⟩ HD2.out).mono ?_
      rintro e w12 ⟨xF, yF, rfl, ho, hb⟩
      have HB12 := hid_mk (below_then HB11.out hb)
      have HOF12 := hid_mk ho.at
      have HOD12 := hid_mk (HOD11.out.below hb)
      clear ho hb
      go_wp2_with fail
      refine (psame_ok HOD12.out HOF12.out HDl.out).mono ?_
      rintro e w13 ⟨rfl, hb⟩
      have HB13 := hid_mk (below_then HB12.out hb)
      clear hb
      go_wp2_with fail
      refine (ppart_ok (t := false) (HV.out.below (HB13.out.alloc HB13.out.size _)) HU.out HE.out HP0.out).mono ?_
      rintro e w14 ⟨x0, y0, rfl, ho, hb⟩
      have hz13 := HB13.out.size
      have HB14 := hid_mk (below_then (HB13.out.alloc hz13 (.cells #[] 32)) hb)
      have hown := own_below (own_empty w13) hb
      obtain ⟨v15, w15, hrun, ho15, hb15⟩ := app_segs hown (by have := hb.size; rw [sizeA] at this; omega) ho.at (by have := HPl.out; simp; omega)
      obtain ⟨x15, y15, rfl⟩ := ho15.at.len
      rw [List.nil_append] at ho15
      have HRun := hid_mk hrun
      have HO15 := hid_mk ho15
      have HB15 := hid_mk (HB14.out.trans (hb15.mono hz13))
      have HZ15 := hid_mk (Nat.le_trans (by have := hb.size; rw [sizeA] at this; omega : w13.heap.size ≤ w14.heap.size) hb15.size)
      simp only [List.nil_append] at HRun
      clear hown hrun ho15 hb15 ho hb hz13
      go_wp2_with (at_builtin; refine wpList_append_run (v := .slice (some ⟨w13.heap.size, 0, none⟩) 0 0) (u := .slice x0 P0.length y0) (v' := .slice x15 P0.length y15) (w' := w15) rfl (.tmp 126) (.tmp 128) 33 rfl (by first | rfl | go_simp) (by first | rfl | go_simp) (HRun.out _) ?_)
      refine (ppart_ok (t := true) (HV.out.below HB15.out) HU.out HE.out HP1.out).mono ?_
      rintro e w16 ⟨x1, y1, rfl, ho, hb⟩
      have HB16 := hid_mk (below_then HB15.out hb)
      have hown := own_below HO15.out hb
      obtain ⟨v17, w17, hrun, ho17, hb17⟩ := app_segs hown (Nat.le_trans HZ15.out hb.size) ho.at (by have := HPl.out; omega)
      obtain ⟨x17, y17, rfl⟩ := ho17.at.len
      rw [HP2.out] at ho17 hrun
      have HRun2 := hid_mk hrun
      have HO17 := hid_mk ho17.at
      have HB17 := hid_mk (HB16.out.trans (hb17.mono (Nat.le_trans HB13.out.size (Nat.le_refl _))))
      clear hown hrun ho17 hb17 ho hb
      go_wp2_with (at_builtin; refine wpList_append_run (v := .slice x15 P0.length y15) (u := .slice x1 P1.length y1) (v' := .slice x17 L.length y17) (w' := w17) rfl (.tmp 129) (.tmp 131) 33 rfl (by first | rfl | go_simp) (by first | rfl | go_simp) (HRun2.out _) ?_)
      refine (psame_ok HO17.out (HV.out.below HB17.out) HLl.out).mono ?_
      rintro e w18 ⟨rfl, hb⟩
      have HB18 := hid_mk (below_then HB17.out hb)
      clear hb
      go_wp2_with fail
      refine (pcut_ok (HV.out.below HB18.out) HU.out HE.out ⟨by omega, by omega⟩ ⟨S0, by omega⟩ HAll.out).mono ?_
      rintro e w19 ⟨x19, y19, rfl, ho, hb⟩
      have HB19 := hid_mk (below_then HB18.out hb)
      have HO19 := hid_mk ho.at
      clear ho hb
      go_wp2_with fail
      refine (psame_ok HO19.out (HV.out.below HB19.out) HLl.out).mono ?_
      rintro e w20 ⟨rfl, hb⟩
      have HB20 := hid_mk (below_then HB19.out hb)
      clear hb
      go_wp2_with fail
      go_ret
      exact ⟨rfl, HB20.out⟩
    · obtain rfl : H = 0 := by
        have := HH.out
        rw [if_neg hfS] at this
        omega
      have hdf : decide (f < S) = false := by simp; omega
      go_wp2_with fail
      refine (pcut_ok (HV.out.below HB5.out) HU.out HE.out ⟨by omega, by omega⟩ ⟨f0, by omega⟩ HA.out).mono ?_
      rintro e w6 ⟨xA, yA, rfl, ho, hb⟩
      have HB6 := hid_mk (below_then HB5.out hb)
      have HOA6 := hid_mk ho.at
      have HOC6 := hid_mk (HOC5.out.below hb)
      clear ho hb
      go_wp2_with fail
      refine (pcut_ok (HV.out.below HB6.out) HU.out HE.out ⟨f0, by omega⟩ ⟨S0, by omega⟩ HBl.out).mono ?_
      rintro e w7 ⟨xB, yB, rfl, ho, hb⟩
      have HB7 := hid_mk (below_then HB6.out hb)
      have HOA7 := hid_mk (HOA6.out.below hb)
      have HOB7 := hid_mk ho.at
      have HOC7 := hid_mk (HOC6.out.below hb)
      clear ho hb
      go_wp2_with fail
      refine (ptotal_ok HOA7.out HAu.out HAe.out HA0.out HA1.out).mono ?_
      rintro e w8 ⟨rfl, hb⟩
      have HB8 := hid_mk (below_then HB7.out hb)
      have HOB8 := hid_mk (HOB7.out.below hb)
      have HOC8 := hid_mk (HOC7.out.below hb)
      clear hb
      go_wp2_with fail
      refine (ptotal_ok HOB8.out HBu.out HBe.out HBl0.out HBl1.out).mono ?_
      rintro e w9 ⟨rfl, hb⟩
      have HB9 := hid_mk (below_then HB8.out hb)
      have HOC9 := hid_mk (HOC8.out.below hb)
      clear hb
      go_wp2_with fail
      refine (pcheck _ C _ HOC9.out HCu.out).mono ?_
      rw [HCe.out]
      rintro e w10 ⟨rfl, hb⟩
      have HB10 := hid_mk (below_then HB9.out hb)
      have HOC10 := hid_mk (HOC9.out.below hb)
      clear hb
      go_wp2_with fail
      refine (pcut_ok HOC10.out HCu.out HCe.out ⟨m0, by omega⟩ ⟨n0, by omega⟩ HD.out).mono ?_
      rintro e w11 ⟨xD, yD, rfl, ho, hb⟩
      have HB11 := hid_mk (below_then HB10.out hb)
      have HOD11 := hid_mk ho.at
      clear ho hb
      go_wp2_with fail
      refine (pcut_ok (HV.out.below HB11.out) HU.out HE.out ⟨by omega, by omega⟩ ⟨by omega, by omega⟩ HD2.out).mono ?_
      rintro e w12 ⟨xF, yF, rfl, ho, hb⟩
      have HB12 := hid_mk (below_then HB11.out hb)
      have HOF12 := hid_mk ho.at
      have HOD12 := hid_mk (HOD11.out.below hb)
      clear ho hb
      go_wp2_with fail
      refine (psame_ok HOD12.out HOF12.out HDl.out).mono ?_
      rintro e w13 ⟨rfl, hb⟩
      have HB13 := hid_mk (below_then HB12.out hb)
      clear hb
      go_wp2_with fail
      refine (ppart_ok (t := false) (HV.out.below (HB13.out.alloc HB13.out.size _)) HU.out HE.out HP0.out).mono ?_
      rintro e w14 ⟨x0, y0, rfl, ho, hb⟩
      have hz13 := HB13.out.size
      have HB14 := hid_mk (below_then (HB13.out.alloc hz13 (.cells #[] 32)) hb)
      have hown := own_below (own_empty w13) hb
      obtain ⟨v15, w15, hrun, ho15, hb15⟩ := app_segs hown (by have := hb.size; rw [sizeA] at this; omega) ho.at (by have := HPl.out; simp; omega)
      obtain ⟨x15, y15, rfl⟩ := ho15.at.len
      rw [List.nil_append] at ho15
      have HRun := hid_mk hrun
      have HO15 := hid_mk ho15
      have HB15 := hid_mk (HB14.out.trans (hb15.mono hz13))
      have HZ15 := hid_mk (Nat.le_trans (by have := hb.size; rw [sizeA] at this; omega : w13.heap.size ≤ w14.heap.size) hb15.size)
      simp only [List.nil_append] at HRun
      clear hown hrun ho15 hb15 ho hb hz13
      go_wp2_with (at_builtin; refine wpList_append_run (v := .slice (some ⟨w13.heap.size, 0, none⟩) 0 0) (u := .slice x0 P0.length y0) (v' := .slice x15 P0.length y15) (w' := w15) rfl (.tmp 126) (.tmp 128) 33 rfl (by first | rfl | go_simp) (by first | rfl | go_simp) (HRun.out _) ?_)
      refine (ppart_ok (t := true) (HV.out.below HB15.out) HU.out HE.out HP1.out).mono ?_
      rintro e w16 ⟨x1, y1, rfl, ho, hb⟩
      have HB16 := hid_mk (below_then HB15.out hb)
      have hown := own_below HO15.out hb
      obtain ⟨v17, w17, hrun, ho17, hb17⟩ := app_segs hown (Nat.le_trans HZ15.out hb.size) ho.at (by have := HPl.out; omega)
      obtain ⟨x17, y17, rfl⟩ := ho17.at.len
      rw [HP2.out] at ho17 hrun
      have HRun2 := hid_mk hrun
      have HO17 := hid_mk ho17.at
      have HB17 := hid_mk (HB16.out.trans (hb17.mono (Nat.le_trans HB13.out.size (Nat.le_refl _))))
      clear hown hrun ho17 hb17 ho hb
      go_wp2_with (at_builtin; refine wpList_append_run (v := .slice x15 P0.length y15) (u := .slice x1 P1.length y1) (v' := .slice x17 L.length y17) (w' := w17) rfl (.tmp 129) (.tmp 131) 33 rfl (by first | rfl | go_simp) (by first | rfl | go_simp) (HRun2.out _) ?_)
      refine (psame_ok HO17.out (HV.out.below HB17.out) HLl.out).mono ?_
      rintro e w18 ⟨rfl, hb⟩
      have HB18 := hid_mk (below_then HB17.out hb)
      clear hb
      go_wp2_with fail
      refine (pcut_ok (HV.out.below HB18.out) HU.out HE.out ⟨by omega, by omega⟩ ⟨S0, by omega⟩ HAll.out).mono ?_
      rintro e w19 ⟨x19, y19, rfl, ho, hb⟩
      have HB19 := hid_mk (below_then HB18.out hb)
      have HO19 := hid_mk ho.at
      clear ho hb
      go_wp2_with fail
      refine (psame_ok HO19.out (HV.out.below HB19.out) HLl.out).mono ?_
      rintro e w20 ⟨rfl, hb⟩
      have HB20 := hid_mk (below_then HB19.out hb)
      clear hb
      go_wp2_with fail
      go_ret
      exact ⟨rfl, HB20.out⟩

  · have hE2 : (segE L != 0) = true := by simp [hE]
    have HCk := hid_mk (fun u (h : SegsAt u (.slice va L.length vc) L) => pcheck _ L u h hu)
    generalize segE L = x at *
    clear hE hu
    go_enter Try.func6, Try.ntmps6
    go_wp2_with fail
    refine (lives5_any _).mono ?_
    rintro e w1 ⟨rfl, hb⟩
    have HB1 := hid_mk hb
    clear hb
    go_wp2_with fail
    refine (HCk.out _ (HV.out.below HB1.out)).mono ?_
    rintro e w2 ⟨rfl, hb⟩
    have HB2 := hid_mk (below_then HB1.out hb)
    clear hb
    go_wp2_with fail
    go_ret
    exact ⟨rfl, HB2.out⟩

/-! ### the row's frame -/
theorem own : ownKnob Try.prog.godebug = none := by kernel_rfl
theorem laidOut : laidOutB Try.prog = true := by kernel_rfl

set_option maxRecDepth 100000 in
theorem lifted (os : Os) (started : os.Started) (H : Type) (enc : TypeId × Value → H) :
    ReturnsInHanded {} Try.checked os 6 .any (Rows.segCutsSpec.pre6 enc Try.prog Try.f6 Rows.segCutsRow.domain false) (Rows.segCutsSpec.post enc Try.prog Try.f6 false true false false) := by
  refine returnsInHanded_of_change (C := Try.checked) own started (by kernel_rfl) Try.func6
    (ChangeSpec.witness6 (enc := enc) (C := Try.checked) false ⟨#[], #[.slice none 0 0, .int .u64 0, .int .u64 0, .int .u64 0], []⟩ 8 (by kernel_rfl) (by kernel_rfl) (by kernel_rfl) (by kernel_rfl)) ?_
  intro W base args ds gs before hval0 hW hcnd _
  have hval : ∀ (j : Nat) t v, Try.f6.params[j]? = some t → args[j]? = some v → Value.okWide Try.prog W .any base t v := hval0
  have hW' := hW
  obtain ⟨p, q, hA0, hV, rfl, hfz, hnd⟩ := hW
  have hA : DataW.TrodAll enc Try.prog W 0 (fun _ => true) true Try.f6.params.toList args.toList ds p := hA0
  rw [Try.params6] at hA hval
  obtain ⟨v0, vs0, d0, ds0, p0, q0, hargs, rfl, rfl, h0, r0⟩ := trodAll_cons hA
  obtain ⟨v1, vs1, d1, ds1, p1, q1, rfl, rfl, rfl, h1, r1⟩ := trodAll_cons r0
  obtain ⟨v2, vs2, d2, ds2, p2, q2, rfl, rfl, rfl, h2, r2⟩ := trodAll_cons r1
  obtain ⟨v3, vs3, d3, ds3, p3, q3, rfl, rfl, rfl, h3, r3⟩ := trodAll_cons r2
  obtain ⟨rfl, rfl, rfl⟩ := trodAll_nil r3
  obtain rfl : args = #[v0, v1, v2, v3] := by cases args; simp_all
  obtain ⟨rfl, rfl⟩ := trodVars_none hV
  have k0 := h0
  have lt0 : ∀ x ∈ p0, x.block < W.heap.size := by
    obtain ⟨m, hm⟩ := k0
    exact DataW.trod_lt m _ _ _ hm
  have k1 := h1
  have lt1 : ∀ x ∈ p1, x.block < W.heap.size := by
    obtain ⟨m, hm⟩ := k1
    exact DataW.trod_lt m _ _ _ hm
  have k2 := h2
  have lt2 : ∀ x ∈ p2, x.block < W.heap.size := by
    obtain ⟨m, hm⟩ := k2
    exact DataW.trod_lt m _ _ _ hm
  have k3 := h3
  have lt3 : ∀ x ∈ p3, x.block < W.heap.size := by
    obtain ⟨m, hm⟩ := k3
    exact DataW.trod_lt m _ _ _ hm
  obtain ⟨l0, hv0, hb0, hm0⟩ := open_segs (hval 0 33 v0 rfl rfl) h0
  obtain ⟨a1, rfl, rfl, rfl, w1⟩ := open_int Try.underlying26 (hval 1 26 v1 rfl rfl) h1
  obtain ⟨a2, rfl, rfl, rfl, w2⟩ := open_int Try.underlying26 (hval 2 26 v2 rfl rfl) h2
  obtain ⟨a3, rfl, rfl, rfl, w3⟩ := open_int Try.underlying26 (hval 3 26 v3 rfl rfl) h3
  clear hA0 hval0
  refine (walk W v0 l0 hv0 hb0 hm0 a1 a2 a3 w1 w2 w3).mono fun e W' ⟨he, bel⟩ => ?_
  subst he
  exact ⟨_, rfl, _, _, _, [], _, [], hW', trodAll_mk1 (shut_bool Try.underlying4 _), (trodAll_cons_mk (Below.trod laidOut (by kernel_rfl) (of_decide_eq_true (by kernel_rfl)) k0 bel lt0) (trodAll_cons_mk (Below.trod laidOut (by kernel_rfl) (of_decide_eq_true (by kernel_rfl)) k1 bel lt1) (trodAll_cons_mk (Below.trod laidOut (by kernel_rfl) (of_decide_eq_true (by kernel_rfl)) k2 bel lt2) (trodAll_cons_mk (Below.trod laidOut (by kernel_rfl) (of_decide_eq_true (by kernel_rfl)) k3 bel lt3) trodAll_mk0)))), rfl, bel.frame _, fun h => by cases h⟩

theorem over : Rows.segCutsRow.holds Try.pinned (OpenSpec.ofChange Rows.segCutsSpec) :=
  OpenClaim.holds_of_wide 6 Try.f6 rfl rfl rfl rfl rfl rfl rfl ⟨rfl, rfl, rfl, rfl, rfl⟩ rfl rfl rfl rfl rfl (by kernel_rfl) Try.func6 (by kernel_rfl)
    (of_decide_eq_true (by kernel_rfl)) (by unfold Func.isWrapper; first | (rw [if_pos (by decide +kernel)]; kernel_rfl) | (rw [if_neg (by decide +kernel)]; exact ⟨rfl, rfl⟩))
    (fun os started H enc _ => lifted os started H enc)

/-- THE STATEMENT -/
theorem segCuts_holds : Rows.SegCutsSaid := over
#print axioms segCuts_holds
end Go.Proofs.Yteolnghnlfeakaa.segCuts
