/-
  PROVED: dumbwaiterlaw05.SegBoth returns true for every list of segments, bytes and number, and what was in memory stays as it was. Conditions: none.
-/
import Derived.Test.YteolnghnlfeakaaRows
import Derived.Test.YteolnghnlfeakaaPg15
import Derived.Test.YteolnghnlfeakaaSgOpen
import Derived.Test.YteolnghnlfeakaaOwn
import Derived.Test.YteolnghnlfeakaaArg
import Derived.WalkKit
import Derived.ProofKit
import Derived.OpenShut
import Derived.ShutString
import Derived.ChangeOld
import Derived.Below
import Derived.Carry
import Derived.Lib.SmallJoins
namespace Go.Proofs.Yteolnghnlfeakaa.segBoth
open Go.ChangeShapes Go.WideShapes Go.ChangeAt Go.RowKit
set_option linter.unusedVariables false


set_option maxRecDepth 100000 in
set_option maxHeartbeats 2000000 in
theorem walk (w : World) (v : Value) (L : List Sg) (hv : SegsAt w v L) (hu : isSgs L) (hm : L.length ≤ maxLen) (vb : Value) (l : List Int) (hb : BytesAt w vb l) (hlb : isBytes l) (hml : l.length ≤ maxLen) (a2 : Int) (w2 : (Lit.int .u64 a2).wf = true) :
    Calls Try.prog 7 #[v, vb, .int .u64 a2] w fun e w' => e = .returned (.bool true) ∧ Below w.heap.size w w' := by
  have HV := hid_mk hv
  have HU := hid_mk hu
  have HBy := hid_mk hb
  have HLB := hid_mk hlb
  obtain ⟨va, vc, rfl⟩ := hv.len
  obtain ⟨vb1, vb2, rfl⟩ := bytes_len hb
  have hbk : ∀ b o, vb1 = some ⟨b, o, none⟩ → l = [] ∨ b < w.heap.size := fun b o e => by
    rcases hb with ⟨_, hl⟩ | ⟨b', o', c', he, h2, _⟩
    · exact Or.inl hl
    · cases he
      cases e
      exact Or.inr h2
  have HBK := hid_mk hbk
  obtain ⟨b20, b21⟩ := bounds_u64 w2
  clear w2 hv hb hlb hbk
  by_cases h100 : 100 < L.length
  · have h100i : (100 : Int) < (L.length : Int) := by omega
    go_enter Try.func7, Try.ntmps7
    go_wp2_with (go_at_call 13; refine (lives5_any _).mono ?_; rintro e w1 ⟨rfl, hb1⟩)
    go_ret
    exact ⟨rfl, hb1⟩
  have h100i : (L.length : Int) ≤ 100 := by omega
  by_cases h2000 : 2000 < l.length
  · have h2000i : (2000 : Int) < (l.length : Int) := by omega
    go_enter Try.func7, Try.ntmps7
    go_wp2_with (go_at_call 13; refine (lives5_any _).mono ?_; rintro e w1 ⟨rfl, hb1⟩)
    go_ret
    exact ⟨rfl, hb1⟩
  have h2000i : (l.length : Int) ≤ 2000 := by omega
  have HL2 : Hid (l.length ≤ 2000) := hid_mk (by omega)
  clear hm hml h2000
  have HCk := hid_mk (fun u (h : SegsAt u (.slice va L.length vc) L) => pcheck _ L u h hu)
  by_cases hE : segE L = 0
  · rw [hE] at HCk
    have HE := hid_mk hE
    obtain ⟨M1, hM1⟩ : ∃ M1, writeM R1 (List.replicate (sumR R1) 0) 0 l = M1 := ⟨_, rfl⟩
    have HM1 := hid_mk hM1
    have HWE := hid_mk (write_start HL2.out)
    by_cases hI : inE R1 L = 0
    · have hall := inE_all hE hI
      obtain ⟨o1, o2, o3⟩ := (segE_ok hu).1 hE
      have hsm := sum_in hall
      have hRT := totS_sum L
      have hbd0 := tot_bd false hu hE
      have hbd1 := tot_bd true hu hE
      obtain ⟨q, hq⟩ : ∃ q : Nat, totS true L = (q : Int) := ⟨(totS true L).toNat, by omega⟩
      obtain ⟨r, hr⟩ : ∃ r, totS false L = r := ⟨_, rfl⟩
      obtain ⟨P, hP⟩ : ∃ P, partS false L = P := ⟨_, rfl⟩
      have hPu : isSgs P := hP ▸ partS_is hu
      have hPe : segE P = 0 := hP ▸ segE_part hu hE
      have hPs : sumS P = r := by
        rw [← hP, sumS_part, hr]
      have hPa : allIn R1 P = true := hP ▸ allIn_part hall
      obtain ⟨p1, p2, p3⟩ := (segE_ok hPu).1 hPe
      rw [hr] at hbd0 hRT
      rw [hq] at hbd1 hRT
      obtain ⟨d, hd⟩ : ∃ d, a2 % (r + 1) = d := ⟨_, rfl⟩
      have d0 : 0 ≤ d := by
        rw [← hd]
        exact Int.emod_nonneg _ (by omega)
      have d1 : d < r + 1 := by
        rw [← hd]
        exact Int.emod_lt_of_pos _ (by omega)
      obtain ⟨A, hA⟩ : ∃ A, cutS P 0 d = A := ⟨_, rfl⟩
      obtain ⟨B, hB⟩ : ∃ B, cutS P d r = B := ⟨_, rfl⟩
      have hAE := segE_cut (f := 0) (n := d) hPu hPe (Int.le_refl 0) d0
      have hBE := segE_cut (f := d) (n := r) hPu hPe d0 hbd0.1
      have hAa := allIn_cut okR1 P 0 d hPu hPa (Int.le_refl 0) d0
      have hBa := allIn_cut okR1 P d r hPu hPa d0 hbd0.1
      have htwo := gat_two okR1 M1 P d r false hPu p2 hPa d0 (by omega) hbd0.1
      rw [hA] at hAE hAa htwo
      rw [hB] at hBE hBa htwo
      obtain ⟨G, hG⟩ : ∃ G, gatS R1 M1 L = G := ⟨_, rfl⟩
      obtain ⟨GA, hGA⟩ : ∃ G, gatS R1 M1 A = G := ⟨_, rfl⟩
      obtain ⟨GB, hGB⟩ : ∃ G, gatS R1 M1 B = G := ⟨_, rfl⟩
      have hGP : gatS R1 M1 P = G := by
        rw [← hP, gatS_part, hG]
      rw [hGA, hGB, hGP] at htwo
      have hGl : M1.length = sumR R1 → (G.length : Int) = r := fun h => by
        rw [← hG, gatS_length h hu hall, hr]
      have hGAl : (GA.length : Int) ≤ 1000000 := by
        have := gatS_le R1 M1 hAE.2
        have h2 := sum_cut (f := 0) (n := d) hPu (Int.le_refl 0) d0
        rw [hA] at h2
        rw [hGA] at this
        split at h2 <;> omega
      have hGBl : (GB.length : Int) ≤ 1000000 := by
        have := gatS_le R1 M1 hBE.2
        have h2 := sum_cut (f := d) (n := r) hPu d0 hbd0.1
        rw [hB] at h2
        rw [hGB] at this
        split at h2 <;> omega
      have HI := hid_mk hI
      have HR := hid_mk hr
      have HQ := hid_mk hq
      have HP := hid_mk hP
      have HPu := hid_mk hPu
      have HPe := hid_mk hPe
      have HA := hid_mk hA
      have HB := hid_mk hB
      have HAe := hid_mk hAE.1
      have HAu := hid_mk hAE.2
      have HAi := hid_mk (inE_yes hAE.1 hAa)
      have HBe := hid_mk hBE.1
      have HBu := hid_mk hBE.2
      have HBi := hid_mk (inE_yes hBE.1 hBa)
      have HG := hid_mk hG
      have HGA := hid_mk hGA
      have HGB := hid_mk hGB
      have HT2 := hid_mk htwo
      have HGl := hid_mk hGl
      have hq8 : (q : Int) + 5 ≤ 1000000 := by omega
      have hq8n : q + 5 ≤ 1000000 := by omega
      have HQ8 := hid_mk hq8n
      have hcat : strOfNums GA ++ strOfNums GB = strOfNums G := by
        rw [← htwo, strOfNums_append]
      have hsz : (9223372036854775807 < (strOfNums GA).size + (strOfNums GB).size) = False := by
        have h1 := strOfNums_size GA
        have h2 := strOfNums_size GB
        simp only [eq_iff_iff, iff_false]
        omega
      have HSz := hid_mk hsz
      have HCat := hid_mk hcat
      have hr0 : 0 ≤ r := hbd0.1
      have hr1 : r ≤ 1000000 := by omega
      have HA2 := hid_mk b20
      clear b20 b21 hq8
      clear hsz
      clear hcat hq8n hGAl hGBl hGl hGP hGA hGB hG htwo hAE hBE hAa hBa hA hB p1 p2 p3 hPa hPs hPe hPu hP hr hq hbd0 hbd1 hRT hsm o1 o2 o3 hall hI hM1 hE hu
      go_enter Try.func7, Try.ntmps7
      go_wp2_with fail
      refine (lives5_any _).mono ?_
      rintro e w1 ⟨rfl, hb⟩
      have HB1 := hid_mk hb
      clear hb
      go_wp2_with fail
      refine (HCk.out _ (HV.out.below HB1.out)).mono ?_
      rintro e w2 ⟨rfl, hb⟩
      have HB2 := hid_mk (below_then HB1.out hb)
      clear hb HCk
      go_wp2_with fail
      refine (new_any _ R1 _ (regsLit w2 R1 28) (isRegs_of (by decide)) (by decide) (by decide) (by decide)).mono ?_
      rintro e w3 ⟨p, ib, qb, rfl, hm, ⟨g1, g2, g3⟩, hb⟩
      have M3 := hid_mk hm
      have HB3 := hid_mk (below_new HB2.out hb)
      have gi : w.heap.size ≤ ib := by
        have := HB2.out.size
        rw [sizeA] at g2
        omega
      have gl := lt_blk hm.img
      have GI := hid_mk gi
      have GL := hid_mk gl
      clear hb hm g1 g2 g3 gi gl
      go_wp2_with fail
      refine (own_any _ l _ (HBy.out.below HB3.out) (Nat.le_trans HL2.out (by decide))).mono ?_
      rintro e w4 ⟨v4, rfl, hn, hb⟩
      have M4 := hid_mk (M3.out.below hb)
      have HB4 := hid_mk (below_then HB3.out hb)
      have HN4 := hid_mk hn.at
      obtain ⟨x4, y4, rfl⟩ := newBytes_len hn
      clear hb hn
      go_wp2_with fail
      refine (write_any p ib qb R1 _ 0 _ l _ M4.out (by simp [U64]) HN4.out HLB.out (Nat.le_trans HL2.out (by decide))).mono ?_
      rw [HWE.out, HM1.out]
      rintro e w5 ⟨rfl, hm, hc⟩
      have M5 := hid_mk hm
      have HB5 := hid_mk (hc.since1 HB4.out GI.out)
      clear hm hc
      go_wp2_with fail
      refine (pin _ L p ib qb R1 _ _ (HV.out.below HB5.out) HU.out M5.out).mono ?_
      rw [HI.out]
      rintro e w6 ⟨rfl, hb⟩
      have M6 := hid_mk (M5.out.below hb)
      have HB6 := hid_mk (below_then HB5.out hb)
      clear hb
      go_wp2_with fail
      refine (ptotal_ok (HV.out.below HB6.out) HU.out HE.out HR.out HQ.out).mono ?_
      rintro e w7 ⟨rfl, hb⟩
      have M7 := hid_mk (M6.out.below hb)
      have HB7 := hid_mk (below_then HB6.out hb)
      clear hb
      go_wp2_with fail
      refine (ppart_ok (HV.out.below HB7.out) HU.out HE.out HP.out).mono ?_
      rintro e w8 ⟨xP, yP, rfl, ho, hb⟩
      have M8 := hid_mk (M7.out.below hb)
      have HB8 := hid_mk (below_then HB7.out hb)
      have HOP8 := hid_mk ho.at
      clear hb ho
      have hw1 : IntKind.u64.wrap (r + 1) = r + 1 := by rw [IntKind.wrap_u64]; omega
      have hnz : ¬ (r + 1 = 0) := by omega
      have b20 := HA2.out
      go_wp2_with fail
      rw [hd]
      clear hd b20 hw1 hnz
      refine (pgat_ok (HV.out.below HB8.out) HU.out M8.out HI.out HG.out).mono ?_
      rintro e w9 ⟨xG, yG, rfl, hn, hb⟩
      have M9 := hid_mk (M8.out.below hb)
      have HB9 := hid_mk (below_then HB8.out hb)
      have HOP9 := hid_mk (HOP8.out.below hb)
      have HN9 := hid_mk hn
      have hi8 : ib < w8.heap.size := lt_blk M8.out.img
      have HI8 := hid_mk hi8
      clear hb hn hi8
      go_wp2_with fail
      refine (pcut_ok HOP9.out HPu.out HPe.out ⟨by omega, by omega⟩ ⟨d0, by omega⟩ HA.out).mono ?_
      rintro e w10 ⟨xA, yA, rfl, ho, hb⟩
      have M10 := hid_mk (M9.out.below hb)
      have HB10 := hid_mk (below_then HB9.out hb)
      have HOP10 := hid_mk (HOP9.out.below hb)
      have HN10 := hid_mk (HN9.out.below hb)
      have HOA := hid_mk ho.at
      clear hb ho
      go_wp2_with fail
      refine (pgat_ok HOA.out HAu.out M10.out HAi.out HGA.out).mono ?_
      rintro e w11 ⟨xGA, yGA, rfl, hn, hb⟩
      have M11 := hid_mk (M10.out.below hb)
      have HB11 := hid_mk (below_then HB10.out hb)
      have HOP11 := hid_mk (HOP10.out.below hb)
      have HN11 := hid_mk (HN10.out.below hb)
      have HNA11 := hid_mk hn
      have HI10 : Hid (ib < w10.heap.size) := lt_blk M10.out.img
      clear hb hn
      go_wp2_with fail
      refine (pcut_ok HOP11.out HPu.out HPe.out ⟨d0, by omega⟩ ⟨hr0, by omega⟩ HB.out).mono ?_
      rintro e w12 ⟨xB, yB, rfl, ho, hb⟩
      have M12 := hid_mk (M11.out.below hb)
      have HB12 := hid_mk (below_then HB11.out hb)
      have HN12 := hid_mk (HN11.out.below hb)
      have HNA12 := hid_mk (HNA11.out.below hb)
      have HOB := hid_mk ho.at
      clear hb ho
      go_wp2_with fail
      refine (pgat_ok HOB.out HBu.out M12.out HBi.out HGB.out).mono ?_
      rintro e w13 ⟨xGB, yGB, rfl, hn, hb⟩
      have M13 := hid_mk (M12.out.below hb)
      have HB13 := hid_mk (below_then HB12.out hb)
      have HN13 := hid_mk (HN12.out.below hb)
      have HNA13 := hid_mk (HNA12.out.below hb)
      have HNB13 := hid_mk hn
      have HI12 : Hid (ib < w12.heap.size) := lt_blk M12.out.img
      clear hb hn
      go_wp2_with fail
      refine (image_any p ib qb R1 _ _ M13.out).mono ?_
      rintro e w14 ⟨v14, rfl, hn, hb⟩
      have M14 := hid_mk (M13.out.below hb)
      have HB14 := hid_mk (below_then HB13.out hb)
      have HN14 := hid_mk (HN13.out.below hb)
      have HNA14 := hid_mk (HNA13.out.below hb)
      have HNB14 := hid_mk (HNB13.out.below hb)
      obtain ⟨x14, y14, rfl⟩ := newBytes_len hn
      have hcvI := convN hn
      clear hb hn
      go_wp2_with fail
      refine (pscat_ok (l := []) (n := 0) (HV.out.below HB14.out) HU.out rfl (Or.inl ⟨⟨none, 0, rfl, fun _ => rfl⟩, rfl⟩) isBytes_nil (by decide) M14.out (fun b o e => by cases e) HI.out (show min (([] : List Int).length : Int) (totS true L) = 0 by rw [HQ.out]; simp; omega) (scatS_empty R1 L M1)).mono ?_
      rintro e w15 ⟨rfl, hm, hc⟩
      have M15 := hid_mk hm
      have HB15 := hid_mk (hc.since1 HB14.out GI.out)
      have hcv1 := conv_new HN14.out ib hc HI8.out
      have hcv2 := conv_new HNA14.out ib hc HI10.out
      have hcv3 := conv_new HNB14.out ib hc HI12.out
      have hGlen : (G.length : Int) = r := HGl.out M15.out.len
      have hGw : IntKind.u64.wrap (G.length : Int) = r := by rw [hGlen, IntKind.wrap_u64]; omega
      have hneR : (r != r) = false := by simp
      have hcat := HCat.out
      have hsz := HSz.out
      have HGlen := hid_mk hGlen
      clear hm hc hcvI hGlen
      go_wp2_with fail
      refine (image_any p ib qb R1 _ _ M15.out).mono ?_
      rintro e w16 ⟨v16, rfl, hn, hb⟩
      have M16 := hid_mk (M15.out.below hb)
      have HB16 := hid_mk (below_then HB15.out hb)
      obtain ⟨x16, y16, rfl⟩ := newBytes_len hn
      have hcvI := convN hn
      have hq0 : (q : Int) ≤ 1000000 := by have := HQ8.out; omega
      have hqw := (i64_small (Int.natCast_nonneg q) hq0).1
      have hqw2 := (i64_small (Int.natCast_nonneg q) hq0).2
      have hq5 : (q : Int) + 5 ≤ 1000000 := by have := HQ8.out; omega
      have hq50 : 0 ≤ (q : Int) + 5 := by omega
      have hq5w := (i64_small hq50 hq5).1
      have hq5w2 := (i64_small hq50 hq5).2
      have hquw : IntKind.u64.wrap (q : Int) = (q : Int) := by rw [IntKind.wrap_u64]; omega
      have hmk : ∀ u, (Instr.makeSlice 38 (.int .i64 ((q : Int) + 5)) (.int .i64 ((q : Int) + 5))).run Try.prog u = .ok (.slice (some ⟨u.heap.size, 0, none⟩) (q + 5) (q + 5)) (u.alloc (.cells (bv (List.replicate (q + 5) 0)) 5)) := fun u => makeB u .i64 (q + 5) (by omega)
      clear hn hb hcv1 hcv2 hcv3 hcat hsz hneR hGw hq0 hq5 hq50
      have hb17 := bytesLit w16 (List.replicate (q + 5) 0) 5
      rw [List.length_replicate] at hb17
      have HBy17 := hid_mk hb17
      have HI16 : Hid (ib < w16.heap.size) := lt_blk M16.out.img
      clear hb17
      go_wp2_with fail
      refine (pscat_ok (l := List.replicate (q + 5) 0) (HV.out.below (HB16.out.alloc HB16.out.size _)) HU.out (by simp) HBy17.out (fun x hx => by rw [List.eq_of_mem_replicate hx]; decide) (by have := HQ8.out; simp; omega) (M16.out.below ((Below.refl _ _).alloc (Nat.le_refl _) _)) (fun b o e => by cases e; have := HI16.out; omega) HI.out (k := (q : Int)) (by rw [HQ.out]; simp; omega) rfl).mono ?_
      rintro e w17 ⟨rfl, hm, hc⟩
      have HB17 := hid_mk (hc.since1 (HB16.out.alloc HB16.out.size _) GI.out)
      clear hm hc hmk
      go_wp2_with fail
      go_ret
      exact ⟨rfl, HB17.out⟩
    · have HI := hid_mk (inE_five hE hI)
      clear hM1 hE hu hI b20 b21
      go_enter Try.func7, Try.ntmps7
      go_wp2_with fail
      refine (lives5_any _).mono ?_
      rintro e w1 ⟨rfl, hb⟩
      have HB1 := hid_mk hb
      clear hb
      go_wp2_with fail
      refine (HCk.out _ (HV.out.below HB1.out)).mono ?_
      rintro e w2 ⟨rfl, hb⟩
      have HB2 := hid_mk (below_then HB1.out hb)
      clear hb HCk
      go_wp2_with fail
      refine (new_any _ R1 _ (regsLit w2 R1 28) (isRegs_of (by decide)) (by decide) (by decide) (by decide)).mono ?_
      rintro e w3 ⟨p, ib, qb, rfl, hm, ⟨g1, g2, g3⟩, hb⟩
      have M3 := hid_mk hm
      have HB3 := hid_mk (below_new HB2.out hb)
      have gi : w.heap.size ≤ ib := by
        have := HB2.out.size
        rw [sizeA] at g2
        omega
      have gl := lt_blk hm.img
      have GI := hid_mk gi
      have GL := hid_mk gl
      clear hb hm g1 g2 g3 gi gl
      go_wp2_with fail
      refine (own_any _ l _ (HBy.out.below HB3.out) (Nat.le_trans HL2.out (by decide))).mono ?_
      rintro e w4 ⟨v4, rfl, hn, hb⟩
      have M4 := hid_mk (M3.out.below hb)
      have HB4 := hid_mk (below_then HB3.out hb)
      have HN4 := hid_mk hn.at
      obtain ⟨x4, y4, rfl⟩ := newBytes_len hn
      clear hb hn
      go_wp2_with fail
      refine (write_any p ib qb R1 _ 0 _ l _ M4.out (by simp [U64]) HN4.out HLB.out (Nat.le_trans HL2.out (by decide))).mono ?_
      rw [HWE.out, HM1.out]
      rintro e w5 ⟨rfl, hm, hc⟩
      have M5 := hid_mk hm
      have HB5 := hid_mk (hc.since1 HB4.out GI.out)
      clear hm hc
      go_wp2_with fail
      refine (pin _ L p ib qb R1 _ _ (HV.out.below HB5.out) HU.out M5.out).mono ?_
      rw [HI.out]
      rintro e w6 ⟨rfl, hb⟩
      have M6 := hid_mk (M5.out.below hb)
      have HB6 := hid_mk (below_then HB5.out hb)
      clear hb
      go_wp2_with fail
      refine (pgat_bad (HV.out.below HB6.out) HU.out M6.out HI.out (by decide)).mono ?_
      rintro e w7 ⟨x7, y7, rfl, hb⟩
      have M7 := hid_mk (M6.out.below hb)
      have HB7 := hid_mk (below_then HB6.out hb)
      clear hb
      go_wp2_with fail
      refine (pscat_bad (HV.out.below HB7.out) HU.out M7.out HI.out (by decide)).mono ?_
      rintro e w8 ⟨rfl, hb⟩
      have HB8 := hid_mk (below_then HB7.out hb)
      clear hb
      go_wp2_with fail
      go_ret
      exact ⟨rfl, HB8.out⟩
  · have hE2 : (segE L != 0) = true := by simp [hE]
    generalize segE L = x at *
    clear hE hu
    go_enter Try.func7, Try.ntmps7
    go_wp2_with fail
    refine (lives5_any _).mono ?_
    rintro e w1 ⟨rfl, hb⟩
    have HB1 := hid_mk hb
    clear hb
    go_wp2_with fail
    refine (HCk.out _ (HV.out.below HB1.out)).mono ?_
    rintro e w2 ⟨rfl, hb⟩
    have HB2 := hid_mk (below_then HB1.out hb)
    clear hb
    go_wp2_with fail
    go_ret
    exact ⟨rfl, HB2.out⟩

/-! ### the row's frame -/
theorem own : ownKnob Try.prog.godebug = none := by kernel_rfl
theorem laidOut : laidOutB Try.prog = true := by kernel_rfl

set_option maxRecDepth 100000 in
theorem lifted (os : Os) (started : os.Started) (H : Type) (enc : TypeId × Value → H) :
    ReturnsInHanded {} Try.checked os 7 .any (Rows.segBothSpec.pre6 enc Try.prog Try.f7 Rows.segBothRow.domain false) (Rows.segBothSpec.post enc Try.prog Try.f7 false true false false) := by
  refine returnsInHanded_of_change (C := Try.checked) own started (by kernel_rfl) Try.func7
    (ChangeSpec.witness6 (enc := enc) (C := Try.checked) false ⟨#[], #[.slice none 0 0, .slice none 0 0, .int .u64 0], []⟩ 8 (by kernel_rfl) (by kernel_rfl) (by kernel_rfl) (by kernel_rfl)) ?_
  intro W base args ds gs before hval0 hW hcnd _
  have hval : ∀ (j : Nat) t v, Try.f7.params[j]? = some t → args[j]? = some v → Value.okWide Try.prog W .any base t v := hval0
  have hW' := hW
  obtain ⟨p, q, hA0, hV, rfl, hfz, hnd⟩ := hW
  have hA : DataW.TrodAll enc Try.prog W 0 (fun _ => true) true Try.f7.params.toList args.toList ds p := hA0
  rw [Try.params7] at hA hval
  obtain ⟨v0, vs0, d0, ds0, p0, q0, hargs, rfl, rfl, h0, r0⟩ := trodAll_cons hA
  obtain ⟨v1, vs1, d1, ds1, p1, q1, rfl, rfl, rfl, h1, r1⟩ := trodAll_cons r0
  obtain ⟨v2, vs2, d2, ds2, p2, q2, rfl, rfl, rfl, h2, r2⟩ := trodAll_cons r1
  obtain ⟨rfl, rfl, rfl⟩ := trodAll_nil r2
  obtain rfl : args = #[v0, v1, v2] := by cases args; simp_all
  obtain ⟨rfl, rfl⟩ := trodVars_none hV
  have k0 := h0
  have lt0 : ∀ x ∈ p0, x.block < W.heap.size := by
    obtain ⟨m, hm⟩ := k0
    exact DataW.trod_lt m _ _ _ hm
  have k1 := h1
  have lt1 : ∀ x ∈ p1, x.block < W.heap.size := by
    obtain ⟨m, hm⟩ := k1
    exact DataW.trod_lt m _ _ _ hm
  have k2 := h2
  have lt2 : ∀ x ∈ p2, x.block < W.heap.size := by
    obtain ⟨m, hm⟩ := k2
    exact DataW.trod_lt m _ _ _ hm
  obtain ⟨l0, hv0, hb0, hm0⟩ := open_segs (hval 0 33 v0 rfl rfl) h0
  obtain ⟨l1, hv1, hb1, hm1⟩ := open_bytes (hval 1 38 v1 rfl rfl) h1
  obtain ⟨a2, rfl, rfl, rfl, w2⟩ := open_int Try.underlying26 (hval 2 26 v2 rfl rfl) h2
  clear hA0 hval0
  refine (walk W v0 l0 hv0 hb0 hm0 v1 l1 hv1 hb1 hm1 a2 w2).mono fun e W' ⟨he, bel⟩ => ?_
  subst he
  exact ⟨_, rfl, _, _, _, [], _, [], hW', trodAll_mk1 (shut_bool Try.underlying4 _), (trodAll_cons_mk (Below.trod laidOut (by kernel_rfl) (of_decide_eq_true (by kernel_rfl)) k0 bel lt0) (trodAll_cons_mk (Below.trod laidOut (by kernel_rfl) (of_decide_eq_true (by kernel_rfl)) k1 bel lt1) (trodAll_cons_mk (Below.trod laidOut (by kernel_rfl) (of_decide_eq_true (by kernel_rfl)) k2 bel lt2) trodAll_mk0))), rfl, bel.frame _, fun h => by cases h⟩

theorem over : Rows.segBothRow.holds Try.pinned (OpenSpec.ofChange Rows.segBothSpec) :=
  OpenClaim.holds_of_wide 7 Try.f7 rfl rfl rfl rfl rfl rfl rfl ⟨rfl, rfl, rfl, rfl, rfl⟩ rfl rfl rfl rfl rfl (by kernel_rfl) Try.func7 (by kernel_rfl)
    (of_decide_eq_true (by kernel_rfl)) (by unfold Func.isWrapper; first | (rw [if_pos (by decide +kernel)]; kernel_rfl) | (rw [if_neg (by decide +kernel)]; exact ⟨rfl, rfl⟩))
    (fun os started H enc _ => lifted os started H enc)

/-- THE STATEMENT -/
theorem segBoth_holds : Rows.SegBothSaid := over
#print axioms segBoth_holds
end Go.Proofs.Yteolnghnlfeakaa.segBoth
