/-
  PROVED: dumbwaiterlaw05.SegScatters returns true for every list of segments, bytes and fill byte, and what was in memory stays as it was. Conditions: none.
-/
import Derived.Test.YteolnghnlfeakaaKp29
import Derived.Test.YteolnghnlfeakaaKp08
import Derived.Test.YteolnghnlfeakaaKp17
import Derived.Test.YteolnghnlfeakaaKp30
import Derived.Test.YteolnghnlfeakaaRows
import Derived.WalkKit
import Derived.ProofKit
import Derived.OpenShut
import Derived.ShutString
import Derived.ChangeOld
import Derived.Below
import Derived.Carry
import Derived.Lib.SmallJoins
import Derived.RegionTactic
import Derived.ChangeAlike

namespace Go.Proofs.Yteolnghnlfeakaa.segScatters
open Go.ChangeShapes Go.WideShapes Go.ChangeAt Go.RowKit
set_option linter.unusedVariables false


set_option maxRecDepth 100000 in
set_option maxHeartbeats 1000000 in
theorem walk_long (w : World) (va vl : Option Addr) (vc vm nL nl : Nat) (fill : Int) (h : 100 < nL ∨ nL ≤ 100 ∧ 20000 < nl) :
    Calls Try.prog 5 #[.slice va nL vc, .slice vl nl vm, .int .u8 fill] w fun e w' => e = .returned (.bool true) ∧ Below w.heap.size w w' := by
  rcases h with h | ⟨h1, h2⟩
  · have hi : (100 : Int) < (nL : Int) := by omega
    clear h
    go_enter Try.func5, Try.ntmps5
    go_wp2_with (go_at_call 13; refine (lives5_any _).mono ?_; rintro e w1 ⟨rfl, hb1⟩)
    go_ret
    exact ⟨rfl, hb1⟩
  · have hi : (nL : Int) ≤ 100 := by omega
    have hj : (20000 : Int) < (nl : Int) := by omega
    clear h1 h2
    go_enter Try.func5, Try.ntmps5
    go_wp2_with (go_at_call 13; refine (lives5_any _).mono ?_; rintro e w1 ⟨rfl, hb1⟩)
    go_ret
    exact ⟨rfl, hb1⟩

set_option maxRecDepth 100000 in
set_option maxHeartbeats 1000000 in
theorem walk_bad (w : World) (va vl : Option Addr) (vc vm nl : Nat) (L : List Sg) (fill : Int) (hv : SegsAt w (.slice va L.length vc) L) (hu : isSgs L) (h1 : L.length ≤ 100) (h2 : nl ≤ 20000) (hE : segE L ≠ 0) :
    Calls Try.prog 5 #[.slice va L.length vc, .slice vl nl vm, .int .u8 fill] w fun e w' => e = .returned (.bool true) ∧ Below w.heap.size w w' := by
  have h1i : (L.length : Int) ≤ 100 := by omega
  have h2i : (nl : Int) ≤ 20000 := by omega
  have HV := hid_mk hv
  have hE2 : (segE L != 0) = true := by simp [hE]
  have HCk := hid_mk (fun u (h : SegsAt u (.slice va L.length vc) L) => pcheck _ L u h hu)
  clear hv hu h1 h2 hE
  generalize segE L = x at *
  go_enter Try.func5, Try.ntmps5
  go_wp2_with fail
  refine (lives5_any _).mono ?_
  rintro e w1 ⟨rfl, hb⟩
  have HB1 := hid_mk hb
  clear hb
  go_wp2_with fail
  refine (HCk.out _ (HV.out.below HB1.out)).mono ?_
  rintro e w2 ⟨rfl, hb⟩
  have HB2 := hid_mk (below_then HB1.out hb)
  clear hb
  go_wp2_with fail
  go_ret
  exact ⟨rfl, HB2.out⟩

set_option maxRecDepth 100000 in
set_option maxHeartbeats 1000000 in
theorem walk_out (w : World) (va vl : Option Addr) (vc vm : Nat) (L : List Sg) (l : List Int) (fill : Int) (hv : SegsAt w (.slice va L.length vc) L) (hu : isSgs L) (hby : BytesAt w (.slice vl l.length vm) l) (hlb : isBytes l) (hf0 : 0 ≤ fill) (hf1 : fill < 256) (h1 : L.length ≤ 100) (h2 : l.length ≤ 20000) (hE : segE L = 0) (hI : inE R1 L ≠ 0) :
    Calls Try.prog 5 #[.slice va L.length vc, .slice vl l.length vm, .int .u8 fill] w fun e w' => e = .returned (.bool true) ∧ Below w.heap.size w w' := by
  have h1i : (L.length : Int) ≤ 100 := by omega
  have h2i : (l.length : Int) ≤ 20000 := by omega
  have HV := hid_mk hv
  have HU := hid_mk hu
  have HBy := hid_mk hby
  have HLB := hid_mk hlb
  have HE := hid_mk hE
  have HL2 := hid_mk (show l.length ≤ 1000000 from Nat.le_trans h2 (by decide))
  have HI := hid_mk (inE_five hE hI)
  clear hv hu hby hlb hf0 hf1 h1 h2 hE hI
  go_enter Try.func5, Try.ntmps5
  go_wp2_with fail
  refine (lives5_any _).mono ?_
  rintro e w1 ⟨rfl, hb⟩
  have HB1 := hid_mk hb
  clear hb
  go_wp2_with fail
  refine (pcheck _ L _ (HV.out.below HB1.out) HU.out).mono ?_
  rw [HE.out]
  rintro e w2 ⟨rfl, hb⟩
  have HB2 := hid_mk (below_then HB1.out hb)
  clear hb
  go_wp2_with fail
  refine (new_any _ R1 _ (regsLit w2 R1 28) (isRegs_of (by decide)) (by decide) (by decide) (by decide)).mono ?_
  rintro e w3 ⟨p, ib, qb, rfl, hm, ⟨g1, g2, g3⟩, hb⟩
  have M3 := hid_mk hm
  have HB3 := hid_mk (below_new HB2.out hb)
  have gi : w.heap.size ≤ ib := by
    have := HB2.out.size
    rw [sizeA] at g2
    omega
  have GI := hid_mk gi
  clear hb hm g1 g2 g3 gi
  go_wp2_with fail
  refine (pin _ L p ib qb R1 _ _ (HV.out.below HB3.out) HU.out M3.out).mono ?_
  rw [HI.out]
  rintro e w4 ⟨rfl, hb⟩
  have M4 := hid_mk (M3.out.below hb)
  have HB4 := hid_mk (below_then HB3.out hb)
  clear hb
  go_wp2_with fail
  go_ret
  exact ⟨rfl, HB4.out⟩

set_option maxRecDepth 100000 in
set_option maxHeartbeats 4000000 in
theorem walk_main (w : World) (va vl : Option Addr) (vc vm : Nat) (L : List Sg) (l : List Int) (fill : Int) (hv : SegsAt w (.slice va L.length vc) L) (hu : isSgs L) (hby : BytesAt w (.slice vl l.length vm) l) (hlb : isBytes l) (hf0 : 0 ≤ fill) (hf1 : fill < 256) (h1 : L.length ≤ 100) (h2 : l.length ≤ 20000) (hE : segE L = 0) (hI : inE R1 L = 0) :
    Calls Try.prog 5 #[.slice va L.length vc, .slice vl l.length vm, .int .u8 fill] w fun e w' => e = .returned (.bool true) ∧ Below w.heap.size w w' := by
  have h1i : (L.length : Int) ≤ 100 := by omega
  have h2i : (l.length : Int) ≤ 20000 := by omega
  have HV := hid_mk hv
  have HU := hid_mk hu
  have HBy := hid_mk hby
  have HLB := hid_mk hlb
  have HE := hid_mk hE
  have HL2 := hid_mk (show l.length ≤ 1000000 from Nat.le_trans h2 (by decide))
  have HI := hid_mk hI
  have hall := inE_all hE hI
  obtain ⟨o1, o2, o3⟩ := (segE_ok hu).1 hE
  have HAll := hid_mk hall
  have HSm : Hid (sumS L ≤ 128000) := by
    have := sum_in hall
    show sumS L ≤ 128000
    omega
  obtain ⟨I0, hI0⟩ : ∃ x, List.replicate 2000 fill = x := ⟨_, rfl⟩
  have hI0l : I0.length = 2000 := by rw [← hI0]; simp
  have hI0b : isBytes I0 := fun x hx => by
    rw [← hI0] at hx
    rw [List.eq_of_mem_replicate hx]
    exact ⟨hf0, hf1⟩
  have HI0 := hid_mk (show fillK fill 2000 2000 = I0 by rw [fillK_all]; exact hI0)
  have HI0l := hid_mk hI0l
  have HI0b := hid_mk hI0b
  have HW1 : Hid (∀ M : List Int, M.length = 2000 → writeM R1 M 0 I0 = I0) := fun M hM => by
    rw [writeR1 hM (by omega) (by omega)]
    exact put_all M I0 (by omega)
  obtain ⟨cs, hcs⟩ : ∃ x, bv (List.replicate 2000 0) = x := ⟨_, rfl⟩
  have HCS := hid_mk (show bv (fillK fill 0 2000) = cs by rw [fillK_zero]; exact hcs)
  have hmk : ∀ u, (Instr.makeSlice 38 (.int .i64 2000) (.int .i64 2000)).run Try.prog u = .ok (.slice (some ⟨u.heap.size, 0, none⟩) 2000 2000) (u.alloc (.cells cs 5)) := fun u => by
    rw [← hcs]
    exact makeB u .i64 2000 (by decide)
  have hmm := @run_makeMap Try.prog
  have HC : Hid (∀ k, k < L.length → ∃ b o, va = some ⟨b, o, none⟩ ∧ b < w.heap.size ∧ at3 w b (o + k * 3) (sat L k)) := fun k hk => by
    rcases hv with ⟨_, hL⟩ | ⟨b, o, c, he, hb1, hb2, hb3⟩
    · rw [hL] at hk
      exact absurd hk (by simp)
    · cases he
      exact ⟨b, o, rfl, hb1, hb3 k hk⟩
  have HCB : Hid (∀ k, k < l.length → ∃ b o, vl = some ⟨b, o, none⟩ ∧ b < w.heap.size ∧ w.cell? ⟨b, o + k, none⟩ = some (.int .u8 (l.getD k 0))) := fun k hk => by
    rcases hby with ⟨_, hL⟩ | ⟨b, o, c, he, hb1, hb2, hb3⟩
    · rw [hL] at hk
      exact absurd hk (by simp)
    · cases he
      exact ⟨b, o, rfl, hb1, hb3 k hk⟩
  obtain ⟨P, hPP⟩ : ∃ x, partS true L = x := ⟨_, rfl⟩
  have HPP := hid_mk hPP
  have HPe := hid_mk (show segE P = 0 from hPP ▸ segE_part hu hE)
  have HPu := hid_mk (show isSgs P from hPP ▸ partS_is hu)
  have HPi := hid_mk (show allIn R1 P = true from hPP ▸ allIn_part hall)
  have HPl := hid_mk (show P.length ≤ 64 from hPP ▸ Nat.le_trans (partS_le true L) o1)
  have HPc := hid_mk (plc_length L hu)
  have HPt := hid_mk (fun M (hM : M.length = 2000) => scat_set L M l hM hu hall)
  have HBk := hid_mk (show ∀ M : List Int, M.length = 2000 → gatS R1 M (P.map rdg) = (plcS L).map fun p => M.getD p 0 from fun M hM => by
    rw [← hPP]
    exact gat_back L M hM hu hall)
  have HBe := hid_mk (fun (hd : (plcS L).Nodup) => back_eq (l := l) hI0l hall hd)
  have HPlt := hid_mk (plc_lt hall)
  have HLoc := hid_mk (fun k (hk : k < L.length) => locR1_some (allIn_at hall hk))
  have HO2 := hid_mk o2
  clear hPP
  clear hv hu hby hlb hf0 hf1 h1 h2 hE hI hall o1 o2 o3 hI0 hI0l hI0b hcs
  go_enter Try.func5, Try.ntmps5
  go_wp2_with fail
  refine (lives5_any _).mono ?_
  rintro e w1 ⟨rfl, hb⟩
  have HB1 := hid_mk hb
  clear hb
  go_wp2_with fail
  refine (pcheck _ L _ (HV.out.below HB1.out) HU.out).mono ?_
  rw [HE.out]
  rintro e w2 ⟨rfl, hb⟩
  have HB2 := hid_mk (below_then HB1.out hb)
  clear hb
  go_wp2_with fail
  refine (new_any _ R1 _ (regsLit w2 R1 28) (isRegs_of (by decide)) (by decide) (by decide) (by decide)).mono ?_
  rintro e w3 ⟨p, ib, qb, rfl, hm, ⟨g1, g2, g3⟩, hb⟩
  have M3 := hid_mk hm
  have HB3 := hid_mk (below_new HB2.out hb)
  have gi : w.heap.size ≤ ib := by
    have := HB2.out.size
    rw [sizeA] at g2
    omega
  have GI := hid_mk gi
  clear hb hm g1 g2 g3 gi
  go_wp2_with fail
  refine (pin _ L p ib qb R1 _ _ (HV.out.below HB3.out) HU.out M3.out).mono ?_
  rw [HI.out]
  rintro e w4 ⟨rfl, hb⟩
  have M4 := hid_mk (M3.out.below hb)
  have HB4 := hid_mk (below_then HB3.out hb)
  clear hb
  go_wp2_with fail
  clear hmk
  go_loopw [10] (fun i wr => ∃ k : Nat, k ≤ 2000 ∧ i = .int .i64 k ∧ Hid (ImgAt wr w4.heap.size (fillK fill k 2000)) ∧ Hid (Chg (· = w4.heap.size) (w4.alloc (.cells cs 5)) wr)) (fun i _ => 2000 - (intOf i).toNat)
  case atStart => exact ⟨0, by omega, rfl, hid_mk (by rw [ImgAt, HCS.out]; exact heap_alloc_new _ _), hid_mk (Chg.refl _ _)⟩
  case round =>
    obtain ⟨k, hk, rfl, himg, hchg⟩ := hrel
    by_cases hlt : k < 2000
    · have hlti : (k : Int) < 2000 := by omega
      obtain ⟨ci, cf⟩ := img_cell (i := k) himg.out (by rw [fillK_len hk]; exact hlt)
      have hi2 := img_set (i := k) (x := fill) himg.out
      rw [fillK_set hlt] at hi2
      have HI2 := hid_mk hi2
      have HC2 := hid_mk (hchg.out.setR (p := ⟨w4.heap.size, k, none⟩) (Or.inl rfl) (.int .u8 fill))
      clear hi2 himg hchg
      go_wp2_with fail
      go_roundw
      case rel => exact ⟨k + 1, by omega, by go_num, HI2, HC2⟩
      case measure => simp [intOf]; omega
    · obtain rfl : k = 2000 := by omega
      rw [HI0.out] at himg
      have hz4 : w4.heap.size < wr.heap.size := lt_blk himg.out
      have hM5 : IsMem wr p ib qb R1 (List.replicate (sumR R1) 0) := by
        have h := M4.out.below ((Below.refl _ _).alloc (Nat.le_refl _) (.cells cs 5))
        have l1 := lt_blk M4.out.obj
        have l2 := lt_blk M4.out.img
        have l3 := lt_blk M4.out.prt
        exact h.keep hchg.out (fun e => by omega) (fun e => by omega) (fun e => by omega)
      have hB5 : Below w.heap.size w wr := hchg.out.since1 (HB4.out.alloc HB4.out.size _) HB4.out.size
      have M5 := hid_mk hM5
      have HB5 := hid_mk hB5
      have HGl := hid_mk (show p < w4.heap.size ∧ ib < w4.heap.size ∧ qb < w4.heap.size from ⟨lt_blk M4.out.obj, lt_blk M4.out.img, lt_blk M4.out.prt⟩)
      have hbi : BytesAt wr (.slice (some ⟨w4.heap.size, 0, none⟩) 2000 2000) I0 := Or.inr ⟨w4.heap.size, 0, 2000, by rw [HI0l.out], hz4, by rw [HI0l.out]; exact Nat.le_refl _, fun j hj => by rw [Nat.zero_add]; exact cellB himg.out j hj⟩
      have HBI := hid_mk hbi
      have HZ4 := hid_mk hz4
      clear hM5 hB5 hbi hchg hz4
      go_wp2_with fail
      refine (own_any _ I0 _ HBI.out (by rw [HI0l.out]; decide)).mono ?_
      rintro e w6 ⟨v6, rfl, hn, hb⟩
      have M6 := hid_mk (M5.out.below hb)
      have HB6 := hid_mk (below_then HB5.out hb)
      have HN6 := hid_mk hn.at
      have HIm6 := hid_mk (show ImgAt w6 w4.heap.size I0 from keepB hb himg.out)
      obtain ⟨x6, y6, rfl⟩ := newBytes_len hn
      have HZ6 := hid_mk (Nat.lt_of_lt_of_le HZ4.out hb.size)
      clear hb hn himg
      go_wp2_with fail
      refine (write_any p ib qb R1 _ 0 _ I0 _ M6.out (by simp [U64]) HN6.out HI0b.out (by rw [HI0l.out]; decide)).mono ?_
      rw [HW1.out _ (by rw [List.length_replicate]; exact sumR1)]
      rintro e w7 ⟨rfl, hm, hc⟩
      have M7 := hid_mk hm
      have HB7 := hid_mk (hc.since1 HB6.out GI.out)
      have HIm7 := hid_mk (show ImgAt w7 w4.heap.size I0 from hc.keep HIm6.out (fun e => by have := HGl.out; omega))
      have HZ7 := hid_mk (Nat.lt_of_lt_of_le HZ6.out hc.size)
      clear hm hc
      go_wp2_with fail
      clear hmm
      have hst : ScI w (w7.alloc (.map #[] 0)) p ib qb w7.heap.size w4.heap.size (w7.heap.size + 1) I0 I0 (tkA L 0 0) (plA L 0 0) (.slice none 0 0) := by
        have hb : Below w7.heap.size w7 (w7.alloc (.map #[] 0)) := (Below.refl _ _).alloc (Nat.le_refl _) _
        have h1 := HGl.out
        have h2 := HZ7.out
        have h3 := HB7.out.size
        refine ⟨HB7.out.alloc HB7.out.size _, M7.out.below hb, ⟨0, _, MapSet.made w7, Nat.zero_le _, fun x hx => ?_⟩, ?_, ?_, keepB hb HIm7.out, ⟨by omega, by omega, by omega, by omega, by omega, h3, by omega, by rw [sizeA]; exact Nat.le_refl _⟩, ⟨by omega, by omega, by omega, by omega⟩⟩
        · rw [tkA_zero]
          simp [tkS]
        · rw [tkA_zero]
          simp [tkS]
        · rw [plA_zero]
          exact World.ownsRow_nil _ _ _ _
      have HST := hid_mk hst
      have HGB := hid_mk HB4.out.size
      clear hst
      generalize hmb : w7.heap.size = mb at *
      generalize hgb : w4.heap.size = gb at *
      have HGl0 := HGl
      clear hmb hgb
      go_loopw [12, 13, 14, 15] (fun pl i _ _ wr => ∃ (k : Nat) (pv : Value), k ≤ L.length ∧ i = .int .i64 k ∧ pv = pl ∧ Hid (ScI w wr p ib qb mb gb (mb + 1) I0 I0 (tkA L k 0) (plA L k 0) pv)) (fun _ i _ _ _ => L.length - (intOf i).toNat)
      case atStart => exact ⟨0, _, Nat.zero_le _, rfl, rfl, HST⟩
      case round =>
        obtain ⟨k, pv, hk, rfl, rfl, hsc⟩ := hrel
        by_cases hlt : k < L.length
        · obtain ⟨b, o, hva, hb1, c0, c1, c2⟩ := HC.out k hlt
          subst hva
          obtain ⟨hl0, hl1, hl2⟩ := HLoc.out k hlt
          obtain ⟨an, han⟩ : ∃ an : Nat, (sat L k).a = (an : Int) := ⟨(sat L k).a.toNat, by omega⟩
          obtain ⟨nk, hnk⟩ : ∃ nk : Nat, (sat L k).n = (nk : Int) := ⟨(sat L k).n.toNat, by omega⟩
          have HTk := hid_mk (tkA_all hlt)
          have HPk := hid_mk (plA_all hlt)
          rw [hnk, Int.toNat_natCast] at HTk HPk
          have HTs := hid_mk (fun j => tkA_step L k j)
          rw [han] at HTs
          simp only [Int.toNat_natCast] at HTs
          have HPy := hid_mk (fun (h : (sat L k).t = true) j => plA_yes (j := j) h)
          rw [han] at HPy
          simp only [Int.toNat_natCast] at HPy
          have HPn := hid_mk (fun (h : (sat L k).t = false) j => plA_no (j := j) h)
          have HTl := hid_mk (fun (j : Nat) (hj : (j : Int) ≤ nk) => tkA_len HU.out (j := j) hlt (by rw [hnk]; exact hj))
          rw [han] at c0
          rw [hnk] at c1
          have hab : (an : Int) + (nk : Int) ≤ 2000 := by omega
          have hnkw : IntKind.u64.wrap (nk : Int) = (nk : Int) := by rw [IntKind.wrap_u64]; omega
          obtain ⟨wo, rfl⟩ : ∃ wo : World, wo = wr := ⟨_, rfl⟩
          clear hl0 hl1 hl2 han hnk
          go_wp2_with fail
          go_loopw [12, 14, 15] (fun pl kk _ wr => ∃ (j : Nat) (pv : Value), j ≤ nk ∧ kk = .int .u64 j ∧ pv = pl ∧ Hid (ScI w wr p ib qb mb gb (mb + 1) I0 I0 (tkA L k j) (plA L k j) pv)) (fun _ kk _ _ => nk - (intOf kk).toNat)
          case atStart => exact ⟨0, _, Nat.zero_le _, rfl, rfl, hsc⟩
          case round =>
            obtain ⟨j, pv, hj, rfl, rfl, hsc⟩ := hrel
            have d1 := (hsc.out.bel.cell (p := ⟨b, o + k * 3 + 1, none⟩) hb1).trans c1
            have hbw : b < wr.heap.size := Nat.lt_of_lt_of_le hb1 hsc.out.bel.size
            by_cases hjl : j < nk
            · have d0 := (hsc.out.bel.cell (p := ⟨b, o + k * 3, none⟩) hb1).trans c0
              have hat : IntKind.u64.wrap ((an : Int) + (j : Int)) = (an : Int) + (j : Int) := by rw [IntKind.wrap_u64]; omega
              have hux : U64 ((an : Int) + (j : Int)) := ⟨by omega, by omega⟩
              have ecast : ((an + j : Nat) : Int) = (an : Int) + (j : Int) := by omega
              have hji : (j : Int) < (nk : Int) := by omega
              obtain ⟨cnt, f, hmap, hcnt, hf⟩ := hsc.out.map
              have hlk := hmap.lookup _ hux
              cases hfx : f ((an : Int) + (j : Int))
              · rw [hfx] at hlk
                have hlen := HTl.out j (by omega)
                have hsm := HSm.out
                obtain ⟨wu, hupd, hmap2, hc2⟩ := hmap.update (by omega) _ hux
                have hsc2 := ScI.add (x := an + j) hsc.out (by omega) hf hcnt (by rw [ecast]; exact hfx) (by rw [ecast]; exact hmap2) hc2
                rw [← HTs.out j] at hsc2
                have d2 := (hsc2.bel.cell (p := ⟨b, o + k * 3 + 2, none⟩) hb1).trans c2
                have hbu : b < wu.heap.size := Nat.lt_of_lt_of_le hb1 hsc2.bel.size
                have e1 : IntKind.u64.wrap ((j : Int) + 1) = (j : Int) + 1 := by rw [IntKind.wrap_u64]; omega
                cases ht : (sat L k).t
                · rw [ht] at d2
                  have HS3 := hid_mk (hsc2.eq rfl (HPn.out ht j).symm)
                  clear hsc hsc2 hmap hmap2 hc2 hf hcnt hfx hux ecast ht hlen hsm
                  go_wp2_with fail
                  go_roundw
                  case rel => exact ⟨j + 1, _, by omega, by go_num, rfl, HS3⟩
                  case measure => simp [intOf]; omega
                · rw [ht] at d2
                  have hpl : (plA L k j).length ≤ 1000000 := by
                    have := plA_len L k j
                    omega
                  obtain ⟨v3, w3', hrun, ho3, hb3⟩ := app_u64 (an + j) hsc2.row hsc2.lo.2.2.2.2.2.2.2 hpl
                  rw [← HPy.out ht j] at ho3
                  have HS3 := hid_mk (hsc2.push hb3 ho3)
                  simp only [Int.natCast_add] at hrun
                  obtain ⟨pa, pc, hpv⟩ := hsc2.row.len
                  have HRun := hid_mk hrun
                  clear hsc hsc2 hmap hmap2 hc2 hf hcnt hfx hux ecast ht hlen hsm hrun ho3 hb3 hpl hpv
                  go_wp2_with (at_builtin; refine wpList_append_run (v := pv) (u := .slice (some ⟨wu.heap.size, 0, none⟩) 1 1) (v' := v3) (w' := w3') rfl (.tmp 102) (.tmp 104) 62 rfl (by first | rfl | go_simp) (by first | rfl | go_simp) (HRun.out _) ?_)
                  go_roundw
                  case rel => exact ⟨j + 1, _, by omega, by go_num, rfl, HS3⟩
                  case measure => simp [intOf]; omega
              · rw [hfx] at hlk
                have HBel := hid_mk hsc.out.bel
                clear hsc hmap hf hcnt hfx hux ecast
                go_wp2_with fail
                go_ret
                exact ⟨rfl, HBel.out⟩
            · obtain rfl : j = nk := by omega
              have HS2 := hid_mk (hsc.out.eq HTk.out HPk.out)
              clear hsc
              go_wp2_with fail
              go_roundw
              case rel => exact ⟨k + 1, _, by omega, by go_num, rfl, HS2⟩
              case measure => simp [intOf]; omega
        · obtain rfl : k = L.length := by omega
          have hnd : (plcS L).Nodup := by
            have h := hsc.out.nod
            rw [tkA_zero, List.take_length] at h
            exact h.sublist (plc_sub L)
          have hrow := hsc.out.row
          rw [plA_zero, List.take_length] at hrow
          have HB10 := hid_mk hsc.out.bel
          have M10 := hid_mk hsc.out.mem
          have HIm10 := hid_mk hsc.out.img
          have HLo := hid_mk hsc.out.lo
          have HPLt := HPlt.out
          have hBe := HBe.out hnd
          have hPt := HPt.out I0 HI0l.out
          have hPc := HPc.out
          have hbk := HBk.out
          clear hsc hnd HBe HPt HPc HBk HPlt HC
          generalize hPL : plcS L = PL at *
          clear hPL
          obtain ⟨nn, hnn⟩ : ∃ nn : Nat, min l.length PL.length = nn := ⟨_, rfl⟩
          have hminI : min (l.length : Int) (PL.length : Int) = (nn : Int) := by omega
          have hn1 : nn ≤ l.length := by omega
          have hn2 : nn ≤ PL.length := by omega
          rw [hnn] at hBe
          have hsm := setAll_min I0 PL l
          rw [hnn] at hsm
          obtain ⟨M', hM'⟩ : ∃ x, setAll I0 PL l = x := ⟨_, rfl⟩
          rw [hM'] at hBe hPt hsm
          have hM'l : M'.length = 2000 := by rw [← hM', setAll_length]; exact HI0l.out
          obtain ⟨G, hG⟩ : ∃ x, (PL.map fun p => M'.getD p 0) = x := ⟨_, rfl⟩
          have hGl : G.length = PL.length := by rw [← hG]; simp
          rw [hG] at hBe
          have hbk2 := hbk M' hM'l
          rw [hG] at hbk2
          have HPt := hid_mk hPt
          have HBk := hid_mk hbk2
          have HBe := hid_mk hBe
          have HSm2 := hid_mk hsm
          have HM'l := hid_mk hM'l
          have HGl := hid_mk hGl
          have HN1 := hid_mk hn1
          have HN2 := hid_mk hn2
          have HPLt := hid_mk HPLt
          have HK := hid_mk (show min (l.length : Int) (totS true L) = (nn : Int) by rw [← hPc]; omega)
          have HNs := hid_mk (show ∀ j, j < nn → setAll I0 (PL.take (j + 1)) (l.take (j + 1)) = (setAll I0 (PL.take j) (l.take j)).set (PL.getD j 0) (l.getD j 0) from fun j hj => setAll_step (by omega) (by omega))
          have HPlen : Hid ((PL.length : Int) ≤ 1000000) := by
            have h1 := HSm.out
            have h2 := totS_sum L
            have h3 := totS_nonneg false HU.out
            show _ ≤ _
            omega
          have hPleni := HPlen.out
          have HRow := hid_mk hrow
          obtain ⟨xU, yU, rfl⟩ := hrow.len
          have HCU : Hid (∀ j, j < PL.length → ∃ g, xU = some ⟨g, 0, none⟩ ∧ mb + 1 ≤ g ∧ g < wr.heap.size ∧ wr.cell? ⟨g, j, none⟩ = some (.int .u64 (PL.getD j 0 : Nat))) := fun j hj => by
            rcases hrow.at with ⟨h0, _⟩ | ⟨g, c, he, h1, h2, h3⟩
            · rw [h0] at hj
              exact absurd hj (by simp)
            · injection he with e1
              exact ⟨g, e1, h1, h2, h3 j hj⟩
          have hli : (l.length : Int) ≤ 20000 := h2i
          have hneN : ((nn : Int) != (nn : Int)) = false := by simp
          clear hrow hM' hG hnn hbk hbk2 hPc hPt hBe hsm hM'l hGl hn1 hn2
          go_wp2_with fail
          refine (own_any _ l _ (HBy.out.below HB10.out) HL2.out).mono ?_
          rintro e w11 ⟨v11, rfl, hn, hb⟩
          have M11 := hid_mk (M10.out.below hb)
          have HB11 := hid_mk (below_then HB10.out hb)
          have HN11 := hid_mk hn.at
          have HIm11 := hid_mk (show ImgAt w11 gb I0 from keepB hb HIm10.out)
          have HZ11 := hid_mk hb.size
          obtain ⟨xN, yN, rfl⟩ := newBytes_len hn
          have hxn : ∀ b o, xN = some ⟨b, o, none⟩ → b ≠ ib := fun b o e => by
            have h1 := HLo.out
            rcases hn with ⟨he, _⟩ | ⟨b', c', he, h2, _⟩
            · injection he with e1
              rw [e1] at e
              cases e
            · injection he with e1
              rw [e1] at e
              cases e
              omega
          have HCU11 : Hid (∀ j, j < PL.length → ∃ g, xU = some ⟨g, 0, none⟩ ∧ mb + 1 ≤ g ∧ g < w11.heap.size ∧ w11.cell? ⟨g, j, none⟩ = some (.int .u64 (PL.getD j 0 : Nat))) := fun j hj => by
            obtain ⟨g, e, h1, h2, h3⟩ := HCU.out j hj
            exact ⟨g, e, h1, Nat.lt_of_lt_of_le h2 hb.size, (hb.cell (p := ⟨g, j, none⟩) h2).trans h3⟩
          have HXN := hid_mk hxn
          clear hb hn hxn HCU
          go_wp2_with fail
          refine (pscat_ok (HV.out.below HB11.out) HU.out rfl HN11.out HLB.out HL2.out M11.out HXN.out HI.out HK.out HPt.out).mono ?_
          rintro e w12 ⟨rfl, hm, hc⟩
          have M12 := hid_mk hm
          have HB12 := hid_mk (hc.since1 HB11.out GI.out)
          have HIm12 := hid_mk (show ImgAt w12 gb I0 from hc.keep HIm11.out (fun e => by have := HGl0.out; omega))
          have HCU12 : Hid (∀ j, j < PL.length → ∃ g, xU = some ⟨g, 0, none⟩ ∧ mb + 1 ≤ g ∧ g < w12.heap.size ∧ w12.cell? ⟨g, j, none⟩ = some (.int .u64 (PL.getD j 0 : Nat))) := fun j hj => by
            obtain ⟨g, e, h1, h2, h3⟩ := HCU11.out j hj
            have h4 := HLo.out
            exact ⟨g, e, h1, Nat.lt_of_lt_of_le h2 hc.size, (hc.cell h2 (fun e => by omega)).trans h3⟩
          clear hm hc HCU11
          go_wp2_with fail
          go_loopw [17] (fun i wr => ∃ j : Nat, j ≤ nn ∧ i = .int .i64 j ∧ Hid (ImgAt wr gb (setAll I0 (PL.take j) (l.take j))) ∧ Hid (Chg (· = gb) w12 wr)) (fun i _ => nn - (intOf i).toNat)
          case atStart => exact ⟨0, Nat.zero_le _, rfl, hid_mk (by rw [List.take_zero, setAll_none]; exact HIm12.out), hid_mk (Chg.refl _ _)⟩
          case round =>
            obtain ⟨j, hj, rfl, himg, hchg⟩ := hrel
            by_cases hjl : j < nn
            · obtain ⟨gu, hgu, hg1, hg2, hg3⟩ := HCU12.out j (by have := HN2.out; omega)
              obtain ⟨bl, ol, hbl, hb1, hb2⟩ := HCB.out j (by have := HN1.out; omega)
              subst hgu hbl
              have hp := HPLt.out (PL.getD j 0) (by
                have h := HN2.out
                rw [List.getD_eq_getElem?_getD, List.getElem?_eq_getElem (by omega)]
                exact List.getElem_mem _)
              have h4 := HLo.out
              have h5 := HGB.out
              have e1 := (hchg.out.cell hg2 (fun e => by omega)).trans hg3
              have hb3 : bl < w12.heap.size := Nat.lt_of_lt_of_le hb1 HB12.out.size
              have e2 := (hchg.out.cell hb3 (fun e => by omega)).trans ((HB12.out.cell (p := ⟨bl, ol + j, none⟩) hb1).trans hb2)
              obtain ⟨ci, cf⟩ := img_cell (i := PL.getD j 0) himg.out (by rw [setAll_length, HI0l.out]; exact hp)
              have hi2 := img_set (i := PL.getD j 0) (x := l.getD j 0) himg.out
              rw [← HNs.out j hjl] at hi2
              have HI2 := hid_mk hi2
              have HC2 := hid_mk (hchg.out.setR (p := ⟨gb, PL.getD j 0, none⟩) (Or.inl rfl) (.int .u8 (l.getD j 0)))
              have hjU : (j : Int) < (PL.length : Int) := by have := HN2.out; omega
              have hjl2 : (j : Int) < (l.length : Int) := by have := HN1.out; omega
              have hji : (j : Int) < (nn : Int) := by omega
              have g1 : gu < wr.heap.size := Nat.lt_of_lt_of_le hg2 hchg.out.size
              have g2 : bl < wr.heap.size := Nat.lt_of_lt_of_le hb3 hchg.out.size
              have g3 : gb < wr.heap.size := lt_blk himg.out
              generalize hq : PL.getD j 0 = q at *
              generalize hy : l.getD j 0 = y at *
              generalize hcv : (setAll I0 (PL.take j) (l.take j)).getD q 0 = z at *
              have hqi : (q : Int) < 2000 := by omega
              have hq0 : (0 : Int) ≤ (q : Int) := by omega
              have hqw : IntKind.i64.wrap (q : Int) = (q : Int) := IntWalk.i64_in _ (by omega)
              have hqn : ((q : Int)).toNat = q := by omega
              clear hi2 himg hchg hp h4 h5 hg1 hg2 hg3 hb1 hb2 hb3 hq hy hcv
              go_wp2_with fail
              go_region
              go_wp2_with fail
              exact ⟨⟨j + 1, by omega, by go_num, hid_mk HI2.out, hid_mk HC2.out.drewR⟩, by simp [intOf]; omega⟩
            · have ejn : nn = j := by omega
              subst ejn
              rw [HSm2.out] at himg
              have h4 := HLo.out
              have h5 := HGB.out
              have h6 := HGl0.out
              have M13 := hid_mk (M12.out.keep hchg.out (fun e => by omega) (fun e => by omega) (fun e => by omega))
              have HB13 := hid_mk (hchg.out.since1 HB12.out h5)
              clear hchg h4 h5 h6 HCU12
              obtain ⟨wp, rfl⟩ : ∃ wp : World, wp = wr := ⟨_, rfl⟩
              go_wp2_with fail
              refine (ppart_ok (HV.out.below HB13.out) HU.out HE.out HPP.out).mono ?_
              rintro e w14 ⟨xP, yP, rfl, ho, hb⟩
              have M14 := hid_mk (M13.out.below hb)
              have HB14 := hid_mk (below_then HB13.out hb)
              have HIm14 := hid_mk (show ImgAt w14 gb M' from keepB hb himg.out)
              have HO14 := hid_mk (show OwnS wp.heap.size w14 (.slice xP P.length yP) (turnK P 0) by rw [turnK_zero]; exact ho)
              have HWb := hid_mk HB13.out.size
              have HL14 := hid_mk (show p < wp.heap.size ∧ ib < wp.heap.size ∧ qb < wp.heap.size ∧ gb < wp.heap.size from ⟨lt_blk M13.out.obj, lt_blk M13.out.img, lt_blk M13.out.prt, lt_blk himg.out⟩)
              have HP64 : (P.length : Int) ≤ 64 := by have := HPl.out; omega
              clear hb ho himg
              generalize hbw : wp.heap.size = bw at *
              clear hbw
              go_wp2_with fail
              go_loopw [19] (fun i wv => ∃ j : Nat, j ≤ P.length ∧ i = .int .i64 j ∧ Hid (OwnS bw wv (.slice xP P.length yP) (turnK P j)) ∧ Hid (Below bw w14 wv)) (fun i _ => P.length - (intOf i).toNat)
              case atStart => exact ⟨0, Nat.zero_le _, rfl, HO14, hid_mk (Below.refl _ _)⟩
              case round =>
                obtain ⟨j, hj, rfl, hown, hbl⟩ := hrel
                by_cases hjl : j < P.length
                · have hl := turnK_len P j hj
                  have h := hown.out
                  rw [← hl] at h
                  rcases h.blk with ⟨h0, _⟩ | ⟨g, c, he, h1, h2, h3, h4⟩
                  · rw [h0] at hl
                    simp at hl
                    omega
                  · cases he
                    obtain ⟨cc, cf, cg⟩ := own_cell h (k := j) (by omega)
                    have ht := own_turn h (k := j) (by omega)
                    rw [turnK_set hjl, hl] at ht
                    have HO := hid_mk ht
                    have HB := hid_mk (hbl.out.setCell (p := ⟨g, j * 3 + 2, none⟩) h1 (.bool false))
                    have hji : (j : Int) < (P.length : Int) := by omega
                    generalize (sat (turnK P j) j).t = z at *
                    clear h ht hown hbl hl h1 h2 h3 h4
                    go_wp2_with fail
                    go_roundw
                    case rel => exact ⟨j + 1, by omega, by go_num, HO, HB⟩
                    case measure => simp [intOf]; omega
                · obtain rfl : j = P.length := by omega
                  have hown2 := hown.out
                  rw [turnK_all] at hown2
                  have HO15 := hid_mk hown2.at
                  have hc := chg_hi hbl.out
                  have h6 := HL14.out
                  have M15 := hid_mk (M14.out.keep hc (by omega) (by omega) (by omega))
                  have HIm15 := hid_mk (show ImgAt wr gb M' from (hbl.out.block gb h6.2.2.2).trans HIm14.out)
                  have HB15 := hid_mk (HB14.out.trans (hbl.out.mono HWb.out))
                  clear hown hown2 hc h6 hbl
                  go_wp2_with fail
                  refine (pgat_ok HO15.out (isSgs_turn HPu.out) M15.out (inE_yes (segE_turn HPu.out HPe.out) (allIn_turn HPi.out)) HBk.out).mono ?_
                  rintro e w16 ⟨xG, yG, rfl, hn, hb⟩
                  have M16 := hid_mk (M15.out.below hb)
                  have HB16 := hid_mk (below_then HB15.out hb)
                  have him : BytesAt w16 (.slice (some ⟨gb, 0, none⟩) 2000 2000) M' := by
                    have h := keepB hb HIm15.out
                    exact Or.inr ⟨gb, 0, 2000, by rw [HM'l.out], lt_blk h, by rw [HM'l.out]; exact Nat.le_refl _, fun j hj => by rw [Nat.zero_add]; exact cellB h j hj⟩
                  have HIm := hid_mk him
                  obtain ⟨v1, hsl1, hs1⟩ := slicePre hn.at nn (by rw [HGl.out]; exact HN2.out)
                  obtain ⟨v2, hsl2, hs2⟩ := slicePre (HBy.out.below HB16.out) nn HN1.out
                  rw [HBe.out] at hs1
                  have HC1 := hid_mk (fun u (hu : Below w16.heap.size w16 u) => convB (hs1.below hu))
                  have HC2 := hid_mk (fun u (hu : Below w16.heap.size w16 u) => convB (hs2.below hu))
                  have HCI := hid_mk (fun u (hu : Below w16.heap.size w16 u) => convB (HIm.out.below hu))
                  have HSl1 := hid_mk hsl1
                  have HSl2 := hid_mk hsl2
                  clear him hn hb hs1 hs2 hsl1 hsl2
                  generalize hS : l.take nn = S at *
                  clear hS
                  go_wp2_with fail
                  refine wp_region_outl
                    [(fun v _ => v = .int .i64 0),
                    (fun v _ => v = .bool true),
                    (fun v _ => v = .bool true),
                    (fun v _ => v = .pointer (some ⟨p, 0, none⟩)),
                    (newP M'),
                    (fun v _ => v = .string (strOfNums M')),
                    (fun v _ => v = .slice (some ⟨gb, 0, none⟩) 2000 2000),
                    (fun v _ => v = .string (strOfNums M')),
                    (fun v _ => v = .bool true),
                    (fun v _ => v = .bool true),
                    (fun v _ => v = .bool true),
                    (fun v _ => v = .slice xG G.length yG),
                    (fun v _ => v = .int .i64 (G.length : Int)),
                    (fun v _ => v = .slice xU PL.length yU),
                    (fun v _ => v = .int .i64 (PL.length : Int)),
                    (fun v _ => v = .bool true),
                    (fun v _ => v = .bool true),
                    (fun v _ => v = .bool true),
                    (fun v _ => v = .slice xG G.length yG),
                    (fun v _ => v = .int .i64 (nn : Int)),
                    (fun v _ => v = v1),
                    (fun v _ => v = .string (strOfNums S)),
                    (fun v _ => v = .slice vl l.length vm),
                    (fun v _ => v = .int .i64 (nn : Int)),
                    (fun v _ => v = v2),
                    (fun v _ => v = .string (strOfNums S)),
                    (fun v _ => v = .bool true),
                    (fun v _ => v = .bool true),
                    (fun v _ => v = .bool true)]
                    (fun u => Below w16.heap.size w16 u) (by kernel_rfl) (by kernel_rfl) ?_ (fun u u' hb h => h.trans (hb.mono h.size)) ((Below.refl _ _).drew) ?_ ?_
                  · refine And.intro (up_eq _) ?_
                    refine And.intro (up_eq _) ?_
                    refine And.intro (up_eq _) ?_
                    refine And.intro (up_eq _) ?_
                    refine And.intro (up_newP _) ?_
                    refine And.intro (up_eq _) ?_
                    refine And.intro (up_eq _) ?_
                    refine And.intro (up_eq _) ?_
                    refine And.intro (up_eq _) ?_
                    refine And.intro (up_eq _) ?_
                    refine And.intro (up_eq _) ?_
                    refine And.intro (up_eq _) ?_
                    refine And.intro (up_eq _) ?_
                    refine And.intro (up_eq _) ?_
                    refine And.intro (up_eq _) ?_
                    refine And.intro (up_eq _) ?_
                    refine And.intro (up_eq _) ?_
                    refine And.intro (up_eq _) ?_
                    refine And.intro (up_eq _) ?_
                    refine And.intro (up_eq _) ?_
                    refine And.intro (up_eq _) ?_
                    refine And.intro (up_eq _) ?_
                    refine And.intro (up_eq _) ?_
                    refine And.intro (up_eq _) ?_
                    refine And.intro (up_eq _) ?_
                    refine And.intro (up_eq _) ?_
                    refine And.intro (up_eq _) ?_
                    refine And.intro (up_eq _) ?_
                    refine And.intro (up_eq _) ?_
                    trivial
                  · refine And.intro ?_ (And.intro ?_ (And.intro ?_ (And.intro ?_ (And.intro ?_ (And.intro ?_ (And.intro ?_ (And.intro ?_ (And.intro ?_ (And.intro ?_ (And.intro ?_ (And.intro ?_ (And.intro ?_ (And.intro ?_ (And.intro ?_ (And.intro ?_ (And.intro ?_ (And.intro ?_ (And.intro ?_ (And.intro ?_ (And.intro ?_ (And.intro ?_ (And.intro ?_ (And.intro ?_ (And.intro ?_ (And.intro ?_ (And.intro ?_ (And.intro ?_ (And.intro ?_ (True.intro)))))))))))))))))))))))))))))
                    · refine ostep_val (.int .i64 0) (by kernel_rfl) (fun _ A1 W1 inv hall => ⟨wanted_none rfl, ?_, rfl⟩)
                      have h21 : A1.eval (.tmp 21) = .int .i64 0 := (inv.base 21 (by kernel_rfl)).trans rfl
                      simp only [execOp, h21, Sem.run_pure]
                    · refine ostep_val (.bool true) (by kernel_rfl) (fun _ A1 W1 inv hall => ⟨wanted_none rfl, ?_, rfl⟩)
                      have h158 : A1.eval (.tmp 158) = .int .i64 0 := inv.get hall 0 158 (by kernel_rfl) (by kernel_rfl)
                      simp only [execOp, h158]
                      simp [eqGuard, go_sem]
                    · refine ostep_val (.bool true) (by kernel_rfl) (fun _ A1 W1 inv hall => ⟨wanted_none rfl, ?_, rfl⟩)
                      have h159 : A1.eval (.tmp 159) = .bool true := inv.get hall 1 159 (by kernel_rfl) (by kernel_rfl)
                      simp only [execOp, h159, Sem.run_pure]
                    · refine ostep_val (.pointer (some ⟨p, 0, none⟩)) (by kernel_rfl) (fun _ A1 W1 inv hall => ⟨wanted_some (g := 2) (d := 160) (b := true) rfl (by kernel_rfl) (inv.get hall 2 160 (by kernel_rfl) (by kernel_rfl)), ?_, rfl⟩)
                      have h7 : A1.eval (.tmp 7) = .pointer (some ⟨p, 0, none⟩) := (inv.base 7 (by kernel_rfl)).trans rfl
                      simp only [execOp, h7, Sem.run_pure]
                    · refine ostep_call 32 (by kernel_rfl) _ _ (by kernel_rfl) rfl (fun _ A1 W1 inv hall => ⟨wanted_some (g := 2) (d := 160) (b := true) rfl (by kernel_rfl) (inv.get hall 2 160 (by kernel_rfl) (by kernel_rfl)), #[.pointer (some ⟨p, 0, none⟩)], ?_, ?_⟩)
                      · have h161 : A1.eval (.tmp 161) = .pointer (some ⟨p, 0, none⟩) := inv.get hall 3 161 (by kernel_rfl) (by kernel_rfl)
                        simp [h161]
                      · refine (image_any p ib qb R1 M' _ (M16.out.below inv.s)).mono ?_
                        rintro e u ⟨v, rfl, hnb, hb⟩
                        exact ⟨v, rfl, ⟨_, hnb⟩, hb⟩
                    · refine ostep_val (.string (strOfNums M')) (by kernel_rfl) (fun _ A1 W1 inv hall => ⟨wanted_some (g := 2) (d := 160) (b := true) rfl (by kernel_rfl) (inv.get hall 2 160 (by kernel_rfl) (by kernel_rfl)), ?_, rfl⟩)
                      have h162 : (newP M') (A1.eval (.tmp 162)) W1 := inv.get hall 4 162 (by kernel_rfl) (by kernel_rfl)
                      simp only [execOp, Sem.run_bind, conv_newP h162, Result.andThen_ok, Sem.run_pure]
                    · refine ostep_val (.slice (some ⟨gb, 0, none⟩) 2000 2000) (by kernel_rfl) (fun _ A1 W1 inv hall => ⟨wanted_some (g := 2) (d := 160) (b := true) rfl (by kernel_rfl) (inv.get hall 2 160 (by kernel_rfl) (by kernel_rfl)), ?_, rfl⟩)
                      have h9 : A1.eval (.tmp 9) = .slice (some ⟨gb, 0, none⟩) 2000 2000 := (inv.base 9 (by kernel_rfl)).trans rfl
                      simp only [execOp, h9, Sem.run_pure]
                    · refine ostep_val (.string (strOfNums M')) (by kernel_rfl) (fun _ A1 W1 inv hall => ⟨wanted_some (g := 2) (d := 160) (b := true) rfl (by kernel_rfl) (inv.get hall 2 160 (by kernel_rfl) (by kernel_rfl)), ?_, rfl⟩)
                      have h164 : A1.eval (.tmp 164) = .slice (some ⟨gb, 0, none⟩) 2000 2000 := inv.get hall 6 164 (by kernel_rfl) (by kernel_rfl)
                      simp only [execOp, h164, Sem.run_bind, HCI.out W1 inv.s, Result.andThen_ok, Sem.run_pure]
                    · refine ostep_val (.bool true) (by kernel_rfl) (fun _ A1 W1 inv hall => ⟨wanted_some (g := 2) (d := 160) (b := true) rfl (by kernel_rfl) (inv.get hall 2 160 (by kernel_rfl) (by kernel_rfl)), ?_, rfl⟩)
                      have h163 : A1.eval (.tmp 163) = .string (strOfNums M') := inv.get hall 5 163 (by kernel_rfl) (by kernel_rfl)
                      have h165 : A1.eval (.tmp 165) = .string (strOfNums M') := inv.get hall 7 165 (by kernel_rfl) (by kernel_rfl)
                      simp only [execOp, h163, h165]
                      simp [eqGuard, go_sem]
                    · refine ostep_val (.bool true) (by kernel_rfl) (fun _ A1 W1 inv hall => ⟨wanted_none rfl, ?_, rfl⟩)
                      have h160 : A1.eval (.tmp 160) = .bool true := inv.get hall 2 160 (by kernel_rfl) (by kernel_rfl)
                      have h166 : A1.eval (.tmp 166) = .bool true := inv.get hall 8 166 (by kernel_rfl) (by kernel_rfl)
                      simp only [execOp, h160, h166]
                      simp [asBool]
                    · refine ostep_val (.bool true) (by kernel_rfl) (fun _ A1 W1 inv hall => ⟨wanted_none rfl, ?_, rfl⟩)
                      have h167 : A1.eval (.tmp 167) = .bool true := inv.get hall 9 167 (by kernel_rfl) (by kernel_rfl)
                      simp only [execOp, h167, Sem.run_pure]
                    · refine ostep_val (.slice xG G.length yG) (by kernel_rfl) (fun _ A1 W1 inv hall => ⟨wanted_some (g := 10) (d := 168) (b := true) rfl (by kernel_rfl) (inv.get hall 10 168 (by kernel_rfl) (by kernel_rfl)), ?_, rfl⟩)
                      have h20 : A1.eval (.tmp 20) = .slice xG G.length yG := (inv.base 20 (by kernel_rfl)).trans rfl
                      simp only [execOp, h20, Sem.run_pure]
                    · refine ostep_val (.int .i64 (G.length : Int)) (by kernel_rfl) (fun _ A1 W1 inv hall => ⟨wanted_some (g := 10) (d := 168) (b := true) rfl (by kernel_rfl) (inv.get hall 10 168 (by kernel_rfl) (by kernel_rfl)), ?_, rfl⟩)
                      have h169 : A1.eval (.tmp 169) = .slice xG G.length yG := inv.get hall 11 169 (by kernel_rfl) (by kernel_rfl)
                      simp only [execOp, resolve, List.map_toArray, List.map_cons, List.map_nil, h169]
                      simp [invoke, builtin, go_sem]
                    · refine ostep_val (.slice xU PL.length yU) (by kernel_rfl) (fun _ A1 W1 inv hall => ⟨wanted_some (g := 10) (d := 168) (b := true) rfl (by kernel_rfl) (inv.get hall 10 168 (by kernel_rfl) (by kernel_rfl)), ?_, rfl⟩)
                      have h12 : A1.eval (.tmp 12) = .slice xU PL.length yU := (inv.base 12 (by kernel_rfl)).trans rfl
                      simp only [execOp, h12, Sem.run_pure]
                    · refine ostep_val (.int .i64 (PL.length : Int)) (by kernel_rfl) (fun _ A1 W1 inv hall => ⟨wanted_some (g := 10) (d := 168) (b := true) rfl (by kernel_rfl) (inv.get hall 10 168 (by kernel_rfl) (by kernel_rfl)), ?_, rfl⟩)
                      have h171 : A1.eval (.tmp 171) = .slice xU PL.length yU := inv.get hall 13 171 (by kernel_rfl) (by kernel_rfl)
                      simp only [execOp, resolve, List.map_toArray, List.map_cons, List.map_nil, h171]
                      simp [invoke, builtin, go_sem]
                    · refine ostep_val (.bool true) (by kernel_rfl) (fun _ A1 W1 inv hall => ⟨wanted_some (g := 10) (d := 168) (b := true) rfl (by kernel_rfl) (inv.get hall 10 168 (by kernel_rfl) (by kernel_rfl)), ?_, rfl⟩)
                      have h170 : A1.eval (.tmp 170) = .int .i64 (G.length : Int) := inv.get hall 12 170 (by kernel_rfl) (by kernel_rfl)
                      have h172 : A1.eval (.tmp 172) = .int .i64 (PL.length : Int) := inv.get hall 14 172 (by kernel_rfl) (by kernel_rfl)
                      simp only [execOp, h170, h172]
                      simp [eqGuard, go_sem, HGl.out]
                    · refine ostep_val (.bool true) (by kernel_rfl) (fun _ A1 W1 inv hall => ⟨wanted_none rfl, ?_, rfl⟩)
                      have h168 : A1.eval (.tmp 168) = .bool true := inv.get hall 10 168 (by kernel_rfl) (by kernel_rfl)
                      have h173 : A1.eval (.tmp 173) = .bool true := inv.get hall 15 173 (by kernel_rfl) (by kernel_rfl)
                      simp only [execOp, h168, h173]
                      simp [asBool]
                    · refine ostep_val (.bool true) (by kernel_rfl) (fun _ A1 W1 inv hall => ⟨wanted_none rfl, ?_, rfl⟩)
                      have h174 : A1.eval (.tmp 174) = .bool true := inv.get hall 16 174 (by kernel_rfl) (by kernel_rfl)
                      simp only [execOp, h174, Sem.run_pure]
                    · refine ostep_val (.slice xG G.length yG) (by kernel_rfl) (fun _ A1 W1 inv hall => ⟨wanted_some (g := 17) (d := 175) (b := true) rfl (by kernel_rfl) (inv.get hall 17 175 (by kernel_rfl) (by kernel_rfl)), ?_, rfl⟩)
                      have h20 : A1.eval (.tmp 20) = .slice xG G.length yG := (inv.base 20 (by kernel_rfl)).trans rfl
                      simp only [execOp, h20, Sem.run_pure]
                    · refine ostep_val (.int .i64 (nn : Int)) (by kernel_rfl) (fun _ A1 W1 inv hall => ⟨wanted_some (g := 17) (d := 175) (b := true) rfl (by kernel_rfl) (inv.get hall 17 175 (by kernel_rfl) (by kernel_rfl)), ?_, rfl⟩)
                      have h16 : A1.eval (.tmp 16) = .int .i64 (nn : Int) := (inv.base 16 (by kernel_rfl)).trans rfl
                      simp only [execOp, h16, Sem.run_pure]
                    · refine ostep_val (v1) (by kernel_rfl) (fun _ A1 W1 inv hall => ⟨wanted_some (g := 17) (d := 175) (b := true) rfl (by kernel_rfl) (inv.get hall 17 175 (by kernel_rfl) (by kernel_rfl)), ?_, rfl⟩)
                      have h176 : A1.eval (.tmp 176) = .slice xG G.length yG := inv.get hall 18 176 (by kernel_rfl) (by kernel_rfl)
                      have h177 : A1.eval (.tmp 177) = .int .i64 (nn : Int) := inv.get hall 19 177 (by kernel_rfl) (by kernel_rfl)
                      simp only [execOp, Option.map_some, Option.map_none, h176, h177, Sem.run_bind, HSl1.out W1, Result.andThen_ok, Sem.run_pure]
                    · refine ostep_val (.string (strOfNums S)) (by kernel_rfl) (fun _ A1 W1 inv hall => ⟨wanted_some (g := 17) (d := 175) (b := true) rfl (by kernel_rfl) (inv.get hall 17 175 (by kernel_rfl) (by kernel_rfl)), ?_, rfl⟩)
                      have h178 : A1.eval (.tmp 178) = v1 := inv.get hall 20 178 (by kernel_rfl) (by kernel_rfl)
                      simp only [execOp, h178, Sem.run_bind, HC1.out W1 inv.s, Result.andThen_ok, Sem.run_pure]
                    · refine ostep_val (.slice vl l.length vm) (by kernel_rfl) (fun _ A1 W1 inv hall => ⟨wanted_some (g := 17) (d := 175) (b := true) rfl (by kernel_rfl) (inv.get hall 17 175 (by kernel_rfl) (by kernel_rfl)), ?_, rfl⟩)
                      have h1 : A1.eval (.tmp 1) = .slice vl l.length vm := (inv.base 1 (by kernel_rfl)).trans rfl
                      simp only [execOp, h1, Sem.run_pure]
                    · refine ostep_val (.int .i64 (nn : Int)) (by kernel_rfl) (fun _ A1 W1 inv hall => ⟨wanted_some (g := 17) (d := 175) (b := true) rfl (by kernel_rfl) (inv.get hall 17 175 (by kernel_rfl) (by kernel_rfl)), ?_, rfl⟩)
                      have h16 : A1.eval (.tmp 16) = .int .i64 (nn : Int) := (inv.base 16 (by kernel_rfl)).trans rfl
                      simp only [execOp, h16, Sem.run_pure]
                    · refine ostep_val (v2) (by kernel_rfl) (fun _ A1 W1 inv hall => ⟨wanted_some (g := 17) (d := 175) (b := true) rfl (by kernel_rfl) (inv.get hall 17 175 (by kernel_rfl) (by kernel_rfl)), ?_, rfl⟩)
                      have h180 : A1.eval (.tmp 180) = .slice vl l.length vm := inv.get hall 22 180 (by kernel_rfl) (by kernel_rfl)
                      have h181 : A1.eval (.tmp 181) = .int .i64 (nn : Int) := inv.get hall 23 181 (by kernel_rfl) (by kernel_rfl)
                      simp only [execOp, Option.map_some, Option.map_none, h180, h181, Sem.run_bind, HSl2.out W1, Result.andThen_ok, Sem.run_pure]
                    · refine ostep_val (.string (strOfNums S)) (by kernel_rfl) (fun _ A1 W1 inv hall => ⟨wanted_some (g := 17) (d := 175) (b := true) rfl (by kernel_rfl) (inv.get hall 17 175 (by kernel_rfl) (by kernel_rfl)), ?_, rfl⟩)
                      have h182 : A1.eval (.tmp 182) = v2 := inv.get hall 24 182 (by kernel_rfl) (by kernel_rfl)
                      simp only [execOp, h182, Sem.run_bind, HC2.out W1 inv.s, Result.andThen_ok, Sem.run_pure]
                    · refine ostep_val (.bool true) (by kernel_rfl) (fun _ A1 W1 inv hall => ⟨wanted_some (g := 17) (d := 175) (b := true) rfl (by kernel_rfl) (inv.get hall 17 175 (by kernel_rfl) (by kernel_rfl)), ?_, rfl⟩)
                      have h179 : A1.eval (.tmp 179) = .string (strOfNums S) := inv.get hall 21 179 (by kernel_rfl) (by kernel_rfl)
                      have h183 : A1.eval (.tmp 183) = .string (strOfNums S) := inv.get hall 25 183 (by kernel_rfl) (by kernel_rfl)
                      simp only [execOp, h179, h183]
                      simp [eqGuard, go_sem]
                    · refine ostep_val (.bool true) (by kernel_rfl) (fun _ A1 W1 inv hall => ⟨wanted_none rfl, ?_, rfl⟩)
                      have h175 : A1.eval (.tmp 175) = .bool true := inv.get hall 17 175 (by kernel_rfl) (by kernel_rfl)
                      have h184 : A1.eval (.tmp 184) = .bool true := inv.get hall 26 184 (by kernel_rfl) (by kernel_rfl)
                      simp only [execOp, h175, h184]
                      simp [asBool]
                    · refine ostep_val (.bool true) (by kernel_rfl) (fun _ A1 W1 inv hall => ⟨wanted_none rfl, ?_, rfl⟩)
                      have h185 : A1.eval (.tmp 185) = .bool true := inv.get hall 27 185 (by kernel_rfl) (by kernel_rfl)
                      simp only [execOp, h185, Sem.run_pure]
                  · intro listed A1 W1 inv hall
                    have hlast : A1.eval (.tmp 6) = .bool true := inv.fin 28 6 (by kernel_rfl) (hall 28 (Nat.lt_of_lt_of_eq (by decide : 28 < 29) (by kernel_rfl)))
                    refine (by assumption : ∀ (a : Act) (w : World), Code.wp Try.prog Code.ret _ a w → _) A1 W1 ?_
                    go_wp2_with fail
                    simp only [Act.eval, Array.getD_eq_getD_getElem?] at hlast
                    exact bodyPost_ret (v := .bool true) (by simp [results, Try.results5, go_sem, hlast]) inv.dfr ⟨rfl, below_then HB16.out inv.s⟩

theorem walk (w : World) (v : Value) (L : List Sg) (hv : SegsAt w v L) (hu : isSgs L) (hm : L.length ≤ maxLen) (vb : Value) (l : List Int) (hb : BytesAt w vb l) (hlb : isBytes l) (hml : l.length ≤ maxLen) (fill : Int) (w2 : (Lit.int .u8 fill).wf = true) :
    Calls Try.prog 5 #[v, vb, .int .u8 fill] w fun e w' => e = .returned (.bool true) ∧ Below w.heap.size w w' := by
  have hf := bounds_u8 w2
  obtain ⟨va, vc, rfl⟩ := hv.len
  obtain ⟨vl, vm, rfl⟩ := bytes_len hb
  by_cases h1 : 100 < L.length
  · exact walk_long w va vl vc vm _ _ fill (Or.inl h1)
  · by_cases h2 : 20000 < l.length
    · exact walk_long w va vl vc vm _ _ fill (Or.inr ⟨by omega, h2⟩)
    · by_cases hE : segE L = 0
      · by_cases hI : inE R1 L = 0
        · exact walk_main w va vl vc vm L l fill hv hu hb hlb hf.1 (by omega) (by omega) (by omega) hE hI
        · exact walk_out w va vl vc vm L l fill hv hu hb hlb hf.1 (by omega) (by omega) (by omega) hE hI
      · exact walk_bad w va vl vc vm _ L fill hv hu (by omega) (by omega) hE

/-! ### the row's frame -/
theorem own : ownKnob Try.prog.godebug = none := by kernel_rfl
theorem laidOut : laidOutB Try.prog = true := by kernel_rfl

set_option maxRecDepth 100000 in
theorem lifted (os : Os) (started : os.Started) (H : Type) (enc : TypeId × Value → H) :
    ReturnsInHanded {} Try.checked os 5 .any (Rows.segScattersSpec.pre6 enc Try.prog Try.f5 Rows.segScattersRow.domain false) (Rows.segScattersSpec.post enc Try.prog Try.f5 false true false false) := by
  refine returnsInHanded_of_change (C := Try.checked) own started (by kernel_rfl) Try.func5
    (ChangeSpec.witness6 (enc := enc) (C := Try.checked) false ⟨#[], #[.slice none 0 0, .slice none 0 0, .int .u8 0], []⟩ 8 (by kernel_rfl) (by kernel_rfl) (by kernel_rfl) (by kernel_rfl)) ?_
  intro W base args ds gs before hval0 hW hcnd _
  have hval : ∀ (j : Nat) t v, Try.f5.params[j]? = some t → args[j]? = some v → Value.okWide Try.prog W .any base t v := hval0
  have hW' := hW
  obtain ⟨p, q, hA0, hV, rfl, hfz, hnd⟩ := hW
  have hA : DataW.TrodAll enc Try.prog W 0 (fun _ => true) true Try.f5.params.toList args.toList ds p := hA0
  rw [Try.params5] at hA hval
  obtain ⟨v0, vs0, d0, ds0, p0, q0, hargs, rfl, rfl, h0, r0⟩ := trodAll_cons hA
  obtain ⟨v1, vs1, d1, ds1, p1, q1, rfl, rfl, rfl, h1, r1⟩ := trodAll_cons r0
  obtain ⟨v2, vs2, d2, ds2, p2, q2, rfl, rfl, rfl, h2, r2⟩ := trodAll_cons r1
  obtain ⟨rfl, rfl, rfl⟩ := trodAll_nil r2
  obtain rfl : args = #[v0, v1, v2] := by cases args; simp_all
  obtain ⟨rfl, rfl⟩ := trodVars_none hV
  have k0 := h0
  have lt0 : ∀ x ∈ p0, x.block < W.heap.size := by
    obtain ⟨m, hm⟩ := k0
    exact DataW.trod_lt m _ _ _ hm
  have k1 := h1
  have lt1 : ∀ x ∈ p1, x.block < W.heap.size := by
    obtain ⟨m, hm⟩ := k1
    exact DataW.trod_lt m _ _ _ hm
  have k2 := h2
  have lt2 : ∀ x ∈ p2, x.block < W.heap.size := by
    obtain ⟨m, hm⟩ := k2
    exact DataW.trod_lt m _ _ _ hm
  obtain ⟨l0, hv0, hb0, hm0⟩ := open_segs (hval 0 33 v0 rfl rfl) h0
  obtain ⟨l1, hv1, hb1, hm1⟩ := open_bytes (hval 1 38 v1 rfl rfl) h1
  obtain ⟨a2, rfl, rfl, rfl, w2⟩ := open_int Try.underlying5 (hval 2 5 v2 rfl rfl) h2
  clear hA0 hval0
  refine (walk W v0 l0 hv0 hb0 hm0 v1 l1 hv1 hb1 hm1 a2 w2).mono fun e W' ⟨he, bel⟩ => ?_
  subst he
  exact ⟨_, rfl, _, _, _, [], _, [], hW', trodAll_mk1 (shut_bool Try.underlying4 _), (trodAll_cons_mk (Below.trod laidOut (by kernel_rfl) (of_decide_eq_true (by kernel_rfl)) k0 bel lt0) (trodAll_cons_mk (Below.trod laidOut (by kernel_rfl) (of_decide_eq_true (by kernel_rfl)) k1 bel lt1) (trodAll_cons_mk (Below.trod laidOut (by kernel_rfl) (of_decide_eq_true (by kernel_rfl)) k2 bel lt2) trodAll_mk0))), rfl, bel.frame _, fun h => by cases h⟩

theorem over : Rows.segScattersRow.holds Try.pinned (OpenSpec.ofChange Rows.segScattersSpec) :=
  OpenClaim.holds_of_wide 5 Try.f5 rfl rfl rfl rfl rfl rfl rfl ⟨rfl, rfl, rfl, rfl, rfl⟩ rfl rfl rfl rfl rfl (by kernel_rfl) Try.func5 (by kernel_rfl)
    (of_decide_eq_true (by kernel_rfl)) (by unfold Func.isWrapper; first | (rw [if_pos (by decide +kernel)]; kernel_rfl) | (rw [if_neg (by decide +kernel)]; exact ⟨rfl, rfl⟩))
    (fun os started H enc _ => lifted os started H enc)

/-- THE STATEMENT -/
theorem segScatters_holds : Rows.SegScattersSaid := over
#print axioms segScatters_holds
end Go.Proofs.Yteolnghnlfeakaa.segScatters
