/-
  PROVED: dumbwaiterlaw02.GmemHolds returns true for every list of regions and every list of acts, and what was in memory stays as it was. Conditions: none.
-/
import Derived.Test.YtigdolohdehcdaaRows
import Derived.Test.YtigdolohdehcdaaLHpre
import Derived.WalkKit
import Derived.ProofKit
import Derived.OpenShut
import Derived.ShutString
import Derived.ChangeOld
import Derived.Below
import Derived.Carry
import Derived.Lib.SmallJoins
import Derived.Deep.RegionHeld3
import Derived.Deep.CutBlock
import Derived.BigQuiet
namespace Go.Proofs.Ytigdolohdehcdaa.gmemHolds
open Go.ChangeShapes Go.WideShapes Go.ChangeAt Go.RowKit
set_option linter.unusedVariables false


set_option maxRecDepth 100000 in
set_option maxHeartbeats 8000000 in
theorem walk_main (w : World) (va vb : Option Addr) (vc vd : Nat) (L : List (Int × Int)) (hv0 : RegsAt w (.slice va L.length vc) L) (hb0 : isRegs L) (A : List ActT) (hv1 : ActsAt w (.slice vb A.length vd) A) (hb1 : isActs w A) (c1 : lightB L 20000 = true) (c2 : smallB A = true) (c3 : chkE L = 0) (h16 : L.length ≤ 16) (hok : okR (-1) 1048576 L = true) (h80 : A.length ≤ 80) (h2000 : ∀ j, j < A.length → (actAt A j).l.length ≤ 2000) :
    Calls Try.prog 6 #[.slice va L.length vc, .slice vb A.length vd] w fun e w' => e = .returned (.bool true) ∧ Below w.heap.size w w' := by
  have HV0 := hid_mk hv0
  have HU0 := hid_mk hb0
  have HV1 := hid_mk hv1
  have HU1 := hid_mk hb1
  have HBX := hid_mk ((Below.refl w.heap.size w).alloc (Nat.le_refl _) (.cells #[.slice va L.length vc] 29))
  have HLT : Hid (w.heap.size < (w.alloc (.cells #[.slice va L.length vc] 29)).heap.size) := hid_mk (by rw [sizeA]; omega)
  have hlb : (w.alloc (.cells #[.slice va L.length vc] 29)).cell? ⟨w.heap.size, 0, none⟩ = some (.slice va L.length vc) := by go_simp
  have HL := hid_mk c1
  have HS := hid_mk c2
  have HC3 := hid_mk c3
  have HM := hid_mk h16
  have HOK := hid_mk hok
  have H80 := hid_mk h80
  have H20 := hid_mk h2000
  clear c1 c2 c3 h16 hok h80 h2000
  clear hv0 hb0 hv1 hb1
  go_enter Try.func6, Try.ntmps6
  go_wp2_with fail
  refine (lives_any _).mono ?_
  rintro e w1 ⟨rfl, hb⟩
  have hl1 := (hb.cell (p := ⟨w.heap.size, 0, none⟩) HLT.out).trans hlb
  have B1 := hid_mk (HBX.out.trans (hb.mono (by rw [sizeA]; omega)))
  have X1 := hid_mk hb
  clear hb
  go_wp2_with fail
  refine (light_any _ L 20000 _ (HV0.out.below B1.out) HU0.out).mono ?_
  rw [HL.out]
  rintro e w' ⟨rfl, rfl⟩
  go_wp2_with fail
  refine (small_any _ A _ (HV1.out.below B1.out) (HU1.out.below B1.out)).mono ?_
  rw [HS.out]
  rintro e w' ⟨rfl, rfl⟩
  go_wp2_with fail
  refine (check_any _ L _ (HV0.out.below B1.out) HU0.out (by have := HM.out; omega)).mono ?_
  rw [HC3.out]
  rintro e w2 ⟨rfl, hb⟩
  have X2 := hid_mk (below_then X1.out hb)
  have B2 := hid_mk (below_then B1.out hb)
  have hl2 := (hb.cell (p := ⟨w.heap.size, 0, none⟩) (Nat.lt_of_lt_of_le HLT.out X1.out.size)).trans hl1
  clear hb
  go_wp2_with fail
  refine (kregs_any _ L _ (HV0.out.below B2.out) (by have := HM.out; omega)).mono ?_
  rintro e w3 ⟨v3, rfl, hr3, hb⟩
  have R3 := hid_mk hr3
  have X3 := hid_mk (below_then X2.out hb)
  have B3 := hid_mk (below_then B2.out hb)
  clear hb hr3
  go_wp2_with fail
  refine (new_any v3 L _ R3.out HU0.out (by have := HM.out; omega) HOK.out HM.out).mono ?_
  rintro e w4 ⟨p, ib, qb, rfl, hm, ⟨g1, g2, g3⟩, hb⟩
  have M4 := hid_mk hm
  have X4 := hid_mk (below_then X3.out hb)
  have B4 := hid_mk (below_then B3.out hb)
  have hib : (w.alloc (.cells #[.slice va L.length vc] 29)).heap.size ≤ ib := Nat.le_trans X3.out.size g2
  have hl4 := (X4.out.cell (p := ⟨w.heap.size, 0, none⟩) HLT.out).trans hlb
  clear hb hm g1 g2 g3
  have hmm := @run_makeMap Try.prog
  go_wp2_with fail
  have hmp := MapIs.made w4
  have HST := hid_mk (St.mk (w0 := w) (k := 0) (M4.out.below ((Below.refl _ _).alloc (Nat.le_refl _) (.map #[] 0))) hmp (Nat.zero_le _) (fun _ => by omega) (Agree.zero L (sumR L)) (((Below.refl w4.heap.size w4).alloc (Nat.le_refl _) (.map #[] 0)).cell (p := ⟨w.heap.size, 0, none⟩) (Nat.lt_of_lt_of_le HLT.out X4.out.size) |>.trans hl4) (B4.out.alloc B4.out.size _))
  have hltw := HLT.out
  have hx4 := X4.out.size
  have hNE : Nes w ib w4.heap.size w.heap.size := by
    have hil := lt_blk M4.out.img
    exact ⟨by omega, by omega, by omega, by omega, by omega⟩
  have HNE := hid_mk hNE
  clear hmp hNE hl4 hl2 hl1 hib hltw hx4 hmm
  obtain ⟨mb, hmb⟩ : ∃ mb, mb = w4.heap.size := ⟨_, rfl⟩
  rw [← hmb] at HST HNE
  rw [← hmb]
  clear hmb
  go_loopg [9] A.length (fun gk c wr => ∃ k : Nat, ∃ M f n, k ≤ A.length ∧ c = .int .i64 k ∧ A.length - k ≤ gk ∧ Hid (St w wr p ib qb mb w.heap.size (.slice va L.length vc) L k M f n))
  case atStart => exact ⟨0, _, _, _, Nat.zero_le _, rfl, Nat.le_refl _, HST⟩
  case round =>
    obtain ⟨k, M, f, n, hk, rfl, hgk, HS0⟩ := hrel
    by_cases hlt : k < A.length
    · obtain ⟨b, o, rfl, hbw, hcells⟩ : ∃ b o, vb = some ⟨b, o, none⟩ ∧ b < w.heap.size ∧ (∀ j, j < A.length → (w.cell? ⟨b, o + j * 5, none⟩ = some (.int .i64 (actAt A j).kind) ∧ w.cell? ⟨b, o + j * 5 + 1, none⟩ = some (.int .u64 (actAt A j).at_) ∧ w.cell? ⟨b, o + j * 5 + 2, none⟩ = some (.int .i64 (actAt A j).n) ∧ w.cell? ⟨b, o + j * 5 + 3, none⟩ = some (.int .u64 (actAt A j).v) ∧ w.cell? ⟨b, o + j * 5 + 4, none⟩ = some (actAt A j).b)) := by
        rcases HV1.out with ⟨_, rfl⟩ | ⟨b, o, c, h1, h2, _, h3⟩
        · simp at hlt
        · injection h1 with h1 _ _
          exact ⟨b, o, h1, h2, h3⟩
      obtain ⟨g0, g1, g2, g3, g4⟩ := hcells k hlt
      have hx := HU1.out k hlt
      have hxl := H20.out k hlt
      have hbe := HS0.out.bel
      have c0 := (hbe.cell (p := ⟨b, o + k * 5, none⟩) hbw).trans g0
      have c1 := (hbe.cell (p := ⟨b, o + k * 5 + 1, none⟩) hbw).trans g1
      have c2 := (hbe.cell (p := ⟨b, o + k * 5 + 2, none⟩) hbw).trans g2
      have c3 := (hbe.cell (p := ⟨b, o + k * 5 + 3, none⟩) hbw).trans g3
      have c4 := (hbe.cell (p := ⟨b, o + k * 5 + 4, none⟩) hbw).trans g4
      obtain ⟨ba, bc, hbv⟩ := hx.2.2.2.2.1.len
      obtain ⟨x1, x2, x3, x4, x5, x6, _⟩ := hx
      rw [hbv] at c4 x5
      have HX5 := hid_mk x5
      have HX6 := hid_mk x6
      have hsz : ∃ j sz : Nat, (actAt A k).n % 4 = (j : Int) ∧ (sz = 1 ∨ sz = 2 ∨ sz = 4 ∨ sz = 8) ∧ j < 4 ∧ [Value.int .i64 1, .int .i64 2, .int .i64 4, .int .i64 8][j]? = some (.int .i64 sz) := by
        have q0 := Int.emod_nonneg (actAt A k).n (show (4 : Int) ≠ 0 by omega)
        have q1 := Int.emod_lt_of_pos (actAt A k).n (show (0 : Int) < 4 by omega)
        obtain ⟨j, hj⟩ := Int.eq_ofNat_of_zero_le q0
        have h4 : j = 0 ∨ j = 1 ∨ j = 2 ∨ j = 3 := by omega
        rcases h4 with rfl | rfl | rfl | rfl
        · exact ⟨0, 1, hj, by omega, by omega, rfl⟩
        · exact ⟨1, 2, hj, by omega, by omega, rfl⟩
        · exact ⟨2, 4, hj, by omega, by omega, rfl⟩
        · exact ⟨3, 8, hj, by omega, by omega, rfl⟩
      clear hcells g0 g1 g2 g3 g4 hbe hbv x5 x6
      generalize (actAt A k).kind = kd at *
      generalize (actAt A k).at_ = a at *
      generalize (actAt A k).n = sn at *
      generalize (actAt A k).v = v at *
      generalize (actAt A k).l = l at *
      obtain ⟨j, sz, hj, hsz4, hj4, htab⟩ := hsz
      have hst : ∀ h : j < [Value.int .i64 1, .int .i64 2, .int .i64 4, .int .i64 8].length, [Value.int .i64 1, .int .i64 2, .int .i64 4, .int .i64 8][j]'h = .int .i64 sz := fun h => by
        rw [List.getElem?_eq_getElem h] at htab
        exact Option.some.inj htab
      have HSZ := hid_mk hsz4
      have HJ := hid_mk hj
      clear hsz4 htab hj
      go_upto_region 15 with (go_at_call 20; refine (pick_at _ _ _ _ (by omega) (by omega) (by first | exact HJ.out | exact rfl)).mono ?_; rintro e w' ⟨rfl, rfl⟩)
      go_cut [10, 11, 67] (fun s10 s11 s67 wx => ∃ ab : Nat, s10 = .pointer (some ⟨ab, 0, none⟩) ∧ s11 = .int .i64 sz ∧ s67 = .int .i64 (kd % 5) ∧ ab ≠ ib ∧ ab ≠ mb ∧ Hid (wx.cell? ⟨ab, 1, none⟩ = some (.int .u64 a) ∧ wx.cell? ⟨ab, 3, none⟩ = some (.int .u64 v) ∧ wx.cell? ⟨ab, 4, none⟩ = some (.slice ba l.length bc)) ∧ Hid (St w wx p ib qb mb w.heap.size (.slice va L.length vc) L k M f n))
      case first =>
        go_wp2_with (go_at_call 20; refine (pick_at _ _ _ _ (by omega) (by omega) (by first | exact HJ.out | exact rfl)).mono ?_; rintro e w' ⟨rfl, rfl⟩)
        go_meet
        have hz := HS0.out.bel.size
        have hil := lt_blk HS0.out.mem.img
        have hml := HS0.out.map.lt
        refine ⟨wr.heap.size, rfl, rfl, rfl, by omega, by omega, hid_mk ⟨by go_simp, by go_simp, by go_simp⟩, hid_mk (HS0.out.below ?_)⟩
        exact ((Below.refl _ _).alloc (Nat.le_refl _) _).alloc (by rw [sizeA]; omega) _
      case rest =>
        obtain ⟨ab, rfl, rfl, rfl, hai, ham, HA, HS1⟩ := hcut
        obtain ⟨a1, a3, a4⟩ := HA.out
        have hwid : wid (sz : Int) = true := wid_iff.2 (by have := HSZ.out; omega)
        have hsz1 : (1 : Int) ≤ (sz : Int) := by have := HSZ.out; omega
        have hsz8 : (sz : Int) ≤ 8 := by have := HSZ.out; omega
        have hUsz : U64 (sz : Int) := by omega
        have HWD := hid_mk hwid
        clear hwid hst hj4
        generalize kd % 5 = q at *
        by_cases q0 : q = 0
        · subst q0
          as_aux_lemma =>
            cases hl : loc L a sz with
            | none =>
              have hE := accE_none hl HWD.out
              have HL0 := hid_mk hl
              clear hl
              go_wp2_with fail
              refine (load_any p ib qb L M a sz _ HS1.out.mem x1).mono ?_
              rw [hE]
              rintro e w5 ⟨rfl, hb⟩
              clear hE
              have HS2 := hid_mk (HS1.out.below hb)
              have b1 := (hb.cell (p := ⟨ab, 1, none⟩) (World.block_lt_of_cell? _ _ a1)).trans a1
              have hlk := fun (y : Int) => HS2.out.map.lookup (IntKind.u64.wrap y) (by rw [IntKind.wrap_u64]; omega)
              clear hb a1 a3 a4
              go_wp2_with fail
              go_loop [14, 15] (fun s i => ∃ t : Nat, t ≤ sz ∧ i = .int .i64 ((t : Int) - 1) ∧ s = .int .u64 (le ((mapB f a sz).drop t))) (fun _ i => (intOf i + 1).toNat)
              case atStart => exact ⟨sz, Nat.le_refl _, rfl, by rw [List.drop_of_length_le (by rw [mapB_len]; exact Nat.le_refl _)]; rfl⟩
              case round =>
                obtain ⟨t2, ht, rfl, rfl⟩ := hrel
                rcases Nat.eq_zero_or_pos t2 with ht0 | htp
                · subst ht0
                  have hneg : decide (0 ≤ (0 : Int) - 1) = false := by simp
                  go_wp2_with (go_at_call 31; refine (in_any _ L a sz w.heap.size _ (HV0.out.below HS2.out.bel) HU0.out HOK.out HM.out HS2.out.box x1 hUsz).mono ?_; rw [HL0.out]; rintro e w' ⟨rfl, mq, rfl⟩)
                  go_roundg (A.length - (k + 1))
                  case measure => omega
                  case rel =>
                    have h80 : k < 2000000 := by have := H80.out; omega
                    exact ⟨k + 1, M, f, n, by omega, by first | exact next64v k h80 | exact next64w k h80 | rfl, by omega, hid_mk ((HS2.out.below (below_drewN w5 _)).next)⟩
                · obtain ⟨u, rfl⟩ : ∃ u, t2 = u + 1 := ⟨t2 - 1, by omega⟩
                  have HSTEP := hid_mk (mapB_step f a sz u (by omega))
                  have hbd := mapB_bd HS2.out.byt a sz u (by omega)
                  have hfb := HS2.out.byt (IntKind.u64.wrap (a + (u : Int)))
                  obtain ⟨hd0, hd1⟩ := hbd
                  obtain ⟨hf0, hf1⟩ := hfb
                  go_wp2_with fail
                  go_round
                  case rel => exact ⟨u, by omega, by go_num, by rw [HSTEP.out]⟩
                  case measure => simp [intOf]
            | some t =>
              have hE := accE_some hl HWD.out
              have hV := load_map HS1.out.agr HOK.out HS1.out.mem.len hl x1 HWD.out
              have HL0 := hid_mk hl
              clear hl
              go_wp2_with fail
              refine (load_any p ib qb L M a sz _ HS1.out.mem x1).mono ?_
              rw [hE, hV]
              rintro e w5 ⟨rfl, hb⟩
              clear hE hV
              have HS2 := hid_mk (HS1.out.below hb)
              have b1 := (hb.cell (p := ⟨ab, 1, none⟩) (World.block_lt_of_cell? _ _ a1)).trans a1
              have hlk := fun (y : Int) => HS2.out.map.lookup (IntKind.u64.wrap y) (by rw [IntKind.wrap_u64]; omega)
              clear hb a1 a3 a4
              go_wp2_with fail
              go_loop [14, 15] (fun s i => ∃ t : Nat, t ≤ sz ∧ i = .int .i64 ((t : Int) - 1) ∧ s = .int .u64 (le ((mapB f a sz).drop t))) (fun _ i => (intOf i + 1).toNat)
              case atStart => exact ⟨sz, Nat.le_refl _, rfl, by rw [List.drop_of_length_le (by rw [mapB_len]; exact Nat.le_refl _)]; rfl⟩
              case round =>
                obtain ⟨t2, ht, rfl, rfl⟩ := hrel
                rcases Nat.eq_zero_or_pos t2 with ht0 | htp
                · subst ht0
                  have hneg : decide (0 ≤ (0 : Int) - 1) = false := by simp
                  go_wp2_with (go_at_call 31; refine (in_any _ L a sz w.heap.size _ (HV0.out.below HS2.out.bel) HU0.out HOK.out HM.out HS2.out.box x1 hUsz).mono ?_; rw [HL0.out]; rintro e w' ⟨rfl, mq, rfl⟩)
                  go_roundg (A.length - (k + 1))
                  case measure => omega
                  case rel =>
                    have h80 : k < 2000000 := by have := H80.out; omega
                    exact ⟨k + 1, M, f, n, by omega, by first | exact next64v k h80 | exact next64w k h80 | rfl, by omega, hid_mk ((HS2.out.below (below_drewN w5 _)).next)⟩
                · obtain ⟨u, rfl⟩ : ∃ u, t2 = u + 1 := ⟨t2 - 1, by omega⟩
                  have HSTEP := hid_mk (mapB_step f a sz u (by omega))
                  have hbd := mapB_bd HS2.out.byt a sz u (by omega)
                  have hfb := HS2.out.byt (IntKind.u64.wrap (a + (u : Int)))
                  obtain ⟨hd0, hd1⟩ := hbd
                  obtain ⟨hf0, hf1⟩ := hfb
                  go_wp2_with fail
                  go_round
                  case rel => exact ⟨u, by omega, by go_num, by rw [HSTEP.out]⟩
                  case measure => simp [intOf]
        · have bq0 : (q == 0) = false := by simp; exact q0
          by_cases q1 : q = 1
          · subst q1
            as_aux_lemma =>
              cases hl : loc L a sz with
              | none =>
                have hE := accE_none hl HWD.out
                have hM := storeM_none (M := M) (v := v) hl HWD.out
                have HL0 := hid_mk hl
                clear hl
                go_wp2_with fail
                refine (store_any p ib qb L M a sz v _ HS1.out.mem x1 x2).mono ?_
                rw [hE, hM]
                rintro e w5 ⟨rfl, hm, hc⟩
                have HS2 := hid_mk (HS1.out.rewrote hm hc HNE.out)
                have b1 := (hc.cell (World.block_lt_of_cell? _ _ a1) hai).trans a1
                clear hE hM hm hc a1 a3 a4
                go_wp2_with (go_at_call 31; refine (in_any _ L a sz w.heap.size _ (HV0.out.below HS2.out.bel) HU0.out HOK.out HM.out HS2.out.box x1 hUsz).mono ?_; rw [HL0.out]; rintro e w' ⟨rfl, mq, rfl⟩)
                go_loopw [17] (fun i wr => i = .int .i64 0 ∧ wr = w5.drewN mq) (fun _ _ => 0)
                case atStart => exact ⟨rfl, rfl⟩
                case round =>
                  obtain ⟨rfl, rfl⟩ := hrel
                  go_wp2_with fail
                  go_roundg (A.length - (k + 1))
                  case measure => omega
                  case rel =>
                    have h80 : k < 2000000 := by have := H80.out; omega
                    exact ⟨k + 1, M, f, n, by omega, by first | exact next64v k h80 | exact next64w k h80 | rfl, by omega, hid_mk ((HS2.out.below (below_drewN w5 _)).next)⟩
              | some t =>
                have hE := accE_some hl HWD.out
                have hM := storeM_some (M := M) (v := v) hl HWD.out
                have hend := loc_end HOK.out hl
                have HL0 := hid_mk hl
                clear hl
                go_wp2_with fail
                refine (store_any p ib qb L M a sz v _ HS1.out.mem x1 x2).mono ?_
                rw [hE, hM]
                rintro e w5 ⟨rfl, hm, hc⟩
                have HM5 := hid_mk hm
                have HMP := hid_mk (HS1.out.map.chg hc HNE.out.mi)
                have HBO := hid_mk ((hc.cell (World.block_lt_of_cell? _ _ HS1.out.box) HNE.out.li).trans HS1.out.box)
                have HBE := hid_mk (hc.since1 HS1.out.bel HNE.out.gi)
                have B1C := hid_mk ((hc.cell (World.block_lt_of_cell? _ _ a1) hai).trans a1)
                have B3C := hid_mk ((hc.cell (World.block_lt_of_cell? _ _ a3) hai).trans a3)
                have b1 := B1C.out
                clear hE hM hm hc a1 a3 a4
                go_wp2_with (go_at_call 31; refine (in_any _ L a sz w.heap.size _ (HV0.out.below HBE.out) HU0.out HOK.out HM.out HBO.out x1 hUsz).mono ?_; rw [HL0.out]; rintro e w' ⟨rfl, mq, rfl⟩)
                clear b1
                go_loopw [17] (fun i wr => ∃ jj n' : Nat, jj ≤ sz ∧ i = .int .i64 jj ∧ n' ≤ 4000 * k + jj ∧ Hid (MapIs wr mb n' (over f a (leB sz v) jj)) ∧ Hid (Chg (· = mb) (w5.drewN mq) wr)) (fun i _ => sz - (intOf i).toNat)
                case atStart => exact ⟨0, n, Nat.zero_le _, rfl, HS1.out.cnt, hid_mk (by rw [over_zero]; exact HMP.out.below (below_drewN w5 mq)), hid_mk (Chg.refl _ _)⟩
                case round =>
                  obtain ⟨jj, n', hjj, rfl, hn', hMP, hCh⟩ := hrel
                  by_cases hjl : jj < sz
                  · have hji : (jj : Int) < (sz : Int) := by omega
                    have hkey : IntKind.u64.wrap (a + (jj : Int)) = a + (jj : Int) := by
                      rw [IntKind.wrap_u64]
                      omega
                    obtain ⟨w6, hrun, hmp, hcm⟩ := hMP.out.update (by have := H80.out; omega) (a + (jj : Int)) (v / 2 ^ (8 * jj) % 256) (by omega) (by omega)
                    have hx1 := (hCh.out.cell (World.block_lt_of_cell? _ _ B1C.out) ham).trans B1C.out
                    have hx3 := (hCh.out.cell (World.block_lt_of_cell? _ _ B3C.out) ham).trans B3C.out
                    have HMP6 := hid_mk hmp
                    have HC6 := hid_mk (hCh.out.trans hcm)
                    clear hmp hcm
                    go_wp2_with fail
                    go_roundw
                    case rel => exact ⟨jj + 1, n' + 1, by omega, by go_num, by omega, hid_mk (by rw [over_succ, ← leB_byte sz jj v hjl]; exact HMP6.out), HC6⟩
                    case measure => simp [intOf]; omega
                  · obtain rfl : jj = sz := by omega
                    have hll := leB_length jj v
                    have hbel := (HBE.out.trans (below_drewN w5 mq |>.mono HBE.out.size)).trans (hCh.out.below (B := w.heap.size) (HBE.out.size) (fun i hi hs => by have := HNE.out.gm; omega))
                    have hbox := (hCh.out.cell (World.block_lt_of_cell? _ _ HBO.out) HNE.out.lm).trans HBO.out
                    have hmem := (HM5.out.drewN mq).keep hCh.out (fun e => mapNot HMP.out HM5.out.obj e) (fun e => mapNot HMP.out HM5.out.img e) (fun e => mapNot HMP.out HM5.out.prt e)
                    have HN := hid_mk (St.wrote hmem HS1.out hbox hbel (by rw [hll]; exact hMP.out) (by rw [hll]; exact hn') (by rw [hll]; omega) (leB_bytes jj v) (by rw [hll]; exact HL0.out))
                    clear hll hbel hbox hmem
                    go_wp2_with fail
                    go_roundg (A.length - (k + 1))
                    case measure => omega
                    case rel =>
                      have h80 : k < 2000000 := by have := H80.out; omega
                      exact ⟨k + 1, _, _, n', by omega, by first | exact next64v k h80 | exact next64w k h80 | rfl, by omega, HN⟩
          · have bq1 : (q == 1) = false := by simp; exact q1
            by_cases q3 : q = 3
            · subst q3
              as_aux_lemma =>
                by_cases hl0 : l = []
                · subst hl0
                  have hEM := writeE_nil L M a
                  obtain ⟨hE, hM⟩ := hEM
                  have hlz : (([] : List Int).length : Int) = 0 := rfl
                  go_wp2_with fail
                  go_region_held3 (fun W => W.cell? ⟨ab, 1, none⟩ = some (.int .u64 a) ∧ W.cell? ⟨ab, 4, none⟩ = some (.slice ba ([] : List Int).length bc))
                    (first | exact ⟨a1, a4⟩ | exact keepC (by assumption) (by assumption) | exact keepCw (by assumption) (by assumption) hai | assumption)
                    (first
                      | (go_at_call 25; refine (own_any _ [] _ ((HX5.out.below HS1.out.bel).below (Below.refl _ _).drew) (by first | omega | simp)).mono ?_; rintro e wo ⟨vo, rfl, hnb, hbo⟩)
                      | (go_at_call 12; refine (write_any p ib qb L M a _ [] _ ((HS1.out.mem.below (Below.refl _ _).drew).below hbo) x1 hnb.at HX6.out (by first | omega | simp)).mono ?_; rintro e ww ⟨rfl, hm, hc⟩))
                  obtain ⟨s1, s4⟩ : ww.cell? ⟨ab, 1, none⟩ = some (.int .u64 a) ∧ ww.cell? ⟨ab, 4, none⟩ = some (.slice ba ([] : List Int).length bc) := by assumption
                  rw [hM] at hm
                  have HS2 := hid_mk ((HS1.out.below (Below.refl _ _).drew |>.below hbo).rewrote hm hc HNE.out)
                  clear hm hc hbo hnb hM a1 a3 a4
                  go_wp2_with fail
                  go_loopw [19] (fun i wr => i = .int .i64 0 ∧ wr = ww) (fun _ _ => 0)
                  case atStart => exact ⟨rfl, rfl⟩
                  case round =>
                    obtain ⟨rfl, rfl⟩ := hrel
                    go_wp2_with fail
                    go_roundg (A.length - (k + 1))
                    case measure => omega
                    case rel =>
                      have h80 : k < 2000000 := by have := H80.out; omega
                      exact ⟨k + 1, M, f, n, by omega, by first | exact next64v k h80 | exact next64w k h80 | rfl, by omega, hid_mk (HS2.out.next)⟩
                · have hpos : 0 < l.length := by
                    cases l
                    · exact absurd rfl hl0
                    · simp
                  have hposi : (0 : Int) < (l.length : Int) := by omega
                  have hlz : ((l.length : Int) == 0) = false := by simp; omega
                  have hUl : U64 (l.length : Int) := by omega
                  clear hl0
                  cases hl : loc L a l.length with
                  | none =>
                    have hEM := writeE_none M hl hpos
                    obtain ⟨hE, hM⟩ := hEM
                    have HL0 := hid_mk hl
                    clear hl
                    go_wp2_with fail
                    go_region_held3 (fun W => W.cell? ⟨ab, 1, none⟩ = some (.int .u64 a) ∧ W.cell? ⟨ab, 4, none⟩ = some (.slice ba l.length bc))
                      (first | exact ⟨a1, a4⟩ | exact keepC (by assumption) (by assumption) | exact keepCw (by assumption) (by assumption) hai | assumption)
                      (first
                        | (go_at_call 25; refine (own_any _ l _ ((HX5.out.below HS1.out.bel).below (Below.refl _ _).drew) (by first | omega | simp)).mono ?_; rintro e wo ⟨vo, rfl, hnb, hbo⟩)
                        | (go_at_call 12; refine (write_any p ib qb L M a _ l _ ((HS1.out.mem.below (Below.refl _ _).drew).below hbo) x1 hnb.at HX6.out (by first | omega | simp)).mono ?_; rintro e ww ⟨rfl, hm, hc⟩))
                    obtain ⟨s1, s4⟩ : ww.cell? ⟨ab, 1, none⟩ = some (.int .u64 a) ∧ ww.cell? ⟨ab, 4, none⟩ = some (.slice ba l.length bc) := by assumption
                    rw [hM] at hm
                    have HS2 := hid_mk ((HS1.out.below (Below.refl _ _).drew |>.below hbo).rewrote hm hc HNE.out)
                    clear hm hc hbo hnb hM a1 a3 a4
                    go_wp2_with (go_at_call 31; refine (in_any _ L a l.length w.heap.size _ (HV0.out.below HS2.out.bel) HU0.out HOK.out HM.out HS2.out.box x1 hUl).mono ?_; rw [HL0.out]; rintro e w' ⟨rfl, mq, rfl⟩)
                    go_loopw [19] (fun i wr => i = .int .i64 0 ∧ wr = ww.drewN mq) (fun _ _ => 0)
                    case atStart => exact ⟨rfl, rfl⟩
                    case round =>
                      obtain ⟨rfl, rfl⟩ := hrel
                      go_wp2_with fail
                      go_roundg (A.length - (k + 1))
                      case measure => omega
                      case rel =>
                        have h80 : k < 2000000 := by have := H80.out; omega
                        exact ⟨k + 1, M, f, n, by omega, by first | exact next64v k h80 | exact next64w k h80 | rfl, by omega, hid_mk ((HS2.out.below (below_drewN ww _)).next)⟩
                  | some t =>
                    have hEM := writeE_some M hl hpos
                    obtain ⟨hE, hM⟩ := hEM
                    have hend := loc_end HOK.out hl
                    have HL0 := hid_mk hl
                    clear hl
                    go_wp2_with fail
                    go_region_held3 (fun W => W.cell? ⟨ab, 1, none⟩ = some (.int .u64 a) ∧ W.cell? ⟨ab, 4, none⟩ = some (.slice ba l.length bc))
                      (first | exact ⟨a1, a4⟩ | exact keepC (by assumption) (by assumption) | exact keepCw (by assumption) (by assumption) hai | assumption)
                      (first
                        | (go_at_call 25; refine (own_any _ l _ ((HX5.out.below HS1.out.bel).below (Below.refl _ _).drew) (by first | omega | simp)).mono ?_; rintro e wo ⟨vo, rfl, hnb, hbo⟩)
                        | (go_at_call 12; refine (write_any p ib qb L M a _ l _ ((HS1.out.mem.below (Below.refl _ _).drew).below hbo) x1 hnb.at HX6.out (by first | omega | simp)).mono ?_; rintro e ww ⟨rfl, hm, hc⟩))
                    obtain ⟨s1, s4⟩ : ww.cell? ⟨ab, 1, none⟩ = some (.int .u64 a) ∧ ww.cell? ⟨ab, 4, none⟩ = some (.slice ba l.length bc) := by assumption
                    rw [hM] at hm
                    have HS15 := hid_mk ((HS1.out.below (Below.refl _ _).drew).below hbo)
                    have HM5 := hid_mk hm
                    have HMP := hid_mk (HS15.out.map.chg hc HNE.out.mi)
                    have HBO := hid_mk ((hc.cell (World.block_lt_of_cell? _ _ HS15.out.box) HNE.out.li).trans HS15.out.box)
                    have HBE := hid_mk (hc.since1 HS15.out.bel HNE.out.gi)
                    have B1C := hid_mk s1
                    have B4C := hid_mk s4
                    clear hm hc hbo hnb hM a1 a3 a4
                    go_wp2_with (go_at_call 31; refine (in_any _ L a l.length w.heap.size _ (HV0.out.below HBE.out) HU0.out HOK.out HM.out HBO.out x1 hUl).mono ?_; rw [HL0.out]; rintro e w' ⟨rfl, mq, rfl⟩)
                    clear s1 s4
                    obtain ⟨bb, bo, rfl, hbb, hbcells⟩ : ∃ bb bo : Nat, ba = some ⟨bb, bo, none⟩ ∧ bb < w.heap.size ∧ ∀ j, j < l.length → w.cell? ⟨bb, bo + j, none⟩ = some (.int .u8 (l.getD j 0)) := by
                      rcases HX5.out with ⟨_, rfl⟩ | ⟨bb, bo, bc', h1, h2, _, h3⟩
                      · simp at hpos
                      · injection h1 with h1 _ _
                        exact ⟨bb, bo, h1, h2, h3⟩
                    have HBC := hid_mk hbcells
                    have hbm : bb ≠ mb := by have := HNE.out.gm; omega
                    clear hbcells
                    go_loopw [19] (fun i wr => ∃ jj n' : Nat, jj ≤ l.length ∧ i = .int .i64 jj ∧ n' ≤ 4000 * k + jj ∧ Hid (MapIs wr mb n' (over f a l jj)) ∧ Hid (Chg (· = mb) (ww.drewN mq) wr)) (fun i _ => l.length - (intOf i).toNat)
                    case atStart => exact ⟨0, n, Nat.zero_le _, rfl, HS1.out.cnt, hid_mk (by rw [over_zero]; exact HMP.out.below (below_drewN ww mq)), hid_mk (Chg.refl _ _)⟩
                    case round =>
                      obtain ⟨jj, n', hjj, rfl, hn', hMP, hCh⟩ := hrel
                      have hx1 := (hCh.out.cell (World.block_lt_of_cell? _ _ B1C.out) ham).trans B1C.out
                      have hx4 := (hCh.out.cell (World.block_lt_of_cell? _ _ B4C.out) ham).trans B4C.out
                      have hbwr := (HBE.out.trans (below_drewN ww mq |>.mono HBE.out.size)).trans (hCh.out.below (B := w.heap.size) (HBE.out.size) (fun i hi hs => by have := HNE.out.gm; omega))
                      by_cases hjl : jj < l.length
                      · have hji : (jj : Int) < (l.length : Int) := by omega
                        have hkey : IntKind.u64.wrap (a + (jj : Int)) = a + (jj : Int) := by
                          rw [IntKind.wrap_u64]
                          omega
                        have hkj : IntKind.u64.wrap (jj : Int) = (jj : Int) := by
                          rw [IntKind.wrap_u64]
                          omega
                        have hkey2 : IntKind.u64.wrap (a + IntKind.u64.wrap (jj : Int)) = a + (jj : Int) := by rw [hkj, hkey]
                        have hxb := (hbwr.cell (p := ⟨bb, bo + jj, none⟩) hbb).trans (HBC.out jj hjl)
                        have hbt := isBytes_at HX6.out jj
                        obtain ⟨w6, hrun, hmp, hcm⟩ := (hMP.out.below (Below.refl _ _).drew).update (by have := H80.out; omega) (a + (jj : Int)) (l.getD jj 0) (by omega) hbt
                        have HMP6 := hid_mk hmp
                        have HC6 := hid_mk (hCh.out.trans ((Chg.of_below (Below.refl wr.heap.size wr).drew).trans hcm))
                        have HCM := hid_mk hcm
                        clear hmp hcm hbwr hbt
                        generalize hgv : l.getD jj 0 = y at *
                        go_wp2_with fail
                        go_region_held3 (fun W => W.cell? ⟨ab, 1, none⟩ = some (.int .u64 a) ∧ W.cell? ⟨ab, 4, none⟩ = some (.slice (some ⟨bb, bo, none⟩) l.length bc) ∧ W.cell? ⟨bb, bo + jj, none⟩ = some (.int .u8 y))
                          (first | exact ⟨hx1, hx4, hxb⟩ | exact keepCu (by assumption) HCM.out ham hbm | assumption)
                          (fail)
                        go_wp2_with fail
                        go_roundw
                        case rel => exact ⟨jj + 1, n' + 1, by omega, by go_num, by omega, hid_mk (by rw [over_succ, hgv]; exact HMP6.out), HC6⟩
                        case measure => simp [intOf]; omega
                      · obtain rfl : jj = l.length := by omega
                        have hbox := (hCh.out.cell (World.block_lt_of_cell? _ _ HBO.out) HNE.out.lm).trans HBO.out
                        have hmem := (HM5.out.drewN mq).keep hCh.out (fun e => mapNot HMP.out HM5.out.obj e) (fun e => mapNot HMP.out HM5.out.img e) (fun e => mapNot HMP.out HM5.out.prt e)
                        have HN := hid_mk (St.wrote hmem HS1.out hbox hbwr hMP.out hn' (by omega) HX6.out HL0.out)
                        clear hbox hmem hbwr
                        go_wp2_with fail
                        go_roundg (A.length - (k + 1))
                        case measure => omega
                        case rel =>
                          have h80 : k < 2000000 := by have := H80.out; omega
                          exact ⟨k + 1, _, _, n', by omega, by first | exact next64v k h80 | exact next64w k h80 | rfl, by omega, HN⟩
            · have bq3 : (q == 3) = false := by simp; exact q3
              as_aux_lemma =>
                have HLV : Hid (Below wc.heap.size wc wc) := Below.refl _ _
                go_wp2_with fail
                go_region_held3 (fun W => Below wc.heap.size wc W ∧ W.cell? ⟨ab, 1, none⟩ = some (.int .u64 a) ∧ W.cell? ⟨ab, 3, none⟩ = some (.int .u64 v))
                  (first | exact ⟨(Below.refl _ _).drew, a1, a3⟩ | exact keepAB (by assumption) (by assumption) | exact keepAB (by assumption) (below_drewN _ _) | assumption)
                  (first
                    | (go_at_call 14; refine (has_any p ib qb L M a v _ (HS1.out.below (by have h := ‹Below wc.heap.size wc _ ∧ _›; exact h.1)).mem x1 x2).mono ?_; rintro e w' ⟨rfl, hbh⟩)
                    | (go_at_call 31; refine (in_any _ L a v w.heap.size _ (HV0.out.below (HS1.out.below (by have h := ‹Below wc.heap.size wc _ ∧ _›; exact h.1)).bel) HU0.out HOK.out HM.out (HS1.out.below (by have h := ‹Below wc.heap.size wc _ ∧ _›; exact h.1)).box x1 x2).mono ?_; rintro e w' ⟨rfl, mq, rfl⟩))
                all_goals
                  have HS2 := hid_mk (HS1.out.below (by have h := ‹Below wc.heap.size wc _ ∧ _›; exact h.1))
                  clear a1 a3 a4
                  go_wp2_with fail
                  go_roundg (A.length - (k + 1))
                  case measure => omega
                  case rel =>
                    have h80 : k < 2000000 := by have := H80.out; omega
                    exact ⟨k + 1, M, f, n, by omega, by first | exact next64v k h80 | exact next64w k h80 | rfl, by omega, hid_mk HS2.out.next⟩
    · obtain rfl : k = A.length := by omega
      as_aux_lemma =>
        have HS1 := HS0
        clear hlt
        go_wp2_with fail
        refine (image_any p ib qb L M _ HS1.out.mem).mono ?_
        rintro e w8 ⟨vI, rfl, hnb, hb⟩
        have HS8 := hid_mk (HS1.out.below hb)
        obtain ⟨ia, ic, rfl⟩ := hnb.len
        have HNB := hid_mk hnb
        have HLM := hid_mk HS8.out.mem.len
        have HLS := hid_mk HS8.out.mem.sum
        have hbx := HS8.out.box
        clear hb hnb
        go_wp2_with fail
        go_loopg [21, 22] L.length (fun gk n2 c wr => ∃ i m : Nat, i ≤ L.length ∧ n2 = .int .i64 ((off L i : Nat) : Int) ∧ c = .int .i64 i ∧ L.length - i ≤ gk ∧ wr = w8.drewN m)
        case atStart => exact ⟨0, 0, Nat.zero_le _, by rw [off_zero]; rfl, rfl, Nat.le_refl _, rfl⟩
        case round =>
          obtain ⟨i, m, hi, rfl, rfl, hgi, rfl⟩ := hrel
          have h16i : (L.length : Int) ≤ 16 := by have := HM.out; omega
          by_cases hlt : i < L.length
          · obtain ⟨b, o, rfl, hbw, hcells⟩ : ∃ b o, va = some ⟨b, o, none⟩ ∧ b < w.heap.size ∧ (∀ j, j < L.length → w.cell? ⟨b, o + j * 2, none⟩ = some (.int .u64 (at_ L j).1) ∧ w.cell? ⟨b, o + j * 2 + 1, none⟩ = some (.int .u64 (at_ L j).2)) := by
              rcases HV0.out with ⟨_, hnil⟩ | ⟨b, o, c, h1, h2, _, h3⟩
              · rw [hnil] at hlt
                simp at hlt
              · injection h1 with h1 _ _
                exact ⟨b, o, h1, h2, h3⟩
            obtain ⟨hc0, hc1⟩ := hcells i hlt
            have c0 := (HS8.out.bel.cell (p := ⟨b, o + i * 2, none⟩) hbw).trans hc0
            have c1 := (HS8.out.bel.cell (p := ⟨b, o + i * 2 + 1, none⟩) hbw).trans hc1
            have hat := okR_at HOK.out i hlt
            have HST2 := hid_mk (off_step L i hlt)
            have HROOM := hid_mk (off_room L i hlt)
            have HAG := hid_mk (HS8.out.agr i hlt)
            clear hcells hc0 hc1
            generalize (at_ L i).1 = ra at *
            generalize (at_ L i).2 = rs at *
            obtain ⟨hat1, hat2, hat3, hat4⟩ := hat
            obtain ⟨bI, cI, hvI, hbI1, hbI2, hbI3, hcI⟩ := HNB.out.form (by rw [HLM.out]; have := HROOM.out; omega)
            injection hvI with hvI _ hvc
            subst hvI hvc
            have HCI := hid_mk hcI
            clear hcI hbI1 hbI2 hbI3
            go_wp2_with fail
            go_loopw [21, 23] (fun n2 kk wr => ∃ j m2 : Nat, (j : Int) ≤ rs ∧ n2 = .int .i64 ((off L i + j : Nat) : Int) ∧ kk = .int .u64 j ∧ wr = w8.drewN m2) (fun _ kk _ => (rs - intOf kk).toNat)
            case atStart => exact ⟨0, m, by omega, rfl, rfl, rfl⟩
            case round =>
              obtain ⟨j, m2, hj, rfl, rfl, rfl⟩ := hrel
              by_cases hjl : (j : Int) < rs
              · have hag := HAG.out j hjl
                have hlen : off L i + j < M.length := by rw [HLM.out]; have := HROOM.out; omega
                have hls := HLS.out
                have hcj := HCI.out (off L i + j) hlen
                generalize M.getD (off L i + j) 0 = y at *
                generalize ht : off L i + j = t at *
                have HNEXT := hid_mk (show off L i + (j + 1) = t + 1 by omega)
                have hadd : IntKind.u64.wrap (ra + (j : Int)) = ra + (j : Int) := by
                  rw [IntKind.wrap_u64]
                  omega
                have hlk : ∀ mm : Nat, (Instr.lookup 56 (.map (some mb)) (.int .u64 (ra + (j : Int))) false).run Try.prog (w8.drewN mm) = .ok (.int .u8 y) (w8.drewN mm) := fun mm => by
                  rw [(HS8.out.below (below_drewN w8 mm)).map.lookup (ra + (j : Int)) (by omega), hag]
                have hge : decide ((M.length : Int) ≤ (t : Int)) = false := by simp; omega
                have HT := hid_mk (show t < 2000000 by omega)
                clear hag ht hls
                go_wp2_with fail
                go_quiet (fail)
                go_wp2_with fail
                go_roundw
                case rel => exact ⟨j + 1, _, by omega, by rw [HNEXT.out]; first | exact next64v t HT.out | exact next64w t HT.out | rfl, by go_num, rfl⟩
                case measure => simp [intOf]; omega
              · have hje : (j : Int) = rs := by omega
                go_wp2_with fail
                go_roundg (L.length - (i + 1))
                case measure => omega
                case rel =>
                  have h80 : i < 2000000 := by omega
                  exact ⟨i + 1, m2, by omega, by have := HST2.out; congr 1; omega, by first | exact next64v i h80 | exact next64w i h80 | rfl, by omega, rfl⟩
          · obtain rfl : i = L.length := by omega
            rw [show off L L.length = M.length from by rw [off_all, HLM.out]]
            go_wp2_with fail
            go_ret
            exact ⟨ret_eq (by first | rfl | simp), (HS8.out.below (below_drewN w8 m)).bel⟩

theorem walk (w : World) (v0 : Value) (L : List (Int × Int)) (hv0 : RegsAt w v0 L) (hb0 : isRegs L) (hm0 : L.length ≤ maxLen) (v1 : Value) (A : List ActT) (hv1 : ActsAt w v1 A) (hb1 : isActs w A) (hm1 : A.length ≤ maxLen) :
    Calls Try.prog 6 #[v0, v1] w fun e w' => e = .returned (.bool true) ∧ Below w.heap.size w w' := by
  obtain ⟨va, vc, rfl⟩ := hv0.len
  obtain ⟨vb, vd, rfl⟩ := hv1.len
  cases c1 : lightB L 20000 with
  | false => exact walk_light w va vb vc vd L hv0 hb0 A hv1 hb1 c1
  | true =>
    cases c2 : smallB A with
    | false => exact walk_small w va vb vc vd L hv0 hb0 A hv1 hb1 c1 c2
    | true =>
      have h40 : L.length ≤ 40 := by
        unfold lightB at c1
        simp at c1
        exact c1.1
      have h80 : (∀ j, j < min A.length 81 → (actAt A j).l.length ≤ 2000) ∧ A.length ≤ 80 := by
        unfold smallB at c2
        rw [Bool.and_eq_true, decide_eq_true_eq, decide_eq_true_eq] at c2
        exact c2
      by_cases h : L.length ≤ 16 ∧ okR (-1) 1048576 L = true
      · exact walk_main w va vb vc vd L hv0 hb0 A hv1 hb1 c1 c2 (by unfold chkE; rw [if_pos h]) h.1 h.2 h80.2 (fun j hj => h80.1 j (by omega))
      · exact walk_chk w va vb vc vd L hv0 hb0 A hv1 hb1 c1 c2 (by unfold chkE; rw [if_neg h]) h40

/-! ### the row's frame -/
theorem own : ownKnob Try.prog.godebug = none := by kernel_rfl
theorem laidOut : laidOutB Try.prog = true := by kernel_rfl

set_option maxRecDepth 100000 in
theorem lifted (os : Os) (started : os.Started) (H : Type) (enc : TypeId × Value → H) :
    ReturnsInHanded {} Try.checked os 6 .any (Rows.gmemHoldsSpec.pre6 enc Try.prog Try.f6 Rows.gmemHoldsRow.domain false) (Rows.gmemHoldsSpec.post enc Try.prog Try.f6 false true false false) := by
  refine returnsInHanded_of_change (C := Try.checked) own started (by kernel_rfl) Try.func6
    (ChangeSpec.witness6 (enc := enc) (C := Try.checked) false ⟨#[], #[.slice none 0 0, .slice none 0 0], []⟩ 8 (by kernel_rfl) (by kernel_rfl) (by kernel_rfl) (by kernel_rfl)) ?_
  intro W base args ds gs before hval0 hW hcnd _
  have hval : ∀ (j : Nat) t v, Try.f6.params[j]? = some t → args[j]? = some v → Value.okWide Try.prog W .any base t v := hval0
  have hW' := hW
  obtain ⟨p, q, hA0, hV, rfl, hfz, hnd⟩ := hW
  have hA : DataW.TrodAll enc Try.prog W 0 (fun _ => true) true Try.f6.params.toList args.toList ds p := hA0
  rw [Try.params6] at hA hval
  obtain ⟨v0, vs0, d0, ds0, p0, q0, hargs, rfl, rfl, h0, r0⟩ := trodAll_cons hA
  obtain ⟨v1, vs1, d1, ds1, p1, q1, rfl, rfl, rfl, h1, r1⟩ := trodAll_cons r0
  obtain ⟨rfl, rfl, rfl⟩ := trodAll_nil r1
  obtain rfl : args = #[v0, v1] := by cases args; simp_all
  obtain ⟨rfl, rfl⟩ := trodVars_none hV
  have k0 := h0
  have lt0 : ∀ x ∈ p0, x.block < W.heap.size := by
    obtain ⟨m, hm⟩ := k0
    exact DataW.trod_lt m _ _ _ hm
  have k1 := h1
  have lt1 : ∀ x ∈ p1, x.block < W.heap.size := by
    obtain ⟨m, hm⟩ := k1
    exact DataW.trod_lt m _ _ _ hm
  obtain ⟨l0, hv0, hb0, hm0⟩ := open_regs (hval 0 29 v0 rfl rfl) h0
  obtain ⟨l1, hv1, hb1, hm1⟩ := open_acts2 (hval 1 39 v1 rfl rfl) h1
  clear hA0 hval0
  refine (walk W v0 l0 hv0 hb0 hm0 v1 l1 hv1 hb1 hm1).mono fun e W' ⟨he, bel⟩ => ?_
  subst he
  exact ⟨_, rfl, _, _, _, [], _, [], hW', trodAll_mk1 (shut_bool Try.underlying4 _), (trodAll_cons_mk (Below.trod laidOut (by kernel_rfl) (of_decide_eq_true (by kernel_rfl)) k0 bel lt0) (trodAll_cons_mk (Below.trod laidOut (by kernel_rfl) (of_decide_eq_true (by kernel_rfl)) k1 bel lt1) trodAll_mk0)), rfl, bel.frame _, fun h => by cases h⟩

theorem over : Rows.gmemHoldsRow.holds Try.pinned (OpenSpec.ofChange Rows.gmemHoldsSpec) :=
  OpenClaim.holds_of_wide 6 Try.f6 rfl rfl rfl rfl rfl rfl rfl ⟨rfl, rfl, rfl, rfl, rfl⟩ rfl rfl rfl rfl rfl (by kernel_rfl) Try.func6 (by kernel_rfl)
    (of_decide_eq_true (by kernel_rfl)) (by unfold Func.isWrapper; first | (rw [if_pos (by decide +kernel)]; kernel_rfl) | (rw [if_neg (by decide +kernel)]; exact ⟨rfl, rfl⟩))
    (fun os started H enc _ => lifted os started H enc)

/-- THE STATEMENT -/
theorem gmemHolds_holds : Rows.GmemHoldsSaid := over
#print axioms gmemHolds_holds
end Go.Proofs.Ytigdolohdehcdaa.gmemHolds
