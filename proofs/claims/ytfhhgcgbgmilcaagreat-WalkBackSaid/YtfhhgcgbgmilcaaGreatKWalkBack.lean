/-
  PROVED: dumbwaiterlaw10.WalkBack returns true for every input, and what was in memory stays as it was. Conditions: none.
-/
import Derived.Test.YtfhhgcgbgmilcaaGreatKp50
import Derived.Test.YtfhhgcgbgmilcaaGreatRows
import Derived.WalkKit
import Derived.ProofKit
import Derived.OpenShut
import Derived.ShutString
import Derived.ChangeOld
import Derived.Below
import Derived.Carry
import Derived.Lib.SmallJoins
import Derived.BigQuiet

namespace Go.Proofs.YtfhhgcgbgmilcaaGreat.walkBack
open Go.ChangeShapes Go.WideShapes Go.ChangeAt Go.RowKit
set_option linter.unusedVariables false


set_option maxRecDepth 100000 in
set_option maxHeartbeats 8000000 in
theorem walk_main (w : World) (va : Option Addr) (vc : Nat) (L : List Sg) (hv : SegsAt w (.slice va L.length vc) L) (hs : isSgs L) (hm : mayE L = 0) (first id_ at_ : Int) (wrap : Bool) :
    Calls Tryz.prog 3 #[.slice va L.length vc, .int .i64 first, .int .i64 id_, .int .i64 at_, .bool wrap] w fun e w' => e = .returned (.bool true) ∧ Below w.heap.size w w' := by
  have h64 := mayE_len hm
  have h0 := (mayE_ok hm).2
  obtain ⟨m, hL⟩ : ∃ m, L.length = m := ⟨_, rfl⟩
  have QV := hid_mk hv
  have HS := hid_mk hs
  have HM0 := hid_mk hm
  have HN := hid_mk (fun (u : World) (g : SegsAt u (.slice va L.length vc) L) => bdneeds _ L true u g hs (by omega))
  have hn1 : neeN L true = 1 := by
    unfold neeN
    rw [if_pos hm]
    rfl
  rw [hn1] at HN
  have HLm := hid_mk hL
  rw [hL] at QV HN h64 h0 ⊢
  have hm64 : (m : Int) ≤ 64 := by omega
  have hm100 : decide (100 < (m : Int)) = false := decide_eq_false (by omega)
  obtain ⟨h, hh⟩ := Int.eq_ofNat_of_zero_le (Int.emod_nonneg first (show (64 : Int) ≠ 0 by omega))
  have hh1 := Int.emod_lt_of_pos first (show (0 : Int) < 64 by omega)
  obtain ⟨q, hq⟩ := Int.eq_ofNat_of_zero_le (Int.emod_nonneg at_ (show (64 : Int) ≠ 0 by omega))
  have hq1 := Int.emod_lt_of_pos at_ (show (0 : Int) < 64 by omega)
  obtain ⟨d, hd⟩ := Int.eq_ofNat_of_zero_le (Int.emod_nonneg id_ (show (64 : Int) ≠ 0 by omega))
  have hd1 := Int.emod_lt_of_pos id_ (show (0 : Int) < 64 by omega)
  have HP1 := hid_mk (fun u => pick_any first 64 u (by omega) (by omega))
  have HP2 := hid_mk (fun u => pick_any at_ 64 u (by omega) (by omega))
  have HP3 := hid_mk (fun u => pick_any id_ 64 u (by omega) (by omega))
  rw [hh] at HP1 hh1
  rw [hq] at HP2 hq1
  rw [hd] at HP3 hd1
  have hh2 : h < 64 := by omega
  have CL : ∀ pk : Bool, Hid (∀ u, Calls Tryz.prog 6 #[.int .i64 64, .bool pk, .slice none 0 0] u fun e w' => ∃ p ib qb rp, e = .returned (.tuple #[.pointer (some ⟨p, 0, none⟩), .pointer (some ⟨rp, 0, none⟩), rV pk 64 0 1024 (cO pk 64), .bool true]) ∧ LdS u p ib qb rp R10 (laidM pk []) (laidM pk []) w') := fun pk => hid_mk (fun u => by
    have h := laid10 64 pk (.slice none 0 0) [] u (Or.inl ⟨⟨_, _, rfl, fun _ => rfl⟩, rfl⟩) (fun j hj => by simp at hj) (by simp) (by cases pk; exact ring64.1; exact ring64p.1)
    rw [al16, Int.zero_add, Int.zero_add] at h
    exact h)
  have HW64 := hid_mk (fun i => wy_lt (h := h) (s := 2 * 5 + 1) (n := 64) (i := i) (by decide))
  have HWj := hid_mk (fun (i j : Nat) (hi : i < m) (hj : j < m) (he : wy h (2 * 5 + 1) 64 i = wy h (2 * 5 + 1) 64 j) => wy_inj (t := 6) (q := 5) (h := h) (i := i) (j := j) (by omega) (by omega) he)
  obtain ⟨W, hW⟩ : ∃ W, W = wy h (2 * 5 + 1) 64 := ⟨_, rfl⟩
  have HWe := hid_mk hW
  rw [← hW] at HW64 HWj
  clear hv hs hm hL hn1 hh hq hd hW
  have HB := hid_mk (Below.refl w.heap.size w)
  go_enter Tryz.func3, Tryz.ntmps3
  go_wp2_with fail
  refine (lives10_any _).mono ?_
  rintro e w1 ⟨rfl, hb⟩
  replace HB := hid_mk (below_then HB.out hb)
  clear hb
  go_wp2_with fail
  refine (HN.out _ (QV.out.below HB.out)).mono ?_
  rintro e w2 ⟨rfl, hb⟩
  replace HB := hid_mk (below_then HB.out hb)
  clear hb HN
  go_wp2_with fail
  go_loopw [11] (fun i wr => ∃ k : Nat, k ≤ m ∧ i = .int .i64 (k : Int) ∧ Hid (Below w.heap.size w wr) ∧ Hid (∀ j, j < k → (sat L j).a + (sat L j).n ≤ 12000)) (fun i _ => m - (intOf i).toNat)
  case atStart => exact ⟨0, Nat.zero_le _, rfl, HB, hid_mk (fun j hj => by omega)⟩
  case round =>
    obtain ⟨k, hk, rfl, hold, hok⟩ := hrel
    by_cases hlt : k < m
    · have hki : (k : Int) < (m : Int) := by omega
      have hwk1 : IntKind.i64.wrap ((k : Int) + 1) = (k : Int) + 1 := IntWalk.i64_in _ (by omega)
      obtain ⟨g, o, hva, hg1, hg2⟩ := segs_row QV.out (by rw [HLm.out]; omega)
      obtain ⟨c0, c1, _⟩ := hg2 k (by rw [HLm.out]; omega)
      subst hva
      replace c0 := (hold.out.cell (p := ⟨g, _, none⟩) hg1).trans c0
      replace c1 := (hold.out.cell (p := ⟨g, _, none⟩) hg1).trans c1
      have hg3 := Nat.lt_of_lt_of_le hg1 hold.out.size
      obtain ⟨⟨s1, s2⟩, s3, s4⟩ := sat_is HS.out k
      have HK := hid_mk (fun (hkn : (sat L k).a + (sat L k).n ≤ 12000) j (hj : j < k + 1) => by
        by_cases e : j < k
        · exact hok.out j e
        · obtain rfl : j = k := by omega
          exact hkn)
      generalize (sat L k).a = a at *
      generalize (sat L k).n = n at *
      have hwn : IntKind.u64.wrap n = n := by rw [IntKind.wrap_u64]; omega
      clear hg2 hok
      have hk0 : 0 ≤ (k : Int) := by omega
      have hkt : (k : Int).toNat = k := by omega
      by_cases hA : a < 4000
      · have d1 : decide (a < 4000) = true := decide_eq_true hA
        clear HK hA
        go_wp2_with fail
        go_quiet (fail)
        go_wp2_with fail
        go_ret
        exact ⟨rfl, by first | exact hold.out | exact hold.out.trans (below_dn (Below.refl _ _) _) | exact below_dn hold.out _⟩
      · have d1 : decide (a < 4000) = false := decide_eq_false hA
        by_cases hB : 12000 < a
        · have d2 : decide (12000 < a) = true := decide_eq_true hB
          clear HK hA hB
          go_wp2_with fail
          go_quiet (fail)
          go_wp2_with fail
          go_ret
          exact ⟨rfl, by first | exact hold.out | exact below_dn hold.out _⟩
        · have d2 : decide (12000 < a) = false := decide_eq_false hB
          have hwan : IntKind.u64.wrap (a + n) = a + n := by rw [IntKind.wrap_u64]; omega
          by_cases hC : 12000 < a + n
          · have d3 : decide (12000 < a + n) = true := decide_eq_true hC
            clear HK hA hB hC
            go_wp2_with fail
            go_quiet (fail)
            go_wp2_with fail
            go_ret
            exact ⟨rfl, by first | exact hold.out | exact below_dn hold.out _⟩
          · have d3 : decide (12000 < a + n) = false := decide_eq_false hC
            have HK2 := hid_mk (HK.out (by omega))
            clear HK hA hB hC
            go_wp2_with fail
            go_quiet (fail)
            go_wp2_with fail
            go_roundw
            case rel => exact ⟨k + 1, by omega, by simp, hid_mk (by first | exact hold.out | exact below_dn hold.out _), HK2⟩
            case measure => simp [intOf]; omega
    · obtain rfl : m = k := by omega
      have HIn := hid_mk (in_back HS.out HM0.out (fun j hj => hok.out j (by rw [HLm.out] at hj; exact hj)))
      have HB := hold
      clear hok hold hlt hk
      go_wp2_with fail
      refine ((CL false).out _).mono ?_
      rintro e w3 ⟨mp, ib, qb, rp, rfl, hm⟩
      have HRB := hid_mk (Nat.le_trans HB.out.size hm.old.size)
      have HM := hid_mk (hm.rebase HB.out).md
      have hbx := below_box w3 (.cells #[.bool false, .int .i64 64, .int .u64 0, .int .u64 1024, .int .u64 (cO false 64)] 32)
      have XR := hid_mk (blk_new w3 [.bool false, .int .i64 64, .int .u64 0, .int .u64 1024, .int .u64 (cO false 64)] 32)
      replace HM := hid_mk (HM.out.below hbx)
      replace HB := hid_mk HM.out.old
      clear hm hbx
      obtain ⟨U, hU⟩ : ∃ U, U = w3.alloc (.cells #[.bool false, .int .i64 64, .int .u64 0, .int .u64 1024, .int .u64 (cO false 64)] 32) := ⟨_, rfl⟩
      obtain ⟨rb, hrb⟩ : ∃ rb, rb = w3.heap.size := ⟨_, rfl⟩
      obtain ⟨C, hC⟩ : ∃ C, C = cO false 64 := ⟨_, rfl⟩
      obtain ⟨Z, hZ⟩ : ∃ Z, Z = laidM false [] := ⟨_, rfl⟩
      have HZl : Hid (Z.length = 12000) := hid_mk (by rw [hZ]; simp [laidM])
      have HRf : Hid (wrfE false false ((64 : Nat) : Int) 0 1024 C = 0) := hid_mk (by rw [hC]; exact ring64.2)
      have HC64 : Hid (U64 C) := hid_mk (by rw [hC]; exact cO_rng ring64.1)
      rw [← hZ] at HM
      go_wp2_with fail
      rw [← hC] at hU XR ⊢
      rw [← hU, ← hrb] at XR ⊢
      rw [← hrb] at HRB
      rw [← hC, ← hU] at HM HB
      clear hU hrb hC hZ
      go_loopw [16, 17] (fun s i wr => ∃ k : Nat, k ≤ m ∧ i = .int .i64 (k : Int) ∧ Hid (OwnI U.heap.size wr s (wyT h 5 64 k)) ∧ Hid (Below U.heap.size U wr)) (fun _ i _ => m - (intOf i).toNat)
      case atStart => exact ⟨0, Nat.zero_le _, rfl, hid_mk (World.ownsRow_nil _ _ _ _), hid_mk (Below.refl _ _)⟩
      case round =>
        obtain ⟨k, hk, rfl, hown, hold⟩ := hrel
        by_cases hlt : k < m
        · have hki : (k : Int) < (m : Int) := by omega
          have hwk1 : IntKind.i64.wrap ((k : Int) + 1) = (k : Int) + 1 := IntWalk.i64_in _ (by omega)
          obtain ⟨v', w', h1, h2, h3⟩ := app_int (wy h (2 * 5 + 1) 64 k) hown.out hold.out.size (by rw [wyT_len]; omega)
          obtain ⟨oa, oc, hov⟩ := hown.out.len
          obtain ⟨na, nc, hnv⟩ := h2.len
          rw [← wyT_succ] at h2 hnv
          rw [wyT_len] at hov hnv
          subst hov
          subst hnv
          have hm1 : IntKind.i64.wrap ((k : Int) * 11) = (k : Int) * 11 := IntWalk.i64_in _ (by omega)
          have hm2 : IntKind.i64.wrap ((h : Int) + (k : Int) * 11) = (h : Int) + (k : Int) * 11 := IntWalk.i64_in _ (by omega)
          have hm3 : ((h : Int) + (k : Int) * 11).tmod 64 = ((wy h (2 * 5 + 1) 64 k : Nat) : Int) := by
            rw [Int.tmod_eq_emod_of_nonneg (by omega)]
            unfold wy
            omega
          have HR := hid_mk h1
          have HO := hid_mk h2
          have HB3 := hid_mk (hold.out.trans h3)
          clear h1 h2 h3 hold hown
          go_wp2_with fail
          refine (HP1.out _).mono ?_
          rintro e u ⟨rfl, hs⟩
          subst hs
          go_wp2_with (at_builtin; refine wpList_append_run (v := .slice oa k oc) (u := .slice (some ⟨wr.heap.size, 0, none⟩) 1 1) (v' := .slice na (k + 1) nc) (w' := w') rfl _ _ 35 rfl (by first | rfl | go_simp) (by first | rfl | go_simp) (HR.out _) ?_)
          go_roundw
          case rel => exact ⟨k + 1, by omega, by simp, HO, HB3⟩
          case measure => simp [intOf]; omega
        · obtain rfl : m = k := by omega
          have hIZ := ints_z10 hown.out
          rw [wyT_int, ← HWe.out] at hIZ
          obtain ⟨ig, sc, hsv, hg1, hgc, _⟩ := way_row hown.out (by omega)
          subst hsv
          have hc0 := hgc 0 (by omega)
          rw [← HWe.out] at hc0
          have HM2 := hid_mk (HM.out.below hold.out)
          have XR2 := hid_mk (XR.out.below hold.out)
          obtain ⟨he1, he2⟩ := wy_ids HLm.out HM0.out HW64.out HWj.out
          have HBS := hid_mk (bdsplit _ (.slice va m vc) (wyI W m) L _ hIZ (QV.out.below HM2.out.old) HS.out (by rw [wyI_len]; omega) (by rw [HLm.out]; omega))
          rw [he1, he2] at HBS
          have HI0 := hid_mk hc0
          have HIg := hid_mk hg1
          clear he1 he2 hIZ hc0 hg1 hgc hown hold HM XR HB hlt hk
          go_wp2_with fail
          refine HBS.out.mono ?_
          rintro e w5 ⟨px, rfl, hp, hb⟩
          obtain ⟨pa, pz, hpx⟩ := hp.len
          rw [splL_len, HLm.out] at hpx
          subst hpx
          obtain ⟨pg, po, hpa, hpg, hpk⟩ := hp.rowP (by rw [splL_len, HLm.out]; omega)
          subst hpa
          have HM3 := hid_mk (HM2.out.below hb)
          have XR3 := hid_mk (XR2.out.below hb)
          have HI1 := hid_mk ((hb.cell (p := ⟨ig, 0, none⟩) HIg.out).trans HI0.out)
          have HIg1 := hid_mk (Nat.lt_of_lt_of_le HIg.out hb.size)
          have HPK : Hid (∀ k, k < m → at5 w5 pg (po + k * 5) ⟨(W k : Int), (splD (wyI W m) L k).d⟩) := hid_mk (fun k hk => by
            have h := hpk k (by rw [splL_len, HLm.out]; exact hk)
            rw [splL_at (by rw [HLm.out]; exact hk)] at h
            have e : (splD (wyI W m) L k).i = (W k : Int) := wyI_at hk
            unfold at5 at h ⊢
            rw [e] at h
            exact h)
          have PLT := hid_mk hpg
          have PNE := hid_mk (HM3.out.not_img (HPK.out 0 h0).1)
          have INE := hid_mk (HM3.out.not_img HI1.out)
          have XNE := hid_mk (HM3.out.not_blk XR3.out (by decide))
          clear hp hb hpg hpk HBS HM2 XR2 HI0 HIg
          go_wp2_with fail
          go_loopw [20] (fun i wr => ∃ k : Nat, k ≤ m ∧ i = .int .i64 (k : Int) ∧ Hid (MdS w mp ib qb R10 (wrM Z (fun k => 16 * W k) (fun k => (splD (wyI W m) L k).d) k) wr) ∧ Hid (Chg (· = ib) w5 wr)) (fun i _ => m - (intOf i).toNat)
          case atStart => exact ⟨0, Nat.zero_le _, rfl, HM3, hid_mk (Chg.refl _ _)⟩
          case round =>
            obtain ⟨k, hk, rfl, hmd, hkp⟩ := hrel
            by_cases hlt : k < m
            · have hki : (k : Int) < (m : Int) := by omega
              have hwk1 : IntKind.i64.wrap ((k : Int) + 1) = (k : Int) + 1 := IntWalk.i64_in _ (by omega)
              have hp5 := (HPK.out k hlt).chg hkp.out PLT.out PNE.out
              have hx64 := HW64.out k
              have HDi := hid_mk (sp_dsc (W := W) HS.out HLm.out (fun i _ => by have := HW64.out i; omega) hlt)
              have PLT2 := PLT
              have XRr := hid_mk (hkp.out.at XR3.out XNE.out)
              obtain ⟨x, hx⟩ : ∃ x, W k = x := ⟨_, rfl⟩
              obtain ⟨Dk, hDk⟩ : ∃ D, (splD (wyI W m) L k).d = D := ⟨_, rfl⟩
              rw [hx, hDk] at hp5
              rw [hx] at hx64
              rw [hDk] at HDi
              have HX := hid_mk hx
              have HDk := hid_mk hDk
              have HP5 := hid_mk hp5
              have HM3 := hmd
              have PLT := hid_mk (Nat.lt_of_lt_of_le PLT2.out hkp.out.size)
              have hv1 : IntKind.u64.wrap (x : Int) = (x : Int) := IntWalk.u64_in _ (by omega)
              have hv2 : IntKind.u64.wrap (16 * (x : Int)) = 16 * (x : Int) := IntWalk.u64_in _ (by omega)
              clear hp5 hx hDk PLT2
              go_wp2_with fail
              refine wp_region_outl3 0 [(17, Chg (· = ib))] [(16, 17)] [(17, MdS w mp ib qb R10 (wrM Z (fun k => 16 * W k) (fun k => (splD (wyI W m) L k).d) k))]
                  [(fun v _ => v = .pointer (some ⟨mp, 0, none⟩)),
                  (fun v _ => v = .pointer (some ⟨rb, 2, none⟩)),
                  (fun v _ => v = .int .u64 0),
                  (fun v _ => v = .slice (some ⟨pg, po, none⟩) m pz),
                  (fun v _ => v = .int .i64 (k : Int)),
                  (fun v _ => v = .pointer (some ⟨pg, po + k * 5, none⟩)),
                  (fun v _ => v = .pointer (some ⟨pg, po + k * 5, none⟩)),
                  (fun v _ => v = .int .i64 (x : Int)),
                  (fun v _ => v = .int .u64 (x : Int)),
                  (fun v _ => v = .int .u64 (16 * (x : Int))),
                  (fun v _ => v = .int .u64 (16 * (x : Int))),
                  (fun v _ => v = .slice (some ⟨pg, po, none⟩) m pz),
                  (fun v _ => v = .int .i64 (k : Int)),
                  (fun v _ => v = .pointer (some ⟨pg, po + k * 5, none⟩)),
                  (fun v _ => v = .pointer (some ⟨pg, po + k * 5 + 1, none⟩)),
                  (fun v _ => v = dV Dk),
                  (fun v W => BytesAt W v (dB Dk)),
                  (fun _ Y => MdS w mp ib qb R10 (wrM Z (fun k => 16 * W k) (fun k => (splD (wyI W m) L k).d) (k + 1)) Y)]
                  (Chg (· = ib) wr) (by kernel_rfl) (by kernel_rfl) (by kernel_rfl) ?_ (fun u u' hb h => h.trans (Chg.of_below hb)) (Chg.of_below (Below.refl _ _).drew) ?_ ?_ ?_ ?_ ?_
              · refine And.intro (up_eq _) ?_
                refine And.intro (up_eq _) ?_
                refine And.intro (up_eq _) ?_
                refine And.intro (up_eq _) ?_
                refine And.intro (up_eq _) ?_
                refine And.intro (up_eq _) ?_
                refine And.intro (up_eq _) ?_
                refine And.intro (up_eq _) ?_
                refine And.intro (up_eq _) ?_
                refine And.intro (up_eq _) ?_
                refine And.intro (up_eq _) ?_
                refine And.intro (up_eq _) ?_
                refine And.intro (up_eq _) ?_
                refine And.intro (up_eq _) ?_
                refine And.intro (up_eq _) ?_
                refine And.intro (up_eq _) ?_
                refine And.intro (fun _ _ _ hb h => h.below hb) ?_
                refine And.intro (fun _ _ _ hb h => h.below hb) ?_
                trivial
              · refine And.intro (And.intro (fun u u' hb h => h.below hb) (fun p hp hne u u' ht h => absurd (by rw [List.mem_singleton] at hp; rw [hp]) hne)) ?_
                trivial
              · refine And.intro (HM3.out.below (Below.refl _ _).drew) ?_
                trivial
              · refine And.intro (And.intro ?_ (fun u u' hk h => h.trans hk)) ?_
                · refine And.intro (fun _ _ _ => ch_eq _ _) ?_
                  refine And.intro (fun _ _ _ => ch_eq _ _) ?_
                  refine And.intro (fun _ _ _ => ch_eq _ _) ?_
                  refine And.intro (fun _ _ _ => ch_eq _ _) ?_
                  refine And.intro (fun _ _ _ => ch_eq _ _) ?_
                  refine And.intro (fun _ _ _ => ch_eq _ _) ?_
                  refine And.intro (fun _ _ _ => ch_eq _ _) ?_
                  refine And.intro (fun _ _ _ => ch_eq _ _) ?_
                  refine And.intro (fun _ _ _ => ch_eq _ _) ?_
                  refine And.intro (fun _ _ _ => ch_eq _ _) ?_
                  refine And.intro (fun _ _ _ => ch_eq _ _) ?_
                  refine And.intro (fun _ _ _ => ch_eq _ _) ?_
                  refine And.intro (fun _ _ _ => ch_eq _ _) ?_
                  refine And.intro (fun _ _ _ => ch_eq _ _) ?_
                  refine And.intro (fun _ _ _ => ch_eq _ _) ?_
                  refine And.intro (fun _ _ _ => ch_eq _ _) ?_
                  refine And.intro (fun _ h _ => absurd rfl h) ?_
                  refine And.intro (fun h _ _ => absurd rfl h) ?_
                  trivial
                trivial
              · refine And.intro ?_ (And.intro ?_ (And.intro ?_ (And.intro ?_ (And.intro ?_ (And.intro ?_ (And.intro ?_ (And.intro ?_ (And.intro ?_ (And.intro ?_ (And.intro ?_ (And.intro ?_ (And.intro ?_ (And.intro ?_ (And.intro ?_ (And.intro ?_ (And.intro ?_ (And.intro ?_ (True.intro))))))))))))))))))
                · refine qstep_val (.pointer (some ⟨mp, 0, none⟩)) (by kernel_rfl) (by kernel_rfl) rfl (fun _ A1 W1 inv hnl hall => ⟨wanted_none rfl, ?_, rfl⟩)
                  have h12 : A1.eval (.tmp 12) = .pointer (some ⟨mp, 0, none⟩) := (inv.base 12 (by kernel_rfl)).trans rfl
                  simp only [execOp, h12, Sem.run_pure]
                · refine qstep_val (.pointer (some ⟨rb, 2, none⟩)) (by kernel_rfl) (by kernel_rfl) rfl (fun _ A1 W1 inv hnl hall => ⟨wanted_none rfl, ?_, rfl⟩)
                  have h14 : A1.eval (.tmp 14) = .pointer (some ⟨rb, 0, none⟩) := (inv.base 14 (by kernel_rfl)).trans rfl
                  simp only [execOp, h14]
                  simp [go_sem]
                · refine qstep_val (.int .u64 0) (by kernel_rfl) (by kernel_rfl) rfl (fun _ A1 W1 inv hnl hall => ⟨wanted_none rfl, ?_, rfl⟩)
                  have h120 : A1.eval (.tmp 120) = .pointer (some ⟨rb, 2, none⟩) := inv.get hall 1 120 (by kernel_rfl) (by kernel_rfl) rfl
                  have gg := (inv.s.at XRr.out XNE.out).cell 2
                  simp at gg
                  simp only [execOp, h120]
                  simp [go_sem, gg]
                · refine qstep_val (.slice (some ⟨pg, po, none⟩) m pz) (by kernel_rfl) (by kernel_rfl) rfl (fun _ A1 W1 inv hnl hall => ⟨wanted_none rfl, ?_, rfl⟩)
                  have h18 : A1.eval (.tmp 18) = .slice (some ⟨pg, po, none⟩) m pz := (inv.base 18 (by kernel_rfl)).trans rfl
                  simp only [execOp, h18, Sem.run_pure]
                · refine qstep_val (.int .i64 (k : Int)) (by kernel_rfl) (by kernel_rfl) rfl (fun _ A1 W1 inv hnl hall => ⟨wanted_none rfl, ?_, rfl⟩)
                  have h20 : A1.eval (.tmp 20) = .int .i64 (k : Int) := (inv.base 20 (by kernel_rfl)).trans rfl
                  simp only [execOp, h20, Sem.run_pure]
                · refine qstep_val (.pointer (some ⟨pg, po + k * 5, none⟩)) (by kernel_rfl) (by kernel_rfl) rfl (fun _ A1 W1 inv hnl hall => ⟨wanted_none rfl, ?_, rfl⟩)
                  have h122 : A1.eval (.tmp 122) = .slice (some ⟨pg, po, none⟩) m pz := inv.get hall 3 122 (by kernel_rfl) (by kernel_rfl) rfl
                  have h123 : A1.eval (.tmp 123) = .int .i64 (k : Int) := inv.get hall 4 123 (by kernel_rfl) (by kernel_rfl) rfl
                  simp only [execOp, h122, h123]
                  simp [go_sem, hki]
                · refine qstep_val (.pointer (some ⟨pg, po + k * 5, none⟩)) (by kernel_rfl) (by kernel_rfl) rfl (fun _ A1 W1 inv hnl hall => ⟨wanted_none rfl, ?_, rfl⟩)
                  have h124 : A1.eval (.tmp 124) = .pointer (some ⟨pg, po + k * 5, none⟩) := inv.get hall 5 124 (by kernel_rfl) (by kernel_rfl) rfl
                  simp only [execOp, h124]
                  simp [go_sem]
                · refine qstep_val (.int .i64 (x : Int)) (by kernel_rfl) (by kernel_rfl) rfl (fun _ A1 W1 inv hnl hall => ⟨wanted_none rfl, ?_, rfl⟩)
                  have h125 : A1.eval (.tmp 125) = .pointer (some ⟨pg, po + k * 5, none⟩) := inv.get hall 6 125 (by kernel_rfl) (by kernel_rfl) rfl
                  have gg := (HP5.out.chg inv.s PLT.out PNE.out).1
                  simp only at gg
                  simp only [execOp, h125]
                  simp [go_sem, gg]
                · refine qstep_val (.int .u64 (x : Int)) (by kernel_rfl) (by kernel_rfl) rfl (fun _ A1 W1 inv hnl hall => ⟨wanted_none rfl, ?_, rfl⟩)
                  have h126 : A1.eval (.tmp 126) = .int .i64 (x : Int) := inv.get hall 7 126 (by kernel_rfl) (by kernel_rfl) rfl
                  simp only [execOp, h126]
                  simp [go_sem, hv1]
                · refine qstep_val (.int .u64 (16 * (x : Int))) (by kernel_rfl) (by kernel_rfl) rfl (fun _ A1 W1 inv hnl hall => ⟨wanted_none rfl, ?_, rfl⟩)
                  have h127 : A1.eval (.tmp 127) = .int .u64 (x : Int) := inv.get hall 8 127 (by kernel_rfl) (by kernel_rfl) rfl
                  simp only [execOp, h127, eval_c]
                  simp [go_sem, hv2]
                · refine qstep_val (.int .u64 (16 * (x : Int))) (by kernel_rfl) (by kernel_rfl) rfl (fun _ A1 W1 inv hnl hall => ⟨wanted_none rfl, ?_, rfl⟩)
                  have h121 : A1.eval (.tmp 121) = .int .u64 0 := inv.get hall 2 121 (by kernel_rfl) (by kernel_rfl) rfl
                  have h128 : A1.eval (.tmp 128) = .int .u64 (16 * (x : Int)) := inv.get hall 9 128 (by kernel_rfl) (by kernel_rfl) rfl
                  simp only [execOp, h121, h128]
                  simp [go_sem, hv2]
                · refine qstep_val (.slice (some ⟨pg, po, none⟩) m pz) (by kernel_rfl) (by kernel_rfl) rfl (fun _ A1 W1 inv hnl hall => ⟨wanted_none rfl, ?_, rfl⟩)
                  have h18 : A1.eval (.tmp 18) = .slice (some ⟨pg, po, none⟩) m pz := (inv.base 18 (by kernel_rfl)).trans rfl
                  simp only [execOp, h18, Sem.run_pure]
                · refine qstep_val (.int .i64 (k : Int)) (by kernel_rfl) (by kernel_rfl) rfl (fun _ A1 W1 inv hnl hall => ⟨wanted_none rfl, ?_, rfl⟩)
                  have h20 : A1.eval (.tmp 20) = .int .i64 (k : Int) := (inv.base 20 (by kernel_rfl)).trans rfl
                  simp only [execOp, h20, Sem.run_pure]
                · refine qstep_val (.pointer (some ⟨pg, po + k * 5, none⟩)) (by kernel_rfl) (by kernel_rfl) rfl (fun _ A1 W1 inv hnl hall => ⟨wanted_none rfl, ?_, rfl⟩)
                  have h130 : A1.eval (.tmp 130) = .slice (some ⟨pg, po, none⟩) m pz := inv.get hall 11 130 (by kernel_rfl) (by kernel_rfl) rfl
                  have h131 : A1.eval (.tmp 131) = .int .i64 (k : Int) := inv.get hall 12 131 (by kernel_rfl) (by kernel_rfl) rfl
                  simp only [execOp, h130, h131]
                  simp [go_sem, hki]
                · refine qstep_val (.pointer (some ⟨pg, po + k * 5 + 1, none⟩)) (by kernel_rfl) (by kernel_rfl) rfl (fun _ A1 W1 inv hnl hall => ⟨wanted_none rfl, ?_, rfl⟩)
                  have h132 : A1.eval (.tmp 132) = .pointer (some ⟨pg, po + k * 5, none⟩) := inv.get hall 13 132 (by kernel_rfl) (by kernel_rfl) rfl
                  simp only [execOp, h132]
                  simp [go_sem]
                · refine qstep_val (dV Dk) (by kernel_rfl) (by kernel_rfl) rfl (fun _ A1 W1 inv hnl hall => ⟨wanted_none rfl, ?_, rfl⟩)
                  have h133 : A1.eval (.tmp 133) = .pointer (some ⟨pg, po + k * 5 + 1, none⟩) := inv.get hall 14 133 (by kernel_rfl) (by kernel_rfl) rfl
                  simp only [execOp, h133, Sem.run_bind, loadD5 (HP5.out.chg inv.s PLT.out PNE.out), Result.andThen_ok, Sem.run_pure]
                · refine qstep_call 10 (by kernel_rfl) _ _ (by kernel_rfl) (by kernel_rfl) rfl rfl (fun _ A1 W1 inv hnl hall => ⟨wanted_none rfl, #[dV Dk], ?_, ?_⟩)
                  · have h134 : A1.eval (.tmp 134) = dV Dk := inv.get hall 15 134 (by kernel_rfl) (by kernel_rfl) rfl
                    simp [h134]
                  · refine (rbytes_any Dk _ HDi.out).mono ?_
                    rintro e u ⟨v, rfl, hob, hb⟩
                    exact ⟨v, rfl, (newBytes_of hob).at, hb⟩
                · refine qstep_scall 9 (by kernel_rfl) _ _ (by kernel_rfl) (by kernel_rfl) rfl rfl (fun _ A1 W1 inv hnl hall => ⟨wanted_none rfl, #[.pointer (some ⟨mp, 0, none⟩), .int .u64 (16 * (x : Int)), A1.eval (.tmp 135)], ?_, ?_⟩)
                  · have h119 : A1.eval (.tmp 119) = .pointer (some ⟨mp, 0, none⟩) := inv.get hall 0 119 (by kernel_rfl) (by kernel_rfl) rfl
                    have h129 : A1.eval (.tmp 129) = .int .u64 (16 * (x : Int)) := inv.get hall 10 129 (by kernel_rfl) (by kernel_rfl) rfl
                    simp [h119, h129]
                  · have h135 : (fun v W => BytesAt W v (dB Dk)) (A1.eval (.tmp 135)) W1 := inv.get1 (i := 17) hnl hall 16 135 (by kernel_rfl) (by kernel_rfl) rfl
                    have hmm := inv.pre1 (j := 17) hnl (List.mem_singleton.2 rfl) (Or.inl rfl)
                    refine (hmm.wr9 (16 * (x : Int)) _ _ ⟨by omega, by omega⟩ h135 (dB_bytes _) (by rw [dB_length]; decide)).mono ?_
                    rintro e u ⟨rfl, h1, h2⟩
                    refine ⟨_, rfl, ?_, h2⟩
                    rw [show (16 * (x : Int)) = ((16 * x : Nat) : Int) by omega, write10 (by rw [dB_length]; decide) (by rw [dB_length]; omega)] at h1
                    rw [wrM]
                    simp only [HX.out, HDk.out]
                    exact h1
              · intro listed A1 W1 inv hall
                have e119 : A1.eval (.tmp 119) = .pointer (some ⟨mp, 0, none⟩) := inv.fin 0 119 (by kernel_rfl) (hall 0 (Nat.lt_of_lt_of_eq (by decide : 0 < 18) (by kernel_rfl))) rfl
                have e120 : A1.eval (.tmp 120) = .pointer (some ⟨rb, 2, none⟩) := inv.fin 1 120 (by kernel_rfl) (hall 1 (Nat.lt_of_lt_of_eq (by decide : 1 < 18) (by kernel_rfl))) rfl
                have e121 : A1.eval (.tmp 121) = .int .u64 0 := inv.fin 2 121 (by kernel_rfl) (hall 2 (Nat.lt_of_lt_of_eq (by decide : 2 < 18) (by kernel_rfl))) rfl
                have e122 : A1.eval (.tmp 122) = .slice (some ⟨pg, po, none⟩) m pz := inv.fin 3 122 (by kernel_rfl) (hall 3 (Nat.lt_of_lt_of_eq (by decide : 3 < 18) (by kernel_rfl))) rfl
                have e123 : A1.eval (.tmp 123) = .int .i64 (k : Int) := inv.fin 4 123 (by kernel_rfl) (hall 4 (Nat.lt_of_lt_of_eq (by decide : 4 < 18) (by kernel_rfl))) rfl
                have e124 : A1.eval (.tmp 124) = .pointer (some ⟨pg, po + k * 5, none⟩) := inv.fin 5 124 (by kernel_rfl) (hall 5 (Nat.lt_of_lt_of_eq (by decide : 5 < 18) (by kernel_rfl))) rfl
                have e125 : A1.eval (.tmp 125) = .pointer (some ⟨pg, po + k * 5, none⟩) := inv.fin 6 125 (by kernel_rfl) (hall 6 (Nat.lt_of_lt_of_eq (by decide : 6 < 18) (by kernel_rfl))) rfl
                have e126 : A1.eval (.tmp 126) = .int .i64 (x : Int) := inv.fin 7 126 (by kernel_rfl) (hall 7 (Nat.lt_of_lt_of_eq (by decide : 7 < 18) (by kernel_rfl))) rfl
                have e127 : A1.eval (.tmp 127) = .int .u64 (x : Int) := inv.fin 8 127 (by kernel_rfl) (hall 8 (Nat.lt_of_lt_of_eq (by decide : 8 < 18) (by kernel_rfl))) rfl
                have e128 : A1.eval (.tmp 128) = .int .u64 (16 * (x : Int)) := inv.fin 9 128 (by kernel_rfl) (hall 9 (Nat.lt_of_lt_of_eq (by decide : 9 < 18) (by kernel_rfl))) rfl
                have e129 : A1.eval (.tmp 129) = .int .u64 (16 * (x : Int)) := inv.fin 10 129 (by kernel_rfl) (hall 10 (Nat.lt_of_lt_of_eq (by decide : 10 < 18) (by kernel_rfl))) rfl
                have e130 : A1.eval (.tmp 130) = .slice (some ⟨pg, po, none⟩) m pz := inv.fin 11 130 (by kernel_rfl) (hall 11 (Nat.lt_of_lt_of_eq (by decide : 11 < 18) (by kernel_rfl))) rfl
                have e131 : A1.eval (.tmp 131) = .int .i64 (k : Int) := inv.fin 12 131 (by kernel_rfl) (hall 12 (Nat.lt_of_lt_of_eq (by decide : 12 < 18) (by kernel_rfl))) rfl
                have e132 : A1.eval (.tmp 132) = .pointer (some ⟨pg, po + k * 5, none⟩) := inv.fin 13 132 (by kernel_rfl) (hall 13 (Nat.lt_of_lt_of_eq (by decide : 13 < 18) (by kernel_rfl))) rfl
                have e133 : A1.eval (.tmp 133) = .pointer (some ⟨pg, po + k * 5 + 1, none⟩) := inv.fin 14 133 (by kernel_rfl) (hall 14 (Nat.lt_of_lt_of_eq (by decide : 14 < 18) (by kernel_rfl))) rfl
                have e134 : A1.eval (.tmp 134) = dV Dk := inv.fin 15 134 (by kernel_rfl) (hall 15 (Nat.lt_of_lt_of_eq (by decide : 15 < 18) (by kernel_rfl))) rfl
                obtain ⟨v135, e135⟩ : ∃ v, A1.eval (.tmp 135) = v := ⟨_, rfl⟩
                have p136 : (fun _ Y => MdS w mp ib qb R10 (wrM Z (fun k => 16 * W k) (fun k => (splD (wyI W m) L k).d) (k + 1)) Y) (A1.eval (.tmp 136)) W1 := inv.fin 17 136 (by kernel_rfl) (hall 17 (Nat.lt_of_lt_of_eq (by decide : 17 < 18) (by kernel_rfl))) rfl
                obtain ⟨v136, e136⟩ : ∃ v, A1.eval (.tmp 136) = v := ⟨_, rfl⟩
                rw [e136] at p136
                have HF := inv.frame hall
                have HS9 := hid_mk inv.s
                simp only [putEnd, e119, e120, e121, e122, e123, e124, e125, e126, e127, e128, e129, e130, e131, e132, e133, e134, e135, e136, Act.put, List.setIfInBounds_toArray, List.set_cons_succ, List.set_cons_zero] at HF
                clear e119 e120 e121 e122 e123 e124 e125 e126 e127 e128 e129 e130 e131 e132 e133 e134 e135 e136 inv hall
                subst HF
                have HM4 := hid_mk p136
                have HK4 := hid_mk (hkp.out.trans HS9.out)
                clear HS9 p136 HM3
                go_wp2_with fail
                go_roundw
                case rel => exact ⟨k + 1, by omega, by simp, HM4, HK4⟩
                case measure => simp [intOf]; omega
            · obtain rfl : m = k := by omega
              obtain ⟨M1, hM1⟩ : ∃ M1, M1 = wrM Z (fun k => 16 * W k) (fun k => (splD (wyI W m) L k).d) m := ⟨_, rfl⟩
              have hb0 := wb_split (Z := Z) (m := m) (W := W) (L := L) (g := 1024) (c := C) HZl.out HS.out HLm.out h64 HM0.out HIn.out HW64.out HWj.out HRf.out false
              rw [← hM1] at hb0 hmd
              have HM1l : Hid (M1.length = 12000) := hid_mk (by
                rw [hM1]
                exact wrM_length HZl.out (fun i _ => by have := HW64.out i; show 16 * W i + 16 ≤ 12000; omega) m (Nat.le_refl _))
              obtain ⟨U4, hU4⟩ : ∃ U4, U4 = wr := ⟨_, rfl⟩
              have HMx := hid_mk hmd.out
              have XRx := hid_mk (hkp.out.at XR3.out XNE.out)
              have HIx := hid_mk ((hkp.out.cell (o := 0) HIg1.out INE.out).trans HI1.out)
              have hgl := Nat.lt_of_lt_of_le HIg1.out hkp.out.size
              have CSx : Hid (∀ u, MdS w mp ib qb R10 (M1) u → Calls Tryz.prog 11 #[.pointer (some ⟨mp, 0, none⟩), .agg #[.bool false, .int .i64 64, .int .u64 0, .int .u64 1024, .int .u64 C], .int .i64 ((W 0 : Nat) : Int), .bool false] u fun e u' => ∃ a z, e = .returned (.tuple #[.slice a m z, .int .i64 0]) ∧ SegsAt u' (.slice a m z) L ∧ Below u.heap.size u u') := hid_mk (fun u hmm => hmm.split false 64 0 1024 C ((W 0 : Nat) : Int) false 0 L m (by decide) (by decide) HC64.out ⟨by have := HW64.out 0; omega, by have := HW64.out 0; omega⟩ hb0.1 (sameS_iff.2 hb0.2) HLm.out)
              rw [← hU4] at HMx XRx HIx hgl ⊢
              clear hU4 hM1 hb0 hmd hkp hlt hk HPK PLT PNE XR3 HI1 HIg1 HM3
              go_wp2_with fail
              refine wp_region_outl3 0 [] [] []
                  [(fun v _ => v = .pointer (some ⟨mp, 0, none⟩)),
                  (fun v _ => v = .agg #[.bool false, .int .i64 64, .int .u64 0, .int .u64 1024, .int .u64 C]),
                  (fun v _ => v = .slice (some ⟨ig, 0, none⟩) m sc),
                  (fun v _ => v = .pointer (some ⟨ig, 0, none⟩)),
                  (fun v _ => v = .int .i64 ((W 0 : Nat) : Int)),
                  (fun v Y => ∃ a z, v = .tuple #[.slice a m z, .int .i64 0] ∧ SegsAt Y (.slice a m z) L),
                  (fun v Y => ∃ a z, v = .tuple #[.slice a m z, .int .i64 0] ∧ SegsAt Y (.slice a m z) L),
                  (fun v Y => ∃ a z, v = .slice a m z ∧ SegsAt Y (.slice a m z) L),
                  (fun v _ => v = .int .i64 0),
                  (fun v Y => ∃ a z, v = .slice a m z ∧ SegsAt Y (.slice a m z) L),
                  (fun v _ => v = .int .i64 0)]
                  (Below U4.heap.size U4) (by kernel_rfl) (by kernel_rfl) (by kernel_rfl) ?_ (fun u u' hb h => h.trans (hb.mono h.size)) ((Below.refl _ _).drew) ?_ ?_ ?_ ?_ ?_
              · refine And.intro (up_eq _) ?_
                refine And.intro (up_eq _) ?_
                refine And.intro (up_eq _) ?_
                refine And.intro (up_eq _) ?_
                refine And.intro (up_eq _) ?_
                refine And.intro (fun _ _ _ hb h => by obtain ⟨a, z, e, h⟩ := h; exact ⟨a, z, e, h.below hb⟩) ?_
                refine And.intro (fun _ _ _ hb h => by obtain ⟨a, z, e, h⟩ := h; exact ⟨a, z, e, h.below hb⟩) ?_
                refine And.intro (fun _ _ _ hb h => by obtain ⟨a, z, e, h⟩ := h; exact ⟨a, z, e, h.below hb⟩) ?_
                refine And.intro (up_eq _) ?_
                refine And.intro (fun _ _ _ hb h => by obtain ⟨a, z, e, h⟩ := h; exact ⟨a, z, e, h.below hb⟩) ?_
                refine And.intro (up_eq _) ?_
                trivial
              · trivial
              · trivial
              · trivial
              · refine And.intro ?_ (And.intro ?_ (And.intro ?_ (And.intro ?_ (And.intro ?_ (And.intro ?_ (And.intro ?_ (And.intro ?_ (And.intro ?_ (And.intro ?_ (And.intro ?_ (True.intro)))))))))))
                · refine qstep_val (.pointer (some ⟨mp, 0, none⟩)) (by kernel_rfl) (by kernel_rfl) rfl (fun _ A1 W1 inv hnl hall => ⟨wanted_none rfl, ?_, rfl⟩)
                  have h12 : A1.eval (.tmp 12) = .pointer (some ⟨mp, 0, none⟩) := (inv.base 12 (by kernel_rfl)).trans rfl
                  simp only [execOp, h12, Sem.run_pure]
                · refine qstep_val (.agg #[.bool false, .int .i64 64, .int .u64 0, .int .u64 1024, .int .u64 C]) (by kernel_rfl) (by kernel_rfl) rfl (fun _ A1 W1 inv hnl hall => ⟨wanted_none rfl, ?_, rfl⟩)
                  have h14 : A1.eval (.tmp 14) = .pointer (some ⟨rb, 0, none⟩) := (inv.base 14 (by kernel_rfl)).trans rfl
                  simp only [execOp, h14, Sem.run_bind, loadRg (XRx.out.below inv.s), Result.andThen_ok, Sem.run_pure]
                · refine qstep_val (.slice (some ⟨ig, 0, none⟩) m sc) (by kernel_rfl) (by kernel_rfl) rfl (fun _ A1 W1 inv hnl hall => ⟨wanted_none rfl, ?_, rfl⟩)
                  have h16 : A1.eval (.tmp 16) = .slice (some ⟨ig, 0, none⟩) m sc := (inv.base 16 (by kernel_rfl)).trans rfl
                  simp only [execOp, h16, Sem.run_pure]
                · refine qstep_val (.pointer (some ⟨ig, 0, none⟩)) (by kernel_rfl) (by kernel_rfl) rfl (fun _ A1 W1 inv hnl hall => ⟨wanted_none rfl, ?_, rfl⟩)
                  have h140 : A1.eval (.tmp 140) = .slice (some ⟨ig, 0, none⟩) m sc := inv.get hall 2 140 (by kernel_rfl) (by kernel_rfl) rfl
                  simp only [execOp, h140, eval_c]
                  simp [go_sem, show m ≠ 0 by omega]
                · refine qstep_val (.int .i64 ((W 0 : Nat) : Int)) (by kernel_rfl) (by kernel_rfl) rfl (fun _ A1 W1 inv hnl hall => ⟨wanted_none rfl, ?_, rfl⟩)
                  have h141 : A1.eval (.tmp 141) = .pointer (some ⟨ig, 0, none⟩) := inv.get hall 3 141 (by kernel_rfl) (by kernel_rfl) rfl
                  have gg := (inv.s.cell (p := ⟨ig, 0, none⟩) hgl).trans HIx.out
                  simp only [execOp, h141]
                  simp [go_sem, gg]
                · refine qstep_call 11 (by kernel_rfl) _ _ (by kernel_rfl) (by kernel_rfl) rfl rfl (fun _ A1 W1 inv hnl hall => ⟨wanted_none rfl, #[.pointer (some ⟨mp, 0, none⟩), .agg #[.bool false, .int .i64 64, .int .u64 0, .int .u64 1024, .int .u64 C], .int .i64 ((W 0 : Nat) : Int), .bool false], ?_, ?_⟩)
                  · have h138 : A1.eval (.tmp 138) = .pointer (some ⟨mp, 0, none⟩) := inv.get hall 0 138 (by kernel_rfl) (by kernel_rfl) rfl
                    have h139 : A1.eval (.tmp 139) = .agg #[.bool false, .int .i64 64, .int .u64 0, .int .u64 1024, .int .u64 C] := inv.get hall 1 139 (by kernel_rfl) (by kernel_rfl) rfl
                    have h142 : A1.eval (.tmp 142) = .int .i64 ((W 0 : Nat) : Int) := inv.get hall 4 142 (by kernel_rfl) (by kernel_rfl) rfl
                    simp [h138, h139, h142, eval_c]
                  · refine (CSx.out _ (HMx.out.below inv.s)).mono ?_
                    rintro e u ⟨a, z, rfl, hq, hb⟩
                    exact ⟨_, rfl, ⟨a, z, rfl, hq⟩, hb⟩
                · refine qstep_ex (by kernel_rfl) (by kernel_rfl) rfl (fun _ A1 W1 inv hnl hall => ⟨wanted_none rfl, ?_⟩)
                  have h143 : (fun v Y => ∃ a z, v = .tuple #[.slice a m z, .int .i64 0] ∧ SegsAt Y (.slice a m z) L) (A1.eval (.tmp 143)) W1 := inv.get hall 5 143 (by kernel_rfl) (by kernel_rfl) rfl
                  exact ⟨A1.eval (.tmp 143), by simp only [execOp, Sem.run_pure], h143⟩
                · refine qstep_ex (by kernel_rfl) (by kernel_rfl) rfl (fun _ A1 W1 inv hnl hall => ⟨wanted_none rfl, ?_⟩)
                  have h137 : (fun v Y => ∃ a z, v = .tuple #[.slice a m z, .int .i64 0] ∧ SegsAt Y (.slice a m z) L) (A1.eval (.tmp 137)) W1 := inv.get hall 6 137 (by kernel_rfl) (by kernel_rfl) rfl
                  obtain ⟨a, z, hx, hi⟩ := h137
                  refine ⟨.slice a m z, ?_, a, z, rfl, hi⟩
                  simp only [execOp, hx]
                  simp [go_sem]
                · refine qstep_val (.int .i64 0) (by kernel_rfl) (by kernel_rfl) rfl (fun _ A1 W1 inv hnl hall => ⟨wanted_none rfl, ?_, rfl⟩)
                  have h137 : (fun v Y => ∃ a z, v = .tuple #[.slice a m z, .int .i64 0] ∧ SegsAt Y (.slice a m z) L) (A1.eval (.tmp 137)) W1 := inv.get hall 6 137 (by kernel_rfl) (by kernel_rfl) rfl
                  obtain ⟨a, z, hx, hi⟩ := h137
                  simp only [execOp, hx]
                  simp [go_sem]
                · refine qstep_ex (by kernel_rfl) (by kernel_rfl) rfl (fun _ A1 W1 inv hnl hall => ⟨wanted_none rfl, ?_⟩)
                  have h144 : (fun v Y => ∃ a z, v = .slice a m z ∧ SegsAt Y (.slice a m z) L) (A1.eval (.tmp 144)) W1 := inv.get hall 7 144 (by kernel_rfl) (by kernel_rfl) rfl
                  exact ⟨A1.eval (.tmp 144), by simp only [execOp, Sem.run_pure], h144⟩
                · refine qstep_val (.int .i64 0) (by kernel_rfl) (by kernel_rfl) rfl (fun _ A1 W1 inv hnl hall => ⟨wanted_none rfl, ?_, rfl⟩)
                  have h145 : A1.eval (.tmp 145) = .int .i64 0 := inv.get hall 8 145 (by kernel_rfl) (by kernel_rfl) rfl
                  simp only [execOp, h145, Sem.run_pure]
              · intro listed A1 W1 inv hall
                have e138 : A1.eval (.tmp 138) = .pointer (some ⟨mp, 0, none⟩) := inv.fin 0 138 (by kernel_rfl) (hall 0 (Nat.lt_of_lt_of_eq (by decide : 0 < 11) (by kernel_rfl))) rfl
                have e139 : A1.eval (.tmp 139) = .agg #[.bool false, .int .i64 64, .int .u64 0, .int .u64 1024, .int .u64 C] := inv.fin 1 139 (by kernel_rfl) (hall 1 (Nat.lt_of_lt_of_eq (by decide : 1 < 11) (by kernel_rfl))) rfl
                have e140 : A1.eval (.tmp 140) = .slice (some ⟨ig, 0, none⟩) m sc := inv.fin 2 140 (by kernel_rfl) (hall 2 (Nat.lt_of_lt_of_eq (by decide : 2 < 11) (by kernel_rfl))) rfl
                have e141 : A1.eval (.tmp 141) = .pointer (some ⟨ig, 0, none⟩) := inv.fin 3 141 (by kernel_rfl) (hall 3 (Nat.lt_of_lt_of_eq (by decide : 3 < 11) (by kernel_rfl))) rfl
                have e142 : A1.eval (.tmp 142) = .int .i64 ((W 0 : Nat) : Int) := inv.fin 4 142 (by kernel_rfl) (hall 4 (Nat.lt_of_lt_of_eq (by decide : 4 < 11) (by kernel_rfl))) rfl
                have e145 : A1.eval (.tmp 145) = .int .i64 0 := inv.fin 8 145 (by kernel_rfl) (hall 8 (Nat.lt_of_lt_of_eq (by decide : 8 < 11) (by kernel_rfl))) rfl
                have e22 : A1.eval (.tmp 22) = .int .i64 0 := inv.fin 10 22 (by kernel_rfl) (hall 10 (Nat.lt_of_lt_of_eq (by decide : 10 < 11) (by kernel_rfl))) rfl
                have p143 : (fun v Y => ∃ a z, v = .tuple #[.slice a m z, .int .i64 0] ∧ SegsAt Y (.slice a m z) L) (A1.eval (.tmp 143)) W1 := inv.fin 5 143 (by kernel_rfl) (hall 5 (Nat.lt_of_lt_of_eq (by decide : 5 < 11) (by kernel_rfl))) rfl
                obtain ⟨v143, e143⟩ : ∃ v, A1.eval (.tmp 143) = v := ⟨_, rfl⟩
                rw [e143] at p143
                have p137 : (fun v Y => ∃ a z, v = .tuple #[.slice a m z, .int .i64 0] ∧ SegsAt Y (.slice a m z) L) (A1.eval (.tmp 137)) W1 := inv.fin 6 137 (by kernel_rfl) (hall 6 (Nat.lt_of_lt_of_eq (by decide : 6 < 11) (by kernel_rfl))) rfl
                obtain ⟨v137, e137⟩ : ∃ v, A1.eval (.tmp 137) = v := ⟨_, rfl⟩
                rw [e137] at p137
                have p144 : (fun v Y => ∃ a z, v = .slice a m z ∧ SegsAt Y (.slice a m z) L) (A1.eval (.tmp 144)) W1 := inv.fin 7 144 (by kernel_rfl) (hall 7 (Nat.lt_of_lt_of_eq (by decide : 7 < 11) (by kernel_rfl))) rfl
                obtain ⟨v144, e144⟩ : ∃ v, A1.eval (.tmp 144) = v := ⟨_, rfl⟩
                rw [e144] at p144
                have p21 : (fun v Y => ∃ a z, v = .slice a m z ∧ SegsAt Y (.slice a m z) L) (A1.eval (.tmp 21)) W1 := inv.fin 9 21 (by kernel_rfl) (hall 9 (Nat.lt_of_lt_of_eq (by decide : 9 < 11) (by kernel_rfl))) rfl
                obtain ⟨v21, e21⟩ : ∃ v, A1.eval (.tmp 21) = v := ⟨_, rfl⟩
                rw [e21] at p21
                have HF := inv.frame hall
                have HS9 := hid_mk inv.s
                simp only [putEnd, e138, e139, e140, e141, e142, e145, e22, e143, e137, e144, e21, Act.put, List.setIfInBounds_toArray, List.set_cons_succ, List.set_cons_zero] at HF
                clear e138 e139 e140 e141 e142 e145 e22 e143 e137 e144 e21 inv hall
                subst HF
                obtain ⟨xa, xz, rfl, hq⟩ := p21
                clear p143 p137 p144
                obtain ⟨U5, hU5⟩ : ∃ U5, U5 = W1 := ⟨_, rfl⟩
                rw [← hU5] at HS9 hq ⊢
                have QX := hid_mk hq
                replace HMx := hid_mk (HMx.out.below HS9.out)
                replace XRx := hid_mk (XRx.out.below HS9.out)
                replace HIx := hid_mk ((HS9.out.cell (p := ⟨ig, 0, none⟩) hgl).trans HIx.out)
                replace hgl := Nat.lt_of_lt_of_le hgl HS9.out.size
                clear hU5 HS9 hq CSx
                have HST := hid_mk (bdtable (.slice va m vc) L U5 (QV.out.below HMx.out.old) HS.out (by rw [HLm.out]; omega))
                rw [HM0.out] at HST
                have hone : oneB ((W 0 : Nat) : Int) (m : Int) = true := by
                  have := HW64.out 0
                  unfold oneB
                  rw [okI_iff.2 ⟨by omega, by omega⟩, decide_eq_true (by omega), decide_eq_true (by omega)]
                  rfl
                have HSO := hid_mk (fun u => bdone ((W 0 : Nat) : Int) 2800 (m : Int) u ⟨by have := HW64.out 0; omega, by have := HW64.out 0; omega⟩ (by decide) ⟨by omega, by omega⟩)
                rw [show oneE ((W 0 : Nat) : Int) (m : Int) = 0 from if_pos hone, show oneP ((W 0 : Nat) : Int) 2800 (m : Int) = ⟨((W 0 : Nat) : Int), ⟨2800, 16 * (m : Int), 4, 0⟩⟩ from if_pos hone] at HSO
                clear hone
                go_wp2_with fail
                refine HST.out.mono ?_
                rintro e w6 ⟨bx, rfl, hbr, hb⟩
                have HBx := hid_mk hbr
                replace HMx := hid_mk (HMx.out.below hb)
                replace XRx := hid_mk (XRx.out.below hb)
                replace HIx := hid_mk ((hb.cell (p := ⟨ig, 0, none⟩) hgl).trans HIx.out)
                replace hgl := Nat.lt_of_lt_of_le hgl hb.size
                replace QX := hid_mk (QX.out.below hb)
                clear hbr hb HST
                have hix := HIx.out
                go_wp2_with fail
                refine (HSO.out _).mono ?_
                rintro e w7 ⟨rfl, hb⟩
                have hbx := below_box w7 (.cells #[.int .i64 ((W 0 : Nat) : Int), .int .u64 2800, .int .u32 (16 * (m : Int)), .int .u16 4, .int .u16 0] 46)
                have XO := hid_mk (blk_new w7 [.int .i64 ((W 0 : Nat) : Int), .int .u64 2800, .int .u32 (16 * (m : Int)), .int .u16 4, .int .u16 0] 46)
                replace HBx := hid_mk ((HBx.out.below hb).below hbx)
                replace HMx := hid_mk ((HMx.out.below hb).below hbx)
                replace XRx := hid_mk ((XRx.out.below hb).below hbx)
                replace QX := hid_mk ((QX.out.below hb).below hbx)
                have hix2 := (hb.cell (p := ⟨ig, 0, none⟩) hgl).trans hix
                have hgl2 := Nat.lt_of_lt_of_le hgl hb.size
                have hix3 := (hbx.cell (p := ⟨ig, 0, none⟩) hgl2).trans hix2
                replace hgl := Nat.lt_of_lt_of_le hgl2 hbx.size
                replace HIx := hid_mk hix3
                clear hb hbx hix hix2 hix3 hgl2 HSO
                obtain ⟨xb, hxb⟩ : ∃ xb, xb = w7.heap.size := ⟨_, rfl⟩
                obtain ⟨U7, hU7⟩ : ∃ U7, U7 = w7.alloc (.cells #[.int .i64 ((W 0 : Nat) : Int), .int .u64 2800, .int .u32 (16 * (m : Int)), .int .u16 4, .int .u16 0] 46) := ⟨_, rfl⟩
                go_upto_region 26 with fail
                rw [← hxb, ← hU7]
                rw [← hU7] at XO HBx HMx XRx QX HIx hgl
                rw [← hxb] at XO
                clear hxb hU7
                have hsl := (stb10 HM0.out).1
                rw [HLm.out] at hsl
                have hsb : isBytes (stbB L) := by
                  unfold stbB
                  split
                  · exact tabB_bytes _
                  · exact fun x hx => by cases hx
                have HSB := hid_mk hsb
                have HSL := hid_mk hsl
                clear hsl hsb
                go_wp2_with fail
                refine (HMx.out.wr9 2800 _ _ (by decide) HBx.out.at HSB.out (by rw [HSL.out]; omega)).mono ?_
                rintro e U8 ⟨rfl, h1, h2⟩
                rw [show (2800 : Int) = ((2800 : Nat) : Int) from rfl, write10 (by rw [HSL.out]; omega) (by rw [HSL.out]; omega)] at h1
                have ONE := hid_mk (HMx.out.not_blk XO.out (by decide))
                have XNE2 := hid_mk (HMx.out.not_blk XRx.out (by decide))
                have INE2 := hid_mk (HMx.out.not_img HIx.out)
                have hqx := QX.out
                replace XO := hid_mk (h2.at XO.out ONE.out)
                replace XRx := hid_mk (h2.at XRx.out XNE2.out)
                replace HIx := hid_mk ((h2.cell (o := 0) hgl INE2.out).trans HIx.out)
                replace hgl := Nat.lt_of_lt_of_le hgl h2.size
                have QX2 := hid_mk (segs_chg h2 HMx.out hqx)
                replace HMx := hid_mk h1
                replace QX := QX2
                clear h1 h2 hqx QX2 HBx XNE INE
                have XNE := XNE2
                have HDi : Hid (isDsc ⟨2800, 16 * (m : Int), 4, 0⟩) := hid_mk ⟨⟨by simp only; omega, by simp only; omega⟩, ⟨by simp only; omega, by simp only; omega⟩, ⟨by simp only; omega, by simp only; omega⟩, ⟨by simp only; omega, by simp only; omega⟩⟩
                obtain ⟨x, hx⟩ : ∃ x, W 0 = x := ⟨_, rfl⟩
                obtain ⟨Dk, hDk⟩ : ∃ D : Dsc, D = ⟨2800, 16 * (m : Int), 4, 0⟩ := ⟨_, rfl⟩
                have hx64 : x < 64 := by rw [← hx]; exact HW64.out 0
                have hv1 : IntKind.u64.wrap (x : Int) = (x : Int) := IntWalk.u64_in _ (by omega)
                have hv2 : IntKind.u64.wrap (16 * (x : Int)) = 16 * (x : Int) := IntWalk.u64_in _ (by omega)
                have XO2 : Hid (BlkAt U8 xb [.int .i64 (x : Int), .int .u64 Dk.a, .int .u32 Dk.l, .int .u16 Dk.f, .int .u16 Dk.n] 46) := hid_mk (by rw [hDk, ← hx]; exact XO.out)
                rw [← hDk] at HDi
                have HX := hid_mk hx
                have HDk := hid_mk hDk
                replace XO := XO2
                clear hx hDk XO2
                go_wp2_with fail
                refine wp_region_outl3 0 [(11, Chg (· = ib))] [(10, 11)] [(11, MdS w mp ib qb R10 (put M1 2800 (stbB L)))]
                    [(fun v _ => v = .pointer (some ⟨mp, 0, none⟩)),
                    (fun v _ => v = .pointer (some ⟨rb, 2, none⟩)),
                    (fun v _ => v = .int .u64 0),
                    (fun v _ => v = .pointer (some ⟨xb, 0, none⟩)),
                    (fun v _ => v = .int .i64 (x : Int)),
                    (fun v _ => v = .int .u64 (x : Int)),
                    (fun v _ => v = .int .u64 (16 * (x : Int))),
                    (fun v _ => v = .int .u64 (16 * (x : Int))),
                    (fun v _ => v = .pointer (some ⟨xb, 1, none⟩)),
                    (fun v _ => v = dV Dk),
                    (fun v Y => BytesAt Y v (dB Dk)),
                    (fun _ Y => MdS w mp ib qb R10 (put (put M1 2800 (stbB L)) (16 * x) (dB Dk)) Y)]
                    (Chg (· = ib) U8) (by kernel_rfl) (by kernel_rfl) (by kernel_rfl) ?_ (fun u u' hb h => h.trans (Chg.of_below hb)) (Chg.of_below (Below.refl _ _).drew) ?_ ?_ ?_ ?_ ?_
                · refine And.intro (up_eq _) ?_
                  refine And.intro (up_eq _) ?_
                  refine And.intro (up_eq _) ?_
                  refine And.intro (up_eq _) ?_
                  refine And.intro (up_eq _) ?_
                  refine And.intro (up_eq _) ?_
                  refine And.intro (up_eq _) ?_
                  refine And.intro (up_eq _) ?_
                  refine And.intro (up_eq _) ?_
                  refine And.intro (up_eq _) ?_
                  refine And.intro (fun _ _ _ hb h => h.below hb) ?_
                  refine And.intro (fun _ _ _ hb h => h.below hb) ?_
                  trivial
                · refine And.intro (And.intro (fun u u' hb h => h.below hb) (fun p hp hne u u' ht h => absurd (by rw [List.mem_singleton] at hp; rw [hp]) hne)) ?_
                  trivial
                · refine And.intro (HMx.out.below (Below.refl _ _).drew) ?_
                  trivial
                · refine And.intro (And.intro ?_ (fun u u' hk h => h.trans hk)) ?_
                  · refine And.intro (fun _ _ _ => ch_eq _ _) ?_
                    refine And.intro (fun _ _ _ => ch_eq _ _) ?_
                    refine And.intro (fun _ _ _ => ch_eq _ _) ?_
                    refine And.intro (fun _ _ _ => ch_eq _ _) ?_
                    refine And.intro (fun _ _ _ => ch_eq _ _) ?_
                    refine And.intro (fun _ _ _ => ch_eq _ _) ?_
                    refine And.intro (fun _ _ _ => ch_eq _ _) ?_
                    refine And.intro (fun _ _ _ => ch_eq _ _) ?_
                    refine And.intro (fun _ _ _ => ch_eq _ _) ?_
                    refine And.intro (fun _ _ _ => ch_eq _ _) ?_
                    refine And.intro (fun _ h _ => absurd rfl h) ?_
                    refine And.intro (fun h _ _ => absurd rfl h) ?_
                    trivial
                  trivial
                · refine And.intro ?_ (And.intro ?_ (And.intro ?_ (And.intro ?_ (And.intro ?_ (And.intro ?_ (And.intro ?_ (And.intro ?_ (And.intro ?_ (And.intro ?_ (And.intro ?_ (And.intro ?_ (True.intro))))))))))))
                  · refine qstep_val (.pointer (some ⟨mp, 0, none⟩)) (by kernel_rfl) (by kernel_rfl) rfl (fun _ A1 W1 inv hnl hall => ⟨wanted_none rfl, ?_, rfl⟩)
                    have h12 : A1.eval (.tmp 12) = .pointer (some ⟨mp, 0, none⟩) := (inv.base 12 (by kernel_rfl)).trans rfl
                    simp only [execOp, h12, Sem.run_pure]
                  · refine qstep_val (.pointer (some ⟨rb, 2, none⟩)) (by kernel_rfl) (by kernel_rfl) rfl (fun _ A1 W1 inv hnl hall => ⟨wanted_none rfl, ?_, rfl⟩)
                    have h14 : A1.eval (.tmp 14) = .pointer (some ⟨rb, 0, none⟩) := (inv.base 14 (by kernel_rfl)).trans rfl
                    simp only [execOp, h14]
                    simp [go_sem]
                  · refine qstep_val (.int .u64 0) (by kernel_rfl) (by kernel_rfl) rfl (fun _ A1 W1 inv hnl hall => ⟨wanted_none rfl, ?_, rfl⟩)
                    have h164 : A1.eval (.tmp 164) = .pointer (some ⟨rb, 2, none⟩) := inv.get hall 1 164 (by kernel_rfl) (by kernel_rfl) rfl
                    have gg := (inv.s.at XRx.out XNE.out).cell 2
                    simp at gg
                    simp only [execOp, h164]
                    simp [go_sem, gg]
                  · refine qstep_val (.pointer (some ⟨xb, 0, none⟩)) (by kernel_rfl) (by kernel_rfl) rfl (fun _ A1 W1 inv hnl hall => ⟨wanted_none rfl, ?_, rfl⟩)
                    have h25 : A1.eval (.tmp 25) = .pointer (some ⟨xb, 0, none⟩) := (inv.base 25 (by kernel_rfl)).trans rfl
                    simp only [execOp, h25]
                    simp [go_sem]
                  · refine qstep_val (.int .i64 (x : Int)) (by kernel_rfl) (by kernel_rfl) rfl (fun _ A1 W1 inv hnl hall => ⟨wanted_none rfl, ?_, rfl⟩)
                    have h166 : A1.eval (.tmp 166) = .pointer (some ⟨xb, 0, none⟩) := inv.get hall 3 166 (by kernel_rfl) (by kernel_rfl) rfl
                    have gg := (at5_box (x := ⟨(x : Int), Dk⟩) (inv.s.at XO.out ONE.out)).1
                    simp only at gg
                    simp only [execOp, h166]
                    simp [go_sem, gg]
                  · refine qstep_val (.int .u64 (x : Int)) (by kernel_rfl) (by kernel_rfl) rfl (fun _ A1 W1 inv hnl hall => ⟨wanted_none rfl, ?_, rfl⟩)
                    have h167 : A1.eval (.tmp 167) = .int .i64 (x : Int) := inv.get hall 4 167 (by kernel_rfl) (by kernel_rfl) rfl
                    simp only [execOp, h167]
                    simp [go_sem, hv1]
                  · refine qstep_val (.int .u64 (16 * (x : Int))) (by kernel_rfl) (by kernel_rfl) rfl (fun _ A1 W1 inv hnl hall => ⟨wanted_none rfl, ?_, rfl⟩)
                    have h168 : A1.eval (.tmp 168) = .int .u64 (x : Int) := inv.get hall 5 168 (by kernel_rfl) (by kernel_rfl) rfl
                    simp only [execOp, h168, eval_c]
                    simp [go_sem, hv2]
                  · refine qstep_val (.int .u64 (16 * (x : Int))) (by kernel_rfl) (by kernel_rfl) rfl (fun _ A1 W1 inv hnl hall => ⟨wanted_none rfl, ?_, rfl⟩)
                    have h165 : A1.eval (.tmp 165) = .int .u64 0 := inv.get hall 2 165 (by kernel_rfl) (by kernel_rfl) rfl
                    have h169 : A1.eval (.tmp 169) = .int .u64 (16 * (x : Int)) := inv.get hall 6 169 (by kernel_rfl) (by kernel_rfl) rfl
                    simp only [execOp, h165, h169]
                    simp [go_sem, hv2]
                  · refine qstep_val (.pointer (some ⟨xb, 1, none⟩)) (by kernel_rfl) (by kernel_rfl) rfl (fun _ A1 W1 inv hnl hall => ⟨wanted_none rfl, ?_, rfl⟩)
                    have h25 : A1.eval (.tmp 25) = .pointer (some ⟨xb, 0, none⟩) := (inv.base 25 (by kernel_rfl)).trans rfl
                    simp only [execOp, h25]
                    simp [go_sem]
                  · refine qstep_val (dV Dk) (by kernel_rfl) (by kernel_rfl) rfl (fun _ A1 W1 inv hnl hall => ⟨wanted_none rfl, ?_, rfl⟩)
                    have h171 : A1.eval (.tmp 171) = .pointer (some ⟨xb, 1, none⟩) := inv.get hall 8 171 (by kernel_rfl) (by kernel_rfl) rfl
                    have gl := loadD5 (at5_box (x := ⟨(x : Int), Dk⟩) (inv.s.at XO.out ONE.out))
                    rw [Nat.zero_add] at gl
                    simp only [execOp, h171, Sem.run_bind, gl, Result.andThen_ok, Sem.run_pure]
                  · refine qstep_call 10 (by kernel_rfl) _ _ (by kernel_rfl) (by kernel_rfl) rfl rfl (fun _ A1 W1 inv hnl hall => ⟨wanted_none rfl, #[dV Dk], ?_, ?_⟩)
                    · have h172 : A1.eval (.tmp 172) = dV Dk := inv.get hall 9 172 (by kernel_rfl) (by kernel_rfl) rfl
                      simp [h172]
                    · refine (rbytes_any Dk _ HDi.out).mono ?_
                      rintro e u ⟨v, rfl, hob, hb⟩
                      exact ⟨v, rfl, (newBytes_of hob).at, hb⟩
                  · refine qstep_scall 9 (by kernel_rfl) _ _ (by kernel_rfl) (by kernel_rfl) rfl rfl (fun _ A1 W1 inv hnl hall => ⟨wanted_none rfl, #[.pointer (some ⟨mp, 0, none⟩), .int .u64 (16 * (x : Int)), A1.eval (.tmp 173)], ?_, ?_⟩)
                    · have h163 : A1.eval (.tmp 163) = .pointer (some ⟨mp, 0, none⟩) := inv.get hall 0 163 (by kernel_rfl) (by kernel_rfl) rfl
                      have h170 : A1.eval (.tmp 170) = .int .u64 (16 * (x : Int)) := inv.get hall 7 170 (by kernel_rfl) (by kernel_rfl) rfl
                      simp [h163, h170]
                    · have h173 : (fun v Y => BytesAt Y v (dB Dk)) (A1.eval (.tmp 173)) W1 := inv.get1 (i := 11) hnl hall 10 173 (by kernel_rfl) (by kernel_rfl) rfl
                      have hmm := inv.pre1 (j := 11) hnl (List.mem_singleton.2 rfl) (Or.inl rfl)
                      refine (hmm.wr9 (16 * (x : Int)) _ _ ⟨by omega, by omega⟩ h173 (dB_bytes _) (by rw [dB_length]; decide)).mono ?_
                      rintro e u ⟨rfl, h1, h2⟩
                      refine ⟨_, rfl, ?_, h2⟩
                      rw [show (16 * (x : Int)) = ((16 * x : Nat) : Int) by omega, write10 (by rw [dB_length]; decide) (by rw [dB_length]; omega)] at h1
                      exact h1
                · intro listed A1 W1 inv hall
                  have e163 : A1.eval (.tmp 163) = .pointer (some ⟨mp, 0, none⟩) := inv.fin 0 163 (by kernel_rfl) (hall 0 (Nat.lt_of_lt_of_eq (by decide : 0 < 12) (by kernel_rfl))) rfl
                  have e164 : A1.eval (.tmp 164) = .pointer (some ⟨rb, 2, none⟩) := inv.fin 1 164 (by kernel_rfl) (hall 1 (Nat.lt_of_lt_of_eq (by decide : 1 < 12) (by kernel_rfl))) rfl
                  have e165 : A1.eval (.tmp 165) = .int .u64 0 := inv.fin 2 165 (by kernel_rfl) (hall 2 (Nat.lt_of_lt_of_eq (by decide : 2 < 12) (by kernel_rfl))) rfl
                  have e166 : A1.eval (.tmp 166) = .pointer (some ⟨xb, 0, none⟩) := inv.fin 3 166 (by kernel_rfl) (hall 3 (Nat.lt_of_lt_of_eq (by decide : 3 < 12) (by kernel_rfl))) rfl
                  have e167 : A1.eval (.tmp 167) = .int .i64 (x : Int) := inv.fin 4 167 (by kernel_rfl) (hall 4 (Nat.lt_of_lt_of_eq (by decide : 4 < 12) (by kernel_rfl))) rfl
                  have e168 : A1.eval (.tmp 168) = .int .u64 (x : Int) := inv.fin 5 168 (by kernel_rfl) (hall 5 (Nat.lt_of_lt_of_eq (by decide : 5 < 12) (by kernel_rfl))) rfl
                  have e169 : A1.eval (.tmp 169) = .int .u64 (16 * (x : Int)) := inv.fin 6 169 (by kernel_rfl) (hall 6 (Nat.lt_of_lt_of_eq (by decide : 6 < 12) (by kernel_rfl))) rfl
                  have e170 : A1.eval (.tmp 170) = .int .u64 (16 * (x : Int)) := inv.fin 7 170 (by kernel_rfl) (hall 7 (Nat.lt_of_lt_of_eq (by decide : 7 < 12) (by kernel_rfl))) rfl
                  have e171 : A1.eval (.tmp 171) = .pointer (some ⟨xb, 1, none⟩) := inv.fin 8 171 (by kernel_rfl) (hall 8 (Nat.lt_of_lt_of_eq (by decide : 8 < 12) (by kernel_rfl))) rfl
                  have e172 : A1.eval (.tmp 172) = dV Dk := inv.fin 9 172 (by kernel_rfl) (hall 9 (Nat.lt_of_lt_of_eq (by decide : 9 < 12) (by kernel_rfl))) rfl
                  obtain ⟨v173, e173⟩ : ∃ v, A1.eval (.tmp 173) = v := ⟨_, rfl⟩
                  have p174 : (fun _ Y => MdS w mp ib qb R10 (put (put M1 2800 (stbB L)) (16 * x) (dB Dk)) Y) (A1.eval (.tmp 174)) W1 := inv.fin 11 174 (by kernel_rfl) (hall 11 (Nat.lt_of_lt_of_eq (by decide : 11 < 12) (by kernel_rfl))) rfl
                  obtain ⟨v174, e174⟩ : ∃ v, A1.eval (.tmp 174) = v := ⟨_, rfl⟩
                  rw [e174] at p174
                  have HF := inv.frame hall
                  have HS9 := hid_mk inv.s
                  simp only [putEnd, e163, e164, e165, e166, e167, e168, e169, e170, e171, e172, e173, e174, Act.put, List.setIfInBounds_toArray, List.set_cons_succ, List.set_cons_zero] at HF
                  clear e163 e164 e165 e166 e167 e168 e169 e170 e171 e172 e173 e174 inv hall
                  subst HF
                  have hch := HS9.out
                  have hmm := p174
                  obtain ⟨U9, hU9⟩ : ∃ U9, U9 = W1 := ⟨_, rfl⟩
                  rw [← hU9] at hch hmm ⊢
                  replace XRx := hid_mk (hch.at XRx.out XNE.out)
                  replace HIx := hid_mk ((hch.cell (o := 0) hgl INE2.out).trans HIx.out)
                  replace hgl := Nat.lt_of_lt_of_le hgl hch.size
                  replace QX := hid_mk (segs_chg hch HMx.out QX.out)
                  replace HMx := hid_mk hmm
                  clear hU9 HS9 p174 hch hmm XO ONE
                  obtain ⟨⟨t1, t2, t3⟩, t4, t5⟩ := wb_table (Z := M1) (m := m) (L := L) (g := 1024) (c := C) HM1l.out HS.out HLm.out h64 HM0.out HIn.out (id := x) hx64 HRf.out
                  rw [← HDk.out] at t1 t2 t3 t4 t5
                  obtain ⟨M3, hM3⟩ : ∃ M3, M3 = put (put M1 2800 (stbB L)) (16 * x) (dB Dk) := ⟨_, rfl⟩
                  rw [← hM3] at HMx t1 t2 t3 t4 t5
                  rw [← HX.out] at t1 t2 t3 t4 t5
                  have CT4 := hid_mk t4
                  have CT5 := hid_mk t5
                  have CSx : Hid (∀ u, MdS w mp ib qb R10 (M3) u → Calls Tryz.prog 11 #[.pointer (some ⟨mp, 0, none⟩), .agg #[.bool false, .int .i64 64, .int .u64 0, .int .u64 1024, .int .u64 C], .int .i64 ((W 0 : Nat) : Int), .bool true] u fun e u' => ∃ a z, e = .returned (.tuple #[.slice a m z, .int .i64 0]) ∧ SegsAt u' (.slice a m z) L ∧ Below u.heap.size u u') := hid_mk (fun u hmm => hmm.split false 64 0 1024 C ((W 0 : Nat) : Int) true 0 L m (by decide) (by decide) HC64.out ⟨by have := HW64.out 0; omega, by have := HW64.out 0; omega⟩ t1 (sameS_iff.2 t2) HLm.out)
                  have CN : Hid (∀ u, MdS w mp ib qb R10 M3 u → Calls Tryz.prog 15 #[.pointer (some ⟨mp, 0, none⟩), .agg #[.bool false, .int .i64 64, .int .u64 0, .int .u64 1024, .int .u64 C], .int .i64 ((W 0 : Nat) : Int), .bool true] u fun e u' => e = .returned (.int .i64 ((1 + m : Nat) : Int)) ∧ Below u.heap.size u u') := hid_mk (fun u hmm => hmm.reads false 64 0 1024 C ((W 0 : Nat) : Int) true (1 + m) (by decide) (by decide) HC64.out ⟨by have := HW64.out 0; omega, by have := HW64.out 0; omega⟩ t3)
                  clear t1 t2 t3 t4 t5 hM3
                  go_wp2_with fail
                  refine wp_region_outl3 0 [] [] []
                      [(fun v _ => v = .pointer (some ⟨mp, 0, none⟩)),
                      (fun v _ => v = .agg #[.bool false, .int .i64 64, .int .u64 0, .int .u64 1024, .int .u64 C]),
                      (fun v _ => v = .slice (some ⟨ig, 0, none⟩) m sc),
                      (fun v _ => v = .pointer (some ⟨ig, 0, none⟩)),
                      (fun v _ => v = .int .i64 ((W 0 : Nat) : Int)),
                      (fun v Y => ∃ a z, v = .tuple #[.slice a m z, .int .i64 0] ∧ SegsAt Y (.slice a m z) L),
                      (fun v Y => ∃ a z, v = .tuple #[.slice a m z, .int .i64 0] ∧ SegsAt Y (.slice a m z) L),
                      (fun v Y => ∃ a z, v = .slice a m z ∧ SegsAt Y (.slice a m z) L),
                      (fun v _ => v = .int .i64 0),
                      (fun v Y => ∃ a z, v = .slice a m z ∧ SegsAt Y (.slice a m z) L),
                      (fun v _ => v = .int .i64 0)]
                      (Below U9.heap.size U9) (by kernel_rfl) (by kernel_rfl) (by kernel_rfl) ?_ (fun u u' hb h => h.trans (hb.mono h.size)) ((Below.refl _ _).drew) ?_ ?_ ?_ ?_ ?_
                  · refine And.intro (up_eq _) ?_
                    refine And.intro (up_eq _) ?_
                    refine And.intro (up_eq _) ?_
                    refine And.intro (up_eq _) ?_
                    refine And.intro (up_eq _) ?_
                    refine And.intro (fun _ _ _ hb h => by obtain ⟨a, z, e, h⟩ := h; exact ⟨a, z, e, h.below hb⟩) ?_
                    refine And.intro (fun _ _ _ hb h => by obtain ⟨a, z, e, h⟩ := h; exact ⟨a, z, e, h.below hb⟩) ?_
                    refine And.intro (fun _ _ _ hb h => by obtain ⟨a, z, e, h⟩ := h; exact ⟨a, z, e, h.below hb⟩) ?_
                    refine And.intro (up_eq _) ?_
                    refine And.intro (fun _ _ _ hb h => by obtain ⟨a, z, e, h⟩ := h; exact ⟨a, z, e, h.below hb⟩) ?_
                    refine And.intro (up_eq _) ?_
                    trivial
                  · trivial
                  · trivial
                  · trivial
                  · refine And.intro ?_ (And.intro ?_ (And.intro ?_ (And.intro ?_ (And.intro ?_ (And.intro ?_ (And.intro ?_ (And.intro ?_ (And.intro ?_ (And.intro ?_ (And.intro ?_ (True.intro)))))))))))
                    · refine qstep_val (.pointer (some ⟨mp, 0, none⟩)) (by kernel_rfl) (by kernel_rfl) rfl (fun _ A1 W1 inv hnl hall => ⟨wanted_none rfl, ?_, rfl⟩)
                      have h12 : A1.eval (.tmp 12) = .pointer (some ⟨mp, 0, none⟩) := (inv.base 12 (by kernel_rfl)).trans rfl
                      simp only [execOp, h12, Sem.run_pure]
                    · refine qstep_val (.agg #[.bool false, .int .i64 64, .int .u64 0, .int .u64 1024, .int .u64 C]) (by kernel_rfl) (by kernel_rfl) rfl (fun _ A1 W1 inv hnl hall => ⟨wanted_none rfl, ?_, rfl⟩)
                      have h14 : A1.eval (.tmp 14) = .pointer (some ⟨rb, 0, none⟩) := (inv.base 14 (by kernel_rfl)).trans rfl
                      simp only [execOp, h14, Sem.run_bind, loadRg (XRx.out.below inv.s), Result.andThen_ok, Sem.run_pure]
                    · refine qstep_val (.slice (some ⟨ig, 0, none⟩) m sc) (by kernel_rfl) (by kernel_rfl) rfl (fun _ A1 W1 inv hnl hall => ⟨wanted_none rfl, ?_, rfl⟩)
                      have h16 : A1.eval (.tmp 16) = .slice (some ⟨ig, 0, none⟩) m sc := (inv.base 16 (by kernel_rfl)).trans rfl
                      simp only [execOp, h16, Sem.run_pure]
                    · refine qstep_val (.pointer (some ⟨ig, 0, none⟩)) (by kernel_rfl) (by kernel_rfl) rfl (fun _ A1 W1 inv hnl hall => ⟨wanted_none rfl, ?_, rfl⟩)
                      have h178 : A1.eval (.tmp 178) = .slice (some ⟨ig, 0, none⟩) m sc := inv.get hall 2 178 (by kernel_rfl) (by kernel_rfl) rfl
                      simp only [execOp, h178, eval_c]
                      simp [go_sem, show m ≠ 0 by omega]
                    · refine qstep_val (.int .i64 ((W 0 : Nat) : Int)) (by kernel_rfl) (by kernel_rfl) rfl (fun _ A1 W1 inv hnl hall => ⟨wanted_none rfl, ?_, rfl⟩)
                      have h179 : A1.eval (.tmp 179) = .pointer (some ⟨ig, 0, none⟩) := inv.get hall 3 179 (by kernel_rfl) (by kernel_rfl) rfl
                      have gg := (inv.s.cell (p := ⟨ig, 0, none⟩) hgl).trans HIx.out
                      simp only [execOp, h179]
                      simp [go_sem, gg]
                    · refine qstep_call 11 (by kernel_rfl) _ _ (by kernel_rfl) (by kernel_rfl) rfl rfl (fun _ A1 W1 inv hnl hall => ⟨wanted_none rfl, #[.pointer (some ⟨mp, 0, none⟩), .agg #[.bool false, .int .i64 64, .int .u64 0, .int .u64 1024, .int .u64 C], .int .i64 ((W 0 : Nat) : Int), .bool true], ?_, ?_⟩)
                      · have h176 : A1.eval (.tmp 176) = .pointer (some ⟨mp, 0, none⟩) := inv.get hall 0 176 (by kernel_rfl) (by kernel_rfl) rfl
                        have h177 : A1.eval (.tmp 177) = .agg #[.bool false, .int .i64 64, .int .u64 0, .int .u64 1024, .int .u64 C] := inv.get hall 1 177 (by kernel_rfl) (by kernel_rfl) rfl
                        have h180 : A1.eval (.tmp 180) = .int .i64 ((W 0 : Nat) : Int) := inv.get hall 4 180 (by kernel_rfl) (by kernel_rfl) rfl
                        simp [h176, h177, h180, eval_c]
                      · refine (CSx.out _ (HMx.out.below inv.s)).mono ?_
                        rintro e u ⟨a, z, rfl, hq, hb⟩
                        exact ⟨_, rfl, ⟨a, z, rfl, hq⟩, hb⟩
                    · refine qstep_ex (by kernel_rfl) (by kernel_rfl) rfl (fun _ A1 W1 inv hnl hall => ⟨wanted_none rfl, ?_⟩)
                      have h181 : (fun v Y => ∃ a z, v = .tuple #[.slice a m z, .int .i64 0] ∧ SegsAt Y (.slice a m z) L) (A1.eval (.tmp 181)) W1 := inv.get hall 5 181 (by kernel_rfl) (by kernel_rfl) rfl
                      exact ⟨A1.eval (.tmp 181), by simp only [execOp, Sem.run_pure], h181⟩
                    · refine qstep_ex (by kernel_rfl) (by kernel_rfl) rfl (fun _ A1 W1 inv hnl hall => ⟨wanted_none rfl, ?_⟩)
                      have h175 : (fun v Y => ∃ a z, v = .tuple #[.slice a m z, .int .i64 0] ∧ SegsAt Y (.slice a m z) L) (A1.eval (.tmp 175)) W1 := inv.get hall 6 175 (by kernel_rfl) (by kernel_rfl) rfl
                      obtain ⟨a, z, hx, hi⟩ := h175
                      refine ⟨.slice a m z, ?_, a, z, rfl, hi⟩
                      simp only [execOp, hx]
                      simp [go_sem]
                    · refine qstep_val (.int .i64 0) (by kernel_rfl) (by kernel_rfl) rfl (fun _ A1 W1 inv hnl hall => ⟨wanted_none rfl, ?_, rfl⟩)
                      have h175 : (fun v Y => ∃ a z, v = .tuple #[.slice a m z, .int .i64 0] ∧ SegsAt Y (.slice a m z) L) (A1.eval (.tmp 175)) W1 := inv.get hall 6 175 (by kernel_rfl) (by kernel_rfl) rfl
                      obtain ⟨a, z, hx, hi⟩ := h175
                      simp only [execOp, hx]
                      simp [go_sem]
                    · refine qstep_ex (by kernel_rfl) (by kernel_rfl) rfl (fun _ A1 W1 inv hnl hall => ⟨wanted_none rfl, ?_⟩)
                      have h182 : (fun v Y => ∃ a z, v = .slice a m z ∧ SegsAt Y (.slice a m z) L) (A1.eval (.tmp 182)) W1 := inv.get hall 7 182 (by kernel_rfl) (by kernel_rfl) rfl
                      exact ⟨A1.eval (.tmp 182), by simp only [execOp, Sem.run_pure], h182⟩
                    · refine qstep_val (.int .i64 0) (by kernel_rfl) (by kernel_rfl) rfl (fun _ A1 W1 inv hnl hall => ⟨wanted_none rfl, ?_, rfl⟩)
                      have h183 : A1.eval (.tmp 183) = .int .i64 0 := inv.get hall 8 183 (by kernel_rfl) (by kernel_rfl) rfl
                      simp only [execOp, h183, Sem.run_pure]
                  · intro listed A1 W1 inv hall
                    have e176 : A1.eval (.tmp 176) = .pointer (some ⟨mp, 0, none⟩) := inv.fin 0 176 (by kernel_rfl) (hall 0 (Nat.lt_of_lt_of_eq (by decide : 0 < 11) (by kernel_rfl))) rfl
                    have e177 : A1.eval (.tmp 177) = .agg #[.bool false, .int .i64 64, .int .u64 0, .int .u64 1024, .int .u64 C] := inv.fin 1 177 (by kernel_rfl) (hall 1 (Nat.lt_of_lt_of_eq (by decide : 1 < 11) (by kernel_rfl))) rfl
                    have e178 : A1.eval (.tmp 178) = .slice (some ⟨ig, 0, none⟩) m sc := inv.fin 2 178 (by kernel_rfl) (hall 2 (Nat.lt_of_lt_of_eq (by decide : 2 < 11) (by kernel_rfl))) rfl
                    have e179 : A1.eval (.tmp 179) = .pointer (some ⟨ig, 0, none⟩) := inv.fin 3 179 (by kernel_rfl) (hall 3 (Nat.lt_of_lt_of_eq (by decide : 3 < 11) (by kernel_rfl))) rfl
                    have e180 : A1.eval (.tmp 180) = .int .i64 ((W 0 : Nat) : Int) := inv.fin 4 180 (by kernel_rfl) (hall 4 (Nat.lt_of_lt_of_eq (by decide : 4 < 11) (by kernel_rfl))) rfl
                    have e183 : A1.eval (.tmp 183) = .int .i64 0 := inv.fin 8 183 (by kernel_rfl) (hall 8 (Nat.lt_of_lt_of_eq (by decide : 8 < 11) (by kernel_rfl))) rfl
                    have e28 : A1.eval (.tmp 28) = .int .i64 0 := inv.fin 10 28 (by kernel_rfl) (hall 10 (Nat.lt_of_lt_of_eq (by decide : 10 < 11) (by kernel_rfl))) rfl
                    have p181 : (fun v Y => ∃ a z, v = .tuple #[.slice a m z, .int .i64 0] ∧ SegsAt Y (.slice a m z) L) (A1.eval (.tmp 181)) W1 := inv.fin 5 181 (by kernel_rfl) (hall 5 (Nat.lt_of_lt_of_eq (by decide : 5 < 11) (by kernel_rfl))) rfl
                    obtain ⟨v181, e181⟩ : ∃ v, A1.eval (.tmp 181) = v := ⟨_, rfl⟩
                    rw [e181] at p181
                    have p175 : (fun v Y => ∃ a z, v = .tuple #[.slice a m z, .int .i64 0] ∧ SegsAt Y (.slice a m z) L) (A1.eval (.tmp 175)) W1 := inv.fin 6 175 (by kernel_rfl) (hall 6 (Nat.lt_of_lt_of_eq (by decide : 6 < 11) (by kernel_rfl))) rfl
                    obtain ⟨v175, e175⟩ : ∃ v, A1.eval (.tmp 175) = v := ⟨_, rfl⟩
                    rw [e175] at p175
                    have p182 : (fun v Y => ∃ a z, v = .slice a m z ∧ SegsAt Y (.slice a m z) L) (A1.eval (.tmp 182)) W1 := inv.fin 7 182 (by kernel_rfl) (hall 7 (Nat.lt_of_lt_of_eq (by decide : 7 < 11) (by kernel_rfl))) rfl
                    obtain ⟨v182, e182⟩ : ∃ v, A1.eval (.tmp 182) = v := ⟨_, rfl⟩
                    rw [e182] at p182
                    have p27 : (fun v Y => ∃ a z, v = .slice a m z ∧ SegsAt Y (.slice a m z) L) (A1.eval (.tmp 27)) W1 := inv.fin 9 27 (by kernel_rfl) (hall 9 (Nat.lt_of_lt_of_eq (by decide : 9 < 11) (by kernel_rfl))) rfl
                    obtain ⟨v27, e27⟩ : ∃ v, A1.eval (.tmp 27) = v := ⟨_, rfl⟩
                    rw [e27] at p27
                    have HF := inv.frame hall
                    have HS9 := hid_mk inv.s
                    simp only [putEnd, e176, e177, e178, e179, e180, e183, e28, e181, e175, e182, e27, Act.put, List.setIfInBounds_toArray, List.set_cons_succ, List.set_cons_zero] at HF
                    clear e176 e177 e178 e179 e180 e183 e28 e181 e175 e182 e27 inv hall
                    subst HF
                    obtain ⟨ya, yz, rfl, hq⟩ := p27
                    clear p181 p175 p182
                    obtain ⟨U10, hU10⟩ : ∃ U10, U10 = W1 := ⟨_, rfl⟩
                    rw [← hU10] at HS9 hq ⊢
                    have QY := hid_mk hq
                    replace HMx := hid_mk (HMx.out.below HS9.out)
                    replace XRx := hid_mk (XRx.out.below HS9.out)
                    replace HIx := hid_mk ((HS9.out.cell (p := ⟨ig, 0, none⟩) hgl).trans HIx.out)
                    replace hgl := Nat.lt_of_lt_of_le hgl HS9.out.size
                    replace QX := hid_mk (QX.out.below HS9.out)
                    clear hU10 HS9 hq CSx
                    have CSx : Hid (∀ u, MdS w mp ib qb R10 (M3) u → Calls Tryz.prog 11 #[.pointer (some ⟨mp, 0, none⟩), .agg #[.bool false, .int .i64 64, .int .u64 0, .int .u64 1024, .int .u64 C], .int .i64 ((W 0 : Nat) : Int), .bool false] u fun e u' => ∃ a z, e = .returned (.tuple #[.slice a 0 z, .int .i64 4]) ∧ SegsAt u' (.slice a 0 z) [] ∧ Below u.heap.size u u') := hid_mk (fun u hmm => hmm.split false 64 0 1024 C ((W 0 : Nat) : Int) false 4 [] 0 (by decide) (by decide) HC64.out ⟨by have := HW64.out 0; omega, by have := HW64.out 0; omega⟩ CT4.out (sameS_iff.2 CT5.out) rfl)
                    go_wp2_with fail
                    refine wp_region_outl3 0 [] [] []
                        [(fun v _ => v = .pointer (some ⟨mp, 0, none⟩)),
                        (fun v _ => v = .agg #[.bool false, .int .i64 64, .int .u64 0, .int .u64 1024, .int .u64 C]),
                        (fun v _ => v = .slice (some ⟨ig, 0, none⟩) m sc),
                        (fun v _ => v = .pointer (some ⟨ig, 0, none⟩)),
                        (fun v _ => v = .int .i64 ((W 0 : Nat) : Int)),
                        (fun v Y => ∃ a z, v = .tuple #[.slice a 0 z, .int .i64 4] ∧ SegsAt Y (.slice a 0 z) []),
                        (fun v Y => ∃ a z, v = .tuple #[.slice a 0 z, .int .i64 4] ∧ SegsAt Y (.slice a 0 z) []),
                        (fun v Y => ∃ a z, v = .slice a 0 z ∧ SegsAt Y (.slice a 0 z) []),
                        (fun v _ => v = .int .i64 4),
                        (fun v Y => ∃ a z, v = .slice a 0 z ∧ SegsAt Y (.slice a 0 z) []),
                        (fun v _ => v = .int .i64 4)]
                        (Below U10.heap.size U10) (by kernel_rfl) (by kernel_rfl) (by kernel_rfl) ?_ (fun u u' hb h => h.trans (hb.mono h.size)) ((Below.refl _ _).drew) ?_ ?_ ?_ ?_ ?_
                    · refine And.intro (up_eq _) ?_
                      refine And.intro (up_eq _) ?_
                      refine And.intro (up_eq _) ?_
                      refine And.intro (up_eq _) ?_
                      refine And.intro (up_eq _) ?_
                      refine And.intro (fun _ _ _ hb h => by obtain ⟨a, z, e, h⟩ := h; exact ⟨a, z, e, h.below hb⟩) ?_
                      refine And.intro (fun _ _ _ hb h => by obtain ⟨a, z, e, h⟩ := h; exact ⟨a, z, e, h.below hb⟩) ?_
                      refine And.intro (fun _ _ _ hb h => by obtain ⟨a, z, e, h⟩ := h; exact ⟨a, z, e, h.below hb⟩) ?_
                      refine And.intro (up_eq _) ?_
                      refine And.intro (fun _ _ _ hb h => by obtain ⟨a, z, e, h⟩ := h; exact ⟨a, z, e, h.below hb⟩) ?_
                      refine And.intro (up_eq _) ?_
                      trivial
                    · trivial
                    · trivial
                    · trivial
                    · refine And.intro ?_ (And.intro ?_ (And.intro ?_ (And.intro ?_ (And.intro ?_ (And.intro ?_ (And.intro ?_ (And.intro ?_ (And.intro ?_ (And.intro ?_ (And.intro ?_ (True.intro)))))))))))
                      · refine qstep_val (.pointer (some ⟨mp, 0, none⟩)) (by kernel_rfl) (by kernel_rfl) rfl (fun _ A1 W1 inv hnl hall => ⟨wanted_none rfl, ?_, rfl⟩)
                        have h12 : A1.eval (.tmp 12) = .pointer (some ⟨mp, 0, none⟩) := (inv.base 12 (by kernel_rfl)).trans rfl
                        simp only [execOp, h12, Sem.run_pure]
                      · refine qstep_val (.agg #[.bool false, .int .i64 64, .int .u64 0, .int .u64 1024, .int .u64 C]) (by kernel_rfl) (by kernel_rfl) rfl (fun _ A1 W1 inv hnl hall => ⟨wanted_none rfl, ?_, rfl⟩)
                        have h14 : A1.eval (.tmp 14) = .pointer (some ⟨rb, 0, none⟩) := (inv.base 14 (by kernel_rfl)).trans rfl
                        simp only [execOp, h14, Sem.run_bind, loadRg (XRx.out.below inv.s), Result.andThen_ok, Sem.run_pure]
                      · refine qstep_val (.slice (some ⟨ig, 0, none⟩) m sc) (by kernel_rfl) (by kernel_rfl) rfl (fun _ A1 W1 inv hnl hall => ⟨wanted_none rfl, ?_, rfl⟩)
                        have h16 : A1.eval (.tmp 16) = .slice (some ⟨ig, 0, none⟩) m sc := (inv.base 16 (by kernel_rfl)).trans rfl
                        simp only [execOp, h16, Sem.run_pure]
                      · refine qstep_val (.pointer (some ⟨ig, 0, none⟩)) (by kernel_rfl) (by kernel_rfl) rfl (fun _ A1 W1 inv hnl hall => ⟨wanted_none rfl, ?_, rfl⟩)
                        have h187 : A1.eval (.tmp 187) = .slice (some ⟨ig, 0, none⟩) m sc := inv.get hall 2 187 (by kernel_rfl) (by kernel_rfl) rfl
                        simp only [execOp, h187, eval_c]
                        simp [go_sem, show m ≠ 0 by omega]
                      · refine qstep_val (.int .i64 ((W 0 : Nat) : Int)) (by kernel_rfl) (by kernel_rfl) rfl (fun _ A1 W1 inv hnl hall => ⟨wanted_none rfl, ?_, rfl⟩)
                        have h188 : A1.eval (.tmp 188) = .pointer (some ⟨ig, 0, none⟩) := inv.get hall 3 188 (by kernel_rfl) (by kernel_rfl) rfl
                        have gg := (inv.s.cell (p := ⟨ig, 0, none⟩) hgl).trans HIx.out
                        simp only [execOp, h188]
                        simp [go_sem, gg]
                      · refine qstep_call 11 (by kernel_rfl) _ _ (by kernel_rfl) (by kernel_rfl) rfl rfl (fun _ A1 W1 inv hnl hall => ⟨wanted_none rfl, #[.pointer (some ⟨mp, 0, none⟩), .agg #[.bool false, .int .i64 64, .int .u64 0, .int .u64 1024, .int .u64 C], .int .i64 ((W 0 : Nat) : Int), .bool false], ?_, ?_⟩)
                        · have h185 : A1.eval (.tmp 185) = .pointer (some ⟨mp, 0, none⟩) := inv.get hall 0 185 (by kernel_rfl) (by kernel_rfl) rfl
                          have h186 : A1.eval (.tmp 186) = .agg #[.bool false, .int .i64 64, .int .u64 0, .int .u64 1024, .int .u64 C] := inv.get hall 1 186 (by kernel_rfl) (by kernel_rfl) rfl
                          have h189 : A1.eval (.tmp 189) = .int .i64 ((W 0 : Nat) : Int) := inv.get hall 4 189 (by kernel_rfl) (by kernel_rfl) rfl
                          simp [h185, h186, h189, eval_c]
                        · refine (CSx.out _ (HMx.out.below inv.s)).mono ?_
                          rintro e u ⟨a, z, rfl, hq, hb⟩
                          exact ⟨_, rfl, ⟨a, z, rfl, hq⟩, hb⟩
                      · refine qstep_ex (by kernel_rfl) (by kernel_rfl) rfl (fun _ A1 W1 inv hnl hall => ⟨wanted_none rfl, ?_⟩)
                        have h190 : (fun v Y => ∃ a z, v = .tuple #[.slice a 0 z, .int .i64 4] ∧ SegsAt Y (.slice a 0 z) []) (A1.eval (.tmp 190)) W1 := inv.get hall 5 190 (by kernel_rfl) (by kernel_rfl) rfl
                        exact ⟨A1.eval (.tmp 190), by simp only [execOp, Sem.run_pure], h190⟩
                      · refine qstep_ex (by kernel_rfl) (by kernel_rfl) rfl (fun _ A1 W1 inv hnl hall => ⟨wanted_none rfl, ?_⟩)
                        have h184 : (fun v Y => ∃ a z, v = .tuple #[.slice a 0 z, .int .i64 4] ∧ SegsAt Y (.slice a 0 z) []) (A1.eval (.tmp 184)) W1 := inv.get hall 6 184 (by kernel_rfl) (by kernel_rfl) rfl
                        obtain ⟨a, z, hx, hi⟩ := h184
                        refine ⟨.slice a 0 z, ?_, a, z, rfl, hi⟩
                        simp only [execOp, hx]
                        simp [go_sem]
                      · refine qstep_val (.int .i64 4) (by kernel_rfl) (by kernel_rfl) rfl (fun _ A1 W1 inv hnl hall => ⟨wanted_none rfl, ?_, rfl⟩)
                        have h184 : (fun v Y => ∃ a z, v = .tuple #[.slice a 0 z, .int .i64 4] ∧ SegsAt Y (.slice a 0 z) []) (A1.eval (.tmp 184)) W1 := inv.get hall 6 184 (by kernel_rfl) (by kernel_rfl) rfl
                        obtain ⟨a, z, hx, hi⟩ := h184
                        simp only [execOp, hx]
                        simp [go_sem]
                      · refine qstep_ex (by kernel_rfl) (by kernel_rfl) rfl (fun _ A1 W1 inv hnl hall => ⟨wanted_none rfl, ?_⟩)
                        have h191 : (fun v Y => ∃ a z, v = .slice a 0 z ∧ SegsAt Y (.slice a 0 z) []) (A1.eval (.tmp 191)) W1 := inv.get hall 7 191 (by kernel_rfl) (by kernel_rfl) rfl
                        exact ⟨A1.eval (.tmp 191), by simp only [execOp, Sem.run_pure], h191⟩
                      · refine qstep_val (.int .i64 4) (by kernel_rfl) (by kernel_rfl) rfl (fun _ A1 W1 inv hnl hall => ⟨wanted_none rfl, ?_, rfl⟩)
                        have h192 : A1.eval (.tmp 192) = .int .i64 4 := inv.get hall 8 192 (by kernel_rfl) (by kernel_rfl) rfl
                        simp only [execOp, h192, Sem.run_pure]
                    · intro listed A1 W1 inv hall
                      have e185 : A1.eval (.tmp 185) = .pointer (some ⟨mp, 0, none⟩) := inv.fin 0 185 (by kernel_rfl) (hall 0 (Nat.lt_of_lt_of_eq (by decide : 0 < 11) (by kernel_rfl))) rfl
                      have e186 : A1.eval (.tmp 186) = .agg #[.bool false, .int .i64 64, .int .u64 0, .int .u64 1024, .int .u64 C] := inv.fin 1 186 (by kernel_rfl) (hall 1 (Nat.lt_of_lt_of_eq (by decide : 1 < 11) (by kernel_rfl))) rfl
                      have e187 : A1.eval (.tmp 187) = .slice (some ⟨ig, 0, none⟩) m sc := inv.fin 2 187 (by kernel_rfl) (hall 2 (Nat.lt_of_lt_of_eq (by decide : 2 < 11) (by kernel_rfl))) rfl
                      have e188 : A1.eval (.tmp 188) = .pointer (some ⟨ig, 0, none⟩) := inv.fin 3 188 (by kernel_rfl) (hall 3 (Nat.lt_of_lt_of_eq (by decide : 3 < 11) (by kernel_rfl))) rfl
                      have e189 : A1.eval (.tmp 189) = .int .i64 ((W 0 : Nat) : Int) := inv.fin 4 189 (by kernel_rfl) (hall 4 (Nat.lt_of_lt_of_eq (by decide : 4 < 11) (by kernel_rfl))) rfl
                      have e192 : A1.eval (.tmp 192) = .int .i64 4 := inv.fin 8 192 (by kernel_rfl) (hall 8 (Nat.lt_of_lt_of_eq (by decide : 8 < 11) (by kernel_rfl))) rfl
                      have e30 : A1.eval (.tmp 30) = .int .i64 4 := inv.fin 10 30 (by kernel_rfl) (hall 10 (Nat.lt_of_lt_of_eq (by decide : 10 < 11) (by kernel_rfl))) rfl
                      have p190 : (fun v Y => ∃ a z, v = .tuple #[.slice a 0 z, .int .i64 4] ∧ SegsAt Y (.slice a 0 z) []) (A1.eval (.tmp 190)) W1 := inv.fin 5 190 (by kernel_rfl) (hall 5 (Nat.lt_of_lt_of_eq (by decide : 5 < 11) (by kernel_rfl))) rfl
                      obtain ⟨v190, e190⟩ : ∃ v, A1.eval (.tmp 190) = v := ⟨_, rfl⟩
                      rw [e190] at p190
                      have p184 : (fun v Y => ∃ a z, v = .tuple #[.slice a 0 z, .int .i64 4] ∧ SegsAt Y (.slice a 0 z) []) (A1.eval (.tmp 184)) W1 := inv.fin 6 184 (by kernel_rfl) (hall 6 (Nat.lt_of_lt_of_eq (by decide : 6 < 11) (by kernel_rfl))) rfl
                      obtain ⟨v184, e184⟩ : ∃ v, A1.eval (.tmp 184) = v := ⟨_, rfl⟩
                      rw [e184] at p184
                      have p191 : (fun v Y => ∃ a z, v = .slice a 0 z ∧ SegsAt Y (.slice a 0 z) []) (A1.eval (.tmp 191)) W1 := inv.fin 7 191 (by kernel_rfl) (hall 7 (Nat.lt_of_lt_of_eq (by decide : 7 < 11) (by kernel_rfl))) rfl
                      obtain ⟨v191, e191⟩ : ∃ v, A1.eval (.tmp 191) = v := ⟨_, rfl⟩
                      rw [e191] at p191
                      have p29 : (fun v Y => ∃ a z, v = .slice a 0 z ∧ SegsAt Y (.slice a 0 z) []) (A1.eval (.tmp 29)) W1 := inv.fin 9 29 (by kernel_rfl) (hall 9 (Nat.lt_of_lt_of_eq (by decide : 9 < 11) (by kernel_rfl))) rfl
                      obtain ⟨v29, e29⟩ : ∃ v, A1.eval (.tmp 29) = v := ⟨_, rfl⟩
                      rw [e29] at p29
                      have HF := inv.frame hall
                      have HS9 := hid_mk inv.s
                      simp only [putEnd, e185, e186, e187, e188, e189, e192, e30, e190, e184, e191, e29, Act.put, List.setIfInBounds_toArray, List.set_cons_succ, List.set_cons_zero] at HF
                      clear e185 e186 e187 e188 e189 e192 e30 e190 e184 e191 e29 inv hall
                      subst HF
                      clear p190 p184 p191 p29
                      obtain ⟨U11, hU11⟩ : ∃ U11, U11 = W1 := ⟨_, rfl⟩
                      rw [← hU11] at HS9 ⊢
                      replace HMx := hid_mk (HMx.out.below HS9.out)
                      replace XRx := hid_mk (XRx.out.below HS9.out)
                      replace HIx := hid_mk ((HS9.out.cell (p := ⟨ig, 0, none⟩) hgl).trans HIx.out)
                      replace hgl := Nat.lt_of_lt_of_le hgl HS9.out.size
                      replace QX := hid_mk (QX.out.below HS9.out)
                      replace QY := hid_mk (QY.out.below HS9.out)
                      clear hU11 HS9 CSx CT4 CT5
                      have HLk := hid_mk (show L.length ≤ 1000 by rw [HLm.out]; omega)
                      have hw1m : IntKind.i64.wrap (1 + (m : Int)) = ((1 + m : Nat) : Int) := by rw [IntWalk.i64_in _ (by omega)]; omega
                      go_wp2_with fail
                      refine wp_region_outl3 0 [] [] []
                          [(fun v _ => v = .int .i64 0),
                          (fun v _ => v = .bool false),
                          (fun v _ => v = .bool false),
                          (fun v _ => v = .slice xa m xz),
                          (fun v _ => v = .slice va m vc),
                          (fun v _ => v = .bool true),
                          (fun v _ => v = .bool false),
                          (fun v _ => v = .bool false),
                          (fun v _ => v = .bool false),
                          (fun v _ => v = .int .i64 0),
                          (fun v _ => v = .bool false),
                          (fun v _ => v = .bool false),
                          (fun v _ => v = .bool false),
                          (fun v _ => v = .slice ya m yz),
                          (fun v _ => v = .slice va m vc),
                          (fun v _ => v = .bool true),
                          (fun v _ => v = .bool false),
                          (fun v _ => v = .bool false),
                          (fun v _ => v = .bool false),
                          (fun v _ => v = .int .i64 4),
                          (fun v _ => v = .bool false),
                          (fun v _ => v = .bool false),
                          (fun v _ => v = .bool false),
                          (fun v _ => v = .pointer (some ⟨mp, 0, none⟩)),
                          (fun v _ => v = .agg #[.bool false, .int .i64 64, .int .u64 0, .int .u64 1024, .int .u64 C]),
                          (fun v _ => v = .slice (some ⟨ig, 0, none⟩) m sc),
                          (fun v _ => v = .pointer (some ⟨ig, 0, none⟩)),
                          (fun v _ => v = .int .i64 ((W 0 : Nat) : Int)),
                          (fun v _ => v = .int .i64 ((1 + m : Nat) : Int)),
                          (fun v _ => v = .slice va m vc),
                          (fun v _ => v = .int .i64 (m : Int)),
                          (fun v _ => v = .int .i64 ((1 + m : Nat) : Int)),
                          (fun v _ => v = .bool false),
                          (fun v _ => v = .bool false)]
                          (Below U11.heap.size U11) (by kernel_rfl) (by kernel_rfl) (by kernel_rfl) ?_ (fun u u' hb h => h.trans (hb.mono h.size)) ((Below.refl _ _).drew) ?_ ?_ ?_ ?_ ?_
                      · refine And.intro (up_eq _) ?_
                        refine And.intro (up_eq _) ?_
                        refine And.intro (up_eq _) ?_
                        refine And.intro (up_eq _) ?_
                        refine And.intro (up_eq _) ?_
                        refine And.intro (up_eq _) ?_
                        refine And.intro (up_eq _) ?_
                        refine And.intro (up_eq _) ?_
                        refine And.intro (up_eq _) ?_
                        refine And.intro (up_eq _) ?_
                        refine And.intro (up_eq _) ?_
                        refine And.intro (up_eq _) ?_
                        refine And.intro (up_eq _) ?_
                        refine And.intro (up_eq _) ?_
                        refine And.intro (up_eq _) ?_
                        refine And.intro (up_eq _) ?_
                        refine And.intro (up_eq _) ?_
                        refine And.intro (up_eq _) ?_
                        refine And.intro (up_eq _) ?_
                        refine And.intro (up_eq _) ?_
                        refine And.intro (up_eq _) ?_
                        refine And.intro (up_eq _) ?_
                        refine And.intro (up_eq _) ?_
                        refine And.intro (up_eq _) ?_
                        refine And.intro (up_eq _) ?_
                        refine And.intro (up_eq _) ?_
                        refine And.intro (up_eq _) ?_
                        refine And.intro (up_eq _) ?_
                        refine And.intro (up_eq _) ?_
                        refine And.intro (up_eq _) ?_
                        refine And.intro (up_eq _) ?_
                        refine And.intro (up_eq _) ?_
                        refine And.intro (up_eq _) ?_
                        refine And.intro (up_eq _) ?_
                        trivial
                      · trivial
                      · trivial
                      · trivial
                      · refine And.intro ?_ (And.intro ?_ (And.intro ?_ (And.intro ?_ (And.intro ?_ (And.intro ?_ (And.intro ?_ (And.intro ?_ (And.intro ?_ (And.intro ?_ (And.intro ?_ (And.intro ?_ (And.intro ?_ (And.intro ?_ (And.intro ?_ (And.intro ?_ (And.intro ?_ (And.intro ?_ (And.intro ?_ (And.intro ?_ (And.intro ?_ (And.intro ?_ (And.intro ?_ (And.intro ?_ (And.intro ?_ (And.intro ?_ (And.intro ?_ (And.intro ?_ (And.intro ?_ (And.intro ?_ (And.intro ?_ (And.intro ?_ (And.intro ?_ (And.intro ?_ (True.intro))))))))))))))))))))))))))))))))))
                        · refine qstep_val (.int .i64 0) (by kernel_rfl) (by kernel_rfl) rfl (fun _ A1 W1 inv hnl hall => ⟨wanted_none rfl, ?_, rfl⟩)
                          have h22 : A1.eval (.tmp 22) = .int .i64 0 := (inv.base 22 (by kernel_rfl)).trans rfl
                          simp only [execOp, h22, Sem.run_pure]
                        · refine qstep_val (.bool false) (by kernel_rfl) (by kernel_rfl) rfl (fun _ A1 W1 inv hnl hall => ⟨wanted_none rfl, ?_, rfl⟩)
                          have h193 : A1.eval (.tmp 193) = .int .i64 0 := inv.get hall 0 193 (by kernel_rfl) (by kernel_rfl) rfl
                          simp only [execOp, h193]
                          simp [eqGuard, go_sem]
                        · refine qstep_val (.bool false) (by kernel_rfl) (by kernel_rfl) rfl (fun _ A1 W1 inv hnl hall => ⟨wanted_none rfl, ?_, rfl⟩)
                          have h194 : A1.eval (.tmp 194) = .bool false := inv.get hall 1 194 (by kernel_rfl) (by kernel_rfl) rfl
                          simp only [execOp, h194, Sem.run_pure]
                        · refine qstep_val (.slice xa m xz) (by kernel_rfl) (by kernel_rfl) rfl (fun _ A1 W1 inv hnl hall => ⟨wanted_some (g := 2) (d := 195) (b := false) rfl (by kernel_rfl) (inv.get hall 2 195 (by kernel_rfl) (by kernel_rfl) rfl), ?_, rfl⟩)
                          have h21 : A1.eval (.tmp 21) = .slice xa m xz := (inv.base 21 (by kernel_rfl)).trans rfl
                          simp only [execOp, h21, Sem.run_pure]
                        · refine qstep_val (.slice va m vc) (by kernel_rfl) (by kernel_rfl) rfl (fun _ A1 W1 inv hnl hall => ⟨wanted_some (g := 2) (d := 195) (b := false) rfl (by kernel_rfl) (inv.get hall 2 195 (by kernel_rfl) (by kernel_rfl) rfl), ?_, rfl⟩)
                          have h0 : A1.eval (.tmp 0) = .slice va m vc := (inv.base 0 (by kernel_rfl)).trans rfl
                          simp only [execOp, h0, Sem.run_pure]
                        · refine qstep_call 14 (by kernel_rfl) _ _ (by kernel_rfl) (by kernel_rfl) rfl rfl (fun _ A1 W1 inv hnl hall => ⟨wanted_some (g := 2) (d := 195) (b := false) rfl (by kernel_rfl) (inv.get hall 2 195 (by kernel_rfl) (by kernel_rfl) rfl), #[.slice xa m xz, .slice va m vc], ?_, ?_⟩)
                          · have h196 : A1.eval (.tmp 196) = .slice xa m xz := inv.get hall 3 196 (by kernel_rfl) (by kernel_rfl) rfl
                            have h197 : A1.eval (.tmp 197) = .slice va m vc := inv.get hall 4 197 (by kernel_rfl) (by kernel_rfl) rfl
                            simp [h196, h197]
                          · refine (ksame10 _ _ L L _ (QX.out.below inv.s) ((QV.out.below HMx.out.old).below inv.s) HLk.out (sameS_iff.2 rfl)).mono ?_
                            rintro e u ⟨rfl, hb⟩
                            exact ⟨_, rfl, rfl, hb⟩
                        · refine qstep_val (.bool false) (by kernel_rfl) (by kernel_rfl) rfl (fun _ A1 W1 inv hnl hall => ⟨wanted_some (g := 2) (d := 195) (b := false) rfl (by kernel_rfl) (inv.get hall 2 195 (by kernel_rfl) (by kernel_rfl) rfl), ?_, rfl⟩)
                          have h198 : A1.eval (.tmp 198) = .bool true := inv.get hall 5 198 (by kernel_rfl) (by kernel_rfl) rfl
                          simp only [execOp, h198]
                          simp [go_sem]
                        · refine qstep_val (.bool false) (by kernel_rfl) (by kernel_rfl) rfl (fun _ A1 W1 inv hnl hall => ⟨wanted_none rfl, ?_, rfl⟩)
                          have h195 : A1.eval (.tmp 195) = .bool false := inv.get hall 2 195 (by kernel_rfl) (by kernel_rfl) rfl
                          have h199 : A1.eval (.tmp 199) = .bool false := inv.get hall 6 199 (by kernel_rfl) (by kernel_rfl) rfl
                          simp only [execOp, h195, h199]
                          simp [asBool]
                        · refine qstep_val (.bool false) (by kernel_rfl) (by kernel_rfl) rfl (fun _ A1 W1 inv hnl hall => ⟨wanted_none rfl, ?_, rfl⟩)
                          have h200 : A1.eval (.tmp 200) = .bool false := inv.get hall 7 200 (by kernel_rfl) (by kernel_rfl) rfl
                          simp only [execOp, h200, Sem.run_pure]
                        · refine qstep_val (.int .i64 0) (by kernel_rfl) (by kernel_rfl) rfl (fun _ A1 W1 inv hnl hall => ⟨wanted_some (g := 8) (d := 201) (b := false) rfl (by kernel_rfl) (inv.get hall 8 201 (by kernel_rfl) (by kernel_rfl) rfl), ?_, rfl⟩)
                          have h28 : A1.eval (.tmp 28) = .int .i64 0 := (inv.base 28 (by kernel_rfl)).trans rfl
                          simp only [execOp, h28, Sem.run_pure]
                        · refine qstep_val (.bool false) (by kernel_rfl) (by kernel_rfl) rfl (fun _ A1 W1 inv hnl hall => ⟨wanted_some (g := 8) (d := 201) (b := false) rfl (by kernel_rfl) (inv.get hall 8 201 (by kernel_rfl) (by kernel_rfl) rfl), ?_, rfl⟩)
                          have h202 : A1.eval (.tmp 202) = .int .i64 0 := inv.get hall 9 202 (by kernel_rfl) (by kernel_rfl) rfl
                          simp only [execOp, h202]
                          simp [eqGuard, go_sem]
                        · refine qstep_val (.bool false) (by kernel_rfl) (by kernel_rfl) rfl (fun _ A1 W1 inv hnl hall => ⟨wanted_none rfl, ?_, rfl⟩)
                          have h201 : A1.eval (.tmp 201) = .bool false := inv.get hall 8 201 (by kernel_rfl) (by kernel_rfl) rfl
                          have h203 : A1.eval (.tmp 203) = .bool false := inv.get hall 10 203 (by kernel_rfl) (by kernel_rfl) rfl
                          simp only [execOp, h201, h203]
                          simp [asBool]
                        · refine qstep_val (.bool false) (by kernel_rfl) (by kernel_rfl) rfl (fun _ A1 W1 inv hnl hall => ⟨wanted_none rfl, ?_, rfl⟩)
                          have h204 : A1.eval (.tmp 204) = .bool false := inv.get hall 11 204 (by kernel_rfl) (by kernel_rfl) rfl
                          simp only [execOp, h204, Sem.run_pure]
                        · refine qstep_val (.slice ya m yz) (by kernel_rfl) (by kernel_rfl) rfl (fun _ A1 W1 inv hnl hall => ⟨wanted_some (g := 12) (d := 205) (b := false) rfl (by kernel_rfl) (inv.get hall 12 205 (by kernel_rfl) (by kernel_rfl) rfl), ?_, rfl⟩)
                          have h27 : A1.eval (.tmp 27) = .slice ya m yz := (inv.base 27 (by kernel_rfl)).trans rfl
                          simp only [execOp, h27, Sem.run_pure]
                        · refine qstep_val (.slice va m vc) (by kernel_rfl) (by kernel_rfl) rfl (fun _ A1 W1 inv hnl hall => ⟨wanted_some (g := 12) (d := 205) (b := false) rfl (by kernel_rfl) (inv.get hall 12 205 (by kernel_rfl) (by kernel_rfl) rfl), ?_, rfl⟩)
                          have h0 : A1.eval (.tmp 0) = .slice va m vc := (inv.base 0 (by kernel_rfl)).trans rfl
                          simp only [execOp, h0, Sem.run_pure]
                        · refine qstep_call 14 (by kernel_rfl) _ _ (by kernel_rfl) (by kernel_rfl) rfl rfl (fun _ A1 W1 inv hnl hall => ⟨wanted_some (g := 12) (d := 205) (b := false) rfl (by kernel_rfl) (inv.get hall 12 205 (by kernel_rfl) (by kernel_rfl) rfl), #[.slice ya m yz, .slice va m vc], ?_, ?_⟩)
                          · have h206 : A1.eval (.tmp 206) = .slice ya m yz := inv.get hall 13 206 (by kernel_rfl) (by kernel_rfl) rfl
                            have h207 : A1.eval (.tmp 207) = .slice va m vc := inv.get hall 14 207 (by kernel_rfl) (by kernel_rfl) rfl
                            simp [h206, h207]
                          · refine (ksame10 _ _ L L _ (QY.out.below inv.s) ((QV.out.below HMx.out.old).below inv.s) HLk.out (sameS_iff.2 rfl)).mono ?_
                            rintro e u ⟨rfl, hb⟩
                            exact ⟨_, rfl, rfl, hb⟩
                        · refine qstep_val (.bool false) (by kernel_rfl) (by kernel_rfl) rfl (fun _ A1 W1 inv hnl hall => ⟨wanted_some (g := 12) (d := 205) (b := false) rfl (by kernel_rfl) (inv.get hall 12 205 (by kernel_rfl) (by kernel_rfl) rfl), ?_, rfl⟩)
                          have h208 : A1.eval (.tmp 208) = .bool true := inv.get hall 15 208 (by kernel_rfl) (by kernel_rfl) rfl
                          simp only [execOp, h208]
                          simp [go_sem]
                        · refine qstep_val (.bool false) (by kernel_rfl) (by kernel_rfl) rfl (fun _ A1 W1 inv hnl hall => ⟨wanted_none rfl, ?_, rfl⟩)
                          have h205 : A1.eval (.tmp 205) = .bool false := inv.get hall 12 205 (by kernel_rfl) (by kernel_rfl) rfl
                          have h209 : A1.eval (.tmp 209) = .bool false := inv.get hall 16 209 (by kernel_rfl) (by kernel_rfl) rfl
                          simp only [execOp, h205, h209]
                          simp [asBool]
                        · refine qstep_val (.bool false) (by kernel_rfl) (by kernel_rfl) rfl (fun _ A1 W1 inv hnl hall => ⟨wanted_none rfl, ?_, rfl⟩)
                          have h210 : A1.eval (.tmp 210) = .bool false := inv.get hall 17 210 (by kernel_rfl) (by kernel_rfl) rfl
                          simp only [execOp, h210, Sem.run_pure]
                        · refine qstep_val (.int .i64 4) (by kernel_rfl) (by kernel_rfl) rfl (fun _ A1 W1 inv hnl hall => ⟨wanted_some (g := 18) (d := 211) (b := false) rfl (by kernel_rfl) (inv.get hall 18 211 (by kernel_rfl) (by kernel_rfl) rfl), ?_, rfl⟩)
                          have h30 : A1.eval (.tmp 30) = .int .i64 4 := (inv.base 30 (by kernel_rfl)).trans rfl
                          simp only [execOp, h30, Sem.run_pure]
                        · refine qstep_val (.bool false) (by kernel_rfl) (by kernel_rfl) rfl (fun _ A1 W1 inv hnl hall => ⟨wanted_some (g := 18) (d := 211) (b := false) rfl (by kernel_rfl) (inv.get hall 18 211 (by kernel_rfl) (by kernel_rfl) rfl), ?_, rfl⟩)
                          have h212 : A1.eval (.tmp 212) = .int .i64 4 := inv.get hall 19 212 (by kernel_rfl) (by kernel_rfl) rfl
                          simp only [execOp, h212]
                          simp [eqGuard, go_sem]
                        · refine qstep_val (.bool false) (by kernel_rfl) (by kernel_rfl) rfl (fun _ A1 W1 inv hnl hall => ⟨wanted_none rfl, ?_, rfl⟩)
                          have h211 : A1.eval (.tmp 211) = .bool false := inv.get hall 18 211 (by kernel_rfl) (by kernel_rfl) rfl
                          have h213 : A1.eval (.tmp 213) = .bool false := inv.get hall 20 213 (by kernel_rfl) (by kernel_rfl) rfl
                          simp only [execOp, h211, h213]
                          simp [asBool]
                        · refine qstep_val (.bool false) (by kernel_rfl) (by kernel_rfl) rfl (fun _ A1 W1 inv hnl hall => ⟨wanted_none rfl, ?_, rfl⟩)
                          have h214 : A1.eval (.tmp 214) = .bool false := inv.get hall 21 214 (by kernel_rfl) (by kernel_rfl) rfl
                          simp only [execOp, h214, Sem.run_pure]
                        · refine qstep_val (.pointer (some ⟨mp, 0, none⟩)) (by kernel_rfl) (by kernel_rfl) rfl (fun _ A1 W1 inv hnl hall => ⟨wanted_some (g := 22) (d := 215) (b := false) rfl (by kernel_rfl) (inv.get hall 22 215 (by kernel_rfl) (by kernel_rfl) rfl), ?_, rfl⟩)
                          have h12 : A1.eval (.tmp 12) = .pointer (some ⟨mp, 0, none⟩) := (inv.base 12 (by kernel_rfl)).trans rfl
                          simp only [execOp, h12, Sem.run_pure]
                        · refine qstep_val (.agg #[.bool false, .int .i64 64, .int .u64 0, .int .u64 1024, .int .u64 C]) (by kernel_rfl) (by kernel_rfl) rfl (fun _ A1 W1 inv hnl hall => ⟨wanted_some (g := 22) (d := 215) (b := false) rfl (by kernel_rfl) (inv.get hall 22 215 (by kernel_rfl) (by kernel_rfl) rfl), ?_, rfl⟩)
                          have h14 : A1.eval (.tmp 14) = .pointer (some ⟨rb, 0, none⟩) := (inv.base 14 (by kernel_rfl)).trans rfl
                          simp only [execOp, h14, Sem.run_bind, loadRg (XRx.out.below inv.s), Result.andThen_ok, Sem.run_pure]
                        · refine qstep_val (.slice (some ⟨ig, 0, none⟩) m sc) (by kernel_rfl) (by kernel_rfl) rfl (fun _ A1 W1 inv hnl hall => ⟨wanted_some (g := 22) (d := 215) (b := false) rfl (by kernel_rfl) (inv.get hall 22 215 (by kernel_rfl) (by kernel_rfl) rfl), ?_, rfl⟩)
                          have h16 : A1.eval (.tmp 16) = .slice (some ⟨ig, 0, none⟩) m sc := (inv.base 16 (by kernel_rfl)).trans rfl
                          simp only [execOp, h16, Sem.run_pure]
                        · refine qstep_val (.pointer (some ⟨ig, 0, none⟩)) (by kernel_rfl) (by kernel_rfl) rfl (fun _ A1 W1 inv hnl hall => ⟨wanted_some (g := 22) (d := 215) (b := false) rfl (by kernel_rfl) (inv.get hall 22 215 (by kernel_rfl) (by kernel_rfl) rfl), ?_, rfl⟩)
                          have h218 : A1.eval (.tmp 218) = .slice (some ⟨ig, 0, none⟩) m sc := inv.get hall 25 218 (by kernel_rfl) (by kernel_rfl) rfl
                          simp only [execOp, h218, eval_c]
                          simp [go_sem, show m ≠ 0 by omega]
                        · refine qstep_val (.int .i64 ((W 0 : Nat) : Int)) (by kernel_rfl) (by kernel_rfl) rfl (fun _ A1 W1 inv hnl hall => ⟨wanted_some (g := 22) (d := 215) (b := false) rfl (by kernel_rfl) (inv.get hall 22 215 (by kernel_rfl) (by kernel_rfl) rfl), ?_, rfl⟩)
                          have h219 : A1.eval (.tmp 219) = .pointer (some ⟨ig, 0, none⟩) := inv.get hall 26 219 (by kernel_rfl) (by kernel_rfl) rfl
                          have gg := (inv.s.cell (p := ⟨ig, 0, none⟩) hgl).trans HIx.out
                          simp only [execOp, h219]
                          simp [go_sem, gg]
                        · refine qstep_call 15 (by kernel_rfl) _ _ (by kernel_rfl) (by kernel_rfl) rfl rfl (fun _ A1 W1 inv hnl hall => ⟨wanted_some (g := 22) (d := 215) (b := false) rfl (by kernel_rfl) (inv.get hall 22 215 (by kernel_rfl) (by kernel_rfl) rfl), #[.pointer (some ⟨mp, 0, none⟩), .agg #[.bool false, .int .i64 64, .int .u64 0, .int .u64 1024, .int .u64 C], .int .i64 ((W 0 : Nat) : Int), .bool true], ?_, ?_⟩)
                          · have h216 : A1.eval (.tmp 216) = .pointer (some ⟨mp, 0, none⟩) := inv.get hall 23 216 (by kernel_rfl) (by kernel_rfl) rfl
                            have h217 : A1.eval (.tmp 217) = .agg #[.bool false, .int .i64 64, .int .u64 0, .int .u64 1024, .int .u64 C] := inv.get hall 24 217 (by kernel_rfl) (by kernel_rfl) rfl
                            have h220 : A1.eval (.tmp 220) = .int .i64 ((W 0 : Nat) : Int) := inv.get hall 27 220 (by kernel_rfl) (by kernel_rfl) rfl
                            simp [h216, h217, h220, eval_c]
                          · refine (CN.out _ (HMx.out.below inv.s)).mono ?_
                            rintro e u ⟨rfl, hb⟩
                            exact ⟨_, rfl, rfl, hb⟩
                        · refine qstep_val (.slice va m vc) (by kernel_rfl) (by kernel_rfl) rfl (fun _ A1 W1 inv hnl hall => ⟨wanted_some (g := 22) (d := 215) (b := false) rfl (by kernel_rfl) (inv.get hall 22 215 (by kernel_rfl) (by kernel_rfl) rfl), ?_, rfl⟩)
                          have h0 : A1.eval (.tmp 0) = .slice va m vc := (inv.base 0 (by kernel_rfl)).trans rfl
                          simp only [execOp, h0, Sem.run_pure]
                        · refine qstep_val (.int .i64 (m : Int)) (by kernel_rfl) (by kernel_rfl) rfl (fun _ A1 W1 inv hnl hall => ⟨wanted_some (g := 22) (d := 215) (b := false) rfl (by kernel_rfl) (inv.get hall 22 215 (by kernel_rfl) (by kernel_rfl) rfl), ?_, rfl⟩)
                          have h222 : A1.eval (.tmp 222) = .slice va m vc := inv.get hall 29 222 (by kernel_rfl) (by kernel_rfl) rfl
                          simp only [execOp]
                          simp [resolve, invoke, builtin, h222, Result.andThen]
                          simp [go_sem]
                        · refine qstep_val (.int .i64 ((1 + m : Nat) : Int)) (by kernel_rfl) (by kernel_rfl) rfl (fun _ A1 W1 inv hnl hall => ⟨wanted_some (g := 22) (d := 215) (b := false) rfl (by kernel_rfl) (inv.get hall 22 215 (by kernel_rfl) (by kernel_rfl) rfl), ?_, rfl⟩)
                          have h223 : A1.eval (.tmp 223) = .int .i64 (m : Int) := inv.get hall 30 223 (by kernel_rfl) (by kernel_rfl) rfl
                          simp only [execOp, h223, eval_c]
                          simp [go_sem, hw1m]
                        · refine qstep_val (.bool false) (by kernel_rfl) (by kernel_rfl) rfl (fun _ A1 W1 inv hnl hall => ⟨wanted_some (g := 22) (d := 215) (b := false) rfl (by kernel_rfl) (inv.get hall 22 215 (by kernel_rfl) (by kernel_rfl) rfl), ?_, rfl⟩)
                          have h221 : A1.eval (.tmp 221) = .int .i64 ((1 + m : Nat) : Int) := inv.get hall 28 221 (by kernel_rfl) (by kernel_rfl) rfl
                          have h224 : A1.eval (.tmp 224) = .int .i64 ((1 + m : Nat) : Int) := inv.get hall 31 224 (by kernel_rfl) (by kernel_rfl) rfl
                          simp only [execOp, h221, h224]
                          simp [eqGuard, go_sem]
                        · refine qstep_val (.bool false) (by kernel_rfl) (by kernel_rfl) rfl (fun _ A1 W1 inv hnl hall => ⟨wanted_none rfl, ?_, rfl⟩)
                          have h215 : A1.eval (.tmp 215) = .bool false := inv.get hall 22 215 (by kernel_rfl) (by kernel_rfl) rfl
                          have h225 : A1.eval (.tmp 225) = .bool false := inv.get hall 32 225 (by kernel_rfl) (by kernel_rfl) rfl
                          simp only [execOp, h215, h225]
                          simp [asBool]
                      · intro listed A1 W1 inv hall
                        have e193 : A1.eval (.tmp 193) = .int .i64 0 := inv.fin 0 193 (by kernel_rfl) (hall 0 (Nat.lt_of_lt_of_eq (by decide : 0 < 34) (by kernel_rfl))) rfl
                        have e194 : A1.eval (.tmp 194) = .bool false := inv.fin 1 194 (by kernel_rfl) (hall 1 (Nat.lt_of_lt_of_eq (by decide : 1 < 34) (by kernel_rfl))) rfl
                        have e195 : A1.eval (.tmp 195) = .bool false := inv.fin 2 195 (by kernel_rfl) (hall 2 (Nat.lt_of_lt_of_eq (by decide : 2 < 34) (by kernel_rfl))) rfl
                        have e196 : A1.eval (.tmp 196) = .slice xa m xz := inv.fin 3 196 (by kernel_rfl) (hall 3 (Nat.lt_of_lt_of_eq (by decide : 3 < 34) (by kernel_rfl))) rfl
                        have e197 : A1.eval (.tmp 197) = .slice va m vc := inv.fin 4 197 (by kernel_rfl) (hall 4 (Nat.lt_of_lt_of_eq (by decide : 4 < 34) (by kernel_rfl))) rfl
                        have e198 : A1.eval (.tmp 198) = .bool true := inv.fin 5 198 (by kernel_rfl) (hall 5 (Nat.lt_of_lt_of_eq (by decide : 5 < 34) (by kernel_rfl))) rfl
                        have e199 : A1.eval (.tmp 199) = .bool false := inv.fin 6 199 (by kernel_rfl) (hall 6 (Nat.lt_of_lt_of_eq (by decide : 6 < 34) (by kernel_rfl))) rfl
                        have e200 : A1.eval (.tmp 200) = .bool false := inv.fin 7 200 (by kernel_rfl) (hall 7 (Nat.lt_of_lt_of_eq (by decide : 7 < 34) (by kernel_rfl))) rfl
                        have e201 : A1.eval (.tmp 201) = .bool false := inv.fin 8 201 (by kernel_rfl) (hall 8 (Nat.lt_of_lt_of_eq (by decide : 8 < 34) (by kernel_rfl))) rfl
                        have e202 : A1.eval (.tmp 202) = .int .i64 0 := inv.fin 9 202 (by kernel_rfl) (hall 9 (Nat.lt_of_lt_of_eq (by decide : 9 < 34) (by kernel_rfl))) rfl
                        have e203 : A1.eval (.tmp 203) = .bool false := inv.fin 10 203 (by kernel_rfl) (hall 10 (Nat.lt_of_lt_of_eq (by decide : 10 < 34) (by kernel_rfl))) rfl
                        have e204 : A1.eval (.tmp 204) = .bool false := inv.fin 11 204 (by kernel_rfl) (hall 11 (Nat.lt_of_lt_of_eq (by decide : 11 < 34) (by kernel_rfl))) rfl
                        have e205 : A1.eval (.tmp 205) = .bool false := inv.fin 12 205 (by kernel_rfl) (hall 12 (Nat.lt_of_lt_of_eq (by decide : 12 < 34) (by kernel_rfl))) rfl
                        have e206 : A1.eval (.tmp 206) = .slice ya m yz := inv.fin 13 206 (by kernel_rfl) (hall 13 (Nat.lt_of_lt_of_eq (by decide : 13 < 34) (by kernel_rfl))) rfl
                        have e207 : A1.eval (.tmp 207) = .slice va m vc := inv.fin 14 207 (by kernel_rfl) (hall 14 (Nat.lt_of_lt_of_eq (by decide : 14 < 34) (by kernel_rfl))) rfl
                        have e208 : A1.eval (.tmp 208) = .bool true := inv.fin 15 208 (by kernel_rfl) (hall 15 (Nat.lt_of_lt_of_eq (by decide : 15 < 34) (by kernel_rfl))) rfl
                        have e209 : A1.eval (.tmp 209) = .bool false := inv.fin 16 209 (by kernel_rfl) (hall 16 (Nat.lt_of_lt_of_eq (by decide : 16 < 34) (by kernel_rfl))) rfl
                        have e210 : A1.eval (.tmp 210) = .bool false := inv.fin 17 210 (by kernel_rfl) (hall 17 (Nat.lt_of_lt_of_eq (by decide : 17 < 34) (by kernel_rfl))) rfl
                        have e211 : A1.eval (.tmp 211) = .bool false := inv.fin 18 211 (by kernel_rfl) (hall 18 (Nat.lt_of_lt_of_eq (by decide : 18 < 34) (by kernel_rfl))) rfl
                        have e212 : A1.eval (.tmp 212) = .int .i64 4 := inv.fin 19 212 (by kernel_rfl) (hall 19 (Nat.lt_of_lt_of_eq (by decide : 19 < 34) (by kernel_rfl))) rfl
                        have e213 : A1.eval (.tmp 213) = .bool false := inv.fin 20 213 (by kernel_rfl) (hall 20 (Nat.lt_of_lt_of_eq (by decide : 20 < 34) (by kernel_rfl))) rfl
                        have e214 : A1.eval (.tmp 214) = .bool false := inv.fin 21 214 (by kernel_rfl) (hall 21 (Nat.lt_of_lt_of_eq (by decide : 21 < 34) (by kernel_rfl))) rfl
                        have e215 : A1.eval (.tmp 215) = .bool false := inv.fin 22 215 (by kernel_rfl) (hall 22 (Nat.lt_of_lt_of_eq (by decide : 22 < 34) (by kernel_rfl))) rfl
                        have e216 : A1.eval (.tmp 216) = .pointer (some ⟨mp, 0, none⟩) := inv.fin 23 216 (by kernel_rfl) (hall 23 (Nat.lt_of_lt_of_eq (by decide : 23 < 34) (by kernel_rfl))) rfl
                        have e217 : A1.eval (.tmp 217) = .agg #[.bool false, .int .i64 64, .int .u64 0, .int .u64 1024, .int .u64 C] := inv.fin 24 217 (by kernel_rfl) (hall 24 (Nat.lt_of_lt_of_eq (by decide : 24 < 34) (by kernel_rfl))) rfl
                        have e218 : A1.eval (.tmp 218) = .slice (some ⟨ig, 0, none⟩) m sc := inv.fin 25 218 (by kernel_rfl) (hall 25 (Nat.lt_of_lt_of_eq (by decide : 25 < 34) (by kernel_rfl))) rfl
                        have e219 : A1.eval (.tmp 219) = .pointer (some ⟨ig, 0, none⟩) := inv.fin 26 219 (by kernel_rfl) (hall 26 (Nat.lt_of_lt_of_eq (by decide : 26 < 34) (by kernel_rfl))) rfl
                        have e220 : A1.eval (.tmp 220) = .int .i64 ((W 0 : Nat) : Int) := inv.fin 27 220 (by kernel_rfl) (hall 27 (Nat.lt_of_lt_of_eq (by decide : 27 < 34) (by kernel_rfl))) rfl
                        have e221 : A1.eval (.tmp 221) = .int .i64 ((1 + m : Nat) : Int) := inv.fin 28 221 (by kernel_rfl) (hall 28 (Nat.lt_of_lt_of_eq (by decide : 28 < 34) (by kernel_rfl))) rfl
                        have e222 : A1.eval (.tmp 222) = .slice va m vc := inv.fin 29 222 (by kernel_rfl) (hall 29 (Nat.lt_of_lt_of_eq (by decide : 29 < 34) (by kernel_rfl))) rfl
                        have e223 : A1.eval (.tmp 223) = .int .i64 (m : Int) := inv.fin 30 223 (by kernel_rfl) (hall 30 (Nat.lt_of_lt_of_eq (by decide : 30 < 34) (by kernel_rfl))) rfl
                        have e224 : A1.eval (.tmp 224) = .int .i64 ((1 + m : Nat) : Int) := inv.fin 31 224 (by kernel_rfl) (hall 31 (Nat.lt_of_lt_of_eq (by decide : 31 < 34) (by kernel_rfl))) rfl
                        have e225 : A1.eval (.tmp 225) = .bool false := inv.fin 32 225 (by kernel_rfl) (hall 32 (Nat.lt_of_lt_of_eq (by decide : 32 < 34) (by kernel_rfl))) rfl
                        have e226 : A1.eval (.tmp 226) = .bool false := inv.fin 33 226 (by kernel_rfl) (hall 33 (Nat.lt_of_lt_of_eq (by decide : 33 < 34) (by kernel_rfl))) rfl
                        have HF := inv.frame hall
                        have HS9 := hid_mk inv.s
                        simp only [putEnd, e193, e194, e195, e196, e197, e198, e199, e200, e201, e202, e203, e204, e205, e206, e207, e208, e209, e210, e211, e212, e213, e214, e215, e216, e217, e218, e219, e220, e221, e222, e223, e224, e225, e226, Act.put, List.setIfInBounds_toArray, List.set_cons_succ, List.set_cons_zero] at HF
                        clear e193 e194 e195 e196 e197 e198 e199 e200 e201 e202 e203 e204 e205 e206 e207 e208 e209 e210 e211 e212 e213 e214 e215 e216 e217 e218 e219 e220 e221 e222 e223 e224 e225 e226 inv hall
                        subst HF
                        have HM9 := hid_mk (HMx.out.below HS9.out)
                        have XR9 := hid_mk (XRx.out.below HS9.out)
                        clear HS9 HMx XRx HIx hgl QX QY CN
                        have hrl : rb < W1.heap.size := XR9.out.lt
                        obtain ⟨V0, hV0⟩ : ∃ V0, V0 = W1 := ⟨_, rfl⟩
                        rw [← hV0] at HM9 XR9 hrl ⊢
                        clear hV0
                        obtain ⟨Z2, hZ2⟩ : ∃ Z2, Z2 = laidM true [] := ⟨_, rfl⟩
                        obtain ⟨C2, hC2⟩ : ∃ C2, C2 = cO true 64 := ⟨_, rfl⟩
                        have HZ2 : Hid (Z2.length = 12000) := hid_mk (by rw [hZ2]; simp [laidM])
                        have HRf2 : Hid (wrfE true true ((64 : Nat) : Int) 0 1024 C2 = 0) := hid_mk (by rw [hC2]; exact ring64p.2)
                        have HC65 : Hid (U64 C2) := hid_mk (by rw [hC2]; exact cO_rng ring64p.1)
                        have CLt := CL true
                        rw [← hZ2, ← hC2] at CLt
                        clear hZ2 hC2
                        go_wp2_with fail
                        refine (CLt.out _).mono ?_
                        rintro e w12 ⟨mp, ib, qb, rp, rfl, hm⟩
                        have hlp : rb ≤ mp := Nat.le_of_lt (Nat.lt_of_lt_of_le hrl hm.lo.1)
                        obtain ⟨V1, hV1, hm2, hx2, _⟩ := (hm.rebase HM9.out.old).ring (XR9.out.below hm.old) HRB.out hlp (.bool true) (.int .i64 64) (.int .u64 0) (.int .u64 1024) (.int .u64 C2)
                        obtain ⟨r0, r1, r2, r3, r4, r5, f0, f1, f2, f3, f4⟩ := cells5 (XR9.out.below hm.old)
                        have HM := hid_mk hm2.md
                        have XR := hid_mk hx2
                        have HV1 := hid_mk hV1
                        clear hm hlp hm2 hx2 hV1 HM9 XR9 hrl
                        go_upto_region 33 with fail
                        rw [← HV1.out]
                        clear HV1 r0 r1 r2 r3 r4 r5 f0 f1 f2 f3 f4
                        go_wp2_with fail
                        refine (HP2.out _).mono ?_
                        rintro e u ⟨rfl, hs⟩
                        subst hs
                        have hbx := below_box V1 (.cells #[.int .i64 (q : Int), .bool wrap] 58)
                        have XP := hid_mk (blk_new V1 [.int .i64 (q : Int), .bool wrap] 58)
                        replace HM := hid_mk (HM.out.below hbx)
                        replace XR := hid_mk (XR.out.below hbx)
                        clear hbx
                        go_wp2_with fail
                        refine (HP3.out _).mono ?_
                        rintro e u ⟨rfl, hs⟩
                        obtain ⟨V2, hV2⟩ : ∃ V2, V2 = V1.alloc (.cells #[.int .i64 (q : Int), .bool wrap] 58) := ⟨_, rfl⟩
                        obtain ⟨pb, hpb⟩ : ∃ pb, pb = V1.heap.size := ⟨_, rfl⟩
                        rw [← hV2] at hs HM XR XP
                        subst hs
                        rw [← hpb] at XP ⊢
                        clear hV2 hpb
                        have okp : okP (q : Int) 64 = true := okP_of (by decide) (by decide) (by omega) hq1
                        have hpkB : pckB (q : Int) 64 (d : Int) L = true := by
                          unfold pckB
                          rw [okp, okI_iff.2 ⟨by omega, hd1⟩, decide_eq_true (by rw [HLm.out]; exact hm64)]
                          rfl
                        obtain ⟨he1, he2⟩ := pck_yes (p := (q : Int)) (n := 64) (b := wrap) (id := (d : Int)) (L := L) HM0.out hpkB
                        have HPK0 := hid_mk (bdpacked (q : Int) 64 wrap (d : Int) (.slice va m vc) L V2 ⟨by omega, by omega⟩ (by decide) ⟨by omega, by omega⟩ (QV.out.below HM.out.old) HS.out (by rw [HLm.out]; omega))
                        rw [he1, he2] at HPK0
                        have HOk := hid_mk okp
                        clear hpkB he1 he2 okp
                        obtain ⟨q2, q0, q1⟩ := cells2 XP.out
                        go_wp2_with fail
                        refine HPK0.out.mono ?_
                        rintro e V3 ⟨px, rfl, hp, hb⟩
                        obtain ⟨pa, pz, hpx⟩ := hp.len
                        rw [pckL_len, HLm.out] at hpx
                        subst hpx
                        obtain ⟨pg, po, hpa, hpg, hpk⟩ := hp.rowP (by rw [pckL_len, HLm.out]; omega)
                        subst hpa
                        have HM3 := hid_mk (HM.out.below hb)
                        have XR3 := hid_mk (XR.out.below hb)
                        have XP3 := hid_mk (XP.out.below hb)
                        have HPK : Hid (∀ k : Nat, k < m → at5 V3 pg (po + k * 5) ⟨(((goA (q : Int) k 64).toNat : Nat) : Int), (pckD (q : Int) 64 wrap (d : Int) L k).d⟩) := hid_mk (fun k hk => by
                          have h := hpk k (by rw [pckL_len, HLm.out]; exact hk)
                          rw [pckL_at (by rw [HLm.out]; exact hk)] at h
                          have hr := goA_rng (p := (q : Int)) (n := 64) (k := k) (by omega) hq1 (by omega)
                          have e : (pckD (q : Int) 64 wrap (d : Int) L k).i = (((goA (q : Int) k 64).toNat : Nat) : Int) := by
                            show goA (q : Int) k 64 = _
                            omega
                          unfold at5 at h ⊢
                          rw [e] at h
                          exact h)
                        have PLT := hid_mk hpg
                        have PNE := hid_mk (HM3.out.not_img (HPK.out 0 h0).1)
                        have XNE := hid_mk (HM3.out.not_blk XR3.out (by decide))
                        have VNE := hid_mk (HM3.out.not_blk XP3.out (by decide))
                        clear hp hb hpg hpk HPK0 HM XR XP q2 q0 q1
                        go_wp2_with fail
                        go_loopw [34] (fun i wr => ∃ k : Nat, k ≤ m ∧ i = .int .i64 (k : Int) ∧ Hid (MdS w mp ib qb R10 (wrM Z2 (fun k => 16 * (goA (q : Int) k 64).toNat) (fun k => (pckD (q : Int) 64 wrap (d : Int) L k).d) k) wr) ∧ Hid (Chg (· = ib) V3 wr)) (fun i _ => m - (intOf i).toNat)
                        case atStart => exact ⟨0, Nat.zero_le _, rfl, HM3, hid_mk (Chg.refl _ _)⟩
                        case round =>
                          obtain ⟨k, hk, rfl, hmd, hkp⟩ := hrel
                          by_cases hlt : k < m
                          · have hki : (k : Int) < (m : Int) := by omega
                            have hwk1 : IntKind.i64.wrap ((k : Int) + 1) = (k : Int) + 1 := IntWalk.i64_in _ (by omega)
                            have hp5 := (HPK.out k hlt).chg hkp.out PLT.out PNE.out
                            have hx64 : (goA (q : Int) k 64).toNat < 64 := by
                              have := goA_rng (p := (q : Int)) (n := 64) (k := k) (by omega) hq1 (by omega)
                              omega
                            have HDi := hid_mk (pk_dsc (p := (q : Int)) (b := wrap) HS.out (show 0 ≤ (d : Int) by omega) hd1 k)
                            have PLT2 := PLT
                            have XRr := hid_mk (hkp.out.at XR3.out XNE.out)
                            obtain ⟨x, hx⟩ : ∃ x, (goA (q : Int) k 64).toNat = x := ⟨_, rfl⟩
                            obtain ⟨Dk, hDk⟩ : ∃ D, (pckD (q : Int) 64 wrap (d : Int) L k).d = D := ⟨_, rfl⟩
                            rw [hx, hDk] at hp5
                            rw [hx] at hx64
                            rw [hDk] at HDi
                            have HX := hid_mk hx
                            have HDk := hid_mk hDk
                            have HP5 := hid_mk hp5
                            have HM3 := hmd
                            have PLT := hid_mk (Nat.lt_of_lt_of_le PLT2.out hkp.out.size)
                            have hv1 : IntKind.u64.wrap (x : Int) = (x : Int) := IntWalk.u64_in _ (by omega)
                            have hv2 : IntKind.u64.wrap (16 * (x : Int)) = 16 * (x : Int) := IntWalk.u64_in _ (by omega)
                            clear hp5 hx hDk PLT2
                            go_wp2_with fail
                            refine wp_region_outl3 0 [(17, Chg (· = ib))] [(16, 17)] [(17, MdS w mp ib qb R10 (wrM Z2 (fun k => 16 * (goA (q : Int) k 64).toNat) (fun k => (pckD (q : Int) 64 wrap (d : Int) L k).d) k))]
                                [(fun v _ => v = .pointer (some ⟨mp, 0, none⟩)),
                                (fun v _ => v = .pointer (some ⟨rb, 2, none⟩)),
                                (fun v _ => v = .int .u64 0),
                                (fun v _ => v = .slice (some ⟨pg, po, none⟩) m pz),
                                (fun v _ => v = .int .i64 (k : Int)),
                                (fun v _ => v = .pointer (some ⟨pg, po + k * 5, none⟩)),
                                (fun v _ => v = .pointer (some ⟨pg, po + k * 5, none⟩)),
                                (fun v _ => v = .int .i64 (x : Int)),
                                (fun v _ => v = .int .u64 (x : Int)),
                                (fun v _ => v = .int .u64 (16 * (x : Int))),
                                (fun v _ => v = .int .u64 (16 * (x : Int))),
                                (fun v _ => v = .slice (some ⟨pg, po, none⟩) m pz),
                                (fun v _ => v = .int .i64 (k : Int)),
                                (fun v _ => v = .pointer (some ⟨pg, po + k * 5, none⟩)),
                                (fun v _ => v = .pointer (some ⟨pg, po + k * 5 + 1, none⟩)),
                                (fun v _ => v = dV Dk),
                                (fun v W => BytesAt W v (dB Dk)),
                                (fun _ Y => MdS w mp ib qb R10 (wrM Z2 (fun k => 16 * (goA (q : Int) k 64).toNat) (fun k => (pckD (q : Int) 64 wrap (d : Int) L k).d) (k + 1)) Y)]
                                (Chg (· = ib) wr) (by kernel_rfl) (by kernel_rfl) (by kernel_rfl) ?_ (fun u u' hb h => h.trans (Chg.of_below hb)) (Chg.of_below (Below.refl _ _).drew) ?_ ?_ ?_ ?_ ?_
                            · refine And.intro (up_eq _) ?_
                              refine And.intro (up_eq _) ?_
                              refine And.intro (up_eq _) ?_
                              refine And.intro (up_eq _) ?_
                              refine And.intro (up_eq _) ?_
                              refine And.intro (up_eq _) ?_
                              refine And.intro (up_eq _) ?_
                              refine And.intro (up_eq _) ?_
                              refine And.intro (up_eq _) ?_
                              refine And.intro (up_eq _) ?_
                              refine And.intro (up_eq _) ?_
                              refine And.intro (up_eq _) ?_
                              refine And.intro (up_eq _) ?_
                              refine And.intro (up_eq _) ?_
                              refine And.intro (up_eq _) ?_
                              refine And.intro (up_eq _) ?_
                              refine And.intro (fun _ _ _ hb h => h.below hb) ?_
                              refine And.intro (fun _ _ _ hb h => h.below hb) ?_
                              trivial
                            · refine And.intro (And.intro (fun u u' hb h => h.below hb) (fun p hp hne u u' ht h => absurd (by rw [List.mem_singleton] at hp; rw [hp]) hne)) ?_
                              trivial
                            · refine And.intro (HM3.out.below (Below.refl _ _).drew) ?_
                              trivial
                            · refine And.intro (And.intro ?_ (fun u u' hk h => h.trans hk)) ?_
                              · refine And.intro (fun _ _ _ => ch_eq _ _) ?_
                                refine And.intro (fun _ _ _ => ch_eq _ _) ?_
                                refine And.intro (fun _ _ _ => ch_eq _ _) ?_
                                refine And.intro (fun _ _ _ => ch_eq _ _) ?_
                                refine And.intro (fun _ _ _ => ch_eq _ _) ?_
                                refine And.intro (fun _ _ _ => ch_eq _ _) ?_
                                refine And.intro (fun _ _ _ => ch_eq _ _) ?_
                                refine And.intro (fun _ _ _ => ch_eq _ _) ?_
                                refine And.intro (fun _ _ _ => ch_eq _ _) ?_
                                refine And.intro (fun _ _ _ => ch_eq _ _) ?_
                                refine And.intro (fun _ _ _ => ch_eq _ _) ?_
                                refine And.intro (fun _ _ _ => ch_eq _ _) ?_
                                refine And.intro (fun _ _ _ => ch_eq _ _) ?_
                                refine And.intro (fun _ _ _ => ch_eq _ _) ?_
                                refine And.intro (fun _ _ _ => ch_eq _ _) ?_
                                refine And.intro (fun _ _ _ => ch_eq _ _) ?_
                                refine And.intro (fun _ h _ => absurd rfl h) ?_
                                refine And.intro (fun h _ _ => absurd rfl h) ?_
                                trivial
                              trivial
                            · refine And.intro ?_ (And.intro ?_ (And.intro ?_ (And.intro ?_ (And.intro ?_ (And.intro ?_ (And.intro ?_ (And.intro ?_ (And.intro ?_ (And.intro ?_ (And.intro ?_ (And.intro ?_ (And.intro ?_ (And.intro ?_ (And.intro ?_ (And.intro ?_ (And.intro ?_ (And.intro ?_ (True.intro))))))))))))))))))
                              · refine qstep_val (.pointer (some ⟨mp, 0, none⟩)) (by kernel_rfl) (by kernel_rfl) rfl (fun _ A1 W1 inv hnl hall => ⟨wanted_none rfl, ?_, rfl⟩)
                                have h12 : A1.eval (.tmp 12) = .pointer (some ⟨mp, 0, none⟩) := (inv.base 12 (by kernel_rfl)).trans rfl
                                simp only [execOp, h12, Sem.run_pure]
                              · refine qstep_val (.pointer (some ⟨rb, 2, none⟩)) (by kernel_rfl) (by kernel_rfl) rfl (fun _ A1 W1 inv hnl hall => ⟨wanted_none rfl, ?_, rfl⟩)
                                have h14 : A1.eval (.tmp 14) = .pointer (some ⟨rb, 0, none⟩) := (inv.base 14 (by kernel_rfl)).trans rfl
                                simp only [execOp, h14]
                                simp [go_sem]
                              · refine qstep_val (.int .u64 0) (by kernel_rfl) (by kernel_rfl) rfl (fun _ A1 W1 inv hnl hall => ⟨wanted_none rfl, ?_, rfl⟩)
                                have h259 : A1.eval (.tmp 259) = .pointer (some ⟨rb, 2, none⟩) := inv.get hall 1 259 (by kernel_rfl) (by kernel_rfl) rfl
                                have gg := (inv.s.at XRr.out XNE.out).cell 2
                                simp at gg
                                simp only [execOp, h259]
                                simp [go_sem, gg]
                              · refine qstep_val (.slice (some ⟨pg, po, none⟩) m pz) (by kernel_rfl) (by kernel_rfl) rfl (fun _ A1 W1 inv hnl hall => ⟨wanted_none rfl, ?_, rfl⟩)
                                have h32 : A1.eval (.tmp 32) = .slice (some ⟨pg, po, none⟩) m pz := (inv.base 32 (by kernel_rfl)).trans rfl
                                simp only [execOp, h32, Sem.run_pure]
                              · refine qstep_val (.int .i64 (k : Int)) (by kernel_rfl) (by kernel_rfl) rfl (fun _ A1 W1 inv hnl hall => ⟨wanted_none rfl, ?_, rfl⟩)
                                have h34 : A1.eval (.tmp 34) = .int .i64 (k : Int) := (inv.base 34 (by kernel_rfl)).trans rfl
                                simp only [execOp, h34, Sem.run_pure]
                              · refine qstep_val (.pointer (some ⟨pg, po + k * 5, none⟩)) (by kernel_rfl) (by kernel_rfl) rfl (fun _ A1 W1 inv hnl hall => ⟨wanted_none rfl, ?_, rfl⟩)
                                have h261 : A1.eval (.tmp 261) = .slice (some ⟨pg, po, none⟩) m pz := inv.get hall 3 261 (by kernel_rfl) (by kernel_rfl) rfl
                                have h262 : A1.eval (.tmp 262) = .int .i64 (k : Int) := inv.get hall 4 262 (by kernel_rfl) (by kernel_rfl) rfl
                                simp only [execOp, h261, h262]
                                simp [go_sem, hki]
                              · refine qstep_val (.pointer (some ⟨pg, po + k * 5, none⟩)) (by kernel_rfl) (by kernel_rfl) rfl (fun _ A1 W1 inv hnl hall => ⟨wanted_none rfl, ?_, rfl⟩)
                                have h263 : A1.eval (.tmp 263) = .pointer (some ⟨pg, po + k * 5, none⟩) := inv.get hall 5 263 (by kernel_rfl) (by kernel_rfl) rfl
                                simp only [execOp, h263]
                                simp [go_sem]
                              · refine qstep_val (.int .i64 (x : Int)) (by kernel_rfl) (by kernel_rfl) rfl (fun _ A1 W1 inv hnl hall => ⟨wanted_none rfl, ?_, rfl⟩)
                                have h264 : A1.eval (.tmp 264) = .pointer (some ⟨pg, po + k * 5, none⟩) := inv.get hall 6 264 (by kernel_rfl) (by kernel_rfl) rfl
                                have gg := (HP5.out.chg inv.s PLT.out PNE.out).1
                                simp only at gg
                                simp only [execOp, h264]
                                simp [go_sem, gg]
                              · refine qstep_val (.int .u64 (x : Int)) (by kernel_rfl) (by kernel_rfl) rfl (fun _ A1 W1 inv hnl hall => ⟨wanted_none rfl, ?_, rfl⟩)
                                have h265 : A1.eval (.tmp 265) = .int .i64 (x : Int) := inv.get hall 7 265 (by kernel_rfl) (by kernel_rfl) rfl
                                simp only [execOp, h265]
                                simp [go_sem, hv1]
                              · refine qstep_val (.int .u64 (16 * (x : Int))) (by kernel_rfl) (by kernel_rfl) rfl (fun _ A1 W1 inv hnl hall => ⟨wanted_none rfl, ?_, rfl⟩)
                                have h266 : A1.eval (.tmp 266) = .int .u64 (x : Int) := inv.get hall 8 266 (by kernel_rfl) (by kernel_rfl) rfl
                                simp only [execOp, h266, eval_c]
                                simp [go_sem, hv2]
                              · refine qstep_val (.int .u64 (16 * (x : Int))) (by kernel_rfl) (by kernel_rfl) rfl (fun _ A1 W1 inv hnl hall => ⟨wanted_none rfl, ?_, rfl⟩)
                                have h260 : A1.eval (.tmp 260) = .int .u64 0 := inv.get hall 2 260 (by kernel_rfl) (by kernel_rfl) rfl
                                have h267 : A1.eval (.tmp 267) = .int .u64 (16 * (x : Int)) := inv.get hall 9 267 (by kernel_rfl) (by kernel_rfl) rfl
                                simp only [execOp, h260, h267]
                                simp [go_sem, hv2]
                              · refine qstep_val (.slice (some ⟨pg, po, none⟩) m pz) (by kernel_rfl) (by kernel_rfl) rfl (fun _ A1 W1 inv hnl hall => ⟨wanted_none rfl, ?_, rfl⟩)
                                have h32 : A1.eval (.tmp 32) = .slice (some ⟨pg, po, none⟩) m pz := (inv.base 32 (by kernel_rfl)).trans rfl
                                simp only [execOp, h32, Sem.run_pure]
                              · refine qstep_val (.int .i64 (k : Int)) (by kernel_rfl) (by kernel_rfl) rfl (fun _ A1 W1 inv hnl hall => ⟨wanted_none rfl, ?_, rfl⟩)
                                have h34 : A1.eval (.tmp 34) = .int .i64 (k : Int) := (inv.base 34 (by kernel_rfl)).trans rfl
                                simp only [execOp, h34, Sem.run_pure]
                              · refine qstep_val (.pointer (some ⟨pg, po + k * 5, none⟩)) (by kernel_rfl) (by kernel_rfl) rfl (fun _ A1 W1 inv hnl hall => ⟨wanted_none rfl, ?_, rfl⟩)
                                have h269 : A1.eval (.tmp 269) = .slice (some ⟨pg, po, none⟩) m pz := inv.get hall 11 269 (by kernel_rfl) (by kernel_rfl) rfl
                                have h270 : A1.eval (.tmp 270) = .int .i64 (k : Int) := inv.get hall 12 270 (by kernel_rfl) (by kernel_rfl) rfl
                                simp only [execOp, h269, h270]
                                simp [go_sem, hki]
                              · refine qstep_val (.pointer (some ⟨pg, po + k * 5 + 1, none⟩)) (by kernel_rfl) (by kernel_rfl) rfl (fun _ A1 W1 inv hnl hall => ⟨wanted_none rfl, ?_, rfl⟩)
                                have h271 : A1.eval (.tmp 271) = .pointer (some ⟨pg, po + k * 5, none⟩) := inv.get hall 13 271 (by kernel_rfl) (by kernel_rfl) rfl
                                simp only [execOp, h271]
                                simp [go_sem]
                              · refine qstep_val (dV Dk) (by kernel_rfl) (by kernel_rfl) rfl (fun _ A1 W1 inv hnl hall => ⟨wanted_none rfl, ?_, rfl⟩)
                                have h272 : A1.eval (.tmp 272) = .pointer (some ⟨pg, po + k * 5 + 1, none⟩) := inv.get hall 14 272 (by kernel_rfl) (by kernel_rfl) rfl
                                simp only [execOp, h272, Sem.run_bind, loadP5 (HP5.out.chg inv.s PLT.out PNE.out), Result.andThen_ok, Sem.run_pure]
                              · refine qstep_call 17 (by kernel_rfl) _ _ (by kernel_rfl) (by kernel_rfl) rfl rfl (fun _ A1 W1 inv hnl hall => ⟨wanted_none rfl, #[dV Dk], ?_, ?_⟩)
                                · have h273 : A1.eval (.tmp 273) = dV Dk := inv.get hall 15 273 (by kernel_rfl) (by kernel_rfl) rfl
                                  simp [h273]
                                · refine (rpbytes_any Dk _ HDi.out).mono ?_
                                  rintro e u ⟨v, rfl, hob, hb⟩
                                  exact ⟨v, rfl, (newBytes_of hob).at, hb⟩
                              · refine qstep_scall 9 (by kernel_rfl) _ _ (by kernel_rfl) (by kernel_rfl) rfl rfl (fun _ A1 W1 inv hnl hall => ⟨wanted_none rfl, #[.pointer (some ⟨mp, 0, none⟩), .int .u64 (16 * (x : Int)), A1.eval (.tmp 274)], ?_, ?_⟩)
                                · have h258 : A1.eval (.tmp 258) = .pointer (some ⟨mp, 0, none⟩) := inv.get hall 0 258 (by kernel_rfl) (by kernel_rfl) rfl
                                  have h268 : A1.eval (.tmp 268) = .int .u64 (16 * (x : Int)) := inv.get hall 10 268 (by kernel_rfl) (by kernel_rfl) rfl
                                  simp [h258, h268]
                                · have h274 : (fun v W => BytesAt W v (dB Dk)) (A1.eval (.tmp 274)) W1 := inv.get1 (i := 17) hnl hall 16 274 (by kernel_rfl) (by kernel_rfl) rfl
                                  have hmm := inv.pre1 (j := 17) hnl (List.mem_singleton.2 rfl) (Or.inl rfl)
                                  refine (hmm.wr9 (16 * (x : Int)) _ _ ⟨by omega, by omega⟩ h274 (dB_bytes _) (by rw [dB_length]; decide)).mono ?_
                                  rintro e u ⟨rfl, h1, h2⟩
                                  refine ⟨_, rfl, ?_, h2⟩
                                  rw [show (16 * (x : Int)) = ((16 * x : Nat) : Int) by omega, write10 (by rw [dB_length]; decide) (by rw [dB_length]; omega)] at h1
                                  rw [wrM]
                                  simp only [HX.out, HDk.out]
                                  exact h1
                            · intro listed A1 W1 inv hall
                              have e258 : A1.eval (.tmp 258) = .pointer (some ⟨mp, 0, none⟩) := inv.fin 0 258 (by kernel_rfl) (hall 0 (Nat.lt_of_lt_of_eq (by decide : 0 < 18) (by kernel_rfl))) rfl
                              have e259 : A1.eval (.tmp 259) = .pointer (some ⟨rb, 2, none⟩) := inv.fin 1 259 (by kernel_rfl) (hall 1 (Nat.lt_of_lt_of_eq (by decide : 1 < 18) (by kernel_rfl))) rfl
                              have e260 : A1.eval (.tmp 260) = .int .u64 0 := inv.fin 2 260 (by kernel_rfl) (hall 2 (Nat.lt_of_lt_of_eq (by decide : 2 < 18) (by kernel_rfl))) rfl
                              have e261 : A1.eval (.tmp 261) = .slice (some ⟨pg, po, none⟩) m pz := inv.fin 3 261 (by kernel_rfl) (hall 3 (Nat.lt_of_lt_of_eq (by decide : 3 < 18) (by kernel_rfl))) rfl
                              have e262 : A1.eval (.tmp 262) = .int .i64 (k : Int) := inv.fin 4 262 (by kernel_rfl) (hall 4 (Nat.lt_of_lt_of_eq (by decide : 4 < 18) (by kernel_rfl))) rfl
                              have e263 : A1.eval (.tmp 263) = .pointer (some ⟨pg, po + k * 5, none⟩) := inv.fin 5 263 (by kernel_rfl) (hall 5 (Nat.lt_of_lt_of_eq (by decide : 5 < 18) (by kernel_rfl))) rfl
                              have e264 : A1.eval (.tmp 264) = .pointer (some ⟨pg, po + k * 5, none⟩) := inv.fin 6 264 (by kernel_rfl) (hall 6 (Nat.lt_of_lt_of_eq (by decide : 6 < 18) (by kernel_rfl))) rfl
                              have e265 : A1.eval (.tmp 265) = .int .i64 (x : Int) := inv.fin 7 265 (by kernel_rfl) (hall 7 (Nat.lt_of_lt_of_eq (by decide : 7 < 18) (by kernel_rfl))) rfl
                              have e266 : A1.eval (.tmp 266) = .int .u64 (x : Int) := inv.fin 8 266 (by kernel_rfl) (hall 8 (Nat.lt_of_lt_of_eq (by decide : 8 < 18) (by kernel_rfl))) rfl
                              have e267 : A1.eval (.tmp 267) = .int .u64 (16 * (x : Int)) := inv.fin 9 267 (by kernel_rfl) (hall 9 (Nat.lt_of_lt_of_eq (by decide : 9 < 18) (by kernel_rfl))) rfl
                              have e268 : A1.eval (.tmp 268) = .int .u64 (16 * (x : Int)) := inv.fin 10 268 (by kernel_rfl) (hall 10 (Nat.lt_of_lt_of_eq (by decide : 10 < 18) (by kernel_rfl))) rfl
                              have e269 : A1.eval (.tmp 269) = .slice (some ⟨pg, po, none⟩) m pz := inv.fin 11 269 (by kernel_rfl) (hall 11 (Nat.lt_of_lt_of_eq (by decide : 11 < 18) (by kernel_rfl))) rfl
                              have e270 : A1.eval (.tmp 270) = .int .i64 (k : Int) := inv.fin 12 270 (by kernel_rfl) (hall 12 (Nat.lt_of_lt_of_eq (by decide : 12 < 18) (by kernel_rfl))) rfl
                              have e271 : A1.eval (.tmp 271) = .pointer (some ⟨pg, po + k * 5, none⟩) := inv.fin 13 271 (by kernel_rfl) (hall 13 (Nat.lt_of_lt_of_eq (by decide : 13 < 18) (by kernel_rfl))) rfl
                              have e272 : A1.eval (.tmp 272) = .pointer (some ⟨pg, po + k * 5 + 1, none⟩) := inv.fin 14 272 (by kernel_rfl) (hall 14 (Nat.lt_of_lt_of_eq (by decide : 14 < 18) (by kernel_rfl))) rfl
                              have e273 : A1.eval (.tmp 273) = dV Dk := inv.fin 15 273 (by kernel_rfl) (hall 15 (Nat.lt_of_lt_of_eq (by decide : 15 < 18) (by kernel_rfl))) rfl
                              obtain ⟨v274, e274⟩ : ∃ v, A1.eval (.tmp 274) = v := ⟨_, rfl⟩
                              have p275 : (fun _ Y => MdS w mp ib qb R10 (wrM Z2 (fun k => 16 * (goA (q : Int) k 64).toNat) (fun k => (pckD (q : Int) 64 wrap (d : Int) L k).d) (k + 1)) Y) (A1.eval (.tmp 275)) W1 := inv.fin 17 275 (by kernel_rfl) (hall 17 (Nat.lt_of_lt_of_eq (by decide : 17 < 18) (by kernel_rfl))) rfl
                              obtain ⟨v275, e275⟩ : ∃ v, A1.eval (.tmp 275) = v := ⟨_, rfl⟩
                              rw [e275] at p275
                              have HF := inv.frame hall
                              have HS9 := hid_mk inv.s
                              simp only [putEnd, e258, e259, e260, e261, e262, e263, e264, e265, e266, e267, e268, e269, e270, e271, e272, e273, e274, e275, Act.put, List.setIfInBounds_toArray, List.set_cons_succ, List.set_cons_zero] at HF
                              clear e258 e259 e260 e261 e262 e263 e264 e265 e266 e267 e268 e269 e270 e271 e272 e273 e274 e275 inv hall
                              subst HF
                              have HM4 := hid_mk p275
                              have HK4 := hid_mk (hkp.out.trans HS9.out)
                              clear HS9 p275 HM3
                              go_wp2_with fail
                              go_roundw
                              case rel => exact ⟨k + 1, by omega, by simp, HM4, HK4⟩
                              case measure => simp [intOf]; omega
                          · obtain rfl : m = k := by omega
                            obtain ⟨M5, hM5⟩ : ∃ M5, M5 = wrM Z2 (fun k => 16 * (goA (q : Int) k 64).toNat) (fun k => (pckD (q : Int) 64 wrap (d : Int) L k).d) m := ⟨_, rfl⟩
                            obtain ⟨y1, y2, y3, y4⟩ := wb_pk (Z := Z2) (m := m) (L := L) (g := 1024) (c := C2) (p := (q : Int)) (id := (d : Int)) (b := wrap) HZ2.out HS.out HLm.out h64 HM0.out HIn.out (by omega) hq1 HOk.out (by omega) hd1 HRf2.out false
                            rw [← hM5] at hmd y1 y2 y3 y4
                            have HM5l : Hid (M5.length = 12000) := hid_mk (by
                              rw [hM5]
                              exact wrM_length HZ2.out (fun i hi => by
                                have := goA_rng (p := (q : Int)) (n := 64) (k := i) (by omega) hq1 (by omega)
                                show 16 * (goA (q : Int) i 64).toNat + 16 ≤ 12000
                                omega) m (Nat.le_refl _))
                            obtain ⟨V4, hV4⟩ : ∃ V4, V4 = wr := ⟨_, rfl⟩
                            have HMx := hid_mk hmd.out
                            have XRx := hid_mk (hkp.out.at XR3.out XNE.out)
                            have XPx := hid_mk (hkp.out.at XP3.out VNE.out)
                            have CPx : Hid (∀ u, MdS w mp ib qb R10 (M5) u → Calls Tryz.prog 18 #[.pointer (some ⟨mp, 0, none⟩), .agg #[.bool true, .int .i64 64, .int .u64 0, .int .u64 1024, .int .u64 C2], .agg #[.int .i64 (q : Int), .bool wrap], .bool false] u fun e u' => ∃ a z, e = .returned (.tuple #[.agg #[.int .i64 (d : Int), .int .i64 ((m : Nat) : Int), .slice a m z], .int .i64 0]) ∧ SegsAt u' (.slice a m z) L ∧ Below u.heap.size u u') := hid_mk (fun u hmm => hmm.packed true 64 0 1024 C2 (q : Int) wrap false (d : Int) m 0 L m (by decide) (by decide) HC65.out y3 y4 y1 (sameS_iff.2 y2) HLm.out)
                            rw [← hV4] at HMx XRx XPx ⊢
                            clear hV4 hM5 y1 y2 y3 y4 hmd hkp hlt hk HPK PLT PNE XR3 XP3 HM3
                            have HPT := hid_mk (fun (u : World) (g : SegsAt u (.slice va m vc) L) => bdptable (.slice va m vc) L u g HS.out (by rw [HLm.out]; omega))
                            rw [HM0.out] at HPT
                            have hpon : ponB (q : Int) 64 (d : Int) (m : Int) = true := by
                              unfold ponB
                              rw [HOk.out, okI_iff.2 ⟨by omega, hd1⟩, decide_eq_true (by omega), decide_eq_true (by omega)]
                              rfl
                            have HPO := hid_mk (fun u => bdpone (q : Int) 64 wrap (d : Int) 2800 (m : Int) u ⟨by omega, by omega⟩ (by decide) ⟨by omega, by omega⟩ (by decide) ⟨by omega, by omega⟩)
                            rw [show ponE (q : Int) 64 (d : Int) (m : Int) = 0 from if_pos hpon, show ponP (q : Int) 64 wrap (d : Int) 2800 (m : Int) = ⟨(q : Int), ⟨2800, 16 * (m : Int), (d : Int), (markN 4 wrap false : Nat)⟩⟩ from if_pos hpon] at HPO
                            clear hpon
                            obtain ⟨r0, r1, r2, r3, r4, r5, _⟩ := cells5 XRx.out
                            obtain ⟨q2, q0, q1⟩ := cells2 XPx.out
                            go_wp2_with fail
                            refine (CPx.out _ HMx.out).mono ?_
                            rintro e w13 ⟨ua, uz, rfl, hq, hb⟩
                            have hbx := below_box w13 (.cells #[.int .i64 (d : Int), .int .i64 (m : Int), .slice ua m uz] 68)
                            have XU := hid_mk (blk_new w13 [.int .i64 (d : Int), .int .i64 (m : Int), .slice ua m uz] 68)
                            have QU := hid_mk (hq.below hbx)
                            replace HMx := hid_mk ((HMx.out.below hb).below hbx)
                            replace XRx := hid_mk ((XRx.out.below hb).below hbx)
                            replace XPx := hid_mk ((XPx.out.below hb).below hbx)
                            obtain ⟨ub, hub⟩ : ∃ ub, ub = w13.heap.size := ⟨_, rfl⟩
                            obtain ⟨V5, hV5⟩ : ∃ V5, V5 = w13.alloc (.cells #[.int .i64 (d : Int), .int .i64 (m : Int), .slice ua m uz] 68) := ⟨_, rfl⟩
                            clear hq hb hbx r0 r1 r2 r3 r4 r5 q2 q0 q1 CPx
                            go_upto_region 43 with fail
                            rw [← hub, ← hV5]
                            rw [← hV5] at XU QU HMx XRx XPx
                            rw [← hub] at XU
                            clear hub hV5
                            go_wp2_with fail
                            refine (HPT.out _ (QV.out.below HMx.out.old)).mono ?_
                            rintro e w14 ⟨bx, rfl, hbr, hb⟩
                            have HBx := hid_mk hbr
                            replace HMx := hid_mk (HMx.out.below hb)
                            replace XRx := hid_mk (XRx.out.below hb)
                            replace XPx := hid_mk (XPx.out.below hb)
                            replace XU := hid_mk (XU.out.below hb)
                            replace QU := hid_mk (QU.out.below hb)
                            clear hbr hb HPT
                            obtain ⟨q2, q0, q1⟩ := cells2 XPx.out
                            go_wp2_with fail
                            refine (HPO.out _).mono ?_
                            rintro e w15 ⟨rfl, hb⟩
                            have hbx := below_box w15 (.cells #[.int .i64 (q : Int), .int .u64 2800, .int .u32 (16 * (m : Int)), .int .u16 (d : Int), .int .u16 ((markN 4 wrap false : Nat) : Int)] 65)
                            have XO := hid_mk (blk_new w15 [.int .i64 (q : Int), .int .u64 2800, .int .u32 (16 * (m : Int)), .int .u16 (d : Int), .int .u16 ((markN 4 wrap false : Nat) : Int)] 65)
                            replace HBx := hid_mk ((HBx.out.below hb).below hbx)
                            replace HMx := hid_mk ((HMx.out.below hb).below hbx)
                            replace XRx := hid_mk ((XRx.out.below hb).below hbx)
                            replace XPx := hid_mk ((XPx.out.below hb).below hbx)
                            replace XU := hid_mk ((XU.out.below hb).below hbx)
                            replace QU := hid_mk ((QU.out.below hb).below hbx)
                            clear hb hbx q2 q0 q1 HPO
                            obtain ⟨xb, hxb⟩ : ∃ xb, xb = w15.heap.size := ⟨_, rfl⟩
                            obtain ⟨V7, hV7⟩ : ∃ V7, V7 = w15.alloc (.cells #[.int .i64 (q : Int), .int .u64 2800, .int .u32 (16 * (m : Int)), .int .u16 (d : Int), .int .u16 ((markN 4 wrap false : Nat) : Int)] 65) := ⟨_, rfl⟩
                            go_upto_region 45 with fail
                            rw [← hxb, ← hV7]
                            rw [← hV7] at XO HBx HMx XRx XPx XU QU
                            rw [← hxb] at XO
                            clear hxb hV7
                            have hsl := (stb10 HM0.out).2
                            rw [HLm.out] at hsl
                            have hsb : isBytes (ptbB L) := by
                              unfold ptbB
                              split
                              · exact tabB_bytes _
                              · exact fun x hx => by cases hx
                            have HSB := hid_mk hsb
                            have HSL := hid_mk hsl
                            clear hsl hsb
                            go_wp2_with fail
                            refine (HMx.out.wr9 2800 _ _ (by decide) HBx.out.at HSB.out (by rw [HSL.out]; omega)).mono ?_
                            rintro e V8 ⟨rfl, h1, h2⟩
                            rw [show (2800 : Int) = ((2800 : Nat) : Int) from rfl, write10 (by rw [HSL.out]; omega) (by rw [HSL.out]; omega)] at h1
                            have ONE := hid_mk (HMx.out.not_blk XO.out (by decide))
                            have XNE2 := hid_mk (HMx.out.not_blk XRx.out (by decide))
                            have VNE2 := hid_mk (HMx.out.not_blk XPx.out (by decide))
                            have UNE := hid_mk (HMx.out.not_blk XU.out (by decide))
                            replace XO := hid_mk (h2.at XO.out ONE.out)
                            replace XRx := hid_mk (h2.at XRx.out XNE2.out)
                            replace XPx := hid_mk (h2.at XPx.out VNE2.out)
                            replace XU := hid_mk (h2.at XU.out UNE.out)
                            replace QU := hid_mk (segs_chg h2 HMx.out QU.out)
                            replace HMx := hid_mk h1
                            clear h1 h2 HBx XNE VNE
                            have XNE := XNE2
                            have hmk := markN4_lt wrap
                            have HDi : Hid (isDsc ⟨2800, 16 * (m : Int), (d : Int), ((markN 4 wrap false : Nat) : Int)⟩) := hid_mk ⟨⟨by simp only; omega, by simp only; omega⟩, ⟨by simp only; omega, by simp only; omega⟩, ⟨by simp only; omega, by simp only; omega⟩, ⟨by simp only; omega, by simp only; omega⟩⟩
                            obtain ⟨x, hx⟩ : ∃ x, q = x := ⟨_, rfl⟩
                            obtain ⟨Dk, hDk⟩ : ∃ D : Dsc, D = ⟨2800, 16 * (m : Int), (d : Int), ((markN 4 wrap false : Nat) : Int)⟩ := ⟨_, rfl⟩
                            have hx64 : x < 64 := by omega
                            have hv1 : IntKind.u64.wrap (x : Int) = (x : Int) := IntWalk.u64_in _ (by omega)
                            have hv2 : IntKind.u64.wrap (16 * (x : Int)) = 16 * (x : Int) := IntWalk.u64_in _ (by omega)
                            have XO2 : Hid (BlkAt V8 xb [.int .i64 (x : Int), .int .u64 Dk.a, .int .u32 Dk.l, .int .u16 Dk.f, .int .u16 Dk.n] 65) := hid_mk (by rw [hDk, ← hx]; exact XO.out)
                            rw [← hDk] at HDi
                            have HX := hid_mk hx
                            have HDk := hid_mk hDk
                            replace XO := XO2
                            clear hx hDk XO2 hmk
                            go_wp2_with fail
                            refine wp_region_outl3 0 [(11, Chg (· = ib))] [(10, 11)] [(11, MdS w mp ib qb R10 (put M5 2800 (ptbB L)))]
                                [(fun v _ => v = .pointer (some ⟨mp, 0, none⟩)),
                                (fun v _ => v = .pointer (some ⟨rb, 2, none⟩)),
                                (fun v _ => v = .int .u64 0),
                                (fun v _ => v = .pointer (some ⟨xb, 0, none⟩)),
                                (fun v _ => v = .int .i64 (x : Int)),
                                (fun v _ => v = .int .u64 (x : Int)),
                                (fun v _ => v = .int .u64 (16 * (x : Int))),
                                (fun v _ => v = .int .u64 (16 * (x : Int))),
                                (fun v _ => v = .pointer (some ⟨xb, 1, none⟩)),
                                (fun v _ => v = dV Dk),
                                (fun v Y => BytesAt Y v (dB Dk)),
                                (fun _ Y => MdS w mp ib qb R10 (put (put M5 2800 (ptbB L)) (16 * x) (dB Dk)) Y)]
                                (Chg (· = ib) V8) (by kernel_rfl) (by kernel_rfl) (by kernel_rfl) ?_ (fun u u' hb h => h.trans (Chg.of_below hb)) (Chg.of_below (Below.refl _ _).drew) ?_ ?_ ?_ ?_ ?_
                            · refine And.intro (up_eq _) ?_
                              refine And.intro (up_eq _) ?_
                              refine And.intro (up_eq _) ?_
                              refine And.intro (up_eq _) ?_
                              refine And.intro (up_eq _) ?_
                              refine And.intro (up_eq _) ?_
                              refine And.intro (up_eq _) ?_
                              refine And.intro (up_eq _) ?_
                              refine And.intro (up_eq _) ?_
                              refine And.intro (up_eq _) ?_
                              refine And.intro (fun _ _ _ hb h => h.below hb) ?_
                              refine And.intro (fun _ _ _ hb h => h.below hb) ?_
                              trivial
                            · refine And.intro (And.intro (fun u u' hb h => h.below hb) (fun p hp hne u u' ht h => absurd (by rw [List.mem_singleton] at hp; rw [hp]) hne)) ?_
                              trivial
                            · refine And.intro (HMx.out.below (Below.refl _ _).drew) ?_
                              trivial
                            · refine And.intro (And.intro ?_ (fun u u' hk h => h.trans hk)) ?_
                              · refine And.intro (fun _ _ _ => ch_eq _ _) ?_
                                refine And.intro (fun _ _ _ => ch_eq _ _) ?_
                                refine And.intro (fun _ _ _ => ch_eq _ _) ?_
                                refine And.intro (fun _ _ _ => ch_eq _ _) ?_
                                refine And.intro (fun _ _ _ => ch_eq _ _) ?_
                                refine And.intro (fun _ _ _ => ch_eq _ _) ?_
                                refine And.intro (fun _ _ _ => ch_eq _ _) ?_
                                refine And.intro (fun _ _ _ => ch_eq _ _) ?_
                                refine And.intro (fun _ _ _ => ch_eq _ _) ?_
                                refine And.intro (fun _ _ _ => ch_eq _ _) ?_
                                refine And.intro (fun _ h _ => absurd rfl h) ?_
                                refine And.intro (fun h _ _ => absurd rfl h) ?_
                                trivial
                              trivial
                            · refine And.intro ?_ (And.intro ?_ (And.intro ?_ (And.intro ?_ (And.intro ?_ (And.intro ?_ (And.intro ?_ (And.intro ?_ (And.intro ?_ (And.intro ?_ (And.intro ?_ (And.intro ?_ (True.intro))))))))))))
                              · refine qstep_val (.pointer (some ⟨mp, 0, none⟩)) (by kernel_rfl) (by kernel_rfl) rfl (fun _ A1 W1 inv hnl hall => ⟨wanted_none rfl, ?_, rfl⟩)
                                have h12 : A1.eval (.tmp 12) = .pointer (some ⟨mp, 0, none⟩) := (inv.base 12 (by kernel_rfl)).trans rfl
                                simp only [execOp, h12, Sem.run_pure]
                              · refine qstep_val (.pointer (some ⟨rb, 2, none⟩)) (by kernel_rfl) (by kernel_rfl) rfl (fun _ A1 W1 inv hnl hall => ⟨wanted_none rfl, ?_, rfl⟩)
                                have h14 : A1.eval (.tmp 14) = .pointer (some ⟨rb, 0, none⟩) := (inv.base 14 (by kernel_rfl)).trans rfl
                                simp only [execOp, h14]
                                simp [go_sem]
                              · refine qstep_val (.int .u64 0) (by kernel_rfl) (by kernel_rfl) rfl (fun _ A1 W1 inv hnl hall => ⟨wanted_none rfl, ?_, rfl⟩)
                                have h300 : A1.eval (.tmp 300) = .pointer (some ⟨rb, 2, none⟩) := inv.get hall 1 300 (by kernel_rfl) (by kernel_rfl) rfl
                                have gg := (inv.s.at XRx.out XNE.out).cell 2
                                simp at gg
                                simp only [execOp, h300]
                                simp [go_sem, gg]
                              · refine qstep_val (.pointer (some ⟨xb, 0, none⟩)) (by kernel_rfl) (by kernel_rfl) rfl (fun _ A1 W1 inv hnl hall => ⟨wanted_none rfl, ?_, rfl⟩)
                                have h36 : A1.eval (.tmp 36) = .pointer (some ⟨xb, 0, none⟩) := (inv.base 36 (by kernel_rfl)).trans rfl
                                simp only [execOp, h36]
                                simp [go_sem]
                              · refine qstep_val (.int .i64 (x : Int)) (by kernel_rfl) (by kernel_rfl) rfl (fun _ A1 W1 inv hnl hall => ⟨wanted_none rfl, ?_, rfl⟩)
                                have h302 : A1.eval (.tmp 302) = .pointer (some ⟨xb, 0, none⟩) := inv.get hall 3 302 (by kernel_rfl) (by kernel_rfl) rfl
                                have gg := (at5_box (x := ⟨(x : Int), Dk⟩) (inv.s.at XO.out ONE.out)).1
                                simp only at gg
                                simp only [execOp, h302]
                                simp [go_sem, gg]
                              · refine qstep_val (.int .u64 (x : Int)) (by kernel_rfl) (by kernel_rfl) rfl (fun _ A1 W1 inv hnl hall => ⟨wanted_none rfl, ?_, rfl⟩)
                                have h303 : A1.eval (.tmp 303) = .int .i64 (x : Int) := inv.get hall 4 303 (by kernel_rfl) (by kernel_rfl) rfl
                                simp only [execOp, h303]
                                simp [go_sem, hv1]
                              · refine qstep_val (.int .u64 (16 * (x : Int))) (by kernel_rfl) (by kernel_rfl) rfl (fun _ A1 W1 inv hnl hall => ⟨wanted_none rfl, ?_, rfl⟩)
                                have h304 : A1.eval (.tmp 304) = .int .u64 (x : Int) := inv.get hall 5 304 (by kernel_rfl) (by kernel_rfl) rfl
                                simp only [execOp, h304, eval_c]
                                simp [go_sem, hv2]
                              · refine qstep_val (.int .u64 (16 * (x : Int))) (by kernel_rfl) (by kernel_rfl) rfl (fun _ A1 W1 inv hnl hall => ⟨wanted_none rfl, ?_, rfl⟩)
                                have h301 : A1.eval (.tmp 301) = .int .u64 0 := inv.get hall 2 301 (by kernel_rfl) (by kernel_rfl) rfl
                                have h305 : A1.eval (.tmp 305) = .int .u64 (16 * (x : Int)) := inv.get hall 6 305 (by kernel_rfl) (by kernel_rfl) rfl
                                simp only [execOp, h301, h305]
                                simp [go_sem, hv2]
                              · refine qstep_val (.pointer (some ⟨xb, 1, none⟩)) (by kernel_rfl) (by kernel_rfl) rfl (fun _ A1 W1 inv hnl hall => ⟨wanted_none rfl, ?_, rfl⟩)
                                have h36 : A1.eval (.tmp 36) = .pointer (some ⟨xb, 0, none⟩) := (inv.base 36 (by kernel_rfl)).trans rfl
                                simp only [execOp, h36]
                                simp [go_sem]
                              · refine qstep_val (dV Dk) (by kernel_rfl) (by kernel_rfl) rfl (fun _ A1 W1 inv hnl hall => ⟨wanted_none rfl, ?_, rfl⟩)
                                have h307 : A1.eval (.tmp 307) = .pointer (some ⟨xb, 1, none⟩) := inv.get hall 8 307 (by kernel_rfl) (by kernel_rfl) rfl
                                have gl := loadP5 (at5_box (x := ⟨(x : Int), Dk⟩) (inv.s.at XO.out ONE.out))
                                rw [Nat.zero_add] at gl
                                simp only [execOp, h307, Sem.run_bind, gl, Result.andThen_ok, Sem.run_pure]
                              · refine qstep_call 17 (by kernel_rfl) _ _ (by kernel_rfl) (by kernel_rfl) rfl rfl (fun _ A1 W1 inv hnl hall => ⟨wanted_none rfl, #[dV Dk], ?_, ?_⟩)
                                · have h308 : A1.eval (.tmp 308) = dV Dk := inv.get hall 9 308 (by kernel_rfl) (by kernel_rfl) rfl
                                  simp [h308]
                                · refine (rpbytes_any Dk _ HDi.out).mono ?_
                                  rintro e u ⟨v, rfl, hob, hb⟩
                                  exact ⟨v, rfl, (newBytes_of hob).at, hb⟩
                              · refine qstep_scall 9 (by kernel_rfl) _ _ (by kernel_rfl) (by kernel_rfl) rfl rfl (fun _ A1 W1 inv hnl hall => ⟨wanted_none rfl, #[.pointer (some ⟨mp, 0, none⟩), .int .u64 (16 * (x : Int)), A1.eval (.tmp 309)], ?_, ?_⟩)
                                · have h299 : A1.eval (.tmp 299) = .pointer (some ⟨mp, 0, none⟩) := inv.get hall 0 299 (by kernel_rfl) (by kernel_rfl) rfl
                                  have h306 : A1.eval (.tmp 306) = .int .u64 (16 * (x : Int)) := inv.get hall 7 306 (by kernel_rfl) (by kernel_rfl) rfl
                                  simp [h299, h306]
                                · have h309 : (fun v Y => BytesAt Y v (dB Dk)) (A1.eval (.tmp 309)) W1 := inv.get1 (i := 11) hnl hall 10 309 (by kernel_rfl) (by kernel_rfl) rfl
                                  have hmm := inv.pre1 (j := 11) hnl (List.mem_singleton.2 rfl) (Or.inl rfl)
                                  refine (hmm.wr9 (16 * (x : Int)) _ _ ⟨by omega, by omega⟩ h309 (dB_bytes _) (by rw [dB_length]; decide)).mono ?_
                                  rintro e u ⟨rfl, h1, h2⟩
                                  refine ⟨_, rfl, ?_, h2⟩
                                  rw [show (16 * (x : Int)) = ((16 * x : Nat) : Int) by omega, write10 (by rw [dB_length]; decide) (by rw [dB_length]; omega)] at h1
                                  exact h1
                            · intro listed A1 W1 inv hall
                              have e299 : A1.eval (.tmp 299) = .pointer (some ⟨mp, 0, none⟩) := inv.fin 0 299 (by kernel_rfl) (hall 0 (Nat.lt_of_lt_of_eq (by decide : 0 < 12) (by kernel_rfl))) rfl
                              have e300 : A1.eval (.tmp 300) = .pointer (some ⟨rb, 2, none⟩) := inv.fin 1 300 (by kernel_rfl) (hall 1 (Nat.lt_of_lt_of_eq (by decide : 1 < 12) (by kernel_rfl))) rfl
                              have e301 : A1.eval (.tmp 301) = .int .u64 0 := inv.fin 2 301 (by kernel_rfl) (hall 2 (Nat.lt_of_lt_of_eq (by decide : 2 < 12) (by kernel_rfl))) rfl
                              have e302 : A1.eval (.tmp 302) = .pointer (some ⟨xb, 0, none⟩) := inv.fin 3 302 (by kernel_rfl) (hall 3 (Nat.lt_of_lt_of_eq (by decide : 3 < 12) (by kernel_rfl))) rfl
                              have e303 : A1.eval (.tmp 303) = .int .i64 (x : Int) := inv.fin 4 303 (by kernel_rfl) (hall 4 (Nat.lt_of_lt_of_eq (by decide : 4 < 12) (by kernel_rfl))) rfl
                              have e304 : A1.eval (.tmp 304) = .int .u64 (x : Int) := inv.fin 5 304 (by kernel_rfl) (hall 5 (Nat.lt_of_lt_of_eq (by decide : 5 < 12) (by kernel_rfl))) rfl
                              have e305 : A1.eval (.tmp 305) = .int .u64 (16 * (x : Int)) := inv.fin 6 305 (by kernel_rfl) (hall 6 (Nat.lt_of_lt_of_eq (by decide : 6 < 12) (by kernel_rfl))) rfl
                              have e306 : A1.eval (.tmp 306) = .int .u64 (16 * (x : Int)) := inv.fin 7 306 (by kernel_rfl) (hall 7 (Nat.lt_of_lt_of_eq (by decide : 7 < 12) (by kernel_rfl))) rfl
                              have e307 : A1.eval (.tmp 307) = .pointer (some ⟨xb, 1, none⟩) := inv.fin 8 307 (by kernel_rfl) (hall 8 (Nat.lt_of_lt_of_eq (by decide : 8 < 12) (by kernel_rfl))) rfl
                              have e308 : A1.eval (.tmp 308) = dV Dk := inv.fin 9 308 (by kernel_rfl) (hall 9 (Nat.lt_of_lt_of_eq (by decide : 9 < 12) (by kernel_rfl))) rfl
                              obtain ⟨v309, e309⟩ : ∃ v, A1.eval (.tmp 309) = v := ⟨_, rfl⟩
                              have p310 : (fun _ Y => MdS w mp ib qb R10 (put (put M5 2800 (ptbB L)) (16 * x) (dB Dk)) Y) (A1.eval (.tmp 310)) W1 := inv.fin 11 310 (by kernel_rfl) (hall 11 (Nat.lt_of_lt_of_eq (by decide : 11 < 12) (by kernel_rfl))) rfl
                              obtain ⟨v310, e310⟩ : ∃ v, A1.eval (.tmp 310) = v := ⟨_, rfl⟩
                              rw [e310] at p310
                              have HF := inv.frame hall
                              have HS9 := hid_mk inv.s
                              simp only [putEnd, e299, e300, e301, e302, e303, e304, e305, e306, e307, e308, e309, e310, Act.put, List.setIfInBounds_toArray, List.set_cons_succ, List.set_cons_zero] at HF
                              clear e299 e300 e301 e302 e303 e304 e305 e306 e307 e308 e309 e310 inv hall
                              subst HF
                              have hch := HS9.out
                              have hmm := p310
                              obtain ⟨V9, hV9⟩ : ∃ V9, V9 = W1 := ⟨_, rfl⟩
                              rw [← hV9] at hch hmm ⊢
                              replace XRx := hid_mk (hch.at XRx.out XNE.out)
                              replace XPx := hid_mk (hch.at XPx.out VNE2.out)
                              replace XU := hid_mk (hch.at XU.out UNE.out)
                              replace QU := hid_mk (segs_chg hch HMx.out QU.out)
                              replace HMx := hid_mk hmm
                              clear hV9 HS9 p310 hch hmm XO ONE
                              obtain ⟨⟨z1, z2, z3, z4⟩, z5⟩ := wb_pt (Z := M5) (m := m) (L := L) (g := 1024) (c := C2) (id := (d : Int)) (b := wrap) HM5l.out HS.out HLm.out h64 HM0.out HIn.out (q := x) hx64 (by rw [← HX.out]; exact HOk.out) (by omega) hd1 HRf2.out
                              rw [← HDk.out] at z1 z2 z3 z4 z5
                              obtain ⟨M6, hM6⟩ : ∃ M6, M6 = put (put M5 2800 (ptbB L)) (16 * x) (dB Dk) := ⟨_, rfl⟩
                              rw [← hM6] at HMx z1 z2 z3 z4 z5
                              rw [← HX.out] at z1 z2 z3 z4 z5
                              have z6 : wpL R10 M6 true ((64 : Nat) : Int) 0 1024 C2 (q : Int) false = [] := by
                                unfold wpL
                                rw [z5, if_neg (by decide)]
                              have z7 : wpI R10 M6 true ((64 : Nat) : Int) 0 1024 C2 (q : Int) false = 0 := by
                                unfold wpI
                                rw [z5, if_neg (by decide)]
                              have z8 : wpC R10 M6 true ((64 : Nat) : Int) 0 1024 C2 (q : Int) false = 0 := by
                                unfold wpC
                                rw [z5, if_neg (by decide)]
                              have CPx : Hid (∀ u, MdS w mp ib qb R10 (M6) u → Calls Tryz.prog 18 #[.pointer (some ⟨mp, 0, none⟩), .agg #[.bool true, .int .i64 64, .int .u64 0, .int .u64 1024, .int .u64 C2], .agg #[.int .i64 (q : Int), .bool wrap], .bool true] u fun e u' => ∃ a z, e = .returned (.tuple #[.agg #[.int .i64 (d : Int), .int .i64 1, .slice a m z], .int .i64 0]) ∧ SegsAt u' (.slice a m z) L ∧ Below u.heap.size u u') := hid_mk (fun u hmm => hmm.packed true 64 0 1024 C2 (q : Int) wrap true (d : Int) 1 0 L m (by decide) (by decide) HC65.out z3 z4 z1 (sameS_iff.2 z2) HLm.out)
                              have CPt := CPx
                              clear CPx
                              have CPx : Hid (∀ u, MdS w mp ib qb R10 (M6) u → Calls Tryz.prog 18 #[.pointer (some ⟨mp, 0, none⟩), .agg #[.bool true, .int .i64 64, .int .u64 0, .int .u64 1024, .int .u64 C2], .agg #[.int .i64 (q : Int), .bool wrap], .bool false] u fun e u' => ∃ a z, e = .returned (.tuple #[.agg #[.int .i64 0, .int .i64 0, .slice a 0 z], .int .i64 4]) ∧ SegsAt u' (.slice a 0 z) [] ∧ Below u.heap.size u u') := hid_mk (fun u hmm => hmm.packed true 64 0 1024 C2 (q : Int) wrap false 0 0 4 [] 0 (by decide) (by decide) HC65.out z7 z8 z5 (sameS_iff.2 z6) rfl)
                              clear z1 z2 z3 z4 z5 z6 z7 z8 hM6
                              have HLk := hid_mk (show L.length ≤ 1000 by rw [HLm.out]; omega)
                              obtain ⟨r0, r1, r2, r3, r4, r5, _⟩ := cells5 XRx.out
                              obtain ⟨q2, q0, q1⟩ := cells2 XPx.out
                              go_wp2_with fail
                              refine (CPt.out _ HMx.out).mono ?_
                              rintro e w16 ⟨va2, vz2, rfl, hq, hb⟩
                              have hbx := below_box w16 (.cells #[.int .i64 (d : Int), .int .i64 1, .slice va2 m vz2] 68)
                              have XV := hid_mk (blk_new w16 [.int .i64 (d : Int), .int .i64 1, .slice va2 m vz2] 68)
                              have QW := hid_mk (hq.below hbx)
                              replace HMx := hid_mk ((HMx.out.below hb).below hbx)
                              replace XRx := hid_mk ((XRx.out.below hb).below hbx)
                              replace XPx := hid_mk ((XPx.out.below hb).below hbx)
                              replace XU := hid_mk ((XU.out.below hb).below hbx)
                              replace QU := hid_mk ((QU.out.below hb).below hbx)
                              obtain ⟨vb, hvb⟩ : ∃ vb, vb = w16.heap.size := ⟨_, rfl⟩
                              obtain ⟨V10, hV10⟩ : ∃ V10, V10 = w16.alloc (.cells #[.int .i64 (d : Int), .int .i64 1, .slice va2 m vz2] 68) := ⟨_, rfl⟩
                              clear hq hb hbx r0 r1 r2 r3 r4 r5 q2 q0 q1 CPt
                              go_upto_region 48 with fail
                              rw [← hvb, ← hV10]
                              rw [← hV10] at XV QW HMx XRx XPx XU QU
                              rw [← hvb] at XV
                              clear hvb hV10
                              obtain ⟨r0, r1, r2, r3, r4, r5, _⟩ := cells5 XRx.out
                              obtain ⟨q2, q0, q1⟩ := cells2 XPx.out
                              go_wp2_with fail
                              refine (CPx.out _ HMx.out).mono ?_
                              rintro e w17 ⟨na, nz, rfl, hq, hb⟩
                              replace HMx := hid_mk (HMx.out.below hb)
                              replace XU := hid_mk (XU.out.below hb)
                              replace QU := hid_mk (QU.out.below hb)
                              replace XV := hid_mk (XV.out.below hb)
                              replace QW := hid_mk (QW.out.below hb)
                              clear hq hb r0 r1 r2 r3 r4 r5 q2 q0 q1 CPx XRx XPx
                              obtain ⟨u0, u1, u2, u3⟩ := cells3 XU.out
                              obtain ⟨v0, v1, v2, v3⟩ := cells3 XV.out
                              go_wp2_with fail
                              refine (ktaken (d : Int) (m : Int) (d : Int) (m : Int) _ _ L L _ QU.out (QV.out.below HMx.out.old) HLk.out).mono ?_
                              rintro e w18 ⟨he, hb⟩
                              rw [tkB_self] at he
                              subst he
                              replace HMx := hid_mk (HMx.out.below hb)
                              replace XV := hid_mk (XV.out.below hb)
                              replace QW := hid_mk (QW.out.below hb)
                              clear hb u0 u1 u2 u3 v0 v1 v2 v3
                              obtain ⟨v0, v1, v2, v3⟩ := cells3 XV.out
                              go_wp2_with fail
                              refine (ktaken (d : Int) 1 (d : Int) 1 _ _ L L _ QW.out (QV.out.below HMx.out.old) HLk.out).mono ?_
                              rintro e w19 ⟨he, hb⟩
                              rw [tkB_self] at he
                              subst he
                              have HBe := hid_mk (HMx.out.below hb).old
                              clear hb v0 v1 v2 v3
                              go_wp2_with fail
                              go_ret
                              exact ⟨rfl, HBe.out⟩

set_option maxRecDepth 100000 in
theorem walk_long (w : World) (va : Option Addr) (vc n : Nat) (first id_ at_ : Int) (wrap : Bool) (h : 100 < n) :
    Calls Tryz.prog 3 #[.slice va n vc, .int .i64 first, .int .i64 id_, .int .i64 at_, .bool wrap] w fun e w' => e = .returned (.bool true) ∧ Below w.heap.size w w' := by
  have hi : decide (100 < (n : Int)) = true := decide_eq_true (by omega)
  go_enter Tryz.func3, Tryz.ntmps3
  go_wp2_with fail
  refine (lives10_any _).mono ?_
  rintro e w1 ⟨rfl, hb⟩
  go_wp2_with fail
  go_ret
  exact ⟨rfl, hb⟩
set_option maxRecDepth 100000 in
theorem walk_bad (w : World) (va : Option Addr) (vc : Nat) (L : List Sg) (hv : SegsAt w (.slice va L.length vc) L) (hs : isSgs L) (hl : L.length ≤ 100) (hm : mayE L ≠ 0) (first id_ at_ : Int) (wrap : Bool) :
    Calls Tryz.prog 3 #[.slice va L.length vc, .int .i64 first, .int .i64 id_, .int .i64 at_, .bool wrap] w fun e w' => e = .returned (.bool true) ∧ Below w.heap.size w w' := by
  have hi : decide (100 < (L.length : Int)) = false := decide_eq_false (by omega)
  have HN := hid_mk (fun (u : World) (g : SegsAt u (.slice va L.length vc) L) => bdneeds _ L true u g hs (by omega))
  have hn1 : neeN L true = 0 := by
    unfold neeN
    rw [if_neg hm]
  rw [hn1] at HN
  have QV := hid_mk hv
  clear hv hs hm hn1
  go_enter Tryz.func3, Tryz.ntmps3
  go_wp2_with fail
  refine (lives10_any _).mono ?_
  rintro e w1 ⟨rfl, hb⟩
  have HB := hid_mk hb
  clear hb
  go_wp2_with fail
  refine (HN.out _ (QV.out.below HB.out)).mono ?_
  rintro e w2 ⟨rfl, hb⟩
  have HB2 := hid_mk (below_then HB.out hb)
  clear hb
  go_wp2_with fail
  go_ret
  exact ⟨rfl, HB2.out⟩
theorem walk (w : World) (v : Value) (L : List Sg) (hv : SegsAt w v L) (hs : isSgs L) (hl : L.length ≤ maxLen) (first id_ at_ : Int) (wrap : Bool) (w1 : (Lit.int .i64 first).wf = true) (w2 : (Lit.int .i64 id_).wf = true) (w3 : (Lit.int .i64 at_).wf = true) :
    Calls Tryz.prog 3 #[v, .int .i64 first, .int .i64 id_, .int .i64 at_, .bool wrap] w fun e w' => e = .returned (.bool true) ∧ Below w.heap.size w w' := by
  obtain ⟨va, vc, rfl⟩ := hv.len
  by_cases h : 100 < L.length
  · exact walk_long w va vc L.length first id_ at_ wrap h
  · by_cases hm : mayE L = 0
    · exact walk_main w va vc L hv hs hm first id_ at_ wrap
    · exact walk_bad w va vc L hv hs (by omega) hm first id_ at_ wrap

/-! ### the row's frame -/
theorem own : ownKnob Tryz.prog.godebug = none := by kernel_rfl
theorem laidOut : laidOutB Tryz.prog = true := by kernel_rfl

set_option maxRecDepth 100000 in
theorem lifted (os : Os) (started : os.Started) (H : Type) (enc : TypeId × Value → H) :
    ReturnsInHanded {} Tryz.checked os 3 .any (Rows.walkBackSpec.pre6 enc Tryz.prog Tryz.f3 Rows.walkBackRow.domain false) (Rows.walkBackSpec.post enc Tryz.prog Tryz.f3 false true false false) := by
  refine returnsInHanded_of_change (C := Tryz.checked) own started (by kernel_rfl) Tryz.func3
    (ChangeSpec.witness6 (enc := enc) (C := Tryz.checked) false ⟨#[], #[.slice none 0 0, .int .i64 0, .int .i64 0, .int .i64 0, .bool false], []⟩ 8 (by kernel_rfl) (by kernel_rfl) (by kernel_rfl) (by kernel_rfl)) ?_
  intro W base args ds gs before hval0 hW hcnd _
  have hval : ∀ (j : Nat) t v, Tryz.f3.params[j]? = some t → args[j]? = some v → Value.okWide Tryz.prog W .any base t v := hval0
  have hW' := hW
  obtain ⟨p, q, hA0, hV, rfl, hfz, hnd⟩ := hW
  have hA : DataW.TrodAll enc Tryz.prog W 0 (fun _ => true) true Tryz.f3.params.toList args.toList ds p := hA0
  rw [Tryz.params3] at hA hval
  obtain ⟨v0, vs0, d0, ds0, p0, q0, hargs, rfl, rfl, h0, r0⟩ := trodAll_cons hA
  obtain ⟨v1, vs1, d1, ds1, p1, q1, rfl, rfl, rfl, h1, r1⟩ := trodAll_cons r0
  obtain ⟨v2, vs2, d2, ds2, p2, q2, rfl, rfl, rfl, h2, r2⟩ := trodAll_cons r1
  obtain ⟨v3, vs3, d3, ds3, p3, q3, rfl, rfl, rfl, h3, r3⟩ := trodAll_cons r2
  obtain ⟨v4, vs4, d4, ds4, p4, q4, rfl, rfl, rfl, h4, r4⟩ := trodAll_cons r3
  obtain ⟨rfl, rfl, rfl⟩ := trodAll_nil r4
  obtain rfl : args = #[v0, v1, v2, v3, v4] := by cases args; simp_all
  obtain ⟨rfl, rfl⟩ := trodVars_none hV
  have k0 := h0
  have lt0 : ∀ x ∈ p0, x.block < W.heap.size := by
    obtain ⟨m, hm⟩ := k0
    exact DataW.trod_lt m _ _ _ hm
  have k1 := h1
  have lt1 : ∀ x ∈ p1, x.block < W.heap.size := by
    obtain ⟨m, hm⟩ := k1
    exact DataW.trod_lt m _ _ _ hm
  have k2 := h2
  have lt2 : ∀ x ∈ p2, x.block < W.heap.size := by
    obtain ⟨m, hm⟩ := k2
    exact DataW.trod_lt m _ _ _ hm
  have k3 := h3
  have lt3 : ∀ x ∈ p3, x.block < W.heap.size := by
    obtain ⟨m, hm⟩ := k3
    exact DataW.trod_lt m _ _ _ hm
  have k4 := h4
  have lt4 : ∀ x ∈ p4, x.block < W.heap.size := by
    obtain ⟨m, hm⟩ := k4
    exact DataW.trod_lt m _ _ _ hm
  obtain ⟨l0, hv0, hb0, hm0⟩ := open_segs (hval 0 22 v0 rfl rfl) h0
  obtain ⟨a1, rfl, rfl, rfl, w1⟩ := open_int Tryz.underlying3 (hval 1 3 v1 rfl rfl) h1
  obtain ⟨a2, rfl, rfl, rfl, w2⟩ := open_int Tryz.underlying3 (hval 2 3 v2 rfl rfl) h2
  obtain ⟨a3, rfl, rfl, rfl, w3⟩ := open_int Tryz.underlying3 (hval 3 3 v3 rfl rfl) h3
  obtain ⟨a4, rfl, rfl, rfl⟩ := open_bool Tryz.underlying4 (hval 4 4 v4 rfl rfl) h4
  clear hA0 hval0
  refine (walk W v0 l0 hv0 hb0 hm0 a1 a2 a3 a4 w1 w2 w3).mono fun e W' ⟨he, bel⟩ => ?_
  subst he
  exact ⟨_, rfl, _, _, _, [], _, [], hW', trodAll_mk1 (shut_bool Tryz.underlying4 _), (trodAll_cons_mk (Below.trod laidOut (by kernel_rfl) (of_decide_eq_true (by kernel_rfl)) k0 bel lt0) (trodAll_cons_mk (Below.trod laidOut (by kernel_rfl) (of_decide_eq_true (by kernel_rfl)) k1 bel lt1) (trodAll_cons_mk (Below.trod laidOut (by kernel_rfl) (of_decide_eq_true (by kernel_rfl)) k2 bel lt2) (trodAll_cons_mk (Below.trod laidOut (by kernel_rfl) (of_decide_eq_true (by kernel_rfl)) k3 bel lt3) (trodAll_cons_mk (Below.trod laidOut (by kernel_rfl) (of_decide_eq_true (by kernel_rfl)) k4 bel lt4) trodAll_mk0))))), rfl, bel.frame _, fun h => by cases h⟩

theorem over : Rows.walkBackRow.holds Tryz.pinned (OpenSpec.ofChange Rows.walkBackSpec) :=
  OpenClaim.holds_of_wide 3 Tryz.f3 rfl rfl rfl rfl rfl rfl rfl ⟨rfl, rfl, rfl, rfl, rfl⟩ rfl rfl rfl rfl rfl (by kernel_rfl) Tryz.func3 (by kernel_rfl)
    (of_decide_eq_true (by kernel_rfl)) (by unfold Func.isWrapper; first | (rw [if_pos (by decide +kernel)]; kernel_rfl) | (rw [if_neg (by decide +kernel)]; exact ⟨rfl, rfl⟩))
    (fun os started H enc _ => lifted os started H enc)

/-- THE STATEMENT -/
theorem walkBack_holds : Rows.WalkBackSaid := over
#print axioms walkBack_holds
end Go.Proofs.YtfhhgcgbgmilcaaGreat.walkBack
