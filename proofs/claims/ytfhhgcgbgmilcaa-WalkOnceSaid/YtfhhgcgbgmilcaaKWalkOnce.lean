/-
  PROVED: dumbwaiterlaw10.WalkOnce returns true for every input, and what was in memory stays as it was. Conditions: none.
-/
import Derived.Test.YtfhhgcgbgmilcaaKp43
import Derived.Test.YtfhhgcgbgmilcaaRows
import Derived.WalkKit
import Derived.ProofKit
import Derived.OpenShut
import Derived.ShutString
import Derived.ChangeOld
import Derived.Below
import Derived.Carry
import Derived.Lib.SmallJoins

namespace Go.Proofs.Ytfhhgcgbgmilcaa.walkOnce
open Go.ChangeShapes Go.WideShapes Go.ChangeAt Go.RowKit
set_option linter.unusedVariables false


set_option maxRecDepth 100000 in
set_option maxHeartbeats 4000000 in
theorem walk (w : World) (size head step many back : Int) (circle : Bool) (w0 : (Lit.int .i64 size).wf = true) (w1 : (Lit.int .i64 head).wf = true) (w2 : (Lit.int .i64 step).wf = true) (w3 : (Lit.int .i64 many).wf = true) (w4 : (Lit.int .i64 back).wf = true) :
    Calls Try.prog 6 #[.int .i64 size, .int .i64 head, .int .i64 step, .int .i64 many, .int .i64 back, .bool circle] w fun e w' => e = .returned (.bool true) ∧ Below w.heap.size w w' := by
  clear w0 w1 w2 w3 w4
  obtain ⟨K, hK⟩ := Int.eq_ofNat_of_zero_le (Int.emod_nonneg size (show (6 : Int) ≠ 0 by omega))
  have hK6 : (K : Int) < 6 := by
    have := Int.emod_lt_of_pos size (show (0 : Int) < 6 by omega)
    omega
  obtain ⟨N, hN, hN1, hN2, hNp, p0, hrf⟩ := ring_two (K := K) (by omega)
  obtain ⟨h, hh⟩ := Int.eq_ofNat_of_zero_le (Int.emod_nonneg head (show (N : Int) ≠ 0 by omega))
  have hh1 := Int.emod_lt_of_pos head (show (0 : Int) < N by omega)
  obtain ⟨q, hq⟩ := Int.eq_ofNat_of_zero_le (Int.emod_nonneg step (show (N : Int) ≠ 0 by omega))
  have hq1 := Int.emod_lt_of_pos step (show (0 : Int) < N by omega)
  obtain ⟨m0, hm0⟩ := Int.eq_ofNat_of_zero_le (Int.emod_nonneg many (show (N : Int) ≠ 0 by omega))
  have hm1 := Int.emod_lt_of_pos many (show (0 : Int) < N by omega)
  have HP1 := hid_mk (fun u => pick_any size 6 u (by decide) (by decide))
  have HP2 := hid_mk (fun u => pick_any many (N : Int) u (by omega) (by omega))
  have HP3 := hid_mk (fun u => pick_any step (N : Int) u (by omega) (by omega))
  have HP4 := hid_mk (fun u => pick_any head (N : Int) u (by omega) (by omega))
  rw [hK] at HP1
  rw [hm0] at HP2 hm1
  rw [hq] at HP3 hq1
  rw [hh] at HP4 hh1
  have hwk : IntKind.u64.wrap (K : Int) = (K : Int) := by rw [IntKind.wrap_u64]; omega
  have hmin : min (N : Int) 64 = (N : Int) := by omega
  have hw1 : IntKind.i64.wrap (1 + (m0 : Int)) = ((m0 + 1 : Nat) : Int) := by rw [IntWalk.i64_in _ (by omega)]; omega
  have hw2 : IntKind.i64.wrap (2 * (q : Int)) = 2 * (q : Int) := IntWalk.i64_in _ (by omega)
  have hw3 : IntKind.i64.wrap (2 * (q : Int) + 1) = 2 * (q : Int) + 1 := IntWalk.i64_in _ (by omega)
  obtain ⟨m, hm⟩ : ∃ m, m0 + 1 = m := ⟨_, rfl⟩
  rw [hm] at hw1
  have hmN : m ≤ N := by omega
  obtain ⟨b, hb⟩ := Int.eq_ofNat_of_zero_le (Int.emod_nonneg back (show (m : Int) ≠ 0 by omega))
  have hb1 := Int.emod_lt_of_pos back (show (0 : Int) < m by omega)
  have HP5 := hid_mk (fun u => pick_any back (m : Int) u (by omega) (by omega))
  rw [hb] at HP5 hb1
  have CL0 := hid_mk (fun u => laid10 (N : Int) false (.slice none 0 0) [] u (Or.inl ⟨⟨_, _, rfl, fun _ => rfl⟩, rfl⟩) (fun j hj => by simp at hj) (by simp) p0)
  rw [al16, Int.zero_add, Int.zero_add] at CL0
  have hc0 := cO_rng p0
  obtain ⟨Z, hZ⟩ : ∃ Z, laidM false [] = Z := ⟨_, rfl⟩
  rw [hZ] at CL0
  obtain ⟨G, hG⟩ : ∃ x, 16 * (N : Int) = x := ⟨_, rfl⟩
  obtain ⟨C, hC⟩ : ∃ x, cO false (N : Int) = x := ⟨_, rfl⟩
  rw [hG, hC] at CL0
  rw [hC] at hc0
  have hZl : Z.length = 12000 := by rw [← hZ]; simp [laidM]
  obtain ⟨t, ht⟩ := hNp
  have HO := hid_mk (once_walk (Z := Z) (W := wy h (2 * q + 1) N) (m := m) (b := b) (n := N) (o := circle) hZl (fun i => wy_lt (by omega)) hN2 hmN (by omega) (fun i j hi hj he => by subst ht; exact wy_inj (t := t) (by omega) (by omega) he) G C (by rw [← hG, ← hC]; exact hrf))
  have uG : U64 G := ⟨by omega, by omega⟩
  clear hK hh hq hm0 p0 hb hrf ht hZ hZl
  have HB := hid_mk (Below.refl w.heap.size w)
  go_enter Try.func6, Try.ntmps6
  go_wp2_with fail
  refine (lives10_any _).mono ?_
  rintro e w1 ⟨rfl, hb⟩
  replace HB := hid_mk (below_then HB.out hb)
  clear hb
  go_wp2_with fail
  refine (HP1.out _).mono ?_
  rintro e w2 ⟨rfl, hs⟩
  have hb : Below w1.heap.size w1 w2 := by
    rw [hs]
    exact Below.refl _ _
  clear hs
  replace HB := hid_mk (below_then HB.out hb)
  clear hb
  go_wp2_with fail
  refine (CL0.out _).mono ?_
  rintro e w3 ⟨mp, ib, qb, rp, rfl, hm⟩
  have hbm := HB.out
  have hb := hm.old
  replace HB := hid_mk (below_then HB.out hb)
  have HM := hid_mk ((hm.rebase hbm).md)
  clear hm hb hbm
  have HRb : Hid (w.heap.size ≤ w3.heap.size) := hid_mk HB.out.size
  have hbx := below_box w3 (.cells #[.bool false, .int .i64 (N : Int), .int .u64 0, .int .u64 G, .int .u64 C] 24)
  replace HM := hid_mk (HM.out.below hbx)
  replace HB := hid_mk (below_then HB.out hbx)
  have XR := hid_mk (blk_new w3 [.bool false, .int .i64 (N : Int), .int .u64 0, .int .u64 G, .int .u64 C] 24)
  clear hbx
  go_wp2_with fail
  refine (HP2.out _).mono ?_
  rintro e w4 ⟨rfl, hs⟩
  have hb : Below (w3.alloc (.cells #[.bool false, .int .i64 (N : Int), .int .u64 0, .int .u64 G, .int .u64 C] 24)).heap.size (w3.alloc (.cells #[.bool false, .int .i64 (N : Int), .int .u64 0, .int .u64 G, .int .u64 C] 24)) w4 := by
    rw [hs]
    exact Below.refl _ _
  clear hs
  replace HM := hid_mk (HM.out.below hb)
  replace XR := hid_mk (XR.out.below hb)
  replace HB := hid_mk (below_then HB.out hb)
  clear hb
  obtain ⟨RB, hRB⟩ : ∃ RB, w3.heap.size = RB := ⟨_, rfl⟩
  rw [hRB] at XR HRb ⊢
  clear hRB
  go_wp2_with fail
  refine (HP3.out _).mono ?_
  rintro e w5 ⟨rfl, hs⟩
  have hb : Below w4.heap.size w4 w5 := by
    rw [hs]
    exact Below.refl _ _
  clear hs
  replace HM := hid_mk (HM.out.below hb)
  replace XR := hid_mk (XR.out.below hb)
  replace HB := hid_mk (below_then HB.out hb)
  clear hb
  go_wp2_with fail
  obtain ⟨U, hU⟩ : ∃ U, U = w5 := ⟨_, rfl⟩
  rw [← hU] at XR HM HB
  rw [← hU]
  clear hU
  go_loopw [18, 19] (fun s i wr => ∃ k : Nat, k ≤ m ∧ i = .int .i64 (k : Int) ∧ Hid (OwnI U.heap.size wr s (wyT h q N k)) ∧ Hid (Below U.heap.size U wr)) (fun _ i _ => m - (intOf i).toNat)
  case atStart => exact ⟨0, Nat.zero_le _, rfl, hid_mk (World.ownsRow_nil _ _ _ _), hid_mk (Below.refl _ _)⟩
  case round =>
    obtain ⟨k, hk, rfl, hown, hold⟩ := hrel
    by_cases hlt : k < m
    · have hki : (k : Int) < (m : Int) := by omega
      have hst : wy h (2 * q + 1) N k < N := wy_lt (by omega)
      obtain ⟨v', w', h1, h2, h3⟩ := app_int (wy h (2 * q + 1) N k) hown.out hold.out.size (by rw [wyT_len]; omega)
      obtain ⟨oa, oc, hov⟩ := hown.out.len
      obtain ⟨na, nc, hnv⟩ := h2.len
      rw [← wyT_succ] at h2 hnv
      rw [wyT_len] at hov hnv
      subst hov
      subst hnv
      have hrem := way_int (h := h) (q := q) (n := N) (k := k) (by omega) (by omega) (by omega) (by omega)
      obtain ⟨hm1, hm2, hm3⟩ := hrem
      have HR := hid_mk h1
      have HO := hid_mk h2
      have HB3 := hid_mk (hold.out.trans h3)
      clear h1 h2 h3 hold hown
      go_wp2_with fail
      refine (HP4.out _).mono ?_
      rintro e u ⟨rfl, hs⟩
      subst hs
      go_wp2_with (at_builtin; refine wpList_append_run (v := .slice oa k oc) (u := .slice (some ⟨wr.heap.size, 0, none⟩) 1 1) (v' := .slice na (k + 1) nc) (w' := w') rfl _ _ 72 rfl (by first | rfl | go_simp) (by first | rfl | go_simp) (HR.out _) ?_)
      go_roundw
      case rel => exact ⟨k + 1, by omega, by simp, HO, HB3⟩
      case measure => simp [intOf]; omega
    · obtain rfl : m = k := by omega
      have hmem := HM.out.below hold.out
      have hxr := XR.out.below hold.out
      obtain ⟨g, sc, hsv, hg1, hgc, cur, fr, hgb⟩ := way_row hown.out (by omega)
      subst hsv
      have HM2 : Hid (MdS w mp ib qb R10 (onM Z (wy h (2 * q + 1) N) m b circle 0) wr) := hid_mk hmem
      have HB2 := hid_mk hmem.old
      have XR2 := hid_mk hxr
      obtain ⟨V, hV⟩ : ∃ V, V = wr := ⟨_, rfl⟩
      rw [← hV] at HM2 HB2 XR2 hg1 hgc hgb ⊢
      have HGB := hid_mk hgb
      have HGC := hid_mk hgc
      clear hV hown hold HM XR HB hmem hxr hgb hgc
      go_wp2_with fail
      go_loopw [20, 21] (fun i d wr => ∃ k : Nat, k ≤ m ∧ i = .int .i64 (k : Int) ∧ Hid (MdS w mp ib qb R10 (onM Z (wy h (2 * q + 1) N) m b circle k) wr) ∧ Hid (Kp8 V wr)) (fun i _ _ => m - (intOf i).toNat)
      case atStart => exact ⟨0, Nat.zero_le _, rfl, HM2, hid_mk (Kp8.below (Below.refl _ _))⟩
      case round =>
        obtain ⟨k, hk, rfl, hld, hkp⟩ := hrel
        by_cases hlt : k < m
        · have hki : (k : Int) < (m : Int) := by omega
          have hcb := (hkp.out.row HGB.out (by decide) b).trans (HGC.out b (by omega))
          have hck := (hkp.out.row HGB.out (by decide) k).trans (HGC.out k (by omega))
          have hgl : g < wr.heap.size := Nat.lt_of_lt_of_le hg1 hkp.out.size
          have hwb : wy h (2 * q + 1) N b < 64 := Nat.lt_of_lt_of_le (wy_lt (by omega)) hN2
          have hbi : (b : Int) < (m : Int) := by omega
          have hwr1 : IntKind.u16.wrap ((wy h (2 * q + 1) N b : Nat) : Int) = ((wy h (2 * q + 1) N b : Nat) : Int) := by rw [IntKind.wrap_u16]; omega
          have hwr2 : IntKind.u64.wrap (8000 + (k : Int)) = 8000 + (k : Int) := IntWalk.u64_in _ (by omega)
          have hwr3 : IntKind.i64.wrap (8000 + (k : Int)) = 8000 + (k : Int) := IntWalk.i64_in _ (by omega)
          have hwr4 : IntKind.i64.wrap ((k : Int) + 1) = (k : Int) + 1 := IntWalk.i64_in _ (by omega)
          go_wp2_with fail
          refine (HP5.out _).mono ?_
          rintro e u ⟨rfl, hs⟩
          subst hs
          by_cases hl : k + 1 < m
          · have hli : (k : Int) + 1 < (m : Int) := by omega
            have hcn := (hkp.out.row HGB.out (by decide) (k + 1)).trans (HGC.out (k + 1) (by omega))
            have hwn : wy h (2 * q + 1) N (k + 1) < 64 := Nat.lt_of_lt_of_le (wy_lt (by omega)) hN2
            have hwr5 : IntKind.u16.wrap ((wy h (2 * q + 1) N (k + 1) : Nat) : Int) = ((wy h (2 * q + 1) N (k + 1) : Nat) : Int) := by rw [IntKind.wrap_u16]; omega
            have hti : ((k : Int) + 1).toNat = k + 1 := by omega
            have HDi : Hid (isDsc ⟨8000 + (k : Int), 1, 1, ((wy h (2 * q + 1) N (k + 1) : Nat) : Int)⟩) := hid_mk ⟨⟨by simp only; omega, by simp only; omega⟩, ⟨by simp only; omega, by simp only; omega⟩, ⟨by simp only; omega, by simp only; omega⟩, ⟨by simp only; omega, by simp only; omega⟩⟩
            have HDe : Hid ((⟨8000 + (k : Int), 1, 1, ((wy h (2 * q + 1) N (k + 1) : Nat) : Int)⟩ : Dsc) = onD (wy h (2 * q + 1) N) m b circle k) := hid_mk (by unfold onD; rw [if_pos (.inl hl), if_pos hl])
            go_wp2_with fail
            have HM3 := hid_mk (hld.out.below (below_box wr (.cells #[.int .u64 (8000 + (k : Int)), .int .u32 1, .int .u16 1, .int .u16 ((wy h (2 * q + 1) N (k + 1) : Nat) : Int)] 49)))
            have HK3 := hid_mk (hkp.out.trans (Kp8.below (below_box wr (.cells #[.int .u64 (8000 + (k : Int)), .int .u32 1, .int .u16 1, .int .u16 ((wy h (2 * q + 1) N (k + 1) : Nat) : Int)] 49))))
            have HD3 := hid_mk (blk_new wr [.int .u64 (8000 + (k : Int)), .int .u32 1, .int .u16 1, .int .u16 ((wy h (2 * q + 1) N (k + 1) : Nat) : Int)] 49)
            obtain ⟨U3, hU3⟩ : ∃ U3, U3 = (wr.alloc (.cells #[.int .u64 (8000 + (k : Int)), .int .u32 1, .int .u16 1, .int .u16 ((wy h (2 * q + 1) N (k + 1) : Nat) : Int)] 49)) := ⟨_, rfl⟩
            rw [← hU3] at HM3 HK3 HD3 ⊢
            obtain ⟨db, hdb⟩ : ∃ db, wr.heap.size = db := ⟨_, rfl⟩
            rw [hdb] at HD3 ⊢
            clear hU3 hdb
            have hwk0 : wy h (2 * q + 1) N k < 64 := Nat.lt_of_lt_of_le (wy_lt (by omega)) hN2
            obtain ⟨x, hx⟩ : ∃ x, wy h (2 * q + 1) N k = x := ⟨_, rfl⟩
            have HX := hid_mk hx
            have hxc : V.cell? ⟨g, k, none⟩ = some (.int .i64 (x : Int)) := by rw [← hx]; exact HGC.out k (by omega)
            rw [hx] at hwk0
            have hv1 : IntKind.u64.wrap (x : Int) = (x : Int) := IntWalk.u64_in _ (by omega)
            have hv2 : IntKind.u64.wrap (16 * (x : Int)) = 16 * (x : Int) := IntWalk.u64_in _ (by omega)
            refine wp_region_outl3 0 [(12, Kp8)] [(11, 12)] [(12, MdS w mp ib qb R10 (onM Z (wy h (2 * q + 1) N) m b circle k))]
                [(fun v _ => v = .pointer (some ⟨mp, 0, none⟩)),
                (fun v _ => v = .pointer (some ⟨RB, 2, none⟩)),
                (fun v _ => v = .int .u64 0),
                (fun v _ => v = .slice (some ⟨g, 0, none⟩) m sc),
                (fun v _ => v = .int .i64 (k : Int)),
                (fun v _ => v = .pointer (some ⟨g, k, none⟩)),
                (fun v _ => v = .int .i64 (x : Int)),
                (fun v _ => v = .int .u64 (x : Int)),
                (fun v _ => v = .int .u64 (16 * (x : Int))),
                (fun v _ => v = .int .u64 (16 * (x : Int))),
                (fun v _ => v = dV ⟨8000 + (k : Int), 1, 1, ((wy h (2 * q + 1) N (k + 1) : Nat) : Int)⟩),
                (fun v W => BytesAt W v (dB ⟨8000 + (k : Int), 1, 1, ((wy h (2 * q + 1) N (k + 1) : Nat) : Int)⟩)),
                (fun _ W => MdS w mp ib qb R10 (onM Z (wy h (2 * q + 1) N) m b circle (k + 1)) W)]
                (Kp8 U3) (by kernel_rfl) (by kernel_rfl) (by kernel_rfl) ?_ (fun u u' hb h => h.trans (Kp8.below hb)) (Kp8.below (Below.refl _ _).drew) ?_ ?_ ?_ ?_ ?_
            · refine And.intro (up_eq _) ?_
              refine And.intro (up_eq _) ?_
              refine And.intro (up_eq _) ?_
              refine And.intro (up_eq _) ?_
              refine And.intro (up_eq _) ?_
              refine And.intro (up_eq _) ?_
              refine And.intro (up_eq _) ?_
              refine And.intro (up_eq _) ?_
              refine And.intro (up_eq _) ?_
              refine And.intro (up_eq _) ?_
              refine And.intro (up_eq _) ?_
              refine And.intro (fun _ _ _ hb h => h.below hb) ?_
              refine And.intro (fun _ _ _ hb h => h.below hb) ?_
              trivial
            · refine And.intro (And.intro (fun u u' hb h => h.below hb) (fun p hp hne u u' ht h => absurd (by rw [List.mem_singleton] at hp; rw [hp]) hne)) ?_
              trivial
            · refine And.intro (HM3.out.below (Below.refl _ _).drew) ?_
              trivial
            · refine And.intro (And.intro ?_ (fun u u' hk h => h.trans hk)) ?_
              · refine And.intro (fun _ _ _ => ch_eq _ _) ?_
                refine And.intro (fun _ _ _ => ch_eq _ _) ?_
                refine And.intro (fun _ _ _ => ch_eq _ _) ?_
                refine And.intro (fun _ _ _ => ch_eq _ _) ?_
                refine And.intro (fun _ _ _ => ch_eq _ _) ?_
                refine And.intro (fun _ _ _ => ch_eq _ _) ?_
                refine And.intro (fun _ _ _ => ch_eq _ _) ?_
                refine And.intro (fun _ _ _ => ch_eq _ _) ?_
                refine And.intro (fun _ _ _ => ch_eq _ _) ?_
                refine And.intro (fun _ _ _ => ch_eq _ _) ?_
                refine And.intro (fun _ _ _ => ch_eq _ _) ?_
                refine And.intro (fun _ h _ => absurd rfl h) ?_
                refine And.intro (fun h _ _ => absurd rfl h) ?_
                trivial
              trivial
            · refine And.intro ?_ (And.intro ?_ (And.intro ?_ (And.intro ?_ (And.intro ?_ (And.intro ?_ (And.intro ?_ (And.intro ?_ (And.intro ?_ (And.intro ?_ (And.intro ?_ (And.intro ?_ (And.intro ?_ (True.intro)))))))))))))
              · refine qstep_val (.pointer (some ⟨mp, 0, none⟩)) (by kernel_rfl) (by kernel_rfl) rfl (fun _ A1 W1 inv hnl hall => ⟨wanted_none rfl, ?_, rfl⟩)
                have h14 : A1.eval (.tmp 14) = .pointer (some ⟨mp, 0, none⟩) := (inv.base 14 (by kernel_rfl)).trans rfl
                simp only [execOp, h14, Sem.run_pure]
              · refine qstep_val (.pointer (some ⟨RB, 2, none⟩)) (by kernel_rfl) (by kernel_rfl) rfl (fun _ A1 W1 inv hnl hall => ⟨wanted_none rfl, ?_, rfl⟩)
                have h16 : A1.eval (.tmp 16) = .pointer (some ⟨RB, 0, none⟩) := (inv.base 16 (by kernel_rfl)).trans rfl
                simp only [execOp, h16]
                simp [go_sem]
              · refine qstep_val (.int .u64 0) (by kernel_rfl) (by kernel_rfl) rfl (fun _ A1 W1 inv hnl hall => ⟨wanted_none rfl, ?_, rfl⟩)
                have h98 : A1.eval (.tmp 98) = .pointer (some ⟨RB, 2, none⟩) := inv.get hall 1 98 (by kernel_rfl) (by kernel_rfl) rfl
                have gg := ((HK3.out.trans inv.s).at XR2.out (by decide)).cell 2
                simp at gg
                simp only [execOp, h98]
                simp [go_sem, gg]
              · refine qstep_val (.slice (some ⟨g, 0, none⟩) m sc) (by kernel_rfl) (by kernel_rfl) rfl (fun _ A1 W1 inv hnl hall => ⟨wanted_none rfl, ?_, rfl⟩)
                have h18 : A1.eval (.tmp 18) = .slice (some ⟨g, 0, none⟩) m sc := (inv.base 18 (by kernel_rfl)).trans rfl
                simp only [execOp, h18, Sem.run_pure]
              · refine qstep_val (.int .i64 (k : Int)) (by kernel_rfl) (by kernel_rfl) rfl (fun _ A1 W1 inv hnl hall => ⟨wanted_none rfl, ?_, rfl⟩)
                have h20 : A1.eval (.tmp 20) = .int .i64 (k : Int) := (inv.base 20 (by kernel_rfl)).trans rfl
                simp only [execOp, h20, Sem.run_pure]
              · refine qstep_val (.pointer (some ⟨g, k, none⟩)) (by kernel_rfl) (by kernel_rfl) rfl (fun _ A1 W1 inv hnl hall => ⟨wanted_none rfl, ?_, rfl⟩)
                have h100 : A1.eval (.tmp 100) = .slice (some ⟨g, 0, none⟩) m sc := inv.get hall 3 100 (by kernel_rfl) (by kernel_rfl) rfl
                have h101 : A1.eval (.tmp 101) = .int .i64 (k : Int) := inv.get hall 4 101 (by kernel_rfl) (by kernel_rfl) rfl
                simp only [execOp, h100, h101]
                simp [go_sem, hki]
              · refine qstep_val (.int .i64 (x : Int)) (by kernel_rfl) (by kernel_rfl) rfl (fun _ A1 W1 inv hnl hall => ⟨wanted_none rfl, ?_, rfl⟩)
                have h102 : A1.eval (.tmp 102) = .pointer (some ⟨g, k, none⟩) := inv.get hall 5 102 (by kernel_rfl) (by kernel_rfl) rfl
                have gg := ((HK3.out.trans inv.s).row HGB.out (by decide) k).trans hxc
                simp only [execOp, h102]
                simp [go_sem, gg]
              · refine qstep_val (.int .u64 (x : Int)) (by kernel_rfl) (by kernel_rfl) rfl (fun _ A1 W1 inv hnl hall => ⟨wanted_none rfl, ?_, rfl⟩)
                have h103 : A1.eval (.tmp 103) = .int .i64 (x : Int) := inv.get hall 6 103 (by kernel_rfl) (by kernel_rfl) rfl
                simp only [execOp, h103]
                simp [go_sem, hv1]
              · refine qstep_val (.int .u64 (16 * (x : Int))) (by kernel_rfl) (by kernel_rfl) rfl (fun _ A1 W1 inv hnl hall => ⟨wanted_none rfl, ?_, rfl⟩)
                have h104 : A1.eval (.tmp 104) = .int .u64 (x : Int) := inv.get hall 7 104 (by kernel_rfl) (by kernel_rfl) rfl
                simp only [execOp, h104, eval_c]
                simp [go_sem, hv2]
              · refine qstep_val (.int .u64 (16 * (x : Int))) (by kernel_rfl) (by kernel_rfl) rfl (fun _ A1 W1 inv hnl hall => ⟨wanted_none rfl, ?_, rfl⟩)
                have h99 : A1.eval (.tmp 99) = .int .u64 0 := inv.get hall 2 99 (by kernel_rfl) (by kernel_rfl) rfl
                have h105 : A1.eval (.tmp 105) = .int .u64 (16 * (x : Int)) := inv.get hall 8 105 (by kernel_rfl) (by kernel_rfl) rfl
                simp only [execOp, h99, h105]
                simp [go_sem, hv2]
              · refine qstep_val (dV ⟨8000 + (k : Int), 1, 1, ((wy h (2 * q + 1) N (k + 1) : Nat) : Int)⟩) (by kernel_rfl) (by kernel_rfl) rfl (fun _ A1 W1 inv hnl hall => ⟨wanted_none rfl, ?_, rfl⟩)
                have h21 : A1.eval (.tmp 21) = .pointer (some ⟨db, 0, none⟩) := (inv.base 21 (by kernel_rfl)).trans rfl
                simp only [execOp, h21, Sem.run_bind, loadDs (inv.s.at HD3.out (by decide)), Result.andThen_ok, Sem.run_pure]
              · refine qstep_call 12 (by kernel_rfl) _ _ (by kernel_rfl) (by kernel_rfl) rfl rfl (fun _ A1 W1 inv hnl hall => ⟨wanted_none rfl, #[dV ⟨8000 + (k : Int), 1, 1, ((wy h (2 * q + 1) N (k + 1) : Nat) : Int)⟩], ?_, ?_⟩)
                · have h107 : A1.eval (.tmp 107) = dV ⟨8000 + (k : Int), 1, 1, ((wy h (2 * q + 1) N (k + 1) : Nat) : Int)⟩ := inv.get hall 10 107 (by kernel_rfl) (by kernel_rfl) rfl
                  simp [h107]
                · refine (rbytes_any ⟨8000 + (k : Int), 1, 1, ((wy h (2 * q + 1) N (k + 1) : Nat) : Int)⟩ _ HDi.out).mono ?_
                  rintro e u ⟨v, rfl, hob, hb⟩
                  exact ⟨v, rfl, (newBytes_of hob).at, hb⟩
              · refine qstep_scall 11 (by kernel_rfl) _ _ (by kernel_rfl) (by kernel_rfl) rfl rfl (fun _ A1 W1 inv hnl hall => ⟨wanted_none rfl, #[.pointer (some ⟨mp, 0, none⟩), .int .u64 (16 * (x : Int)), A1.eval (.tmp 108)], ?_, ?_⟩)
                · have h97 : A1.eval (.tmp 97) = .pointer (some ⟨mp, 0, none⟩) := inv.get hall 0 97 (by kernel_rfl) (by kernel_rfl) rfl
                  have h106 : A1.eval (.tmp 106) = .int .u64 (16 * (x : Int)) := inv.get hall 9 106 (by kernel_rfl) (by kernel_rfl) rfl
                  simp [h97, h106]
                · have h108 : (fun v W => BytesAt W v (dB ⟨8000 + (k : Int), 1, 1, ((wy h (2 * q + 1) N (k + 1) : Nat) : Int)⟩)) (A1.eval (.tmp 108)) W1 := inv.get1 (i := 12) hnl hall 11 108 (by kernel_rfl) (by kernel_rfl) rfl
                  have hmm := inv.pre1 (j := 12) hnl (List.mem_singleton.2 rfl) (Or.inl rfl)
                  refine (hmm.write (16 * (x : Int)) _ _ ⟨by omega, by omega⟩ h108 (dB_bytes _) (by rw [dB_length]; decide)).mono ?_
                  rintro e u ⟨rfl, h1, h2⟩
                  refine ⟨_, rfl, ?_, h2⟩
                  rw [onM, ← HDe.out, HX.out, ← write10 (by rw [dB_length]; decide) (by rw [dB_length]; omega)]
                  exact h1
            · intro listed A1 W1 inv hall
              have e97 : A1.eval (.tmp 97) = .pointer (some ⟨mp, 0, none⟩) := inv.fin 0 97 (by kernel_rfl) (hall 0 (Nat.lt_of_lt_of_eq (by decide : 0 < 13) (by kernel_rfl))) rfl
              have e98 : A1.eval (.tmp 98) = .pointer (some ⟨RB, 2, none⟩) := inv.fin 1 98 (by kernel_rfl) (hall 1 (Nat.lt_of_lt_of_eq (by decide : 1 < 13) (by kernel_rfl))) rfl
              have e99 : A1.eval (.tmp 99) = .int .u64 0 := inv.fin 2 99 (by kernel_rfl) (hall 2 (Nat.lt_of_lt_of_eq (by decide : 2 < 13) (by kernel_rfl))) rfl
              have e100 : A1.eval (.tmp 100) = .slice (some ⟨g, 0, none⟩) m sc := inv.fin 3 100 (by kernel_rfl) (hall 3 (Nat.lt_of_lt_of_eq (by decide : 3 < 13) (by kernel_rfl))) rfl
              have e101 : A1.eval (.tmp 101) = .int .i64 (k : Int) := inv.fin 4 101 (by kernel_rfl) (hall 4 (Nat.lt_of_lt_of_eq (by decide : 4 < 13) (by kernel_rfl))) rfl
              have e102 : A1.eval (.tmp 102) = .pointer (some ⟨g, k, none⟩) := inv.fin 5 102 (by kernel_rfl) (hall 5 (Nat.lt_of_lt_of_eq (by decide : 5 < 13) (by kernel_rfl))) rfl
              have e103 : A1.eval (.tmp 103) = .int .i64 (x : Int) := inv.fin 6 103 (by kernel_rfl) (hall 6 (Nat.lt_of_lt_of_eq (by decide : 6 < 13) (by kernel_rfl))) rfl
              have e104 : A1.eval (.tmp 104) = .int .u64 (x : Int) := inv.fin 7 104 (by kernel_rfl) (hall 7 (Nat.lt_of_lt_of_eq (by decide : 7 < 13) (by kernel_rfl))) rfl
              have e105 : A1.eval (.tmp 105) = .int .u64 (16 * (x : Int)) := inv.fin 8 105 (by kernel_rfl) (hall 8 (Nat.lt_of_lt_of_eq (by decide : 8 < 13) (by kernel_rfl))) rfl
              have e106 : A1.eval (.tmp 106) = .int .u64 (16 * (x : Int)) := inv.fin 9 106 (by kernel_rfl) (hall 9 (Nat.lt_of_lt_of_eq (by decide : 9 < 13) (by kernel_rfl))) rfl
              have e107 : A1.eval (.tmp 107) = dV ⟨8000 + (k : Int), 1, 1, ((wy h (2 * q + 1) N (k + 1) : Nat) : Int)⟩ := inv.fin 10 107 (by kernel_rfl) (hall 10 (Nat.lt_of_lt_of_eq (by decide : 10 < 13) (by kernel_rfl))) rfl
              obtain ⟨v108, e108⟩ : ∃ v, A1.eval (.tmp 108) = v := ⟨_, rfl⟩
              have p109 : (fun _ W => MdS w mp ib qb R10 (onM Z (wy h (2 * q + 1) N) m b circle (k + 1)) W) (A1.eval (.tmp 109)) W1 := inv.fin 12 109 (by kernel_rfl) (hall 12 (Nat.lt_of_lt_of_eq (by decide : 12 < 13) (by kernel_rfl))) rfl
              obtain ⟨v109, e109⟩ : ∃ v, A1.eval (.tmp 109) = v := ⟨_, rfl⟩
              rw [e109] at p109
              have HF := inv.frame hall
              have HS9 := hid_mk inv.s
              simp only [putEnd, e97, e98, e99, e100, e101, e102, e103, e104, e105, e106, e107, e108, e109, Act.put, List.setIfInBounds_toArray, List.set_cons_succ, List.set_cons_zero] at HF
              clear e97 e98 e99 e100 e101 e102 e103 e104 e105 e106 e107 e108 e109 inv hall
              subst HF
              have HM4 := hid_mk p109
              have HK4 := hid_mk (HK3.out.trans HS9.out)
              clear HS9 p109 HM3 HK3
              go_wp2_with fail
              go_roundw
              case rel => exact ⟨k + 1, by omega, by simp, HM4, HK4⟩
              case measure => simp [intOf]; omega
          · have hli : decide ((k : Int) + 1 < (m : Int)) = false := decide_eq_false (by omega)
            cases circle
            · have HDi : Hid (isDsc ⟨8000 + (k : Int), 1, 0, ((wy h (2 * q + 1) N b : Nat) : Int)⟩) := hid_mk ⟨⟨by simp only; omega, by simp only; omega⟩, ⟨by simp only; omega, by simp only; omega⟩, ⟨by simp only; omega, by simp only; omega⟩, ⟨by simp only; omega, by simp only; omega⟩⟩
              have HDe : Hid ((⟨8000 + (k : Int), 1, 0, ((wy h (2 * q + 1) N b : Nat) : Int)⟩ : Dsc) = onD (wy h (2 * q + 1) N) m b false k) := hid_mk (by unfold onD; rw [if_neg (by simp; omega), if_neg hl])
              go_wp2_with fail
              have HM3 := hid_mk (hld.out.below (below_box wr (.cells #[.int .u64 (8000 + (k : Int)), .int .u32 1, .int .u16 0, .int .u16 ((wy h (2 * q + 1) N b : Nat) : Int)] 49)))
              have HK3 := hid_mk (hkp.out.trans (Kp8.below (below_box wr (.cells #[.int .u64 (8000 + (k : Int)), .int .u32 1, .int .u16 0, .int .u16 ((wy h (2 * q + 1) N b : Nat) : Int)] 49))))
              have HD3 := hid_mk (blk_new wr [.int .u64 (8000 + (k : Int)), .int .u32 1, .int .u16 0, .int .u16 ((wy h (2 * q + 1) N b : Nat) : Int)] 49)
              obtain ⟨U3, hU3⟩ : ∃ U3, U3 = (wr.alloc (.cells #[.int .u64 (8000 + (k : Int)), .int .u32 1, .int .u16 0, .int .u16 ((wy h (2 * q + 1) N b : Nat) : Int)] 49)) := ⟨_, rfl⟩
              rw [← hU3] at HM3 HK3 HD3 ⊢
              obtain ⟨db, hdb⟩ : ∃ db, wr.heap.size = db := ⟨_, rfl⟩
              rw [hdb] at HD3 ⊢
              clear hU3 hdb
              have hwk0 : wy h (2 * q + 1) N k < 64 := Nat.lt_of_lt_of_le (wy_lt (by omega)) hN2
              obtain ⟨x, hx⟩ : ∃ x, wy h (2 * q + 1) N k = x := ⟨_, rfl⟩
              have HX := hid_mk hx
              have hxc : V.cell? ⟨g, k, none⟩ = some (.int .i64 (x : Int)) := by rw [← hx]; exact HGC.out k (by omega)
              rw [hx] at hwk0
              have hv1 : IntKind.u64.wrap (x : Int) = (x : Int) := IntWalk.u64_in _ (by omega)
              have hv2 : IntKind.u64.wrap (16 * (x : Int)) = 16 * (x : Int) := IntWalk.u64_in _ (by omega)
              refine wp_region_outl3 0 [(12, Kp8)] [(11, 12)] [(12, MdS w mp ib qb R10 (onM Z (wy h (2 * q + 1) N) m b false k))]
                  [(fun v _ => v = .pointer (some ⟨mp, 0, none⟩)),
                  (fun v _ => v = .pointer (some ⟨RB, 2, none⟩)),
                  (fun v _ => v = .int .u64 0),
                  (fun v _ => v = .slice (some ⟨g, 0, none⟩) m sc),
                  (fun v _ => v = .int .i64 (k : Int)),
                  (fun v _ => v = .pointer (some ⟨g, k, none⟩)),
                  (fun v _ => v = .int .i64 (x : Int)),
                  (fun v _ => v = .int .u64 (x : Int)),
                  (fun v _ => v = .int .u64 (16 * (x : Int))),
                  (fun v _ => v = .int .u64 (16 * (x : Int))),
                  (fun v _ => v = dV ⟨8000 + (k : Int), 1, 0, ((wy h (2 * q + 1) N b : Nat) : Int)⟩),
                  (fun v W => BytesAt W v (dB ⟨8000 + (k : Int), 1, 0, ((wy h (2 * q + 1) N b : Nat) : Int)⟩)),
                  (fun _ W => MdS w mp ib qb R10 (onM Z (wy h (2 * q + 1) N) m b false (k + 1)) W)]
                  (Kp8 U3) (by kernel_rfl) (by kernel_rfl) (by kernel_rfl) ?_ (fun u u' hb h => h.trans (Kp8.below hb)) (Kp8.below (Below.refl _ _).drew) ?_ ?_ ?_ ?_ ?_
              · refine And.intro (up_eq _) ?_
                refine And.intro (up_eq _) ?_
                refine And.intro (up_eq _) ?_
                refine And.intro (up_eq _) ?_
                refine And.intro (up_eq _) ?_
                refine And.intro (up_eq _) ?_
                refine And.intro (up_eq _) ?_
                refine And.intro (up_eq _) ?_
                refine And.intro (up_eq _) ?_
                refine And.intro (up_eq _) ?_
                refine And.intro (up_eq _) ?_
                refine And.intro (fun _ _ _ hb h => h.below hb) ?_
                refine And.intro (fun _ _ _ hb h => h.below hb) ?_
                trivial
              · refine And.intro (And.intro (fun u u' hb h => h.below hb) (fun p hp hne u u' ht h => absurd (by rw [List.mem_singleton] at hp; rw [hp]) hne)) ?_
                trivial
              · refine And.intro (HM3.out.below (Below.refl _ _).drew) ?_
                trivial
              · refine And.intro (And.intro ?_ (fun u u' hk h => h.trans hk)) ?_
                · refine And.intro (fun _ _ _ => ch_eq _ _) ?_
                  refine And.intro (fun _ _ _ => ch_eq _ _) ?_
                  refine And.intro (fun _ _ _ => ch_eq _ _) ?_
                  refine And.intro (fun _ _ _ => ch_eq _ _) ?_
                  refine And.intro (fun _ _ _ => ch_eq _ _) ?_
                  refine And.intro (fun _ _ _ => ch_eq _ _) ?_
                  refine And.intro (fun _ _ _ => ch_eq _ _) ?_
                  refine And.intro (fun _ _ _ => ch_eq _ _) ?_
                  refine And.intro (fun _ _ _ => ch_eq _ _) ?_
                  refine And.intro (fun _ _ _ => ch_eq _ _) ?_
                  refine And.intro (fun _ _ _ => ch_eq _ _) ?_
                  refine And.intro (fun _ h _ => absurd rfl h) ?_
                  refine And.intro (fun h _ _ => absurd rfl h) ?_
                  trivial
                trivial
              · refine And.intro ?_ (And.intro ?_ (And.intro ?_ (And.intro ?_ (And.intro ?_ (And.intro ?_ (And.intro ?_ (And.intro ?_ (And.intro ?_ (And.intro ?_ (And.intro ?_ (And.intro ?_ (And.intro ?_ (True.intro)))))))))))))
                · refine qstep_val (.pointer (some ⟨mp, 0, none⟩)) (by kernel_rfl) (by kernel_rfl) rfl (fun _ A1 W1 inv hnl hall => ⟨wanted_none rfl, ?_, rfl⟩)
                  have h14 : A1.eval (.tmp 14) = .pointer (some ⟨mp, 0, none⟩) := (inv.base 14 (by kernel_rfl)).trans rfl
                  simp only [execOp, h14, Sem.run_pure]
                · refine qstep_val (.pointer (some ⟨RB, 2, none⟩)) (by kernel_rfl) (by kernel_rfl) rfl (fun _ A1 W1 inv hnl hall => ⟨wanted_none rfl, ?_, rfl⟩)
                  have h16 : A1.eval (.tmp 16) = .pointer (some ⟨RB, 0, none⟩) := (inv.base 16 (by kernel_rfl)).trans rfl
                  simp only [execOp, h16]
                  simp [go_sem]
                · refine qstep_val (.int .u64 0) (by kernel_rfl) (by kernel_rfl) rfl (fun _ A1 W1 inv hnl hall => ⟨wanted_none rfl, ?_, rfl⟩)
                  have h98 : A1.eval (.tmp 98) = .pointer (some ⟨RB, 2, none⟩) := inv.get hall 1 98 (by kernel_rfl) (by kernel_rfl) rfl
                  have gg := ((HK3.out.trans inv.s).at XR2.out (by decide)).cell 2
                  simp at gg
                  simp only [execOp, h98]
                  simp [go_sem, gg]
                · refine qstep_val (.slice (some ⟨g, 0, none⟩) m sc) (by kernel_rfl) (by kernel_rfl) rfl (fun _ A1 W1 inv hnl hall => ⟨wanted_none rfl, ?_, rfl⟩)
                  have h18 : A1.eval (.tmp 18) = .slice (some ⟨g, 0, none⟩) m sc := (inv.base 18 (by kernel_rfl)).trans rfl
                  simp only [execOp, h18, Sem.run_pure]
                · refine qstep_val (.int .i64 (k : Int)) (by kernel_rfl) (by kernel_rfl) rfl (fun _ A1 W1 inv hnl hall => ⟨wanted_none rfl, ?_, rfl⟩)
                  have h20 : A1.eval (.tmp 20) = .int .i64 (k : Int) := (inv.base 20 (by kernel_rfl)).trans rfl
                  simp only [execOp, h20, Sem.run_pure]
                · refine qstep_val (.pointer (some ⟨g, k, none⟩)) (by kernel_rfl) (by kernel_rfl) rfl (fun _ A1 W1 inv hnl hall => ⟨wanted_none rfl, ?_, rfl⟩)
                  have h100 : A1.eval (.tmp 100) = .slice (some ⟨g, 0, none⟩) m sc := inv.get hall 3 100 (by kernel_rfl) (by kernel_rfl) rfl
                  have h101 : A1.eval (.tmp 101) = .int .i64 (k : Int) := inv.get hall 4 101 (by kernel_rfl) (by kernel_rfl) rfl
                  simp only [execOp, h100, h101]
                  simp [go_sem, hki]
                · refine qstep_val (.int .i64 (x : Int)) (by kernel_rfl) (by kernel_rfl) rfl (fun _ A1 W1 inv hnl hall => ⟨wanted_none rfl, ?_, rfl⟩)
                  have h102 : A1.eval (.tmp 102) = .pointer (some ⟨g, k, none⟩) := inv.get hall 5 102 (by kernel_rfl) (by kernel_rfl) rfl
                  have gg := ((HK3.out.trans inv.s).row HGB.out (by decide) k).trans hxc
                  simp only [execOp, h102]
                  simp [go_sem, gg]
                · refine qstep_val (.int .u64 (x : Int)) (by kernel_rfl) (by kernel_rfl) rfl (fun _ A1 W1 inv hnl hall => ⟨wanted_none rfl, ?_, rfl⟩)
                  have h103 : A1.eval (.tmp 103) = .int .i64 (x : Int) := inv.get hall 6 103 (by kernel_rfl) (by kernel_rfl) rfl
                  simp only [execOp, h103]
                  simp [go_sem, hv1]
                · refine qstep_val (.int .u64 (16 * (x : Int))) (by kernel_rfl) (by kernel_rfl) rfl (fun _ A1 W1 inv hnl hall => ⟨wanted_none rfl, ?_, rfl⟩)
                  have h104 : A1.eval (.tmp 104) = .int .u64 (x : Int) := inv.get hall 7 104 (by kernel_rfl) (by kernel_rfl) rfl
                  simp only [execOp, h104, eval_c]
                  simp [go_sem, hv2]
                · refine qstep_val (.int .u64 (16 * (x : Int))) (by kernel_rfl) (by kernel_rfl) rfl (fun _ A1 W1 inv hnl hall => ⟨wanted_none rfl, ?_, rfl⟩)
                  have h99 : A1.eval (.tmp 99) = .int .u64 0 := inv.get hall 2 99 (by kernel_rfl) (by kernel_rfl) rfl
                  have h105 : A1.eval (.tmp 105) = .int .u64 (16 * (x : Int)) := inv.get hall 8 105 (by kernel_rfl) (by kernel_rfl) rfl
                  simp only [execOp, h99, h105]
                  simp [go_sem, hv2]
                · refine qstep_val (dV ⟨8000 + (k : Int), 1, 0, ((wy h (2 * q + 1) N b : Nat) : Int)⟩) (by kernel_rfl) (by kernel_rfl) rfl (fun _ A1 W1 inv hnl hall => ⟨wanted_none rfl, ?_, rfl⟩)
                  have h21 : A1.eval (.tmp 21) = .pointer (some ⟨db, 0, none⟩) := (inv.base 21 (by kernel_rfl)).trans rfl
                  simp only [execOp, h21, Sem.run_bind, loadDs (inv.s.at HD3.out (by decide)), Result.andThen_ok, Sem.run_pure]
                · refine qstep_call 12 (by kernel_rfl) _ _ (by kernel_rfl) (by kernel_rfl) rfl rfl (fun _ A1 W1 inv hnl hall => ⟨wanted_none rfl, #[dV ⟨8000 + (k : Int), 1, 0, ((wy h (2 * q + 1) N b : Nat) : Int)⟩], ?_, ?_⟩)
                  · have h107 : A1.eval (.tmp 107) = dV ⟨8000 + (k : Int), 1, 0, ((wy h (2 * q + 1) N b : Nat) : Int)⟩ := inv.get hall 10 107 (by kernel_rfl) (by kernel_rfl) rfl
                    simp [h107]
                  · refine (rbytes_any ⟨8000 + (k : Int), 1, 0, ((wy h (2 * q + 1) N b : Nat) : Int)⟩ _ HDi.out).mono ?_
                    rintro e u ⟨v, rfl, hob, hb⟩
                    exact ⟨v, rfl, (newBytes_of hob).at, hb⟩
                · refine qstep_scall 11 (by kernel_rfl) _ _ (by kernel_rfl) (by kernel_rfl) rfl rfl (fun _ A1 W1 inv hnl hall => ⟨wanted_none rfl, #[.pointer (some ⟨mp, 0, none⟩), .int .u64 (16 * (x : Int)), A1.eval (.tmp 108)], ?_, ?_⟩)
                  · have h97 : A1.eval (.tmp 97) = .pointer (some ⟨mp, 0, none⟩) := inv.get hall 0 97 (by kernel_rfl) (by kernel_rfl) rfl
                    have h106 : A1.eval (.tmp 106) = .int .u64 (16 * (x : Int)) := inv.get hall 9 106 (by kernel_rfl) (by kernel_rfl) rfl
                    simp [h97, h106]
                  · have h108 : (fun v W => BytesAt W v (dB ⟨8000 + (k : Int), 1, 0, ((wy h (2 * q + 1) N b : Nat) : Int)⟩)) (A1.eval (.tmp 108)) W1 := inv.get1 (i := 12) hnl hall 11 108 (by kernel_rfl) (by kernel_rfl) rfl
                    have hmm := inv.pre1 (j := 12) hnl (List.mem_singleton.2 rfl) (Or.inl rfl)
                    refine (hmm.write (16 * (x : Int)) _ _ ⟨by omega, by omega⟩ h108 (dB_bytes _) (by rw [dB_length]; decide)).mono ?_
                    rintro e u ⟨rfl, h1, h2⟩
                    refine ⟨_, rfl, ?_, h2⟩
                    rw [onM, ← HDe.out, HX.out, ← write10 (by rw [dB_length]; decide) (by rw [dB_length]; omega)]
                    exact h1
              · intro listed A1 W1 inv hall
                have e97 : A1.eval (.tmp 97) = .pointer (some ⟨mp, 0, none⟩) := inv.fin 0 97 (by kernel_rfl) (hall 0 (Nat.lt_of_lt_of_eq (by decide : 0 < 13) (by kernel_rfl))) rfl
                have e98 : A1.eval (.tmp 98) = .pointer (some ⟨RB, 2, none⟩) := inv.fin 1 98 (by kernel_rfl) (hall 1 (Nat.lt_of_lt_of_eq (by decide : 1 < 13) (by kernel_rfl))) rfl
                have e99 : A1.eval (.tmp 99) = .int .u64 0 := inv.fin 2 99 (by kernel_rfl) (hall 2 (Nat.lt_of_lt_of_eq (by decide : 2 < 13) (by kernel_rfl))) rfl
                have e100 : A1.eval (.tmp 100) = .slice (some ⟨g, 0, none⟩) m sc := inv.fin 3 100 (by kernel_rfl) (hall 3 (Nat.lt_of_lt_of_eq (by decide : 3 < 13) (by kernel_rfl))) rfl
                have e101 : A1.eval (.tmp 101) = .int .i64 (k : Int) := inv.fin 4 101 (by kernel_rfl) (hall 4 (Nat.lt_of_lt_of_eq (by decide : 4 < 13) (by kernel_rfl))) rfl
                have e102 : A1.eval (.tmp 102) = .pointer (some ⟨g, k, none⟩) := inv.fin 5 102 (by kernel_rfl) (hall 5 (Nat.lt_of_lt_of_eq (by decide : 5 < 13) (by kernel_rfl))) rfl
                have e103 : A1.eval (.tmp 103) = .int .i64 (x : Int) := inv.fin 6 103 (by kernel_rfl) (hall 6 (Nat.lt_of_lt_of_eq (by decide : 6 < 13) (by kernel_rfl))) rfl
                have e104 : A1.eval (.tmp 104) = .int .u64 (x : Int) := inv.fin 7 104 (by kernel_rfl) (hall 7 (Nat.lt_of_lt_of_eq (by decide : 7 < 13) (by kernel_rfl))) rfl
                have e105 : A1.eval (.tmp 105) = .int .u64 (16 * (x : Int)) := inv.fin 8 105 (by kernel_rfl) (hall 8 (Nat.lt_of_lt_of_eq (by decide : 8 < 13) (by kernel_rfl))) rfl
                have e106 : A1.eval (.tmp 106) = .int .u64 (16 * (x : Int)) := inv.fin 9 106 (by kernel_rfl) (hall 9 (Nat.lt_of_lt_of_eq (by decide : 9 < 13) (by kernel_rfl))) rfl
                have e107 : A1.eval (.tmp 107) = dV ⟨8000 + (k : Int), 1, 0, ((wy h (2 * q + 1) N b : Nat) : Int)⟩ := inv.fin 10 107 (by kernel_rfl) (hall 10 (Nat.lt_of_lt_of_eq (by decide : 10 < 13) (by kernel_rfl))) rfl
                obtain ⟨v108, e108⟩ : ∃ v, A1.eval (.tmp 108) = v := ⟨_, rfl⟩
                have p109 : (fun _ W => MdS w mp ib qb R10 (onM Z (wy h (2 * q + 1) N) m b false (k + 1)) W) (A1.eval (.tmp 109)) W1 := inv.fin 12 109 (by kernel_rfl) (hall 12 (Nat.lt_of_lt_of_eq (by decide : 12 < 13) (by kernel_rfl))) rfl
                obtain ⟨v109, e109⟩ : ∃ v, A1.eval (.tmp 109) = v := ⟨_, rfl⟩
                rw [e109] at p109
                have HF := inv.frame hall
                have HS9 := hid_mk inv.s
                simp only [putEnd, e97, e98, e99, e100, e101, e102, e103, e104, e105, e106, e107, e108, e109, Act.put, List.setIfInBounds_toArray, List.set_cons_succ, List.set_cons_zero] at HF
                clear e97 e98 e99 e100 e101 e102 e103 e104 e105 e106 e107 e108 e109 inv hall
                subst HF
                have HM4 := hid_mk p109
                have HK4 := hid_mk (HK3.out.trans HS9.out)
                clear HS9 p109 HM3 HK3
                go_wp2_with fail
                go_roundw
                case rel => exact ⟨k + 1, by omega, by simp, HM4, HK4⟩
                case measure => simp [intOf]; omega
            · have HDi : Hid (isDsc ⟨8000 + (k : Int), 1, 1, ((wy h (2 * q + 1) N b : Nat) : Int)⟩) := hid_mk ⟨⟨by simp only; omega, by simp only; omega⟩, ⟨by simp only; omega, by simp only; omega⟩, ⟨by simp only; omega, by simp only; omega⟩, ⟨by simp only; omega, by simp only; omega⟩⟩
              have HDe : Hid ((⟨8000 + (k : Int), 1, 1, ((wy h (2 * q + 1) N b : Nat) : Int)⟩ : Dsc) = onD (wy h (2 * q + 1) N) m b true k) := hid_mk (by unfold onD; rw [if_pos (.inr rfl), if_neg hl])
              go_wp2_with fail
              have HM3 := hid_mk (hld.out.below (below_box wr (.cells #[.int .u64 (8000 + (k : Int)), .int .u32 1, .int .u16 1, .int .u16 ((wy h (2 * q + 1) N b : Nat) : Int)] 49)))
              have HK3 := hid_mk (hkp.out.trans (Kp8.below (below_box wr (.cells #[.int .u64 (8000 + (k : Int)), .int .u32 1, .int .u16 1, .int .u16 ((wy h (2 * q + 1) N b : Nat) : Int)] 49))))
              have HD3 := hid_mk (blk_new wr [.int .u64 (8000 + (k : Int)), .int .u32 1, .int .u16 1, .int .u16 ((wy h (2 * q + 1) N b : Nat) : Int)] 49)
              obtain ⟨U3, hU3⟩ : ∃ U3, U3 = (wr.alloc (.cells #[.int .u64 (8000 + (k : Int)), .int .u32 1, .int .u16 1, .int .u16 ((wy h (2 * q + 1) N b : Nat) : Int)] 49)) := ⟨_, rfl⟩
              rw [← hU3] at HM3 HK3 HD3 ⊢
              obtain ⟨db, hdb⟩ : ∃ db, wr.heap.size = db := ⟨_, rfl⟩
              rw [hdb] at HD3 ⊢
              clear hU3 hdb
              have hwk0 : wy h (2 * q + 1) N k < 64 := Nat.lt_of_lt_of_le (wy_lt (by omega)) hN2
              obtain ⟨x, hx⟩ : ∃ x, wy h (2 * q + 1) N k = x := ⟨_, rfl⟩
              have HX := hid_mk hx
              have hxc : V.cell? ⟨g, k, none⟩ = some (.int .i64 (x : Int)) := by rw [← hx]; exact HGC.out k (by omega)
              rw [hx] at hwk0
              have hv1 : IntKind.u64.wrap (x : Int) = (x : Int) := IntWalk.u64_in _ (by omega)
              have hv2 : IntKind.u64.wrap (16 * (x : Int)) = 16 * (x : Int) := IntWalk.u64_in _ (by omega)
              refine wp_region_outl3 0 [(12, Kp8)] [(11, 12)] [(12, MdS w mp ib qb R10 (onM Z (wy h (2 * q + 1) N) m b true k))]
                  [(fun v _ => v = .pointer (some ⟨mp, 0, none⟩)),
                  (fun v _ => v = .pointer (some ⟨RB, 2, none⟩)),
                  (fun v _ => v = .int .u64 0),
                  (fun v _ => v = .slice (some ⟨g, 0, none⟩) m sc),
                  (fun v _ => v = .int .i64 (k : Int)),
                  (fun v _ => v = .pointer (some ⟨g, k, none⟩)),
                  (fun v _ => v = .int .i64 (x : Int)),
                  (fun v _ => v = .int .u64 (x : Int)),
                  (fun v _ => v = .int .u64 (16 * (x : Int))),
                  (fun v _ => v = .int .u64 (16 * (x : Int))),
                  (fun v _ => v = dV ⟨8000 + (k : Int), 1, 1, ((wy h (2 * q + 1) N b : Nat) : Int)⟩),
                  (fun v W => BytesAt W v (dB ⟨8000 + (k : Int), 1, 1, ((wy h (2 * q + 1) N b : Nat) : Int)⟩)),
                  (fun _ W => MdS w mp ib qb R10 (onM Z (wy h (2 * q + 1) N) m b true (k + 1)) W)]
                  (Kp8 U3) (by kernel_rfl) (by kernel_rfl) (by kernel_rfl) ?_ (fun u u' hb h => h.trans (Kp8.below hb)) (Kp8.below (Below.refl _ _).drew) ?_ ?_ ?_ ?_ ?_
              · refine And.intro (up_eq _) ?_
                refine And.intro (up_eq _) ?_
                refine And.intro (up_eq _) ?_
                refine And.intro (up_eq _) ?_
                refine And.intro (up_eq _) ?_
                refine And.intro (up_eq _) ?_
                refine And.intro (up_eq _) ?_
                refine And.intro (up_eq _) ?_
                refine And.intro (up_eq _) ?_
                refine And.intro (up_eq _) ?_
                refine And.intro (up_eq _) ?_
                refine And.intro (fun _ _ _ hb h => h.below hb) ?_
                refine And.intro (fun _ _ _ hb h => h.below hb) ?_
                trivial
              · refine And.intro (And.intro (fun u u' hb h => h.below hb) (fun p hp hne u u' ht h => absurd (by rw [List.mem_singleton] at hp; rw [hp]) hne)) ?_
                trivial
              · refine And.intro (HM3.out.below (Below.refl _ _).drew) ?_
                trivial
              · refine And.intro (And.intro ?_ (fun u u' hk h => h.trans hk)) ?_
                · refine And.intro (fun _ _ _ => ch_eq _ _) ?_
                  refine And.intro (fun _ _ _ => ch_eq _ _) ?_
                  refine And.intro (fun _ _ _ => ch_eq _ _) ?_
                  refine And.intro (fun _ _ _ => ch_eq _ _) ?_
                  refine And.intro (fun _ _ _ => ch_eq _ _) ?_
                  refine And.intro (fun _ _ _ => ch_eq _ _) ?_
                  refine And.intro (fun _ _ _ => ch_eq _ _) ?_
                  refine And.intro (fun _ _ _ => ch_eq _ _) ?_
                  refine And.intro (fun _ _ _ => ch_eq _ _) ?_
                  refine And.intro (fun _ _ _ => ch_eq _ _) ?_
                  refine And.intro (fun _ _ _ => ch_eq _ _) ?_
                  refine And.intro (fun _ h _ => absurd rfl h) ?_
                  refine And.intro (fun h _ _ => absurd rfl h) ?_
                  trivial
                trivial
              · refine And.intro ?_ (And.intro ?_ (And.intro ?_ (And.intro ?_ (And.intro ?_ (And.intro ?_ (And.intro ?_ (And.intro ?_ (And.intro ?_ (And.intro ?_ (And.intro ?_ (And.intro ?_ (And.intro ?_ (True.intro)))))))))))))
                · refine qstep_val (.pointer (some ⟨mp, 0, none⟩)) (by kernel_rfl) (by kernel_rfl) rfl (fun _ A1 W1 inv hnl hall => ⟨wanted_none rfl, ?_, rfl⟩)
                  have h14 : A1.eval (.tmp 14) = .pointer (some ⟨mp, 0, none⟩) := (inv.base 14 (by kernel_rfl)).trans rfl
                  simp only [execOp, h14, Sem.run_pure]
                · refine qstep_val (.pointer (some ⟨RB, 2, none⟩)) (by kernel_rfl) (by kernel_rfl) rfl (fun _ A1 W1 inv hnl hall => ⟨wanted_none rfl, ?_, rfl⟩)
                  have h16 : A1.eval (.tmp 16) = .pointer (some ⟨RB, 0, none⟩) := (inv.base 16 (by kernel_rfl)).trans rfl
                  simp only [execOp, h16]
                  simp [go_sem]
                · refine qstep_val (.int .u64 0) (by kernel_rfl) (by kernel_rfl) rfl (fun _ A1 W1 inv hnl hall => ⟨wanted_none rfl, ?_, rfl⟩)
                  have h98 : A1.eval (.tmp 98) = .pointer (some ⟨RB, 2, none⟩) := inv.get hall 1 98 (by kernel_rfl) (by kernel_rfl) rfl
                  have gg := ((HK3.out.trans inv.s).at XR2.out (by decide)).cell 2
                  simp at gg
                  simp only [execOp, h98]
                  simp [go_sem, gg]
                · refine qstep_val (.slice (some ⟨g, 0, none⟩) m sc) (by kernel_rfl) (by kernel_rfl) rfl (fun _ A1 W1 inv hnl hall => ⟨wanted_none rfl, ?_, rfl⟩)
                  have h18 : A1.eval (.tmp 18) = .slice (some ⟨g, 0, none⟩) m sc := (inv.base 18 (by kernel_rfl)).trans rfl
                  simp only [execOp, h18, Sem.run_pure]
                · refine qstep_val (.int .i64 (k : Int)) (by kernel_rfl) (by kernel_rfl) rfl (fun _ A1 W1 inv hnl hall => ⟨wanted_none rfl, ?_, rfl⟩)
                  have h20 : A1.eval (.tmp 20) = .int .i64 (k : Int) := (inv.base 20 (by kernel_rfl)).trans rfl
                  simp only [execOp, h20, Sem.run_pure]
                · refine qstep_val (.pointer (some ⟨g, k, none⟩)) (by kernel_rfl) (by kernel_rfl) rfl (fun _ A1 W1 inv hnl hall => ⟨wanted_none rfl, ?_, rfl⟩)
                  have h100 : A1.eval (.tmp 100) = .slice (some ⟨g, 0, none⟩) m sc := inv.get hall 3 100 (by kernel_rfl) (by kernel_rfl) rfl
                  have h101 : A1.eval (.tmp 101) = .int .i64 (k : Int) := inv.get hall 4 101 (by kernel_rfl) (by kernel_rfl) rfl
                  simp only [execOp, h100, h101]
                  simp [go_sem, hki]
                · refine qstep_val (.int .i64 (x : Int)) (by kernel_rfl) (by kernel_rfl) rfl (fun _ A1 W1 inv hnl hall => ⟨wanted_none rfl, ?_, rfl⟩)
                  have h102 : A1.eval (.tmp 102) = .pointer (some ⟨g, k, none⟩) := inv.get hall 5 102 (by kernel_rfl) (by kernel_rfl) rfl
                  have gg := ((HK3.out.trans inv.s).row HGB.out (by decide) k).trans hxc
                  simp only [execOp, h102]
                  simp [go_sem, gg]
                · refine qstep_val (.int .u64 (x : Int)) (by kernel_rfl) (by kernel_rfl) rfl (fun _ A1 W1 inv hnl hall => ⟨wanted_none rfl, ?_, rfl⟩)
                  have h103 : A1.eval (.tmp 103) = .int .i64 (x : Int) := inv.get hall 6 103 (by kernel_rfl) (by kernel_rfl) rfl
                  simp only [execOp, h103]
                  simp [go_sem, hv1]
                · refine qstep_val (.int .u64 (16 * (x : Int))) (by kernel_rfl) (by kernel_rfl) rfl (fun _ A1 W1 inv hnl hall => ⟨wanted_none rfl, ?_, rfl⟩)
                  have h104 : A1.eval (.tmp 104) = .int .u64 (x : Int) := inv.get hall 7 104 (by kernel_rfl) (by kernel_rfl) rfl
                  simp only [execOp, h104, eval_c]
                  simp [go_sem, hv2]
                · refine qstep_val (.int .u64 (16 * (x : Int))) (by kernel_rfl) (by kernel_rfl) rfl (fun _ A1 W1 inv hnl hall => ⟨wanted_none rfl, ?_, rfl⟩)
                  have h99 : A1.eval (.tmp 99) = .int .u64 0 := inv.get hall 2 99 (by kernel_rfl) (by kernel_rfl) rfl
                  have h105 : A1.eval (.tmp 105) = .int .u64 (16 * (x : Int)) := inv.get hall 8 105 (by kernel_rfl) (by kernel_rfl) rfl
                  simp only [execOp, h99, h105]
                  simp [go_sem, hv2]
                · refine qstep_val (dV ⟨8000 + (k : Int), 1, 1, ((wy h (2 * q + 1) N b : Nat) : Int)⟩) (by kernel_rfl) (by kernel_rfl) rfl (fun _ A1 W1 inv hnl hall => ⟨wanted_none rfl, ?_, rfl⟩)
                  have h21 : A1.eval (.tmp 21) = .pointer (some ⟨db, 0, none⟩) := (inv.base 21 (by kernel_rfl)).trans rfl
                  simp only [execOp, h21, Sem.run_bind, loadDs (inv.s.at HD3.out (by decide)), Result.andThen_ok, Sem.run_pure]
                · refine qstep_call 12 (by kernel_rfl) _ _ (by kernel_rfl) (by kernel_rfl) rfl rfl (fun _ A1 W1 inv hnl hall => ⟨wanted_none rfl, #[dV ⟨8000 + (k : Int), 1, 1, ((wy h (2 * q + 1) N b : Nat) : Int)⟩], ?_, ?_⟩)
                  · have h107 : A1.eval (.tmp 107) = dV ⟨8000 + (k : Int), 1, 1, ((wy h (2 * q + 1) N b : Nat) : Int)⟩ := inv.get hall 10 107 (by kernel_rfl) (by kernel_rfl) rfl
                    simp [h107]
                  · refine (rbytes_any ⟨8000 + (k : Int), 1, 1, ((wy h (2 * q + 1) N b : Nat) : Int)⟩ _ HDi.out).mono ?_
                    rintro e u ⟨v, rfl, hob, hb⟩
                    exact ⟨v, rfl, (newBytes_of hob).at, hb⟩
                · refine qstep_scall 11 (by kernel_rfl) _ _ (by kernel_rfl) (by kernel_rfl) rfl rfl (fun _ A1 W1 inv hnl hall => ⟨wanted_none rfl, #[.pointer (some ⟨mp, 0, none⟩), .int .u64 (16 * (x : Int)), A1.eval (.tmp 108)], ?_, ?_⟩)
                  · have h97 : A1.eval (.tmp 97) = .pointer (some ⟨mp, 0, none⟩) := inv.get hall 0 97 (by kernel_rfl) (by kernel_rfl) rfl
                    have h106 : A1.eval (.tmp 106) = .int .u64 (16 * (x : Int)) := inv.get hall 9 106 (by kernel_rfl) (by kernel_rfl) rfl
                    simp [h97, h106]
                  · have h108 : (fun v W => BytesAt W v (dB ⟨8000 + (k : Int), 1, 1, ((wy h (2 * q + 1) N b : Nat) : Int)⟩)) (A1.eval (.tmp 108)) W1 := inv.get1 (i := 12) hnl hall 11 108 (by kernel_rfl) (by kernel_rfl) rfl
                    have hmm := inv.pre1 (j := 12) hnl (List.mem_singleton.2 rfl) (Or.inl rfl)
                    refine (hmm.write (16 * (x : Int)) _ _ ⟨by omega, by omega⟩ h108 (dB_bytes _) (by rw [dB_length]; decide)).mono ?_
                    rintro e u ⟨rfl, h1, h2⟩
                    refine ⟨_, rfl, ?_, h2⟩
                    rw [onM, ← HDe.out, HX.out, ← write10 (by rw [dB_length]; decide) (by rw [dB_length]; omega)]
                    exact h1
              · intro listed A1 W1 inv hall
                have e97 : A1.eval (.tmp 97) = .pointer (some ⟨mp, 0, none⟩) := inv.fin 0 97 (by kernel_rfl) (hall 0 (Nat.lt_of_lt_of_eq (by decide : 0 < 13) (by kernel_rfl))) rfl
                have e98 : A1.eval (.tmp 98) = .pointer (some ⟨RB, 2, none⟩) := inv.fin 1 98 (by kernel_rfl) (hall 1 (Nat.lt_of_lt_of_eq (by decide : 1 < 13) (by kernel_rfl))) rfl
                have e99 : A1.eval (.tmp 99) = .int .u64 0 := inv.fin 2 99 (by kernel_rfl) (hall 2 (Nat.lt_of_lt_of_eq (by decide : 2 < 13) (by kernel_rfl))) rfl
                have e100 : A1.eval (.tmp 100) = .slice (some ⟨g, 0, none⟩) m sc := inv.fin 3 100 (by kernel_rfl) (hall 3 (Nat.lt_of_lt_of_eq (by decide : 3 < 13) (by kernel_rfl))) rfl
                have e101 : A1.eval (.tmp 101) = .int .i64 (k : Int) := inv.fin 4 101 (by kernel_rfl) (hall 4 (Nat.lt_of_lt_of_eq (by decide : 4 < 13) (by kernel_rfl))) rfl
                have e102 : A1.eval (.tmp 102) = .pointer (some ⟨g, k, none⟩) := inv.fin 5 102 (by kernel_rfl) (hall 5 (Nat.lt_of_lt_of_eq (by decide : 5 < 13) (by kernel_rfl))) rfl
                have e103 : A1.eval (.tmp 103) = .int .i64 (x : Int) := inv.fin 6 103 (by kernel_rfl) (hall 6 (Nat.lt_of_lt_of_eq (by decide : 6 < 13) (by kernel_rfl))) rfl
                have e104 : A1.eval (.tmp 104) = .int .u64 (x : Int) := inv.fin 7 104 (by kernel_rfl) (hall 7 (Nat.lt_of_lt_of_eq (by decide : 7 < 13) (by kernel_rfl))) rfl
                have e105 : A1.eval (.tmp 105) = .int .u64 (16 * (x : Int)) := inv.fin 8 105 (by kernel_rfl) (hall 8 (Nat.lt_of_lt_of_eq (by decide : 8 < 13) (by kernel_rfl))) rfl
                have e106 : A1.eval (.tmp 106) = .int .u64 (16 * (x : Int)) := inv.fin 9 106 (by kernel_rfl) (hall 9 (Nat.lt_of_lt_of_eq (by decide : 9 < 13) (by kernel_rfl))) rfl
                have e107 : A1.eval (.tmp 107) = dV ⟨8000 + (k : Int), 1, 1, ((wy h (2 * q + 1) N b : Nat) : Int)⟩ := inv.fin 10 107 (by kernel_rfl) (hall 10 (Nat.lt_of_lt_of_eq (by decide : 10 < 13) (by kernel_rfl))) rfl
                obtain ⟨v108, e108⟩ : ∃ v, A1.eval (.tmp 108) = v := ⟨_, rfl⟩
                have p109 : (fun _ W => MdS w mp ib qb R10 (onM Z (wy h (2 * q + 1) N) m b true (k + 1)) W) (A1.eval (.tmp 109)) W1 := inv.fin 12 109 (by kernel_rfl) (hall 12 (Nat.lt_of_lt_of_eq (by decide : 12 < 13) (by kernel_rfl))) rfl
                obtain ⟨v109, e109⟩ : ∃ v, A1.eval (.tmp 109) = v := ⟨_, rfl⟩
                rw [e109] at p109
                have HF := inv.frame hall
                have HS9 := hid_mk inv.s
                simp only [putEnd, e97, e98, e99, e100, e101, e102, e103, e104, e105, e106, e107, e108, e109, Act.put, List.setIfInBounds_toArray, List.set_cons_succ, List.set_cons_zero] at HF
                clear e97 e98 e99 e100 e101 e102 e103 e104 e105 e106 e107 e108 e109 inv hall
                subst HF
                have HM4 := hid_mk p109
                have HK4 := hid_mk (HK3.out.trans HS9.out)
                clear HS9 p109 HM3 HK3
                go_wp2_with fail
                go_roundw
                case rel => exact ⟨k + 1, by omega, by simp, HM4, HK4⟩
                case measure => simp [intOf]; omega
        · obtain rfl : m = k := by omega
          cases circle
          · skip
            obtain ⟨o1, o2, o3⟩ := HO.out
            simp only [Bool.false_eq_true, if_false] at o1 o2
            have hw0 : wy h (2 * q + 1) N 0 < 64 := Nat.lt_of_lt_of_le (wy_lt (by omega)) hN2
            have CS : Hid (∀ u, MdS w mp ib qb R10 (onM Z (wy h (2 * q + 1) N) m b false m) u → Calls Try.prog 9 #[.pointer (some ⟨mp, 0, none⟩), .agg #[.bool false, .int .i64 (N : Int), .int .u64 0, .int .u64 G, .int .u64 C], .int .i64 ((wy h (2 * q + 1) N 0 : Nat) : Int), .bool true] u fun e u' => ∃ a z, e = .returned (.tuple #[.slice a m z, .int .i64 0]) ∧ SegsAt u' (.slice a m z) (sgO m) ∧ Below u.heap.size u u') := hid_mk (fun u hmm => hmm.split false (N : Int) 0 G C ((wy h (2 * q + 1) N 0 : Nat) : Int) true 0 (sgO m) m (by decide) uG hc0 ⟨by omega, by omega⟩ o1 (sameS_iff.2 o2) (sgO_len m))
            have CN : Hid (∀ u, MdS w mp ib qb R10 (onM Z (wy h (2 * q + 1) N) m b false m) u → Calls Try.prog 15 #[.pointer (some ⟨mp, 0, none⟩), .agg #[.bool false, .int .i64 (N : Int), .int .u64 0, .int .u64 G, .int .u64 C], .int .i64 ((wy h (2 * q + 1) N 0 : Nat) : Int), .bool true] u fun e u' => e = .returned (.int .i64 (m : Int)) ∧ Below u.heap.size u u') := hid_mk (fun u hmm => hmm.reads false (N : Int) 0 G C ((wy h (2 * q + 1) N 0 : Nat) : Int) true m (by decide) uG hc0 ⟨by omega, by omega⟩ o3)
            have hc0g := (hkp.out.row HGB.out (by decide) 0).trans (HGC.out 0 (by omega))
            have HC0 := hid_mk hc0g
            have hgl : g < wr.heap.size := Nat.lt_of_lt_of_le hg1 hkp.out.size
            have HXR := hid_mk (hkp.out.at XR2.out (by decide))
            have HM6 := hid_mk hld.out
            have h0m : (0 : Int) < (m : Int) := by omega
            clear o1 o2 o3 hc0g
            go_wp2_with fail
            refine wp_region_outl3 0 [] [] []
                [(fun v _ => v = .pointer (some ⟨mp, 0, none⟩)),
                (fun v _ => v = .agg #[.bool false, .int .i64 (N : Int), .int .u64 0, .int .u64 G, .int .u64 C]),
                (fun v _ => v = .slice (some ⟨g, 0, none⟩) m sc),
                (fun v _ => v = .pointer (some ⟨g, 0, none⟩)),
                (fun v _ => v = .int .i64 ((wy h (2 * q + 1) N 0 : Nat) : Int)),
                (fun v W => ∃ a z, v = .tuple #[.slice a m z, .int .i64 0] ∧ SegsAt W (.slice a m z) (sgO m)),
                (fun v W => ∃ a z, v = .tuple #[.slice a m z, .int .i64 0] ∧ SegsAt W (.slice a m z) (sgO m)),
                (fun v W => ∃ a z, v = .slice a m z ∧ SegsAt W (.slice a m z) (sgO m)),
                (fun v _ => v = .int .i64 0),
                (fun v W => ∃ a z, v = .slice a m z ∧ SegsAt W (.slice a m z) (sgO m)),
                (fun v _ => v = .int .i64 0)]
                (Below wr.heap.size wr) (by kernel_rfl) (by kernel_rfl) (by kernel_rfl) ?_ (fun u u' hb h => h.trans (hb.mono h.size)) ((Below.refl _ _).drew) ?_ ?_ ?_ ?_ ?_
            · refine And.intro (up_eq _) ?_
              refine And.intro (up_eq _) ?_
              refine And.intro (up_eq _) ?_
              refine And.intro (up_eq _) ?_
              refine And.intro (up_eq _) ?_
              refine And.intro (fun _ _ _ hb h => by obtain ⟨a, z, e, h⟩ := h; exact ⟨a, z, e, h.below hb⟩) ?_
              refine And.intro (fun _ _ _ hb h => by obtain ⟨a, z, e, h⟩ := h; exact ⟨a, z, e, h.below hb⟩) ?_
              refine And.intro (fun _ _ _ hb h => by obtain ⟨a, z, e, h⟩ := h; exact ⟨a, z, e, h.below hb⟩) ?_
              refine And.intro (up_eq _) ?_
              refine And.intro (fun _ _ _ hb h => by obtain ⟨a, z, e, h⟩ := h; exact ⟨a, z, e, h.below hb⟩) ?_
              refine And.intro (up_eq _) ?_
              trivial
            · trivial
            · trivial
            · trivial
            · refine And.intro ?_ (And.intro ?_ (And.intro ?_ (And.intro ?_ (And.intro ?_ (And.intro ?_ (And.intro ?_ (And.intro ?_ (And.intro ?_ (And.intro ?_ (And.intro ?_ (True.intro)))))))))))
              · refine qstep_val (.pointer (some ⟨mp, 0, none⟩)) (by kernel_rfl) (by kernel_rfl) rfl (fun _ A1 W1 inv hnl hall => ⟨wanted_none rfl, ?_, rfl⟩)
                have h14 : A1.eval (.tmp 14) = .pointer (some ⟨mp, 0, none⟩) := (inv.base 14 (by kernel_rfl)).trans rfl
                simp only [execOp, h14, Sem.run_pure]
              · refine qstep_val (.agg #[.bool false, .int .i64 (N : Int), .int .u64 0, .int .u64 G, .int .u64 C]) (by kernel_rfl) (by kernel_rfl) rfl (fun _ A1 W1 inv hnl hall => ⟨wanted_none rfl, ?_, rfl⟩)
                have h16 : A1.eval (.tmp 16) = .pointer (some ⟨RB, 0, none⟩) := (inv.base 16 (by kernel_rfl)).trans rfl
                simp only [execOp, h16, Sem.run_bind, loadRg (HXR.out.below inv.s), Result.andThen_ok, Sem.run_pure]
              · refine qstep_val (.slice (some ⟨g, 0, none⟩) m sc) (by kernel_rfl) (by kernel_rfl) rfl (fun _ A1 W1 inv hnl hall => ⟨wanted_none rfl, ?_, rfl⟩)
                have h18 : A1.eval (.tmp 18) = .slice (some ⟨g, 0, none⟩) m sc := (inv.base 18 (by kernel_rfl)).trans rfl
                simp only [execOp, h18, Sem.run_pure]
              · refine qstep_val (.pointer (some ⟨g, 0, none⟩)) (by kernel_rfl) (by kernel_rfl) rfl (fun _ A1 W1 inv hnl hall => ⟨wanted_none rfl, ?_, rfl⟩)
                have h113 : A1.eval (.tmp 113) = .slice (some ⟨g, 0, none⟩) m sc := inv.get hall 2 113 (by kernel_rfl) (by kernel_rfl) rfl
                simp only [execOp, h113, eval_c]
                simp [go_sem, show m ≠ 0 by omega]
              · refine qstep_val (.int .i64 ((wy h (2 * q + 1) N 0 : Nat) : Int)) (by kernel_rfl) (by kernel_rfl) rfl (fun _ A1 W1 inv hnl hall => ⟨wanted_none rfl, ?_, rfl⟩)
                have h114 : A1.eval (.tmp 114) = .pointer (some ⟨g, 0, none⟩) := inv.get hall 3 114 (by kernel_rfl) (by kernel_rfl) rfl
                have gg := (inv.s.cell (p := ⟨g, 0, none⟩) hgl).trans HC0.out
                simp only [execOp, h114]
                simp [go_sem, gg]
              · refine qstep_call 9 (by kernel_rfl) _ _ (by kernel_rfl) (by kernel_rfl) rfl rfl (fun _ A1 W1 inv hnl hall => ⟨wanted_none rfl, #[.pointer (some ⟨mp, 0, none⟩), .agg #[.bool false, .int .i64 (N : Int), .int .u64 0, .int .u64 G, .int .u64 C], .int .i64 ((wy h (2 * q + 1) N 0 : Nat) : Int), .bool true], ?_, ?_⟩)
                · have h111 : A1.eval (.tmp 111) = .pointer (some ⟨mp, 0, none⟩) := inv.get hall 0 111 (by kernel_rfl) (by kernel_rfl) rfl
                  have h112 : A1.eval (.tmp 112) = .agg #[.bool false, .int .i64 (N : Int), .int .u64 0, .int .u64 G, .int .u64 C] := inv.get hall 1 112 (by kernel_rfl) (by kernel_rfl) rfl
                  have h115 : A1.eval (.tmp 115) = .int .i64 ((wy h (2 * q + 1) N 0 : Nat) : Int) := inv.get hall 4 115 (by kernel_rfl) (by kernel_rfl) rfl
                  simp [h111, h112, h115, eval_c]
                · refine (CS.out _ (HM6.out.below inv.s)).mono ?_
                  rintro e u ⟨a, z, rfl, hq, hb⟩
                  exact ⟨_, rfl, ⟨a, z, rfl, hq⟩, hb⟩
              · refine qstep_ex (by kernel_rfl) (by kernel_rfl) rfl (fun _ A1 W1 inv hnl hall => ⟨wanted_none rfl, ?_⟩)
                have h116 : (fun v W => ∃ a z, v = .tuple #[.slice a m z, .int .i64 0] ∧ SegsAt W (.slice a m z) (sgO m)) (A1.eval (.tmp 116)) W1 := inv.get hall 5 116 (by kernel_rfl) (by kernel_rfl) rfl
                exact ⟨A1.eval (.tmp 116), by simp only [execOp, Sem.run_pure], h116⟩
              · refine qstep_ex (by kernel_rfl) (by kernel_rfl) rfl (fun _ A1 W1 inv hnl hall => ⟨wanted_none rfl, ?_⟩)
                have h110 : (fun v W => ∃ a z, v = .tuple #[.slice a m z, .int .i64 0] ∧ SegsAt W (.slice a m z) (sgO m)) (A1.eval (.tmp 110)) W1 := inv.get hall 6 110 (by kernel_rfl) (by kernel_rfl) rfl
                obtain ⟨a, z, hx, hi⟩ := h110
                refine ⟨.slice a m z, ?_, a, z, rfl, hi⟩
                simp only [execOp, hx]
                simp [go_sem]
              · refine qstep_val (.int .i64 0) (by kernel_rfl) (by kernel_rfl) rfl (fun _ A1 W1 inv hnl hall => ⟨wanted_none rfl, ?_, rfl⟩)
                have h110 : (fun v W => ∃ a z, v = .tuple #[.slice a m z, .int .i64 0] ∧ SegsAt W (.slice a m z) (sgO m)) (A1.eval (.tmp 110)) W1 := inv.get hall 6 110 (by kernel_rfl) (by kernel_rfl) rfl
                obtain ⟨a, z, hx, hi⟩ := h110
                simp only [execOp, hx]
                simp [go_sem]
              · refine qstep_ex (by kernel_rfl) (by kernel_rfl) rfl (fun _ A1 W1 inv hnl hall => ⟨wanted_none rfl, ?_⟩)
                have h117 : (fun v W => ∃ a z, v = .slice a m z ∧ SegsAt W (.slice a m z) (sgO m)) (A1.eval (.tmp 117)) W1 := inv.get hall 7 117 (by kernel_rfl) (by kernel_rfl) rfl
                exact ⟨A1.eval (.tmp 117), by simp only [execOp, Sem.run_pure], h117⟩
              · refine qstep_val (.int .i64 0) (by kernel_rfl) (by kernel_rfl) rfl (fun _ A1 W1 inv hnl hall => ⟨wanted_none rfl, ?_, rfl⟩)
                have h118 : A1.eval (.tmp 118) = .int .i64 0 := inv.get hall 8 118 (by kernel_rfl) (by kernel_rfl) rfl
                simp only [execOp, h118, Sem.run_pure]
            · intro listed A1 W1 inv hall
              have e111 : A1.eval (.tmp 111) = .pointer (some ⟨mp, 0, none⟩) := inv.fin 0 111 (by kernel_rfl) (hall 0 (Nat.lt_of_lt_of_eq (by decide : 0 < 11) (by kernel_rfl))) rfl
              have e112 : A1.eval (.tmp 112) = .agg #[.bool false, .int .i64 (N : Int), .int .u64 0, .int .u64 G, .int .u64 C] := inv.fin 1 112 (by kernel_rfl) (hall 1 (Nat.lt_of_lt_of_eq (by decide : 1 < 11) (by kernel_rfl))) rfl
              have e113 : A1.eval (.tmp 113) = .slice (some ⟨g, 0, none⟩) m sc := inv.fin 2 113 (by kernel_rfl) (hall 2 (Nat.lt_of_lt_of_eq (by decide : 2 < 11) (by kernel_rfl))) rfl
              have e114 : A1.eval (.tmp 114) = .pointer (some ⟨g, 0, none⟩) := inv.fin 3 114 (by kernel_rfl) (hall 3 (Nat.lt_of_lt_of_eq (by decide : 3 < 11) (by kernel_rfl))) rfl
              have e115 : A1.eval (.tmp 115) = .int .i64 ((wy h (2 * q + 1) N 0 : Nat) : Int) := inv.fin 4 115 (by kernel_rfl) (hall 4 (Nat.lt_of_lt_of_eq (by decide : 4 < 11) (by kernel_rfl))) rfl
              have e118 : A1.eval (.tmp 118) = .int .i64 0 := inv.fin 8 118 (by kernel_rfl) (hall 8 (Nat.lt_of_lt_of_eq (by decide : 8 < 11) (by kernel_rfl))) rfl
              have e23 : A1.eval (.tmp 23) = .int .i64 0 := inv.fin 10 23 (by kernel_rfl) (hall 10 (Nat.lt_of_lt_of_eq (by decide : 10 < 11) (by kernel_rfl))) rfl
              have p116 : (fun v W => ∃ a z, v = .tuple #[.slice a m z, .int .i64 0] ∧ SegsAt W (.slice a m z) (sgO m)) (A1.eval (.tmp 116)) W1 := inv.fin 5 116 (by kernel_rfl) (hall 5 (Nat.lt_of_lt_of_eq (by decide : 5 < 11) (by kernel_rfl))) rfl
              obtain ⟨v116, e116⟩ : ∃ v, A1.eval (.tmp 116) = v := ⟨_, rfl⟩
              rw [e116] at p116
              have p110 : (fun v W => ∃ a z, v = .tuple #[.slice a m z, .int .i64 0] ∧ SegsAt W (.slice a m z) (sgO m)) (A1.eval (.tmp 110)) W1 := inv.fin 6 110 (by kernel_rfl) (hall 6 (Nat.lt_of_lt_of_eq (by decide : 6 < 11) (by kernel_rfl))) rfl
              obtain ⟨v110, e110⟩ : ∃ v, A1.eval (.tmp 110) = v := ⟨_, rfl⟩
              rw [e110] at p110
              have p117 : (fun v W => ∃ a z, v = .slice a m z ∧ SegsAt W (.slice a m z) (sgO m)) (A1.eval (.tmp 117)) W1 := inv.fin 7 117 (by kernel_rfl) (hall 7 (Nat.lt_of_lt_of_eq (by decide : 7 < 11) (by kernel_rfl))) rfl
              obtain ⟨v117, e117⟩ : ∃ v, A1.eval (.tmp 117) = v := ⟨_, rfl⟩
              rw [e117] at p117
              have p22 : (fun v W => ∃ a z, v = .slice a m z ∧ SegsAt W (.slice a m z) (sgO m)) (A1.eval (.tmp 22)) W1 := inv.fin 9 22 (by kernel_rfl) (hall 9 (Nat.lt_of_lt_of_eq (by decide : 9 < 11) (by kernel_rfl))) rfl
              obtain ⟨v22, e22⟩ : ∃ v, A1.eval (.tmp 22) = v := ⟨_, rfl⟩
              rw [e22] at p22
              have HF := inv.frame hall
              have HS9 := hid_mk inv.s
              simp only [putEnd, e111, e112, e113, e114, e115, e118, e23, e116, e110, e117, e22, Act.put, List.setIfInBounds_toArray, List.set_cons_succ, List.set_cons_zero] at HF
              clear e111 e112 e113 e114 e115 e118 e23 e116 e110 e117 e22 inv hall
              subst HF
              obtain ⟨la, lz, rfl, hq⟩ := p22
              clear p110 p116 p117
              obtain ⟨U5, hU5⟩ : ∃ U5, U5 = W1 := ⟨_, rfl⟩
              rw [← hU5] at HS9 hq ⊢
              clear hU5
              have HM7 := hid_mk (HM6.out.below HS9.out)
              have HXR7 := hid_mk (HXR.out.below HS9.out)
              have HC7 := hid_mk ((HS9.out.cell (p := ⟨g, 0, none⟩) hgl).trans HC0.out)
              have hgl7 := Nat.lt_of_lt_of_le hgl HS9.out.size
              have HQ7 := hid_mk hq
              clear HS9 hq HM6 HXR HC0 hgl
              go_wp2_with fail
              refine wp_region_outl3 0 [] [] []
                  [(fun v _ => v = .pointer (some ⟨mp, 0, none⟩)),
                  (fun v _ => v = .agg #[.bool false, .int .i64 (N : Int), .int .u64 0, .int .u64 G, .int .u64 C]),
                  (fun v _ => v = .slice (some ⟨g, 0, none⟩) m sc),
                  (fun v _ => v = .pointer (some ⟨g, 0, none⟩)),
                  (fun v _ => v = .int .i64 ((wy h (2 * q + 1) N 0 : Nat) : Int)),
                  (fun v _ => v = .int .i64 (m : Int)),
                  (fun v _ => v = .int .i64 (m : Int)),
                  (fun v _ => v = .bool false)]
                  (Below U5.heap.size U5) (by kernel_rfl) (by kernel_rfl) (by kernel_rfl) ?_ (fun u u' hb h => h.trans (hb.mono h.size)) ((Below.refl _ _).drew) ?_ ?_ ?_ ?_ ?_
              · refine And.intro (up_eq _) ?_
                refine And.intro (up_eq _) ?_
                refine And.intro (up_eq _) ?_
                refine And.intro (up_eq _) ?_
                refine And.intro (up_eq _) ?_
                refine And.intro (up_eq _) ?_
                refine And.intro (up_eq _) ?_
                refine And.intro (up_eq _) ?_
                trivial
              · trivial
              · trivial
              · trivial
              · refine And.intro ?_ (And.intro ?_ (And.intro ?_ (And.intro ?_ (And.intro ?_ (And.intro ?_ (And.intro ?_ (And.intro ?_ (True.intro))))))))
                · refine qstep_val (.pointer (some ⟨mp, 0, none⟩)) (by kernel_rfl) (by kernel_rfl) rfl (fun _ A1 W1 inv hnl hall => ⟨wanted_none rfl, ?_, rfl⟩)
                  have h14 : A1.eval (.tmp 14) = .pointer (some ⟨mp, 0, none⟩) := (inv.base 14 (by kernel_rfl)).trans rfl
                  simp only [execOp, h14, Sem.run_pure]
                · refine qstep_val (.agg #[.bool false, .int .i64 (N : Int), .int .u64 0, .int .u64 G, .int .u64 C]) (by kernel_rfl) (by kernel_rfl) rfl (fun _ A1 W1 inv hnl hall => ⟨wanted_none rfl, ?_, rfl⟩)
                  have h16 : A1.eval (.tmp 16) = .pointer (some ⟨RB, 0, none⟩) := (inv.base 16 (by kernel_rfl)).trans rfl
                  simp only [execOp, h16, Sem.run_bind, loadRg (HXR7.out.below inv.s), Result.andThen_ok, Sem.run_pure]
                · refine qstep_val (.slice (some ⟨g, 0, none⟩) m sc) (by kernel_rfl) (by kernel_rfl) rfl (fun _ A1 W1 inv hnl hall => ⟨wanted_none rfl, ?_, rfl⟩)
                  have h18 : A1.eval (.tmp 18) = .slice (some ⟨g, 0, none⟩) m sc := (inv.base 18 (by kernel_rfl)).trans rfl
                  simp only [execOp, h18, Sem.run_pure]
                · refine qstep_val (.pointer (some ⟨g, 0, none⟩)) (by kernel_rfl) (by kernel_rfl) rfl (fun _ A1 W1 inv hnl hall => ⟨wanted_none rfl, ?_, rfl⟩)
                  have h121 : A1.eval (.tmp 121) = .slice (some ⟨g, 0, none⟩) m sc := inv.get hall 2 121 (by kernel_rfl) (by kernel_rfl) rfl
                  simp only [execOp, h121, eval_c]
                  simp [go_sem, show m ≠ 0 by omega]
                · refine qstep_val (.int .i64 ((wy h (2 * q + 1) N 0 : Nat) : Int)) (by kernel_rfl) (by kernel_rfl) rfl (fun _ A1 W1 inv hnl hall => ⟨wanted_none rfl, ?_, rfl⟩)
                  have h122 : A1.eval (.tmp 122) = .pointer (some ⟨g, 0, none⟩) := inv.get hall 3 122 (by kernel_rfl) (by kernel_rfl) rfl
                  have gg := (inv.s.cell (p := ⟨g, 0, none⟩) hgl7).trans HC7.out
                  simp only [execOp, h122]
                  simp [go_sem, gg]
                · refine qstep_call 15 (by kernel_rfl) _ _ (by kernel_rfl) (by kernel_rfl) rfl rfl (fun _ A1 W1 inv hnl hall => ⟨wanted_none rfl, #[.pointer (some ⟨mp, 0, none⟩), .agg #[.bool false, .int .i64 (N : Int), .int .u64 0, .int .u64 G, .int .u64 C], .int .i64 ((wy h (2 * q + 1) N 0 : Nat) : Int), .bool true], ?_, ?_⟩)
                  · have h119 : A1.eval (.tmp 119) = .pointer (some ⟨mp, 0, none⟩) := inv.get hall 0 119 (by kernel_rfl) (by kernel_rfl) rfl
                    have h120 : A1.eval (.tmp 120) = .agg #[.bool false, .int .i64 (N : Int), .int .u64 0, .int .u64 G, .int .u64 C] := inv.get hall 1 120 (by kernel_rfl) (by kernel_rfl) rfl
                    have h123 : A1.eval (.tmp 123) = .int .i64 ((wy h (2 * q + 1) N 0 : Nat) : Int) := inv.get hall 4 123 (by kernel_rfl) (by kernel_rfl) rfl
                    simp [h119, h120, h123, eval_c]
                  · refine (CN.out _ (HM7.out.below inv.s)).mono ?_
                    rintro e u ⟨rfl, hb⟩
                    exact ⟨_, rfl, rfl, hb⟩
                · refine qstep_val (.int .i64 (m : Int)) (by kernel_rfl) (by kernel_rfl) rfl (fun _ A1 W1 inv hnl hall => ⟨wanted_none rfl, ?_, rfl⟩)
                  have h3 : A1.eval (.tmp 3) = .int .i64 (m : Int) := (inv.base 3 (by kernel_rfl)).trans rfl
                  simp only [execOp, h3, Sem.run_pure]
                · refine qstep_val (.bool false) (by kernel_rfl) (by kernel_rfl) rfl (fun _ A1 W1 inv hnl hall => ⟨wanted_none rfl, ?_, rfl⟩)
                  have h124 : A1.eval (.tmp 124) = .int .i64 (m : Int) := inv.get hall 5 124 (by kernel_rfl) (by kernel_rfl) rfl
                  have h125 : A1.eval (.tmp 125) = .int .i64 (m : Int) := inv.get hall 6 125 (by kernel_rfl) (by kernel_rfl) rfl
                  simp only [execOp, h124, h125]
                  simp [go_sem]
              · intro listed A1 W1 inv hall
                have e119 : A1.eval (.tmp 119) = .pointer (some ⟨mp, 0, none⟩) := inv.fin 0 119 (by kernel_rfl) (hall 0 (Nat.lt_of_lt_of_eq (by decide : 0 < 8) (by kernel_rfl))) rfl
                have e120 : A1.eval (.tmp 120) = .agg #[.bool false, .int .i64 (N : Int), .int .u64 0, .int .u64 G, .int .u64 C] := inv.fin 1 120 (by kernel_rfl) (hall 1 (Nat.lt_of_lt_of_eq (by decide : 1 < 8) (by kernel_rfl))) rfl
                have e121 : A1.eval (.tmp 121) = .slice (some ⟨g, 0, none⟩) m sc := inv.fin 2 121 (by kernel_rfl) (hall 2 (Nat.lt_of_lt_of_eq (by decide : 2 < 8) (by kernel_rfl))) rfl
                have e122 : A1.eval (.tmp 122) = .pointer (some ⟨g, 0, none⟩) := inv.fin 3 122 (by kernel_rfl) (hall 3 (Nat.lt_of_lt_of_eq (by decide : 3 < 8) (by kernel_rfl))) rfl
                have e123 : A1.eval (.tmp 123) = .int .i64 ((wy h (2 * q + 1) N 0 : Nat) : Int) := inv.fin 4 123 (by kernel_rfl) (hall 4 (Nat.lt_of_lt_of_eq (by decide : 4 < 8) (by kernel_rfl))) rfl
                have e124 : A1.eval (.tmp 124) = .int .i64 (m : Int) := inv.fin 5 124 (by kernel_rfl) (hall 5 (Nat.lt_of_lt_of_eq (by decide : 5 < 8) (by kernel_rfl))) rfl
                have e125 : A1.eval (.tmp 125) = .int .i64 (m : Int) := inv.fin 6 125 (by kernel_rfl) (hall 6 (Nat.lt_of_lt_of_eq (by decide : 6 < 8) (by kernel_rfl))) rfl
                have e126 : A1.eval (.tmp 126) = .bool false := inv.fin 7 126 (by kernel_rfl) (hall 7 (Nat.lt_of_lt_of_eq (by decide : 7 < 8) (by kernel_rfl))) rfl
                have HF := inv.frame hall
                have HS9 := hid_mk inv.s
                simp only [putEnd, e119, e120, e121, e122, e123, e124, e125, e126, Act.put, List.setIfInBounds_toArray, List.set_cons_succ, List.set_cons_zero] at HF
                clear e119 e120 e121 e122 e123 e124 e125 e126 inv hall
                subst HF
                have HQ8 := hid_mk (HQ7.out.below HS9.out)
                have HB8 := hid_mk (HM7.out.below HS9.out).old
                clear HS9 HM7 HXR7 HC7 HQ7
                obtain ⟨lg, lo, hle, hlg, hlc⟩ := segs_row HQ8.out (by rw [sgO_len]; omega)
                subst hle
                rw [sgO_len] at hlc
                obtain ⟨U6, hU6⟩ : ∃ U6, U6 = W1 := ⟨_, rfl⟩
                rw [← hU6] at HB8 hlg hlc ⊢
                have HLC := hid_mk hlc
                clear hU6 hlc HQ8
                go_wp2_with fail
                go_loopw [24] (fun i wr => ∃ k : Nat, k ≤ m ∧ i = .int .i64 (k : Int) ∧ Hid (Below U6.heap.size U6 wr)) (fun i _ => m - (intOf i).toNat)
                case atStart => exact ⟨0, Nat.zero_le _, rfl, hid_mk (by first | exact Below.refl _ _ | exact (Below.refl _ _).drew | exact below_drewN _ _)⟩
                case round =>
                  obtain ⟨k, hk, rfl, hu⟩ := hrel
                  by_cases hlt : k < m
                  · have hki : (k : Int) < (m : Int) := by omega
                    obtain ⟨c0, c1, c2⟩ := HLC.out k hlt
                    rw [sgO_at hlt] at c0 c1 c2
                    simp only at c0 c1 c2
                    replace c0 := (hu.out.cell (p := ⟨lg, _, none⟩) hlg).trans c0
                    replace c1 := (hu.out.cell (p := ⟨lg, _, none⟩) hlg).trans c1
                    replace c2 := (hu.out.cell (p := ⟨lg, _, none⟩) hlg).trans c2
                    have hlg2 := Nat.lt_of_lt_of_le hlg hu.out.size
                    have hwr2 : IntKind.u64.wrap (8000 + (k : Int)) = 8000 + (k : Int) := IntWalk.u64_in _ (by omega)
                    have hwr3 : IntKind.i64.wrap (8000 + (k : Int)) = 8000 + (k : Int) := IntWalk.i64_in _ (by omega)
                    have hwr4 : IntKind.i64.wrap ((k : Int) + 1) = (k : Int) + 1 := IntWalk.i64_in _ (by omega)
                    have hnq := fun u => neqSg (8000 + (k : Int)) 1 (8000 + (k : Int)) 1 false false u
                    simp only [beq_self_eq_true, Bool.and_self, Bool.not_true] at hnq
                    go_wp2_with fail
                    go_roundw
                    case rel => exact ⟨k + 1, by omega, by simp, hid_mk (by first | exact hu.out | exact hu.out.drew | exact hu.out.trans (below_drewN _ _))⟩
                    case measure => simp [intOf]; omega
                  · obtain rfl : m = k := by omega
                    go_wp2_with fail
                    go_ret
                    exact ⟨rfl, below_then HB8.out hu.out⟩
          · skip
            obtain ⟨o1, o2, o3⟩ := HO.out
            simp only [if_true] at o1 o2
            have hw0 : wy h (2 * q + 1) N 0 < 64 := Nat.lt_of_lt_of_le (wy_lt (by omega)) hN2
            have CS : Hid (∀ u, MdS w mp ib qb R10 (onM Z (wy h (2 * q + 1) N) m b true m) u → Calls Try.prog 9 #[.pointer (some ⟨mp, 0, none⟩), .agg #[.bool false, .int .i64 (N : Int), .int .u64 0, .int .u64 G, .int .u64 C], .int .i64 ((wy h (2 * q + 1) N 0 : Nat) : Int), .bool true] u fun e u' => ∃ a z, e = .returned (.tuple #[.slice a 0 z, .int .i64 4]) ∧ SegsAt u' (.slice a 0 z) [] ∧ Below u.heap.size u u') := hid_mk (fun u hmm => hmm.split false (N : Int) 0 G C ((wy h (2 * q + 1) N 0 : Nat) : Int) true 4 [] 0 (by decide) uG hc0 ⟨by omega, by omega⟩ o1 (sameS_iff.2 o2) rfl)
            have CN : Hid (∀ u, MdS w mp ib qb R10 (onM Z (wy h (2 * q + 1) N) m b true m) u → Calls Try.prog 15 #[.pointer (some ⟨mp, 0, none⟩), .agg #[.bool false, .int .i64 (N : Int), .int .u64 0, .int .u64 G, .int .u64 C], .int .i64 ((wy h (2 * q + 1) N 0 : Nat) : Int), .bool true] u fun e u' => e = .returned (.int .i64 (m : Int)) ∧ Below u.heap.size u u') := hid_mk (fun u hmm => hmm.reads false (N : Int) 0 G C ((wy h (2 * q + 1) N 0 : Nat) : Int) true m (by decide) uG hc0 ⟨by omega, by omega⟩ o3)
            have hc0g := (hkp.out.row HGB.out (by decide) 0).trans (HGC.out 0 (by omega))
            have HC0 := hid_mk hc0g
            have hgl : g < wr.heap.size := Nat.lt_of_lt_of_le hg1 hkp.out.size
            have HXR := hid_mk (hkp.out.at XR2.out (by decide))
            have HM6 := hid_mk hld.out
            have h0m : (0 : Int) < (m : Int) := by omega
            clear o1 o2 o3 hc0g
            go_wp2_with fail
            refine wp_region_outl3 0 [] [] []
                [(fun v _ => v = .pointer (some ⟨mp, 0, none⟩)),
                (fun v _ => v = .agg #[.bool false, .int .i64 (N : Int), .int .u64 0, .int .u64 G, .int .u64 C]),
                (fun v _ => v = .slice (some ⟨g, 0, none⟩) m sc),
                (fun v _ => v = .pointer (some ⟨g, 0, none⟩)),
                (fun v _ => v = .int .i64 ((wy h (2 * q + 1) N 0 : Nat) : Int)),
                (fun v W => ∃ a z, v = .tuple #[.slice a 0 z, .int .i64 4] ∧ SegsAt W (.slice a 0 z) []),
                (fun v W => ∃ a z, v = .tuple #[.slice a 0 z, .int .i64 4] ∧ SegsAt W (.slice a 0 z) []),
                (fun v W => ∃ a z, v = .slice a 0 z ∧ SegsAt W (.slice a 0 z) []),
                (fun v _ => v = .int .i64 4),
                (fun v W => ∃ a z, v = .slice a 0 z ∧ SegsAt W (.slice a 0 z) []),
                (fun v _ => v = .int .i64 4)]
                (Below wr.heap.size wr) (by kernel_rfl) (by kernel_rfl) (by kernel_rfl) ?_ (fun u u' hb h => h.trans (hb.mono h.size)) ((Below.refl _ _).drew) ?_ ?_ ?_ ?_ ?_
            · refine And.intro (up_eq _) ?_
              refine And.intro (up_eq _) ?_
              refine And.intro (up_eq _) ?_
              refine And.intro (up_eq _) ?_
              refine And.intro (up_eq _) ?_
              refine And.intro (fun _ _ _ hb h => by obtain ⟨a, z, e, h⟩ := h; exact ⟨a, z, e, h.below hb⟩) ?_
              refine And.intro (fun _ _ _ hb h => by obtain ⟨a, z, e, h⟩ := h; exact ⟨a, z, e, h.below hb⟩) ?_
              refine And.intro (fun _ _ _ hb h => by obtain ⟨a, z, e, h⟩ := h; exact ⟨a, z, e, h.below hb⟩) ?_
              refine And.intro (up_eq _) ?_
              refine And.intro (fun _ _ _ hb h => by obtain ⟨a, z, e, h⟩ := h; exact ⟨a, z, e, h.below hb⟩) ?_
              refine And.intro (up_eq _) ?_
              trivial
            · trivial
            · trivial
            · trivial
            · refine And.intro ?_ (And.intro ?_ (And.intro ?_ (And.intro ?_ (And.intro ?_ (And.intro ?_ (And.intro ?_ (And.intro ?_ (And.intro ?_ (And.intro ?_ (And.intro ?_ (True.intro)))))))))))
              · refine qstep_val (.pointer (some ⟨mp, 0, none⟩)) (by kernel_rfl) (by kernel_rfl) rfl (fun _ A1 W1 inv hnl hall => ⟨wanted_none rfl, ?_, rfl⟩)
                have h14 : A1.eval (.tmp 14) = .pointer (some ⟨mp, 0, none⟩) := (inv.base 14 (by kernel_rfl)).trans rfl
                simp only [execOp, h14, Sem.run_pure]
              · refine qstep_val (.agg #[.bool false, .int .i64 (N : Int), .int .u64 0, .int .u64 G, .int .u64 C]) (by kernel_rfl) (by kernel_rfl) rfl (fun _ A1 W1 inv hnl hall => ⟨wanted_none rfl, ?_, rfl⟩)
                have h16 : A1.eval (.tmp 16) = .pointer (some ⟨RB, 0, none⟩) := (inv.base 16 (by kernel_rfl)).trans rfl
                simp only [execOp, h16, Sem.run_bind, loadRg (HXR.out.below inv.s), Result.andThen_ok, Sem.run_pure]
              · refine qstep_val (.slice (some ⟨g, 0, none⟩) m sc) (by kernel_rfl) (by kernel_rfl) rfl (fun _ A1 W1 inv hnl hall => ⟨wanted_none rfl, ?_, rfl⟩)
                have h18 : A1.eval (.tmp 18) = .slice (some ⟨g, 0, none⟩) m sc := (inv.base 18 (by kernel_rfl)).trans rfl
                simp only [execOp, h18, Sem.run_pure]
              · refine qstep_val (.pointer (some ⟨g, 0, none⟩)) (by kernel_rfl) (by kernel_rfl) rfl (fun _ A1 W1 inv hnl hall => ⟨wanted_none rfl, ?_, rfl⟩)
                have h113 : A1.eval (.tmp 113) = .slice (some ⟨g, 0, none⟩) m sc := inv.get hall 2 113 (by kernel_rfl) (by kernel_rfl) rfl
                simp only [execOp, h113, eval_c]
                simp [go_sem, show m ≠ 0 by omega]
              · refine qstep_val (.int .i64 ((wy h (2 * q + 1) N 0 : Nat) : Int)) (by kernel_rfl) (by kernel_rfl) rfl (fun _ A1 W1 inv hnl hall => ⟨wanted_none rfl, ?_, rfl⟩)
                have h114 : A1.eval (.tmp 114) = .pointer (some ⟨g, 0, none⟩) := inv.get hall 3 114 (by kernel_rfl) (by kernel_rfl) rfl
                have gg := (inv.s.cell (p := ⟨g, 0, none⟩) hgl).trans HC0.out
                simp only [execOp, h114]
                simp [go_sem, gg]
              · refine qstep_call 9 (by kernel_rfl) _ _ (by kernel_rfl) (by kernel_rfl) rfl rfl (fun _ A1 W1 inv hnl hall => ⟨wanted_none rfl, #[.pointer (some ⟨mp, 0, none⟩), .agg #[.bool false, .int .i64 (N : Int), .int .u64 0, .int .u64 G, .int .u64 C], .int .i64 ((wy h (2 * q + 1) N 0 : Nat) : Int), .bool true], ?_, ?_⟩)
                · have h111 : A1.eval (.tmp 111) = .pointer (some ⟨mp, 0, none⟩) := inv.get hall 0 111 (by kernel_rfl) (by kernel_rfl) rfl
                  have h112 : A1.eval (.tmp 112) = .agg #[.bool false, .int .i64 (N : Int), .int .u64 0, .int .u64 G, .int .u64 C] := inv.get hall 1 112 (by kernel_rfl) (by kernel_rfl) rfl
                  have h115 : A1.eval (.tmp 115) = .int .i64 ((wy h (2 * q + 1) N 0 : Nat) : Int) := inv.get hall 4 115 (by kernel_rfl) (by kernel_rfl) rfl
                  simp [h111, h112, h115, eval_c]
                · refine (CS.out _ (HM6.out.below inv.s)).mono ?_
                  rintro e u ⟨a, z, rfl, hq, hb⟩
                  exact ⟨_, rfl, ⟨a, z, rfl, hq⟩, hb⟩
              · refine qstep_ex (by kernel_rfl) (by kernel_rfl) rfl (fun _ A1 W1 inv hnl hall => ⟨wanted_none rfl, ?_⟩)
                have h116 : (fun v W => ∃ a z, v = .tuple #[.slice a 0 z, .int .i64 4] ∧ SegsAt W (.slice a 0 z) []) (A1.eval (.tmp 116)) W1 := inv.get hall 5 116 (by kernel_rfl) (by kernel_rfl) rfl
                exact ⟨A1.eval (.tmp 116), by simp only [execOp, Sem.run_pure], h116⟩
              · refine qstep_ex (by kernel_rfl) (by kernel_rfl) rfl (fun _ A1 W1 inv hnl hall => ⟨wanted_none rfl, ?_⟩)
                have h110 : (fun v W => ∃ a z, v = .tuple #[.slice a 0 z, .int .i64 4] ∧ SegsAt W (.slice a 0 z) []) (A1.eval (.tmp 110)) W1 := inv.get hall 6 110 (by kernel_rfl) (by kernel_rfl) rfl
                obtain ⟨a, z, hx, hi⟩ := h110
                refine ⟨.slice a 0 z, ?_, a, z, rfl, hi⟩
                simp only [execOp, hx]
                simp [go_sem]
              · refine qstep_val (.int .i64 4) (by kernel_rfl) (by kernel_rfl) rfl (fun _ A1 W1 inv hnl hall => ⟨wanted_none rfl, ?_, rfl⟩)
                have h110 : (fun v W => ∃ a z, v = .tuple #[.slice a 0 z, .int .i64 4] ∧ SegsAt W (.slice a 0 z) []) (A1.eval (.tmp 110)) W1 := inv.get hall 6 110 (by kernel_rfl) (by kernel_rfl) rfl
                obtain ⟨a, z, hx, hi⟩ := h110
                simp only [execOp, hx]
                simp [go_sem]
              · refine qstep_ex (by kernel_rfl) (by kernel_rfl) rfl (fun _ A1 W1 inv hnl hall => ⟨wanted_none rfl, ?_⟩)
                have h117 : (fun v W => ∃ a z, v = .slice a 0 z ∧ SegsAt W (.slice a 0 z) []) (A1.eval (.tmp 117)) W1 := inv.get hall 7 117 (by kernel_rfl) (by kernel_rfl) rfl
                exact ⟨A1.eval (.tmp 117), by simp only [execOp, Sem.run_pure], h117⟩
              · refine qstep_val (.int .i64 4) (by kernel_rfl) (by kernel_rfl) rfl (fun _ A1 W1 inv hnl hall => ⟨wanted_none rfl, ?_, rfl⟩)
                have h118 : A1.eval (.tmp 118) = .int .i64 4 := inv.get hall 8 118 (by kernel_rfl) (by kernel_rfl) rfl
                simp only [execOp, h118, Sem.run_pure]
            · intro listed A1 W1 inv hall
              have e111 : A1.eval (.tmp 111) = .pointer (some ⟨mp, 0, none⟩) := inv.fin 0 111 (by kernel_rfl) (hall 0 (Nat.lt_of_lt_of_eq (by decide : 0 < 11) (by kernel_rfl))) rfl
              have e112 : A1.eval (.tmp 112) = .agg #[.bool false, .int .i64 (N : Int), .int .u64 0, .int .u64 G, .int .u64 C] := inv.fin 1 112 (by kernel_rfl) (hall 1 (Nat.lt_of_lt_of_eq (by decide : 1 < 11) (by kernel_rfl))) rfl
              have e113 : A1.eval (.tmp 113) = .slice (some ⟨g, 0, none⟩) m sc := inv.fin 2 113 (by kernel_rfl) (hall 2 (Nat.lt_of_lt_of_eq (by decide : 2 < 11) (by kernel_rfl))) rfl
              have e114 : A1.eval (.tmp 114) = .pointer (some ⟨g, 0, none⟩) := inv.fin 3 114 (by kernel_rfl) (hall 3 (Nat.lt_of_lt_of_eq (by decide : 3 < 11) (by kernel_rfl))) rfl
              have e115 : A1.eval (.tmp 115) = .int .i64 ((wy h (2 * q + 1) N 0 : Nat) : Int) := inv.fin 4 115 (by kernel_rfl) (hall 4 (Nat.lt_of_lt_of_eq (by decide : 4 < 11) (by kernel_rfl))) rfl
              have e118 : A1.eval (.tmp 118) = .int .i64 4 := inv.fin 8 118 (by kernel_rfl) (hall 8 (Nat.lt_of_lt_of_eq (by decide : 8 < 11) (by kernel_rfl))) rfl
              have e23 : A1.eval (.tmp 23) = .int .i64 4 := inv.fin 10 23 (by kernel_rfl) (hall 10 (Nat.lt_of_lt_of_eq (by decide : 10 < 11) (by kernel_rfl))) rfl
              have p116 : (fun v W => ∃ a z, v = .tuple #[.slice a 0 z, .int .i64 4] ∧ SegsAt W (.slice a 0 z) []) (A1.eval (.tmp 116)) W1 := inv.fin 5 116 (by kernel_rfl) (hall 5 (Nat.lt_of_lt_of_eq (by decide : 5 < 11) (by kernel_rfl))) rfl
              obtain ⟨v116, e116⟩ : ∃ v, A1.eval (.tmp 116) = v := ⟨_, rfl⟩
              rw [e116] at p116
              have p110 : (fun v W => ∃ a z, v = .tuple #[.slice a 0 z, .int .i64 4] ∧ SegsAt W (.slice a 0 z) []) (A1.eval (.tmp 110)) W1 := inv.fin 6 110 (by kernel_rfl) (hall 6 (Nat.lt_of_lt_of_eq (by decide : 6 < 11) (by kernel_rfl))) rfl
              obtain ⟨v110, e110⟩ : ∃ v, A1.eval (.tmp 110) = v := ⟨_, rfl⟩
              rw [e110] at p110
              have p117 : (fun v W => ∃ a z, v = .slice a 0 z ∧ SegsAt W (.slice a 0 z) []) (A1.eval (.tmp 117)) W1 := inv.fin 7 117 (by kernel_rfl) (hall 7 (Nat.lt_of_lt_of_eq (by decide : 7 < 11) (by kernel_rfl))) rfl
              obtain ⟨v117, e117⟩ : ∃ v, A1.eval (.tmp 117) = v := ⟨_, rfl⟩
              rw [e117] at p117
              have p22 : (fun v W => ∃ a z, v = .slice a 0 z ∧ SegsAt W (.slice a 0 z) []) (A1.eval (.tmp 22)) W1 := inv.fin 9 22 (by kernel_rfl) (hall 9 (Nat.lt_of_lt_of_eq (by decide : 9 < 11) (by kernel_rfl))) rfl
              obtain ⟨v22, e22⟩ : ∃ v, A1.eval (.tmp 22) = v := ⟨_, rfl⟩
              rw [e22] at p22
              have HF := inv.frame hall
              have HS9 := hid_mk inv.s
              simp only [putEnd, e111, e112, e113, e114, e115, e118, e23, e116, e110, e117, e22, Act.put, List.setIfInBounds_toArray, List.set_cons_succ, List.set_cons_zero] at HF
              clear e111 e112 e113 e114 e115 e118 e23 e116 e110 e117 e22 inv hall
              subst HF
              obtain ⟨la, lz, rfl, hq⟩ := p22
              clear p110 p116 p117
              obtain ⟨U5, hU5⟩ : ∃ U5, U5 = W1 := ⟨_, rfl⟩
              rw [← hU5] at HS9 hq ⊢
              clear hU5
              have HM7 := hid_mk (HM6.out.below HS9.out)
              have HXR7 := hid_mk (HXR.out.below HS9.out)
              have HC7 := hid_mk ((HS9.out.cell (p := ⟨g, 0, none⟩) hgl).trans HC0.out)
              have hgl7 := Nat.lt_of_lt_of_le hgl HS9.out.size
              have HQ7 := hid_mk hq
              clear HS9 hq HM6 HXR HC0 hgl
              go_wp2_with fail
              refine wp_region_outl3 0 [] [] []
                  [(fun v _ => v = .pointer (some ⟨mp, 0, none⟩)),
                  (fun v _ => v = .agg #[.bool false, .int .i64 (N : Int), .int .u64 0, .int .u64 G, .int .u64 C]),
                  (fun v _ => v = .slice (some ⟨g, 0, none⟩) m sc),
                  (fun v _ => v = .pointer (some ⟨g, 0, none⟩)),
                  (fun v _ => v = .int .i64 ((wy h (2 * q + 1) N 0 : Nat) : Int)),
                  (fun v _ => v = .int .i64 (m : Int)),
                  (fun v _ => v = .int .i64 (m : Int)),
                  (fun v _ => v = .bool false)]
                  (Below U5.heap.size U5) (by kernel_rfl) (by kernel_rfl) (by kernel_rfl) ?_ (fun u u' hb h => h.trans (hb.mono h.size)) ((Below.refl _ _).drew) ?_ ?_ ?_ ?_ ?_
              · refine And.intro (up_eq _) ?_
                refine And.intro (up_eq _) ?_
                refine And.intro (up_eq _) ?_
                refine And.intro (up_eq _) ?_
                refine And.intro (up_eq _) ?_
                refine And.intro (up_eq _) ?_
                refine And.intro (up_eq _) ?_
                refine And.intro (up_eq _) ?_
                trivial
              · trivial
              · trivial
              · trivial
              · refine And.intro ?_ (And.intro ?_ (And.intro ?_ (And.intro ?_ (And.intro ?_ (And.intro ?_ (And.intro ?_ (And.intro ?_ (True.intro))))))))
                · refine qstep_val (.pointer (some ⟨mp, 0, none⟩)) (by kernel_rfl) (by kernel_rfl) rfl (fun _ A1 W1 inv hnl hall => ⟨wanted_none rfl, ?_, rfl⟩)
                  have h14 : A1.eval (.tmp 14) = .pointer (some ⟨mp, 0, none⟩) := (inv.base 14 (by kernel_rfl)).trans rfl
                  simp only [execOp, h14, Sem.run_pure]
                · refine qstep_val (.agg #[.bool false, .int .i64 (N : Int), .int .u64 0, .int .u64 G, .int .u64 C]) (by kernel_rfl) (by kernel_rfl) rfl (fun _ A1 W1 inv hnl hall => ⟨wanted_none rfl, ?_, rfl⟩)
                  have h16 : A1.eval (.tmp 16) = .pointer (some ⟨RB, 0, none⟩) := (inv.base 16 (by kernel_rfl)).trans rfl
                  simp only [execOp, h16, Sem.run_bind, loadRg (HXR7.out.below inv.s), Result.andThen_ok, Sem.run_pure]
                · refine qstep_val (.slice (some ⟨g, 0, none⟩) m sc) (by kernel_rfl) (by kernel_rfl) rfl (fun _ A1 W1 inv hnl hall => ⟨wanted_none rfl, ?_, rfl⟩)
                  have h18 : A1.eval (.tmp 18) = .slice (some ⟨g, 0, none⟩) m sc := (inv.base 18 (by kernel_rfl)).trans rfl
                  simp only [execOp, h18, Sem.run_pure]
                · refine qstep_val (.pointer (some ⟨g, 0, none⟩)) (by kernel_rfl) (by kernel_rfl) rfl (fun _ A1 W1 inv hnl hall => ⟨wanted_none rfl, ?_, rfl⟩)
                  have h121 : A1.eval (.tmp 121) = .slice (some ⟨g, 0, none⟩) m sc := inv.get hall 2 121 (by kernel_rfl) (by kernel_rfl) rfl
                  simp only [execOp, h121, eval_c]
                  simp [go_sem, show m ≠ 0 by omega]
                · refine qstep_val (.int .i64 ((wy h (2 * q + 1) N 0 : Nat) : Int)) (by kernel_rfl) (by kernel_rfl) rfl (fun _ A1 W1 inv hnl hall => ⟨wanted_none rfl, ?_, rfl⟩)
                  have h122 : A1.eval (.tmp 122) = .pointer (some ⟨g, 0, none⟩) := inv.get hall 3 122 (by kernel_rfl) (by kernel_rfl) rfl
                  have gg := (inv.s.cell (p := ⟨g, 0, none⟩) hgl7).trans HC7.out
                  simp only [execOp, h122]
                  simp [go_sem, gg]
                · refine qstep_call 15 (by kernel_rfl) _ _ (by kernel_rfl) (by kernel_rfl) rfl rfl (fun _ A1 W1 inv hnl hall => ⟨wanted_none rfl, #[.pointer (some ⟨mp, 0, none⟩), .agg #[.bool false, .int .i64 (N : Int), .int .u64 0, .int .u64 G, .int .u64 C], .int .i64 ((wy h (2 * q + 1) N 0 : Nat) : Int), .bool true], ?_, ?_⟩)
                  · have h119 : A1.eval (.tmp 119) = .pointer (some ⟨mp, 0, none⟩) := inv.get hall 0 119 (by kernel_rfl) (by kernel_rfl) rfl
                    have h120 : A1.eval (.tmp 120) = .agg #[.bool false, .int .i64 (N : Int), .int .u64 0, .int .u64 G, .int .u64 C] := inv.get hall 1 120 (by kernel_rfl) (by kernel_rfl) rfl
                    have h123 : A1.eval (.tmp 123) = .int .i64 ((wy h (2 * q + 1) N 0 : Nat) : Int) := inv.get hall 4 123 (by kernel_rfl) (by kernel_rfl) rfl
                    simp [h119, h120, h123, eval_c]
                  · refine (CN.out _ (HM7.out.below inv.s)).mono ?_
                    rintro e u ⟨rfl, hb⟩
                    exact ⟨_, rfl, rfl, hb⟩
                · refine qstep_val (.int .i64 (m : Int)) (by kernel_rfl) (by kernel_rfl) rfl (fun _ A1 W1 inv hnl hall => ⟨wanted_none rfl, ?_, rfl⟩)
                  have h3 : A1.eval (.tmp 3) = .int .i64 (m : Int) := (inv.base 3 (by kernel_rfl)).trans rfl
                  simp only [execOp, h3, Sem.run_pure]
                · refine qstep_val (.bool false) (by kernel_rfl) (by kernel_rfl) rfl (fun _ A1 W1 inv hnl hall => ⟨wanted_none rfl, ?_, rfl⟩)
                  have h124 : A1.eval (.tmp 124) = .int .i64 (m : Int) := inv.get hall 5 124 (by kernel_rfl) (by kernel_rfl) rfl
                  have h125 : A1.eval (.tmp 125) = .int .i64 (m : Int) := inv.get hall 6 125 (by kernel_rfl) (by kernel_rfl) rfl
                  simp only [execOp, h124, h125]
                  simp [go_sem]
              · intro listed A1 W1 inv hall
                have e119 : A1.eval (.tmp 119) = .pointer (some ⟨mp, 0, none⟩) := inv.fin 0 119 (by kernel_rfl) (hall 0 (Nat.lt_of_lt_of_eq (by decide : 0 < 8) (by kernel_rfl))) rfl
                have e120 : A1.eval (.tmp 120) = .agg #[.bool false, .int .i64 (N : Int), .int .u64 0, .int .u64 G, .int .u64 C] := inv.fin 1 120 (by kernel_rfl) (hall 1 (Nat.lt_of_lt_of_eq (by decide : 1 < 8) (by kernel_rfl))) rfl
                have e121 : A1.eval (.tmp 121) = .slice (some ⟨g, 0, none⟩) m sc := inv.fin 2 121 (by kernel_rfl) (hall 2 (Nat.lt_of_lt_of_eq (by decide : 2 < 8) (by kernel_rfl))) rfl
                have e122 : A1.eval (.tmp 122) = .pointer (some ⟨g, 0, none⟩) := inv.fin 3 122 (by kernel_rfl) (hall 3 (Nat.lt_of_lt_of_eq (by decide : 3 < 8) (by kernel_rfl))) rfl
                have e123 : A1.eval (.tmp 123) = .int .i64 ((wy h (2 * q + 1) N 0 : Nat) : Int) := inv.fin 4 123 (by kernel_rfl) (hall 4 (Nat.lt_of_lt_of_eq (by decide : 4 < 8) (by kernel_rfl))) rfl
                have e124 : A1.eval (.tmp 124) = .int .i64 (m : Int) := inv.fin 5 124 (by kernel_rfl) (hall 5 (Nat.lt_of_lt_of_eq (by decide : 5 < 8) (by kernel_rfl))) rfl
                have e125 : A1.eval (.tmp 125) = .int .i64 (m : Int) := inv.fin 6 125 (by kernel_rfl) (hall 6 (Nat.lt_of_lt_of_eq (by decide : 6 < 8) (by kernel_rfl))) rfl
                have e126 : A1.eval (.tmp 126) = .bool false := inv.fin 7 126 (by kernel_rfl) (hall 7 (Nat.lt_of_lt_of_eq (by decide : 7 < 8) (by kernel_rfl))) rfl
                have HF := inv.frame hall
                have HS9 := hid_mk inv.s
                simp only [putEnd, e119, e120, e121, e122, e123, e124, e125, e126, Act.put, List.setIfInBounds_toArray, List.set_cons_succ, List.set_cons_zero] at HF
                clear e119 e120 e121 e122 e123 e124 e125 e126 inv hall
                subst HF
                have HQ8 := hid_mk (HQ7.out.below HS9.out)
                have HB8 := hid_mk (HM7.out.below HS9.out).old
                clear HS9 HM7 HXR7 HC7 HQ7
                go_wp2_with fail
                go_ret
                exact ⟨rfl, HB8.out⟩

/-! ### the row's frame -/
theorem own : ownKnob Try.prog.godebug = none := by kernel_rfl
theorem laidOut : laidOutB Try.prog = true := by kernel_rfl

set_option maxRecDepth 100000 in
theorem lifted (os : Os) (started : os.Started) (H : Type) (enc : TypeId × Value → H) :
    ReturnsInHanded {} Try.checked os 6 .any (Rows.walkOnceSpec.pre6 enc Try.prog Try.f6 Rows.walkOnceRow.domain false) (Rows.walkOnceSpec.post enc Try.prog Try.f6 false true false false) := by
  refine returnsInHanded_of_change (C := Try.checked) own started (by kernel_rfl) Try.func6
    (ChangeSpec.witness6 (enc := enc) (C := Try.checked) false ⟨#[], #[.int .i64 0, .int .i64 0, .int .i64 0, .int .i64 0, .int .i64 0, .bool false], []⟩ 8 (by kernel_rfl) (by kernel_rfl) (by kernel_rfl) (by kernel_rfl)) ?_
  intro W base args ds gs before hval0 hW hcnd _
  have hval : ∀ (j : Nat) t v, Try.f6.params[j]? = some t → args[j]? = some v → Value.okWide Try.prog W .any base t v := hval0
  have hW' := hW
  obtain ⟨p, q, hA0, hV, rfl, hfz, hnd⟩ := hW
  have hA : DataW.TrodAll enc Try.prog W 0 (fun _ => true) true Try.f6.params.toList args.toList ds p := hA0
  rw [Try.params6] at hA hval
  obtain ⟨v0, vs0, d0, ds0, p0, q0, hargs, rfl, rfl, h0, r0⟩ := trodAll_cons hA
  obtain ⟨v1, vs1, d1, ds1, p1, q1, rfl, rfl, rfl, h1, r1⟩ := trodAll_cons r0
  obtain ⟨v2, vs2, d2, ds2, p2, q2, rfl, rfl, rfl, h2, r2⟩ := trodAll_cons r1
  obtain ⟨v3, vs3, d3, ds3, p3, q3, rfl, rfl, rfl, h3, r3⟩ := trodAll_cons r2
  obtain ⟨v4, vs4, d4, ds4, p4, q4, rfl, rfl, rfl, h4, r4⟩ := trodAll_cons r3
  obtain ⟨v5, vs5, d5, ds5, p5, q5, rfl, rfl, rfl, h5, r5⟩ := trodAll_cons r4
  obtain ⟨rfl, rfl, rfl⟩ := trodAll_nil r5
  obtain rfl : args = #[v0, v1, v2, v3, v4, v5] := by cases args; simp_all
  obtain ⟨rfl, rfl⟩ := trodVars_none hV
  have k0 := h0
  have lt0 : ∀ x ∈ p0, x.block < W.heap.size := by
    obtain ⟨m, hm⟩ := k0
    exact DataW.trod_lt m _ _ _ hm
  have k1 := h1
  have lt1 : ∀ x ∈ p1, x.block < W.heap.size := by
    obtain ⟨m, hm⟩ := k1
    exact DataW.trod_lt m _ _ _ hm
  have k2 := h2
  have lt2 : ∀ x ∈ p2, x.block < W.heap.size := by
    obtain ⟨m, hm⟩ := k2
    exact DataW.trod_lt m _ _ _ hm
  have k3 := h3
  have lt3 : ∀ x ∈ p3, x.block < W.heap.size := by
    obtain ⟨m, hm⟩ := k3
    exact DataW.trod_lt m _ _ _ hm
  have k4 := h4
  have lt4 : ∀ x ∈ p4, x.block < W.heap.size := by
    obtain ⟨m, hm⟩ := k4
    exact DataW.trod_lt m _ _ _ hm
  have k5 := h5
  have lt5 : ∀ x ∈ p5, x.block < W.heap.size := by
    obtain ⟨m, hm⟩ := k5
    exact DataW.trod_lt m _ _ _ hm
  obtain ⟨a0, rfl, rfl, rfl, w0⟩ := open_int Try.underlying3 (hval 0 3 v0 rfl rfl) h0
  obtain ⟨a1, rfl, rfl, rfl, w1⟩ := open_int Try.underlying3 (hval 1 3 v1 rfl rfl) h1
  obtain ⟨a2, rfl, rfl, rfl, w2⟩ := open_int Try.underlying3 (hval 2 3 v2 rfl rfl) h2
  obtain ⟨a3, rfl, rfl, rfl, w3⟩ := open_int Try.underlying3 (hval 3 3 v3 rfl rfl) h3
  obtain ⟨a4, rfl, rfl, rfl, w4⟩ := open_int Try.underlying3 (hval 4 3 v4 rfl rfl) h4
  obtain ⟨a5, rfl, rfl, rfl⟩ := open_bool Try.underlying4 (hval 5 4 v5 rfl rfl) h5
  clear hA0 hval0
  refine (walk W a0 a1 a2 a3 a4 a5 w0 w1 w2 w3 w4).mono fun e W' ⟨he, bel⟩ => ?_
  subst he
  exact ⟨_, rfl, _, _, _, [], _, [], hW', trodAll_mk1 (shut_bool Try.underlying4 _), (trodAll_cons_mk (Below.trod laidOut (by kernel_rfl) (of_decide_eq_true (by kernel_rfl)) k0 bel lt0) (trodAll_cons_mk (Below.trod laidOut (by kernel_rfl) (of_decide_eq_true (by kernel_rfl)) k1 bel lt1) (trodAll_cons_mk (Below.trod laidOut (by kernel_rfl) (of_decide_eq_true (by kernel_rfl)) k2 bel lt2) (trodAll_cons_mk (Below.trod laidOut (by kernel_rfl) (of_decide_eq_true (by kernel_rfl)) k3 bel lt3) (trodAll_cons_mk (Below.trod laidOut (by kernel_rfl) (of_decide_eq_true (by kernel_rfl)) k4 bel lt4) (trodAll_cons_mk (Below.trod laidOut (by kernel_rfl) (of_decide_eq_true (by kernel_rfl)) k5 bel lt5) trodAll_mk0)))))), rfl, bel.frame _, fun h => by cases h⟩

theorem over : Rows.walkOnceRow.holds Try.pinned (OpenSpec.ofChange Rows.walkOnceSpec) :=
  OpenClaim.holds_of_wide 6 Try.f6 rfl rfl rfl rfl rfl rfl rfl ⟨rfl, rfl, rfl, rfl, rfl⟩ rfl rfl rfl rfl rfl (by kernel_rfl) Try.func6 (by kernel_rfl)
    (of_decide_eq_true (by kernel_rfl)) (by unfold Func.isWrapper; first | (rw [if_pos (by decide +kernel)]; kernel_rfl) | (rw [if_neg (by decide +kernel)]; exact ⟨rfl, rfl⟩))
    (fun os started H enc _ => lifted os started H enc)

/-- THE STATEMENT -/
theorem walkOnce_holds : Rows.WalkOnceSaid := over
#print axioms walkOnce_holds
end Go.Proofs.Ytfhhgcgbgmilcaa.walkOnce
