/- GmemScript where calls are gone through. Conditions: as each theorem names them. -/
import Derived.Test.YtfjccpalkdmniaaSCpre
import Derived.Test.YtfjccpalkdmniaaOutl2
import Derived.Test.YtfjccpalkdmniaaMp0
import Derived.Deep.CutBlock
import Derived.Deep.CutRange
import Derived.BigQuiet
namespace Go.Proofs.Ytfjccpalkdmniaa.gmemScript
open Go.ChangeShapes Go.WideShapes Go.ChangeAt Go.RowKit
set_option linter.unusedVariables false
set_option maxRecDepth 100000

def newP (M : List Int) (v : Value) (w : World) : Prop := ∃ B, NewBytes B w v M
theorem up_newP (M : List Int) : Up (newP M) := fun v w w' hb ⟨B, h⟩ => ⟨B, h.below hb⟩
theorem conv_newP {M : List Int} {v : Value} {w : World} (h : newP M v w) : (convert 37 9 v).run Try.prog w = .ok (.string (strOfNums M)) w := by
  obtain ⟨B, h⟩ := h
  exact convN h
def regP (L : List (Int × Int)) (v : Value) (w : World) : Prop := RegsAt w v L
theorem up_regP (L : List (Int × Int)) : Up (regP L) := fun v w w' hb h => RegsAt.below h hb
/-- between two calls -/
structure ScS (w0 wr : World) (p ib qb base rp lb bb cL cB : Nat) (aB : Option Addr) (D : Nat → Nat) (L : List (Int × Int)) (M : List Int) : Prop where
  mem : IsMem wr p ib qb L M
  ref : IsRef wr base rp lb bb cL cB aB D L M
  bel : Below w0.heap.size w0 wr

theorem eval_c (a : Act) (v : Value) : a.eval (.const v) = v := rfl
/-- inside one act's calls: the program's bytes M1, the reference's M2, the act's cells -/
structure StS (w0 W : World) (p ib qb base rp lb bb cL cB : Nat) (aB : Option Addr) (D : Nat → Nat) (L : List (Int × Int)) (M1 M2 : List Int) (ab : Nat) (kd a sn v : Int) (x : Value) : Prop where
  mem : IsMem W p ib qb L M1
  ref : IsRef W base rp lb bb cL cB aB D L M2
  bel : Below w0.heap.size w0 W
  lt : ab < W.heap.size
  c1 : W.cell? ⟨ab, 1, none⟩ = some (.int .u64 a)
  c2 : W.cell? ⟨ab, 2, none⟩ = some (.int .i64 sn)
  c3 : W.cell? ⟨ab, 3, none⟩ = some (.int .u64 v)
  c4 : W.cell? ⟨ab, 4, none⟩ = some x
/-- where the blocks lie -/
structure Lay (w0 : World) (p ib qb base rp lb bb : Nat) (D : Nat → Nat) (L : List (Int × Int)) (ab : Nat) : Prop where
  b0 : w0.heap.size ≤ ib
  b1 : ib < base
  b2 : p < base
  b3 : qb < base
  r0 : base ≤ rp
  r1 : base ≤ lb
  r2 : 0 < L.length → base ≤ bb
  ai : ab ≠ ib
  an : ∀ j, j < L.length → ab ≠ D j
section
variable {w0 W W' : World} {p ib qb base rp lb bb cL cB : Nat} {aB : Option Addr} {D : Nat → Nat} {L : List (Int × Int)} {M1 M2 M : List Int} {ab : Nat} {kd a sn v : Int} {x : Value}
theorem StS.chg (h : StS w0 W p ib qb base rp lb bb cL cB aB D L M1 M2 ab kd a sn v x) (hl : Lay w0 p ib qb base rp lb bb D L ab) (hm : IsMem W' p ib qb L M) (hc : Chg (· = ib) W W') : StS w0 W' p ib qb base rp lb bb cL cB aB D L M M2 ab kd a sn v x := by
  have := hl.b1
  have := hl.r0
  have := hl.r1
  refine ⟨hm, h.ref.keep hc (by omega) (fun h0 => ?_) (fun j hj => ?_), Chg.since1 h.bel hc hl.b0, Nat.lt_of_lt_of_le h.lt hc.size, (hc.cell h.lt hl.ai).trans h.c1, (hc.cell h.lt hl.ai).trans h.c2, (hc.cell h.lt hl.ai).trans h.c3, (hc.cell h.lt hl.ai).trans h.c4⟩
  · have := hl.r2 h0
    omega
  · have := (h.ref.ne j hj).2.2.2
    omega
theorem StS.pcs (h : StS w0 W p ib qb base rp lb bb cL cB aB D L M1 M2 ab kd a sn v x) (hl : Lay w0 p ib qb base rp lb bb D L ab) (hm : IsRef W' base rp lb bb cL cB aB D L M) (hc : Chg (Pcs D L) W W') : StS w0 W' p ib qb base rp lb bb cL cB aB D L M1 M ab kd a sn v x := by
  have g0 := hl.b0
  have g1 := hl.b1
  have g2 := hl.b2
  have g3 := hl.b3
  have hn : ∀ k, Pcs D L k → base ≤ k := by
    rintro k ⟨j, hj, rfl⟩
    exact (h.ref.ne j hj).2.2.2
  have ha : ¬ Pcs D L ab := by
    rintro ⟨j, hj, e⟩
    exact hl.an j hj e
  refine ⟨h.mem.keep hc (fun e => ?_) (fun e => ?_) (fun e => ?_), hm, Chg.since h.bel hc (fun k hk => ?_), Nat.lt_of_lt_of_le h.lt hc.size, (hc.cell h.lt ha).trans h.c1, (hc.cell h.lt ha).trans h.c2, (hc.cell h.lt ha).trans h.c3, (hc.cell h.lt ha).trans h.c4⟩
  · have := hn _ e
    omega
  · have := hn _ e
    omega
  · have := hn _ e
    omega
  · have := hn _ hk
    omega
theorem StS.below (h : StS w0 W p ib qb base rp lb bb cL cB aB D L M1 M2 ab kd a sn v x) (hb : Below W.heap.size W W') : StS w0 W' p ib qb base rp lb bb cL cB aB D L M1 M2 ab kd a sn v x :=
  ⟨h.mem.below hb, h.ref.below hb, below_then h.bel hb, Nat.lt_of_lt_of_le h.lt hb.size, (hb.cell h.lt).trans h.c1, (hb.cell h.lt).trans h.c2, (hb.cell h.lt).trans h.c3, (hb.cell h.lt).trans h.c4⟩
end

set_option maxHeartbeats 8000000 in
theorem walk_main (w : World) (va vb : Option Addr) (vc vd : Nat) (L : List (Int × Int)) (hv0 : RegsAt w (.slice va L.length vc) L) (hb0 : isRegs L) (A : List ActT) (hv1 : ActsAt w (.slice vb A.length vd) A) (hb1 : isActs w A) (c1 : lightB L 20000 = true) (c2 : smallB A = true) (c3 : chkE L = 0) (h16 : L.length ≤ 16) (hok : okR (-1) 1048576 L = true) (h80 : A.length ≤ 80) (h2000 : ∀ j, j < A.length → (actAt A j).l.length ≤ 2000) :
    Calls Try.prog 3 #[.slice va L.length vc, .slice vb A.length vd] w fun e w' => e = .returned (.bool true) ∧ Below w.heap.size w w' := by
  have HV0 := hid_mk hv0
  have HU0 := hid_mk hb0
  have HV1 := hid_mk hv1
  have HU1 := hid_mk hb1
  have HL := hid_mk c1
  have HS := hid_mk c2
  have HC := hid_mk c3
  have HM := hid_mk h16
  have HOK := hid_mk hok
  have H80 := hid_mk h80
  have H20 := hid_mk h2000
  have hN : ∀ j, j < L.length → 0 ≤ (at_ L j).2 ∧ (at_ L j).2 ≤ 1048576 := fun j hj => by
    have := okR_at hok j hj
    omega
  have HN := hid_mk hN
  clear c1 c2 c3 h16 hok h80 h2000 hv0 hb0 hv1 hb1 hN
  go_enter Try.func3, Try.ntmps3
  go_wp2_with fail
  refine (lives_any _).mono ?_
  rintro e w1 ⟨rfl, hb⟩
  have B1 := hid_mk hb
  clear hb
  go_wp2_with fail
  refine (light_any _ L 20000 _ (HV0.out.below B1.out) HU0.out).mono ?_
  rw [HL.out]
  rintro e w' ⟨rfl, rfl⟩
  go_wp2_with fail
  refine (small_any _ A _ (HV1.out.below B1.out) (HU1.out.below B1.out)).mono ?_
  rw [HS.out]
  rintro e w' ⟨rfl, rfl⟩
  go_wp2_with fail
  refine (kregs_any _ L _ (HV0.out.below B1.out) (by have := HM.out; omega)).mono ?_
  rintro e w3 ⟨v3, rfl, hr3, hb⟩
  have R3 := hid_mk hr3
  have B3 := hid_mk (below_then B1.out hb)
  clear hb hr3
  go_wp2_with fail
  refine (new_any v3 L _ R3.out HU0.out (by have := HM.out; omega) HOK.out HM.out).mono ?_
  rintro e w4 ⟨p, ib, qb, rfl, hm, ⟨g1, g2, g3⟩, hb⟩
  have M4 := hid_mk hm
  have B4 := hid_mk (below_then B3.out hb)
  have hz3 := B3.out.size
  have hib : w.heap.size ≤ ib := by omega
  clear hb hm
  go_wp2_with fail
  refine (rnew_any _ L _ (HV0.out.below B4.out) HU0.out HOK.out HM.out HC.out HN.out).mono ?_
  rintro e w5 ⟨rp, lb, bb, cL, cB, aB, D, rfl, ⟨q1, q2, q3⟩, hi, hb⟩
  have B5 := hid_mk (below_then B4.out hb)
  have S5 := hid_mk (ScS.mk (w0 := w) (M4.out.below hb) hi B5.out)
  have HQ := hid_mk (And.intro q1 (And.intro q2 q3))
  have hibl := lt_blk M4.out.img
  have hpl := lt_blk M4.out.obj
  have hql := lt_blk M4.out.prt
  clear hb hi q1 q2 q3
  obtain ⟨base, hbase⟩ : ∃ base, base = w4.heap.size := ⟨_, rfl⟩
  rw [← hbase] at S5 HQ hibl hpl hql
  have HP := hid_mk (And.intro hib (And.intro hibl (And.intro hpl hql)))
  clear hpl hql
  clear hbase
  go_wp2_with fail
  refine (check_any _ L _ (HV0.out.below B5.out) HU0.out (by have := HM.out; omega)).mono ?_
  rw [HC.out]
  rintro e w6 ⟨rfl, hb⟩
  have S6 := hid_mk (ScS.mk (w0 := w) (S5.out.mem.below hb) (S5.out.ref.below hb) (below_then B5.out hb))
  clear hb
  go_wp2_with fail
  go_loopg [6, 8, 9] A.length (fun gk s6 s8 c wr => ∃ k : Nat, ∃ M x, k ≤ A.length ∧ c = .int .i64 k ∧ s6 = .int .i64 x ∧ s8 = .int .i64 x ∧ A.length - k ≤ gk ∧ Hid (ScS w wr p ib qb base rp lb bb cL cB aB D L M))
  case atStart => exact ⟨0, _, 0, Nat.zero_le _, rfl, rfl, rfl, Nat.le_refl _, S6⟩
  case round =>
    obtain ⟨k, M, x, hk, rfl, rfl, rfl, hgk, HS0⟩ := hrel
    by_cases hlt : k < A.length
    · obtain ⟨b, o, rfl, hbw, hcells⟩ : ∃ b o, vb = some ⟨b, o, none⟩ ∧ b < w.heap.size ∧ (∀ j, j < A.length → (w.cell? ⟨b, o + j * 5, none⟩ = some (.int .i64 (actAt A j).kind) ∧ w.cell? ⟨b, o + j * 5 + 1, none⟩ = some (.int .u64 (actAt A j).at_) ∧ w.cell? ⟨b, o + j * 5 + 2, none⟩ = some (.int .i64 (actAt A j).n) ∧ w.cell? ⟨b, o + j * 5 + 3, none⟩ = some (.int .u64 (actAt A j).v) ∧ w.cell? ⟨b, o + j * 5 + 4, none⟩ = some (actAt A j).b)) := by
        rcases HV1.out with ⟨_, rfl⟩ | ⟨b, o, c, h1, h2, _, h3⟩
        · simp at hlt
        · injection h1 with h1 _ _
          exact ⟨b, o, h1, h2, h3⟩
      obtain ⟨g0, g1, g2, g3, g4⟩ := hcells k hlt
      have hx := HU1.out k hlt
      have hxl := H20.out k hlt
      have hbe := HS0.out.bel
      have c0 := (hbe.cell (p := ⟨b, o + k * 5, none⟩) hbw).trans g0
      have c1 := (hbe.cell (p := ⟨b, o + k * 5 + 1, none⟩) hbw).trans g1
      have c2 := (hbe.cell (p := ⟨b, o + k * 5 + 2, none⟩) hbw).trans g2
      have c3 := (hbe.cell (p := ⟨b, o + k * 5 + 3, none⟩) hbw).trans g3
      have c4 := (hbe.cell (p := ⟨b, o + k * 5 + 4, none⟩) hbw).trans g4
      obtain ⟨ba, bc, hbv⟩ := hx.2.2.2.2.1.len
      obtain ⟨x1, x2, x3, x4, x5, x6, _⟩ := hx
      rw [hbv] at c4 x5
      have HX5 := hid_mk x5
      have HX6 := hid_mk x6
      have h80 := Nat.lt_of_lt_of_le hlt H80.out
      clear hcells g0 g1 g2 g3 g4 hbv x5 x6
      generalize (actAt A k).kind = kd at *
      generalize (actAt A k).at_ = a at *
      generalize (actAt A k).n = sn at *
      generalize (actAt A k).v = v at *
      generalize (actAt A k).l = l at *
      have kq0 := Int.emod_nonneg kd (show (5 : Int) ≠ 0 by omega)
      have kq1 := Int.emod_lt_of_pos kd (show (0 : Int) < 5 by omega)
      obtain ⟨q, hq⟩ : ∃ q : Nat, kd % 5 = q := ⟨(kd % 5).toNat, by omega⟩
      have hq5 : q < 5 := by omega
      have HQ5 := hid_mk hq
      clear kq0 kq1 hq
      go_wp2_with fail
      refine (pick_at kd 5 (q : Int) _ (by omega) (by omega) HQ5.out).mono ?_
      rintro e w7 ⟨rfl, hw7⟩
      obtain ⟨ab, hab⟩ : ∃ ab, ab = wr.heap.size := ⟨_, rfl⟩
      have hb7 : Below wr.heap.size wr w7 := by rw [← hw7]; exact (Below.refl _ _).alloc (Nat.le_refl _) _
      have hc7 : (w7.cell? ⟨ab, 0, none⟩ = some (.int .i64 kd) ∧ w7.cell? ⟨ab, 1, none⟩ = some (.int .u64 a) ∧ w7.cell? ⟨ab, 2, none⟩ = some (.int .i64 sn) ∧ w7.cell? ⟨ab, 3, none⟩ = some (.int .u64 v) ∧ w7.cell? ⟨ab, 4, none⟩ = some (.slice ba l.length bc)) ∧ ab < w7.heap.size := by
        rw [← hw7, hab]
        exact ⟨⟨by simp [go_sem], by simp [go_sem], by simp [go_sem], by simp [go_sem], by simp [go_sem]⟩, by rw [sizeA]; omega⟩
      have S7 := hid_mk (ScS.mk (w0 := w) (HS0.out.mem.below hb7) (HS0.out.ref.below hb7) (below_then HS0.out.bel hb7))
      rw [← hab]
      have hil := lt_blk HS0.out.mem.img
      have hai : ab ≠ ib := by omega
      have hna : ∀ j, j < L.length → ab ≠ D j := fun j hj e => by
        have := lt_blk (HS0.out.ref.parts j hj)
        omega
      have HAB := hid_mk (And.intro hai hna)
      clear hw7 hab hb7 c0 c1 c2 c3 c4 hbe hil hai hna
      have hnil : ∀ u, (convert 37 9 (.slice none 0 0)).run Try.prog u = .ok (.string (strOfNums [])) u := fun u => run_convert_bytes_nil u 37 5 Try.underlying37 Try.underlying5 0 0 9 Try.underlying9
      obtain ⟨⟨d0, d1, d2, d3, d4⟩, dl⟩ := hc7
      have h5 : q = 0 ∨ q = 1 ∨ q = 2 ∨ q = 3 ∨ q = 4 := by omega
      rcases h5 with rfl | rfl | rfl | rfl | rfl
      · -- Load
        go_wp2_with fail
        refine (load_any p ib qb L M a sn _ S7.out.mem x1).mono ?_
        rintro e w8 ⟨rfl, hb⟩
        have S8 := hid_mk (ScS.mk (w0 := w) (S7.out.mem.below hb) (S7.out.ref.below hb) (below_then S7.out.bel hb))
        have e1 := (hb.cell (p := ⟨ab, 1, none⟩) dl).trans d1
        have e2 := (hb.cell (p := ⟨ab, 2, none⟩) dl).trans d2
        clear hb d0 d1 d2 d3 d4
        go_wp2_with fail
        refine (rload_any base rp lb bb cL cB aB D L M a sn _ S8.out.ref x1).mono ?_
        rintro e w9 ⟨rfl, hb⟩
        have S9 := hid_mk (ScS.mk (w0 := w) (S8.out.mem.below hb) (S8.out.ref.below hb) (below_then S8.out.bel hb))
        clear hb e1 e2
        generalize loadV L M a sn = r0
        generalize accE L a sn = r1
        go_wp2_with fail
        go_roundg (A.length - (k + 1))
        case measure => omega
        case rel =>
          have h80' : k < 2000000 := by omega
          exact ⟨k + 1, M, _, by omega, by first | exact next64v k h80' | exact next64w k h80' | rfl, rfl, rfl, by omega, S9⟩
      · -- Store
        have HLY : Hid (Lay w p ib qb base rp lb bb D L ab) := hid_mk ⟨HP.out.1, HP.out.2.1, HP.out.2.2.1, HP.out.2.2.2, HQ.out.1, HQ.out.2.1, HQ.out.2.2, HAB.out.1, HAB.out.2⟩
        have HV64 := hid_mk x2
        have HS7 : Hid (StS w w7.drew p ib qb base rp lb bb cL cB aB D L M M ab kd a sn v (.slice ba l.length bc)) := hid_mk ((StS.mk S7.out.mem S7.out.ref S7.out.bel dl d1 d2 d3 d4).below (Below.refl _ _).drew)
        clear d0 d1 d2 d3 d4
        go_wp2_with fail
        refine wp_region_phases [7, 15]
          [.eq (.pointer (some ⟨p, 0, none⟩)), .eq (.pointer (some ⟨ab, 1, none⟩)), .eq (.int .u64 a), .eq (.pointer (some ⟨ab, 2, none⟩)), .eq (.int .i64 sn), .eq (.pointer (some ⟨ab, 3, none⟩)), .eq (.int .u64 v), .eq (.int .i64 (accE L a sn)), .eq (.pointer (some ⟨rp, 0, none⟩)), .eq (.pointer (some ⟨ab, 1, none⟩)), .eq (.int .u64 a), .eq (.pointer (some ⟨ab, 2, none⟩)), .eq (.int .i64 sn), .eq (.pointer (some ⟨ab, 3, none⟩)), .eq (.int .u64 v), .eq (.int .i64 (accE L a sn)), .eq (.int .i64 (accE L a sn)), .eq (.int .i64 (accE L a sn))]
          (fun t W => StS w W p ib qb base rp lb bb cL cB aB D L (if t = 0 then M else storeM L M a sn v) (if t = 2 then storeM L M a sn v else M) ab kd a sn v (.slice ba l.length bc)) (by kernel_rfl) (by kernel_rfl) (by kernel_rfl) HS7.out ?_ ?_
        · refine And.intro ?_ (And.intro ?_ (And.intro ?_ (And.intro ?_ (And.intro ?_ (And.intro ?_ (And.intro ?_ (And.intro ?_ (And.intro ?_ (And.intro ?_ (And.intro ?_ (And.intro ?_ (And.intro ?_ (And.intro ?_ (And.intro ?_ (And.intro ?_ (And.intro ?_ (And.intro ?_ (True.intro))))))))))))))))))
          · refine pstep_val (.pointer (some ⟨p, 0, none⟩)) (by kernel_rfl) (by kernel_rfl) (fun t1 l1 A1 W1 inv hall hlate => ⟨wanted_none rfl, ?_, rfl⟩)
            have h1 : A1.eval (.tmp 5) = .pointer (some ⟨p, 0, none⟩) := (inv.base 5 (by kernel_rfl)).trans rfl
            simp only [execOp, h1, Sem.run_pure]
          · refine pstep_val (.pointer (some ⟨ab, 1, none⟩)) (by kernel_rfl) (by kernel_rfl) (fun t1 l1 A1 W1 inv hall hlate => ⟨wanted_none rfl, ?_, rfl⟩)
            have h1 : A1.eval (.tmp 10) = .pointer (some ⟨ab, 0, none⟩) := (inv.base 10 (by kernel_rfl)).trans rfl
            simp only [execOp, h1]
            simp [go_sem]
          · refine pstep_val (.int .u64 a) (by kernel_rfl) (by kernel_rfl) (fun t1 l1 A1 W1 inv hall hlate => ⟨wanted_none rfl, ?_, rfl⟩)
            have h1 : A1.eval (.tmp 109) = .pointer (some ⟨ab, 1, none⟩) := inv.get hall 1 109 (by kernel_rfl) (by kernel_rfl)
            have g1 := inv.s.c1
            simp only [execOp, h1]
            simp [go_sem, g1]
          · refine pstep_val (.pointer (some ⟨ab, 2, none⟩)) (by kernel_rfl) (by kernel_rfl) (fun t1 l1 A1 W1 inv hall hlate => ⟨wanted_none rfl, ?_, rfl⟩)
            have h1 : A1.eval (.tmp 10) = .pointer (some ⟨ab, 0, none⟩) := (inv.base 10 (by kernel_rfl)).trans rfl
            simp only [execOp, h1]
            simp [go_sem]
          · refine pstep_val (.int .i64 sn) (by kernel_rfl) (by kernel_rfl) (fun t1 l1 A1 W1 inv hall hlate => ⟨wanted_none rfl, ?_, rfl⟩)
            have h1 : A1.eval (.tmp 111) = .pointer (some ⟨ab, 2, none⟩) := inv.get hall 3 111 (by kernel_rfl) (by kernel_rfl)
            have g2 := inv.s.c2
            simp only [execOp, h1]
            simp [go_sem, g2]
          · refine pstep_val (.pointer (some ⟨ab, 3, none⟩)) (by kernel_rfl) (by kernel_rfl) (fun t1 l1 A1 W1 inv hall hlate => ⟨wanted_none rfl, ?_, rfl⟩)
            have h1 : A1.eval (.tmp 10) = .pointer (some ⟨ab, 0, none⟩) := (inv.base 10 (by kernel_rfl)).trans rfl
            simp only [execOp, h1]
            simp [go_sem]
          · refine pstep_val (.int .u64 v) (by kernel_rfl) (by kernel_rfl) (fun t1 l1 A1 W1 inv hall hlate => ⟨wanted_none rfl, ?_, rfl⟩)
            have h1 : A1.eval (.tmp 113) = .pointer (some ⟨ab, 3, none⟩) := inv.get hall 5 113 (by kernel_rfl) (by kernel_rfl)
            have g3 := inv.s.c3
            simp only [execOp, h1]
            simp [go_sem, g3]
          · refine pstep_call 0 19 (by kernel_rfl) _ _ (by kernel_rfl) rfl rfl (fun l1 A1 W1 inv hall => ⟨wanted_none rfl, #[.pointer (some ⟨p, 0, none⟩), .int .u64 a, .int .i64 sn, .int .u64 v], ?_, ?_⟩)
            · have h0 : A1.eval (.tmp 108) = .pointer (some ⟨p, 0, none⟩) := inv.get hall 0 108 (by kernel_rfl) (by kernel_rfl)
              have h1 : A1.eval (.tmp 110) = .int .u64 a := inv.get hall 2 110 (by kernel_rfl) (by kernel_rfl)
              have h2 : A1.eval (.tmp 112) = .int .i64 sn := inv.get hall 4 112 (by kernel_rfl) (by kernel_rfl)
              have h3 : A1.eval (.tmp 114) = .int .u64 v := inv.get hall 6 114 (by kernel_rfl) (by kernel_rfl)
              simp only [List.map_toArray, List.map_cons, List.map_nil, h0, h1, h2, h3]
            · refine (store_any p ib qb L M a sn v W1 inv.s.mem x1 HV64.out).mono ?_
              rintro e W2 ⟨rfl, hm, hc⟩
              exact ⟨_, rfl, rfl, inv.s.chg HLY.out hm hc⟩
          · refine pstep_val (.pointer (some ⟨rp, 0, none⟩)) (by kernel_rfl) (by kernel_rfl) (fun t1 l1 A1 W1 inv hall hlate => ⟨wanted_none rfl, ?_, rfl⟩)
            have h1 : A1.eval (.tmp 7) = .pointer (some ⟨rp, 0, none⟩) := (inv.base 7 (by kernel_rfl)).trans rfl
            simp only [execOp, h1, Sem.run_pure]
          · refine pstep_val (.pointer (some ⟨ab, 1, none⟩)) (by kernel_rfl) (by kernel_rfl) (fun t1 l1 A1 W1 inv hall hlate => ⟨wanted_none rfl, ?_, rfl⟩)
            have h1 : A1.eval (.tmp 10) = .pointer (some ⟨ab, 0, none⟩) := (inv.base 10 (by kernel_rfl)).trans rfl
            simp only [execOp, h1]
            simp [go_sem]
          · refine pstep_val (.int .u64 a) (by kernel_rfl) (by kernel_rfl) (fun t1 l1 A1 W1 inv hall hlate => ⟨wanted_none rfl, ?_, rfl⟩)
            have h1 : A1.eval (.tmp 117) = .pointer (some ⟨ab, 1, none⟩) := inv.get hall 9 117 (by kernel_rfl) (by kernel_rfl)
            have g1 := inv.s.c1
            simp only [execOp, h1]
            simp [go_sem, g1]
          · refine pstep_val (.pointer (some ⟨ab, 2, none⟩)) (by kernel_rfl) (by kernel_rfl) (fun t1 l1 A1 W1 inv hall hlate => ⟨wanted_none rfl, ?_, rfl⟩)
            have h1 : A1.eval (.tmp 10) = .pointer (some ⟨ab, 0, none⟩) := (inv.base 10 (by kernel_rfl)).trans rfl
            simp only [execOp, h1]
            simp [go_sem]
          · refine pstep_val (.int .i64 sn) (by kernel_rfl) (by kernel_rfl) (fun t1 l1 A1 W1 inv hall hlate => ⟨wanted_none rfl, ?_, rfl⟩)
            have h1 : A1.eval (.tmp 119) = .pointer (some ⟨ab, 2, none⟩) := inv.get hall 11 119 (by kernel_rfl) (by kernel_rfl)
            have g2 := inv.s.c2
            simp only [execOp, h1]
            simp [go_sem, g2]
          · refine pstep_val (.pointer (some ⟨ab, 3, none⟩)) (by kernel_rfl) (by kernel_rfl) (fun t1 l1 A1 W1 inv hall hlate => ⟨wanted_none rfl, ?_, rfl⟩)
            have h1 : A1.eval (.tmp 10) = .pointer (some ⟨ab, 0, none⟩) := (inv.base 10 (by kernel_rfl)).trans rfl
            simp only [execOp, h1]
            simp [go_sem]
          · refine pstep_val (.int .u64 v) (by kernel_rfl) (by kernel_rfl) (fun t1 l1 A1 W1 inv hall hlate => ⟨wanted_none rfl, ?_, rfl⟩)
            have h1 : A1.eval (.tmp 121) = .pointer (some ⟨ab, 3, none⟩) := inv.get hall 13 121 (by kernel_rfl) (by kernel_rfl)
            have g3 := inv.s.c3
            simp only [execOp, h1]
            simp [go_sem, g3]
          · refine pstep_call 1 20 (by kernel_rfl) _ _ (by kernel_rfl) rfl rfl (fun l1 A1 W1 inv hall => ⟨wanted_none rfl, #[.pointer (some ⟨rp, 0, none⟩), .int .u64 a, .int .i64 sn, .int .u64 v], ?_, ?_⟩)
            · have h0 : A1.eval (.tmp 116) = .pointer (some ⟨rp, 0, none⟩) := inv.get hall 8 116 (by kernel_rfl) (by kernel_rfl)
              have h1 : A1.eval (.tmp 118) = .int .u64 a := inv.get hall 10 118 (by kernel_rfl) (by kernel_rfl)
              have h2 : A1.eval (.tmp 120) = .int .i64 sn := inv.get hall 12 120 (by kernel_rfl) (by kernel_rfl)
              have h3 : A1.eval (.tmp 122) = .int .u64 v := inv.get hall 14 122 (by kernel_rfl) (by kernel_rfl)
              simp only [List.map_toArray, List.map_cons, List.map_nil, h0, h1, h2, h3]
            · refine (rstore_any base rp lb bb cL cB aB D L M a sn v W1 inv.s.ref x1 HV64.out).mono ?_
              rintro e W2 ⟨rfl, hm, hc⟩
              exact ⟨_, rfl, rfl, inv.s.pcs HLY.out hm hc⟩
          · refine pstep_val (.int .i64 (accE L a sn)) (by kernel_rfl) (by kernel_rfl) (fun t1 l1 A1 W1 inv hall hlate => ⟨wanted_none rfl, ?_, rfl⟩)
            have h1 : A1.eval (.tmp 115) = .int .i64 (accE L a sn) := inv.get hall 7 115 (by kernel_rfl) (by kernel_rfl)
            simp only [execOp, h1, Sem.run_pure]
          · refine pstep_val (.int .i64 (accE L a sn)) (by kernel_rfl) (by kernel_rfl) (fun t1 l1 A1 W1 inv hall hlate => ⟨wanted_none rfl, ?_, rfl⟩)
            have h1 : A1.eval (.tmp 123) = .int .i64 (accE L a sn) := inv.get hall 15 123 (by kernel_rfl) (by kernel_rfl)
            simp only [execOp, h1, Sem.run_pure]
        · intro t1 l1 A1 W1 inv hall
          have ht : 2 ≤ t1 := (inv.phase 1 15 rfl).1 (hall 15 (Nat.lt_of_lt_of_eq (by decide : 15 < 18) (by kernel_rfl)))
          have ht2 : t1 = 2 := Nat.le_antisymm inv.tle ht
          subst ht2
          have e108 : A1.eval (.tmp 108) = .pointer (some ⟨p, 0, none⟩) := inv.fin 0 108 (by kernel_rfl) (hall 0 (Nat.lt_of_lt_of_eq (by decide : 0 < 18) (by kernel_rfl)))
          have e109 : A1.eval (.tmp 109) = .pointer (some ⟨ab, 1, none⟩) := inv.fin 1 109 (by kernel_rfl) (hall 1 (Nat.lt_of_lt_of_eq (by decide : 1 < 18) (by kernel_rfl)))
          have e110 : A1.eval (.tmp 110) = .int .u64 a := inv.fin 2 110 (by kernel_rfl) (hall 2 (Nat.lt_of_lt_of_eq (by decide : 2 < 18) (by kernel_rfl)))
          have e111 : A1.eval (.tmp 111) = .pointer (some ⟨ab, 2, none⟩) := inv.fin 3 111 (by kernel_rfl) (hall 3 (Nat.lt_of_lt_of_eq (by decide : 3 < 18) (by kernel_rfl)))
          have e112 : A1.eval (.tmp 112) = .int .i64 sn := inv.fin 4 112 (by kernel_rfl) (hall 4 (Nat.lt_of_lt_of_eq (by decide : 4 < 18) (by kernel_rfl)))
          have e113 : A1.eval (.tmp 113) = .pointer (some ⟨ab, 3, none⟩) := inv.fin 5 113 (by kernel_rfl) (hall 5 (Nat.lt_of_lt_of_eq (by decide : 5 < 18) (by kernel_rfl)))
          have e114 : A1.eval (.tmp 114) = .int .u64 v := inv.fin 6 114 (by kernel_rfl) (hall 6 (Nat.lt_of_lt_of_eq (by decide : 6 < 18) (by kernel_rfl)))
          have e115 : A1.eval (.tmp 115) = .int .i64 (accE L a sn) := inv.fin 7 115 (by kernel_rfl) (hall 7 (Nat.lt_of_lt_of_eq (by decide : 7 < 18) (by kernel_rfl)))
          have e116 : A1.eval (.tmp 116) = .pointer (some ⟨rp, 0, none⟩) := inv.fin 8 116 (by kernel_rfl) (hall 8 (Nat.lt_of_lt_of_eq (by decide : 8 < 18) (by kernel_rfl)))
          have e117 : A1.eval (.tmp 117) = .pointer (some ⟨ab, 1, none⟩) := inv.fin 9 117 (by kernel_rfl) (hall 9 (Nat.lt_of_lt_of_eq (by decide : 9 < 18) (by kernel_rfl)))
          have e118 : A1.eval (.tmp 118) = .int .u64 a := inv.fin 10 118 (by kernel_rfl) (hall 10 (Nat.lt_of_lt_of_eq (by decide : 10 < 18) (by kernel_rfl)))
          have e119 : A1.eval (.tmp 119) = .pointer (some ⟨ab, 2, none⟩) := inv.fin 11 119 (by kernel_rfl) (hall 11 (Nat.lt_of_lt_of_eq (by decide : 11 < 18) (by kernel_rfl)))
          have e120 : A1.eval (.tmp 120) = .int .i64 sn := inv.fin 12 120 (by kernel_rfl) (hall 12 (Nat.lt_of_lt_of_eq (by decide : 12 < 18) (by kernel_rfl)))
          have e121 : A1.eval (.tmp 121) = .pointer (some ⟨ab, 3, none⟩) := inv.fin 13 121 (by kernel_rfl) (hall 13 (Nat.lt_of_lt_of_eq (by decide : 13 < 18) (by kernel_rfl)))
          have e122 : A1.eval (.tmp 122) = .int .u64 v := inv.fin 14 122 (by kernel_rfl) (hall 14 (Nat.lt_of_lt_of_eq (by decide : 14 < 18) (by kernel_rfl)))
          have e123 : A1.eval (.tmp 123) = .int .i64 (accE L a sn) := inv.fin 15 123 (by kernel_rfl) (hall 15 (Nat.lt_of_lt_of_eq (by decide : 15 < 18) (by kernel_rfl)))
          have e6 : A1.eval (.tmp 6) = .int .i64 (accE L a sn) := inv.fin 16 6 (by kernel_rfl) (hall 16 (Nat.lt_of_lt_of_eq (by decide : 16 < 18) (by kernel_rfl)))
          have e8 : A1.eval (.tmp 8) = .int .i64 (accE L a sn) := inv.fin 17 8 (by kernel_rfl) (hall 17 (Nat.lt_of_lt_of_eq (by decide : 17 < 18) (by kernel_rfl)))
          have HF := inv.frame hall
          have HS8 := hid_mk inv.s
          simp only [putEnd, e108, e109, e110, e111, e112, e113, e114, e115, e116, e117, e118, e119, e120, e121, e122, e123, e6, e8] at HF
          clear e108 e109 e110 e111 e112 e113 e114 e115 e116 e117 e118 e119 e120 e121 e122 e123 e6 e8 ht inv hall
          subst HF
          have S9 : Hid (ScS w W1 p ib qb base rp lb bb cL cB aB D L (storeM L M a sn v)) := hid_mk ⟨HS8.out.mem, HS8.out.ref, HS8.out.bel⟩
          go_wp2_with fail
          go_roundg (A.length - (k + 1))
          case measure => omega
          case rel =>
            have h80' : k < 2000000 := by omega
            exact ⟨k + 1, _, _, by omega, by first | exact next64v k h80' | exact next64w k h80' | rfl, rfl, rfl, by omega, S9⟩
      · -- Read
        go_wp2_with fail
        refine (read_any p ib qb L M a (min sn 5000) _ S7.out.mem x1 (by omega)).mono ?_
        rintro e w8 ⟨v8, rfl, hn8, hb⟩
        have S8 := hid_mk (ScS.mk (w0 := w) (S7.out.mem.below hb) (S7.out.ref.below hb) (below_then S7.out.bel hb))
        have e1 := (hb.cell (p := ⟨ab, 1, none⟩) dl).trans d1
        clear hb d0 d1 d2 d3 d4
        go_wp2_with fail
        refine (rread_any base rp lb bb cL cB aB D L M a (min sn 5000) _ S8.out.ref x1 (by omega)).mono ?_
        rintro e w9 ⟨v9, rfl, hn9, hb⟩
        have S9 := hid_mk (ScS.mk (w0 := w) (S8.out.mem.below hb) (S8.out.ref.below hb) (below_then S8.out.bel hb))
        have hc8 := convN (hn8.below hb)
        have hc9 := convN hn9
        clear hb e1 hn8 hn9 hnil
        generalize readL L M a (min sn 5000) = r0 at *
        generalize readE L a (min sn 5000) = r1 at *
        go_wp2_with fail
        go_roundg (A.length - (k + 1))
        case measure => omega
        case rel =>
          have h80' : k < 2000000 := by omega
          exact ⟨k + 1, M, _, by omega, by first | exact next64v k h80' | exact next64w k h80' | rfl, rfl, rfl, by omega, S9⟩
      · -- Write
        have HLY : Hid (Lay w p ib qb base rp lb bb D L ab) := hid_mk ⟨HP.out.1, HP.out.2.1, HP.out.2.2.1, HP.out.2.2.2, HQ.out.1, HQ.out.2.1, HQ.out.2.2, HAB.out.1, HAB.out.2⟩
        have HV64 := hid_mk x2
        have HS7 : Hid (StS w w7.drew p ib qb base rp lb bb cL cB aB D L M M ab kd a sn v (.slice ba l.length bc)) := hid_mk ((StS.mk S7.out.mem S7.out.ref S7.out.bel dl d1 d2 d3 d4).below (Below.refl _ _).drew)
        clear d0 d1 d2 d3 d4
        go_wp2_with fail
        refine wp_region_phases [5, 6, 12]
          [.eq (.pointer (some ⟨p, 0, none⟩)), .eq (.pointer (some ⟨ab, 1, none⟩)), .eq (.int .u64 a), .eq (.pointer (some ⟨ab, 4, none⟩)), .eq (.slice ba l.length bc), .nxt 0 (fun v W => BytesAt W v l), .eq (.int .i64 (writeE L a l)), .eq (.pointer (some ⟨rp, 0, none⟩)), .eq (.pointer (some ⟨ab, 1, none⟩)), .eq (.int .u64 a), .eq (.pointer (some ⟨ab, 4, none⟩)), .eq (.slice ba l.length bc), .eq (.int .i64 (writeE L a l)), .eq (.int .i64 (writeE L a l)), .eq (.int .i64 (writeE L a l))]
          (fun t W => StS w W p ib qb base rp lb bb cL cB aB D L (if t = 0 then M else if t = 1 then M else writeM L M a l) (if t = 3 then writeM L M a l else M) ab kd a sn v (.slice ba l.length bc)) (by kernel_rfl) (by kernel_rfl) (by kernel_rfl) HS7.out ?_ ?_
        · refine And.intro ?_ (And.intro ?_ (And.intro ?_ (And.intro ?_ (And.intro ?_ (And.intro ?_ (And.intro ?_ (And.intro ?_ (And.intro ?_ (And.intro ?_ (And.intro ?_ (And.intro ?_ (And.intro ?_ (And.intro ?_ (And.intro ?_ (True.intro)))))))))))))))
          · refine pstep_val (.pointer (some ⟨p, 0, none⟩)) (by kernel_rfl) (by kernel_rfl) (fun t1 l1 A1 W1 inv hall hlate => ⟨wanted_none rfl, ?_, rfl⟩)
            have h1 : A1.eval (.tmp 5) = .pointer (some ⟨p, 0, none⟩) := (inv.base 5 (by kernel_rfl)).trans rfl
            simp only [execOp, h1, Sem.run_pure]
          · refine pstep_val (.pointer (some ⟨ab, 1, none⟩)) (by kernel_rfl) (by kernel_rfl) (fun t1 l1 A1 W1 inv hall hlate => ⟨wanted_none rfl, ?_, rfl⟩)
            have h1 : A1.eval (.tmp 10) = .pointer (some ⟨ab, 0, none⟩) := (inv.base 10 (by kernel_rfl)).trans rfl
            simp only [execOp, h1]
            simp [go_sem]
          · refine pstep_val (.int .u64 a) (by kernel_rfl) (by kernel_rfl) (fun t1 l1 A1 W1 inv hall hlate => ⟨wanted_none rfl, ?_, rfl⟩)
            have h1 : A1.eval (.tmp 148) = .pointer (some ⟨ab, 1, none⟩) := inv.get hall 1 148 (by kernel_rfl) (by kernel_rfl)
            have g1 := inv.s.c1
            simp only [execOp, h1]
            simp [go_sem, g1]
          · refine pstep_val (.pointer (some ⟨ab, 4, none⟩)) (by kernel_rfl) (by kernel_rfl) (fun t1 l1 A1 W1 inv hall hlate => ⟨wanted_none rfl, ?_, rfl⟩)
            have h1 : A1.eval (.tmp 10) = .pointer (some ⟨ab, 0, none⟩) := (inv.base 10 (by kernel_rfl)).trans rfl
            simp only [execOp, h1]
            simp [go_sem]
          · refine pstep_val (.slice ba l.length bc) (by kernel_rfl) (by kernel_rfl) (fun t1 l1 A1 W1 inv hall hlate => ⟨wanted_none rfl, ?_, rfl⟩)
            have h1 : A1.eval (.tmp 150) = .pointer (some ⟨ab, 4, none⟩) := inv.get hall 3 150 (by kernel_rfl) (by kernel_rfl)
            have g4 := inv.s.c4
            simp only [execOp, h1]
            simp [go_sem, g4]
          · refine pstep_call 0 24 (by kernel_rfl) _ _ (by kernel_rfl) rfl rfl (fun l1 A1 W1 inv hall => ⟨wanted_none rfl, #[.slice ba l.length bc], ?_, ?_⟩)
            · have h0 : A1.eval (.tmp 151) = .slice ba l.length bc := inv.get hall 4 151 (by kernel_rfl) (by kernel_rfl)
              simp only [List.map_toArray, List.map_cons, List.map_nil, h0]
            · refine (own_any _ l W1 (HX5.out.below inv.s.bel) (by omega)).mono ?_
              rintro e W2 ⟨v', rfl, hn, hb⟩
              exact ⟨v', rfl, fun _ => hn.at, inv.s.below hb⟩
          · refine pstep_call 1 23 (by kernel_rfl) _ _ (by kernel_rfl) rfl rfl (fun l1 A1 W1 inv hall => ⟨wanted_none rfl, #[.pointer (some ⟨p, 0, none⟩), .int .u64 a, A1.eval (.tmp 152)], ?_, ?_⟩)
            · have h0 : A1.eval (.tmp 147) = .pointer (some ⟨p, 0, none⟩) := inv.get hall 0 147 (by kernel_rfl) (by kernel_rfl)
              have h1 : A1.eval (.tmp 149) = .int .u64 a := inv.get hall 2 149 (by kernel_rfl) (by kernel_rfl)
              simp only [List.map_toArray, List.map_cons, List.map_nil, h0, h1]
            · have hp : BytesAt W1 (A1.eval (.tmp 152)) l := (inv.get hall 5 152 (by kernel_rfl) (by kernel_rfl) : 1 = 0 + 1 → _) rfl
              refine (write_any p ib qb L M a _ l W1 inv.s.mem x1 hp HX6.out (by omega)).mono ?_
              rintro e W2 ⟨rfl, hm, hc⟩
              exact ⟨_, rfl, rfl, inv.s.chg HLY.out hm hc⟩
          · refine pstep_val (.pointer (some ⟨rp, 0, none⟩)) (by kernel_rfl) (by kernel_rfl) (fun t1 l1 A1 W1 inv hall hlate => ⟨wanted_none rfl, ?_, rfl⟩)
            have h1 : A1.eval (.tmp 7) = .pointer (some ⟨rp, 0, none⟩) := (inv.base 7 (by kernel_rfl)).trans rfl
            simp only [execOp, h1, Sem.run_pure]
          · refine pstep_val (.pointer (some ⟨ab, 1, none⟩)) (by kernel_rfl) (by kernel_rfl) (fun t1 l1 A1 W1 inv hall hlate => ⟨wanted_none rfl, ?_, rfl⟩)
            have h1 : A1.eval (.tmp 10) = .pointer (some ⟨ab, 0, none⟩) := (inv.base 10 (by kernel_rfl)).trans rfl
            simp only [execOp, h1]
            simp [go_sem]
          · refine pstep_val (.int .u64 a) (by kernel_rfl) (by kernel_rfl) (fun t1 l1 A1 W1 inv hall hlate => ⟨wanted_none rfl, ?_, rfl⟩)
            have h1 : A1.eval (.tmp 155) = .pointer (some ⟨ab, 1, none⟩) := inv.get hall 8 155 (by kernel_rfl) (by kernel_rfl)
            have g1 := inv.s.c1
            simp only [execOp, h1]
            simp [go_sem, g1]
          · refine pstep_val (.pointer (some ⟨ab, 4, none⟩)) (by kernel_rfl) (by kernel_rfl) (fun t1 l1 A1 W1 inv hall hlate => ⟨wanted_none rfl, ?_, rfl⟩)
            have h1 : A1.eval (.tmp 10) = .pointer (some ⟨ab, 0, none⟩) := (inv.base 10 (by kernel_rfl)).trans rfl
            simp only [execOp, h1]
            simp [go_sem]
          · refine pstep_val (.slice ba l.length bc) (by kernel_rfl) (by kernel_rfl) (fun t1 l1 A1 W1 inv hall hlate => ⟨wanted_none rfl, ?_, rfl⟩)
            have h1 : A1.eval (.tmp 157) = .pointer (some ⟨ab, 4, none⟩) := inv.get hall 10 157 (by kernel_rfl) (by kernel_rfl)
            have g4 := inv.s.c4
            simp only [execOp, h1]
            simp [go_sem, g4]
          · refine pstep_call 2 25 (by kernel_rfl) _ _ (by kernel_rfl) rfl rfl (fun l1 A1 W1 inv hall => ⟨wanted_none rfl, #[.pointer (some ⟨rp, 0, none⟩), .int .u64 a, .slice ba l.length bc], ?_, ?_⟩)
            · have h0 : A1.eval (.tmp 154) = .pointer (some ⟨rp, 0, none⟩) := inv.get hall 7 154 (by kernel_rfl) (by kernel_rfl)
              have h1 : A1.eval (.tmp 156) = .int .u64 a := inv.get hall 9 156 (by kernel_rfl) (by kernel_rfl)
              have h2 : A1.eval (.tmp 158) = .slice ba l.length bc := inv.get hall 11 158 (by kernel_rfl) (by kernel_rfl)
              simp only [List.map_toArray, List.map_cons, List.map_nil, h0, h1, h2]
            · refine (rwrite_any base rp lb bb cL cB aB D L M a _ l W1 inv.s.ref x1 (HX5.out.below inv.s.bel) HX6.out (by omega)).mono ?_
              rintro e W2 ⟨rfl, hm, hc⟩
              exact ⟨_, rfl, rfl, inv.s.pcs HLY.out hm hc⟩
          · refine pstep_val (.int .i64 (writeE L a l)) (by kernel_rfl) (by kernel_rfl) (fun t1 l1 A1 W1 inv hall hlate => ⟨wanted_none rfl, ?_, rfl⟩)
            have h1 : A1.eval (.tmp 153) = .int .i64 (writeE L a l) := inv.get hall 6 153 (by kernel_rfl) (by kernel_rfl)
            simp only [execOp, h1, Sem.run_pure]
          · refine pstep_val (.int .i64 (writeE L a l)) (by kernel_rfl) (by kernel_rfl) (fun t1 l1 A1 W1 inv hall hlate => ⟨wanted_none rfl, ?_, rfl⟩)
            have h1 : A1.eval (.tmp 159) = .int .i64 (writeE L a l) := inv.get hall 12 159 (by kernel_rfl) (by kernel_rfl)
            simp only [execOp, h1, Sem.run_pure]
        · intro t1 l1 A1 W1 inv hall
          have ht : 3 ≤ t1 := (inv.phase 2 12 rfl).1 (hall 12 (Nat.lt_of_lt_of_eq (by decide : 12 < 15) (by kernel_rfl)))
          have ht2 : t1 = 3 := Nat.le_antisymm inv.tle ht
          subst ht2
          have e147 : A1.eval (.tmp 147) = .pointer (some ⟨p, 0, none⟩) := inv.fin 0 147 (by kernel_rfl) (hall 0 (Nat.lt_of_lt_of_eq (by decide : 0 < 15) (by kernel_rfl)))
          have e148 : A1.eval (.tmp 148) = .pointer (some ⟨ab, 1, none⟩) := inv.fin 1 148 (by kernel_rfl) (hall 1 (Nat.lt_of_lt_of_eq (by decide : 1 < 15) (by kernel_rfl)))
          have e149 : A1.eval (.tmp 149) = .int .u64 a := inv.fin 2 149 (by kernel_rfl) (hall 2 (Nat.lt_of_lt_of_eq (by decide : 2 < 15) (by kernel_rfl)))
          have e150 : A1.eval (.tmp 150) = .pointer (some ⟨ab, 4, none⟩) := inv.fin 3 150 (by kernel_rfl) (hall 3 (Nat.lt_of_lt_of_eq (by decide : 3 < 15) (by kernel_rfl)))
          have e151 : A1.eval (.tmp 151) = .slice ba l.length bc := inv.fin 4 151 (by kernel_rfl) (hall 4 (Nat.lt_of_lt_of_eq (by decide : 4 < 15) (by kernel_rfl)))
          obtain ⟨v152, e152⟩ : ∃ v, A1.eval (.tmp 152) = v := ⟨_, rfl⟩
          have e153 : A1.eval (.tmp 153) = .int .i64 (writeE L a l) := inv.fin 6 153 (by kernel_rfl) (hall 6 (Nat.lt_of_lt_of_eq (by decide : 6 < 15) (by kernel_rfl)))
          have e154 : A1.eval (.tmp 154) = .pointer (some ⟨rp, 0, none⟩) := inv.fin 7 154 (by kernel_rfl) (hall 7 (Nat.lt_of_lt_of_eq (by decide : 7 < 15) (by kernel_rfl)))
          have e155 : A1.eval (.tmp 155) = .pointer (some ⟨ab, 1, none⟩) := inv.fin 8 155 (by kernel_rfl) (hall 8 (Nat.lt_of_lt_of_eq (by decide : 8 < 15) (by kernel_rfl)))
          have e156 : A1.eval (.tmp 156) = .int .u64 a := inv.fin 9 156 (by kernel_rfl) (hall 9 (Nat.lt_of_lt_of_eq (by decide : 9 < 15) (by kernel_rfl)))
          have e157 : A1.eval (.tmp 157) = .pointer (some ⟨ab, 4, none⟩) := inv.fin 10 157 (by kernel_rfl) (hall 10 (Nat.lt_of_lt_of_eq (by decide : 10 < 15) (by kernel_rfl)))
          have e158 : A1.eval (.tmp 158) = .slice ba l.length bc := inv.fin 11 158 (by kernel_rfl) (hall 11 (Nat.lt_of_lt_of_eq (by decide : 11 < 15) (by kernel_rfl)))
          have e159 : A1.eval (.tmp 159) = .int .i64 (writeE L a l) := inv.fin 12 159 (by kernel_rfl) (hall 12 (Nat.lt_of_lt_of_eq (by decide : 12 < 15) (by kernel_rfl)))
          have e6 : A1.eval (.tmp 6) = .int .i64 (writeE L a l) := inv.fin 13 6 (by kernel_rfl) (hall 13 (Nat.lt_of_lt_of_eq (by decide : 13 < 15) (by kernel_rfl)))
          have e8 : A1.eval (.tmp 8) = .int .i64 (writeE L a l) := inv.fin 14 8 (by kernel_rfl) (hall 14 (Nat.lt_of_lt_of_eq (by decide : 14 < 15) (by kernel_rfl)))
          have HF := inv.frame hall
          have HS8 := hid_mk inv.s
          simp only [putEnd, e147, e148, e149, e150, e151, e152, e153, e154, e155, e156, e157, e158, e159, e6, e8] at HF
          clear e147 e148 e149 e150 e151 e152 e153 e154 e155 e156 e157 e158 e159 e6 e8 ht inv hall
          subst HF
          have S9 : Hid (ScS w W1 p ib qb base rp lb bb cL cB aB D L (writeM L M a l)) := hid_mk ⟨HS8.out.mem, HS8.out.ref, HS8.out.bel⟩
          go_wp2_with fail
          go_roundg (A.length - (k + 1))
          case measure => omega
          case rel =>
            have h80' : k < 2000000 := by omega
            exact ⟨k + 1, _, _, by omega, by first | exact next64v k h80' | exact next64w k h80' | rfl, rfl, rfl, by omega, S9⟩
      · -- Has
        have HLY : Hid (Lay w p ib qb base rp lb bb D L ab) := hid_mk ⟨HP.out.1, HP.out.2.1, HP.out.2.2.1, HP.out.2.2.2, HQ.out.1, HQ.out.2.1, HQ.out.2.2, HAB.out.1, HAB.out.2⟩
        have HV64 := hid_mk x2
        have HS7 : Hid (StS w w7.drew p ib qb base rp lb bb cL cB aB D L M M ab kd a sn v (.slice ba l.length bc)) := hid_mk ((StS.mk S7.out.mem S7.out.ref S7.out.bel dl d1 d2 d3 d4).below (Below.refl _ _).drew)
        clear d0 d1 d2 d3 d4
        go_wp2_with fail
        refine wp_region_phases [5, 11]
          [.eq (.pointer (some ⟨p, 0, none⟩)), .eq (.pointer (some ⟨ab, 1, none⟩)), .eq (.int .u64 a), .eq (.pointer (some ⟨ab, 3, none⟩)), .eq (.int .u64 v), .eq (.bool (loc L a v).isSome), .eq (.pointer (some ⟨rp, 0, none⟩)), .eq (.pointer (some ⟨ab, 1, none⟩)), .eq (.int .u64 a), .eq (.pointer (some ⟨ab, 3, none⟩)), .eq (.int .u64 v), .eq (.bool (loc L a v).isSome), .eq (.bool (loc L a v).isSome), .eq (.bool (loc L a v).isSome)]
          (fun t W => StS w W p ib qb base rp lb bb cL cB aB D L M M ab kd a sn v (.slice ba l.length bc)) (by kernel_rfl) (by kernel_rfl) (by kernel_rfl) HS7.out ?_ ?_
        · refine And.intro ?_ (And.intro ?_ (And.intro ?_ (And.intro ?_ (And.intro ?_ (And.intro ?_ (And.intro ?_ (And.intro ?_ (And.intro ?_ (And.intro ?_ (And.intro ?_ (And.intro ?_ (And.intro ?_ (And.intro ?_ (True.intro))))))))))))))
          · refine pstep_val (.pointer (some ⟨p, 0, none⟩)) (by kernel_rfl) (by kernel_rfl) (fun t1 l1 A1 W1 inv hall hlate => ⟨wanted_none rfl, ?_, rfl⟩)
            have h1 : A1.eval (.tmp 5) = .pointer (some ⟨p, 0, none⟩) := (inv.base 5 (by kernel_rfl)).trans rfl
            simp only [execOp, h1, Sem.run_pure]
          · refine pstep_val (.pointer (some ⟨ab, 1, none⟩)) (by kernel_rfl) (by kernel_rfl) (fun t1 l1 A1 W1 inv hall hlate => ⟨wanted_none rfl, ?_, rfl⟩)
            have h1 : A1.eval (.tmp 10) = .pointer (some ⟨ab, 0, none⟩) := (inv.base 10 (by kernel_rfl)).trans rfl
            simp only [execOp, h1]
            simp [go_sem]
          · refine pstep_val (.int .u64 a) (by kernel_rfl) (by kernel_rfl) (fun t1 l1 A1 W1 inv hall hlate => ⟨wanted_none rfl, ?_, rfl⟩)
            have h1 : A1.eval (.tmp 75) = .pointer (some ⟨ab, 1, none⟩) := inv.get hall 1 75 (by kernel_rfl) (by kernel_rfl)
            have g1 := inv.s.c1
            simp only [execOp, h1]
            simp [go_sem, g1]
          · refine pstep_val (.pointer (some ⟨ab, 3, none⟩)) (by kernel_rfl) (by kernel_rfl) (fun t1 l1 A1 W1 inv hall hlate => ⟨wanted_none rfl, ?_, rfl⟩)
            have h1 : A1.eval (.tmp 10) = .pointer (some ⟨ab, 0, none⟩) := (inv.base 10 (by kernel_rfl)).trans rfl
            simp only [execOp, h1]
            simp [go_sem]
          · refine pstep_val (.int .u64 v) (by kernel_rfl) (by kernel_rfl) (fun t1 l1 A1 W1 inv hall hlate => ⟨wanted_none rfl, ?_, rfl⟩)
            have h1 : A1.eval (.tmp 77) = .pointer (some ⟨ab, 3, none⟩) := inv.get hall 3 77 (by kernel_rfl) (by kernel_rfl)
            have g3 := inv.s.c3
            simp only [execOp, h1]
            simp [go_sem, g3]
          · refine pstep_call 0 26 (by kernel_rfl) _ _ (by kernel_rfl) rfl rfl (fun l1 A1 W1 inv hall => ⟨wanted_none rfl, #[.pointer (some ⟨p, 0, none⟩), .int .u64 a, .int .u64 v], ?_, ?_⟩)
            · have h0 : A1.eval (.tmp 74) = .pointer (some ⟨p, 0, none⟩) := inv.get hall 0 74 (by kernel_rfl) (by kernel_rfl)
              have h1 : A1.eval (.tmp 76) = .int .u64 a := inv.get hall 2 76 (by kernel_rfl) (by kernel_rfl)
              have h2 : A1.eval (.tmp 78) = .int .u64 v := inv.get hall 4 78 (by kernel_rfl) (by kernel_rfl)
              simp only [List.map_toArray, List.map_cons, List.map_nil, h0, h1, h2]
            · refine (has_any p ib qb L M a v W1 inv.s.mem x1 HV64.out).mono ?_
              rintro e W2 ⟨rfl, hb⟩
              exact ⟨_, rfl, rfl, inv.s.below hb⟩
          · refine pstep_val (.pointer (some ⟨rp, 0, none⟩)) (by kernel_rfl) (by kernel_rfl) (fun t1 l1 A1 W1 inv hall hlate => ⟨wanted_none rfl, ?_, rfl⟩)
            have h1 : A1.eval (.tmp 7) = .pointer (some ⟨rp, 0, none⟩) := (inv.base 7 (by kernel_rfl)).trans rfl
            simp only [execOp, h1, Sem.run_pure]
          · refine pstep_val (.pointer (some ⟨ab, 1, none⟩)) (by kernel_rfl) (by kernel_rfl) (fun t1 l1 A1 W1 inv hall hlate => ⟨wanted_none rfl, ?_, rfl⟩)
            have h1 : A1.eval (.tmp 10) = .pointer (some ⟨ab, 0, none⟩) := (inv.base 10 (by kernel_rfl)).trans rfl
            simp only [execOp, h1]
            simp [go_sem]
          · refine pstep_val (.int .u64 a) (by kernel_rfl) (by kernel_rfl) (fun t1 l1 A1 W1 inv hall hlate => ⟨wanted_none rfl, ?_, rfl⟩)
            have h1 : A1.eval (.tmp 81) = .pointer (some ⟨ab, 1, none⟩) := inv.get hall 7 81 (by kernel_rfl) (by kernel_rfl)
            have g1 := inv.s.c1
            simp only [execOp, h1]
            simp [go_sem, g1]
          · refine pstep_val (.pointer (some ⟨ab, 3, none⟩)) (by kernel_rfl) (by kernel_rfl) (fun t1 l1 A1 W1 inv hall hlate => ⟨wanted_none rfl, ?_, rfl⟩)
            have h1 : A1.eval (.tmp 10) = .pointer (some ⟨ab, 0, none⟩) := (inv.base 10 (by kernel_rfl)).trans rfl
            simp only [execOp, h1]
            simp [go_sem]
          · refine pstep_val (.int .u64 v) (by kernel_rfl) (by kernel_rfl) (fun t1 l1 A1 W1 inv hall hlate => ⟨wanted_none rfl, ?_, rfl⟩)
            have h1 : A1.eval (.tmp 83) = .pointer (some ⟨ab, 3, none⟩) := inv.get hall 9 83 (by kernel_rfl) (by kernel_rfl)
            have g3 := inv.s.c3
            simp only [execOp, h1]
            simp [go_sem, g3]
          · refine pstep_call 1 27 (by kernel_rfl) _ _ (by kernel_rfl) rfl rfl (fun l1 A1 W1 inv hall => ⟨wanted_none rfl, #[.pointer (some ⟨rp, 0, none⟩), .int .u64 a, .int .u64 v], ?_, ?_⟩)
            · have h0 : A1.eval (.tmp 80) = .pointer (some ⟨rp, 0, none⟩) := inv.get hall 6 80 (by kernel_rfl) (by kernel_rfl)
              have h1 : A1.eval (.tmp 82) = .int .u64 a := inv.get hall 8 82 (by kernel_rfl) (by kernel_rfl)
              have h2 : A1.eval (.tmp 84) = .int .u64 v := inv.get hall 10 84 (by kernel_rfl) (by kernel_rfl)
              simp only [List.map_toArray, List.map_cons, List.map_nil, h0, h1, h2]
            · refine (rhas_any base rp lb bb cL cB aB D L M a v W1 inv.s.ref x1 HV64.out).mono ?_
              rintro e W2 ⟨rfl, hb⟩
              exact ⟨_, rfl, rfl, inv.s.below hb⟩
          · refine pstep_val (.bool (loc L a v).isSome) (by kernel_rfl) (by kernel_rfl) (fun t1 l1 A1 W1 inv hall hlate => ⟨wanted_none rfl, ?_, rfl⟩)
            have h1 : A1.eval (.tmp 79) = .bool (loc L a v).isSome := inv.get hall 5 79 (by kernel_rfl) (by kernel_rfl)
            simp only [execOp, h1, Sem.run_pure]
          · refine pstep_val (.bool (loc L a v).isSome) (by kernel_rfl) (by kernel_rfl) (fun t1 l1 A1 W1 inv hall hlate => ⟨wanted_none rfl, ?_, rfl⟩)
            have h1 : A1.eval (.tmp 85) = .bool (loc L a v).isSome := inv.get hall 11 85 (by kernel_rfl) (by kernel_rfl)
            simp only [execOp, h1, Sem.run_pure]
        · intro t1 l1 A1 W1 inv hall
          have ht : 2 ≤ t1 := (inv.phase 1 11 rfl).1 (hall 11 (Nat.lt_of_lt_of_eq (by decide : 11 < 14) (by kernel_rfl)))
          have ht2 : t1 = 2 := Nat.le_antisymm inv.tle ht
          subst ht2
          have e74 : A1.eval (.tmp 74) = .pointer (some ⟨p, 0, none⟩) := inv.fin 0 74 (by kernel_rfl) (hall 0 (Nat.lt_of_lt_of_eq (by decide : 0 < 14) (by kernel_rfl)))
          have e75 : A1.eval (.tmp 75) = .pointer (some ⟨ab, 1, none⟩) := inv.fin 1 75 (by kernel_rfl) (hall 1 (Nat.lt_of_lt_of_eq (by decide : 1 < 14) (by kernel_rfl)))
          have e76 : A1.eval (.tmp 76) = .int .u64 a := inv.fin 2 76 (by kernel_rfl) (hall 2 (Nat.lt_of_lt_of_eq (by decide : 2 < 14) (by kernel_rfl)))
          have e77 : A1.eval (.tmp 77) = .pointer (some ⟨ab, 3, none⟩) := inv.fin 3 77 (by kernel_rfl) (hall 3 (Nat.lt_of_lt_of_eq (by decide : 3 < 14) (by kernel_rfl)))
          have e78 : A1.eval (.tmp 78) = .int .u64 v := inv.fin 4 78 (by kernel_rfl) (hall 4 (Nat.lt_of_lt_of_eq (by decide : 4 < 14) (by kernel_rfl)))
          have e79 : A1.eval (.tmp 79) = .bool (loc L a v).isSome := inv.fin 5 79 (by kernel_rfl) (hall 5 (Nat.lt_of_lt_of_eq (by decide : 5 < 14) (by kernel_rfl)))
          have e80 : A1.eval (.tmp 80) = .pointer (some ⟨rp, 0, none⟩) := inv.fin 6 80 (by kernel_rfl) (hall 6 (Nat.lt_of_lt_of_eq (by decide : 6 < 14) (by kernel_rfl)))
          have e81 : A1.eval (.tmp 81) = .pointer (some ⟨ab, 1, none⟩) := inv.fin 7 81 (by kernel_rfl) (hall 7 (Nat.lt_of_lt_of_eq (by decide : 7 < 14) (by kernel_rfl)))
          have e82 : A1.eval (.tmp 82) = .int .u64 a := inv.fin 8 82 (by kernel_rfl) (hall 8 (Nat.lt_of_lt_of_eq (by decide : 8 < 14) (by kernel_rfl)))
          have e83 : A1.eval (.tmp 83) = .pointer (some ⟨ab, 3, none⟩) := inv.fin 9 83 (by kernel_rfl) (hall 9 (Nat.lt_of_lt_of_eq (by decide : 9 < 14) (by kernel_rfl)))
          have e84 : A1.eval (.tmp 84) = .int .u64 v := inv.fin 10 84 (by kernel_rfl) (hall 10 (Nat.lt_of_lt_of_eq (by decide : 10 < 14) (by kernel_rfl)))
          have e85 : A1.eval (.tmp 85) = .bool (loc L a v).isSome := inv.fin 11 85 (by kernel_rfl) (hall 11 (Nat.lt_of_lt_of_eq (by decide : 11 < 14) (by kernel_rfl)))
          have e13 : A1.eval (.tmp 13) = .bool (loc L a v).isSome := inv.fin 12 13 (by kernel_rfl) (hall 12 (Nat.lt_of_lt_of_eq (by decide : 12 < 14) (by kernel_rfl)))
          have e14 : A1.eval (.tmp 14) = .bool (loc L a v).isSome := inv.fin 13 14 (by kernel_rfl) (hall 13 (Nat.lt_of_lt_of_eq (by decide : 13 < 14) (by kernel_rfl)))
          have HF := inv.frame hall
          have HS8 := hid_mk inv.s
          simp only [putEnd, e74, e75, e76, e77, e78, e79, e80, e81, e82, e83, e84, e85, e13, e14] at HF
          clear e74 e75 e76 e77 e78 e79 e80 e81 e82 e83 e84 e85 e13 e14 ht inv hall
          subst HF
          generalize (loc L a v).isSome = r0
          have S9 : Hid (ScS w W1 p ib qb base rp lb bb cL cB aB D L (M)) := hid_mk ⟨HS8.out.mem, HS8.out.ref, HS8.out.bel⟩
          go_wp2_with fail
          go_roundg (A.length - (k + 1))
          case measure => omega
          case rel =>
            have h80' : k < 2000000 := by omega
            exact ⟨k + 1, _, _, by omega, by first | exact next64v k h80' | exact next64w k h80' | rfl, rfl, rfl, by omega, S9⟩
    · obtain rfl : k = A.length := by omega
      go_wp2_with fail
      refine wp_region_outl
        [(fun v _ => v = .pointer (some ⟨p, 0, none⟩)),
        (newP M),
        (fun v _ => v = .string (strOfNums M)),
        (fun v _ => v = .pointer (some ⟨rp, 0, none⟩)),
        (newP M),
        (fun v _ => v = .string (strOfNums M)),
        (fun v _ => v = .bool true),
        (fun v _ => v = .bool true),
        (fun v _ => v = .pointer (some ⟨p, 0, none⟩)),
        (regP L),
        (fun v _ => v = .slice va L.length vc),
        (fun v _ => v = .bool true),
        (fun v _ => v = .bool true),
        (fun v _ => v = .bool true)]
        (fun u => Below wr.heap.size wr u) (by kernel_rfl) (by kernel_rfl) ?_ (fun u u' hb h => h.trans (hb.mono h.size)) ((Below.refl _ _).drew) ?_ ?_
      · refine And.intro (up_eq _) ?_
        refine And.intro (up_newP _) ?_
        refine And.intro (up_eq _) ?_
        refine And.intro (up_eq _) ?_
        refine And.intro (up_newP _) ?_
        refine And.intro (up_eq _) ?_
        refine And.intro (up_eq _) ?_
        refine And.intro (up_eq _) ?_
        refine And.intro (up_eq _) ?_
        refine And.intro (up_regP _) ?_
        refine And.intro (up_eq _) ?_
        refine And.intro (up_eq _) ?_
        refine And.intro (up_eq _) ?_
        refine And.intro (up_eq _) ?_
        trivial
      · refine And.intro ?_ (And.intro ?_ (And.intro ?_ (And.intro ?_ (And.intro ?_ (And.intro ?_ (And.intro ?_ (And.intro ?_ (And.intro ?_ (And.intro ?_ (And.intro ?_ (And.intro ?_ (And.intro ?_ (And.intro ?_ (True.intro))))))))))))))
        · refine ostep_val (.pointer (some ⟨p, 0, none⟩)) (by kernel_rfl) (fun _ A1 W1 inv hall => ⟨wanted_none rfl, ?_, rfl⟩)
          have h5 : A1.eval (.tmp 5) = .pointer (some ⟨p, 0, none⟩) := (inv.base 5 (by kernel_rfl)).trans rfl
          simp only [execOp, h5, Sem.run_pure]
        · refine ostep_call 28 (by kernel_rfl) _ _ (by kernel_rfl) rfl (fun _ A1 W1 inv hall => ⟨wanted_none rfl, #[.pointer (some ⟨p, 0, none⟩)], ?_, ?_⟩)
          · have h180 : A1.eval (.tmp 180) = .pointer (some ⟨p, 0, none⟩) := inv.get hall 0 180 (by kernel_rfl) (by kernel_rfl)
            simp [h180]
          · refine (image_any p ib qb L M _ (HS0.out.mem.below inv.s)).mono ?_
            rintro e u ⟨v0, rfl, hn, hb⟩
            exact ⟨v0, rfl, ⟨_, hn⟩, hb⟩
        · refine ostep_val (.string (strOfNums M)) (by kernel_rfl) (fun _ A1 W1 inv hall => ⟨wanted_none rfl, ?_, rfl⟩)
          have h181 : (newP M) (A1.eval (.tmp 181)) W1 := inv.get hall 1 181 (by kernel_rfl) (by kernel_rfl)
          simp only [execOp, Sem.run_bind, conv_newP h181, Result.andThen_ok, Sem.run_pure]
        · refine ostep_val (.pointer (some ⟨rp, 0, none⟩)) (by kernel_rfl) (fun _ A1 W1 inv hall => ⟨wanted_none rfl, ?_, rfl⟩)
          have h7 : A1.eval (.tmp 7) = .pointer (some ⟨rp, 0, none⟩) := (inv.base 7 (by kernel_rfl)).trans rfl
          simp only [execOp, h7, Sem.run_pure]
        · refine ostep_call 29 (by kernel_rfl) _ _ (by kernel_rfl) rfl (fun _ A1 W1 inv hall => ⟨wanted_none rfl, #[.pointer (some ⟨rp, 0, none⟩)], ?_, ?_⟩)
          · have h183 : A1.eval (.tmp 183) = .pointer (some ⟨rp, 0, none⟩) := inv.get hall 3 183 (by kernel_rfl) (by kernel_rfl)
            simp [h183]
          · refine (rimage_any base rp lb bb cL cB aB D L M _ (HS0.out.ref.below inv.s) (by have := HS0.out.mem.sum; have := HS0.out.mem.len; omega)).mono ?_
            rintro e u ⟨v0, rfl, hn, hb⟩
            exact ⟨v0, rfl, ⟨_, hn⟩, hb⟩
        · refine ostep_val (.string (strOfNums M)) (by kernel_rfl) (fun _ A1 W1 inv hall => ⟨wanted_none rfl, ?_, rfl⟩)
          have h184 : (newP M) (A1.eval (.tmp 184)) W1 := inv.get hall 4 184 (by kernel_rfl) (by kernel_rfl)
          simp only [execOp, Sem.run_bind, conv_newP h184, Result.andThen_ok, Sem.run_pure]
        · refine ostep_val (.bool true) (by kernel_rfl) (fun _ A1 W1 inv hall => ⟨wanted_none rfl, ?_, rfl⟩)
          have h182 : A1.eval (.tmp 182) = .string (strOfNums M) := inv.get hall 2 182 (by kernel_rfl) (by kernel_rfl)
          have h185 : A1.eval (.tmp 185) = .string (strOfNums M) := inv.get hall 5 185 (by kernel_rfl) (by kernel_rfl)
          simp only [execOp, h182, h185]
          simp [eqGuard, go_sem]
        · refine ostep_val (.bool true) (by kernel_rfl) (fun _ A1 W1 inv hall => ⟨wanted_none rfl, ?_, rfl⟩)
          have h186 : A1.eval (.tmp 186) = .bool true := inv.get hall 6 186 (by kernel_rfl) (by kernel_rfl)
          simp only [execOp, h186, Sem.run_pure]
        · refine ostep_val (.pointer (some ⟨p, 0, none⟩)) (by kernel_rfl) (fun _ A1 W1 inv hall => ⟨wanted_some (g := 7) (d := 187) (b := true) rfl (by kernel_rfl) (inv.get hall 7 187 (by kernel_rfl) (by kernel_rfl)), ?_, rfl⟩)
          have h5 : A1.eval (.tmp 5) = .pointer (some ⟨p, 0, none⟩) := (inv.base 5 (by kernel_rfl)).trans rfl
          simp only [execOp, h5, Sem.run_pure]
        · refine ostep_call 31 (by kernel_rfl) _ _ (by kernel_rfl) rfl (fun _ A1 W1 inv hall => ⟨wanted_some (g := 7) (d := 187) (b := true) rfl (by kernel_rfl) (inv.get hall 7 187 (by kernel_rfl) (by kernel_rfl)), #[.pointer (some ⟨p, 0, none⟩)], ?_, ?_⟩)
          · have h188 : A1.eval (.tmp 188) = .pointer (some ⟨p, 0, none⟩) := inv.get hall 8 188 (by kernel_rfl) (by kernel_rfl)
            simp [h188]
          · refine (regions_any p ib qb L M _ (HS0.out.mem.below inv.s)).mono ?_
            rintro e u ⟨rfl, hr, hb⟩
            exact ⟨_, rfl, regsAt_row (cs := []) (by rw [List.append_nil]; exact hr) (Nat.le_refl _), hb⟩
        · refine ostep_val (.slice va L.length vc) (by kernel_rfl) (fun _ A1 W1 inv hall => ⟨wanted_some (g := 7) (d := 187) (b := true) rfl (by kernel_rfl) (inv.get hall 7 187 (by kernel_rfl) (by kernel_rfl)), ?_, rfl⟩)
          have h0 : A1.eval (.tmp 0) = .slice va L.length vc := (inv.base 0 (by kernel_rfl)).trans rfl
          simp only [execOp, h0, Sem.run_pure]
        · refine ostep_call 30 (by kernel_rfl) _ _ (by kernel_rfl) rfl (fun _ A1 W1 inv hall => ⟨wanted_some (g := 7) (d := 187) (b := true) rfl (by kernel_rfl) (inv.get hall 7 187 (by kernel_rfl) (by kernel_rfl)), #[A1.eval (.tmp 189), .slice va L.length vc], ?_, ?_⟩)
          · have h190 : A1.eval (.tmp 190) = .slice va L.length vc := inv.get hall 10 190 (by kernel_rfl) (by kernel_rfl)
            simp [h190]
          · have hreg : regP L (A1.eval (.tmp 189)) W1 := inv.get hall 9 189 (by kernel_rfl) (by kernel_rfl)
            refine (same_any _ _ L _ hreg ((HV0.out.below HS0.out.bel).below inv.s) HM.out).mono ?_
            rintro e u ⟨rfl, m, rfl⟩
            exact ⟨_, rfl, rfl, below_drewN _ _⟩
        · refine ostep_val (.bool true) (by kernel_rfl) (fun _ A1 W1 inv hall => ⟨wanted_none rfl, ?_, rfl⟩)
          have h187 : A1.eval (.tmp 187) = .bool true := inv.get hall 7 187 (by kernel_rfl) (by kernel_rfl)
          have h191 : A1.eval (.tmp 191) = .bool true := inv.get hall 11 191 (by kernel_rfl) (by kernel_rfl)
          simp only [execOp, h187, h191]
          simp [asBool]
        · refine ostep_val (.bool true) (by kernel_rfl) (fun _ A1 W1 inv hall => ⟨wanted_none rfl, ?_, rfl⟩)
          have h192 : A1.eval (.tmp 192) = .bool true := inv.get hall 12 192 (by kernel_rfl) (by kernel_rfl)
          simp only [execOp, h192, Sem.run_pure]
      · intro listed A1 W1 inv hall
        have hlast : A1.eval (.tmp 4) = .bool true := inv.fin 13 4 (by kernel_rfl) (hall 13 (Nat.lt_of_lt_of_eq (by decide : 13 < 14) (by kernel_rfl)))
        refine (by assumption : ∀ (a : Act) (w : World), Code.wp Try.prog Code.ret _ a w → _) A1 W1 ?_
        go_wp2_with fail
        simp only [Act.eval, Array.getD_eq_getD_getElem?] at hlast
        exact bodyPost_ret (v := .bool true) (by simp [results, Try.results3, go_sem, hlast]) inv.dfr ⟨rfl, below_then HS0.out.bel inv.s⟩
end Go.Proofs.Ytfjccpalkdmniaa.gmemScript
