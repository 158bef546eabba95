/-
  PROVED: dumbwaiterlaw07.StatusInits returns true for any state and any wish, and what was in memory stays as it was. Conditions: none.
-/
import Derived.Test.YtfiogaollejdbaaRows
import Derived.Test.YtfiogaollejdbaaStl
import Derived.WalkKit
import Derived.ProofKit
import Derived.OpenShut
import Derived.ShutString
import Derived.ChangeOld
import Derived.Below
import Derived.Carry
import Derived.Lib.SmallJoins
namespace Go.Proofs.Ytfiogaollejdbaa.statusInits
open Go.ChangeShapes Go.WideShapes Go.ChangeAt Go.RowKit
set_option linter.unusedVariables false


set_option maxRecDepth 100000 in
set_option maxHeartbeats 2000000 in
theorem walk_no (w : World) (d : Dv) (x : Nat) (hd : isDv d) (hx : x < N64) (hc : chkB d = false) :
    Calls Try.prog 6 #[dvV d, .int .u64 x] w fun e w' => e = .returned (.bool true) ∧ Below w.heap.size w w' := by
  have HC := hid_mk (scheck d hd)
  have HI := hid_mk (sinit d x hd hx)
  have HL := hid_mk lives7_any
  obtain ⟨k, o, g, s⟩ := d
  have e : schE ⟨k, o, g, s⟩ = 2 := by
    unfold schE
    rw [hc]
    rfl
  have e2 : initD ⟨k, o, g, s⟩ x = zeroD := by
    unfold initD
    rw [hc]
    rfl
  rw [e] at HC HI
  rw [e2] at HI
  clear e e2 hc
  unfold dvV zeroD at HI
  unfold dvV at HC ⊢
  simp only at HC HI ⊢
  go_enter Try.func6, Try.ntmps6
  go_wp2_with fail
  refine (HL.out _).mono ?_
  rintro e w1 ⟨rfl, hb1⟩
  have X1 := (box_new w k o g s _ rfl).below hb1
  have B1 := hid_mk (below_two (below_box w _) hb1)
  clear hb1
  have XX := hid_mk X1
  obtain ⟨x0, x1, x2, x3, x4⟩ := box_all X1
  clear X1
  go_wp2_with fail
  refine (HC.out _).mono ?_
  rintro e w2 ⟨rfl, hb2⟩
  clear x0 x1 x2 x3 x4
  have B2 := hid_mk (below_two B1.out hb2)
  obtain ⟨x0, x1, x2, x3, x4⟩ := box_all (XX.out.below hb2)
  clear hb2
  go_wp2_with fail
  refine (HI.out _).mono ?_
  rintro e w3 ⟨rfl, hb3⟩
  clear x0 x1 x2 x3 x4
  have B3 := hid_mk (below_two B2.out hb3)
  go_wp2_with fail
  go_ret
  exact ⟨rfl, below_two B3.out (below_box w3 _)⟩

set_option maxRecDepth 100000 in
set_option maxHeartbeats 2000000 in
theorem walk_main (w : World) (d : Dv) (x : Nat) (hd : isDv d) (hx : x < N64) (hc : chkB d = true) :
    Calls Try.prog 6 #[dvV d, .int .u64 x] w fun e w' => e = .returned (.bool true) ∧ Below w.heap.size w w' := by
  have HC := hid_mk (scheck d hd)
  have HI := hid_mk (sinit d x hd hx)
  have HL := hid_mk lives7_any
  obtain ⟨k, o, g, s⟩ := d
  have ho : o < N64 := hd.o
  obtain ⟨i1, i2, i3, i4, i5, i6, i7, i8, i9, i10⟩ := init_ok x hc ho
  simp only at i1 i2 i3 i4 i5 i6 i7 i8 i9 i10
  obtain ⟨r1, r2⟩ := best_new x i10 ho
  obtain ⟨b1, b2, b3, b4, b5, b6⟩ := live_brk i8 i9
  have j1 := (init_ok x b3 ho).1
  simp only at j1
  have ht : bestF k o x < N64 := bestF_lt ho
  have hr := hid_mk (rbest k o x ho hx)
  rw [r1, r2] at hr
  have e : schE ⟨k, o, g, s⟩ = 0 := by
    unfold schE
    rw [hc]
    rfl
  have e79 : schE ⟨k, o, bestF k o x, 79⟩ = 0 := by
    unfold schE
    rw [b3]
    rfl
  rw [e] at HC HI
  rw [i1] at HI
  have W0 := hid_mk (swrite ⟨k, o, g, s⟩ 0 hd (by decide))
  rw [i2] at W0
  have W1 := hid_mk (swrite ⟨k, o, 0, 0⟩ 1 ⟨ho, by simp only [N64]; decide, by simp only; decide⟩ (by decide))
  rw [i3] at W1
  have W3 := hid_mk (swrite ⟨k, o, 0, 1⟩ 3 ⟨ho, by simp only [N64]; decide, by simp only; decide⟩ (by decide))
  rw [i4] at W3
  have AK := hid_mk (sask ⟨k, o, 0, 3⟩ (bestF k o x) ⟨ho, by simp only [N64]; decide, by simp only; decide⟩ ht)
  rw [i5] at AK
  have W11 := hid_mk (swrite ⟨k, o, bestF k o x, 3⟩ 11 ⟨ho, ht, by simp only; decide⟩ (by decide))
  rw [i6] at W11
  have W15 := hid_mk (swrite ⟨k, o, bestF k o x, 11⟩ 15 ⟨ho, ht, by simp only; decide⟩ (by decide))
  rw [i7] at W15
  have BK := hid_mk (sbreak ⟨k, o, bestF k o x, 15⟩ ⟨ho, ht, by simp only; decide⟩)
  rw [b1, b2] at BK
  have I2 := hid_mk (sinit ⟨k, o, bestF k o x, 79⟩ x ⟨ho, ht, by simp only; decide⟩ hx)
  rw [j1, e79] at I2
  have RX := hid_mk (sruns ⟨k, o, bestF k o x, 15⟩ ⟨ho, ht, by simp only; decide⟩)
  rw [b5] at RX
  have RB := hid_mk (sruns ⟨k, o, bestF k o x, 79⟩ ⟨ho, ht, by simp only; decide⟩)
  rw [b6] at RB
  have WB := hid_mk (swrite ⟨k, o, bestF k o x, 79⟩ 15 ⟨ho, ht, by simp only; decide⟩ (by decide))
  rw [b4] at WB
  unfold dvV at HC HI W0 W1 W3 AK W11 W15 BK I2 RX RB WB ⊢
  simp only at HC HI W0 W1 W3 AK W11 W15 BK I2 RX RB WB ⊢
  clear i1 i2 i3 i4 i5 i6 i7 i8 i9 i10 r1 r2 b1 b2 b3 b4 b5 b6 j1 e e79 hd hc ht ho
  generalize bestF k o x = t at *
  go_enter Try.func6, Try.ntmps6
  go_wp2_with fail
  refine (HL.out _).mono ?_
  rintro e w1 ⟨rfl, hb⟩
  have Xd := hid_mk ((box_new w k o g s _ rfl).below hb)
  have B := hid_mk (below_two (below_box w _) hb)
  obtain ⟨zd, hq⟩ : ∃ q, q = w.heap.size := ⟨_, rfl⟩
  rw [← hq] at Xd
  have Nd := hid_mk (show zd = w.heap.size from hq)
  rw [← hq]
  clear hq hb
  obtain ⟨ld, cd0, cd1, cd2, cd3⟩ := box_all Xd.out
  go_wp2_with fail
  refine (HC.out _).mono ?_
  rintro e w2 ⟨rfl, hb⟩
  clear ld cd0 cd1 cd2 cd3
  replace Xd := hid_mk (Xd.out.below hb)
  replace B := hid_mk (below_two B.out hb)
  clear hb
  obtain ⟨ld, cd0, cd1, cd2, cd3⟩ := box_all Xd.out
  go_wp2_with fail
  refine (HI.out _).mono ?_
  rintro e w3 ⟨rfl, hb⟩
  clear ld cd0 cd1 cd2 cd3
  replace Xd := hid_mk (Xd.out.below hb)
  replace B := hid_mk (below_two B.out hb)
  clear hb
  obtain ⟨ld, cd0, cd1, cd2, cd3⟩ := box_all Xd.out
  go_wp2_with fail
  refine (hr.out _).mono ?_
  rintro e w4 ⟨rfl, hb⟩
  clear ld cd0 cd1 cd2 cd3
  have hqd := Xd.out.lt
  replace Xd := hid_mk ((Xd.out.below (below_box w3 _)).below hb)
  have Sx := hid_mk B.out.size
  have Xx := hid_mk ((box_new w3 k o t 15 _ rfl).below hb)
  have Ddx := hid_mk (show zd ≠ w3.heap.size from Nat.ne_of_lt (hqd))
  clear hqd
  replace B := hid_mk (below_two (below_two B.out (below_box w3 _)) hb)
  obtain ⟨zx, hq⟩ : ∃ q, q = w3.heap.size := ⟨_, rfl⟩
  rw [← hq] at Xx Ddx ⊢
  have Nx := hid_mk (show zx = w3.heap.size from hq)
  clear hq
  clear hb
  obtain ⟨ld, cd0, cd1, cd2, cd3⟩ := box_all Xd.out
  go_wp2_with fail
  refine (W0.out _).mono ?_
  rintro e w5 ⟨rfl, hb⟩
  clear ld cd0 cd1 cd2 cd3
  replace Xd := hid_mk (Xd.out.below hb)
  replace Xx := hid_mk (Xx.out.below hb)
  replace B := hid_mk (below_two B.out hb)
  clear hb
  go_wp2_with fail
  refine (W1.out _).mono ?_
  rintro e w6 ⟨rfl, hb⟩
  replace Xd := hid_mk (Xd.out.below hb)
  replace Xx := hid_mk (Xx.out.below hb)
  replace B := hid_mk (below_two B.out hb)
  clear hb
  go_wp2_with fail
  refine (W3.out _).mono ?_
  rintro e w7 ⟨rfl, hb⟩
  replace Xd := hid_mk (Xd.out.below hb)
  replace Xx := hid_mk (Xx.out.below hb)
  replace B := hid_mk (below_two B.out hb)
  clear hb
  go_wp2_with fail
  refine (AK.out _).mono ?_
  rintro e w8 ⟨rfl, hb⟩
  have hqd := Xd.out.lt
  have hqx := Xx.out.lt
  replace Xd := hid_mk ((Xd.out.below (below_box w7 _)).below hb)
  replace Xx := hid_mk ((Xx.out.below (below_box w7 _)).below hb)
  have Sy := hid_mk B.out.size
  have Xy := hid_mk ((box_new w7 k o 0 3 _ rfl).below hb)
  have Ddy := hid_mk (show zd ≠ w7.heap.size from Nat.ne_of_lt (hqd))
  clear hqd
  have Dxy := hid_mk (show zx ≠ w7.heap.size from Nat.ne_of_lt (hqx))
  clear hqx
  replace B := hid_mk (below_two (below_two B.out (below_box w7 _)) hb)
  obtain ⟨zy, hq⟩ : ∃ q, q = w7.heap.size := ⟨_, rfl⟩
  rw [← hq] at Xy Ddy Dxy ⊢
  have Ny := hid_mk (show zy = w7.heap.size from hq)
  clear hq
  clear hb
  go_wp2_with fail
  refine (W11.out _).mono ?_
  rintro e w9 ⟨rfl, hb⟩
  replace Xd := hid_mk (Xd.out.below hb)
  replace Xx := hid_mk (Xx.out.below hb)
  replace Xy := hid_mk (Xy.out.below hb)
  replace B := hid_mk (below_two B.out hb)
  clear hb
  go_wp2_with fail
  refine (W15.out _).mono ?_
  rintro e w10 ⟨rfl, hb⟩
  replace Xd := hid_mk (Xd.out.below hb)
  replace Xx := hid_mk (Xx.out.below hb)
  replace Xy := hid_mk (Xy.out.below hb)
  replace B := hid_mk (below_two B.out hb)
  clear hb
  obtain ⟨ly, cy0, cy1, cy2, cy3⟩ := box_all Xy.out
  obtain ⟨fy0, fy1, fy2, fy3⟩ := box_free Xy.out
  go_upto_region 10 with (fail)
  clear ly cy0 cy1 cy2 cy3 fy0 fy1 fy2 fy3
  replace B := hid_mk (below_put B.out (show w.heap.size ≤ zy by rw [Ny.out]; exact Sy.out) k o t 15)
  replace Xd := hid_mk (blk_put Xd.out Ddy.out k o t 15)
  replace Xx := hid_mk (blk_put Xx.out Dxy.out k o t 15)
  replace Xy := hid_mk (box_put Xy.out k o t 15)
  unfold putDev at B Xd Xx Xy
  generalize hwp : (((w10.setCell ⟨zy, 0, none⟩ (.int .i64 k)).setCell ⟨zy, 1, none⟩ (.int .u64 o)).setCell ⟨zy, 2, none⟩ (.int .u64 t)).setCell ⟨zy, 3, none⟩ (.int .u8 15) = w11 at *
  clear hwp
  obtain ⟨lx, cx0, cx1, cx2, cx3⟩ := box_all Xx.out
  go_wp2_with fail
  refine (BK.out _).mono ?_
  rintro e w12 ⟨rfl, hb⟩
  clear lx cx0 cx1 cx2 cx3
  replace Xd := hid_mk (Xd.out.below hb)
  replace Xx := hid_mk (Xx.out.below hb)
  replace Xy := hid_mk (Xy.out.below hb)
  replace B := hid_mk (below_two B.out hb)
  clear hb
  go_wp2_with fail
  refine (I2.out _).mono ?_
  rintro e w13 ⟨rfl, hb⟩
  have hqd := Xd.out.lt
  have hqx := Xx.out.lt
  have hqy := Xy.out.lt
  replace Xd := hid_mk ((Xd.out.below (below_box w12 _)).below hb)
  replace Xx := hid_mk ((Xx.out.below (below_box w12 _)).below hb)
  replace Xy := hid_mk ((Xy.out.below (below_box w12 _)).below hb)
  have Sb := hid_mk B.out.size
  have Xb := hid_mk ((box_new w12 k o t 79 _ rfl).below hb)
  have Ddb := hid_mk (show zd ≠ w12.heap.size from Nat.ne_of_lt (hqd))
  clear hqd
  have Dxb := hid_mk (show zx ≠ w12.heap.size from Nat.ne_of_lt (hqx))
  clear hqx
  have Dyb := hid_mk (show zy ≠ w12.heap.size from Nat.ne_of_lt (hqy))
  clear hqy
  replace B := hid_mk (below_two (below_two B.out (below_box w12 _)) hb)
  obtain ⟨zb, hq⟩ : ∃ q, q = w12.heap.size := ⟨_, rfl⟩
  rw [← hq] at Xb Ddb Dxb Dyb ⊢
  have Nb := hid_mk (show zb = w12.heap.size from hq)
  clear hq
  clear hb
  go_wp2_with fail
  replace Xd := hid_mk (Xd.out.below (below_box w13 (.cells #[.int .i64 k, .int .u64 o, .int .u64 t, .int .u8 15] 24)))
  replace Xx := hid_mk (Xx.out.below (below_box w13 (.cells #[.int .i64 k, .int .u64 o, .int .u64 t, .int .u8 15] 24)))
  replace Xy := hid_mk (Xy.out.below (below_box w13 (.cells #[.int .i64 k, .int .u64 o, .int .u64 t, .int .u8 15] 24)))
  replace Xb := hid_mk (Xb.out.below (below_box w13 (.cells #[.int .i64 k, .int .u64 o, .int .u64 t, .int .u8 15] 24)))
  have Xz := hid_mk (box_new w13 k o t 15 _ rfl)
  replace B := hid_mk (below_two B.out (below_box w13 (.cells #[.int .i64 k, .int .u64 o, .int .u64 t, .int .u8 15] 24)))
  generalize w13.alloc (.cells #[.int .i64 k, .int .u64 o, .int .u64 t, .int .u8 15] 24) = w14 at *
  generalize w13.heap.size = zz at *
  refine wp_region_outl
    [(fun v _ => v = .int .i64 0),
    (fun v _ => v = .bool true),
    (fun v _ => v = .bool true),
    (fun v _ => v = .int .i64 0),
    (fun v _ => v = .bool true),
    (fun v _ => v = .bool true),
    (fun v _ => v = .bool true),
    (fun v _ => v = .agg #[.int .i64 k, .int .u64 o, .int .u64 t, .int .u8 15]),
    (fun v _ => v = .bool true),
    (fun v _ => v = .bool true),
    (fun v _ => v = .bool true),
    (fun v _ => v = .pointer (some ⟨zx, 2, none⟩)),
    (fun v _ => v = .int .u64 t),
    (fun v _ => v = .int .u64 t),
    (fun v _ => v = .bool true),
    (fun v _ => v = .bool true),
    (fun v _ => v = .bool true),
    (fun v _ => v = .agg #[.int .i64 k, .int .u64 o, .int .u64 t, .int .u8 15]),
    (fun v _ => v = .agg #[.int .i64 k, .int .u64 o, .int .u64 t, .int .u8 15]),
    (fun v _ => v = .bool true),
    (fun v _ => v = .bool true),
    (fun v _ => v = .bool true),
    (fun v _ => v = .int .i64 0),
    (fun v _ => v = .bool true),
    (fun v _ => v = .bool true),
    (fun v _ => v = .bool true),
    (fun v _ => v = .agg #[.int .i64 k, .int .u64 o, .int .u64 t, .int .u8 79]),
    (fun v _ => v = .bool false),
    (fun v _ => v = .bool true),
    (fun v _ => v = .bool true),
    (fun v _ => v = .bool true),
    (fun v _ => v = .agg #[.int .i64 k, .int .u64 o, .int .u64 t, .int .u8 79]),
    (fun v _ => v = .agg #[.int .i64 k, .int .u64 o, .int .u64 t, .int .u8 79]),
    (fun v _ => v = .agg #[.int .i64 k, .int .u64 o, .int .u64 t, .int .u8 79]),
    (fun v _ => v = .bool true),
    (fun v _ => v = .bool true),
    (fun v _ => v = .bool true),
    (fun v _ => v = .int .i64 0),
    (fun v _ => v = .bool true),
    (fun v _ => v = .bool true),
    (fun v _ => v = .bool true),
    (fun v _ => v = .agg #[.int .i64 k, .int .u64 o, .int .u64 t, .int .u8 15]),
    (fun v _ => v = .agg #[.int .i64 k, .int .u64 o, .int .u64 t, .int .u8 15]),
    (fun v _ => v = .bool true),
    (fun v _ => v = .bool true),
    (fun v _ => v = .bool true)]
    (fun u => Below w14.heap.size w14 u) (by kernel_rfl) (by kernel_rfl) ?_ (fun u u' hb h => h.trans (hb.mono h.size)) ((Below.refl _ _).drew) ?_ ?_
  · refine And.intro (up_eq _) ?_
    refine And.intro (up_eq _) ?_
    refine And.intro (up_eq _) ?_
    refine And.intro (up_eq _) ?_
    refine And.intro (up_eq _) ?_
    refine And.intro (up_eq _) ?_
    refine And.intro (up_eq _) ?_
    refine And.intro (up_eq _) ?_
    refine And.intro (up_eq _) ?_
    refine And.intro (up_eq _) ?_
    refine And.intro (up_eq _) ?_
    refine And.intro (up_eq _) ?_
    refine And.intro (up_eq _) ?_
    refine And.intro (up_eq _) ?_
    refine And.intro (up_eq _) ?_
    refine And.intro (up_eq _) ?_
    refine And.intro (up_eq _) ?_
    refine And.intro (up_eq _) ?_
    refine And.intro (up_eq _) ?_
    refine And.intro (up_eq _) ?_
    refine And.intro (up_eq _) ?_
    refine And.intro (up_eq _) ?_
    refine And.intro (up_eq _) ?_
    refine And.intro (up_eq _) ?_
    refine And.intro (up_eq _) ?_
    refine And.intro (up_eq _) ?_
    refine And.intro (up_eq _) ?_
    refine And.intro (up_eq _) ?_
    refine And.intro (up_eq _) ?_
    refine And.intro (up_eq _) ?_
    refine And.intro (up_eq _) ?_
    refine And.intro (up_eq _) ?_
    refine And.intro (up_eq _) ?_
    refine And.intro (up_eq _) ?_
    refine And.intro (up_eq _) ?_
    refine And.intro (up_eq _) ?_
    refine And.intro (up_eq _) ?_
    refine And.intro (up_eq _) ?_
    refine And.intro (up_eq _) ?_
    refine And.intro (up_eq _) ?_
    refine And.intro (up_eq _) ?_
    refine And.intro (up_eq _) ?_
    refine And.intro (up_eq _) ?_
    refine And.intro (up_eq _) ?_
    refine And.intro (up_eq _) ?_
    refine And.intro (up_eq _) ?_
    trivial
  · refine And.intro ?_ (And.intro ?_ (And.intro ?_ (And.intro ?_ (And.intro ?_ (And.intro ?_ (And.intro ?_ (And.intro ?_ (And.intro ?_ (And.intro ?_ (And.intro ?_ (And.intro ?_ (And.intro ?_ (And.intro ?_ (And.intro ?_ (And.intro ?_ (And.intro ?_ (And.intro ?_ (And.intro ?_ (And.intro ?_ (And.intro ?_ (And.intro ?_ (And.intro ?_ (And.intro ?_ (And.intro ?_ (And.intro ?_ (And.intro ?_ (And.intro ?_ (And.intro ?_ (And.intro ?_ (And.intro ?_ (And.intro ?_ (And.intro ?_ (And.intro ?_ (And.intro ?_ (And.intro ?_ (And.intro ?_ (And.intro ?_ (And.intro ?_ (And.intro ?_ (And.intro ?_ (And.intro ?_ (And.intro ?_ (And.intro ?_ (And.intro ?_ (And.intro ?_ (True.intro))))))))))))))))))))))))))))))))))))))))))))))
    · refine ostep_val (.int .i64 0) (by kernel_rfl) (fun _ A1 W1 inv hall => ⟨wanted_none rfl, ?_, rfl⟩)
      have h8 : A1.eval (.tmp 8) = .int .i64 0 := (inv.base 8 (by kernel_rfl)).trans rfl
      simp only [execOp, h8, Sem.run_pure]
    · refine ostep_val (.bool true) (by kernel_rfl) (fun _ A1 W1 inv hall => ⟨wanted_none rfl, ?_, rfl⟩)
      have h64 : A1.eval (.tmp 64) = .int .i64 0 := inv.get hall 0 64 (by kernel_rfl) (by kernel_rfl)
      simp only [execOp, h64]
      simp [eqGuard, go_sem]
    · refine ostep_val (.bool true) (by kernel_rfl) (fun _ A1 W1 inv hall => ⟨wanted_none rfl, ?_, rfl⟩)
      have h65 : A1.eval (.tmp 65) = .bool true := inv.get hall 1 65 (by kernel_rfl) (by kernel_rfl)
      simp only [execOp, h65, Sem.run_pure]
    · refine ostep_val (.int .i64 0) (by kernel_rfl) (fun _ A1 W1 inv hall => ⟨wanted_some (g := 2) (d := 66) (b := true) rfl (by kernel_rfl) (inv.get hall 2 66 (by kernel_rfl) (by kernel_rfl)), ?_, rfl⟩)
      have h10 : A1.eval (.tmp 10) = .int .i64 0 := (inv.base 10 (by kernel_rfl)).trans rfl
      simp only [execOp, h10, Sem.run_pure]
    · refine ostep_val (.bool true) (by kernel_rfl) (fun _ A1 W1 inv hall => ⟨wanted_some (g := 2) (d := 66) (b := true) rfl (by kernel_rfl) (inv.get hall 2 66 (by kernel_rfl) (by kernel_rfl)), ?_, rfl⟩)
      have h67 : A1.eval (.tmp 67) = .int .i64 0 := inv.get hall 3 67 (by kernel_rfl) (by kernel_rfl)
      simp only [execOp, h67]
      simp [eqGuard, go_sem]
    · refine ostep_val (.bool true) (by kernel_rfl) (fun _ A1 W1 inv hall => ⟨wanted_none rfl, ?_, rfl⟩)
      have h66 : A1.eval (.tmp 66) = .bool true := inv.get hall 2 66 (by kernel_rfl) (by kernel_rfl)
      have h68 : A1.eval (.tmp 68) = .bool true := inv.get hall 4 68 (by kernel_rfl) (by kernel_rfl)
      simp only [execOp, h66, h68]
      simp [asBool]
    · refine ostep_val (.bool true) (by kernel_rfl) (fun _ A1 W1 inv hall => ⟨wanted_none rfl, ?_, rfl⟩)
      have h69 : A1.eval (.tmp 69) = .bool true := inv.get hall 5 69 (by kernel_rfl) (by kernel_rfl)
      simp only [execOp, h69, Sem.run_pure]
    · refine ostep_val (.agg #[.int .i64 k, .int .u64 o, .int .u64 t, .int .u8 15]) (by kernel_rfl) (fun _ A1 W1 inv hall => ⟨wanted_some (g := 6) (d := 70) (b := true) rfl (by kernel_rfl) (inv.get hall 6 70 (by kernel_rfl) (by kernel_rfl)), ?_, rfl⟩)
      have h7 : A1.eval (.tmp 7) = .pointer (some ⟨zx, 0, none⟩) := (inv.base 7 (by kernel_rfl)).trans rfl
      simp only [execOp, h7, Sem.run_bind, loadDev (Xx.out.below inv.s), Result.andThen_ok, Sem.run_pure]
    · refine ostep_call 12 (by kernel_rfl) _ _ (by kernel_rfl) rfl (fun _ A1 W1 inv hall => ⟨wanted_some (g := 6) (d := 70) (b := true) rfl (by kernel_rfl) (inv.get hall 6 70 (by kernel_rfl) (by kernel_rfl)), #[.agg #[.int .i64 k, .int .u64 o, .int .u64 t, .int .u8 15]], ?_, ?_⟩)
      · have h71 : A1.eval (.tmp 71) = .agg #[.int .i64 k, .int .u64 o, .int .u64 t, .int .u8 15] := inv.get hall 7 71 (by kernel_rfl) (by kernel_rfl)
        simp [h71]
      · refine (RX.out _).mono ?_
        rintro e u ⟨rfl, hb⟩
        exact ⟨_, rfl, rfl, hb⟩
    · refine ostep_val (.bool true) (by kernel_rfl) (fun _ A1 W1 inv hall => ⟨wanted_none rfl, ?_, rfl⟩)
      have h70 : A1.eval (.tmp 70) = .bool true := inv.get hall 6 70 (by kernel_rfl) (by kernel_rfl)
      have h72 : A1.eval (.tmp 72) = .bool true := inv.get hall 8 72 (by kernel_rfl) (by kernel_rfl)
      simp only [execOp, h70, h72]
      simp [asBool]
    · refine ostep_val (.bool true) (by kernel_rfl) (fun _ A1 W1 inv hall => ⟨wanted_none rfl, ?_, rfl⟩)
      have h73 : A1.eval (.tmp 73) = .bool true := inv.get hall 9 73 (by kernel_rfl) (by kernel_rfl)
      simp only [execOp, h73, Sem.run_pure]
    · refine ostep_val (.pointer (some ⟨zx, 2, none⟩)) (by kernel_rfl) (fun _ A1 W1 inv hall => ⟨wanted_some (g := 10) (d := 74) (b := true) rfl (by kernel_rfl) (inv.get hall 10 74 (by kernel_rfl) (by kernel_rfl)), ?_, rfl⟩)
      have h7 : A1.eval (.tmp 7) = .pointer (some ⟨zx, 0, none⟩) := (inv.base 7 (by kernel_rfl)).trans rfl
      simp only [execOp, h7, Sem.run_bind, at_g _ W1, Result.andThen_ok, Sem.run_pure]
    · refine ostep_val (.int .u64 t) (by kernel_rfl) (fun _ A1 W1 inv hall => ⟨wanted_some (g := 10) (d := 74) (b := true) rfl (by kernel_rfl) (inv.get hall 10 74 (by kernel_rfl) (by kernel_rfl)), ?_, rfl⟩)
      have h75 : A1.eval (.tmp 75) = .pointer (some ⟨zx, 2, none⟩) := inv.get hall 11 75 (by kernel_rfl) (by kernel_rfl)
      simp only [execOp, h75, Sem.run_bind, load_g (Xx.out.below inv.s), Result.andThen_ok, Sem.run_pure]
    · refine ostep_val (.int .u64 t) (by kernel_rfl) (fun _ A1 W1 inv hall => ⟨wanted_some (g := 10) (d := 74) (b := true) rfl (by kernel_rfl) (inv.get hall 10 74 (by kernel_rfl) (by kernel_rfl)), ?_, rfl⟩)
      have h9 : A1.eval (.tmp 9) = .int .u64 t := (inv.base 9 (by kernel_rfl)).trans rfl
      simp only [execOp, h9, Sem.run_pure]
    · refine ostep_val (.bool true) (by kernel_rfl) (fun _ A1 W1 inv hall => ⟨wanted_some (g := 10) (d := 74) (b := true) rfl (by kernel_rfl) (inv.get hall 10 74 (by kernel_rfl) (by kernel_rfl)), ?_, rfl⟩)
      have h76 : A1.eval (.tmp 76) = .int .u64 t := inv.get hall 12 76 (by kernel_rfl) (by kernel_rfl)
      have h77 : A1.eval (.tmp 77) = .int .u64 t := inv.get hall 13 77 (by kernel_rfl) (by kernel_rfl)
      simp only [execOp, h76, h77]
      simp [eqGuard, go_sem]
    · refine ostep_val (.bool true) (by kernel_rfl) (fun _ A1 W1 inv hall => ⟨wanted_none rfl, ?_, rfl⟩)
      have h74 : A1.eval (.tmp 74) = .bool true := inv.get hall 10 74 (by kernel_rfl) (by kernel_rfl)
      have h78 : A1.eval (.tmp 78) = .bool true := inv.get hall 14 78 (by kernel_rfl) (by kernel_rfl)
      simp only [execOp, h74, h78]
      simp [asBool]
    · refine ostep_val (.bool true) (by kernel_rfl) (fun _ A1 W1 inv hall => ⟨wanted_none rfl, ?_, rfl⟩)
      have h79 : A1.eval (.tmp 79) = .bool true := inv.get hall 15 79 (by kernel_rfl) (by kernel_rfl)
      simp only [execOp, h79, Sem.run_pure]
    · refine ostep_val (.agg #[.int .i64 k, .int .u64 o, .int .u64 t, .int .u8 15]) (by kernel_rfl) (fun _ A1 W1 inv hall => ⟨wanted_some (g := 16) (d := 80) (b := true) rfl (by kernel_rfl) (inv.get hall 16 80 (by kernel_rfl) (by kernel_rfl)), ?_, rfl⟩)
      have h7 : A1.eval (.tmp 7) = .pointer (some ⟨zx, 0, none⟩) := (inv.base 7 (by kernel_rfl)).trans rfl
      simp only [execOp, h7, Sem.run_bind, loadDev (Xx.out.below inv.s), Result.andThen_ok, Sem.run_pure]
    · refine ostep_val (.agg #[.int .i64 k, .int .u64 o, .int .u64 t, .int .u8 15]) (by kernel_rfl) (fun _ A1 W1 inv hall => ⟨wanted_some (g := 16) (d := 80) (b := true) rfl (by kernel_rfl) (inv.get hall 16 80 (by kernel_rfl) (by kernel_rfl)), ?_, rfl⟩)
      have h11 : A1.eval (.tmp 11) = .pointer (some ⟨zy, 0, none⟩) := (inv.base 11 (by kernel_rfl)).trans rfl
      simp only [execOp, h11, Sem.run_bind, loadDev (Xy.out.below inv.s), Result.andThen_ok, Sem.run_pure]
    · refine ostep_val (.bool true) (by kernel_rfl) (fun _ A1 W1 inv hall => ⟨wanted_some (g := 16) (d := 80) (b := true) rfl (by kernel_rfl) (inv.get hall 16 80 (by kernel_rfl) (by kernel_rfl)), ?_, rfl⟩)
      have h81 : A1.eval (.tmp 81) = .agg #[.int .i64 k, .int .u64 o, .int .u64 t, .int .u8 15] := inv.get hall 17 81 (by kernel_rfl) (by kernel_rfl)
      have h82 : A1.eval (.tmp 82) = .agg #[.int .i64 k, .int .u64 o, .int .u64 t, .int .u8 15] := inv.get hall 18 82 (by kernel_rfl) (by kernel_rfl)
      simp only [execOp, h81, h82, Sem.run_bind, run_eqGuard_agg W1 .eql _ _ _ _ _ guardDev, eq_dev, Result.andThen_ok, Sem.run_pure]
    · refine ostep_val (.bool true) (by kernel_rfl) (fun _ A1 W1 inv hall => ⟨wanted_none rfl, ?_, rfl⟩)
      have h80 : A1.eval (.tmp 80) = .bool true := inv.get hall 16 80 (by kernel_rfl) (by kernel_rfl)
      have h83 : A1.eval (.tmp 83) = .bool true := inv.get hall 19 83 (by kernel_rfl) (by kernel_rfl)
      simp only [execOp, h80, h83]
      simp [asBool]
    · refine ostep_val (.bool true) (by kernel_rfl) (fun _ A1 W1 inv hall => ⟨wanted_none rfl, ?_, rfl⟩)
      have h84 : A1.eval (.tmp 84) = .bool true := inv.get hall 20 84 (by kernel_rfl) (by kernel_rfl)
      simp only [execOp, h84, Sem.run_pure]
    · refine ostep_val (.int .i64 0) (by kernel_rfl) (fun _ A1 W1 inv hall => ⟨wanted_some (g := 21) (d := 85) (b := true) rfl (by kernel_rfl) (inv.get hall 21 85 (by kernel_rfl) (by kernel_rfl)), ?_, rfl⟩)
      have h13 : A1.eval (.tmp 13) = .int .i64 0 := (inv.base 13 (by kernel_rfl)).trans rfl
      simp only [execOp, h13, Sem.run_pure]
    · refine ostep_val (.bool true) (by kernel_rfl) (fun _ A1 W1 inv hall => ⟨wanted_some (g := 21) (d := 85) (b := true) rfl (by kernel_rfl) (inv.get hall 21 85 (by kernel_rfl) (by kernel_rfl)), ?_, rfl⟩)
      have h86 : A1.eval (.tmp 86) = .int .i64 0 := inv.get hall 22 86 (by kernel_rfl) (by kernel_rfl)
      simp only [execOp, h86]
      simp [eqGuard, go_sem]
    · refine ostep_val (.bool true) (by kernel_rfl) (fun _ A1 W1 inv hall => ⟨wanted_none rfl, ?_, rfl⟩)
      have h85 : A1.eval (.tmp 85) = .bool true := inv.get hall 21 85 (by kernel_rfl) (by kernel_rfl)
      have h87 : A1.eval (.tmp 87) = .bool true := inv.get hall 23 87 (by kernel_rfl) (by kernel_rfl)
      simp only [execOp, h85, h87]
      simp [asBool]
    · refine ostep_val (.bool true) (by kernel_rfl) (fun _ A1 W1 inv hall => ⟨wanted_none rfl, ?_, rfl⟩)
      have h88 : A1.eval (.tmp 88) = .bool true := inv.get hall 24 88 (by kernel_rfl) (by kernel_rfl)
      simp only [execOp, h88, Sem.run_pure]
    · refine ostep_val (.agg #[.int .i64 k, .int .u64 o, .int .u64 t, .int .u8 79]) (by kernel_rfl) (fun _ A1 W1 inv hall => ⟨wanted_some (g := 25) (d := 89) (b := true) rfl (by kernel_rfl) (inv.get hall 25 89 (by kernel_rfl) (by kernel_rfl)), ?_, rfl⟩)
      have h12 : A1.eval (.tmp 12) = .pointer (some ⟨zb, 0, none⟩) := (inv.base 12 (by kernel_rfl)).trans rfl
      simp only [execOp, h12, Sem.run_bind, loadDev (Xb.out.below inv.s), Result.andThen_ok, Sem.run_pure]
    · refine ostep_call 12 (by kernel_rfl) _ _ (by kernel_rfl) rfl (fun _ A1 W1 inv hall => ⟨wanted_some (g := 25) (d := 89) (b := true) rfl (by kernel_rfl) (inv.get hall 25 89 (by kernel_rfl) (by kernel_rfl)), #[.agg #[.int .i64 k, .int .u64 o, .int .u64 t, .int .u8 79]], ?_, ?_⟩)
      · have h90 : A1.eval (.tmp 90) = .agg #[.int .i64 k, .int .u64 o, .int .u64 t, .int .u8 79] := inv.get hall 26 90 (by kernel_rfl) (by kernel_rfl)
        simp [h90]
      · refine (RB.out _).mono ?_
        rintro e u ⟨rfl, hb⟩
        exact ⟨_, rfl, rfl, hb⟩
    · refine ostep_val (.bool true) (by kernel_rfl) (fun _ A1 W1 inv hall => ⟨wanted_some (g := 25) (d := 89) (b := true) rfl (by kernel_rfl) (inv.get hall 25 89 (by kernel_rfl) (by kernel_rfl)), ?_, rfl⟩)
      have h91 : A1.eval (.tmp 91) = .bool false := inv.get hall 27 91 (by kernel_rfl) (by kernel_rfl)
      simp only [execOp, h91]
      simp [go_sem]
    · refine ostep_val (.bool true) (by kernel_rfl) (fun _ A1 W1 inv hall => ⟨wanted_none rfl, ?_, rfl⟩)
      have h89 : A1.eval (.tmp 89) = .bool true := inv.get hall 25 89 (by kernel_rfl) (by kernel_rfl)
      have h92 : A1.eval (.tmp 92) = .bool true := inv.get hall 28 92 (by kernel_rfl) (by kernel_rfl)
      simp only [execOp, h89, h92]
      simp [asBool]
    · refine ostep_val (.bool true) (by kernel_rfl) (fun _ A1 W1 inv hall => ⟨wanted_none rfl, ?_, rfl⟩)
      have h93 : A1.eval (.tmp 93) = .bool true := inv.get hall 29 93 (by kernel_rfl) (by kernel_rfl)
      simp only [execOp, h93, Sem.run_pure]
    · refine ostep_val (.agg #[.int .i64 k, .int .u64 o, .int .u64 t, .int .u8 79]) (by kernel_rfl) (fun _ A1 W1 inv hall => ⟨wanted_some (g := 30) (d := 94) (b := true) rfl (by kernel_rfl) (inv.get hall 30 94 (by kernel_rfl) (by kernel_rfl)), ?_, rfl⟩)
      have h12 : A1.eval (.tmp 12) = .pointer (some ⟨zb, 0, none⟩) := (inv.base 12 (by kernel_rfl)).trans rfl
      simp only [execOp, h12, Sem.run_bind, loadDev (Xb.out.below inv.s), Result.andThen_ok, Sem.run_pure]
    · refine ostep_call 13 (by kernel_rfl) _ _ (by kernel_rfl) rfl (fun _ A1 W1 inv hall => ⟨wanted_some (g := 30) (d := 94) (b := true) rfl (by kernel_rfl) (inv.get hall 30 94 (by kernel_rfl) (by kernel_rfl)), #[.agg #[.int .i64 k, .int .u64 o, .int .u64 t, .int .u8 79], .int .u8 15], ?_, ?_⟩)
      · have h95 : A1.eval (.tmp 95) = .agg #[.int .i64 k, .int .u64 o, .int .u64 t, .int .u8 79] := inv.get hall 31 95 (by kernel_rfl) (by kernel_rfl)
        simp [h95, eval_cst]
      · refine (WB.out _).mono ?_
        rintro e u ⟨rfl, hb⟩
        exact ⟨_, rfl, rfl, hb⟩
    · refine ostep_val (.agg #[.int .i64 k, .int .u64 o, .int .u64 t, .int .u8 79]) (by kernel_rfl) (fun _ A1 W1 inv hall => ⟨wanted_some (g := 30) (d := 94) (b := true) rfl (by kernel_rfl) (inv.get hall 30 94 (by kernel_rfl) (by kernel_rfl)), ?_, rfl⟩)
      have h12 : A1.eval (.tmp 12) = .pointer (some ⟨zb, 0, none⟩) := (inv.base 12 (by kernel_rfl)).trans rfl
      simp only [execOp, h12, Sem.run_bind, loadDev (Xb.out.below inv.s), Result.andThen_ok, Sem.run_pure]
    · refine ostep_val (.bool true) (by kernel_rfl) (fun _ A1 W1 inv hall => ⟨wanted_some (g := 30) (d := 94) (b := true) rfl (by kernel_rfl) (inv.get hall 30 94 (by kernel_rfl) (by kernel_rfl)), ?_, rfl⟩)
      have h96 : A1.eval (.tmp 96) = .agg #[.int .i64 k, .int .u64 o, .int .u64 t, .int .u8 79] := inv.get hall 32 96 (by kernel_rfl) (by kernel_rfl)
      have h97 : A1.eval (.tmp 97) = .agg #[.int .i64 k, .int .u64 o, .int .u64 t, .int .u8 79] := inv.get hall 33 97 (by kernel_rfl) (by kernel_rfl)
      simp only [execOp, h96, h97, Sem.run_bind, run_eqGuard_agg W1 .eql _ _ _ _ _ guardDev, eq_dev, Result.andThen_ok, Sem.run_pure]
    · refine ostep_val (.bool true) (by kernel_rfl) (fun _ A1 W1 inv hall => ⟨wanted_none rfl, ?_, rfl⟩)
      have h94 : A1.eval (.tmp 94) = .bool true := inv.get hall 30 94 (by kernel_rfl) (by kernel_rfl)
      have h98 : A1.eval (.tmp 98) = .bool true := inv.get hall 34 98 (by kernel_rfl) (by kernel_rfl)
      simp only [execOp, h94, h98]
      simp [asBool]
    · refine ostep_val (.bool true) (by kernel_rfl) (fun _ A1 W1 inv hall => ⟨wanted_none rfl, ?_, rfl⟩)
      have h99 : A1.eval (.tmp 99) = .bool true := inv.get hall 35 99 (by kernel_rfl) (by kernel_rfl)
      simp only [execOp, h99, Sem.run_pure]
    · refine ostep_val (.int .i64 0) (by kernel_rfl) (fun _ A1 W1 inv hall => ⟨wanted_some (g := 36) (d := 100) (b := true) rfl (by kernel_rfl) (inv.get hall 36 100 (by kernel_rfl) (by kernel_rfl)), ?_, rfl⟩)
      have h15 : A1.eval (.tmp 15) = .int .i64 0 := (inv.base 15 (by kernel_rfl)).trans rfl
      simp only [execOp, h15, Sem.run_pure]
    · refine ostep_val (.bool true) (by kernel_rfl) (fun _ A1 W1 inv hall => ⟨wanted_some (g := 36) (d := 100) (b := true) rfl (by kernel_rfl) (inv.get hall 36 100 (by kernel_rfl) (by kernel_rfl)), ?_, rfl⟩)
      have h101 : A1.eval (.tmp 101) = .int .i64 0 := inv.get hall 37 101 (by kernel_rfl) (by kernel_rfl)
      simp only [execOp, h101]
      simp [eqGuard, go_sem]
    · refine ostep_val (.bool true) (by kernel_rfl) (fun _ A1 W1 inv hall => ⟨wanted_none rfl, ?_, rfl⟩)
      have h100 : A1.eval (.tmp 100) = .bool true := inv.get hall 36 100 (by kernel_rfl) (by kernel_rfl)
      have h102 : A1.eval (.tmp 102) = .bool true := inv.get hall 38 102 (by kernel_rfl) (by kernel_rfl)
      simp only [execOp, h100, h102]
      simp [asBool]
    · refine ostep_val (.bool true) (by kernel_rfl) (fun _ A1 W1 inv hall => ⟨wanted_none rfl, ?_, rfl⟩)
      have h103 : A1.eval (.tmp 103) = .bool true := inv.get hall 39 103 (by kernel_rfl) (by kernel_rfl)
      simp only [execOp, h103, Sem.run_pure]
    · refine ostep_val (.agg #[.int .i64 k, .int .u64 o, .int .u64 t, .int .u8 15]) (by kernel_rfl) (fun _ A1 W1 inv hall => ⟨wanted_some (g := 40) (d := 104) (b := true) rfl (by kernel_rfl) (inv.get hall 40 104 (by kernel_rfl) (by kernel_rfl)), ?_, rfl⟩)
      have h14 : A1.eval (.tmp 14) = .pointer (some ⟨zz, 0, none⟩) := (inv.base 14 (by kernel_rfl)).trans rfl
      simp only [execOp, h14, Sem.run_bind, loadDev (Xz.out.below inv.s), Result.andThen_ok, Sem.run_pure]
    · refine ostep_val (.agg #[.int .i64 k, .int .u64 o, .int .u64 t, .int .u8 15]) (by kernel_rfl) (fun _ A1 W1 inv hall => ⟨wanted_some (g := 40) (d := 104) (b := true) rfl (by kernel_rfl) (inv.get hall 40 104 (by kernel_rfl) (by kernel_rfl)), ?_, rfl⟩)
      have h7 : A1.eval (.tmp 7) = .pointer (some ⟨zx, 0, none⟩) := (inv.base 7 (by kernel_rfl)).trans rfl
      simp only [execOp, h7, Sem.run_bind, loadDev (Xx.out.below inv.s), Result.andThen_ok, Sem.run_pure]
    · refine ostep_val (.bool true) (by kernel_rfl) (fun _ A1 W1 inv hall => ⟨wanted_some (g := 40) (d := 104) (b := true) rfl (by kernel_rfl) (inv.get hall 40 104 (by kernel_rfl) (by kernel_rfl)), ?_, rfl⟩)
      have h105 : A1.eval (.tmp 105) = .agg #[.int .i64 k, .int .u64 o, .int .u64 t, .int .u8 15] := inv.get hall 41 105 (by kernel_rfl) (by kernel_rfl)
      have h106 : A1.eval (.tmp 106) = .agg #[.int .i64 k, .int .u64 o, .int .u64 t, .int .u8 15] := inv.get hall 42 106 (by kernel_rfl) (by kernel_rfl)
      simp only [execOp, h105, h106, Sem.run_bind, run_eqGuard_agg W1 .eql _ _ _ _ _ guardDev, eq_dev, Result.andThen_ok, Sem.run_pure]
    · refine ostep_val (.bool true) (by kernel_rfl) (fun _ A1 W1 inv hall => ⟨wanted_none rfl, ?_, rfl⟩)
      have h104 : A1.eval (.tmp 104) = .bool true := inv.get hall 40 104 (by kernel_rfl) (by kernel_rfl)
      have h107 : A1.eval (.tmp 107) = .bool true := inv.get hall 43 107 (by kernel_rfl) (by kernel_rfl)
      simp only [execOp, h104, h107]
      simp [asBool]
    · refine ostep_val (.bool true) (by kernel_rfl) (fun _ A1 W1 inv hall => ⟨wanted_none rfl, ?_, rfl⟩)
      have h108 : A1.eval (.tmp 108) = .bool true := inv.get hall 44 108 (by kernel_rfl) (by kernel_rfl)
      simp only [execOp, h108, Sem.run_pure]
  · intro listed A1 W1 inv hall
    have hlast : A1.eval (.tmp 4) = .bool true := inv.fin 45 4 (by kernel_rfl) (hall 45 (Nat.lt_of_lt_of_eq (by decide : 45 < 46) (by kernel_rfl)))
    refine (by assumption : ∀ (a : Act) (w : World), Code.wp Try.prog Code.ret _ a w → _) A1 W1 ?_
    go_wp2_with fail
    simp only [Act.eval, Array.getD_eq_getD_getElem?] at hlast
    exact bodyPost_ret (v := .bool true) (by simp [results, Try.results6, go_sem, hlast]) inv.dfr ⟨rfl, below_then B.out inv.s⟩

theorem walk (w : World) (d : Dv) (x : Int) (wx : (Lit.int .u64 x).wf = true) (hd : isDv d) :
    Calls Try.prog 6 #[dvV d, .int .u64 x] w fun e w' => e = .returned (.bool true) ∧ Below w.heap.size w w' := by
  have hx := bounds_u64 wx
  obtain ⟨n, rfl⟩ := Int.eq_ofNat_of_zero_le (show 0 ≤ x by omega)
  have hn : n < N64 := by simp only [N64]; omega
  cases hc : chkB d
  · exact walk_no w d n hd hn hc
  · exact walk_main w d n hd hn hc

/-! ### the row's frame -/
theorem own : ownKnob Try.prog.godebug = none := by kernel_rfl
theorem laidOut : laidOutB Try.prog = true := by kernel_rfl

set_option maxRecDepth 100000 in
theorem lifted (os : Os) (started : os.Started) (H : Type) (enc : TypeId × Value → H) :
    ReturnsInHanded {} Try.checked os 6 .any (Rows.statusInitsSpec.pre6 enc Try.prog Try.f6 Rows.statusInitsRow.domain false) (Rows.statusInitsSpec.post enc Try.prog Try.f6 false true false false) := by
  refine returnsInHanded_of_change (C := Try.checked) own started (by kernel_rfl) Try.func6
    (ChangeSpec.witness6 (enc := enc) (C := Try.checked) false ⟨#[], #[.agg #[.int .i64 0, .int .u64 0, .int .u64 0, .int .u8 0], .int .u64 0], []⟩ 8 (by kernel_rfl) (by kernel_rfl) (by kernel_rfl) (by kernel_rfl)) ?_
  intro W base args ds gs before hval0 hW hcnd _
  have hval : ∀ (j : Nat) t v, Try.f6.params[j]? = some t → args[j]? = some v → Value.okWide Try.prog W .any base t v := hval0
  have hW' := hW
  obtain ⟨p, q, hA0, hV, rfl, hfz, hnd⟩ := hW
  have hA : DataW.TrodAll enc Try.prog W 0 (fun _ => true) true Try.f6.params.toList args.toList ds p := hA0
  rw [Try.params6] at hA hval
  obtain ⟨v0, vs0, d0, ds0, p0, q0, hargs, rfl, rfl, h0, r0⟩ := trodAll_cons hA
  obtain ⟨v1, vs1, d1, ds1, p1, q1, rfl, rfl, rfl, h1, r1⟩ := trodAll_cons r0
  obtain ⟨rfl, rfl, rfl⟩ := trodAll_nil r1
  obtain rfl : args = #[v0, v1] := by cases args; simp_all
  obtain ⟨rfl, rfl⟩ := trodVars_none hV
  have k0 := h0
  have lt0 : ∀ x ∈ p0, x.block < W.heap.size := by
    obtain ⟨m, hm⟩ := k0
    exact DataW.trod_lt m _ _ _ hm
  have k1 := h1
  have lt1 : ∀ x ∈ p1, x.block < W.heap.size := by
    obtain ⟨m, hm⟩ := k1
    exact DataW.trod_lt m _ _ _ hm
  obtain ⟨a0, rfl, w0⟩ := open_dev (hval 0 24 v0 rfl rfl) h0
  obtain ⟨a1, rfl, rfl, rfl, w1⟩ := open_int Try.underlying22 (hval 1 22 v1 rfl rfl) h1
  clear hA0 hval0
  refine (walk W a0 a1 w1 w0).mono fun e W' ⟨he, bel⟩ => ?_
  subst he
  exact ⟨_, rfl, _, _, _, [], _, [], hW', trodAll_mk1 (shut_bool Try.underlying4 _), (trodAll_cons_mk (Below.trod laidOut (by kernel_rfl) (of_decide_eq_true (by kernel_rfl)) k0 bel lt0) (trodAll_cons_mk (Below.trod laidOut (by kernel_rfl) (of_decide_eq_true (by kernel_rfl)) k1 bel lt1) trodAll_mk0)), rfl, bel.frame _, fun h => by cases h⟩

theorem over : Rows.statusInitsRow.holds Try.pinned (OpenSpec.ofChange Rows.statusInitsSpec) :=
  OpenClaim.holds_of_wide 6 Try.f6 rfl rfl rfl rfl rfl rfl rfl ⟨rfl, rfl, rfl, rfl, rfl⟩ rfl rfl rfl rfl rfl (by kernel_rfl) Try.func6 (by kernel_rfl)
    (of_decide_eq_true (by kernel_rfl)) (by unfold Func.isWrapper; first | (rw [if_pos (by decide +kernel)]; kernel_rfl) | (rw [if_neg (by decide +kernel)]; exact ⟨rfl, rfl⟩))
    (fun os started H enc _ => lifted os started H enc)

/-- THE STATEMENT -/
theorem statusInits_holds : Rows.StatusInitsSaid := over
#print axioms statusInits_holds
end Go.Proofs.Ytfiogaollejdbaa.statusInits
