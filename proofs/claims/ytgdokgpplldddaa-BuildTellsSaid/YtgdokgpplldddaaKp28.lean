/- Rd4 Bd3: joined texts. Conditions: as each theorem names them. -/
import Derived.Test.YtgdokgpplldddaaKp09
import Derived.Test.YtgdokgpplldddaaKp23
import Derived.Test.YtgdokgpplldddaaKp27
/- The reference of layer 3: Avail, Used, Mark. Conditions: as each theorem names them. -/
namespace Go.Proofs.Ytgdokgpplldddaa
open Go.ChangeShapes Go.WideShapes Go.ChangeAt Go.RowKit
set_option linter.unusedVariables false
set_option maxRecDepth 100000

theorem and_bit (n k : Nat) : n &&& 2 ^ k = if n.testBit k then 2 ^ k else 0 := by
  apply Nat.eq_of_testBit_eq
  intro i
  rw [Nat.testBit_and, Nat.testBit_two_pow]
  by_cases h : k = i
  · subst h
    cases hb : n.testBit k <;> simp
  · cases hb : n.testBit k <;> simp [h]
theorem own_bits (n : Nat) : ownN n = (if n.testBit 7 then 128 else 0) ||| (if n.testBit 15 then 32768 else 0) := by
  have h7 := and_bit n 7
  have h15 := and_bit n 15
  unfold ownN
  rw [show (32896 : Nat) = 2 ^ 7 ||| 2 ^ 15 from by decide, Nat.and_or_distrib_left, h7, h15]
theorem ravail_any (n : Nat) (b : Bool) (w : World) (hn : n < 65536) : Calls Try.prog 29 #[.int .u16 n, .bool b] w fun e w' => e = .returned (.bool (decide (ownN n = mkN b false))) ∧ w = w' := by
  have e7 : bits .and .u16 (n : Int) 128 = (((if n.testBit 7 then 128 else 0 : Nat)) : Int) := (u16_and_nat n 128 hn (by omega)).trans (by rw [show (128 : Nat) = 2 ^ 7 from by decide, and_bit])
  have e15 : bits .and .u16 (n : Int) 32768 = (((if n.testBit 15 then 32768 else 0 : Nat)) : Int) := (u16_and_nat n 32768 hn (by omega)).trans (by rw [show (32768 : Nat) = 2 ^ 15 from by decide, and_bit])
  have ho := own_bits n
  cases h7 : n.testBit 7 <;> cases h15 : n.testBit 15 <;> cases b
  all_goals
    rw [h7] at e7 ho
    rw [h15] at e15 ho
    rw [ho]
    simp only [if_true, Bool.false_eq_true, if_false] at e7 e15
    clear ho h7 h15
    go_enter Try.func29, Try.ntmps29
    go_wp2_with fail
    go_ret
    exact ⟨rfl, rfl⟩
theorem rmark_any (n : Nat) (a b : Bool) (w : World) (hn : n < 65536) : Calls Try.prog 47 #[.int .u16 n, .bool a, .bool b] w fun e w' => e = .returned (.int .u16 ((markN n a b : Nat) : Int)) ∧ w = w' := by
  have e1 : bits .andNot .u16 (n : Int) 32896 = ((n &&& 32639 : Nat) : Int) := u16_andNot_nat n 32896 hn (by omega)
  have hr : (n &&& 32639) < 65536 := and16_lt (by decide)
  have e2 : bits .or .u16 ((n &&& 32639 : Nat) : Int) 128 = (((n &&& 32639) ||| 128 : Nat) : Int) := u16_or_nat _ 128 hr (by omega)
  have e3 : bits .or .u16 ((n &&& 32639 : Nat) : Int) 32768 = (((n &&& 32639) ||| 32768 : Nat) : Int) := u16_or_nat _ 32768 hr (by omega)
  have hr2 : ((n &&& 32639) ||| 128) < 65536 := Nat.or_lt_two_pow (n := 16) hr (by decide)
  have e4 : bits .or .u16 (((n &&& 32639) ||| 128 : Nat) : Int) 32768 = ((((n &&& 32639) ||| 128) ||| 32768 : Nat) : Int) := u16_or_nat _ 32768 hr2 (by omega)
  have m1 : markN n false false = (n &&& 32639) ||| 32768 := rfl
  have m2 : markN n false true = (n &&& 32639) ||| 0 := rfl
  have m3 : markN n true false = (n &&& 32639) ||| 128 := rfl
  have m4 : markN n true true = ((n &&& 32639) ||| 128) ||| 32768 := by
    rw [Nat.or_assoc]
    rfl
  rw [Nat.or_zero] at m2
  cases a <;> cases b
  · rw [m1]
    clear m1 m2 m3 m4
    go_enter Try.func47, Try.ntmps47
    go_wp2_with fail
    go_ret
    exact ⟨rfl, rfl⟩
  · rw [m2]
    clear m1 m2 m3 m4
    go_enter Try.func47, Try.ntmps47
    go_wp2_with fail
    go_ret
    exact ⟨rfl, rfl⟩
  · rw [m3]
    clear m1 m2 m3 m4
    go_enter Try.func47, Try.ntmps47
    go_wp2_with fail
    go_ret
    exact ⟨rfl, rfl⟩
  · rw [m4]
    clear m1 m2 m3 m4
    go_enter Try.func47, Try.ntmps47
    go_wp2_with fail
    go_ret
    exact ⟨rfl, rfl⟩
end Go.Proofs.Ytgdokgpplldddaa

/- The reference of layer 9: PackedOne. Conditions: as each theorem names them. Written by mkbd3.py. -/
namespace Go.Proofs.Ytgdokgpplldddaa
open Go.ChangeShapes Go.WideShapes Go.ChangeAt Go.RowKit
set_option linter.unusedVariables false
set_option maxRecDepth 100000

/-- five cells of block rb are written -/
def Put5 (rb : Nat) (w w' : World) : Prop := ∃ x0 x1 x2 x3 x4, w' = ((((w.setCell ⟨rb, 0, none⟩ x0).setCell ⟨rb, 1, none⟩ x1).setCell ⟨rb, 2, none⟩ x2).setCell ⟨rb, 3, none⟩ x3).setCell ⟨rb, 4, none⟩ x4
/-- where an end stands: a box that is read, a result of five cells to be written -/
structure EndS (w : World) (bx rb : Nat) (C : List Value) (t t2 : TypeId) (W : World) : Prop where
  box : BlkAt W bx C t
  old : Below w.heap.size w W
  res : ∃ C2, C2.length = 5 ∧ BlkAt W rb C2 t2
theorem EndS.below {w W W' : World} {bx rb : Nat} {C : List Value} {t t2 : TypeId} (h : EndS w bx rb C t t2 W) (hb : Below W.heap.size W W') : EndS w bx rb C t t2 W' := by
  obtain ⟨C2, h2, hr⟩ := h.res
  exact ⟨h.box.below hb, below_then h.old hb, C2, h2, hr.below hb⟩
theorem EndS.put {w W W' : World} {bx rb : Nat} {C : List Value} {t t2 : TypeId} (h : EndS w bx rb C t t2 W) (hne : bx ≠ rb) (hw : w.heap.size ≤ rb) (hp : Put5 rb W W') : EndS w bx rb C t t2 W' := by
  obtain ⟨C2, h2, hr⟩ := h.res
  obtain ⟨x0, x1, x2, x3, x4, rfl⟩ := hp
  refine ⟨((((h.box.other hne _).other hne _).other hne _).other hne _).other hne _, ((((h.old.setCell hw _).setCell hw _).setCell hw _).setCell hw _).setCell hw _, _, ?_, ((((hr.set 0 _).set 1 _).set 2 _).set 3 _).set 4 _⟩
  simp [h2]
theorem put5_pt {w : World} {rb : Nat} {C : List Value} {t : TypeId} (x : Pt) (h : BlkAt w rb C t) (hC : C.length = 5) : BlkAt (((((w.setCell ⟨rb, 0, none⟩ (.int .i64 x.i)).setCell ⟨rb, 1, none⟩ (.int .u64 x.d.a)).setCell ⟨rb, 2, none⟩ (.int .u32 x.d.l)).setCell ⟨rb, 3, none⟩ (.int .u16 x.d.f)).setCell ⟨rb, 4, none⟩ (.int .u16 x.d.n)) rb (ptCells [x]) t := by
  have := ((((h.set 0 (.int .i64 x.i)).set 1 (.int .u64 x.d.a)).set 2 (.int .u32 x.d.l)).set 3 (.int .u16 x.d.f)).set 4 (.int .u16 x.d.n)
  match C, hC with
  | [c0, c1, c2, c3, c4], _ => exact this
theorem up_end (rb : Nat) (C : List Value) (t : TypeId) : Up (fun _ W => BlkAt W rb C t) := fun _ _ _ hb h => h.below hb
theorem blk5 {w : World} {b : Nat} {C : List Value} {t : TypeId} (h : BlkAt w b C t) (hC : C.length = 5) : (∃ c0 c1 c2 c3 c4, C = [c0, c1, c2, c3, c4] ∧ b < w.heap.size ∧ w.cell? ⟨b, 0, none⟩ = some c0 ∧ w.cell? ⟨b, 1, none⟩ = some c1 ∧ w.cell? ⟨b, 2, none⟩ = some c2 ∧ w.cell? ⟨b, 3, none⟩ = some c3 ∧ w.cell? ⟨b, 4, none⟩ = some c4) ∧ w.frozen? ⟨b, 0, none⟩ = false ∧ w.frozen? ⟨b, 1, none⟩ = false ∧ w.frozen? ⟨b, 2, none⟩ = false ∧ w.frozen? ⟨b, 3, none⟩ = false ∧ w.frozen? ⟨b, 4, none⟩ = false := by
  match C, hC with
  | [c0, c1, c2, c3, c4], _ => exact ⟨⟨c0, c1, c2, c3, c4, rfl, h.lt, h.cell 0, h.cell 1, h.cell 2, h.cell 3, h.cell 4⟩, h.free 0, h.free 1, h.free 2, h.free 3, h.free 4⟩
theorem put5_below {w a : World} {rb B : Nat} (h : Below B a w) (hb : B ≤ rb) (x0 x1 x2 x3 x4 : Value) : Below B a (((((w.setCell ⟨rb, 0, none⟩ x0).setCell ⟨rb, 1, none⟩ x1).setCell ⟨rb, 2, none⟩ x2).setCell ⟨rb, 3, none⟩ x3).setCell ⟨rb, 4, none⟩ x4) := ((((h.setCell hb _).setCell hb _).setCell hb _).setCell hb _).setCell hb _
theorem eval_c2 (a : Act) (v : Value) : a.eval (.const v) = v := rfl
set_option maxHeartbeats 4000000 in
theorem rpone (p n : Int) (b : Bool) (id at_ m : Int) (w : World) :
    Calls Try.prog 24 #[.agg #[.int .i64 p, .bool b], .int .i64 n, .int .i64 id, .int .u64 at_, .int .i64 m] w fun e w' => e = .returned (.tuple #[pV (ponP p n b id at_ m), .int .i64 (ponE p n id m)]) ∧ Below w.heap.size w w' := by
  have HB0 : Hid (Below w.heap.size w ((w.alloc (.cells #[.int .i64 p, .bool b] 33)).alloc (.cells (ptCells [zPt]).toArray 46))) := hid_mk ((below_box w _).alloc (by simp) _)
  have HX0 : Hid (BlkAt ((w.alloc (.cells #[.int .i64 p, .bool b] 33)).alloc (.cells (ptCells [zPt]).toArray 46)) w.heap.size [.int .i64 p, .bool b] 33) := hid_mk ((blk_new w [.int .i64 p, .bool b] 33).below (below_box _ _))
  have HR0 : Hid (BlkAt ((w.alloc (.cells #[.int .i64 p, .bool b] 33)).alloc (.cells (ptCells [zPt]).toArray 46)) (w.heap.size + 1) (ptCells [zPt]) 46) := hid_mk (by
    have := blk_new (w.alloc (.cells #[.int .i64 p, .bool b] 33)) (ptCells [zPt]) 46
    simpa using this)
  have HC := hid_mk (rcheck_all p n b ((w.alloc (.cells #[.int .i64 p, .bool b] 33)).alloc (.cells (ptCells [zPt]).toArray 46)))
  unfold chkI at HC
  unfold ponP ponE ponB
  simp only [ptCells, zPt] at HB0 HX0 HR0 HC
  cases hp : okP p n
  · rw [hp] at HC
    rw [if_neg (by decide)] at HC
    rw [Bool.false_and, if_neg (by decide), if_neg (by decide)]
    clear hp
    go_enter Try.func24, Try.ntmps24
    go_wp2_with fail
    refine HC.out.mono ?_
    rintro e w1 ⟨rfl, hb1⟩
    have HB1 := hid_mk (HB0.out.trans (hb1.mono HB0.out.size))
    have HR1 := hid_mk (HR0.out.below hb1)
    have HX1 := hid_mk (HX0.out.below hb1)
    obtain ⟨⟨c0, c1, c2, c3, c4, hcc, hlt, k0, k1, k2, k3, k4⟩, f0, f1, f2, f3, f4⟩ := blk5 HR1.out rfl
    cases hcc
    clear hb1
    go_wp2_with fail
    exact bodyPost_ret (v := .tuple #[pV zPt, .int .i64 2]) (by simp [results, Try.results24, go_sem, zPt, k0, k1, k2, k3, k4]) rfl ⟨rfl, put5_below HB1.out (Nat.le_succ _) _ _ _ _ _⟩
  obtain ⟨g1, g2, g3, g4⟩ := okP_t hp
  rw [hp] at HC
  rw [if_pos rfl] at HC
  rw [Bool.true_and]
  clear hp
  by_cases h : (okI n id && (decide (1 ≤ m) && decide (m ≤ 64))) = true
  · rw [if_pos h, if_pos h]
    simp only [Bool.and_eq_true, decide_eq_true_eq, okI_iff] at h
    obtain ⟨⟨h1, h2⟩, h3, h4⟩ := h
    have HW64 : Hid (IntKind.i64.wrap (16 * m) = 16 * m) := hid_mk (IntWalk.i64_in _ (by omega))
    have HW32 : Hid (IntKind.u32.wrap (16 * m) = 16 * m) := hid_mk (by rw [IntKind.wrap_u32]; omega)
    have HW16 : Hid (IntKind.u16.wrap id = id) := hid_mk (by rw [IntKind.wrap_u16]; omega)
    have d1 : decide (id < 0) = false := decide_eq_false (by omega)
    have d2 : decide (n ≤ id) = false := decide_eq_false (by omega)
    have d3 : decide (m < 1) = false := decide_eq_false (by omega)
    have d4 : decide (64 < m) = false := decide_eq_false (by omega)
    go_enter Try.func24, Try.ntmps24
    go_wp2_with fail
    refine HC.out.mono ?_
    rintro e w1 ⟨rfl, hb1⟩
    have HES : Hid (EndS w w.heap.size (w.heap.size + 1) [.int .i64 p, .bool b] 33 46 w1.drew) := hid_mk ⟨(HX0.out.below hb1).below (Below.refl _ _).drew, (HB0.out.trans (hb1.mono HB0.out.size)).drew, _, rfl, (HR0.out.below hb1).below (Below.refl _ _).drew⟩
    clear hb1
    obtain ⟨bx, hbx⟩ : ∃ bx, w.heap.size = bx := ⟨_, rfl⟩
    obtain ⟨rb, hrb⟩ : ∃ rb, bx + 1 = rb := ⟨_, rfl⟩
    have HNE : Hid (bx ≠ rb) := hid_mk (by omega)
    have HWR : Hid (w.heap.size ≤ rb) := hid_mk (by omega)
    rw [hbx, hrb] at HES
    rw [hbx]
    rw [hrb]
    have HBX := hid_mk hbx
    clear hbx hrb HB0 HX0 HR0 HC
    go_wp2_with fail
    refine wp_region_outl3 10 [(13, Put5 rb)] [] []
        [(fun v _ => v = .pointer (some ⟨bx, 0, none⟩)),
        (fun v _ => v = .int .i64 p),
        (fun v _ => v = .int .u64 at_),
        (fun v _ => v = .int .i64 m),
        (fun v _ => v = .int .i64 (16 * m)),
        (fun v _ => v = .int .u32 (16 * m)),
        (fun v _ => v = .int .i64 id),
        (fun v _ => v = .int .u16 id),
        (fun v _ => v = .pointer (some ⟨bx, 1, none⟩)),
        (fun v _ => v = .bool b),
        (fun v _ => v = .int .u16 (markN 4 b false : Nat)),
        (fun v _ => v = .agg #[.int .u64 at_, .int .u32 (16 * m), .int .u16 id, .int .u16 (markN 4 b false : Nat)]),
        (fun v _ => v = pV ⟨p, ⟨at_, 16 * m, id, (markN 4 b false : Nat)⟩⟩),
        (fun _ W => BlkAt W rb (ptCells [⟨p, ⟨at_, 16 * m, id, (markN 4 b false : Nat)⟩⟩]) 46),
        (fun v _ => v = .int .i64 0)]
        (EndS w bx rb [.int .i64 p, .bool b] 33 46) (by kernel_rfl) (by kernel_rfl) (by kernel_rfl) ?_ (fun u u' hb h => h.below hb) (HES.out) ?_ ?_ ?_ ?_ ?_
    · refine And.intro (up_eq _) ?_
      refine And.intro (up_eq _) ?_
      refine And.intro (up_eq _) ?_
      refine And.intro (up_eq _) ?_
      refine And.intro (up_eq _) ?_
      refine And.intro (up_eq _) ?_
      refine And.intro (up_eq _) ?_
      refine And.intro (up_eq _) ?_
      refine And.intro (up_eq _) ?_
      refine And.intro (up_eq _) ?_
      refine And.intro (up_eq _) ?_
      refine And.intro (up_eq _) ?_
      refine And.intro (up_eq _) ?_
      refine And.intro (up_end _ _ _) ?_
      refine And.intro (up_eq _) ?_
      trivial
    · trivial
    · trivial
    · refine And.intro (And.intro ?_ (fun u u' hb h => h.put HNE.out HWR.out hb)) ?_
      · refine And.intro (fun _ _ _ => ch_eq _ _) ?_
        refine And.intro (fun _ _ _ => ch_eq _ _) ?_
        refine And.intro (fun _ _ _ => ch_eq _ _) ?_
        refine And.intro (fun _ _ _ => ch_eq _ _) ?_
        refine And.intro (fun _ _ _ => ch_eq _ _) ?_
        refine And.intro (fun _ _ _ => ch_eq _ _) ?_
        refine And.intro (fun _ _ _ => ch_eq _ _) ?_
        refine And.intro (fun _ _ _ => ch_eq _ _) ?_
        refine And.intro (fun _ _ _ => ch_eq _ _) ?_
        refine And.intro (fun _ _ _ => ch_eq _ _) ?_
        refine And.intro (fun _ _ _ => ch_eq _ _) ?_
        refine And.intro (fun _ _ _ => ch_eq _ _) ?_
        refine And.intro (fun _ _ _ => ch_eq _ _) ?_
        refine And.intro (fun h _ _ => absurd rfl h) ?_
        refine And.intro (fun _ _ _ => ch_eq _ _) ?_
        trivial
      trivial
    · refine And.intro ?_ (And.intro ?_ (And.intro ?_ (And.intro ?_ (And.intro ?_ (And.intro ?_ (And.intro ?_ (And.intro ?_ (And.intro ?_ (And.intro ?_ (And.intro ?_ (And.intro ?_ (And.intro ?_ (And.intro ?_ (And.intro ?_ (True.intro)))))))))))))))
      · refine qstep_val (.pointer (some ⟨bx, 0, none⟩)) (by kernel_rfl) (by kernel_rfl) rfl (fun _ A1 W1 inv hnl hall => ⟨wanted_none rfl, ?_, rfl⟩)
        have h5 : A1.eval (.tmp 5) = .pointer (some ⟨bx, 0, none⟩) := (inv.base 5 (by kernel_rfl)).trans rfl
        simp only [execOp, h5]
        simp [go_sem]
      · refine qstep_val (.int .i64 p) (by kernel_rfl) (by kernel_rfl) rfl (fun _ A1 W1 inv hnl hall => ⟨wanted_none rfl, ?_, rfl⟩)
        have h34 : A1.eval (.tmp 34) = .pointer (some ⟨bx, 0, none⟩) := inv.get hall 0 34 (by kernel_rfl) (by kernel_rfl) rfl
        have gg := inv.s.box.cell 0
        simp at gg
        simp only [execOp, h34]
        simp [go_sem, gg]
      · refine qstep_val (.int .u64 at_) (by kernel_rfl) (by kernel_rfl) rfl (fun _ A1 W1 inv hnl hall => ⟨wanted_none rfl, ?_, rfl⟩)
        have h3 : A1.eval (.tmp 3) = .int .u64 at_ := (inv.base 3 (by kernel_rfl)).trans rfl
        simp only [execOp, h3, Sem.run_pure]
      · refine qstep_val (.int .i64 m) (by kernel_rfl) (by kernel_rfl) rfl (fun _ A1 W1 inv hnl hall => ⟨wanted_none rfl, ?_, rfl⟩)
        have h4 : A1.eval (.tmp 4) = .int .i64 m := (inv.base 4 (by kernel_rfl)).trans rfl
        simp only [execOp, h4, Sem.run_pure]
      · refine qstep_val (.int .i64 (16 * m)) (by kernel_rfl) (by kernel_rfl) rfl (fun _ A1 W1 inv hnl hall => ⟨wanted_none rfl, ?_, rfl⟩)
        have h37 : A1.eval (.tmp 37) = .int .i64 m := inv.get hall 3 37 (by kernel_rfl) (by kernel_rfl) rfl
        simp only [execOp, h37, eval_c2]
        simp [go_sem, HW64.out]
      · refine qstep_val (.int .u32 (16 * m)) (by kernel_rfl) (by kernel_rfl) rfl (fun _ A1 W1 inv hnl hall => ⟨wanted_none rfl, ?_, rfl⟩)
        have h38 : A1.eval (.tmp 38) = .int .i64 (16 * m) := inv.get hall 4 38 (by kernel_rfl) (by kernel_rfl) rfl
        simp only [execOp, h38]
        simp [go_sem, HW32.out]
      · refine qstep_val (.int .i64 id) (by kernel_rfl) (by kernel_rfl) rfl (fun _ A1 W1 inv hnl hall => ⟨wanted_none rfl, ?_, rfl⟩)
        have h2 : A1.eval (.tmp 2) = .int .i64 id := (inv.base 2 (by kernel_rfl)).trans rfl
        simp only [execOp, h2, Sem.run_pure]
      · refine qstep_val (.int .u16 id) (by kernel_rfl) (by kernel_rfl) rfl (fun _ A1 W1 inv hnl hall => ⟨wanted_none rfl, ?_, rfl⟩)
        have h40 : A1.eval (.tmp 40) = .int .i64 id := inv.get hall 6 40 (by kernel_rfl) (by kernel_rfl) rfl
        simp only [execOp, h40]
        simp [go_sem, HW16.out]
      · refine qstep_val (.pointer (some ⟨bx, 1, none⟩)) (by kernel_rfl) (by kernel_rfl) rfl (fun _ A1 W1 inv hnl hall => ⟨wanted_none rfl, ?_, rfl⟩)
        have h5 : A1.eval (.tmp 5) = .pointer (some ⟨bx, 0, none⟩) := (inv.base 5 (by kernel_rfl)).trans rfl
        simp only [execOp, h5]
        simp [go_sem]
      · refine qstep_val (.bool b) (by kernel_rfl) (by kernel_rfl) rfl (fun _ A1 W1 inv hnl hall => ⟨wanted_none rfl, ?_, rfl⟩)
        have h42 : A1.eval (.tmp 42) = .pointer (some ⟨bx, 1, none⟩) := inv.get hall 8 42 (by kernel_rfl) (by kernel_rfl) rfl
        have gg := inv.s.box.cell 1
        simp at gg
        simp only [execOp, h42]
        simp [go_sem, gg]
      · refine qstep_call 47 (by kernel_rfl) _ _ (by kernel_rfl) (by kernel_rfl) rfl rfl (fun _ A1 W1 inv hnl hall => ⟨wanted_none rfl, #[.int .u16 4, .bool b, .bool false], ?_, ?_⟩)
        · have h43 : A1.eval (.tmp 43) = .bool b := inv.get hall 9 43 (by kernel_rfl) (by kernel_rfl) rfl
          simp [h43, eval_c2]
        · refine (rmark_any 4 b false _ (by decide)).mono ?_
          rintro e u ⟨rfl, rfl⟩
          exact ⟨_, rfl, rfl, Below.refl _ _⟩
      · refine qstep_val (.agg #[.int .u64 at_, .int .u32 (16 * m), .int .u16 id, .int .u16 (markN 4 b false : Nat)]) (by kernel_rfl) (by kernel_rfl) rfl (fun _ A1 W1 inv hnl hall => ⟨wanted_none rfl, ?_, rfl⟩)
        have h36 : A1.eval (.tmp 36) = .int .u64 at_ := inv.get hall 2 36 (by kernel_rfl) (by kernel_rfl) rfl
        have h39 : A1.eval (.tmp 39) = .int .u32 (16 * m) := inv.get hall 5 39 (by kernel_rfl) (by kernel_rfl) rfl
        have h41 : A1.eval (.tmp 41) = .int .u16 id := inv.get hall 7 41 (by kernel_rfl) (by kernel_rfl) rfl
        have h44 : A1.eval (.tmp 44) = .int .u16 (markN 4 b false : Nat) := inv.get hall 10 44 (by kernel_rfl) (by kernel_rfl) rfl
        simp only [execOp, List.map_toArray, List.map_cons, List.map_nil, h36, h39, h41, h44]
        simp [go_sem]
      · refine qstep_val (pV ⟨p, ⟨at_, 16 * m, id, (markN 4 b false : Nat)⟩⟩) (by kernel_rfl) (by kernel_rfl) rfl (fun _ A1 W1 inv hnl hall => ⟨wanted_none rfl, ?_, rfl⟩)
        have h35 : A1.eval (.tmp 35) = .int .i64 p := inv.get hall 1 35 (by kernel_rfl) (by kernel_rfl) rfl
        have h45 : A1.eval (.tmp 45) = .agg #[.int .u64 at_, .int .u32 (16 * m), .int .u16 id, .int .u16 (markN 4 b false : Nat)] := inv.get hall 11 45 (by kernel_rfl) (by kernel_rfl) rfl
        simp only [execOp, List.map_toArray, List.map_cons, List.map_nil, h35, h45]
        simp [go_sem]
      · refine qstep_skip (by kernel_rfl) (by kernel_rfl) rfl (fun _ A1 W1 inv hnl hall => ⟨wanted_none rfl, ?_⟩)
        have h10 : A1.eval (.tmp 10) = .pointer (some ⟨rb, 0, none⟩) := (inv.base 10 (by kernel_rfl)).trans rfl
        have h46 : A1.eval (.tmp 46) = pV ⟨p, ⟨at_, 16 * m, id, (markN 4 b false : Nat)⟩⟩ := inv.get hall 12 46 (by kernel_rfl) (by kernel_rfl) rfl
        obtain ⟨C2, hC2, hr⟩ := inv.s.res
        have hend := put5_pt ⟨p, ⟨at_, 16 * m, id, (markN 4 b false : Nat)⟩⟩ hr hC2
        obtain ⟨⟨c0, c1, c2, c3, c4, rfl, hlt, k0, k1, k2, k3, k4⟩, f0, f1, f2, f3, f4⟩ := blk5 hr hC2
        refine ⟨_, ?_, hend, ⟨_, _, _, _, _, rfl⟩⟩
        simp only [execOp, h10, h46]
        simp [go_sem, k0, k1, k2, k3, k4, f0, f1, f2, f3, f4]
      · refine qstep_val (.int .i64 0) (by kernel_rfl) (by kernel_rfl) rfl (fun _ A1 W1 inv hnl hall => ⟨wanted_none rfl, ?_, rfl⟩)
        simp only [execOp, Sem.run_pure]
        rfl
    · intro listed A1 W1 inv hall
      have e34 : A1.eval (.tmp 34) = .pointer (some ⟨bx, 0, none⟩) := inv.fin 0 34 (by kernel_rfl) (hall 0 (Nat.lt_of_lt_of_eq (by decide : 0 < 15) (by kernel_rfl))) rfl
      have e35 : A1.eval (.tmp 35) = .int .i64 p := inv.fin 1 35 (by kernel_rfl) (hall 1 (Nat.lt_of_lt_of_eq (by decide : 1 < 15) (by kernel_rfl))) rfl
      have e36 : A1.eval (.tmp 36) = .int .u64 at_ := inv.fin 2 36 (by kernel_rfl) (hall 2 (Nat.lt_of_lt_of_eq (by decide : 2 < 15) (by kernel_rfl))) rfl
      have e37 : A1.eval (.tmp 37) = .int .i64 m := inv.fin 3 37 (by kernel_rfl) (hall 3 (Nat.lt_of_lt_of_eq (by decide : 3 < 15) (by kernel_rfl))) rfl
      have e38 : A1.eval (.tmp 38) = .int .i64 (16 * m) := inv.fin 4 38 (by kernel_rfl) (hall 4 (Nat.lt_of_lt_of_eq (by decide : 4 < 15) (by kernel_rfl))) rfl
      have e39 : A1.eval (.tmp 39) = .int .u32 (16 * m) := inv.fin 5 39 (by kernel_rfl) (hall 5 (Nat.lt_of_lt_of_eq (by decide : 5 < 15) (by kernel_rfl))) rfl
      have e40 : A1.eval (.tmp 40) = .int .i64 id := inv.fin 6 40 (by kernel_rfl) (hall 6 (Nat.lt_of_lt_of_eq (by decide : 6 < 15) (by kernel_rfl))) rfl
      have e41 : A1.eval (.tmp 41) = .int .u16 id := inv.fin 7 41 (by kernel_rfl) (hall 7 (Nat.lt_of_lt_of_eq (by decide : 7 < 15) (by kernel_rfl))) rfl
      have e42 : A1.eval (.tmp 42) = .pointer (some ⟨bx, 1, none⟩) := inv.fin 8 42 (by kernel_rfl) (hall 8 (Nat.lt_of_lt_of_eq (by decide : 8 < 15) (by kernel_rfl))) rfl
      have e43 : A1.eval (.tmp 43) = .bool b := inv.fin 9 43 (by kernel_rfl) (hall 9 (Nat.lt_of_lt_of_eq (by decide : 9 < 15) (by kernel_rfl))) rfl
      have e44 : A1.eval (.tmp 44) = .int .u16 (markN 4 b false : Nat) := inv.fin 10 44 (by kernel_rfl) (hall 10 (Nat.lt_of_lt_of_eq (by decide : 10 < 15) (by kernel_rfl))) rfl
      have e45 : A1.eval (.tmp 45) = .agg #[.int .u64 at_, .int .u32 (16 * m), .int .u16 id, .int .u16 (markN 4 b false : Nat)] := inv.fin 11 45 (by kernel_rfl) (hall 11 (Nat.lt_of_lt_of_eq (by decide : 11 < 15) (by kernel_rfl))) rfl
      have e46 : A1.eval (.tmp 46) = pV ⟨p, ⟨at_, 16 * m, id, (markN 4 b false : Nat)⟩⟩ := inv.fin 12 46 (by kernel_rfl) (hall 12 (Nat.lt_of_lt_of_eq (by decide : 12 < 15) (by kernel_rfl))) rfl
      have e11 : A1.eval (.tmp 11) = .int .i64 0 := inv.fin 14 11 (by kernel_rfl) (hall 14 (Nat.lt_of_lt_of_eq (by decide : 14 < 15) (by kernel_rfl))) rfl
      have hst13 := inv.fin0 13 (by kernel_rfl) (hall 13 (Nat.lt_of_lt_of_eq (by decide : 13 < 15) (by kernel_rfl))) rfl
      have HF := inv.frame hall
      have HS9 := hid_mk inv.s
      simp only [putEnd, e34, e35, e36, e37, e38, e39, e40, e41, e42, e43, e44, e45, e46, e11, Act.put, List.setIfInBounds_toArray, List.set_cons_succ, List.set_cons_zero] at HF
      clear e34 e35 e36 e37 e38 e39 e40 e41 e42 e43 e44 e45 e46 e11 inv hall
      subst HF
      have HE9 := hid_mk hst13
      obtain ⟨⟨c0, c1, c2, c3, c4, hcc, hlt, k0, k1, k2, k3, k4⟩, f0, f1, f2, f3, f4⟩ := blk5 HE9.out rfl
      cases hcc
      go_wp2_with fail
      exact bodyPost_ret (v := .tuple #[pV ⟨p, ⟨at_, 16 * m, id, (markN 4 b false : Nat)⟩⟩, .int .i64 0]) (by simp [results, Try.results24, go_sem, k0, k1, k2, k3, k4]) rfl ⟨rfl, HS9.out.old⟩
  · rw [if_neg h, if_neg h]
    have hc : id < 0 ∨ (0 ≤ id ∧ n ≤ id) ∨ (0 ≤ id ∧ id < n ∧ m < 1) ∨ (0 ≤ id ∧ id < n ∧ 1 ≤ m ∧ 64 < m) := by
      simp only [Bool.and_eq_true, decide_eq_true_eq, okI_iff] at h
      omega
    clear h
    rcases hc with h1 | ⟨h1, h2⟩ | ⟨h1, h2, h3⟩ | ⟨h1, h2, h3, h4⟩
    · have et : decide (id < 0) = true := decide_eq_true (by omega)
      go_enter Try.func24, Try.ntmps24
      go_wp2_with fail
      refine HC.out.mono ?_
      rintro e w1 ⟨rfl, hb1⟩
      have HB1 := hid_mk (HB0.out.trans (hb1.mono HB0.out.size))
      have HR1 := hid_mk (HR0.out.below hb1)
      have HX1 := hid_mk (HX0.out.below hb1)
      obtain ⟨⟨c0, c1, c2, c3, c4, hcc, hlt, k0, k1, k2, k3, k4⟩, f0, f1, f2, f3, f4⟩ := blk5 HR1.out rfl
      cases hcc
      clear hb1
      go_wp2_with fail
      exact bodyPost_ret (v := .tuple #[pV zPt, .int .i64 2]) (by simp [results, Try.results24, go_sem, zPt, k0, k1, k2, k3, k4]) rfl ⟨rfl, put5_below HB1.out (Nat.le_succ _) _ _ _ _ _⟩
    · have e0 : decide (id < 0) = false := decide_eq_false (by omega)
      have et : decide (n ≤ id) = true := decide_eq_true (by omega)
      go_enter Try.func24, Try.ntmps24
      go_wp2_with fail
      refine HC.out.mono ?_
      rintro e w1 ⟨rfl, hb1⟩
      have HB1 := hid_mk (HB0.out.trans (hb1.mono HB0.out.size))
      have HR1 := hid_mk (HR0.out.below hb1)
      have HX1 := hid_mk (HX0.out.below hb1)
      obtain ⟨⟨c0, c1, c2, c3, c4, hcc, hlt, k0, k1, k2, k3, k4⟩, f0, f1, f2, f3, f4⟩ := blk5 HR1.out rfl
      cases hcc
      clear hb1
      go_wp2_with fail
      exact bodyPost_ret (v := .tuple #[pV zPt, .int .i64 2]) (by simp [results, Try.results24, go_sem, zPt, k0, k1, k2, k3, k4]) rfl ⟨rfl, put5_below HB1.out (Nat.le_succ _) _ _ _ _ _⟩
    · have e0 : decide (id < 0) = false := decide_eq_false (by omega)
      have e1 : decide (n ≤ id) = false := decide_eq_false (by omega)
      have et : decide (m < 1) = true := decide_eq_true (by omega)
      go_enter Try.func24, Try.ntmps24
      go_wp2_with fail
      refine HC.out.mono ?_
      rintro e w1 ⟨rfl, hb1⟩
      have HB1 := hid_mk (HB0.out.trans (hb1.mono HB0.out.size))
      have HR1 := hid_mk (HR0.out.below hb1)
      have HX1 := hid_mk (HX0.out.below hb1)
      obtain ⟨⟨c0, c1, c2, c3, c4, hcc, hlt, k0, k1, k2, k3, k4⟩, f0, f1, f2, f3, f4⟩ := blk5 HR1.out rfl
      cases hcc
      clear hb1
      go_wp2_with fail
      exact bodyPost_ret (v := .tuple #[pV zPt, .int .i64 2]) (by simp [results, Try.results24, go_sem, zPt, k0, k1, k2, k3, k4]) rfl ⟨rfl, put5_below HB1.out (Nat.le_succ _) _ _ _ _ _⟩
    · have e0 : decide (id < 0) = false := decide_eq_false (by omega)
      have e1 : decide (n ≤ id) = false := decide_eq_false (by omega)
      have e2 : decide (m < 1) = false := decide_eq_false (by omega)
      have et : decide (64 < m) = true := decide_eq_true (by omega)
      go_enter Try.func24, Try.ntmps24
      go_wp2_with fail
      refine HC.out.mono ?_
      rintro e w1 ⟨rfl, hb1⟩
      have HB1 := hid_mk (HB0.out.trans (hb1.mono HB0.out.size))
      have HR1 := hid_mk (HR0.out.below hb1)
      have HX1 := hid_mk (HX0.out.below hb1)
      obtain ⟨⟨c0, c1, c2, c3, c4, hcc, hlt, k0, k1, k2, k3, k4⟩, f0, f1, f2, f3, f4⟩ := blk5 HR1.out rfl
      cases hcc
      clear hb1
      go_wp2_with fail
      exact bodyPost_ret (v := .tuple #[pV zPt, .int .i64 2]) (by simp [results, Try.results24, go_sem, zPt, k0, k1, k2, k3, k4]) rfl ⟨rfl, put5_below HB1.out (Nat.le_succ _) _ _ _ _ _⟩
end Go.Proofs.Ytgdokgpplldddaa
