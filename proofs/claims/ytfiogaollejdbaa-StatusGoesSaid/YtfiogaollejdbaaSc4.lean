/- status's valid, write, ask. Conditions: as each theorem names them. -/
import Derived.Test.YtfiogaollejdbaaSc3
namespace Go.Proofs.Ytfiogaollejdbaa
open Go.ChangeShapes Go.WideShapes Go.ChangeAt Go.RowKit
set_option linter.unusedVariables false
set_option maxRecDepth 100000

/-! ### what set makes of a status -/
theorem word_bits : ∀ x : Fin 256, hasM (x.val &&& (255 - 64)) 1 = x.val.testBit 0 ∧ hasM (x.val &&& (255 - 64)) 2 = x.val.testBit 1 ∧ hasM (x.val &&& (255 - 64)) 8 = x.val.testBit 3 ∧ hasM (x.val &&& (255 - 64)) 4 = x.val.testBit 2 ∧ hasM (x.val &&& (255 - 64)) 64 = false ∧ hasM (x.val &&& (255 - 64)) 128 = x.val.testBit 7 := by decide +kernel
theorem setN_word (a : Bool) {x s : Nat} (hx : x < 256) (hs : s < 256) : setN a (x &&& (255 - 64)) s 6 = wrS a s x := by
  obtain ⟨b0, b1, b3, b2, b6, b7⟩ := word_bits ⟨x, hx⟩
  simp only at b0 b1 b3 b2 b6 b7
  generalize x &&& (255 - 64) = y at *
  have e1 : setN a y s 1 = wr1 s x := by
    show setS (hasM y 1 && true) 1 s = _
    rw [b0, Bool.and_true]
    rfl
  have l1 : wr1 s x < 256 := setS_lt (by decide) hs
  have e2 : setN a y s 2 = wr2 s x := by
    show setS (hasM y 2 && hasM (setN a y s 1) 1) 2 (setN a y s 1) = _
    rw [e1, b1, (hasM_all l1).1]
    rfl
  have l2 : wr2 s x < 256 := setS_lt (by decide) l1
  have e3 : setN a y s 3 = wr3 a s x := by
    show setS (hasM y 8 && ((setN a y s 2).testBit 1 && a)) 8 (setN a y s 2) = _
    rw [e2, b3, ← Bool.and_assoc]
    rfl
  have l3 : wr3 a s x < 256 := setS_lt (by decide) l2
  have e4 : setN a y s 4 = wr4 a s x := by
    show setS (hasM y 4 && hasM (setN a y s 3) 8) 4 (setN a y s 3) = _
    rw [e3, b2, (hasM_all l3).2.2.2.1]
    rfl
  have e5 : setN a y s 5 = wr4 a s x := by
    show setS (hasM y 64 && hasM (setN a y s 4) 4) 64 (setN a y s 4) = _
    rw [e4, b6, Bool.false_and]
    rfl
  show setS (hasM y 128 && true) 128 (setN a y s 5) = _
  rw [e5, b7, Bool.and_true]
  rfl
theorem setN_brk (a : Bool) {s : Nat} (hs : s < 256) (h : s.testBit 2 = true) : setN a 64 s 6 = s ||| 64 := by
  have e1 : setN a 64 s 1 = s := by
    show setS (hasM 64 1 && true) 1 s = _
    rw [show hasM 64 1 = false by decide]
    rfl
  have e2 : setN a 64 s 2 = s := by
    show setS (hasM 64 2 && hasM (setN a 64 s 1) 1) 2 (setN a 64 s 1) = _
    rw [e1, show hasM 64 2 = false by decide]
    rfl
  have e3 : setN a 64 s 3 = s := by
    show setS (hasM 64 8 && ((setN a 64 s 2).testBit 1 && a)) 8 (setN a 64 s 2) = _
    rw [e2, show hasM 64 8 = false by decide]
    rfl
  have e4 : setN a 64 s 4 = s := by
    show setS (hasM 64 4 && hasM (setN a 64 s 3) 8) 4 (setN a 64 s 3) = _
    rw [e3, show hasM 64 4 = false by decide]
    rfl
  have e5 : setN a 64 s 5 = s ||| 64 := by
    show setS (hasM 64 64 && hasM (setN a 64 s 4) 4) 64 (setN a 64 s 4) = _
    rw [e4, show hasM 64 64 = true by decide, (hasM_all hs).2.2.1, h]
    rfl
  show setS (hasM 64 128 && true) 128 (setN a 64 s 5) = _
  rw [e5, show hasM 64 128 = false by decide]
  rfl

/-! ### write and ask, of any state -/
def wrN (d : Dv) (x : Nat) : Dv := if x = 0 then ⟨d.k, d.o, 0, 0⟩ else ⟨d.k, d.o, d.g, wrS (accD d) d.s x⟩
def askN (d : Dv) (x : Nat) : Dv := if (d.s.testBit 1 && !d.s.testBit 3) = true then ⟨d.k, d.o, x, d.s⟩ else d
theorem wrD_ok {d : Dv} (h : chkB d = true) (x : Nat) : wrD d x = wrN d x := by
  unfold wrD wrN
  rw [if_pos h]
theorem wrD_no {d : Dv} (h : chkB d = false) (x : Nat) : wrD d x = d := by
  unfold wrD
  rw [h]
  rfl
theorem askD_ok {d : Dv} (h : chkB d = true) (x : Nat) : askD d x = askN d x := by
  unfold askD askN
  rw [h, Bool.true_and]
theorem askD_no {d : Dv} (h : chkB d = false) (x : Nat) : askD d x = d := by
  unfold askD
  rw [h]
  rfl
theorem chk_eq (d : Dv) (h : isDv d) : chkB d = (newB d.k d.o && (soundF (accD d) d.s && (d.s.testBit 1 || decide (d.g = 0)))) := by
  unfold chkB
  rw [← sound_st (accD d) (decide (d.g = 0)) ⟨d.s, h.s⟩]

set_option maxHeartbeats 1000000 in
theorem svalid (d : Dv) (h : isDv d) (w : World) :
    Calls Try.prog 25 #[dvV d] w fun e w' => e = .returned (.bool (chkB d)) ∧ Below w.heap.size w w' := by
  rw [chk_eq d h]
  have HO := hid_mk (soffers d h)
  have HS := hid_mk (ssound d h)
  have HH := hid_mk (shas d 2 h (by decide))
  rw [(hasM_all h.s).2.1] at HH
  have HZ := hid_mk (eq_int d.g)
  obtain ⟨k, o, g, s⟩ := d
  unfold dvV at HO HS HH ⊢
  simp only at HO HS HH HZ ⊢
  generalize soundF (accD ⟨k, o, g, s⟩) s = t at *
  generalize decide (g = 0) = z at *
  cases hn : newB k o
  · rw [hn] at HO
    rw [Bool.false_and]
    clear hn
    go_enter Try.func25, Try.ntmps25
    go_wp2_with fail
    refine (HO.out _).mono ?_
    rintro e w1 ⟨rfl, hb1⟩
    have B1 := hid_mk (below_two (below_box w _) hb1)
    clear hb1
    go_wp2_with fail
    go_ret
    exact ⟨rfl, B1.out⟩
  · rw [hn] at HO
    rw [Bool.true_and]
    clear hn
    cases t
    · rw [Bool.false_and]
      go_enter Try.func25, Try.ntmps25
      go_wp2_with fail
      refine (HO.out _).mono ?_
      rintro e w1 ⟨rfl, hb1⟩
      have B1 := hid_mk (below_two (below_box w _) hb1)
      obtain ⟨x0, x1, x2, x3, x4, _⟩ := res_all ((blk_new w [.int .i64 k, .int .u64 o, .int .u64 g, .int .u8 s] 49).below hb1)
      clear hb1
      go_wp2_with fail
      refine (HS.out _).mono ?_
      rintro e w2 ⟨rfl, hb2⟩
      have B2 := hid_mk (below_two B1.out hb2)
      clear hb2 x0 x1 x2 x3 x4
      go_wp2_with fail
      go_ret
      exact ⟨rfl, B2.out⟩
    · rw [Bool.true_and]
      cases ht : s.testBit 1
      · rw [ht] at HH
        rw [Bool.false_or]
        clear ht
        go_enter Try.func25, Try.ntmps25
        go_wp2_with fail
        refine (HO.out _).mono ?_
        rintro e w1 ⟨rfl, hb1⟩
        have B1 := hid_mk (below_two (below_box w _) hb1)
        have X1 := hid_mk ((blk_new w [.int .i64 k, .int .u64 o, .int .u64 g, .int .u8 s] 49).below hb1)
        obtain ⟨x0, x1, x2, x3, x4, _⟩ := res_all X1.out
        clear hb1
        go_wp2_with fail
        refine (HS.out _).mono ?_
        rintro e w2 ⟨rfl, hb2⟩
        have B2 := hid_mk (below_two B1.out hb2)
        have X2 := hid_mk (X1.out.below hb2)
        clear hb2 x0 x1 x2 x3 x4
        obtain ⟨x0, x1, x2, x3, x4, _⟩ := res_all X2.out
        go_wp2_with fail
        refine (HH.out _).mono ?_
        rintro e w3 ⟨rfl, hb3⟩
        have B3 := hid_mk (below_two B2.out hb3)
        have X3 := hid_mk (X2.out.below hb3)
        clear hb3 x0 x1 x2 x3 x4
        obtain ⟨x0, x1, x2, x3, x4, _⟩ := res_all X3.out
        go_wp2_with fail
        go_ret
        exact ⟨ret_eq (by rw [← HZ.out]; rfl), B3.out⟩
      · rw [ht] at HH
        rw [Bool.true_or]
        clear ht
        go_enter Try.func25, Try.ntmps25
        go_wp2_with fail
        refine (HO.out _).mono ?_
        rintro e w1 ⟨rfl, hb1⟩
        have B1 := hid_mk (below_two (below_box w _) hb1)
        have X1 := hid_mk ((blk_new w [.int .i64 k, .int .u64 o, .int .u64 g, .int .u8 s] 49).below hb1)
        obtain ⟨x0, x1, x2, x3, x4, _⟩ := res_all X1.out
        clear hb1
        go_wp2_with fail
        refine (HS.out _).mono ?_
        rintro e w2 ⟨rfl, hb2⟩
        have B2 := hid_mk (below_two B1.out hb2)
        have X2 := hid_mk (X1.out.below hb2)
        clear hb2 x0 x1 x2 x3 x4
        obtain ⟨x0, x1, x2, x3, x4, _⟩ := res_all X2.out
        go_wp2_with fail
        refine (HH.out _).mono ?_
        rintro e w3 ⟨rfl, hb3⟩
        have B3 := hid_mk (below_two B2.out hb3)
        clear hb3 x0 x1 x2 x3 x4
        go_wp2_with fail
        go_ret
        exact ⟨rfl, B3.out⟩

/-- two new blocks: a box and a result -/
theorem two_new (w : World) (k o g s : Int) (t t2 : TypeId) : BlkAt ((w.alloc (.cells #[.int .i64 k, .int .u64 o, .int .u64 g, .int .u8 s] t)).alloc (.cells #[.int .i64 0, .int .u64 0, .int .u64 0, .int .u8 0] t2)) w.heap.size [.int .i64 k, .int .u64 o, .int .u64 g, .int .u8 s] t ∧
    BlkAt ((w.alloc (.cells #[.int .i64 k, .int .u64 o, .int .u64 g, .int .u8 s] t)).alloc (.cells #[.int .i64 0, .int .u64 0, .int .u64 0, .int .u8 0] t2)) (w.heap.size + 1) [.int .i64 0, .int .u64 0, .int .u64 0, .int .u8 0] t2 ∧
    Below w.heap.size w ((w.alloc (.cells #[.int .i64 k, .int .u64 o, .int .u64 g, .int .u8 s] t)).alloc (.cells #[.int .i64 0, .int .u64 0, .int .u64 0, .int .u8 0] t2)) := by
  refine ⟨(blk_new w [.int .i64 k, .int .u64 o, .int .u64 g, .int .u8 s] t).below (below_box _ _), ?_, (below_box w _).alloc (by simp) _⟩
  have := blk_new (w.alloc (.cells #[.int .i64 k, .int .u64 o, .int .u64 g, .int .u8 s] t)) [.int .i64 0, .int .u64 0, .int .u64 0, .int .u8 0] t2
  simpa using this
theorem put4 {w a : World} {b B : Nat} (h : Below B a w) (hb : B ≤ b) (k o g s : Int) : Below B a ((((w.setCell ⟨b, 0, none⟩ (.int .i64 k)).setCell ⟨b, 1, none⟩ (.int .u64 o)).setCell ⟨b, 2, none⟩ (.int .u64 g)).setCell ⟨b, 3, none⟩ (.int .u8 s)) := (((h.setCell hb _).setCell hb _).setCell hb _).setCell hb _

set_option maxHeartbeats 1000000 in
theorem swr0 (d : Dv) (w : World) :
    Calls Try.prog 23 #[dvV d, .int .u8 0] w fun e w' => e = .returned (dvV ⟨d.k, d.o, 0, 0⟩) ∧ Below w.heap.size w w' := by
  obtain ⟨k, o, g, s⟩ := d
  unfold dvV
  simp only
  go_enter Try.func23, Try.ntmps23
  go_wp2_with fail
  exact bodyPost_ret (v := .agg #[.int .i64 k, .int .u64 o, .int .u64 0, .int .u8 0]) (by simp [results, Try.results23, go_sem]) rfl ⟨rfl, ((below_box w _).alloc (by simp) _)⟩

set_option maxHeartbeats 1000000 in
theorem swr1 (d : Dv) (x : Nat) (h : isDv d) (hx : x < 256) (h0 : x ≠ 0) (w : World) :
    Calls Try.prog 23 #[dvV d, .int .u8 x] w fun e w' => e = .returned (dvV ⟨d.k, d.o, d.g, wrS (accD d) d.s x⟩) ∧ Below w.heap.size w w' := by
  have HS := hid_mk (sset d (x &&& (255 - 64)) h (Nat.lt_of_le_of_lt Nat.and_le_left hx))
  rw [setN_word (accD d) hx h.s] at HS
  have HA := hid_mk (show bits .andNot .u8 (x : Int) 64 = ((x &&& (255 - 64) : Nat) : Int) from u8_andNot_nat x 64 hx (by decide))
  generalize x &&& (255 - 64) = y at *
  have hz : ((x : Int) == 0) = false := by rw [eq_int]; exact decide_eq_false h0
  obtain ⟨k, o, g, s⟩ := d
  unfold dvV at HS ⊢
  simp only at HS ⊢
  generalize wrS (accD ⟨k, o, g, s⟩) s x = t at *
  clear h h0 hx
  go_enter Try.func23, Try.ntmps23
  go_wp2_with fail
  rw [HA.out]
  refine (HS.out _).mono ?_
  rintro e w1 ⟨rfl, hb1⟩
  obtain ⟨_, X2, B0⟩ := two_new w k o g s 49 49
  have B1 := hid_mk (below_two B0 hb1)
  obtain ⟨r0, q0, q1, q2, q3, r1, r2, r3, r4⟩ := res_all (X2.below hb1)
  clear B0 X2 hb1
  go_wp2_with fail
  exact bodyPost_ret (v := .agg #[.int .i64 k, .int .u64 o, .int .u64 g, .int .u8 t]) (by simp [results, Try.results23, go_sem, q0, q1, q2, q3]) rfl ⟨rfl, put4 B1.out (by omega) _ _ _ _⟩

theorem swrN (d : Dv) (x : Nat) (h : isDv d) (hx : x < 256) (w : World) :
    Calls Try.prog 23 #[dvV d, .int .u8 x] w fun e w' => e = .returned (dvV (wrN d x)) ∧ Below w.heap.size w w' := by
  unfold wrN
  by_cases h0 : x = 0
  · subst h0
    rw [if_pos rfl]
    exact swr0 d w
  · rw [if_neg h0]
    exact swr1 d x h hx h0 w

set_option maxHeartbeats 1000000 in
theorem saskN (d : Dv) (x : Nat) (h : isDv d) (w : World) :
    Calls Try.prog 24 #[dvV d, .int .u64 x] w fun e w' => e = .returned (dvV (askN d x)) ∧ Below w.heap.size w w' := by
  have H1 := hid_mk (shas d 2 h (by decide))
  have H2 := hid_mk (shas d 8 h (by decide))
  rw [(hasM_all h.s).2.1] at H1
  rw [(hasM_all h.s).2.2.2.1] at H2
  unfold askN
  obtain ⟨k, o, g, s⟩ := d
  unfold dvV at H1 H2 ⊢
  simp only at H1 H2 ⊢
  generalize s.testBit 1 = a at *
  generalize s.testBit 3 = b at *
  obtain ⟨X1, X2, B0⟩ := two_new w k o g s 49 49
  have HX1 := hid_mk X1
  have HX2 := hid_mk X2
  have HB0 := hid_mk B0
  clear X1 X2 B0
  cases a
  · simp only [Bool.false_and, Bool.false_eq_true, if_false]
    go_enter Try.func24, Try.ntmps24
    go_wp2_with fail
    refine (H1.out _).mono ?_
    rintro e w1 ⟨rfl, hb1⟩
    have B1 := hid_mk (below_two HB0.out hb1)
    obtain ⟨x0, x1, x2, x3, x4, _⟩ := res_all (HX1.out.below hb1)
    obtain ⟨r0, q0, q1, q2, q3, r1, r2, r3, r4⟩ := res_all (HX2.out.below hb1)
    clear hb1
    go_wp2_with fail
    exact bodyPost_ret (v := .agg #[.int .i64 k, .int .u64 o, .int .u64 g, .int .u8 s]) (by simp [results, Try.results24, go_sem, q0, q1, q2, q3]) rfl ⟨rfl, put4 B1.out (by omega) _ _ _ _⟩
  · cases b
    · simp only [Bool.not_false, Bool.and_self, if_true]
      go_enter Try.func24, Try.ntmps24
      go_wp2_with fail
      refine (H1.out _).mono ?_
      rintro e w1 ⟨rfl, hb1⟩
      have B1 := hid_mk (below_two HB0.out hb1)
      have Y1 := hid_mk (HX1.out.below hb1)
      have Y2 := hid_mk (HX2.out.below hb1)
      obtain ⟨x0, x1, x2, x3, x4, _⟩ := res_all Y1.out
      clear hb1
      go_wp2_with fail
      refine (H2.out _).mono ?_
      rintro e w2 ⟨rfl, hb2⟩
      have B2 := hid_mk (below_two B1.out hb2)
      clear x0 x1 x2 x3 x4
      obtain ⟨x0, x1, x2, x3, x4, y1, y2, y3, y4⟩ := res_all (Y1.out.below hb2)
      obtain ⟨r0, q0, q1, q2, q3, r1, r2, r3, r4⟩ := res_all (Y2.out.below hb2)
      clear hb2
      go_wp2_with fail
      exact bodyPost_ret (v := .agg #[.int .i64 k, .int .u64 o, .int .u64 x, .int .u8 s]) (by simp [results, Try.results24, go_sem, q0, q1, q2, q3]) rfl ⟨rfl, put4 (B2.out.setCell (Nat.le_refl _) _) (by omega) _ _ _ _⟩
    · simp only [Bool.not_true, Bool.and_false, Bool.false_eq_true, if_false]
      go_enter Try.func24, Try.ntmps24
      go_wp2_with fail
      refine (H1.out _).mono ?_
      rintro e w1 ⟨rfl, hb1⟩
      have B1 := hid_mk (below_two HB0.out hb1)
      have Y1 := hid_mk (HX1.out.below hb1)
      have Y2 := hid_mk (HX2.out.below hb1)
      obtain ⟨x0, x1, x2, x3, x4, _⟩ := res_all Y1.out
      clear hb1
      go_wp2_with fail
      refine (H2.out _).mono ?_
      rintro e w2 ⟨rfl, hb2⟩
      have B2 := hid_mk (below_two B1.out hb2)
      clear x0 x1 x2 x3 x4
      obtain ⟨x0, x1, x2, x3, x4, y1, y2, y3, y4⟩ := res_all (Y1.out.below hb2)
      obtain ⟨r0, q0, q1, q2, q3, r1, r2, r3, r4⟩ := res_all (Y2.out.below hb2)
      clear hb2
      go_wp2_with fail
      exact bodyPost_ret (v := .agg #[.int .i64 k, .int .u64 o, .int .u64 g, .int .u8 s]) (by simp [results, Try.results24, go_sem, q0, q1, q2, q3]) rfl ⟨rfl, put4 B2.out (by omega) _ _ _ _⟩
end Go.Proofs.Ytfiogaollejdbaa
