/- status's functions by name: New, Check, Write, Ask, Break, Runs, Fixed, Init. Conditions: as each theorem names them. -/
import Derived.Test.YtfiogaollejdbaaSc4
namespace Go.Proofs.Ytfiogaollejdbaa
open Go.ChangeShapes Go.WideShapes Go.ChangeAt Go.RowKit
set_option linter.unusedVariables false
set_option maxRecDepth 100000

set_option maxHeartbeats 1000000 in
theorem scheck (d : Dv) (h : isDv d) (w : World) :
    Calls Try.prog 15 #[dvV d] w fun e w' => e = .returned (.int .i64 (schE d)) ∧ Below w.heap.size w w' := by
  have HV := hid_mk (svalid d h)
  unfold schE
  obtain ⟨k, o, g, s⟩ := d
  unfold dvV at HV ⊢
  simp only at HV ⊢
  generalize chkB ⟨k, o, g, s⟩ = c at *
  cases c
  · rw [if_neg (by decide)]
    go_enter Try.func15, Try.ntmps15
    go_wp2_with fail
    refine (HV.out _).mono ?_
    rintro e w1 ⟨rfl, hb1⟩
    have B1 := hid_mk (below_two (below_box w _) hb1)
    clear hb1
    go_wp2_with fail
    go_ret
    exact ⟨rfl, B1.out⟩
  · rw [if_pos rfl]
    go_enter Try.func15, Try.ntmps15
    go_wp2_with fail
    refine (HV.out _).mono ?_
    rintro e w1 ⟨rfl, hb1⟩
    have B1 := hid_mk (below_two (below_box w _) hb1)
    clear hb1
    go_wp2_with fail
    go_ret
    exact ⟨rfl, B1.out⟩

theorem isDv.start {k : Int} {o : Nat} (h : o < N64) : isDv ⟨k, o, 0, 0⟩ := ⟨h, by simp only; decide, by simp only; decide⟩
theorem chk_start (k : Int) (o : Nat) : chkB ⟨k, o, 0, 0⟩ = newB k o := by
  unfold chkB
  simp only
  generalize accD ⟨k, o, 0, 0⟩ = a
  show (newB k o && stB a true 0) = newB k o
  rw [show stB a true 0 = true by cases a <;> decide, Bool.and_true]

set_option maxHeartbeats 1000000 in
theorem snew (k : Int) (o : Nat) (ho : o < N64) (w : World) :
    Calls Try.prog 7 #[.int .i64 k, .int .u64 o] w fun e w' => e = .returned (.tuple #[dvV (newD k o), .int .i64 (newE k o)]) ∧ Below w.heap.size w w' := by
  have HC := hid_mk (scheck ⟨k, o, 0, 0⟩ (isDv.start ho))
  unfold schE at HC
  rw [chk_start k o] at HC
  unfold newD newE
  unfold dvV at HC
  simp only at HC
  have hx := blk_new w [.int .i64 0, .int .u64 0, .int .u64 0, .int .u8 0] 24
  have HX := hid_mk (hx.below (below_box _ (.cells #[.int .i64 k, .int .u64 o, .int .u64 0, .int .u8 0] 24)))
  have hy := blk_new (w.alloc (.cells #[.int .i64 0, .int .u64 0, .int .u64 0, .int .u8 0] 24)) [.int .i64 k, .int .u64 o, .int .u64 0, .int .u8 0] 24
  have HY := hid_mk (show BlkAt _ (w.heap.size + 1) _ _ by simpa using hy)
  have HB := hid_mk ((below_box w (.cells #[.int .i64 0, .int .u64 0, .int .u64 0, .int .u8 0] 24)).alloc (by simp) (.cells #[.int .i64 k, .int .u64 o, .int .u64 0, .int .u8 0] 24))
  clear hx hy
  cases hn : newB k o
  · rw [hn, if_neg (by decide)] at HC
    rw [if_neg (by decide), if_neg (by decide)]
    unfold dvV zeroD
    simp only
    clear hn
    go_enter Try.func7, Try.ntmps7
    go_wp2_with fail
    refine (HC.out _).mono ?_
    rintro e w1 ⟨rfl, hb1⟩
    have B1 := hid_mk (below_two HB.out hb1)
    obtain ⟨r0, q0, q1, q2, q3, r1, r2, r3, r4⟩ := res_all (HX.out.below hb1)
    clear hb1
    go_wp2_with fail
    exact bodyPost_ret (v := .tuple #[.agg #[.int .i64 0, .int .u64 0, .int .u64 0, .int .u8 0], .int .i64 2]) (by simp [results, Try.results7, go_sem, q0, q1, q2, q3]) rfl ⟨rfl, put4 B1.out (Nat.le_refl _) _ _ _ _⟩
  · rw [hn, if_pos rfl] at HC
    rw [if_pos rfl, if_pos rfl]
    unfold dvV
    simp only
    clear hn
    go_enter Try.func7, Try.ntmps7
    go_wp2_with fail
    refine (HC.out _).mono ?_
    rintro e w1 ⟨rfl, hb1⟩
    have B1 := hid_mk (below_two HB.out hb1)
    obtain ⟨r0, q0, q1, q2, q3, r1, r2, r3, r4⟩ := res_all (HX.out.below hb1)
    obtain ⟨y0, x0, x1, x2, x3, _⟩ := res_all (HY.out.below hb1)
    clear hb1
    go_wp2_with fail
    exact bodyPost_ret (v := .tuple #[.agg #[.int .i64 k, .int .u64 o, .int .u64 0, .int .u8 0], .int .i64 0]) (by simp [results, Try.results7, go_sem, q0, q1, q2, q3]) rfl ⟨rfl, put4 B1.out (Nat.le_refl _) _ _ _ _⟩

set_option maxHeartbeats 1000000 in
theorem swrite (d : Dv) (b : Nat) (h : isDv d) (hb : b < 256) (w : World) :
    Calls Try.prog 13 #[dvV d, .int .u8 b] w fun e w' => e = .returned (dvV (wrD d b)) ∧ Below w.heap.size w w' := by
  have HC := hid_mk (scheck d h)
  unfold schE at HC
  have HW := hid_mk (swrN d b h hb)
  obtain ⟨k, o, g, s⟩ := d
  obtain ⟨X1, X2, B0⟩ := two_new w k o g s 24 24
  have HX1 := hid_mk X1
  have HX2 := hid_mk X2
  have HB0 := hid_mk B0
  clear X1 X2 B0 h
  cases hc : chkB ⟨k, o, g, s⟩
  · rw [wrD_no hc]
    rw [hc, if_neg (by decide)] at HC
    unfold dvV at HC ⊢
    simp only at HC ⊢
    clear hc HW
    go_enter Try.func13, Try.ntmps13
    go_wp2_with fail
    refine (HC.out _).mono ?_
    rintro e w1 ⟨rfl, hb1⟩
    have B1 := hid_mk (below_two HB0.out hb1)
    obtain ⟨x0, x1, x2, x3, x4, _⟩ := res_all (HX1.out.below hb1)
    obtain ⟨r0, q0, q1, q2, q3, r1, r2, r3, r4⟩ := res_all (HX2.out.below hb1)
    clear hb1
    go_wp2_with fail
    exact bodyPost_ret (v := .agg #[.int .i64 k, .int .u64 o, .int .u64 g, .int .u8 s]) (by simp [results, Try.results13, go_sem, q0, q1, q2, q3]) rfl ⟨rfl, put4 B1.out (by omega) _ _ _ _⟩
  · rw [wrD_ok hc]
    rw [hc, if_pos rfl] at HC
    generalize wrN ⟨k, o, g, s⟩ b = d2 at *
    obtain ⟨k2, o2, g2, s2⟩ := d2
    unfold dvV at HC HW ⊢
    simp only at HC HW ⊢
    clear hc
    go_enter Try.func13, Try.ntmps13
    go_wp2_with fail
    refine (HC.out _).mono ?_
    rintro e w1 ⟨rfl, hb1⟩
    have B1 := hid_mk (below_two HB0.out hb1)
    have Y2 := hid_mk (HX2.out.below hb1)
    obtain ⟨x0, x1, x2, x3, x4, _⟩ := res_all (HX1.out.below hb1)
    clear hb1
    go_wp2_with fail
    refine (HW.out _).mono ?_
    rintro e w2 ⟨rfl, hb2⟩
    have B2 := hid_mk (below_two B1.out hb2)
    obtain ⟨r0, q0, q1, q2, q3, r1, r2, r3, r4⟩ := res_all (Y2.out.below hb2)
    clear hb2 x0 x1 x2 x3 x4
    go_wp2_with fail
    exact bodyPost_ret (v := .agg #[.int .i64 k2, .int .u64 o2, .int .u64 g2, .int .u8 s2]) (by simp [results, Try.results13, go_sem, q0, q1, q2, q3]) rfl ⟨rfl, put4 B2.out (by omega) _ _ _ _⟩

set_option maxHeartbeats 1000000 in
theorem sask (d : Dv) (x : Nat) (h : isDv d) (hx : x < N64) (w : World) :
    Calls Try.prog 14 #[dvV d, .int .u64 x] w fun e w' => e = .returned (dvV (askD d x)) ∧ Below w.heap.size w w' := by
  have HC := hid_mk (scheck d h)
  unfold schE at HC
  have HW := hid_mk (saskN d x h)
  obtain ⟨k, o, g, s⟩ := d
  obtain ⟨X1, X2, B0⟩ := two_new w k o g s 24 24
  have HX1 := hid_mk X1
  have HX2 := hid_mk X2
  have HB0 := hid_mk B0
  clear X1 X2 B0 h
  cases hc : chkB ⟨k, o, g, s⟩
  · rw [askD_no hc]
    rw [hc, if_neg (by decide)] at HC
    unfold dvV at HC ⊢
    simp only at HC ⊢
    clear hc HW
    go_enter Try.func14, Try.ntmps14
    go_wp2_with fail
    refine (HC.out _).mono ?_
    rintro e w1 ⟨rfl, hb1⟩
    have B1 := hid_mk (below_two HB0.out hb1)
    obtain ⟨x0, x1, x2, x3, x4, _⟩ := res_all (HX1.out.below hb1)
    obtain ⟨r0, q0, q1, q2, q3, r1, r2, r3, r4⟩ := res_all (HX2.out.below hb1)
    clear hb1
    go_wp2_with fail
    exact bodyPost_ret (v := .agg #[.int .i64 k, .int .u64 o, .int .u64 g, .int .u8 s]) (by simp [results, Try.results14, go_sem, q0, q1, q2, q3]) rfl ⟨rfl, put4 B1.out (by omega) _ _ _ _⟩
  · rw [askD_ok hc]
    rw [hc, if_pos rfl] at HC
    generalize askN ⟨k, o, g, s⟩ x = d2 at *
    obtain ⟨k2, o2, g2, s2⟩ := d2
    unfold dvV at HC HW ⊢
    simp only at HC HW ⊢
    clear hc
    go_enter Try.func14, Try.ntmps14
    go_wp2_with fail
    refine (HC.out _).mono ?_
    rintro e w1 ⟨rfl, hb1⟩
    have B1 := hid_mk (below_two HB0.out hb1)
    have Y2 := hid_mk (HX2.out.below hb1)
    obtain ⟨x0, x1, x2, x3, x4, _⟩ := res_all (HX1.out.below hb1)
    clear hb1
    go_wp2_with fail
    refine (HW.out _).mono ?_
    rintro e w2 ⟨rfl, hb2⟩
    have B2 := hid_mk (below_two B1.out hb2)
    obtain ⟨r0, q0, q1, q2, q3, r1, r2, r3, r4⟩ := res_all (Y2.out.below hb2)
    clear hb2 x0 x1 x2 x3 x4
    go_wp2_with fail
    exact bodyPost_ret (v := .agg #[.int .i64 k2, .int .u64 o2, .int .u64 g2, .int .u8 s2]) (by simp [results, Try.results14, go_sem, q0, q1, q2, q3]) rfl ⟨rfl, put4 B2.out (by omega) _ _ _ _⟩

set_option maxHeartbeats 1000000 in
theorem sbreak (d : Dv) (h : isDv d) (w : World) :
    Calls Try.prog 8 #[dvV d] w fun e w' => e = .returned (.tuple #[dvV (brkD d), .int .i64 (brkE d)]) ∧ Below w.heap.size w w' := by
  have HC := hid_mk (scheck d h)
  unfold schE at HC
  have HH := hid_mk (shas d 4 h (by decide))
  rw [(hasM_all h.s).2.2.1] at HH
  have HS := hid_mk (sset d 64 h (by decide))
  have HE := hid_mk (setN_brk (accD d) h.s)
  unfold brkD brkE
  obtain ⟨k, o, g, s⟩ := d
  obtain ⟨X1, X2, B0⟩ := two_new w k o g s 24 24
  have HX1 := hid_mk X1
  have HX2 := hid_mk X2
  have HB0 := hid_mk B0
  clear X1 X2 B0 h
  cases hc : chkB ⟨k, o, g, s⟩
  · rw [hc, if_neg (by decide)] at HC
    simp only [Bool.false_and, Bool.false_eq_true, if_false]
    unfold dvV zeroD at *
    simp only at HC ⊢
    clear hc HH HS HE
    go_enter Try.func8, Try.ntmps8
    go_wp2_with fail
    refine (HC.out _).mono ?_
    rintro e w1 ⟨rfl, hb1⟩
    have B1 := hid_mk (below_two HB0.out hb1)
    obtain ⟨r0, q0, q1, q2, q3, r1, r2, r3, r4⟩ := res_all (HX2.out.below hb1)
    clear hb1
    go_wp2_with fail
    exact bodyPost_ret (v := .tuple #[.agg #[.int .i64 0, .int .u64 0, .int .u64 0, .int .u8 0], .int .i64 2]) (by simp [results, Try.results8, go_sem, q0, q1, q2, q3]) rfl ⟨rfl, put4 B1.out (by omega) _ _ _ _⟩
  · rw [hc, if_pos rfl] at HC
    simp only [Bool.true_and, if_true]
    simp only at HH HE
    cases hl : s.testBit 2
    · rw [hl] at HH
      simp only [Bool.false_eq_true, if_false]
      unfold dvV zeroD at *
      simp only at HC ⊢
      clear hc hl HS HE
      go_enter Try.func8, Try.ntmps8
      go_wp2_with fail
      refine (HC.out _).mono ?_
      rintro e w1 ⟨rfl, hb1⟩
      have B1 := hid_mk (below_two HB0.out hb1)
      have Y2 := hid_mk (HX2.out.below hb1)
      obtain ⟨x0, x1, x2, x3, x4, _⟩ := res_all (HX1.out.below hb1)
      clear hb1
      go_wp2_with fail
      refine (HH.out _).mono ?_
      rintro e w2 ⟨rfl, hb2⟩
      have B2 := hid_mk (below_two B1.out hb2)
      obtain ⟨r0, q0, q1, q2, q3, r1, r2, r3, r4⟩ := res_all (Y2.out.below hb2)
      clear hb2 x0 x1 x2 x3 x4
      go_wp2_with fail
      exact bodyPost_ret (v := .tuple #[.agg #[.int .i64 0, .int .u64 0, .int .u64 0, .int .u8 0], .int .i64 8]) (by simp [results, Try.results8, go_sem, q0, q1, q2, q3]) rfl ⟨rfl, put4 B2.out (by omega) _ _ _ _⟩
    · rw [hl] at HH
      rw [HE.out hl] at HS
      simp only [if_true]
      unfold dvV at *
      simp only at HC HS ⊢
      clear hc hl HE
      generalize s ||| 64 = t at *
      go_enter Try.func8, Try.ntmps8
      go_wp2_with fail
      refine (HC.out _).mono ?_
      rintro e w1 ⟨rfl, hb1⟩
      have B1 := hid_mk (below_two HB0.out hb1)
      have Y1 := hid_mk (HX1.out.below hb1)
      have Y2 := hid_mk (HX2.out.below hb1)
      obtain ⟨x0, x1, x2, x3, x4, _⟩ := res_all Y1.out
      clear hb1
      go_wp2_with fail
      refine (HH.out _).mono ?_
      rintro e w2 ⟨rfl, hb2⟩
      have B2 := hid_mk (below_two B1.out hb2)
      have Z2 := hid_mk (Y2.out.below hb2)
      clear x0 x1 x2 x3 x4
      obtain ⟨x0, x1, x2, x3, x4, _⟩ := res_all (Y1.out.below hb2)
      clear hb2
      go_wp2_with fail
      refine (HS.out _).mono ?_
      rintro e w3 ⟨rfl, hb3⟩
      have B3 := hid_mk (below_two B2.out hb3)
      obtain ⟨r0, q0, q1, q2, q3, r1, r2, r3, r4⟩ := res_all (Z2.out.below hb3)
      clear hb3 x0 x1 x2 x3 x4
      go_wp2_with fail
      exact bodyPost_ret (v := .tuple #[.agg #[.int .i64 k, .int .u64 o, .int .u64 g, .int .u8 t], .int .i64 0]) (by simp [results, Try.results8, go_sem, q0, q1, q2, q3]) rfl ⟨rfl, put4 B3.out (by omega) _ _ _ _⟩

/-- a box, and a copy of it of another type -/
theorem two_same (w : World) (k o g s : Int) (t t2 : TypeId) : BlkAt ((w.alloc (.cells #[.int .i64 k, .int .u64 o, .int .u64 g, .int .u8 s] t)).alloc (.cells #[.int .i64 k, .int .u64 o, .int .u64 g, .int .u8 s] t2)) (w.heap.size + 1) [.int .i64 k, .int .u64 o, .int .u64 g, .int .u8 s] t2 ∧
    Below w.heap.size w ((w.alloc (.cells #[.int .i64 k, .int .u64 o, .int .u64 g, .int .u8 s] t)).alloc (.cells #[.int .i64 k, .int .u64 o, .int .u64 g, .int .u8 s] t2)) := by
  refine ⟨?_, (below_box w _).alloc (by simp) _⟩
  have := blk_new (w.alloc (.cells #[.int .i64 k, .int .u64 o, .int .u64 g, .int .u8 s] t)) [.int .i64 k, .int .u64 o, .int .u64 g, .int .u8 s] t2
  simpa using this

set_option maxHeartbeats 2000000 in
theorem sruns (d : Dv) (h : isDv d) (w : World) :
    Calls Try.prog 12 #[dvV d] w fun e w' => e = .returned (.bool (runsB d)) ∧ Below w.heap.size w w' := by
  have HV := hid_mk (svalid d h)
  have H4 := hid_mk (shas d 4 h (by decide))
  have H6 := hid_mk (shas d 64 h (by decide))
  have H8 := hid_mk (shas d 128 h (by decide))
  rw [(hasM_all h.s).2.2.1] at H4
  rw [(hasM_all h.s).2.2.2.2.1] at H6
  rw [(hasM_all h.s).2.2.2.2.2] at H8
  unfold runsB
  obtain ⟨k, o, g, s⟩ := d
  obtain ⟨X1, B0⟩ := two_same w k o g s 24 49
  have HX := hid_mk X1
  have HB := hid_mk B0
  clear X1 B0 h
  unfold dvV at *
  simp only at *
  generalize chkB ⟨k, o, g, s⟩ = c at *
  generalize s.testBit 2 = l at *
  generalize s.testBit 6 = n at *
  generalize s.testBit 7 = f at *
  cases c
  · simp only [Bool.false_and]
    go_enter Try.func12, Try.ntmps12
    go_wp2_with fail
    refine (HV.out _).mono ?_
    rintro e w1 ⟨rfl, hb1⟩
    have B1 := hid_mk (below_two HB.out hb1)
    clear hb1
    go_wp2_with fail
    go_ret
    exact ⟨rfl, B1.out⟩
  · simp only [Bool.true_and]
    cases l
    · simp only [Bool.false_and]
      go_enter Try.func12, Try.ntmps12
      go_wp2_with fail
      refine (HV.out _).mono ?_
      rintro e w1 ⟨rfl, hb1⟩
      have B1 := hid_mk (below_two HB.out hb1)
      obtain ⟨x0, x1, x2, x3, x4, _⟩ := res_all (HX.out.below hb1)
      clear hb1
      go_wp2_with fail
      refine (H4.out _).mono ?_
      rintro e w2 ⟨rfl, hb2⟩
      have B2 := hid_mk (below_two B1.out hb2)
      clear hb2 x0 x1 x2 x3 x4
      go_wp2_with fail
      go_ret
      exact ⟨rfl, B2.out⟩
    · simp only [Bool.true_and]
      cases n
      · simp only [Bool.not_false, Bool.true_and]
        go_enter Try.func12, Try.ntmps12
        go_wp2_with fail
        refine (HV.out _).mono ?_
        rintro e w1 ⟨rfl, hb1⟩
        have B1 := hid_mk (below_two HB.out hb1)
        have Y1 := hid_mk (HX.out.below hb1)
        obtain ⟨x0, x1, x2, x3, x4, _⟩ := res_all Y1.out
        clear hb1
        go_wp2_with fail
        refine (H4.out _).mono ?_
        rintro e w2 ⟨rfl, hb2⟩
        have B2 := hid_mk (below_two B1.out hb2)
        have Y2 := hid_mk (Y1.out.below hb2)
        clear hb2 x0 x1 x2 x3 x4
        obtain ⟨x0, x1, x2, x3, x4, _⟩ := res_all Y2.out
        go_wp2_with fail
        refine (H6.out _).mono ?_
        rintro e w3 ⟨rfl, hb3⟩
        have B3 := hid_mk (below_two B2.out hb3)
        have Y3 := hid_mk (Y2.out.below hb3)
        clear hb3 x0 x1 x2 x3 x4
        obtain ⟨x0, x1, x2, x3, x4, _⟩ := res_all Y3.out
        go_wp2_with fail
        refine (H8.out _).mono ?_
        rintro e w4 ⟨rfl, hb4⟩
        have B4 := hid_mk (below_two B3.out hb4)
        clear hb4 x0 x1 x2 x3 x4
        go_wp2_with fail
        go_ret
        exact ⟨rfl, B4.out⟩
      · simp only [Bool.not_true, Bool.false_and]
        go_enter Try.func12, Try.ntmps12
        go_wp2_with fail
        refine (HV.out _).mono ?_
        rintro e w1 ⟨rfl, hb1⟩
        have B1 := hid_mk (below_two HB.out hb1)
        have Y1 := hid_mk (HX.out.below hb1)
        obtain ⟨x0, x1, x2, x3, x4, _⟩ := res_all Y1.out
        clear hb1
        go_wp2_with fail
        refine (H4.out _).mono ?_
        rintro e w2 ⟨rfl, hb2⟩
        have B2 := hid_mk (below_two B1.out hb2)
        have Y2 := hid_mk (Y1.out.below hb2)
        clear hb2 x0 x1 x2 x3 x4
        obtain ⟨x0, x1, x2, x3, x4, _⟩ := res_all Y2.out
        go_wp2_with fail
        refine (H6.out _).mono ?_
        rintro e w3 ⟨rfl, hb3⟩
        have B3 := hid_mk (below_two B2.out hb3)
        clear hb3 x0 x1 x2 x3 x4
        go_wp2_with fail
        go_ret
        exact ⟨rfl, B3.out⟩

set_option maxHeartbeats 2000000 in
theorem sfixed (d : Dv) (h : isDv d) (w : World) :
    Calls Try.prog 10 #[dvV d] w fun e w' => e = .returned (.tuple #[.int .u64 (fixG d), .bool (fixB d)]) ∧ Below w.heap.size w w' := by
  have HV := hid_mk (svalid d h)
  have H8 := hid_mk (shas d 8 h (by decide))
  rw [(hasM_all h.s).2.2.2.1] at H8
  unfold fixG fixB
  obtain ⟨k, o, g, s⟩ := d
  obtain ⟨X1, B0⟩ := two_same w k o g s 24 49
  have HX := hid_mk X1
  have HB := hid_mk B0
  clear X1 B0 h
  unfold dvV at *
  simp only at *
  generalize chkB ⟨k, o, g, s⟩ = c at *
  generalize s.testBit 3 = f at *
  cases c
  · simp only [Bool.false_and, Bool.false_eq_true, if_false]
    go_enter Try.func10, Try.ntmps10
    go_wp2_with fail
    refine (HV.out _).mono ?_
    rintro e w1 ⟨rfl, hb1⟩
    have B1 := hid_mk (below_two HB.out hb1)
    clear hb1
    go_wp2_with fail
    exact bodyPost_ret (v := .tuple #[.int .u64 0, .bool false]) (by simp [results, Try.results10, go_sem]) rfl ⟨rfl, B1.out⟩
  · cases f
    · simp only [Bool.true_and, Bool.false_eq_true, if_false]
      go_enter Try.func10, Try.ntmps10
      go_wp2_with fail
      refine (HV.out _).mono ?_
      rintro e w1 ⟨rfl, hb1⟩
      have B1 := hid_mk (below_two HB.out hb1)
      obtain ⟨x0, x1, x2, x3, x4, _⟩ := res_all (HX.out.below hb1)
      clear hb1
      go_wp2_with fail
      refine (H8.out _).mono ?_
      rintro e w2 ⟨rfl, hb2⟩
      have B2 := hid_mk (below_two B1.out hb2)
      clear hb2 x0 x1 x2 x3 x4
      go_wp2_with fail
      exact bodyPost_ret (v := .tuple #[.int .u64 0, .bool false]) (by simp [results, Try.results10, go_sem]) rfl ⟨rfl, B2.out⟩
    · simp only [Bool.true_and, if_true]
      go_enter Try.func10, Try.ntmps10
      go_wp2_with fail
      refine (HV.out _).mono ?_
      rintro e w1 ⟨rfl, hb1⟩
      have B1 := hid_mk (below_two HB.out hb1)
      have Y1 := hid_mk (HX.out.below hb1)
      obtain ⟨x0, x1, x2, x3, x4, _⟩ := res_all Y1.out
      clear hb1
      go_wp2_with fail
      refine (H8.out _).mono ?_
      rintro e w2 ⟨rfl, hb2⟩
      have B2 := hid_mk (below_two B1.out hb2)
      clear x0 x1 x2 x3 x4
      obtain ⟨x0, x1, x2, x3, x4, _⟩ := res_all (Y1.out.below hb2)
      clear hb2
      go_wp2_with fail
      exact bodyPost_ret (v := .tuple #[.int .u64 g, .bool true]) (by simp [results, Try.results10, go_sem]) rfl ⟨rfl, B2.out⟩

theorem chk_wr {d : Dv} {x : Nat} (h : chkB d = true) (hd : isDv d) (hx : x < 256) : chkB (wrD d x) = true := by
  by_cases h0 : x = 0
  · subst h0
    rw [(wr_reset h).1]
    exact (wr_reset h).2
  · rw [(wr_ok h hd.s hx h0).1]
    exact (wr_ok h hd.s hx h0).2.1
/-- write and ask of a state that may be -/
theorem swr_ok (d : Dv) (x : Nat) (h : isDv d) (hc : chkB d = true) (hx : x < 256) (w : World) :
    Calls Try.prog 23 #[dvV d, .int .u8 x] w fun e w' => e = .returned (dvV (wrD d x)) ∧ Below w.heap.size w w' := by
  rw [wrD_ok hc]
  exact swrN d x h hx w
theorem sask_ok (d : Dv) (x : Nat) (h : isDv d) (hc : chkB d = true) (w : World) :
    Calls Try.prog 24 #[dvV d, .int .u64 x] w fun e w' => e = .returned (dvV (askD d x)) ∧ Below w.heap.size w w' := by
  rw [askD_ok hc]
  exact saskN d x h w

set_option maxHeartbeats 2000000 in
theorem sinit (d : Dv) (x : Nat) (h : isDv d) (hx : x < N64) (w : World) :
    Calls Try.prog 9 #[dvV d, .int .u64 x] w fun e w' => e = .returned (.tuple #[dvV (initD d x), .int .i64 (schE d)]) ∧ Below w.heap.size w w' := by
  have HC := hid_mk (scheck d h)
  have HD := hid_mk h
  unfold schE at HC ⊢
  unfold initD
  cases hc : chkB d
  · rw [hc, if_neg (by decide)] at HC
    rw [if_neg (by decide), if_neg (by decide)]
    clear hc
    obtain ⟨k, o, g, s⟩ := d
    obtain ⟨X1, X2, B0⟩ := two_new w k o g s 24 24
    have HX2 := hid_mk X2
    have HB0 := hid_mk B0
    clear X1 X2 B0 h
    unfold dvV zeroD at *
    simp only at HC ⊢
    go_enter Try.func9, Try.ntmps9
    go_wp2_with fail
    refine (HC.out _).mono ?_
    rintro e w1 ⟨rfl, hb1⟩
    have B1 := hid_mk (below_two HB0.out hb1)
    obtain ⟨r0, q0, q1, q2, q3, r1, r2, r3, r4⟩ := res_all (HX2.out.below hb1)
    clear hb1
    go_wp2_with fail
    exact bodyPost_ret (v := .tuple #[.agg #[.int .i64 0, .int .u64 0, .int .u64 0, .int .u8 0], .int .i64 2]) (by simp [results, Try.results9, go_sem, q0, q1, q2, q3]) rfl ⟨rfl, put4 B1.out (by omega) _ _ _ _⟩
  · rw [hc, if_pos rfl] at HC
    rw [if_pos rfl, if_pos rfl]
    have hn : newB d.k d.o = true := by
      have h2 := hc
      unfold chkB at h2
      rw [Bool.and_eq_true] at h2
      exact h2.1
    have HB := hid_mk (fbest d.k d.o x h.o hx)
    rw [(best_new x hn h.o).1, (best_new x hn h.o).2] at HB
    have hbl : bestF d.k d.o x < N64 := bestF_lt h.o
    have c0 := hc
    have h1 := h.wr 0
    have c1 := chk_wr (x := 0) c0 h (by decide)
    have h2 := h1.wr 1
    have c2 := chk_wr (x := 1) c1 h1 (by decide)
    have h3 := h2.wr 3
    have c3 := chk_wr (x := 3) c2 h2 (by decide)
    have h4 := h3.ask hbl
    have c4 := ask_ok (bestF d.k d.o x) c3 h3.s
    have h5 := h4.wr 11
    have c5 := chk_wr (x := 11) c4 h4 (by decide)
    have C1 := hid_mk (swr_ok d 0 h c0 (by decide))
    have C2 := hid_mk (swr_ok _ 1 h1 c1 (by decide))
    have C3 := hid_mk (swr_ok _ 3 h2 c2 (by decide))
    have C4 := hid_mk (sask_ok _ (bestF d.k d.o x) h3 c3)
    have C5 := hid_mk (swr_ok _ 11 h4 c4 (by decide))
    have C6 := hid_mk (swr_ok _ 15 h5 c5 (by decide))
    clear c0 c1 c2 c3 c4 c5 h1 h2 h3 h4 h5 hbl hn hc h
    obtain ⟨k, o, g, s⟩ := d
    simp only at HB C4 C5 C6 ⊢
    generalize bestF k o x = z at *
    generalize wrD ⟨k, o, g, s⟩ 0 = d1 at *
    generalize wrD d1 1 = d2 at *
    generalize wrD d2 3 = d3 at *
    generalize askD d3 z = d4 at *
    generalize wrD d4 11 = d5 at *
    generalize wrD d5 15 = d6 at *
    generalize dvV d1 = v1 at *
    generalize dvV d2 = v2 at *
    generalize dvV d3 = v3 at *
    generalize dvV d4 = v4 at *
    generalize dvV d5 = v5 at *
    obtain ⟨k6, o6, g6, s6⟩ := d6
    obtain ⟨X1, X2, B0⟩ := two_new w k o g s 24 24
    have HX1 := hid_mk X1
    have HX2 := hid_mk X2
    have HB0 := hid_mk B0
    clear X1 X2 B0
    unfold dvV at *
    simp only at HC C1 C6 ⊢
    go_enter Try.func9, Try.ntmps9
    go_wp2_with fail
    refine (HC.out _).mono ?_
    rintro e w1 ⟨rfl, hb1⟩
    have B1 := hid_mk (below_two HB0.out hb1)
    have Y1 := hid_mk (HX1.out.below hb1)
    have Y2 := hid_mk (HX2.out.below hb1)
    obtain ⟨x0, x1, x2, x3, x4, _⟩ := res_all Y1.out
    clear hb1
    go_wp2_with fail
    refine (HB.out _).mono ?_
    rintro e w2 ⟨rfl, hb2⟩
    have B2 := hid_mk (below_two B1.out hb2)
    have Z1 := hid_mk (Y1.out.below hb2)
    have Z2 := hid_mk (Y2.out.below hb2)
    clear hb2 x0 x1 x2 x3 x4
    obtain ⟨x0, x1, x2, x3, x4, _⟩ := res_all Z1.out
    go_wp2_with fail
    refine (C1.out _).mono ?_
    rintro e w3 ⟨rfl, hb3⟩
    clear x0 x1 x2 x3 x4
    go_wp2_with fail
    refine (C2.out _).mono ?_
    rintro e w4 ⟨rfl, hb4⟩
    go_wp2_with fail
    refine (C3.out _).mono ?_
    rintro e w5 ⟨rfl, hb5⟩
    go_wp2_with fail
    refine (C4.out _).mono ?_
    rintro e w6 ⟨rfl, hb6⟩
    go_wp2_with fail
    refine (C5.out _).mono ?_
    rintro e w7 ⟨rfl, hb7⟩
    go_wp2_with fail
    refine (C6.out _).mono ?_
    rintro e w8 ⟨rfl, hb8⟩
    have hb := below_two (below_two (below_two (below_two (below_two hb3 hb4) hb5) hb6) hb7) hb8
    have B8 := hid_mk (below_two B2.out hb)
    obtain ⟨r0, q0, q1, q2, q3, r1, r2, r3, r4⟩ := res_all (Z2.out.below hb)
    clear hb hb3 hb4 hb5 hb6 hb7 hb8
    go_wp2_with fail
    exact bodyPost_ret (v := .tuple #[.agg #[.int .i64 k6, .int .u64 o6, .int .u64 g6, .int .u8 s6], .int .i64 0]) (by simp [results, Try.results9, go_sem, q0, q1, q2, q3]) rfl ⟨rfl, put4 B8.out (by omega) _ _ _ _⟩
end Go.Proofs.Ytfiogaollejdbaa
