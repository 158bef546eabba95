/- Contract of layout.Check: what it returns, and that old memory stays. Conditions: as each theorem names them. Written by mklay2.py. -/
import Derived.Test.YtolflhnkdnjckaaLay1
import Derived.BigQuiet
namespace Go.Proofs.Ytolflhnkdnjckaa
open Go.ChangeShapes Go.WideShapes Go.ChangeAt Go.RowKit
set_option linter.unusedVariables false
set_option maxRecDepth 100000

theorem idx76_0 (a b c d e f : Int) (w : World) : (Instr.index 76 (.agg #[.int .u64 a, .int .u64 b, .int .u64 c, .int .u64 d, .int .u64 e, .int .u64 f]) (.int .i64 0)).run Try.prog w = .ok (.agg #[.int .u64 a, .int .u64 b]) w := by kernel_rfl
theorem idx76_1 (a b c d e f : Int) (w : World) : (Instr.index 76 (.agg #[.int .u64 a, .int .u64 b, .int .u64 c, .int .u64 d, .int .u64 e, .int .u64 f]) (.int .i64 1)).run Try.prog w = .ok (.agg #[.int .u64 c, .int .u64 d]) w := by kernel_rfl
theorem idx76_2 (a b c d e f : Int) (w : World) : (Instr.index 76 (.agg #[.int .u64 a, .int .u64 b, .int .u64 c, .int .u64 d, .int .u64 e, .int .u64 f]) (.int .i64 2)).run Try.prog w = .ok (.agg #[.int .u64 e, .int .u64 f]) w := by kernel_rfl

/-- Check's answer, of the three first and last addresses and Driver's unit -/
def chkF (d ld g lg c lc u : Int) : Int :=
  if (d.tmod 16 != 0) = true then 2 else if decide (ld < d) = true then 2 else
  if (g.tmod u != 0) = true then 2 else if decide (lg < g) = true then 2 else
  if (decide (g ≤ ld) && decide (d ≤ lg)) = true then 2 else
  if (c.tmod 4 != 0) = true then 2 else if decide (lc < c) = true then 2 else
  if (decide (c ≤ ld) && decide (d ≤ lc)) = true then 2 else
  if (decide (c ≤ lg) && decide (g ≤ lc)) = true then 2 else 0

theorem chkF_0 {d ld g lg c lc u : Int}  (h0 : (d.tmod 16 != 0) = true) : chkF d ld g lg c lc u = 2 := by
  unfold chkF
  rw [h0]
  rfl
theorem chkF_1 {d ld g lg c lc u : Int} (h0 : (d.tmod 16 != 0) = false) (h1 : decide (ld < d) = true) : chkF d ld g lg c lc u = 2 := by
  unfold chkF
  rw [h0, h1]
  rfl
theorem chkF_2 {d ld g lg c lc u : Int} (h0 : (d.tmod 16 != 0) = false) (h1 : decide (ld < d) = false) (h2 : (g.tmod u != 0) = true) : chkF d ld g lg c lc u = 2 := by
  unfold chkF
  rw [h0, h1, h2]
  rfl
theorem chkF_3 {d ld g lg c lc u : Int} (h0 : (d.tmod 16 != 0) = false) (h1 : decide (ld < d) = false) (h2 : (g.tmod u != 0) = false) (h3 : decide (lg < g) = true) : chkF d ld g lg c lc u = 2 := by
  unfold chkF
  rw [h0, h1, h2, h3]
  rfl
theorem chkF_4 {d ld g lg c lc u : Int} (h0 : (d.tmod 16 != 0) = false) (h1 : decide (ld < d) = false) (h2 : (g.tmod u != 0) = false) (h3 : decide (lg < g) = false) (h4 : (decide (g ≤ ld) && decide (d ≤ lg)) = true) : chkF d ld g lg c lc u = 2 := by
  unfold chkF
  rw [h0, h1, h2, h3, h4]
  rfl
theorem chkF_5 {d ld g lg c lc u : Int} (h0 : (d.tmod 16 != 0) = false) (h1 : decide (ld < d) = false) (h2 : (g.tmod u != 0) = false) (h3 : decide (lg < g) = false) (h4 : (decide (g ≤ ld) && decide (d ≤ lg)) = false) (h5 : (c.tmod 4 != 0) = true) : chkF d ld g lg c lc u = 2 := by
  unfold chkF
  rw [h0, h1, h2, h3, h4, h5]
  rfl
theorem chkF_6 {d ld g lg c lc u : Int} (h0 : (d.tmod 16 != 0) = false) (h1 : decide (ld < d) = false) (h2 : (g.tmod u != 0) = false) (h3 : decide (lg < g) = false) (h4 : (decide (g ≤ ld) && decide (d ≤ lg)) = false) (h5 : (c.tmod 4 != 0) = false) (h6 : decide (lc < c) = true) : chkF d ld g lg c lc u = 2 := by
  unfold chkF
  rw [h0, h1, h2, h3, h4, h5, h6]
  rfl
theorem chkF_7 {d ld g lg c lc u : Int} (h0 : (d.tmod 16 != 0) = false) (h1 : decide (ld < d) = false) (h2 : (g.tmod u != 0) = false) (h3 : decide (lg < g) = false) (h4 : (decide (g ≤ ld) && decide (d ≤ lg)) = false) (h5 : (c.tmod 4 != 0) = false) (h6 : decide (lc < c) = false) (h7 : (decide (c ≤ ld) && decide (d ≤ lc)) = true) : chkF d ld g lg c lc u = 2 := by
  unfold chkF
  rw [h0, h1, h2, h3, h4, h5, h6, h7]
  rfl
theorem chkF_8 {d ld g lg c lc u : Int} (h0 : (d.tmod 16 != 0) = false) (h1 : decide (ld < d) = false) (h2 : (g.tmod u != 0) = false) (h3 : decide (lg < g) = false) (h4 : (decide (g ≤ ld) && decide (d ≤ lg)) = false) (h5 : (c.tmod 4 != 0) = false) (h6 : decide (lc < c) = false) (h7 : (decide (c ≤ ld) && decide (d ≤ lc)) = false) (h8 : (decide (c ≤ lg) && decide (g ≤ lc)) = true) : chkF d ld g lg c lc u = 2 := by
  unfold chkF
  rw [h0, h1, h2, h3, h4, h5, h6, h7, h8]
  rfl
theorem chkF_9 {d ld g lg c lc u : Int} (h0 : (d.tmod 16 != 0) = false) (h1 : decide (ld < d) = false) (h2 : (g.tmod u != 0) = false) (h3 : decide (lg < g) = false) (h4 : (decide (g ≤ ld) && decide (d ≤ lg)) = false) (h5 : (c.tmod 4 != 0) = false) (h6 : decide (lc < c) = false) (h7 : (decide (c ≤ ld) && decide (d ≤ lc)) = false) (h8 : (decide (c ≤ lg) && decide (g ≤ lc)) = false) : chkF d ld g lg c lc u = 0 := by
  unfold chkF
  rw [h0, h1, h2, h3, h4, h5, h6, h7, h8]
  rfl

set_option maxHeartbeats 4000000 in
theorem check_core (pk : Bool) (n d ld g lg c lc u : Int) (w : World) (hu0 : ¬ u = 0)
    (HV : ∀ w, Calls Try.prog 27 #[.bool pk, .int .i64 n] w fun e w' => e = .returned (.bool true) ∧ w = w')
    (HU : ∀ w, Calls Try.prog 28 #[.bool pk] w fun e w' => e = .returned (.agg #[.int .u64 16, .int .u64 u, .int .u64 4]) ∧ Below w.heap.size w w')
    (HS : ∀ w, Calls Try.prog 36 #[rV pk n d g c] w fun e w' => e = .returned (.agg #[.int .u64 d, .int .u64 ld, .int .u64 g, .int .u64 lg, .int .u64 c, .int .u64 lc]) ∧ Below w.heap.size w w') :
    Calls Try.prog 13 #[rV pk n d g c] w fun e w' => e = .returned (.int .i64 (chkF d ld g lg c lc u)) ∧ Below w.heap.size w w' := by
  have i0 := idx76_0
  have i1 := idx76_1
  have i2 := idx76_2
  have HV' := hid_mk HV
  have HU' := hid_mk HU
  have HS' := hid_mk HS
  clear HV HU HS
  go_enter Try.func13, Try.ntmps13
  go_wp2_with fail
  refine (HV'.out _).mono ?_
  rintro e w' ⟨rfl, rfl⟩
  go_wp2_with fail
  refine (HU'.out _).mono ?_
  rintro e w1 ⟨rfl, hb⟩
  have B1 := hid_mk (below_new (Below.refl _ _) hb)
  have C1 := bcell hb
  have q1 : w.heap.size < w1.heap.size := by
    have := hb.size
    simp at this
    omega
  have q1' : w.heap.size < w1.heap.size + 1 := by omega
  clear hb
  go_wp2_with fail
  refine (HS'.out _).mono ?_
  rintro e w2 ⟨rfl, hb2⟩
  have C2 := bcell hb2
  have B2 := hid_mk (below_then (B1.out.alloc B1.out.size _) hb2)
  have q2 : w1.heap.size < w2.heap.size := by
    have := hb2.size
    simp at this
    omega
  have q2' : w1.heap.size < w2.heap.size + 1 := by omega
  have q3 : w.heap.size < w2.heap.size := by omega
  have q3' : w.heap.size < w2.heap.size + 1 := by omega
  clear hb2
  go_wp2_with fail
  refine wp_loop_rounds 4 ?_
  rw [rounds_succ]
  go_wp2_with fail
  cases h0 : (d.tmod 16 != 0)
  case' true =>
    go_quiet (fail)
    go_wp2_with fail
    go_ret
    exact ⟨ret_eq (by rw [chkF_0 h0]; rfl), (by repeat (first | (refine Below.setCell ?_ (by first | omega | (simp; done) | (simp; omega)) _) | (refine Below.alloc ?_ (by first | omega | (simp; done) | (simp; omega)) _) | (refine below_dn ?_ _) | exact Below.refl _ _ | exact B2.out))⟩
  cases h1 : decide (ld < d)
  case' true =>
    go_quiet (fail)
    go_wp2_with fail
    go_ret
    exact ⟨ret_eq (by rw [chkF_1 h0 h1]; rfl), (by repeat (first | (refine Below.setCell ?_ (by first | omega | (simp; done) | (simp; omega)) _) | (refine Below.alloc ?_ (by first | omega | (simp; done) | (simp; omega)) _) | (refine below_dn ?_ _) | exact Below.refl _ _ | exact B2.out))⟩
  go_quiet (fail)
  go_wp2_with fail
  refine wp_loop_rounds 1 ?_
  rw [rounds_succ]
  go_wp2_with fail
  rw [rounds_succ]
  go_wp2_with fail
  cases h2 : (g.tmod u != 0)
  case' true =>
    go_quiet (fail)
    go_wp2_with fail
    go_ret
    exact ⟨ret_eq (by rw [chkF_2 h0 h1 h2]; rfl), (by repeat (first | (refine Below.setCell ?_ (by first | omega | (simp; done) | (simp; omega)) _) | (refine Below.alloc ?_ (by first | omega | (simp; done) | (simp; omega)) _) | (refine below_dn ?_ _) | exact Below.refl _ _ | exact B2.out))⟩
  cases h3 : decide (lg < g)
  case' true =>
    go_quiet (fail)
    go_wp2_with fail
    go_ret
    exact ⟨ret_eq (by rw [chkF_3 h0 h1 h2 h3]; rfl), (by repeat (first | (refine Below.setCell ?_ (by first | omega | (simp; done) | (simp; omega)) _) | (refine Below.alloc ?_ (by first | omega | (simp; done) | (simp; omega)) _) | (refine below_dn ?_ _) | exact Below.refl _ _ | exact B2.out))⟩
  go_quiet (fail)
  go_wp2_with fail
  refine wp_loop_rounds 2 ?_
  rw [rounds_succ]
  go_wp2_with fail
  have HM := meets_any g lg d ld
  cases h4 : (decide (g ≤ ld) && decide (d ≤ lg))
  case' true =>
    simp only [h4] at HM
    refine (HM _).mono ?_
    rintro e w3 ⟨rfl, hbw3⟩
    have Bw3 : Hid (Below w.heap.size w w3) := below_then (by repeat (first | (refine Below.setCell ?_ (by first | omega | (simp; done) | (simp; omega)) _) | (refine Below.alloc ?_ (by first | omega | (simp; done) | (simp; omega)) _) | (refine below_dn ?_ _) | exact Below.refl _ _ | exact B2.out)) hbw3
    clear hbw3 HM
    go_wp2_with fail
    go_ret
    exact ⟨ret_eq (by rw [chkF_4 h0 h1 h2 h3 h4]; rfl), (by repeat (first | (refine Below.setCell ?_ (by first | omega | (simp; done) | (simp; omega)) _) | (refine Below.alloc ?_ (by first | omega | (simp; done) | (simp; omega)) _) | (refine below_dn ?_ _) | exact Below.refl _ _ | exact Bw3.out))⟩
  simp only [h4] at HM
  refine (HM _).mono ?_
  rintro e w3 ⟨rfl, hbw3⟩
  have Bw3 : Hid (Below w.heap.size w w3) := below_then (by repeat (first | (refine Below.setCell ?_ (by first | omega | (simp; done) | (simp; omega)) _) | (refine Below.alloc ?_ (by first | omega | (simp; done) | (simp; omega)) _) | (refine below_dn ?_ _) | exact Below.refl _ _ | exact B2.out)) hbw3
  have zw3 := hbw3.size
  simp at zw3
  have qww3 : w.heap.size < w3.heap.size := by omega
  have qww3' : w.heap.size < w3.heap.size + 1 := by omega
  have qww3'' : w.heap.size < w3.heap.size + 1 + 1 := by omega
  have qw1w3 : w1.heap.size < w3.heap.size := by omega
  have qw1w3' : w1.heap.size < w3.heap.size + 1 := by omega
  have qw1w3'' : w1.heap.size < w3.heap.size + 1 + 1 := by omega
  have qw2w3 : w2.heap.size < w3.heap.size := by omega
  have qw2w3' : w2.heap.size < w3.heap.size + 1 := by omega
  have qw2w3'' : w2.heap.size < w3.heap.size + 1 + 1 := by omega
  have fw3_0 := hbw3.cell (p := ⟨w1.heap.size, 0, none⟩) (by simp; omega)
  simp (disch := first | (simp; done) | (simp; omega)) [go_sem, *] at fw3_0
  have fw3_1 := hbw3.cell (p := ⟨w1.heap.size, 1, none⟩) (by simp; omega)
  simp (disch := first | (simp; done) | (simp; omega)) [go_sem, *] at fw3_1
  have fw3_2 := hbw3.cell (p := ⟨w1.heap.size, 2, none⟩) (by simp; omega)
  simp (disch := first | (simp; done) | (simp; omega)) [go_sem, *] at fw3_2
  have fw3_3 := hbw3.cell (p := ⟨w2.heap.size, 0, none⟩) (by simp; omega)
  simp (disch := first | (simp; done) | (simp; omega)) [go_sem, *] at fw3_3
  have fw3_4 := hbw3.cell (p := ⟨w2.heap.size, 1, none⟩) (by simp; omega)
  simp (disch := first | (simp; done) | (simp; omega)) [go_sem, *] at fw3_4
  have fw3_5 := hbw3.cell (p := ⟨w2.heap.size, 2, none⟩) (by simp; omega)
  simp (disch := first | (simp; done) | (simp; omega)) [go_sem, *] at fw3_5
  have fw3_6 := hbw3.cell (p := ⟨w2.heap.size, 3, none⟩) (by simp; omega)
  simp (disch := first | (simp; done) | (simp; omega)) [go_sem, *] at fw3_6
  have fw3_7 := hbw3.cell (p := ⟨w2.heap.size, 4, none⟩) (by simp; omega)
  simp (disch := first | (simp; done) | (simp; omega)) [go_sem, *] at fw3_7
  have fw3_8 := hbw3.cell (p := ⟨w2.heap.size, 5, none⟩) (by simp; omega)
  simp (disch := first | (simp; done) | (simp; omega)) [go_sem, *] at fw3_8
  clear hbw3 HM zw3
  go_wp2_with fail
  rw [rounds_succ]
  go_wp2_with fail
  rw [rounds_succ]
  go_wp2_with fail
  cases h5 : (c.tmod 4 != 0)
  case' true =>
    go_quiet (fail)
    go_wp2_with fail
    go_ret
    exact ⟨ret_eq (by rw [chkF_5 h0 h1 h2 h3 h4 h5]; rfl), (by repeat (first | (refine Below.setCell ?_ (by first | omega | (simp; done) | (simp; omega)) _) | (refine Below.alloc ?_ (by first | omega | (simp; done) | (simp; omega)) _) | (refine below_dn ?_ _) | exact Below.refl _ _ | exact Bw3.out))⟩
  cases h6 : decide (lc < c)
  case' true =>
    go_quiet (fail)
    go_wp2_with fail
    go_ret
    exact ⟨ret_eq (by rw [chkF_6 h0 h1 h2 h3 h4 h5 h6]; rfl), (by repeat (first | (refine Below.setCell ?_ (by first | omega | (simp; done) | (simp; omega)) _) | (refine Below.alloc ?_ (by first | omega | (simp; done) | (simp; omega)) _) | (refine below_dn ?_ _) | exact Below.refl _ _ | exact Bw3.out))⟩
  go_quiet (fail)
  go_wp2_with fail
  refine wp_loop_rounds 3 ?_
  rw [rounds_succ]
  go_wp2_with fail
  have HM := meets_any c lc d ld
  cases h7 : (decide (c ≤ ld) && decide (d ≤ lc))
  case' true =>
    simp only [h7] at HM
    refine (HM _).mono ?_
    rintro e w4 ⟨rfl, hbw4⟩
    have Bw4 : Hid (Below w.heap.size w w4) := below_then (by repeat (first | (refine Below.setCell ?_ (by first | omega | (simp; done) | (simp; omega)) _) | (refine Below.alloc ?_ (by first | omega | (simp; done) | (simp; omega)) _) | (refine below_dn ?_ _) | exact Below.refl _ _ | exact Bw3.out)) hbw4
    clear hbw4 HM
    go_wp2_with fail
    go_ret
    exact ⟨ret_eq (by rw [chkF_7 h0 h1 h2 h3 h4 h5 h6 h7]; rfl), (by repeat (first | (refine Below.setCell ?_ (by first | omega | (simp; done) | (simp; omega)) _) | (refine Below.alloc ?_ (by first | omega | (simp; done) | (simp; omega)) _) | (refine below_dn ?_ _) | exact Below.refl _ _ | exact Bw4.out))⟩
  simp only [h7] at HM
  refine (HM _).mono ?_
  rintro e w4 ⟨rfl, hbw4⟩
  have Bw4 : Hid (Below w.heap.size w w4) := below_then (by repeat (first | (refine Below.setCell ?_ (by first | omega | (simp; done) | (simp; omega)) _) | (refine Below.alloc ?_ (by first | omega | (simp; done) | (simp; omega)) _) | (refine below_dn ?_ _) | exact Below.refl _ _ | exact Bw3.out)) hbw4
  have zw4 := hbw4.size
  simp at zw4
  have qww4 : w.heap.size < w4.heap.size := by omega
  have qww4' : w.heap.size < w4.heap.size + 1 := by omega
  have qww4'' : w.heap.size < w4.heap.size + 1 + 1 := by omega
  have qw1w4 : w1.heap.size < w4.heap.size := by omega
  have qw1w4' : w1.heap.size < w4.heap.size + 1 := by omega
  have qw1w4'' : w1.heap.size < w4.heap.size + 1 + 1 := by omega
  have qw2w4 : w2.heap.size < w4.heap.size := by omega
  have qw2w4' : w2.heap.size < w4.heap.size + 1 := by omega
  have qw2w4'' : w2.heap.size < w4.heap.size + 1 + 1 := by omega
  have qw3w4 : w3.heap.size < w4.heap.size := by omega
  have qw3w4' : w3.heap.size < w4.heap.size + 1 := by omega
  have qw3w4'' : w3.heap.size < w4.heap.size + 1 + 1 := by omega
  have fw4_0 := hbw4.cell (p := ⟨w1.heap.size, 0, none⟩) (by simp; omega)
  simp (disch := first | (simp; done) | (simp; omega)) [go_sem, *] at fw4_0
  have fw4_1 := hbw4.cell (p := ⟨w1.heap.size, 1, none⟩) (by simp; omega)
  simp (disch := first | (simp; done) | (simp; omega)) [go_sem, *] at fw4_1
  have fw4_2 := hbw4.cell (p := ⟨w1.heap.size, 2, none⟩) (by simp; omega)
  simp (disch := first | (simp; done) | (simp; omega)) [go_sem, *] at fw4_2
  have fw4_3 := hbw4.cell (p := ⟨w2.heap.size, 0, none⟩) (by simp; omega)
  simp (disch := first | (simp; done) | (simp; omega)) [go_sem, *] at fw4_3
  have fw4_4 := hbw4.cell (p := ⟨w2.heap.size, 1, none⟩) (by simp; omega)
  simp (disch := first | (simp; done) | (simp; omega)) [go_sem, *] at fw4_4
  have fw4_5 := hbw4.cell (p := ⟨w2.heap.size, 2, none⟩) (by simp; omega)
  simp (disch := first | (simp; done) | (simp; omega)) [go_sem, *] at fw4_5
  have fw4_6 := hbw4.cell (p := ⟨w2.heap.size, 3, none⟩) (by simp; omega)
  simp (disch := first | (simp; done) | (simp; omega)) [go_sem, *] at fw4_6
  have fw4_7 := hbw4.cell (p := ⟨w2.heap.size, 4, none⟩) (by simp; omega)
  simp (disch := first | (simp; done) | (simp; omega)) [go_sem, *] at fw4_7
  have fw4_8 := hbw4.cell (p := ⟨w2.heap.size, 5, none⟩) (by simp; omega)
  simp (disch := first | (simp; done) | (simp; omega)) [go_sem, *] at fw4_8
  have fw4_9 := hbw4.cell (p := ⟨w3.heap.size, 0, none⟩) (by simp; omega)
  simp (disch := first | (simp; done) | (simp; omega)) [go_sem, *] at fw4_9
  have fw4_10 := hbw4.cell (p := ⟨w3.heap.size, 1, none⟩) (by simp; omega)
  simp (disch := first | (simp; done) | (simp; omega)) [go_sem, *] at fw4_10
  clear hbw4 HM zw4
  go_wp2_with fail
  rw [rounds_succ]
  go_wp2_with fail
  have HM := meets_any c lc g lg
  cases h8 : (decide (c ≤ lg) && decide (g ≤ lc))
  case' true =>
    simp only [h8] at HM
    refine (HM _).mono ?_
    rintro e w5 ⟨rfl, hbw5⟩
    have Bw5 : Hid (Below w.heap.size w w5) := below_then (by repeat (first | (refine Below.setCell ?_ (by first | omega | (simp; done) | (simp; omega)) _) | (refine Below.alloc ?_ (by first | omega | (simp; done) | (simp; omega)) _) | (refine below_dn ?_ _) | exact Below.refl _ _ | exact Bw4.out)) hbw5
    clear hbw5 HM
    go_wp2_with fail
    go_ret
    exact ⟨ret_eq (by rw [chkF_8 h0 h1 h2 h3 h4 h5 h6 h7 h8]; rfl), (by repeat (first | (refine Below.setCell ?_ (by first | omega | (simp; done) | (simp; omega)) _) | (refine Below.alloc ?_ (by first | omega | (simp; done) | (simp; omega)) _) | (refine below_dn ?_ _) | exact Below.refl _ _ | exact Bw5.out))⟩
  simp only [h8] at HM
  refine (HM _).mono ?_
  rintro e w5 ⟨rfl, hbw5⟩
  have Bw5 : Hid (Below w.heap.size w w5) := below_then (by repeat (first | (refine Below.setCell ?_ (by first | omega | (simp; done) | (simp; omega)) _) | (refine Below.alloc ?_ (by first | omega | (simp; done) | (simp; omega)) _) | (refine below_dn ?_ _) | exact Below.refl _ _ | exact Bw4.out)) hbw5
  have zw5 := hbw5.size
  simp at zw5
  have qww5 : w.heap.size < w5.heap.size := by omega
  have qww5' : w.heap.size < w5.heap.size + 1 := by omega
  have qww5'' : w.heap.size < w5.heap.size + 1 + 1 := by omega
  have qw1w5 : w1.heap.size < w5.heap.size := by omega
  have qw1w5' : w1.heap.size < w5.heap.size + 1 := by omega
  have qw1w5'' : w1.heap.size < w5.heap.size + 1 + 1 := by omega
  have qw2w5 : w2.heap.size < w5.heap.size := by omega
  have qw2w5' : w2.heap.size < w5.heap.size + 1 := by omega
  have qw2w5'' : w2.heap.size < w5.heap.size + 1 + 1 := by omega
  have qw3w5 : w3.heap.size < w5.heap.size := by omega
  have qw3w5' : w3.heap.size < w5.heap.size + 1 := by omega
  have qw3w5'' : w3.heap.size < w5.heap.size + 1 + 1 := by omega
  have qw4w5 : w4.heap.size < w5.heap.size := by omega
  have qw4w5' : w4.heap.size < w5.heap.size + 1 := by omega
  have qw4w5'' : w4.heap.size < w5.heap.size + 1 + 1 := by omega
  clear hbw5 HM zw5
  go_wp2_with fail
  rw [rounds_succ]
  go_wp2_with fail
  rw [rounds_succ]
  go_wp2_with fail
  go_ret
  exact ⟨ret_eq (by rw [chkF_9 h0 h1 h2 h3 h4 h5 h6 h7 h8]; rfl), (by repeat (first | (refine Below.setCell ?_ (by first | omega | (simp; done) | (simp; omega)) _) | (refine Below.alloc ?_ (by first | omega | (simp; done) | (simp; omega)) _) | (refine below_dn ?_ _) | exact Below.refl _ _ | exact Bw5.out))⟩
end Go.Proofs.Ytolflhnkdnjckaa
