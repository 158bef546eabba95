/- Contracts of layout.Over and of the reference's: what they return, and that old memory stays. Conditions: as each theorem names them. Written by mklay7.py. -/
import Derived.Test.YtolflhnkdnjckaaLay4
namespace Go.Proofs.Ytolflhnkdnjckaa
open Go.ChangeShapes Go.WideShapes Go.ChangeAt Go.RowKit
set_option linter.unusedVariables false
set_option maxRecDepth 100000

/-- Over's answer of the three parts' first and last addresses, and the bytes' -/
def ovF (d ld g lg c lc x y : Int) : Bool := (decide (x ≤ ld) && decide (d ≤ y)) || (decide (x ≤ lg) && decide (g ≤ y)) || (decide (x ≤ lc) && decide (c ≤ y))


set_option maxHeartbeats 4000000 in
theorem over_in (pk : Bool) (n d ld g lg c lc x m y : Int) (w : World) (hm0 : ¬ m = 0) (h : decide (IntKind.u64.wrap (x + IntKind.u64.wrap (m - 1)) < x) = false) (hy : IntKind.u64.wrap (x + IntKind.u64.wrap (m - 1)) = y)
    (HC : ∀ w, Calls Try.prog 13 #[rV pk n d g c] w fun e w' => e = .returned (.int .i64 0) ∧ Below w.heap.size w w')
    (HS : ∀ w, Calls Try.prog 36 #[rV pk n d g c] w fun e w' => e = .returned (.agg #[.int .u64 d, .int .u64 ld, .int .u64 g, .int .u64 lg, .int .u64 c, .int .u64 lc]) ∧ Below w.heap.size w w') :
    Calls Try.prog 14 #[rV pk n d g c, .int .u64 x, .int .u64 m] w fun e w' => e = .returned (.bool (ovF d ld g lg c lc x y)) ∧ Below w.heap.size w w' := by
  have i0 := idx76_0
  have i1 := idx76_1
  have i2 := idx76_2
  have HC' := hid_mk HC
  have HS' := hid_mk HS
  clear HC HS
  subst hy
  go_enter Try.func14, Try.ntmps14
  go_wp2_with fail
  refine (HC'.out _).mono ?_
  rintro e w1 ⟨rfl, hb⟩
  have B1 := hid_mk (below_new (Below.refl _ _) hb)
  have C1 := bcell hb
  have q1 : w.heap.size < w1.heap.size := by
    have := hb.size
    simp at this
    omega
  have q1' : w.heap.size < w1.heap.size + 1 := by omega
  clear hb
  go_wp2_with fail
  refine (HS'.out _).mono ?_
  rintro e w2 ⟨rfl, hbw2⟩
  have Bw2 : Hid (Below w.heap.size w w2) := below_then (by repeat (first | (refine Below.setCell ?_ (by first | omega | (simp; done) | (simp; omega)) _) | (refine Below.alloc ?_ (by first | omega | (simp; done) | (simp; omega)) _) | (refine below_dn ?_ _) | exact Below.refl _ _ | exact B1.out)) hbw2
  have zw2 := hbw2.size
  simp at zw2
  have q2 : w1.heap.size < w2.heap.size := by omega
  have q2' : w1.heap.size < w2.heap.size + 1 := by omega
  have fw2_0 := hbw2.cell (p := ⟨w1.heap.size, 0, none⟩) (by first | (simp; done) | (simp; omega))
  simp (disch := first | (simp; done) | (simp; omega)) [go_sem, *] at fw2_0
  have fw2_1 := hbw2.cell (p := ⟨w1.heap.size, 1, none⟩) (by first | (simp; done) | (simp; omega))
  simp (disch := first | (simp; done) | (simp; omega)) [go_sem, *] at fw2_1
  clear hbw2 zw2 C1
  go_wp2_with fail
  refine wp_loop_rounds 4 ?_
  rw [rounds_succ]
  go_wp2_with fail
  have HM := meets_any x (IntKind.u64.wrap (x + IntKind.u64.wrap (m - 1))) d ld
  cases h0 : (decide (x ≤ ld) && decide (d ≤ (IntKind.u64.wrap (x + IntKind.u64.wrap (m - 1)))))
  case' true =>
    simp only [h0] at HM
    refine (HM _).mono ?_
    rintro e w3 ⟨rfl, hbw3⟩
    have Bw3 : Hid (Below w.heap.size w w3) := below_then (by repeat (first | (refine Below.setCell ?_ (by first | omega | (simp; done) | (simp; omega)) _) | (refine Below.alloc ?_ (by first | omega | (simp; done) | (simp; omega)) _) | (refine below_dn ?_ _) | exact Below.refl _ _ | exact Bw2.out)) hbw3
    clear hbw3 HM
    go_wp2_with fail
    go_ret
    exact ⟨ret_eq (congrArg Value.bool (by unfold ovF; rw [h0]; simp)), Bw3.out⟩
  simp only [h0] at HM
  refine (HM _).mono ?_
  rintro e w3 ⟨rfl, hbw3⟩
  have Bw3 : Hid (Below w.heap.size w w3) := below_then (by repeat (first | (refine Below.setCell ?_ (by first | omega | (simp; done) | (simp; omega)) _) | (refine Below.alloc ?_ (by first | omega | (simp; done) | (simp; omega)) _) | (refine below_dn ?_ _) | exact Below.refl _ _ | exact Bw2.out)) hbw3
  have zw3 := hbw3.size
  simp at zw3
  have qw3 : w1.heap.size < w3.heap.size := by omega
  have qw3' : w1.heap.size < w3.heap.size + 1 := by omega
  have fw3_0 := hbw3.cell (p := ⟨w1.heap.size, 0, none⟩) (by first | (simp; done) | (simp; omega))
  simp (disch := first | (simp; done) | (simp; omega)) [go_sem, *] at fw3_0
  have fw3_1 := hbw3.cell (p := ⟨w1.heap.size, 1, none⟩) (by first | (simp; done) | (simp; omega))
  simp (disch := first | (simp; done) | (simp; omega)) [go_sem, *] at fw3_1
  clear hbw3 zw3 HM
  go_wp2_with fail
  rw [rounds_succ]
  go_wp2_with fail
  have HM := meets_any x (IntKind.u64.wrap (x + IntKind.u64.wrap (m - 1))) g lg
  cases h1 : (decide (x ≤ lg) && decide (g ≤ (IntKind.u64.wrap (x + IntKind.u64.wrap (m - 1)))))
  case' true =>
    simp only [h1] at HM
    refine (HM _).mono ?_
    rintro e w4 ⟨rfl, hbw4⟩
    have Bw4 : Hid (Below w.heap.size w w4) := below_then (by repeat (first | (refine Below.setCell ?_ (by first | omega | (simp; done) | (simp; omega)) _) | (refine Below.alloc ?_ (by first | omega | (simp; done) | (simp; omega)) _) | (refine below_dn ?_ _) | exact Below.refl _ _ | exact Bw3.out)) hbw4
    clear hbw4 HM
    go_wp2_with fail
    go_ret
    exact ⟨ret_eq (congrArg Value.bool (by unfold ovF; rw [h0, h1]; simp)), Bw4.out⟩
  simp only [h1] at HM
  refine (HM _).mono ?_
  rintro e w4 ⟨rfl, hbw4⟩
  have Bw4 : Hid (Below w.heap.size w w4) := below_then (by repeat (first | (refine Below.setCell ?_ (by first | omega | (simp; done) | (simp; omega)) _) | (refine Below.alloc ?_ (by first | omega | (simp; done) | (simp; omega)) _) | (refine below_dn ?_ _) | exact Below.refl _ _ | exact Bw3.out)) hbw4
  have zw4 := hbw4.size
  simp at zw4
  have qw4 : w1.heap.size < w4.heap.size := by omega
  have qw4' : w1.heap.size < w4.heap.size + 1 := by omega
  have fw4_0 := hbw4.cell (p := ⟨w1.heap.size, 0, none⟩) (by first | (simp; done) | (simp; omega))
  simp (disch := first | (simp; done) | (simp; omega)) [go_sem, *] at fw4_0
  have fw4_1 := hbw4.cell (p := ⟨w1.heap.size, 1, none⟩) (by first | (simp; done) | (simp; omega))
  simp (disch := first | (simp; done) | (simp; omega)) [go_sem, *] at fw4_1
  clear hbw4 zw4 HM
  go_wp2_with fail
  rw [rounds_succ]
  go_wp2_with fail
  have HM := meets_any x (IntKind.u64.wrap (x + IntKind.u64.wrap (m - 1))) c lc
  cases h2 : (decide (x ≤ lc) && decide (c ≤ (IntKind.u64.wrap (x + IntKind.u64.wrap (m - 1)))))
  case' true =>
    simp only [h2] at HM
    refine (HM _).mono ?_
    rintro e w5 ⟨rfl, hbw5⟩
    have Bw5 : Hid (Below w.heap.size w w5) := below_then (by repeat (first | (refine Below.setCell ?_ (by first | omega | (simp; done) | (simp; omega)) _) | (refine Below.alloc ?_ (by first | omega | (simp; done) | (simp; omega)) _) | (refine below_dn ?_ _) | exact Below.refl _ _ | exact Bw4.out)) hbw5
    clear hbw5 HM
    go_wp2_with fail
    go_ret
    exact ⟨ret_eq (congrArg Value.bool (by unfold ovF; rw [h0, h1, h2]; simp)), Bw5.out⟩
  simp only [h2] at HM
  refine (HM _).mono ?_
  rintro e w5 ⟨rfl, hbw5⟩
  have Bw5 : Hid (Below w.heap.size w w5) := below_then (by repeat (first | (refine Below.setCell ?_ (by first | omega | (simp; done) | (simp; omega)) _) | (refine Below.alloc ?_ (by first | omega | (simp; done) | (simp; omega)) _) | (refine below_dn ?_ _) | exact Below.refl _ _ | exact Bw4.out)) hbw5
  have zw5 := hbw5.size
  simp at zw5
  have qw5 : w1.heap.size < w5.heap.size := by omega
  have qw5' : w1.heap.size < w5.heap.size + 1 := by omega
  clear hbw5 zw5 HM
  go_wp2_with fail
  rw [rounds_succ]
  go_wp2_with fail
  go_ret
  exact ⟨ret_eq (congrArg Value.bool (by unfold ovF; rw [h0, h1, h2]; rfl)), Bw5.out⟩

set_option maxHeartbeats 4000000 in
theorem over_far (pk : Bool) (n d ld g lg c lc x m y : Int) (w : World) (hm0 : ¬ m = 0) (h : decide (IntKind.u64.wrap (x + IntKind.u64.wrap (m - 1)) < x) = true) (hy : (18446744073709551615 : Int) = y)
    (HC : ∀ w, Calls Try.prog 13 #[rV pk n d g c] w fun e w' => e = .returned (.int .i64 0) ∧ Below w.heap.size w w')
    (HS : ∀ w, Calls Try.prog 36 #[rV pk n d g c] w fun e w' => e = .returned (.agg #[.int .u64 d, .int .u64 ld, .int .u64 g, .int .u64 lg, .int .u64 c, .int .u64 lc]) ∧ Below w.heap.size w w') :
    Calls Try.prog 14 #[rV pk n d g c, .int .u64 x, .int .u64 m] w fun e w' => e = .returned (.bool (ovF d ld g lg c lc x y)) ∧ Below w.heap.size w w' := by
  have i0 := idx76_0
  have i1 := idx76_1
  have i2 := idx76_2
  have HC' := hid_mk HC
  have HS' := hid_mk HS
  clear HC HS
  subst hy
  go_enter Try.func14, Try.ntmps14
  go_wp2_with fail
  refine (HC'.out _).mono ?_
  rintro e w1 ⟨rfl, hb⟩
  have B1 := hid_mk (below_new (Below.refl _ _) hb)
  have C1 := bcell hb
  have q1 : w.heap.size < w1.heap.size := by
    have := hb.size
    simp at this
    omega
  have q1' : w.heap.size < w1.heap.size + 1 := by omega
  clear hb
  go_wp2_with fail
  refine (HS'.out _).mono ?_
  rintro e w2 ⟨rfl, hbw2⟩
  have Bw2 : Hid (Below w.heap.size w w2) := below_then (by repeat (first | (refine Below.setCell ?_ (by first | omega | (simp; done) | (simp; omega)) _) | (refine Below.alloc ?_ (by first | omega | (simp; done) | (simp; omega)) _) | (refine below_dn ?_ _) | exact Below.refl _ _ | exact B1.out)) hbw2
  have zw2 := hbw2.size
  simp at zw2
  have q2 : w1.heap.size < w2.heap.size := by omega
  have q2' : w1.heap.size < w2.heap.size + 1 := by omega
  have fw2_0 := hbw2.cell (p := ⟨w1.heap.size, 0, none⟩) (by first | (simp; done) | (simp; omega))
  simp (disch := first | (simp; done) | (simp; omega)) [go_sem, *] at fw2_0
  have fw2_1 := hbw2.cell (p := ⟨w1.heap.size, 1, none⟩) (by first | (simp; done) | (simp; omega))
  simp (disch := first | (simp; done) | (simp; omega)) [go_sem, *] at fw2_1
  clear hbw2 zw2 C1
  go_wp2_with fail
  refine wp_loop_rounds 4 ?_
  rw [rounds_succ]
  go_wp2_with fail
  have HM := meets_any x (18446744073709551615 : Int) d ld
  cases h0 : (decide (x ≤ ld) && decide (d ≤ (18446744073709551615 : Int)))
  case' true =>
    simp only [h0] at HM
    refine (HM _).mono ?_
    rintro e w3 ⟨rfl, hbw3⟩
    have Bw3 : Hid (Below w.heap.size w w3) := below_then (by repeat (first | (refine Below.setCell ?_ (by first | omega | (simp; done) | (simp; omega)) _) | (refine Below.alloc ?_ (by first | omega | (simp; done) | (simp; omega)) _) | (refine below_dn ?_ _) | exact Below.refl _ _ | exact Bw2.out)) hbw3
    clear hbw3 HM
    go_wp2_with fail
    go_ret
    exact ⟨ret_eq (congrArg Value.bool (by unfold ovF; rw [h0]; simp)), Bw3.out⟩
  simp only [h0] at HM
  refine (HM _).mono ?_
  rintro e w3 ⟨rfl, hbw3⟩
  have Bw3 : Hid (Below w.heap.size w w3) := below_then (by repeat (first | (refine Below.setCell ?_ (by first | omega | (simp; done) | (simp; omega)) _) | (refine Below.alloc ?_ (by first | omega | (simp; done) | (simp; omega)) _) | (refine below_dn ?_ _) | exact Below.refl _ _ | exact Bw2.out)) hbw3
  have zw3 := hbw3.size
  simp at zw3
  have qw3 : w1.heap.size < w3.heap.size := by omega
  have qw3' : w1.heap.size < w3.heap.size + 1 := by omega
  have fw3_0 := hbw3.cell (p := ⟨w1.heap.size, 0, none⟩) (by first | (simp; done) | (simp; omega))
  simp (disch := first | (simp; done) | (simp; omega)) [go_sem, *] at fw3_0
  have fw3_1 := hbw3.cell (p := ⟨w1.heap.size, 1, none⟩) (by first | (simp; done) | (simp; omega))
  simp (disch := first | (simp; done) | (simp; omega)) [go_sem, *] at fw3_1
  clear hbw3 zw3 HM
  go_wp2_with fail
  rw [rounds_succ]
  go_wp2_with fail
  have HM := meets_any x (18446744073709551615 : Int) g lg
  cases h1 : (decide (x ≤ lg) && decide (g ≤ (18446744073709551615 : Int)))
  case' true =>
    simp only [h1] at HM
    refine (HM _).mono ?_
    rintro e w4 ⟨rfl, hbw4⟩
    have Bw4 : Hid (Below w.heap.size w w4) := below_then (by repeat (first | (refine Below.setCell ?_ (by first | omega | (simp; done) | (simp; omega)) _) | (refine Below.alloc ?_ (by first | omega | (simp; done) | (simp; omega)) _) | (refine below_dn ?_ _) | exact Below.refl _ _ | exact Bw3.out)) hbw4
    clear hbw4 HM
    go_wp2_with fail
    go_ret
    exact ⟨ret_eq (congrArg Value.bool (by unfold ovF; rw [h0, h1]; simp)), Bw4.out⟩
  simp only [h1] at HM
  refine (HM _).mono ?_
  rintro e w4 ⟨rfl, hbw4⟩
  have Bw4 : Hid (Below w.heap.size w w4) := below_then (by repeat (first | (refine Below.setCell ?_ (by first | omega | (simp; done) | (simp; omega)) _) | (refine Below.alloc ?_ (by first | omega | (simp; done) | (simp; omega)) _) | (refine below_dn ?_ _) | exact Below.refl _ _ | exact Bw3.out)) hbw4
  have zw4 := hbw4.size
  simp at zw4
  have qw4 : w1.heap.size < w4.heap.size := by omega
  have qw4' : w1.heap.size < w4.heap.size + 1 := by omega
  have fw4_0 := hbw4.cell (p := ⟨w1.heap.size, 0, none⟩) (by first | (simp; done) | (simp; omega))
  simp (disch := first | (simp; done) | (simp; omega)) [go_sem, *] at fw4_0
  have fw4_1 := hbw4.cell (p := ⟨w1.heap.size, 1, none⟩) (by first | (simp; done) | (simp; omega))
  simp (disch := first | (simp; done) | (simp; omega)) [go_sem, *] at fw4_1
  clear hbw4 zw4 HM
  go_wp2_with fail
  rw [rounds_succ]
  go_wp2_with fail
  have HM := meets_any x (18446744073709551615 : Int) c lc
  cases h2 : (decide (x ≤ lc) && decide (c ≤ (18446744073709551615 : Int)))
  case' true =>
    simp only [h2] at HM
    refine (HM _).mono ?_
    rintro e w5 ⟨rfl, hbw5⟩
    have Bw5 : Hid (Below w.heap.size w w5) := below_then (by repeat (first | (refine Below.setCell ?_ (by first | omega | (simp; done) | (simp; omega)) _) | (refine Below.alloc ?_ (by first | omega | (simp; done) | (simp; omega)) _) | (refine below_dn ?_ _) | exact Below.refl _ _ | exact Bw4.out)) hbw5
    clear hbw5 HM
    go_wp2_with fail
    go_ret
    exact ⟨ret_eq (congrArg Value.bool (by unfold ovF; rw [h0, h1, h2]; simp)), Bw5.out⟩
  simp only [h2] at HM
  refine (HM _).mono ?_
  rintro e w5 ⟨rfl, hbw5⟩
  have Bw5 : Hid (Below w.heap.size w w5) := below_then (by repeat (first | (refine Below.setCell ?_ (by first | omega | (simp; done) | (simp; omega)) _) | (refine Below.alloc ?_ (by first | omega | (simp; done) | (simp; omega)) _) | (refine below_dn ?_ _) | exact Below.refl _ _ | exact Bw4.out)) hbw5
  have zw5 := hbw5.size
  simp at zw5
  have qw5 : w1.heap.size < w5.heap.size := by omega
  have qw5' : w1.heap.size < w5.heap.size + 1 := by omega
  clear hbw5 zw5 HM
  go_wp2_with fail
  rw [rounds_succ]
  go_wp2_with fail
  go_ret
  exact ⟨ret_eq (congrArg Value.bool (by unfold ovF; rw [h0, h1, h2]; rfl)), Bw5.out⟩

/-- Over's answer -/
def ovB (pk : Bool) (n d g c x m : Int) : Bool := okRg pk n d g c && (cmB x m d (pD pk n) || cmB x m g (pG pk n) || cmB x m c (pC pk n))
theorem ovB_no {pk : Bool} {n d g c x m : Int} (h : okRg pk n d g c = false) : false = ovB pk n d g c x m := by simp [ovB, h]
theorem ovB_zero (pk : Bool) (n d g c x : Int) : false = ovB pk n d g c x 0 := by simp [ovB, cmB]
theorem ok_parts {pk : Bool} {n d g c : Int} (h : okRg pk n d g c = true) : szB pk n = true ∧ okL d (pD pk n) g (pG pk n) c (pC pk n) (uG pk) = true := by
  simpa [okRg] using h
theorem okL_t {d D g G c C u : Int} (h : okL d D g G c C u = true) : (d % 16 = 0 ∧ d + D ≤ 18446744073709551616) ∧ (g % u = 0 ∧ g + G ≤ 18446744073709551616 ∧ (g + G ≤ d ∨ d + D ≤ g)) ∧ (c % 4 = 0 ∧ c + C ≤ 18446744073709551616 ∧ (c + C ≤ d ∨ d + D ≤ c) ∧ (c + C ≤ g ∨ g + G ≤ c)) := by
  unfold okL at h
  exact of_decide_eq_true h
theorem ovF_eq {d D g G c C u x m y : Int} (hx : U64 x) (hm : 1 ≤ m) (hD : 1 ≤ D) (hG : 1 ≤ G) (hC : 1 ≤ C) (hd : U64 d) (hg : U64 g) (hc : U64 c) (hl : okL d D g G c C u = true)
    (hy : y = x + m - 1 ∨ (y = 18446744073709551615 ∧ 18446744073709551616 < x + m)) :
    ovF d (lst d D) g (lst g G) c (lst c C) x y = (cmB x m d D || cmB x m g G || cmB x m c C) := by
  obtain ⟨⟨_, l1⟩, ⟨_, l2, _⟩, _, l3, _⟩ := okL_t hl
  have e1 : (decide (x ≤ lst d D) && decide (d ≤ y)) = cmB x m d D := by
    rw [lst_in hd hD l1, Bool.eq_iff_iff, cmB_iff hm hD]
    simp only [Bool.and_eq_true, decide_eq_true_eq]
    omega
  have e2 : (decide (x ≤ lst g G) && decide (g ≤ y)) = cmB x m g G := by
    rw [lst_in hg hG l2, Bool.eq_iff_iff, cmB_iff hm hG]
    simp only [Bool.and_eq_true, decide_eq_true_eq]
    omega
  have e3 : (decide (x ≤ lst c C) && decide (c ≤ y)) = cmB x m c C := by
    rw [lst_in hc hC l3, Bool.eq_iff_iff, cmB_iff hm hC]
    simp only [Bool.and_eq_true, decide_eq_true_eq]
    omega
  unfold ovF
  rw [e1, e2, e3]

theorem over_any (pk : Bool) (n d g c x m : Int) (w : World) (hd : U64 d) (hg : U64 g) (hc : U64 c) (hx : U64 x) (hm : U64 m) :
    Calls Try.prog 14 #[rV pk n d g c, .int .u64 x, .int .u64 m] w fun e w' => e = .returned (.bool (ovB pk n d g c x m)) ∧ Below w.heap.size w w' := by
  have HC := fun w => check_lay pk n d g c w hd hg hc
  by_cases hm0 : m = 0
  · subst hm0
    have HN := hid_mk (ovB_zero pk n d g c x)
    clear HC hd hg hc hx hm
    go_enter Try.func14, Try.ntmps14
    go_wp2
    go_ret
    exact ⟨ret_eq (congrArg Value.bool HN.out), by repeat (first | exact Below.refl _ _ | (refine Below.alloc ?_ (by first | omega | (simp; done) | (simp; omega)) _))⟩
  · cases hk : okRg pk n d g c
    · have HN := hid_mk (ovB_no (x := x) (m := m) hk)
      rw [show chkR pk n d g c = 2 from by simp [chkR, hk]] at HC
      have HC' := hid_mk HC
      clear HC hd hg hc hx hm hk
      go_enter Try.func14, Try.ntmps14
      go_wp2_with fail
      refine (HC'.out _).mono ?_
      rintro e w1 ⟨rfl, hb⟩
      have B1 := hid_mk (below_new (Below.refl _ _) hb)
      clear hb
      go_wp2_with fail
      go_ret
      exact ⟨ret_eq (congrArg Value.bool HN.out), B1.out⟩
    · obtain ⟨hs, hl⟩ := ok_parts hk
      obtain ⟨r1, r2, r3⟩ := part_rng hs
      have hm1 : 1 ≤ m := by omega
      rw [show chkR pk n d g c = 0 from by simp [chkR, hk]] at HC
      have e : ovB pk n d g c x m = (cmB x m d (pD pk n) || cmB x m g (pG pk n) || cmB x m c (pC pk n)) := by simp [ovB, hk]
      rw [e]
      by_cases hf : x + m ≤ 18446744073709551616
      · rw [← ovF_eq hx hm1 (by omega) (by omega) (by omega) hd hg hc hl (y := x + m - 1) (Or.inl rfl)]
        have hl1 := lst_in hx hm1 hf
        exact over_in pk n d _ g _ c _ x m _ w hm0 (decide_eq_false (by rw [show IntKind.u64.wrap (x + IntKind.u64.wrap (m - 1)) = x + m - 1 from hl1]; omega)) hl1 HC (spans_any pk n d g c)
      · rw [← ovF_eq hx hm1 (by omega) (by omega) (by omega) hd hg hc hl (y := 18446744073709551615) (Or.inr ⟨rfl, by omega⟩)]
        refine over_far pk n d _ g _ c _ x m _ w hm0 (decide_eq_true ?_) rfl HC (spans_any pk n d g c)
        rw [IntKind.wrap_u64, IntKind.wrap_u64]
        omega

set_option maxHeartbeats 2000000 in
theorem rover_any (pk : Bool) (n d g c x m : Int) (w : World) (hd : U64 d) (hg : U64 g) (hc : U64 c) (hx : U64 x) (hm : U64 m) :
    Calls Try.prog 19 #[rV pk n d g c, .int .u64 x, .int .u64 m] w fun e w' => e = .returned (.bool (ovB pk n d g c x m)) ∧ Below w.heap.size w w' := by
  have HC := fun w => rcheck_lay pk n d g c w hd hg hc
  cases hk : okRg pk n d g c
  · have HN := hid_mk (ovB_no (x := x) (m := m) hk)
    rw [show chkR pk n d g c = 2 from by simp [chkR, hk]] at HC
    have HC' := hid_mk HC
    clear HC hd hg hc hx hm hk
    go_enter Try.func19, Try.ntmps19
    go_wp2_with fail
    refine (HC'.out _).mono ?_
    rintro e w1 ⟨rfl, hb⟩
    have B1 := hid_mk (below_new (Below.refl _ _) hb)
    clear hb
    go_wp2_with fail
    go_ret
    exact ⟨ret_eq (congrArg Value.bool HN.out), B1.out⟩
  · obtain ⟨hs, hl⟩ := ok_parts hk
    obtain ⟨r1, r2, r3⟩ := part_rng hs
    rw [show chkR pk n d g c = 0 from by simp [chkR, hk]] at HC
    have HC' := hid_mk HC
    have e : ovB pk n d g c x m = (cmB x m d (pD pk n) || cmB x m g (pG pk n) || cmB x m c (pC pk n)) := by simp [ovB, hk]
    have HP := hid_mk (rparts_any pk n d g c)
    have K1 := fun w => common_any x m d (pD pk n) w hx hm hd ⟨by omega, by omega⟩
    have K2 := fun w => common_any x m g (pG pk n) w hx hm hg ⟨by omega, by omega⟩
    have K3 := fun w => common_any x m c (pC pk n) w hx hm hc ⟨by omega, by omega⟩
    rw [e]
    generalize pD pk n = D at *
    generalize pG pk n = G at *
    generalize pC pk n = C at *
    generalize cmB x m d D = z1 at *
    generalize cmB x m g G = z2 at *
    generalize cmB x m c C = z3 at *
    have K1' := hid_mk K1
    have K2' := hid_mk K2
    have K3' := hid_mk K3
    clear HC hd hg hc hx hm hk e r1 r2 r3 hs hl K1 K2 K3
    go_enter Try.func19, Try.ntmps19
    go_wp2_with fail
    refine (HC'.out _).mono ?_
    rintro e w1 ⟨rfl, hb⟩
    have B1 := hid_mk (below_new (Below.refl _ _) hb)
    have C1 := bcell hb
    have q1 : w.heap.size < w1.heap.size := by
      have := hb.size
      simp at this
      omega
    clear hb
    go_wp2_with fail
    refine (HP.out _).mono ?_
    rintro e w2 ⟨rfl, hb⟩
    have B2 := hid_mk (below_then B1.out hb)
    have C2 := bcell hb
    have q2 : w.heap.size < w2.heap.size := by
      have := hb.size
      omega
    clear hb
    go_wp2_with fail
    refine (K1'.out _).mono ?_
    rintro e w' ⟨rfl, rfl⟩
    cases z1
    · go_wp2_with fail
      refine (K2'.out _).mono ?_
      rintro e w' ⟨rfl, rfl⟩
      cases z2
      · go_wp2_with fail
        refine (K3'.out _).mono ?_
        rintro e w' ⟨rfl, rfl⟩
        go_wp2_with fail
        go_ret
        exact ⟨rfl, B2.out⟩
      · go_wp2_with fail
        go_ret
        exact ⟨rfl, B2.out⟩
    · go_wp2_with fail
      go_ret
      exact ⟨rfl, B2.out⟩

end Go.Proofs.Ytolflhnkdnjckaa
