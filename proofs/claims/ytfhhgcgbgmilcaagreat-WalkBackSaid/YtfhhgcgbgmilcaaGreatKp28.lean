/- Lay4 Wk7 Wk8: joined texts. Conditions: as each theorem names them. -/
import Derived.Test.YtfhhgcgbgmilcaaGreatKp14
import Derived.Test.YtfhhgcgbgmilcaaGreatKp27
/- Contract of the reference's Check of layer 4. Conditions: as each theorem names them. Written by mklay4.py. -/
namespace Go.Proofs.YtfhhgcgbgmilcaaGreat
open Go.ChangeShapes Go.WideShapes Go.ChangeAt Go.RowKit
set_option linter.unusedVariables false
set_option maxRecDepth 100000

def rchkF (d D g G c C u : Int) : Int :=
  if (d.tmod 16 != 0) = true then 2 else
  if decide (IntKind.u64.wrap (d + IntKind.u64.wrap (D - 1)) < d) = true then 2 else
  if (g.tmod u != 0) = true then 2 else
  if decide (IntKind.u64.wrap (g + IntKind.u64.wrap (G - 1)) < g) = true then 2 else
  if cmB g G d D = true then 2 else
  if (c.tmod 4 != 0) = true then 2 else
  if decide (IntKind.u64.wrap (c + IntKind.u64.wrap (C - 1)) < c) = true then 2 else
  if cmB c C d D = true then 2 else
  if cmB c C g G = true then 2 else
  0
theorem rchkF_0 {d D g G c C u : Int}  (h0 : (d.tmod 16 != 0) = true) : rchkF d D g G c C u = 2 := by
  unfold rchkF
  rw [h0]
  rfl
theorem rchkF_1 {d D g G c C u : Int} (h0 : (d.tmod 16 != 0) = false) (h1 : decide (IntKind.u64.wrap (d + IntKind.u64.wrap (D - 1)) < d) = true) : rchkF d D g G c C u = 2 := by
  unfold rchkF
  rw [h0, h1]
  rfl
theorem rchkF_2 {d D g G c C u : Int} (h0 : (d.tmod 16 != 0) = false) (h1 : decide (IntKind.u64.wrap (d + IntKind.u64.wrap (D - 1)) < d) = false) (h2 : (g.tmod u != 0) = true) : rchkF d D g G c C u = 2 := by
  unfold rchkF
  rw [h0, h1, h2]
  rfl
theorem rchkF_3 {d D g G c C u : Int} (h0 : (d.tmod 16 != 0) = false) (h1 : decide (IntKind.u64.wrap (d + IntKind.u64.wrap (D - 1)) < d) = false) (h2 : (g.tmod u != 0) = false) (h3 : decide (IntKind.u64.wrap (g + IntKind.u64.wrap (G - 1)) < g) = true) : rchkF d D g G c C u = 2 := by
  unfold rchkF
  rw [h0, h1, h2, h3]
  rfl
theorem rchkF_4 {d D g G c C u : Int} (h0 : (d.tmod 16 != 0) = false) (h1 : decide (IntKind.u64.wrap (d + IntKind.u64.wrap (D - 1)) < d) = false) (h2 : (g.tmod u != 0) = false) (h3 : decide (IntKind.u64.wrap (g + IntKind.u64.wrap (G - 1)) < g) = false) (h4 : cmB g G d D = true) : rchkF d D g G c C u = 2 := by
  unfold rchkF
  rw [h0, h1, h2, h3, h4]
  rfl
theorem rchkF_5 {d D g G c C u : Int} (h0 : (d.tmod 16 != 0) = false) (h1 : decide (IntKind.u64.wrap (d + IntKind.u64.wrap (D - 1)) < d) = false) (h2 : (g.tmod u != 0) = false) (h3 : decide (IntKind.u64.wrap (g + IntKind.u64.wrap (G - 1)) < g) = false) (h4 : cmB g G d D = false) (h5 : (c.tmod 4 != 0) = true) : rchkF d D g G c C u = 2 := by
  unfold rchkF
  rw [h0, h1, h2, h3, h4, h5]
  rfl
theorem rchkF_6 {d D g G c C u : Int} (h0 : (d.tmod 16 != 0) = false) (h1 : decide (IntKind.u64.wrap (d + IntKind.u64.wrap (D - 1)) < d) = false) (h2 : (g.tmod u != 0) = false) (h3 : decide (IntKind.u64.wrap (g + IntKind.u64.wrap (G - 1)) < g) = false) (h4 : cmB g G d D = false) (h5 : (c.tmod 4 != 0) = false) (h6 : decide (IntKind.u64.wrap (c + IntKind.u64.wrap (C - 1)) < c) = true) : rchkF d D g G c C u = 2 := by
  unfold rchkF
  rw [h0, h1, h2, h3, h4, h5, h6]
  rfl
theorem rchkF_7 {d D g G c C u : Int} (h0 : (d.tmod 16 != 0) = false) (h1 : decide (IntKind.u64.wrap (d + IntKind.u64.wrap (D - 1)) < d) = false) (h2 : (g.tmod u != 0) = false) (h3 : decide (IntKind.u64.wrap (g + IntKind.u64.wrap (G - 1)) < g) = false) (h4 : cmB g G d D = false) (h5 : (c.tmod 4 != 0) = false) (h6 : decide (IntKind.u64.wrap (c + IntKind.u64.wrap (C - 1)) < c) = false) (h7 : cmB c C d D = true) : rchkF d D g G c C u = 2 := by
  unfold rchkF
  rw [h0, h1, h2, h3, h4, h5, h6, h7]
  rfl
theorem rchkF_8 {d D g G c C u : Int} (h0 : (d.tmod 16 != 0) = false) (h1 : decide (IntKind.u64.wrap (d + IntKind.u64.wrap (D - 1)) < d) = false) (h2 : (g.tmod u != 0) = false) (h3 : decide (IntKind.u64.wrap (g + IntKind.u64.wrap (G - 1)) < g) = false) (h4 : cmB g G d D = false) (h5 : (c.tmod 4 != 0) = false) (h6 : decide (IntKind.u64.wrap (c + IntKind.u64.wrap (C - 1)) < c) = false) (h7 : cmB c C d D = false) (h8 : cmB c C g G = true) : rchkF d D g G c C u = 2 := by
  unfold rchkF
  rw [h0, h1, h2, h3, h4, h5, h6, h7, h8]
  rfl
theorem rchkF_9 {d D g G c C u : Int} (h0 : (d.tmod 16 != 0) = false) (h1 : decide (IntKind.u64.wrap (d + IntKind.u64.wrap (D - 1)) < d) = false) (h2 : (g.tmod u != 0) = false) (h3 : decide (IntKind.u64.wrap (g + IntKind.u64.wrap (G - 1)) < g) = false) (h4 : cmB g G d D = false) (h5 : (c.tmod 4 != 0) = false) (h6 : decide (IntKind.u64.wrap (c + IntKind.u64.wrap (C - 1)) < c) = false) (h7 : cmB c C d D = false) (h8 : cmB c C g G = false) : rchkF d D g G c C u = 0 := by
  unfold rchkF
  rw [h0, h1, h2, h3, h4, h5, h6, h7, h8]
  rfl

set_option maxHeartbeats 4000000 in
theorem rcheck_core_false (n d D g G c C : Int) (w : World) (hD0 : ¬ D = 0) (hd : U64 d) (hD : U64 D) (hg : U64 g) (hG : U64 G) (hc : U64 c) (hC : U64 C)
    (HP : ∀ w, Calls Tryz.prog 49 #[rV false n d g c] w fun e w' => e = .returned (.tuple #[.int .u64 D, .int .u64 G, .int .u64 C]) ∧ Below w.heap.size w w') :
    Calls Tryz.prog 51 #[rV false n d g c] w fun e w' => e = .returned (.int .i64 (rchkF d D g G c C 2)) ∧ Below w.heap.size w w' := by
  have HP' := hid_mk HP
  have M4 := hid_mk (fun w => (common_any g G d D w hg hG hd hD).mono (R' := fun e w' => e = .returned (.bool (cmB g G d D)) ∧ w' = w) fun e w' ⟨he, hw⟩ => ⟨he, hw.symm⟩)
  have M7 := hid_mk (fun w => (common_any c C d D w hc hC hd hD).mono (R' := fun e w' => e = .returned (.bool (cmB c C d D)) ∧ w' = w) fun e w' ⟨he, hw⟩ => ⟨he, hw.symm⟩)
  have M8 := hid_mk (fun w => (common_any c C g G w hc hC hg hG).mono (R' := fun e w' => e = .returned (.bool (cmB c C g G)) ∧ w' = w) fun e w' ⟨he, hw⟩ => ⟨he, hw.symm⟩)
  clear HP hd hD hg hG hc hC
  go_enter Tryz.func51, Tryz.ntmps51
  go_wp2_with fail
  refine (HP'.out _).mono ?_
  rintro e w1 ⟨rfl, hb⟩
  have B1 := hid_mk (below_new (Below.refl _ _) hb)
  have C1 := bcell hb
  have q1 : w.heap.size < w1.heap.size := by
    have := hb.size
    simp at this
    omega
  have q1' : w.heap.size < w1.heap.size + 1 := by omega
  have q1'' : w.heap.size < w1.heap.size + 1 + 1 := by omega
  have q1t : w.heap.size < w1.heap.size + 1 + 1 + 1 := by omega
  clear hb
  go_wp2_with fail
  refine wp_loop_rounds 4 ?_
  rw [rounds_succ]
  go_wp2_with fail
  cases h0 : (d.tmod 16 != 0)
  case' true =>
    go_quiet (fail)
    go_wp2_with fail
    go_ret
    exact ⟨ret_eq (by rw [rchkF_0 h0]; rfl), (by repeat (first | (refine Below.setCell ?_ (by first | omega | (simp; done) | (simp; omega)) _) | (refine Below.alloc ?_ (by first | omega | (simp; done) | (simp; omega)) _) | (refine below_dn ?_ _) | exact Below.refl _ _ | exact B1.out))⟩
  cases h1 : decide (IntKind.u64.wrap (d + IntKind.u64.wrap (D - 1)) < d)
  case' true =>
    go_quiet (fail)
    go_wp2_with fail
    go_ret
    exact ⟨ret_eq (by rw [rchkF_1 h0 h1]; rfl), (by repeat (first | (refine Below.setCell ?_ (by first | omega | (simp; done) | (simp; omega)) _) | (refine Below.alloc ?_ (by first | omega | (simp; done) | (simp; omega)) _) | (refine below_dn ?_ _) | exact Below.refl _ _ | exact B1.out))⟩
  go_quiet (fail)
  go_wp2_with fail
  refine wp_loop_rounds 1 ?_
  rw [rounds_succ]
  go_wp2_with fail
  rw [rounds_succ]
  go_wp2_with fail
  cases h2 : (g.tmod 2 != 0)
  case' true =>
    go_quiet (fail)
    go_wp2_with fail
    go_ret
    exact ⟨ret_eq (by rw [rchkF_2 h0 h1 h2]; rfl), (by repeat (first | (refine Below.setCell ?_ (by first | omega | (simp; done) | (simp; omega)) _) | (refine Below.alloc ?_ (by first | omega | (simp; done) | (simp; omega)) _) | (refine below_dn ?_ _) | exact Below.refl _ _ | exact B1.out))⟩
  cases h3 : decide (IntKind.u64.wrap (g + IntKind.u64.wrap (G - 1)) < g)
  case' true =>
    go_quiet (fail)
    go_wp2_with fail
    go_ret
    exact ⟨ret_eq (by rw [rchkF_3 h0 h1 h2 h3]; rfl), (by repeat (first | (refine Below.setCell ?_ (by first | omega | (simp; done) | (simp; omega)) _) | (refine Below.alloc ?_ (by first | omega | (simp; done) | (simp; omega)) _) | (refine below_dn ?_ _) | exact Below.refl _ _ | exact B1.out))⟩
  go_quiet (fail)
  go_wp2_with fail
  refine wp_loop_rounds 2 ?_
  rw [rounds_succ]
  go_wp2_with fail
  have HM := M4.out
  cases h4 : cmB g G d D
  case' true =>
    simp only [h4] at HM
    have HM' := hid_mk HM
    clear HM
    go_quiet (first | (go_at_call 85; refine (HM'.out _).mono ?_; rintro e w'' ⟨rfl, rfl⟩; exact ⟨rfl, _, rfl⟩))
    clear HM'
    go_wp2_with fail
    go_ret
    exact ⟨ret_eq (by rw [rchkF_4 h0 h1 h2 h3 h4]; rfl), (by repeat (first | (refine Below.setCell ?_ (by first | omega | (simp; done) | (simp; omega)) _) | (refine Below.alloc ?_ (by first | omega | (simp; done) | (simp; omega)) _) | (refine below_dn ?_ _) | exact Below.refl _ _ | exact B1.out))⟩
  simp only [h4] at HM
  have HM' := hid_mk HM
  clear HM
  go_quiet (first | (go_at_call 85; refine (HM'.out _).mono ?_; rintro e w'' ⟨rfl, rfl⟩; exact ⟨rfl, _, rfl⟩))
  clear HM'
  go_wp2_with fail
  rw [rounds_succ]
  go_wp2_with fail
  rw [rounds_succ]
  go_wp2_with fail
  cases h5 : (c.tmod 4 != 0)
  case' true =>
    go_quiet (fail)
    go_wp2_with fail
    go_ret
    exact ⟨ret_eq (by rw [rchkF_5 h0 h1 h2 h3 h4 h5]; rfl), (by repeat (first | (refine Below.setCell ?_ (by first | omega | (simp; done) | (simp; omega)) _) | (refine Below.alloc ?_ (by first | omega | (simp; done) | (simp; omega)) _) | (refine below_dn ?_ _) | exact Below.refl _ _ | exact B1.out))⟩
  cases h6 : decide (IntKind.u64.wrap (c + IntKind.u64.wrap (C - 1)) < c)
  case' true =>
    go_quiet (fail)
    go_wp2_with fail
    go_ret
    exact ⟨ret_eq (by rw [rchkF_6 h0 h1 h2 h3 h4 h5 h6]; rfl), (by repeat (first | (refine Below.setCell ?_ (by first | omega | (simp; done) | (simp; omega)) _) | (refine Below.alloc ?_ (by first | omega | (simp; done) | (simp; omega)) _) | (refine below_dn ?_ _) | exact Below.refl _ _ | exact B1.out))⟩
  go_quiet (fail)
  go_wp2_with fail
  refine wp_loop_rounds 3 ?_
  rw [rounds_succ]
  go_wp2_with fail
  have HM := M7.out
  cases h7 : cmB c C d D
  case' true =>
    simp only [h7] at HM
    have HM' := hid_mk HM
    clear HM
    go_quiet (first | (go_at_call 85; refine (HM'.out _).mono ?_; rintro e w'' ⟨rfl, rfl⟩; exact ⟨rfl, _, rfl⟩))
    clear HM'
    go_wp2_with fail
    go_ret
    exact ⟨ret_eq (by rw [rchkF_7 h0 h1 h2 h3 h4 h5 h6 h7]; rfl), (by repeat (first | (refine Below.setCell ?_ (by first | omega | (simp; done) | (simp; omega)) _) | (refine Below.alloc ?_ (by first | omega | (simp; done) | (simp; omega)) _) | (refine below_dn ?_ _) | exact Below.refl _ _ | exact B1.out))⟩
  simp only [h7] at HM
  have HM' := hid_mk HM
  clear HM
  go_quiet (first | (go_at_call 85; refine (HM'.out _).mono ?_; rintro e w'' ⟨rfl, rfl⟩; exact ⟨rfl, _, rfl⟩))
  clear HM'
  go_wp2_with fail
  rw [rounds_succ]
  go_wp2_with fail
  have HM := M8.out
  cases h8 : cmB c C g G
  case' true =>
    simp only [h8] at HM
    have HM' := hid_mk HM
    clear HM
    go_quiet (first | (go_at_call 85; refine (HM'.out _).mono ?_; rintro e w'' ⟨rfl, rfl⟩; exact ⟨rfl, _, rfl⟩))
    clear HM'
    go_wp2_with fail
    go_ret
    exact ⟨ret_eq (by rw [rchkF_8 h0 h1 h2 h3 h4 h5 h6 h7 h8]; rfl), (by repeat (first | (refine Below.setCell ?_ (by first | omega | (simp; done) | (simp; omega)) _) | (refine Below.alloc ?_ (by first | omega | (simp; done) | (simp; omega)) _) | (refine below_dn ?_ _) | exact Below.refl _ _ | exact B1.out))⟩
  simp only [h8] at HM
  have HM' := hid_mk HM
  clear HM
  go_quiet (first | (go_at_call 85; refine (HM'.out _).mono ?_; rintro e w'' ⟨rfl, rfl⟩; exact ⟨rfl, _, rfl⟩))
  clear HM'
  go_wp2_with fail
  rw [rounds_succ]
  go_wp2_with fail
  rw [rounds_succ]
  go_wp2_with fail
  go_ret
  exact ⟨ret_eq (by rw [rchkF_9 h0 h1 h2 h3 h4 h5 h6 h7 h8]; rfl), (by repeat (first | (refine Below.setCell ?_ (by first | omega | (simp; done) | (simp; omega)) _) | (refine Below.alloc ?_ (by first | omega | (simp; done) | (simp; omega)) _) | (refine below_dn ?_ _) | exact Below.refl _ _ | exact B1.out))⟩

set_option maxHeartbeats 4000000 in
theorem rcheck_core_true (n d D g G c C : Int) (w : World) (hD0 : ¬ D = 0) (hd : U64 d) (hD : U64 D) (hg : U64 g) (hG : U64 G) (hc : U64 c) (hC : U64 C)
    (HP : ∀ w, Calls Tryz.prog 49 #[rV true n d g c] w fun e w' => e = .returned (.tuple #[.int .u64 D, .int .u64 G, .int .u64 C]) ∧ Below w.heap.size w w') :
    Calls Tryz.prog 51 #[rV true n d g c] w fun e w' => e = .returned (.int .i64 (rchkF d D g G c C 4)) ∧ Below w.heap.size w w' := by
  have HP' := hid_mk HP
  have M4 := hid_mk (fun w => (common_any g G d D w hg hG hd hD).mono (R' := fun e w' => e = .returned (.bool (cmB g G d D)) ∧ w' = w) fun e w' ⟨he, hw⟩ => ⟨he, hw.symm⟩)
  have M7 := hid_mk (fun w => (common_any c C d D w hc hC hd hD).mono (R' := fun e w' => e = .returned (.bool (cmB c C d D)) ∧ w' = w) fun e w' ⟨he, hw⟩ => ⟨he, hw.symm⟩)
  have M8 := hid_mk (fun w => (common_any c C g G w hc hC hg hG).mono (R' := fun e w' => e = .returned (.bool (cmB c C g G)) ∧ w' = w) fun e w' ⟨he, hw⟩ => ⟨he, hw.symm⟩)
  clear HP hd hD hg hG hc hC
  go_enter Tryz.func51, Tryz.ntmps51
  go_wp2_with fail
  refine (HP'.out _).mono ?_
  rintro e w1 ⟨rfl, hb⟩
  have B1 := hid_mk (below_new (Below.refl _ _) hb)
  have C1 := bcell hb
  have q1 : w.heap.size < w1.heap.size := by
    have := hb.size
    simp at this
    omega
  have q1' : w.heap.size < w1.heap.size + 1 := by omega
  have q1'' : w.heap.size < w1.heap.size + 1 + 1 := by omega
  have q1t : w.heap.size < w1.heap.size + 1 + 1 + 1 := by omega
  clear hb
  go_wp2_with fail
  refine wp_loop_rounds 4 ?_
  rw [rounds_succ]
  go_wp2_with fail
  cases h0 : (d.tmod 16 != 0)
  case' true =>
    go_quiet (fail)
    go_wp2_with fail
    go_ret
    exact ⟨ret_eq (by rw [rchkF_0 h0]; rfl), (by repeat (first | (refine Below.setCell ?_ (by first | omega | (simp; done) | (simp; omega)) _) | (refine Below.alloc ?_ (by first | omega | (simp; done) | (simp; omega)) _) | (refine below_dn ?_ _) | exact Below.refl _ _ | exact B1.out))⟩
  cases h1 : decide (IntKind.u64.wrap (d + IntKind.u64.wrap (D - 1)) < d)
  case' true =>
    go_quiet (fail)
    go_wp2_with fail
    go_ret
    exact ⟨ret_eq (by rw [rchkF_1 h0 h1]; rfl), (by repeat (first | (refine Below.setCell ?_ (by first | omega | (simp; done) | (simp; omega)) _) | (refine Below.alloc ?_ (by first | omega | (simp; done) | (simp; omega)) _) | (refine below_dn ?_ _) | exact Below.refl _ _ | exact B1.out))⟩
  go_quiet (fail)
  go_wp2_with fail
  refine wp_loop_rounds 1 ?_
  rw [rounds_succ]
  go_wp2_with fail
  rw [rounds_succ]
  go_wp2_with fail
  cases h2 : (g.tmod 4 != 0)
  case' true =>
    go_quiet (fail)
    go_wp2_with fail
    go_ret
    exact ⟨ret_eq (by rw [rchkF_2 h0 h1 h2]; rfl), (by repeat (first | (refine Below.setCell ?_ (by first | omega | (simp; done) | (simp; omega)) _) | (refine Below.alloc ?_ (by first | omega | (simp; done) | (simp; omega)) _) | (refine below_dn ?_ _) | exact Below.refl _ _ | exact B1.out))⟩
  cases h3 : decide (IntKind.u64.wrap (g + IntKind.u64.wrap (G - 1)) < g)
  case' true =>
    go_quiet (fail)
    go_wp2_with fail
    go_ret
    exact ⟨ret_eq (by rw [rchkF_3 h0 h1 h2 h3]; rfl), (by repeat (first | (refine Below.setCell ?_ (by first | omega | (simp; done) | (simp; omega)) _) | (refine Below.alloc ?_ (by first | omega | (simp; done) | (simp; omega)) _) | (refine below_dn ?_ _) | exact Below.refl _ _ | exact B1.out))⟩
  go_quiet (fail)
  go_wp2_with fail
  refine wp_loop_rounds 2 ?_
  rw [rounds_succ]
  go_wp2_with fail
  have HM := M4.out
  cases h4 : cmB g G d D
  case' true =>
    simp only [h4] at HM
    have HM' := hid_mk HM
    clear HM
    go_quiet (first | (go_at_call 85; refine (HM'.out _).mono ?_; rintro e w'' ⟨rfl, rfl⟩; exact ⟨rfl, _, rfl⟩))
    clear HM'
    go_wp2_with fail
    go_ret
    exact ⟨ret_eq (by rw [rchkF_4 h0 h1 h2 h3 h4]; rfl), (by repeat (first | (refine Below.setCell ?_ (by first | omega | (simp; done) | (simp; omega)) _) | (refine Below.alloc ?_ (by first | omega | (simp; done) | (simp; omega)) _) | (refine below_dn ?_ _) | exact Below.refl _ _ | exact B1.out))⟩
  simp only [h4] at HM
  have HM' := hid_mk HM
  clear HM
  go_quiet (first | (go_at_call 85; refine (HM'.out _).mono ?_; rintro e w'' ⟨rfl, rfl⟩; exact ⟨rfl, _, rfl⟩))
  clear HM'
  go_wp2_with fail
  rw [rounds_succ]
  go_wp2_with fail
  rw [rounds_succ]
  go_wp2_with fail
  cases h5 : (c.tmod 4 != 0)
  case' true =>
    go_quiet (fail)
    go_wp2_with fail
    go_ret
    exact ⟨ret_eq (by rw [rchkF_5 h0 h1 h2 h3 h4 h5]; rfl), (by repeat (first | (refine Below.setCell ?_ (by first | omega | (simp; done) | (simp; omega)) _) | (refine Below.alloc ?_ (by first | omega | (simp; done) | (simp; omega)) _) | (refine below_dn ?_ _) | exact Below.refl _ _ | exact B1.out))⟩
  cases h6 : decide (IntKind.u64.wrap (c + IntKind.u64.wrap (C - 1)) < c)
  case' true =>
    go_quiet (fail)
    go_wp2_with fail
    go_ret
    exact ⟨ret_eq (by rw [rchkF_6 h0 h1 h2 h3 h4 h5 h6]; rfl), (by repeat (first | (refine Below.setCell ?_ (by first | omega | (simp; done) | (simp; omega)) _) | (refine Below.alloc ?_ (by first | omega | (simp; done) | (simp; omega)) _) | (refine below_dn ?_ _) | exact Below.refl _ _ | exact B1.out))⟩
  go_quiet (fail)
  go_wp2_with fail
  refine wp_loop_rounds 3 ?_
  rw [rounds_succ]
  go_wp2_with fail
  have HM := M7.out
  cases h7 : cmB c C d D
  case' true =>
    simp only [h7] at HM
    have HM' := hid_mk HM
    clear HM
    go_quiet (first | (go_at_call 85; refine (HM'.out _).mono ?_; rintro e w'' ⟨rfl, rfl⟩; exact ⟨rfl, _, rfl⟩))
    clear HM'
    go_wp2_with fail
    go_ret
    exact ⟨ret_eq (by rw [rchkF_7 h0 h1 h2 h3 h4 h5 h6 h7]; rfl), (by repeat (first | (refine Below.setCell ?_ (by first | omega | (simp; done) | (simp; omega)) _) | (refine Below.alloc ?_ (by first | omega | (simp; done) | (simp; omega)) _) | (refine below_dn ?_ _) | exact Below.refl _ _ | exact B1.out))⟩
  simp only [h7] at HM
  have HM' := hid_mk HM
  clear HM
  go_quiet (first | (go_at_call 85; refine (HM'.out _).mono ?_; rintro e w'' ⟨rfl, rfl⟩; exact ⟨rfl, _, rfl⟩))
  clear HM'
  go_wp2_with fail
  rw [rounds_succ]
  go_wp2_with fail
  have HM := M8.out
  cases h8 : cmB c C g G
  case' true =>
    simp only [h8] at HM
    have HM' := hid_mk HM
    clear HM
    go_quiet (first | (go_at_call 85; refine (HM'.out _).mono ?_; rintro e w'' ⟨rfl, rfl⟩; exact ⟨rfl, _, rfl⟩))
    clear HM'
    go_wp2_with fail
    go_ret
    exact ⟨ret_eq (by rw [rchkF_8 h0 h1 h2 h3 h4 h5 h6 h7 h8]; rfl), (by repeat (first | (refine Below.setCell ?_ (by first | omega | (simp; done) | (simp; omega)) _) | (refine Below.alloc ?_ (by first | omega | (simp; done) | (simp; omega)) _) | (refine below_dn ?_ _) | exact Below.refl _ _ | exact B1.out))⟩
  simp only [h8] at HM
  have HM' := hid_mk HM
  clear HM
  go_quiet (first | (go_at_call 85; refine (HM'.out _).mono ?_; rintro e w'' ⟨rfl, rfl⟩; exact ⟨rfl, _, rfl⟩))
  clear HM'
  go_wp2_with fail
  rw [rounds_succ]
  go_wp2_with fail
  rw [rounds_succ]
  go_wp2_with fail
  go_ret
  exact ⟨ret_eq (by rw [rchkF_9 h0 h1 h2 h3 h4 h5 h6 h7 h8]; rfl), (by repeat (first | (refine Below.setCell ?_ (by first | omega | (simp; done) | (simp; omega)) _) | (refine Below.alloc ?_ (by first | omega | (simp; done) | (simp; omega)) _) | (refine below_dn ?_ _) | exact Below.refl _ _ | exact B1.out))⟩

theorem cmB_iff {a n b m : Int} (hn : 1 ≤ n) (hm : 1 ≤ m) : cmB a n b m = true ↔ ¬ (a + n ≤ b ∨ b + m ≤ a) := by
  unfold cmB
  simp only [decide_eq_true_eq]
  omega
theorem cmB_no {a n b m : Int} (hn : 1 ≤ n) (hm : 1 ≤ m) (h : a + n ≤ b ∨ b + m ≤ a) : cmB a n b m = false := by
  cases hc : cmB a n b m
  · rfl
  · exact absurd h ((cmB_iff hn hm).1 hc)

theorem rchkF_eq {d D g G c C u : Int} (hd : U64 d) (hg : U64 g) (hc : U64 c) (hu : u = 2 ∨ u = 4) (hD : 1 ≤ D ∧ D ≤ 1048576) (hG : 1 ≤ G ∧ G ≤ 1048576) (hC : 1 ≤ C ∧ C ≤ 1048576) :
    rchkF d D g G c C u = if okL d D g G c C u = true then 0 else 2 := by
  rw [← chkF_eq hd hg hc hu hD hG hC]
  unfold rchkF chkF
  by_cases h1 : d + D ≤ 18446744073709551616
  · have ld := lst_in hd hD.1 h1
    by_cases h3 : g + G ≤ 18446744073709551616
    · have lg := lst_in hg hG.1 h3
      have e4 : (decide (g ≤ lst d D) && decide (d ≤ lst g G)) = cmB g G d D := by
        rw [ld, lg, Bool.eq_iff_iff, cmB_iff hG.1 hD.1]
        simp only [Bool.and_eq_true, decide_eq_true_eq]
        omega
      by_cases h6 : c + C ≤ 18446744073709551616
      · have lc := lst_in hc hC.1 h6
        have e7 : (decide (c ≤ lst d D) && decide (d ≤ lst c C)) = cmB c C d D := by
          rw [ld, lc, Bool.eq_iff_iff, cmB_iff hC.1 hD.1]
          simp only [Bool.and_eq_true, decide_eq_true_eq]
          omega
        have e8 : (decide (c ≤ lst g G) && decide (g ≤ lst c C)) = cmB c C g G := by
          rw [lg, lc, Bool.eq_iff_iff, cmB_iff hC.1 hG.1]
          simp only [Bool.and_eq_true, decide_eq_true_eq]
          omega
        rw [e4, e7, e8]
      · have lc : decide (lst c C < c) = true := decide_eq_true (lst_over hc hC.1 hC.2 (by omega))
        rw [e4, lc]
        simp only [if_true]
    · have lg : decide (lst g G < g) = true := decide_eq_true (lst_over hg hG.1 hG.2 (by omega))
      rw [lg]
      simp only [if_true]
  · have ld : decide (lst d D < d) = true := decide_eq_true (lst_over hd hD.1 hD.2 (by omega))
    rw [ld]
    simp only [if_true]

theorem rcheck_lay (pk : Bool) (n d g c : Int) (w : World) (hd : U64 d) (hg : U64 g) (hc : U64 c) :
    Calls Tryz.prog 51 #[rV pk n d g c] w fun e w' => e = .returned (.int .i64 (chkR pk n d g c)) ∧ Below w.heap.size w w' := by
  cases h : szB pk n
  · have e : chkR pk n d g c = 2 := by simp [chkR, okRg, h]
    rw [e]
    have HP := rparts_any pk n d g c
    rw [show pD pk n = 0 from by simp [pD, h]] at HP
    have HP' := hid_mk HP
    clear HP hd hg hc h e
    go_enter Tryz.func51, Tryz.ntmps51
    go_wp2_with fail
    refine (HP'.out _).mono ?_
    rintro e w1 ⟨rfl, hb⟩
    have B1 := hid_mk (below_new (Below.refl _ _) hb)
    clear hb
    go_wp2_with fail
    go_ret
    exact ⟨rfl, B1.out⟩
  · obtain ⟨r1, r2, r3⟩ := part_rng h
    have e : chkR pk n d g c = if okL d (pD pk n) g (pG pk n) c (pC pk n) (uG pk) = true then 0 else 2 := by simp [chkR, okRg, h]
    rw [e, ← rchkF_eq hd hg hc (uG_is pk) (by omega) (by omega) (by omega)]
    cases pk
    · exact rcheck_core_false n d (pD false n) g (pG false n) c (pC false n) w (by omega) hd ⟨by omega, by omega⟩ hg ⟨by omega, by omega⟩ hc ⟨by omega, by omega⟩ (rparts_any false n d g c)
    · exact rcheck_core_true n d (pD true n) g (pG true n) c (pC true n) w (by omega) hd ⟨by omega, by omega⟩ hg ⟨by omega, by omega⟩ hc ⟨by omega, by omega⟩ (rparts_any true n d g c)

end Go.Proofs.YtfhhgcgbgmilcaaGreat

/- The reference of layer 10: table, refuse, Split, Reads. Conditions: as each theorem names them. -/
namespace Go.Proofs.YtfhhgcgbgmilcaaGreat
open Go.ChangeShapes Go.WideShapes Go.ChangeAt Go.RowKit
set_option linter.unusedVariables false
set_option maxRecDepth 100000

theorem loc_top {R : List (Int × Int)} {a n : Int} (hok : okR (-1) 1048576 R = true) (h : (loc R a n).isSome = true) : 0 ≤ a ∧ a + n ≤ 18446744073709551616 := by
  cases e : loc R a n with
  | none => rw [e] at h; cases h
  | some k =>
    obtain ⟨i, hi, h1, h2, h3, h4⟩ := loc_some e
    have := okR_at hok i hi
    omega
/-! ### refuse -/
theorem rg_ok {pk : Bool} {n d g c : Int} (h : wrfE pk pk n d g c = 0) : 1 ≤ n ∧ n ≤ 32768 ∧ d + 16 * n ≤ 18446744073709551616 := by
  unfold wrfE chkR okRg at h
  cases hs : szB pk n
  · rw [hs, Bool.false_and] at h
    simp at h
  · cases ho : okL d (pD pk n) g (pG pk n) c (pC pk n) (uG pk)
    · rw [hs, ho] at h
      simp at h
    · have := szB_rng hs
      unfold okL at ho
      simp only [decide_eq_true_eq] at ho
      have h2 : pD pk n = 16 * n := by simp [pD, hs]
      rw [h2] at ho
      omega
end Go.Proofs.YtfhhgcgbgmilcaaGreat

/- What a walk reads: plain facts; the reference's Split, Reads. Conditions: as each theorem names them. -/
namespace Go.Proofs.YtfhhgcgbgmilcaaGreat
open Go.ChangeShapes Go.WideShapes Go.ChangeAt Go.RowKit
set_option linter.unusedVariables false
set_option maxRecDepth 100000

theorem wstop_S (e : Int) (x : Wst) : (wstop e x).S = x.S ∧ (wstop e x).n = x.n := by
  unfold wstop
  by_cases h : x.e = 0
  · rw [if_pos h]
    exact ⟨rfl, rfl⟩
  · rw [if_neg h]
    exact ⟨rfl, rfl⟩
/-- what stays of a reader, whatever a chain does: its segments are segments, their number grows by so many -/
structure Grw (x y : Wst) (m : Nat) : Prop where
  sg : isSgs x.S → isSgs y.S
  len : x.S.length ≤ y.S.length ∧ y.S.length ≤ x.S.length + m
  n : x.n ≤ y.n ∧ y.n ≤ x.n + m
theorem Grw.refl (x : Wst) (m : Nat) : Grw x x m := ⟨fun h => h, by omega, by omega⟩
theorem Grw.stop (e : Int) (x : Wst) (m : Nat) : Grw x (wstop e x) m := by
  obtain ⟨h1, h2⟩ := wstop_S e x
  exact ⟨fun h => by rw [h1]; exact h, by rw [h1]; omega, by rw [h2]; omega⟩
theorem Grw.mono {x y : Wst} {m k : Nat} (h : Grw x y m) (hk : m ≤ k) : Grw x y k := ⟨h.sg, by have := h.len; omega, by have := h.n; omega⟩
theorem Grw.trans {x y z : Wst} {m k : Nat} (h : Grw x y m) (g : Grw y z k) : Grw x z (m + k) := ⟨fun q => g.sg (h.sg q), by have := h.len; have := g.len; omega, by have := h.n; have := g.n; omega⟩
theorem Grw.one (x : Wst) : Grw x (wone x) 1 := ⟨fun h => h, by simp [wone], by simp [wone]⟩
theorem Grw.seg {a l f : Int} (x : Wst) (ha : U64 a) (hl : 0 ≤ l ∧ l < 4294967296) : Grw x (wseg a l f (wone x)) 1 := by
  refine ⟨fun h s hs => ?_, by simp [wseg, wone], by simp [wseg, wone]⟩
  rcases List.mem_append.1 hs with hs | hs
  · exact h s hs
  · rw [List.mem_singleton] at hs
    subst hs
    exact ⟨ha, hl⟩
theorem wch_grw {R : List (Int × Int)} {M : List Int} (hok : okR (-1) 1048576 R = true) (hM : M.length = sumR R) (hB : isBytes M) (at_ size : Int) (inner table : Bool) (tab : Int → Int → Wst → Wst) (q : Nat) (ht : ∀ a l x, Grw x (tab a l x) q) :
    ∀ (f : Nat) (seen : List Int) (k : Int) (x : Wst), Grw x (wch R M at_ size inner table tab f seen k x) (f + q)
  | 0, _, _, x => Grw.refl x _
  | f + 1, seen, k, x => by
    rw [wch_succ]
    split
    · exact Grw.stop _ _ _
    split
    · exact Grw.stop _ _ _
    cases hd : dscAt R M (at_ + 16 * k) with
    | none => exact Grw.stop _ _ _
    | some d =>
      have hi := dsc_is hok hM hB hd
      simp only
      split
      · split
        · exact ((Grw.one x).trans (Grw.stop 4 _ 0)).mono (by omega)
        · exact ((Grw.one x).trans (ht _ _ _)).mono (by omega)
      · split
        · exact ((Grw.seg x hi.a hi.l).trans (wch_grw hok hM hB at_ size inner table tab q ht f _ _ _)).mono (by omega)
        · exact (Grw.seg x hi.a hi.l).mono (by omega)
theorem wtab_grw {R : List (Int × Int)} {M : List Int} (hok : okR (-1) 1048576 R = true) (hM : M.length = sumR R) (hB : isBytes M) (a l : Int) (x : Wst) : Grw x (wtab R M a l x) 65 := by
  unfold wtab
  by_cases h : wenE R a l = 0
  · rw [if_pos h]
    have hl : l / 16 ≤ 64 := by
      rcases wenE_cases R a l with ⟨_, _, _, h3, _⟩ | ⟨e, _⟩ | ⟨e, _⟩
      · exact h3
      · rw [e] at h
        cases h
      · rw [e] at h
        cases h
    exact (wch_grw hok hM hB a (l / 16) true true _ 0 (fun _ _ x => Grw.refl x 0) _ [] 0 x).mono (by omega)
  · rw [if_neg h]
    exact Grw.stop _ _ _
theorem wspl_grw {R : List (Int × Int)} {M : List Int} (hok : okR (-1) 1048576 R = true) (hM : M.length = sumR R) (hB : isBytes M) (d n head : Int) (table : Bool) : Grw ⟨[], 0, 0⟩ (wspl R M d n head table) (n.toNat + 1 + 65) :=
  wch_grw hok hM hB d n false table _ 65 (fun a l x => wtab_grw hok hM hB a l x) _ [] head _
/-- Split's answers -/
def wsE (R : List (Int × Int)) (M : List Int) (pk : Bool) (n d g c head : Int) (table : Bool) : Int := if wrfE pk false n d g c = 0 then wndE R (wspl R M d n head table) else wrfE pk false n d g c
def wsL (R : List (Int × Int)) (M : List Int) (pk : Bool) (n d g c head : Int) (table : Bool) : List Sg := if wrfE pk false n d g c = 0 then wndL R (wspl R M d n head table) else []
def wsN (R : List (Int × Int)) (M : List Int) (pk : Bool) (n d g c head : Int) (table : Bool) : Nat := if wrfE pk false n d g c = 0 then (wspl R M d n head table).n else 0
theorem wrfE_pk {pk pk0 : Bool} {n d g c : Int} (h : wrfE pk pk0 n d g c = 0) : pk = pk0 := by
  unfold wrfE at h
  by_cases h1 : chkR pk n d g c = 0
  · rw [if_pos h1] at h
    by_cases h2 : pk = pk0
    · exact h2
    · rw [if_neg h2] at h
      cases h
  · rw [if_neg h1] at h
    exact absurd h h1
end Go.Proofs.YtfhhgcgbgmilcaaGreat
