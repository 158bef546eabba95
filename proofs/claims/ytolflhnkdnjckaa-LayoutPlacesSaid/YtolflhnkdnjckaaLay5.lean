/- Contracts of layout.elements and Where: what they return, and that old memory stays. Conditions: as each theorem names them. -/
import Derived.Test.YtolflhnkdnjckaaLay4
import Derived.ChangeKeysEq
import Derived.Laws.StructEq
namespace Go.Proofs.Ytolflhnkdnjckaa
open Go.ChangeShapes Go.WideShapes Go.ChangeAt Go.RowKit
set_option linter.unusedVariables false
set_option maxRecDepth 100000

/-- the first address, the bytes and the number of the elements of a kind -/
def elP (pk : Bool) (n d g c x : Int) : Int × Int × Int :=
  if x = 1 then (d, 16, n) else
  if pk then (if x = 10 then (g, 4, 1) else if x = 11 then (c, 4, 1) else (0, 0, 0))
  else if x = 2 then (g, 2, 1) else if x = 3 then (IntKind.u64.wrap (g + 2), 2, 1) else if x = 4 then (IntKind.u64.wrap (g + 4), 2, n) else if x = 5 then (IntKind.u64.wrap (IntKind.u64.wrap (g + 4) + IntKind.u64.wrap (2 * IntKind.u64.wrap n)), 2, 1)
  else if x = 6 then (c, 2, 1) else if x = 7 then (IntKind.u64.wrap (c + 2), 2, 1) else if x = 8 then (IntKind.u64.wrap (c + 4), 8, n) else if x = 9 then (IntKind.u64.wrap (IntKind.u64.wrap (c + 4) + IntKind.u64.wrap (8 * IntKind.u64.wrap n)), 2, 1) else (0, 0, 0)
abbrev el3 (p : Int × Int × Int) : Value := .tuple #[.int .u64 p.1, .int .i64 p.2.1, .int .i64 p.2.2]

def isEl (x : Int) : Prop := x = 1 ∨ x = 2 ∨ x = 3 ∨ x = 4 ∨ x = 5 ∨ x = 6 ∨ x = 7 ∨ x = 8 ∨ x = 9 ∨ x = 10 ∨ x = 11
theorem wrap_id {g : Int} (h : U64 g) : IntKind.u64.wrap (g + 0) = g := by
  rw [IntKind.wrap_u64]
  omega
theorem wrap_id' {g : Int} (h : U64 g) : IntKind.u64.wrap g = g := by
  rw [IntKind.wrap_u64]
  omega
theorem infoI : (Try.prog.info? 3).isSome = true := by kernel_rfl
theorem cellsI : Try.prog.cellsOf 3 = 1 := by kernel_rfl
theorem eqI2 (a b c d : Int) (w : World) : (binOp .eql 88 (.agg #[.int .i64 a, .int .i64 b]) (.agg #[.int .i64 c, .int .i64 d])).run Try.prog w = .ok (.bool (a == c && b == d)) w := by
  obtain ⟨i, hi⟩ := Option.isSome_iff_exists.1 infoI
  rw [run_eql_struct, run_equalIn_array w 9999 _ _ Try.underlying88 hi, cellsI]
  simp [Op.eqItems, List.range, List.range.loop, go_sem, Try.underlying3]
  by_cases h1 : a = c <;> by_cases h2 : b = d <;> simp [h1, h2]

set_option maxHeartbeats 2000000 in
theorem elements_false_1 (n d g c : Int) (w : World) (hg : U64 g) (hc : U64 c) :
    Calls Try.prog 31 #[rV false n d g c, .int .i64 1] w fun e w' => e = .returned (el3 (elP false n d g c 1)) ∧ Below w.heap.size w w' := by
  have wg := wrap_id hg
  have q2 := eqI2
  have wc := wrap_id hc
  have wg' := wrap_id' hg
  have wc' := wrap_id' hc
  clear hg hc
  go_enter Try.func31, Try.ntmps31
  go_wp2_with (first | (go_at_call 46; refine (kind_any _ _).mono ?_; rintro e w' ⟨rfl, rfl⟩))
  try (go_quiet (fail); go_wp2_with fail)
  go_ret3
  exact ⟨ret_eq (by simp [elP, *]), (by repeat (first | exact Below.refl _ _ | (refine below_dn ?_ _) | (refine Below.alloc ?_ (by first | omega | (simp; done) | (simp; omega)) _)))⟩

set_option maxHeartbeats 2000000 in
theorem elements_false_2 (n d g c : Int) (w : World) (hg : U64 g) (hc : U64 c) :
    Calls Try.prog 31 #[rV false n d g c, .int .i64 2] w fun e w' => e = .returned (el3 (elP false n d g c 2)) ∧ Below w.heap.size w w' := by
  have wg := wrap_id hg
  have q2 := eqI2
  have wc := wrap_id hc
  have wg' := wrap_id' hg
  have wc' := wrap_id' hc
  clear hg hc
  go_enter Try.func31, Try.ntmps31
  go_wp2_with (first | (go_at_call 46; refine (kind_any _ _).mono ?_; rintro e w' ⟨rfl, rfl⟩))
  try (go_quiet (fail); go_wp2_with fail)
  go_ret3
  exact ⟨ret_eq (by simp [elP, *]), (by repeat (first | exact Below.refl _ _ | (refine below_dn ?_ _) | (refine Below.alloc ?_ (by first | omega | (simp; done) | (simp; omega)) _)))⟩

set_option maxHeartbeats 2000000 in
theorem elements_false_3 (n d g c : Int) (w : World) (hg : U64 g) (hc : U64 c) :
    Calls Try.prog 31 #[rV false n d g c, .int .i64 3] w fun e w' => e = .returned (el3 (elP false n d g c 3)) ∧ Below w.heap.size w w' := by
  have wg := wrap_id hg
  have q2 := eqI2
  have wc := wrap_id hc
  have wg' := wrap_id' hg
  have wc' := wrap_id' hc
  clear hg hc
  go_enter Try.func31, Try.ntmps31
  go_wp2_with (first | (go_at_call 46; refine (kind_any _ _).mono ?_; rintro e w' ⟨rfl, rfl⟩))
  try (go_quiet (fail); go_wp2_with fail)
  go_ret3
  exact ⟨ret_eq (by simp [elP, *]), (by repeat (first | exact Below.refl _ _ | (refine below_dn ?_ _) | (refine Below.alloc ?_ (by first | omega | (simp; done) | (simp; omega)) _)))⟩

set_option maxHeartbeats 2000000 in
theorem elements_false_4 (n d g c : Int) (w : World) (hg : U64 g) (hc : U64 c) :
    Calls Try.prog 31 #[rV false n d g c, .int .i64 4] w fun e w' => e = .returned (el3 (elP false n d g c 4)) ∧ Below w.heap.size w w' := by
  have wg := wrap_id hg
  have q2 := eqI2
  have wc := wrap_id hc
  have wg' := wrap_id' hg
  have wc' := wrap_id' hc
  clear hg hc
  go_enter Try.func31, Try.ntmps31
  go_wp2_with (first | (go_at_call 46; refine (kind_any _ _).mono ?_; rintro e w' ⟨rfl, rfl⟩))
  try (go_quiet (fail); go_wp2_with fail)
  go_ret3
  exact ⟨ret_eq (by simp [elP, *]), (by repeat (first | exact Below.refl _ _ | (refine below_dn ?_ _) | (refine Below.alloc ?_ (by first | omega | (simp; done) | (simp; omega)) _)))⟩

set_option maxHeartbeats 2000000 in
theorem elements_false_5 (n d g c : Int) (w : World) (hg : U64 g) (hc : U64 c) :
    Calls Try.prog 31 #[rV false n d g c, .int .i64 5] w fun e w' => e = .returned (el3 (elP false n d g c 5)) ∧ Below w.heap.size w w' := by
  have wg := wrap_id hg
  have q2 := eqI2
  have wc := wrap_id hc
  have wg' := wrap_id' hg
  have wc' := wrap_id' hc
  clear hg hc
  go_enter Try.func31, Try.ntmps31
  go_wp2_with (first | (go_at_call 46; refine (kind_any _ _).mono ?_; rintro e w' ⟨rfl, rfl⟩))
  try (go_quiet (fail); go_wp2_with fail)
  go_ret3
  exact ⟨ret_eq (by simp [elP, *]), (by repeat (first | exact Below.refl _ _ | (refine below_dn ?_ _) | (refine Below.alloc ?_ (by first | omega | (simp; done) | (simp; omega)) _)))⟩

set_option maxHeartbeats 2000000 in
theorem elements_false_6 (n d g c : Int) (w : World) (hg : U64 g) (hc : U64 c) :
    Calls Try.prog 31 #[rV false n d g c, .int .i64 6] w fun e w' => e = .returned (el3 (elP false n d g c 6)) ∧ Below w.heap.size w w' := by
  have wg := wrap_id hg
  have q2 := eqI2
  have wc := wrap_id hc
  have wg' := wrap_id' hg
  have wc' := wrap_id' hc
  clear hg hc
  go_enter Try.func31, Try.ntmps31
  go_wp2_with (first | (go_at_call 46; refine (kind_any _ _).mono ?_; rintro e w' ⟨rfl, rfl⟩))
  try (go_quiet (fail); go_wp2_with fail)
  go_ret3
  exact ⟨ret_eq (by simp [elP, *]), (by repeat (first | exact Below.refl _ _ | (refine below_dn ?_ _) | (refine Below.alloc ?_ (by first | omega | (simp; done) | (simp; omega)) _)))⟩

set_option maxHeartbeats 2000000 in
theorem elements_false_7 (n d g c : Int) (w : World) (hg : U64 g) (hc : U64 c) :
    Calls Try.prog 31 #[rV false n d g c, .int .i64 7] w fun e w' => e = .returned (el3 (elP false n d g c 7)) ∧ Below w.heap.size w w' := by
  have wg := wrap_id hg
  have q2 := eqI2
  have wc := wrap_id hc
  have wg' := wrap_id' hg
  have wc' := wrap_id' hc
  clear hg hc
  go_enter Try.func31, Try.ntmps31
  go_wp2_with (first | (go_at_call 46; refine (kind_any _ _).mono ?_; rintro e w' ⟨rfl, rfl⟩))
  try (go_quiet (fail); go_wp2_with fail)
  go_ret3
  exact ⟨ret_eq (by simp [elP, *]), (by repeat (first | exact Below.refl _ _ | (refine below_dn ?_ _) | (refine Below.alloc ?_ (by first | omega | (simp; done) | (simp; omega)) _)))⟩

set_option maxHeartbeats 2000000 in
theorem elements_false_8 (n d g c : Int) (w : World) (hg : U64 g) (hc : U64 c) :
    Calls Try.prog 31 #[rV false n d g c, .int .i64 8] w fun e w' => e = .returned (el3 (elP false n d g c 8)) ∧ Below w.heap.size w w' := by
  have wg := wrap_id hg
  have q2 := eqI2
  have wc := wrap_id hc
  have wg' := wrap_id' hg
  have wc' := wrap_id' hc
  clear hg hc
  go_enter Try.func31, Try.ntmps31
  go_wp2_with (first | (go_at_call 46; refine (kind_any _ _).mono ?_; rintro e w' ⟨rfl, rfl⟩))
  try (go_quiet (fail); go_wp2_with fail)
  go_ret3
  exact ⟨ret_eq (by simp [elP, *]), (by repeat (first | exact Below.refl _ _ | (refine below_dn ?_ _) | (refine Below.alloc ?_ (by first | omega | (simp; done) | (simp; omega)) _)))⟩

set_option maxHeartbeats 2000000 in
theorem elements_false_9 (n d g c : Int) (w : World) (hg : U64 g) (hc : U64 c) :
    Calls Try.prog 31 #[rV false n d g c, .int .i64 9] w fun e w' => e = .returned (el3 (elP false n d g c 9)) ∧ Below w.heap.size w w' := by
  have wg := wrap_id hg
  have q2 := eqI2
  have wc := wrap_id hc
  have wg' := wrap_id' hg
  have wc' := wrap_id' hc
  clear hg hc
  go_enter Try.func31, Try.ntmps31
  go_wp2_with (first | (go_at_call 46; refine (kind_any _ _).mono ?_; rintro e w' ⟨rfl, rfl⟩))
  try (go_quiet (fail); go_wp2_with fail)
  go_ret3
  exact ⟨ret_eq (by simp [elP, *]), (by repeat (first | exact Below.refl _ _ | (refine below_dn ?_ _) | (refine Below.alloc ?_ (by first | omega | (simp; done) | (simp; omega)) _)))⟩

set_option maxHeartbeats 2000000 in
theorem elements_false_10 (n d g c : Int) (w : World) (hg : U64 g) (hc : U64 c) :
    Calls Try.prog 31 #[rV false n d g c, .int .i64 10] w fun e w' => e = .returned (el3 (elP false n d g c 10)) ∧ Below w.heap.size w w' := by
  have wg := wrap_id hg
  have q2 := eqI2
  have wc := wrap_id hc
  have wg' := wrap_id' hg
  have wc' := wrap_id' hc
  clear hg hc
  go_enter Try.func31, Try.ntmps31
  go_wp2_with (first | (go_at_call 46; refine (kind_any _ _).mono ?_; rintro e w' ⟨rfl, rfl⟩))
  try (go_quiet (fail); go_wp2_with fail)
  go_ret3
  exact ⟨ret_eq (by simp [elP, *]), (by repeat (first | exact Below.refl _ _ | (refine below_dn ?_ _) | (refine Below.alloc ?_ (by first | omega | (simp; done) | (simp; omega)) _)))⟩

set_option maxHeartbeats 2000000 in
theorem elements_false_11 (n d g c : Int) (w : World) (hg : U64 g) (hc : U64 c) :
    Calls Try.prog 31 #[rV false n d g c, .int .i64 11] w fun e w' => e = .returned (el3 (elP false n d g c 11)) ∧ Below w.heap.size w w' := by
  have wg := wrap_id hg
  have q2 := eqI2
  have wc := wrap_id hc
  have wg' := wrap_id' hg
  have wc' := wrap_id' hc
  clear hg hc
  go_enter Try.func31, Try.ntmps31
  go_wp2_with (first | (go_at_call 46; refine (kind_any _ _).mono ?_; rintro e w' ⟨rfl, rfl⟩))
  try (go_quiet (fail); go_wp2_with fail)
  go_ret3
  exact ⟨ret_eq (by simp [elP, *]), (by repeat (first | exact Below.refl _ _ | (refine below_dn ?_ _) | (refine Below.alloc ?_ (by first | omega | (simp; done) | (simp; omega)) _)))⟩

set_option maxHeartbeats 2000000 in
theorem elements_false_no (n d g c x : Int) (w : World) (hg : U64 g) (hc : U64 c) (h1 : ¬ x = 1) (h2 : ¬ x = 2) (h3 : ¬ x = 3) (h4 : ¬ x = 4) (h5 : ¬ x = 5) (h6 : ¬ x = 6) (h7 : ¬ x = 7) (h8 : ¬ x = 8) (h9 : ¬ x = 9) (h10 : ¬ x = 10) (h11 : ¬ x = 11) :
    Calls Try.prog 31 #[rV false n d g c, .int .i64 x] w fun e w' => e = .returned (el3 (elP false n d g c x)) ∧ Below w.heap.size w w' := by
  have wg := wrap_id hg
  have q2 := eqI2
  have wc := wrap_id hc
  have wg' := wrap_id' hg
  have wc' := wrap_id' hc
  have e0 : elP false n d g c x = (0, 0, 0) := by simp [elP, *]
  rw [e0]
  clear e0
  have g1 : (x == 1) = false := by simp [h1]
  have g2 : (x == 2) = false := by simp [h2]
  have g3 : (x == 3) = false := by simp [h3]
  have g4 : (x == 4) = false := by simp [h4]
  have g5 : (x == 5) = false := by simp [h5]
  have g6 : (x == 6) = false := by simp [h6]
  have g7 : (x == 7) = false := by simp [h7]
  have g8 : (x == 8) = false := by simp [h8]
  have g9 : (x == 9) = false := by simp [h9]
  have g10 : (x == 10) = false := by simp [h10]
  have g11 : (x == 11) = false := by simp [h11]
  clear hg hc
  go_enter Try.func31, Try.ntmps31
  go_wp2_with (first | (go_at_call 46; refine (kind_any _ _).mono ?_; rintro e w' ⟨rfl, rfl⟩))
  try (go_quiet (fail); go_wp2_with fail)
  go_ret3
  exact ⟨rfl, (by repeat (first | exact Below.refl _ _ | (refine below_dn ?_ _) | (refine Below.alloc ?_ (by first | omega | (simp; done) | (simp; omega)) _)))⟩

set_option maxHeartbeats 2000000 in
theorem elements_true_1 (n d g c : Int) (w : World) (hg : U64 g) (hc : U64 c) :
    Calls Try.prog 31 #[rV true n d g c, .int .i64 1] w fun e w' => e = .returned (el3 (elP true n d g c 1)) ∧ Below w.heap.size w w' := by
  have wg := wrap_id hg
  have q2 := eqI2
  have wc := wrap_id hc
  have wg' := wrap_id' hg
  have wc' := wrap_id' hc
  clear hg hc
  go_enter Try.func31, Try.ntmps31
  go_wp2_with (first | (go_at_call 46; refine (kind_any _ _).mono ?_; rintro e w' ⟨rfl, rfl⟩))
  try (go_quiet (fail); go_wp2_with fail)
  go_ret3
  exact ⟨ret_eq (by simp [elP, *]), (by repeat (first | exact Below.refl _ _ | (refine below_dn ?_ _) | (refine Below.alloc ?_ (by first | omega | (simp; done) | (simp; omega)) _)))⟩

set_option maxHeartbeats 2000000 in
theorem elements_true_2 (n d g c : Int) (w : World) (hg : U64 g) (hc : U64 c) :
    Calls Try.prog 31 #[rV true n d g c, .int .i64 2] w fun e w' => e = .returned (el3 (elP true n d g c 2)) ∧ Below w.heap.size w w' := by
  have wg := wrap_id hg
  have q2 := eqI2
  have wc := wrap_id hc
  have wg' := wrap_id' hg
  have wc' := wrap_id' hc
  clear hg hc
  go_enter Try.func31, Try.ntmps31
  go_wp2_with (first | (go_at_call 46; refine (kind_any _ _).mono ?_; rintro e w' ⟨rfl, rfl⟩))
  try (go_quiet (fail); go_wp2_with fail)
  go_ret3
  exact ⟨ret_eq (by simp [elP, *]), (by repeat (first | exact Below.refl _ _ | (refine below_dn ?_ _) | (refine Below.alloc ?_ (by first | omega | (simp; done) | (simp; omega)) _)))⟩

set_option maxHeartbeats 2000000 in
theorem elements_true_3 (n d g c : Int) (w : World) (hg : U64 g) (hc : U64 c) :
    Calls Try.prog 31 #[rV true n d g c, .int .i64 3] w fun e w' => e = .returned (el3 (elP true n d g c 3)) ∧ Below w.heap.size w w' := by
  have wg := wrap_id hg
  have q2 := eqI2
  have wc := wrap_id hc
  have wg' := wrap_id' hg
  have wc' := wrap_id' hc
  clear hg hc
  go_enter Try.func31, Try.ntmps31
  go_wp2_with (first | (go_at_call 46; refine (kind_any _ _).mono ?_; rintro e w' ⟨rfl, rfl⟩))
  try (go_quiet (fail); go_wp2_with fail)
  go_ret3
  exact ⟨ret_eq (by simp [elP, *]), (by repeat (first | exact Below.refl _ _ | (refine below_dn ?_ _) | (refine Below.alloc ?_ (by first | omega | (simp; done) | (simp; omega)) _)))⟩

set_option maxHeartbeats 2000000 in
theorem elements_true_4 (n d g c : Int) (w : World) (hg : U64 g) (hc : U64 c) :
    Calls Try.prog 31 #[rV true n d g c, .int .i64 4] w fun e w' => e = .returned (el3 (elP true n d g c 4)) ∧ Below w.heap.size w w' := by
  have wg := wrap_id hg
  have q2 := eqI2
  have wc := wrap_id hc
  have wg' := wrap_id' hg
  have wc' := wrap_id' hc
  clear hg hc
  go_enter Try.func31, Try.ntmps31
  go_wp2_with (first | (go_at_call 46; refine (kind_any _ _).mono ?_; rintro e w' ⟨rfl, rfl⟩))
  try (go_quiet (fail); go_wp2_with fail)
  go_ret3
  exact ⟨ret_eq (by simp [elP, *]), (by repeat (first | exact Below.refl _ _ | (refine below_dn ?_ _) | (refine Below.alloc ?_ (by first | omega | (simp; done) | (simp; omega)) _)))⟩

set_option maxHeartbeats 2000000 in
theorem elements_true_5 (n d g c : Int) (w : World) (hg : U64 g) (hc : U64 c) :
    Calls Try.prog 31 #[rV true n d g c, .int .i64 5] w fun e w' => e = .returned (el3 (elP true n d g c 5)) ∧ Below w.heap.size w w' := by
  have wg := wrap_id hg
  have q2 := eqI2
  have wc := wrap_id hc
  have wg' := wrap_id' hg
  have wc' := wrap_id' hc
  clear hg hc
  go_enter Try.func31, Try.ntmps31
  go_wp2_with (first | (go_at_call 46; refine (kind_any _ _).mono ?_; rintro e w' ⟨rfl, rfl⟩))
  try (go_quiet (fail); go_wp2_with fail)
  go_ret3
  exact ⟨ret_eq (by simp [elP, *]), (by repeat (first | exact Below.refl _ _ | (refine below_dn ?_ _) | (refine Below.alloc ?_ (by first | omega | (simp; done) | (simp; omega)) _)))⟩

set_option maxHeartbeats 2000000 in
theorem elements_true_6 (n d g c : Int) (w : World) (hg : U64 g) (hc : U64 c) :
    Calls Try.prog 31 #[rV true n d g c, .int .i64 6] w fun e w' => e = .returned (el3 (elP true n d g c 6)) ∧ Below w.heap.size w w' := by
  have wg := wrap_id hg
  have q2 := eqI2
  have wc := wrap_id hc
  have wg' := wrap_id' hg
  have wc' := wrap_id' hc
  clear hg hc
  go_enter Try.func31, Try.ntmps31
  go_wp2_with (first | (go_at_call 46; refine (kind_any _ _).mono ?_; rintro e w' ⟨rfl, rfl⟩))
  try (go_quiet (fail); go_wp2_with fail)
  go_ret3
  exact ⟨ret_eq (by simp [elP, *]), (by repeat (first | exact Below.refl _ _ | (refine below_dn ?_ _) | (refine Below.alloc ?_ (by first | omega | (simp; done) | (simp; omega)) _)))⟩

set_option maxHeartbeats 2000000 in
theorem elements_true_7 (n d g c : Int) (w : World) (hg : U64 g) (hc : U64 c) :
    Calls Try.prog 31 #[rV true n d g c, .int .i64 7] w fun e w' => e = .returned (el3 (elP true n d g c 7)) ∧ Below w.heap.size w w' := by
  have wg := wrap_id hg
  have q2 := eqI2
  have wc := wrap_id hc
  have wg' := wrap_id' hg
  have wc' := wrap_id' hc
  clear hg hc
  go_enter Try.func31, Try.ntmps31
  go_wp2_with (first | (go_at_call 46; refine (kind_any _ _).mono ?_; rintro e w' ⟨rfl, rfl⟩))
  try (go_quiet (fail); go_wp2_with fail)
  go_ret3
  exact ⟨ret_eq (by simp [elP, *]), (by repeat (first | exact Below.refl _ _ | (refine below_dn ?_ _) | (refine Below.alloc ?_ (by first | omega | (simp; done) | (simp; omega)) _)))⟩

set_option maxHeartbeats 2000000 in
theorem elements_true_8 (n d g c : Int) (w : World) (hg : U64 g) (hc : U64 c) :
    Calls Try.prog 31 #[rV true n d g c, .int .i64 8] w fun e w' => e = .returned (el3 (elP true n d g c 8)) ∧ Below w.heap.size w w' := by
  have wg := wrap_id hg
  have q2 := eqI2
  have wc := wrap_id hc
  have wg' := wrap_id' hg
  have wc' := wrap_id' hc
  clear hg hc
  go_enter Try.func31, Try.ntmps31
  go_wp2_with (first | (go_at_call 46; refine (kind_any _ _).mono ?_; rintro e w' ⟨rfl, rfl⟩))
  try (go_quiet (fail); go_wp2_with fail)
  go_ret3
  exact ⟨ret_eq (by simp [elP, *]), (by repeat (first | exact Below.refl _ _ | (refine below_dn ?_ _) | (refine Below.alloc ?_ (by first | omega | (simp; done) | (simp; omega)) _)))⟩

set_option maxHeartbeats 2000000 in
theorem elements_true_9 (n d g c : Int) (w : World) (hg : U64 g) (hc : U64 c) :
    Calls Try.prog 31 #[rV true n d g c, .int .i64 9] w fun e w' => e = .returned (el3 (elP true n d g c 9)) ∧ Below w.heap.size w w' := by
  have wg := wrap_id hg
  have q2 := eqI2
  have wc := wrap_id hc
  have wg' := wrap_id' hg
  have wc' := wrap_id' hc
  clear hg hc
  go_enter Try.func31, Try.ntmps31
  go_wp2_with (first | (go_at_call 46; refine (kind_any _ _).mono ?_; rintro e w' ⟨rfl, rfl⟩))
  try (go_quiet (fail); go_wp2_with fail)
  go_ret3
  exact ⟨ret_eq (by simp [elP, *]), (by repeat (first | exact Below.refl _ _ | (refine below_dn ?_ _) | (refine Below.alloc ?_ (by first | omega | (simp; done) | (simp; omega)) _)))⟩

set_option maxHeartbeats 2000000 in
theorem elements_true_10 (n d g c : Int) (w : World) (hg : U64 g) (hc : U64 c) :
    Calls Try.prog 31 #[rV true n d g c, .int .i64 10] w fun e w' => e = .returned (el3 (elP true n d g c 10)) ∧ Below w.heap.size w w' := by
  have wg := wrap_id hg
  have q2 := eqI2
  have wc := wrap_id hc
  have wg' := wrap_id' hg
  have wc' := wrap_id' hc
  clear hg hc
  go_enter Try.func31, Try.ntmps31
  go_wp2_with (first | (go_at_call 46; refine (kind_any _ _).mono ?_; rintro e w' ⟨rfl, rfl⟩))
  try (go_quiet (fail); go_wp2_with fail)
  go_ret3
  exact ⟨ret_eq (by simp [elP, *]), (by repeat (first | exact Below.refl _ _ | (refine below_dn ?_ _) | (refine Below.alloc ?_ (by first | omega | (simp; done) | (simp; omega)) _)))⟩

set_option maxHeartbeats 2000000 in
theorem elements_true_11 (n d g c : Int) (w : World) (hg : U64 g) (hc : U64 c) :
    Calls Try.prog 31 #[rV true n d g c, .int .i64 11] w fun e w' => e = .returned (el3 (elP true n d g c 11)) ∧ Below w.heap.size w w' := by
  have wg := wrap_id hg
  have q2 := eqI2
  have wc := wrap_id hc
  have wg' := wrap_id' hg
  have wc' := wrap_id' hc
  clear hg hc
  go_enter Try.func31, Try.ntmps31
  go_wp2_with (first | (go_at_call 46; refine (kind_any _ _).mono ?_; rintro e w' ⟨rfl, rfl⟩))
  try (go_quiet (fail); go_wp2_with fail)
  go_ret3
  exact ⟨ret_eq (by simp [elP, *]), (by repeat (first | exact Below.refl _ _ | (refine below_dn ?_ _) | (refine Below.alloc ?_ (by first | omega | (simp; done) | (simp; omega)) _)))⟩

set_option maxHeartbeats 2000000 in
theorem elements_true_no (n d g c x : Int) (w : World) (hg : U64 g) (hc : U64 c) (h1 : ¬ x = 1) (h2 : ¬ x = 2) (h3 : ¬ x = 3) (h4 : ¬ x = 4) (h5 : ¬ x = 5) (h6 : ¬ x = 6) (h7 : ¬ x = 7) (h8 : ¬ x = 8) (h9 : ¬ x = 9) (h10 : ¬ x = 10) (h11 : ¬ x = 11) :
    Calls Try.prog 31 #[rV true n d g c, .int .i64 x] w fun e w' => e = .returned (el3 (elP true n d g c x)) ∧ Below w.heap.size w w' := by
  have wg := wrap_id hg
  have q2 := eqI2
  have wc := wrap_id hc
  have wg' := wrap_id' hg
  have wc' := wrap_id' hc
  have e0 : elP true n d g c x = (0, 0, 0) := by simp [elP, *]
  rw [e0]
  clear e0
  have g1 : (x == 1) = false := by simp [h1]
  have g2 : (x == 2) = false := by simp [h2]
  have g3 : (x == 3) = false := by simp [h3]
  have g4 : (x == 4) = false := by simp [h4]
  have g5 : (x == 5) = false := by simp [h5]
  have g6 : (x == 6) = false := by simp [h6]
  have g7 : (x == 7) = false := by simp [h7]
  have g8 : (x == 8) = false := by simp [h8]
  have g9 : (x == 9) = false := by simp [h9]
  have g10 : (x == 10) = false := by simp [h10]
  have g11 : (x == 11) = false := by simp [h11]
  clear hg hc
  go_enter Try.func31, Try.ntmps31
  go_wp2_with (first | (go_at_call 46; refine (kind_any _ _).mono ?_; rintro e w' ⟨rfl, rfl⟩))
  try (go_quiet (fail); go_wp2_with fail)
  go_ret3
  exact ⟨rfl, (by repeat (first | exact Below.refl _ _ | (refine below_dn ?_ _) | (refine Below.alloc ?_ (by first | omega | (simp; done) | (simp; omega)) _)))⟩
end Go.Proofs.Ytolflhnkdnjckaa
