/- Contracts of serial.Between and of the reference's NeedAt at wrong positions, Between; of serial.Start: results, and old memory stays. Conditions: as each theorem names them. -/
import Derived.Test.YtomeodmadnobfaaSer5
namespace Go.Proofs.Ytomeodmadnobfaa
open Go.ChangeShapes Go.WideShapes Go.ChangeAt Go.RowKit
set_option linter.unusedVariables false

theorem jdx0 (ea na : Int) (eb nb : Bool) (w : World) : (Instr.index 52 (.agg #[.int .i64 ea, .bool eb, .int .i64 na, .bool nb]) (.int .i64 0)).run Try.prog w = .ok (.agg #[.int .i64 ea, .bool eb]) w := by kernel_rfl
theorem jdx1 (ea na : Int) (eb nb : Bool) (w : World) : (Instr.index 52 (.agg #[.int .i64 ea, .bool eb, .int .i64 na, .bool nb]) (.int .i64 1)).run Try.prog w = .ok (.agg #[.int .i64 na, .bool nb]) w := by kernel_rfl

theorem hid_mk {p : Prop} (h : p) : Hid p := h

/-- the way from one position to the other -/
def btw1 (a b n : Int) (eb nb : Bool) : Int := b - a + if eb = nb then 0 else n
def btw (a b n : Int) (eb nb : Bool) : Int := if btw1 a b n eb nb < 0 then btw1 a b n eb nb + 2 * n else btw1 a b n eb nb
theorem btw_neg {a b n : Int} {eb nb : Bool} (h : btw1 a b n eb nb < 0) : btw a b n eb nb = btw1 a b n eb nb + 2 * n := by
  unfold btw
  rw [if_pos h]
theorem btw_pos {a b n : Int} {eb nb : Bool} (h : ¬ btw1 a b n eb nb < 0) : btw a b n eb nb = btw1 a b n eb nb := by
  unfold btw
  rw [if_neg h]
theorem btw_ret {x y : Int} (h : x = y) : Ending.returned (.tuple #[.int .i64 x, .int .i64 0]) = .returned (.tuple #[.int .i64 y, .int .i64 0]) := by rw [h]

theorem start_any (w : World) :
    Calls Try.prog 14 #[] w fun e w' => e = .returned (.agg #[.int .i64 0, .bool true]) ∧ Below w.heap.size w w' := by
  go_enter Try.func14, Try.ntmps14
  go_wp2
  exact bodyPost_ret (v := .agg #[.int .i64 0, .bool true]) (by simp [results, Try.results14, go_sem]) rfl ⟨rfl, (by repeat (first | exact Below.refl _ _ | (refine Below.alloc ?_ (by first | (simp; done) | (simp; omega)) _)))⟩

theorem between_ff (ea na n : Int) (w : World) (h1 : 1 ≤ n) (h2 : n ≤ 32768) (h3 : 0 ≤ ea) (h4 : ea < n) (h5 : 0 ≤ na) (h6 : na < n) :
    Calls Try.prog 29 #[.agg #[.int .i64 ea, .bool false], .agg #[.int .i64 na, .bool false], .int .i64 n] w fun e w' => e = .returned (.tuple #[.int .i64 (btw ea na n false false), .int .i64 0]) ∧ Below w.heap.size w w' := by
  have i0 := jdx0 ea na
  have i1 := jdx1 ea na
  by_cases hneg : na - ea < 0
  · have hd : Hid (na - ea + 2 * n = btw ea na n false false) := hid_mk (by
      rw [btw_neg (by unfold btw1; simp; omega)]
      simp [btw1])
    go_enter Try.func29, Try.ntmps29
    go_wp2_with (go_in)
    refine wp_loop_rounds 3 ?_
    rw [rounds_succ]
    go_wp2_with (go_in)
    rw [rounds_succ]
    go_wp2_with (go_in)
    rw [rounds_succ]
    go_wp2_with (go_in)
    go_ret2
    exact ⟨btw_ret hd.out, (by repeat (first | exact Below.refl _ _ | (refine Below.alloc ?_ (by first | (simp; done) | (simp; omega)) _)))⟩
  · have hd : Hid (na - ea = btw ea na n false false) := hid_mk (by
      rw [btw_pos (by unfold btw1; simp; omega)]
      simp [btw1])
    have hnn : 0 ≤ na - ea := by omega
    go_enter Try.func29, Try.ntmps29
    go_wp2_with (go_in)
    refine wp_loop_rounds 3 ?_
    rw [rounds_succ]
    go_wp2_with (go_in)
    rw [rounds_succ]
    go_wp2_with (go_in)
    rw [rounds_succ]
    go_wp2_with (go_in)
    go_ret2
    exact ⟨btw_ret hd.out, (by repeat (first | exact Below.refl _ _ | (refine Below.alloc ?_ (by first | (simp; done) | (simp; omega)) _)))⟩

theorem between_ft (ea na n : Int) (w : World) (h1 : 1 ≤ n) (h2 : n ≤ 32768) (h3 : 0 ≤ ea) (h4 : ea < n) (h5 : 0 ≤ na) (h6 : na < n) :
    Calls Try.prog 29 #[.agg #[.int .i64 ea, .bool false], .agg #[.int .i64 na, .bool true], .int .i64 n] w fun e w' => e = .returned (.tuple #[.int .i64 (btw ea na n false true), .int .i64 0]) ∧ Below w.heap.size w w' := by
  have i0 := jdx0 ea na
  have i1 := jdx1 ea na
  · have hd : Hid (na - ea + n = btw ea na n false true) := hid_mk (by
      rw [btw_pos (by unfold btw1; simp; omega)]
      simp [btw1])
    have hnn : 0 ≤ na - ea + n := by omega
    go_enter Try.func29, Try.ntmps29
    go_wp2_with (go_in)
    refine wp_loop_rounds 3 ?_
    rw [rounds_succ]
    go_wp2_with (go_in)
    rw [rounds_succ]
    go_wp2_with (go_in)
    rw [rounds_succ]
    go_wp2_with (go_in)
    go_ret2
    exact ⟨btw_ret hd.out, (by repeat (first | exact Below.refl _ _ | (refine Below.alloc ?_ (by first | (simp; done) | (simp; omega)) _)))⟩

theorem between_tf (ea na n : Int) (w : World) (h1 : 1 ≤ n) (h2 : n ≤ 32768) (h3 : 0 ≤ ea) (h4 : ea < n) (h5 : 0 ≤ na) (h6 : na < n) :
    Calls Try.prog 29 #[.agg #[.int .i64 ea, .bool true], .agg #[.int .i64 na, .bool false], .int .i64 n] w fun e w' => e = .returned (.tuple #[.int .i64 (btw ea na n true false), .int .i64 0]) ∧ Below w.heap.size w w' := by
  have i0 := jdx0 ea na
  have i1 := jdx1 ea na
  · have hd : Hid (na - ea + n = btw ea na n true false) := hid_mk (by
      rw [btw_pos (by unfold btw1; simp; omega)]
      simp [btw1])
    have hnn : 0 ≤ na - ea + n := by omega
    go_enter Try.func29, Try.ntmps29
    go_wp2_with (go_in)
    refine wp_loop_rounds 3 ?_
    rw [rounds_succ]
    go_wp2_with (go_in)
    rw [rounds_succ]
    go_wp2_with (go_in)
    rw [rounds_succ]
    go_wp2_with (go_in)
    go_ret2
    exact ⟨btw_ret hd.out, (by repeat (first | exact Below.refl _ _ | (refine Below.alloc ?_ (by first | (simp; done) | (simp; omega)) _)))⟩

theorem between_tt (ea na n : Int) (w : World) (h1 : 1 ≤ n) (h2 : n ≤ 32768) (h3 : 0 ≤ ea) (h4 : ea < n) (h5 : 0 ≤ na) (h6 : na < n) :
    Calls Try.prog 29 #[.agg #[.int .i64 ea, .bool true], .agg #[.int .i64 na, .bool true], .int .i64 n] w fun e w' => e = .returned (.tuple #[.int .i64 (btw ea na n true true), .int .i64 0]) ∧ Below w.heap.size w w' := by
  have i0 := jdx0 ea na
  have i1 := jdx1 ea na
  by_cases hneg : na - ea < 0
  · have hd : Hid (na - ea + 2 * n = btw ea na n true true) := hid_mk (by
      rw [btw_neg (by unfold btw1; simp; omega)]
      simp [btw1])
    go_enter Try.func29, Try.ntmps29
    go_wp2_with (go_in)
    refine wp_loop_rounds 3 ?_
    rw [rounds_succ]
    go_wp2_with (go_in)
    rw [rounds_succ]
    go_wp2_with (go_in)
    rw [rounds_succ]
    go_wp2_with (go_in)
    go_ret2
    exact ⟨btw_ret hd.out, (by repeat (first | exact Below.refl _ _ | (refine Below.alloc ?_ (by first | (simp; done) | (simp; omega)) _)))⟩
  · have hd : Hid (na - ea = btw ea na n true true) := hid_mk (by
      rw [btw_pos (by unfold btw1; simp; omega)]
      simp [btw1])
    have hnn : 0 ≤ na - ea := by omega
    go_enter Try.func29, Try.ntmps29
    go_wp2_with (go_in)
    refine wp_loop_rounds 3 ?_
    rw [rounds_succ]
    go_wp2_with (go_in)
    rw [rounds_succ]
    go_wp2_with (go_in)
    rw [rounds_succ]
    go_wp2_with (go_in)
    go_ret2
    exact ⟨btw_ret hd.out, (by repeat (first | exact Below.refl _ _ | (refine Below.alloc ?_ (by first | (simp; done) | (simp; omega)) _)))⟩

theorem between_yes (ea na n : Int) (eb nb : Bool) (w : World) (h1 : 1 ≤ n) (h2 : n ≤ 32768) (h3 : 0 ≤ ea) (h4 : ea < n) (h5 : 0 ≤ na) (h6 : na < n) :
    Calls Try.prog 29 #[.agg #[.int .i64 ea, .bool eb], .agg #[.int .i64 na, .bool nb], .int .i64 n] w fun e w' => e = .returned (.tuple #[.int .i64 (btw ea na n eb nb), .int .i64 0]) ∧ Below w.heap.size w w' := by
  cases eb <;> cases nb
  · exact between_ff ea na n w h1 h2 h3 h4 h5 h6
  · exact between_ft ea na n w h1 h2 h3 h4 h5 h6
  · exact between_tf ea na n w h1 h2 h3 h4 h5 h6
  · exact between_tt ea na n w h1 h2 h3 h4 h5 h6

theorem rbetween_ff (ea na n : Int) (w : World) (h1 : 1 ≤ n) (h2 : n ≤ 32768) (h3 : 0 ≤ ea) (h4 : ea < n) (h5 : 0 ≤ na) (h6 : na < n) :
    Calls Try.prog 30 #[.agg #[.int .i64 ea, .bool false], .agg #[.int .i64 na, .bool false], .int .i64 n] w fun e w' => e = .returned (.tuple #[.int .i64 (btw ea na n false false), .int .i64 0]) ∧ Below w.heap.size w w' := by
  have i0 := jdx0 ea na
  have i1 := jdx1 ea na
  by_cases hneg : na - ea < 0
  · have hd : Hid (na - ea + 2 * n = btw ea na n false false) := hid_mk (by
      rw [btw_neg (by unfold btw1; simp; omega)]
      simp [btw1])
    go_enter Try.func30, Try.ntmps30
    go_wp2_with (go_in)
    go_ret2
    exact ⟨btw_ret hd.out, (by repeat (first | exact Below.refl _ _ | (refine Below.alloc ?_ (by first | (simp; done) | (simp; omega)) _)))⟩
  · have hd : Hid (na - ea = btw ea na n false false) := hid_mk (by
      rw [btw_pos (by unfold btw1; simp; omega)]
      simp [btw1])
    have hnn : 0 ≤ na - ea := by omega
    go_enter Try.func30, Try.ntmps30
    go_wp2_with (go_in)
    go_ret2
    exact ⟨btw_ret hd.out, (by repeat (first | exact Below.refl _ _ | (refine Below.alloc ?_ (by first | (simp; done) | (simp; omega)) _)))⟩

theorem rbetween_ft (ea na n : Int) (w : World) (h1 : 1 ≤ n) (h2 : n ≤ 32768) (h3 : 0 ≤ ea) (h4 : ea < n) (h5 : 0 ≤ na) (h6 : na < n) :
    Calls Try.prog 30 #[.agg #[.int .i64 ea, .bool false], .agg #[.int .i64 na, .bool true], .int .i64 n] w fun e w' => e = .returned (.tuple #[.int .i64 (btw ea na n false true), .int .i64 0]) ∧ Below w.heap.size w w' := by
  have i0 := jdx0 ea na
  have i1 := jdx1 ea na
  · have hd : Hid (na - ea + n = btw ea na n false true) := hid_mk (by
      rw [btw_pos (by unfold btw1; simp; omega)]
      simp [btw1])
    have hnn : 0 ≤ na - ea + n := by omega
    go_enter Try.func30, Try.ntmps30
    go_wp2_with (go_in)
    go_ret2
    exact ⟨btw_ret hd.out, (by repeat (first | exact Below.refl _ _ | (refine Below.alloc ?_ (by first | (simp; done) | (simp; omega)) _)))⟩

theorem rbetween_tf (ea na n : Int) (w : World) (h1 : 1 ≤ n) (h2 : n ≤ 32768) (h3 : 0 ≤ ea) (h4 : ea < n) (h5 : 0 ≤ na) (h6 : na < n) :
    Calls Try.prog 30 #[.agg #[.int .i64 ea, .bool true], .agg #[.int .i64 na, .bool false], .int .i64 n] w fun e w' => e = .returned (.tuple #[.int .i64 (btw ea na n true false), .int .i64 0]) ∧ Below w.heap.size w w' := by
  have i0 := jdx0 ea na
  have i1 := jdx1 ea na
  · have hd : Hid (na - ea + n = btw ea na n true false) := hid_mk (by
      rw [btw_pos (by unfold btw1; simp; omega)]
      simp [btw1])
    have hnn : 0 ≤ na - ea + n := by omega
    go_enter Try.func30, Try.ntmps30
    go_wp2_with (go_in)
    go_ret2
    exact ⟨btw_ret hd.out, (by repeat (first | exact Below.refl _ _ | (refine Below.alloc ?_ (by first | (simp; done) | (simp; omega)) _)))⟩

theorem rbetween_tt (ea na n : Int) (w : World) (h1 : 1 ≤ n) (h2 : n ≤ 32768) (h3 : 0 ≤ ea) (h4 : ea < n) (h5 : 0 ≤ na) (h6 : na < n) :
    Calls Try.prog 30 #[.agg #[.int .i64 ea, .bool true], .agg #[.int .i64 na, .bool true], .int .i64 n] w fun e w' => e = .returned (.tuple #[.int .i64 (btw ea na n true true), .int .i64 0]) ∧ Below w.heap.size w w' := by
  have i0 := jdx0 ea na
  have i1 := jdx1 ea na
  by_cases hneg : na - ea < 0
  · have hd : Hid (na - ea + 2 * n = btw ea na n true true) := hid_mk (by
      rw [btw_neg (by unfold btw1; simp; omega)]
      simp [btw1])
    go_enter Try.func30, Try.ntmps30
    go_wp2_with (go_in)
    go_ret2
    exact ⟨btw_ret hd.out, (by repeat (first | exact Below.refl _ _ | (refine Below.alloc ?_ (by first | (simp; done) | (simp; omega)) _)))⟩
  · have hd : Hid (na - ea = btw ea na n true true) := hid_mk (by
      rw [btw_pos (by unfold btw1; simp; omega)]
      simp [btw1])
    have hnn : 0 ≤ na - ea := by omega
    go_enter Try.func30, Try.ntmps30
    go_wp2_with (go_in)
    go_ret2
    exact ⟨btw_ret hd.out, (by repeat (first | exact Below.refl _ _ | (refine Below.alloc ?_ (by first | (simp; done) | (simp; omega)) _)))⟩

theorem rbetween_yes (ea na n : Int) (eb nb : Bool) (w : World) (h1 : 1 ≤ n) (h2 : n ≤ 32768) (h3 : 0 ≤ ea) (h4 : ea < n) (h5 : 0 ≤ na) (h6 : na < n) :
    Calls Try.prog 30 #[.agg #[.int .i64 ea, .bool eb], .agg #[.int .i64 na, .bool nb], .int .i64 n] w fun e w' => e = .returned (.tuple #[.int .i64 (btw ea na n eb nb), .int .i64 0]) ∧ Below w.heap.size w w' := by
  cases eb <;> cases nb
  · exact rbetween_ff ea na n w h1 h2 h3 h4 h5 h6
  · exact rbetween_ft ea na n w h1 h2 h3 h4 h5 h6
  · exact rbetween_tf ea na n w h1 h2 h3 h4 h5 h6
  · exact rbetween_tt ea na n w h1 h2 h3 h4 h5 h6

theorem between_no (ea na n : Int) (eb nb : Bool) (w : World) (h : (n < 1 ∨ 32768 < n ∨ ea < 0 ∨ n ≤ ea) ∨ (n < 1 ∨ 32768 < n ∨ na < 0 ∨ n ≤ na)) :
    Calls Try.prog 29 #[.agg #[.int .i64 ea, .bool eb], .agg #[.int .i64 na, .bool nb], .int .i64 n] w fun e w' => e = .returned (.tuple #[.int .i64 0, .int .i64 2]) ∧ Below w.heap.size w w' := by
  have i0 := jdx0 ea na
  have i1 := jdx1 ea na
  by_cases hc : n < 1 ∨ 32768 < n ∨ ea < 0 ∨ n ≤ ea
  · clear h
    go_enter Try.func29, Try.ntmps29
    go_wp2_with fail
    refine wp_loop_rounds 3 ?_
    rw [rounds_succ]
    go_wp2_with (go_at_call 20; refine (check_no _ _ _ _ hc).mono ?_; rintro e w1 ⟨rfl, hb⟩)
    go_ret2
    exact ⟨rfl, (Below.trans (by repeat (first | exact Below.refl _ _ | (refine Below.alloc ?_ (by first | (simp; done) | (simp; omega)) _))) (hb.mono (by first | (simp; done) | (simp; omega))))⟩
  · have hn : n < 1 ∨ 32768 < n ∨ na < 0 ∨ n ≤ na := by omega
    have h1 : 1 ≤ n := by omega
    have h2 : n ≤ 32768 := by omega
    have h3 : 0 ≤ ea := by omega
    have h4 : ea < n := by omega
    clear h hc
    go_enter Try.func29, Try.ntmps29
    go_wp2_with fail
    refine wp_loop_rounds 3 ?_
    rw [rounds_succ]
    go_wp2_with (go_in)
    rw [rounds_succ]
    go_wp2_with (go_at_call 20; refine (check_no _ _ _ _ hn).mono ?_; rintro e w1 ⟨rfl, hb⟩)
    go_ret2
    exact ⟨rfl, (Below.trans (by repeat (first | exact Below.refl _ _ | (refine Below.alloc ?_ (by first | (simp; done) | (simp; omega)) _))) (hb.mono (by first | (simp; done) | (simp; omega))))⟩

theorem rbetween_no (ea na n : Int) (eb nb : Bool) (w : World) (h : (n < 1 ∨ 32768 < n ∨ ea < 0 ∨ n ≤ ea) ∨ (n < 1 ∨ 32768 < n ∨ na < 0 ∨ n ≤ na)) :
    Calls Try.prog 30 #[.agg #[.int .i64 ea, .bool eb], .agg #[.int .i64 na, .bool nb], .int .i64 n] w fun e w' => e = .returned (.tuple #[.int .i64 0, .int .i64 2]) ∧ Below w.heap.size w w' := by
  by_cases hc : n < 1 ∨ 32768 < n ∨ ea < 0 ∨ n ≤ ea
  · clear h
    go_enter Try.func30, Try.ntmps30
    go_wp2_with (go_at_call 21; refine (rcheck_no _ _ _ _ hc).mono ?_; rintro e w1 ⟨rfl, hb⟩)
    go_ret2
    exact ⟨rfl, (Below.trans (by repeat (first | exact Below.refl _ _ | (refine Below.alloc ?_ (by first | (simp; done) | (simp; omega)) _))) (hb.mono (by first | (simp; done) | (simp; omega))))⟩
  · have hn : n < 1 ∨ 32768 < n ∨ na < 0 ∨ n ≤ na := by omega
    have h1 : 1 ≤ n := by omega
    have h2 : n ≤ 32768 := by omega
    have h3 : 0 ≤ ea := by omega
    have h4 : ea < n := by omega
    clear h hc
    go_enter Try.func30, Try.ntmps30
    go_wp2_with fail
    go_in
    go_wp2_with (first | (go_at_call 21; refine (rcheck_no _ _ _ _ hn).mono ?_; rintro e w1 ⟨rfl, hb⟩) | (go_at_call 36; go_in))
    go_ret2
    exact ⟨rfl, (Below.trans (by repeat (first | exact Below.refl _ _ | (refine Below.alloc ?_ (by first | (simp; done) | (simp; omega)) _))) (hb.mono (by first | (simp; done) | (simp; omega))))⟩

theorem rneedAt_no (ea na d n : Int) (eb nb : Bool) (w : World) (h : (n < 1 ∨ 32768 < n ∨ ea < 0 ∨ n ≤ ea) ∨ (n < 1 ∨ 32768 < n ∨ na < 0 ∨ n ≤ na) ∨ d < 0 ∨ n < d) :
    Calls Try.prog 28 #[.agg #[.int .i64 ea, .bool eb], .agg #[.int .i64 na, .bool nb], .int .i64 d, .int .i64 n] w fun e w' => e = .returned (.tuple #[.bool false, .int .i64 2]) ∧ Below w.heap.size w w' := by
  by_cases hc : n < 1 ∨ 32768 < n ∨ ea < 0 ∨ n ≤ ea
  · clear h
    go_enter Try.func28, Try.ntmps28
    go_wp2_with (go_at_call 21; refine (rcheck_no _ _ _ _ hc).mono ?_; rintro e w1 ⟨rfl, hb⟩)
    go_ret2
    exact ⟨rfl, (Below.trans (by repeat (first | exact Below.refl _ _ | (refine Below.alloc ?_ (by first | (simp; done) | (simp; omega)) _))) (hb.mono (by first | (simp; done) | (simp; omega))))⟩
  · have h1 : 1 ≤ n := by omega
    have h2 : n ≤ 32768 := by omega
    have h3 : 0 ≤ ea := by omega
    have h4 : ea < n := by omega
    by_cases hn : n < 1 ∨ 32768 < n ∨ na < 0 ∨ n ≤ na
    · clear h hc
      go_enter Try.func28, Try.ntmps28
      go_wp2_with fail
      go_in
      go_wp2_with (first | (go_at_call 21; refine (rcheck_no _ _ _ _ hn).mono ?_; rintro e w1 ⟨rfl, hb⟩) | (go_at_call 36; go_in))
      go_ret2
      exact ⟨rfl, (Below.trans (by repeat (first | exact Below.refl _ _ | (refine Below.alloc ?_ (by first | (simp; done) | (simp; omega)) _))) (hb.mono (by first | (simp; done) | (simp; omega))))⟩
    · have h5 : 0 ≤ na := by omega
      have h6 : na < n := by omega
      by_cases hd : d < 0
      · clear h hc hn
        go_enter Try.func28, Try.ntmps28
        go_wp2_with (go_in)
        go_ret2
        exact ⟨rfl, (by repeat (first | exact Below.refl _ _ | (refine Below.alloc ?_ (by first | (simp; done) | (simp; omega)) _)))⟩
      · have hd2 : n < d := by omega
        have hd3 : 0 ≤ d := by omega
        clear h hc hn hd
        go_enter Try.func28, Try.ntmps28
        go_wp2_with (go_in)
        go_ret2
        exact ⟨rfl, (by repeat (first | exact Below.refl _ _ | (refine Below.alloc ?_ (by first | (simp; done) | (simp; omega)) _)))⟩

end Go.Proofs.Ytomeodmadnobfaa
