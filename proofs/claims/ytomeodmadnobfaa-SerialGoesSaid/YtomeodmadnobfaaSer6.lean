/- Contracts of serial.NeedAt, Between and of the reference's: results, and old memory stays. Conditions: as each theorem names them. -/
import Derived.Test.YtomeodmadnobfaaSer5
namespace Go.Proofs.Ytomeodmadnobfaa
open Go.ChangeShapes Go.WideShapes Go.ChangeAt Go.RowKit
set_option linter.unusedVariables false

theorem idx0 (ea na : Int) (eb nb : Bool) (w : World) : (Instr.index 52 (.agg #[.int .i64 ea, .bool eb, .int .i64 na, .bool nb]) (.int .i64 0)).run Try.prog w = .ok (.agg #[.int .i64 ea, .bool eb]) w := by kernel_rfl
theorem idx1 (ea na : Int) (eb nb : Bool) (w : World) : (Instr.index 52 (.agg #[.int .i64 ea, .bool eb, .int .i64 na, .bool nb]) (.int .i64 1)).run Try.prog w = .ok (.agg #[.int .i64 na, .bool nb]) w := by kernel_rfl

/-- the answer of NeedAt, of positions that are valid -/
def needAtB (ea na d n : Int) (eb nb : Bool) : Bool := needB (if eb = nb then ea else IntKind.u16.wrap (ea - n)) na (IntKind.u16.wrap (na - d))
theorem needAt_ret {a b : Bool} (h : a = b) : Ending.returned (.tuple #[.bool a, .int .i64 0]) = .returned (.tuple #[.bool b, .int .i64 0]) := by rw [h]
theorem low16_same (x : Int) (h0 : 0 ≤ x) (h1 : x < 65536) : x % 65536 = x := Int.emod_eq_of_lt h0 h1

theorem needAt_ff (ea na d n : Int) (w : World) (h1 : 1 ≤ n) (h2 : n ≤ 32768) (h3 : 0 ≤ ea) (h4 : ea < n) (h5 : 0 ≤ na) (h6 : na < n) (h7 : 0 ≤ d) (h8 : d ≤ n) :
    Calls Try.prog 27 #[.agg #[.int .i64 ea, .bool false], .agg #[.int .i64 na, .bool false], .int .i64 d, .int .i64 n] w fun e w' => e = .returned (.tuple #[.bool (needAtB ea na d n false false), .int .i64 0]) ∧ Below w.heap.size w w' := by
  have i0 := idx0 ea na
  have i1 := idx1 ea na
  go_enter Try.func27, Try.ntmps27
  go_wp2_with (go_at_call 18; refine (need_any _ _ _ _).mono ?_; rintro e w' ⟨rfl, rfl⟩)
  refine wp_loop_rounds 3 ?_
  rw [rounds_succ]
  go_wp2_with (first | (go_at_call 18; refine (need_any _ _ _ _).mono ?_; rintro e w' ⟨rfl, rfl⟩) | go_in)
  rw [rounds_succ]
  go_wp2_with (first | (go_at_call 18; refine (need_any _ _ _ _).mono ?_; rintro e w' ⟨rfl, rfl⟩) | go_in)
  rw [rounds_succ]
  go_wp2_with (first | (go_at_call 18; refine (need_any _ _ _ _).mono ?_; rintro e w' ⟨rfl, rfl⟩) | go_in)
  go_ret2
  exact ⟨needAt_ret (by unfold needAtB; simp), (by repeat (first | exact Below.refl _ _ | (refine Below.alloc ?_ (by first | (simp; done) | (simp; omega)) _)))⟩

theorem rneedAt_ff (ea na d n : Int) (w : World) (h1 : 1 ≤ n) (h2 : n ≤ 32768) (h3 : 0 ≤ ea) (h4 : ea < n) (h5 : 0 ≤ na) (h6 : na < n) (h7 : 0 ≤ d) (h8 : d ≤ n) :
    Calls Try.prog 28 #[.agg #[.int .i64 ea, .bool false], .agg #[.int .i64 na, .bool false], .int .i64 d, .int .i64 n] w fun e w' => e = .returned (.tuple #[.bool (needAtB ea na d n false false), .int .i64 0]) ∧ Below w.heap.size w w' := by
  have i2 := i64_low16
  go_enter Try.func28, Try.ntmps28
  go_wp2_with (first | (go_at_call 19; refine (rneed_any _ _ _ _).mono ?_; rintro e w' ⟨rfl, rfl⟩) | go_in)
  go_ret2
  exact ⟨needAt_ret (by unfold needAtB; simp [IntKind.wrap_u16, low16_same ea h3 (by omega)]), (by repeat (first | exact Below.refl _ _ | (refine Below.alloc ?_ (by first | (simp; done) | (simp; omega)) _)))⟩

theorem needAt_ft (ea na d n : Int) (w : World) (h1 : 1 ≤ n) (h2 : n ≤ 32768) (h3 : 0 ≤ ea) (h4 : ea < n) (h5 : 0 ≤ na) (h6 : na < n) (h7 : 0 ≤ d) (h8 : d ≤ n) :
    Calls Try.prog 27 #[.agg #[.int .i64 ea, .bool false], .agg #[.int .i64 na, .bool true], .int .i64 d, .int .i64 n] w fun e w' => e = .returned (.tuple #[.bool (needAtB ea na d n false true), .int .i64 0]) ∧ Below w.heap.size w w' := by
  have i0 := idx0 ea na
  have i1 := idx1 ea na
  go_enter Try.func27, Try.ntmps27
  go_wp2_with (go_at_call 18; refine (need_any _ _ _ _).mono ?_; rintro e w' ⟨rfl, rfl⟩)
  refine wp_loop_rounds 3 ?_
  rw [rounds_succ]
  go_wp2_with (first | (go_at_call 18; refine (need_any _ _ _ _).mono ?_; rintro e w' ⟨rfl, rfl⟩) | go_in)
  rw [rounds_succ]
  go_wp2_with (first | (go_at_call 18; refine (need_any _ _ _ _).mono ?_; rintro e w' ⟨rfl, rfl⟩) | go_in)
  rw [rounds_succ]
  go_wp2_with (first | (go_at_call 18; refine (need_any _ _ _ _).mono ?_; rintro e w' ⟨rfl, rfl⟩) | go_in)
  go_ret2
  exact ⟨needAt_ret (by unfold needAtB; simp), (by repeat (first | exact Below.refl _ _ | (refine Below.alloc ?_ (by first | (simp; done) | (simp; omega)) _)))⟩

theorem rneedAt_ft (ea na d n : Int) (w : World) (h1 : 1 ≤ n) (h2 : n ≤ 32768) (h3 : 0 ≤ ea) (h4 : ea < n) (h5 : 0 ≤ na) (h6 : na < n) (h7 : 0 ≤ d) (h8 : d ≤ n) :
    Calls Try.prog 28 #[.agg #[.int .i64 ea, .bool false], .agg #[.int .i64 na, .bool true], .int .i64 d, .int .i64 n] w fun e w' => e = .returned (.tuple #[.bool (needAtB ea na d n false true), .int .i64 0]) ∧ Below w.heap.size w w' := by
  have i2 := i64_low16
  go_enter Try.func28, Try.ntmps28
  go_wp2_with (first | (go_at_call 19; refine (rneed_any _ _ _ _).mono ?_; rintro e w' ⟨rfl, rfl⟩) | go_in)
  go_ret2
  exact ⟨needAt_ret (by unfold needAtB; simp [IntKind.wrap_u16]), (by repeat (first | exact Below.refl _ _ | (refine Below.alloc ?_ (by first | (simp; done) | (simp; omega)) _)))⟩

theorem needAt_tf (ea na d n : Int) (w : World) (h1 : 1 ≤ n) (h2 : n ≤ 32768) (h3 : 0 ≤ ea) (h4 : ea < n) (h5 : 0 ≤ na) (h6 : na < n) (h7 : 0 ≤ d) (h8 : d ≤ n) :
    Calls Try.prog 27 #[.agg #[.int .i64 ea, .bool true], .agg #[.int .i64 na, .bool false], .int .i64 d, .int .i64 n] w fun e w' => e = .returned (.tuple #[.bool (needAtB ea na d n true false), .int .i64 0]) ∧ Below w.heap.size w w' := by
  have i0 := idx0 ea na
  have i1 := idx1 ea na
  go_enter Try.func27, Try.ntmps27
  go_wp2_with (go_at_call 18; refine (need_any _ _ _ _).mono ?_; rintro e w' ⟨rfl, rfl⟩)
  refine wp_loop_rounds 3 ?_
  rw [rounds_succ]
  go_wp2_with (first | (go_at_call 18; refine (need_any _ _ _ _).mono ?_; rintro e w' ⟨rfl, rfl⟩) | go_in)
  rw [rounds_succ]
  go_wp2_with (first | (go_at_call 18; refine (need_any _ _ _ _).mono ?_; rintro e w' ⟨rfl, rfl⟩) | go_in)
  rw [rounds_succ]
  go_wp2_with (first | (go_at_call 18; refine (need_any _ _ _ _).mono ?_; rintro e w' ⟨rfl, rfl⟩) | go_in)
  go_ret2
  exact ⟨needAt_ret (by unfold needAtB; simp), (by repeat (first | exact Below.refl _ _ | (refine Below.alloc ?_ (by first | (simp; done) | (simp; omega)) _)))⟩

theorem rneedAt_tf (ea na d n : Int) (w : World) (h1 : 1 ≤ n) (h2 : n ≤ 32768) (h3 : 0 ≤ ea) (h4 : ea < n) (h5 : 0 ≤ na) (h6 : na < n) (h7 : 0 ≤ d) (h8 : d ≤ n) :
    Calls Try.prog 28 #[.agg #[.int .i64 ea, .bool true], .agg #[.int .i64 na, .bool false], .int .i64 d, .int .i64 n] w fun e w' => e = .returned (.tuple #[.bool (needAtB ea na d n true false), .int .i64 0]) ∧ Below w.heap.size w w' := by
  have i2 := i64_low16
  go_enter Try.func28, Try.ntmps28
  go_wp2_with (first | (go_at_call 19; refine (rneed_any _ _ _ _).mono ?_; rintro e w' ⟨rfl, rfl⟩) | go_in)
  go_ret2
  exact ⟨needAt_ret (by unfold needAtB; simp [IntKind.wrap_u16]), (by repeat (first | exact Below.refl _ _ | (refine Below.alloc ?_ (by first | (simp; done) | (simp; omega)) _)))⟩

theorem needAt_tt (ea na d n : Int) (w : World) (h1 : 1 ≤ n) (h2 : n ≤ 32768) (h3 : 0 ≤ ea) (h4 : ea < n) (h5 : 0 ≤ na) (h6 : na < n) (h7 : 0 ≤ d) (h8 : d ≤ n) :
    Calls Try.prog 27 #[.agg #[.int .i64 ea, .bool true], .agg #[.int .i64 na, .bool true], .int .i64 d, .int .i64 n] w fun e w' => e = .returned (.tuple #[.bool (needAtB ea na d n true true), .int .i64 0]) ∧ Below w.heap.size w w' := by
  have i0 := idx0 ea na
  have i1 := idx1 ea na
  go_enter Try.func27, Try.ntmps27
  go_wp2_with (go_at_call 18; refine (need_any _ _ _ _).mono ?_; rintro e w' ⟨rfl, rfl⟩)
  refine wp_loop_rounds 3 ?_
  rw [rounds_succ]
  go_wp2_with (first | (go_at_call 18; refine (need_any _ _ _ _).mono ?_; rintro e w' ⟨rfl, rfl⟩) | go_in)
  rw [rounds_succ]
  go_wp2_with (first | (go_at_call 18; refine (need_any _ _ _ _).mono ?_; rintro e w' ⟨rfl, rfl⟩) | go_in)
  rw [rounds_succ]
  go_wp2_with (first | (go_at_call 18; refine (need_any _ _ _ _).mono ?_; rintro e w' ⟨rfl, rfl⟩) | go_in)
  go_ret2
  exact ⟨needAt_ret (by unfold needAtB; simp), (by repeat (first | exact Below.refl _ _ | (refine Below.alloc ?_ (by first | (simp; done) | (simp; omega)) _)))⟩

theorem rneedAt_tt (ea na d n : Int) (w : World) (h1 : 1 ≤ n) (h2 : n ≤ 32768) (h3 : 0 ≤ ea) (h4 : ea < n) (h5 : 0 ≤ na) (h6 : na < n) (h7 : 0 ≤ d) (h8 : d ≤ n) :
    Calls Try.prog 28 #[.agg #[.int .i64 ea, .bool true], .agg #[.int .i64 na, .bool true], .int .i64 d, .int .i64 n] w fun e w' => e = .returned (.tuple #[.bool (needAtB ea na d n true true), .int .i64 0]) ∧ Below w.heap.size w w' := by
  have i2 := i64_low16
  go_enter Try.func28, Try.ntmps28
  go_wp2_with (first | (go_at_call 19; refine (rneed_any _ _ _ _).mono ?_; rintro e w' ⟨rfl, rfl⟩) | go_in)
  go_ret2
  exact ⟨needAt_ret (by unfold needAtB; simp [IntKind.wrap_u16, low16_same ea h3 (by omega)]), (by repeat (first | exact Below.refl _ _ | (refine Below.alloc ?_ (by first | (simp; done) | (simp; omega)) _)))⟩

theorem needAt_yes (ea na d n : Int) (eb nb : Bool) (w : World) (h1 : 1 ≤ n) (h2 : n ≤ 32768) (h3 : 0 ≤ ea) (h4 : ea < n) (h5 : 0 ≤ na) (h6 : na < n) (h7 : 0 ≤ d) (h8 : d ≤ n) :
    Calls Try.prog 27 #[.agg #[.int .i64 ea, .bool eb], .agg #[.int .i64 na, .bool nb], .int .i64 d, .int .i64 n] w fun e w' => e = .returned (.tuple #[.bool (needAtB ea na d n eb nb), .int .i64 0]) ∧ Below w.heap.size w w' := by
  cases eb <;> cases nb
  · exact needAt_ff ea na d n w h1 h2 h3 h4 h5 h6 h7 h8
  · exact needAt_ft ea na d n w h1 h2 h3 h4 h5 h6 h7 h8
  · exact needAt_tf ea na d n w h1 h2 h3 h4 h5 h6 h7 h8
  · exact needAt_tt ea na d n w h1 h2 h3 h4 h5 h6 h7 h8

theorem rneedAt_yes (ea na d n : Int) (eb nb : Bool) (w : World) (h1 : 1 ≤ n) (h2 : n ≤ 32768) (h3 : 0 ≤ ea) (h4 : ea < n) (h5 : 0 ≤ na) (h6 : na < n) (h7 : 0 ≤ d) (h8 : d ≤ n) :
    Calls Try.prog 28 #[.agg #[.int .i64 ea, .bool eb], .agg #[.int .i64 na, .bool nb], .int .i64 d, .int .i64 n] w fun e w' => e = .returned (.tuple #[.bool (needAtB ea na d n eb nb), .int .i64 0]) ∧ Below w.heap.size w w' := by
  cases eb <;> cases nb
  · exact rneedAt_ff ea na d n w h1 h2 h3 h4 h5 h6 h7 h8
  · exact rneedAt_ft ea na d n w h1 h2 h3 h4 h5 h6 h7 h8
  · exact rneedAt_tf ea na d n w h1 h2 h3 h4 h5 h6 h7 h8
  · exact rneedAt_tt ea na d n w h1 h2 h3 h4 h5 h6 h7 h8

theorem needAt_no (ea na d n : Int) (eb nb : Bool) (w : World) (h : (n < 1 ∨ 32768 < n ∨ ea < 0 ∨ n ≤ ea) ∨ (n < 1 ∨ 32768 < n ∨ na < 0 ∨ n ≤ na) ∨ d < 0 ∨ n < d) :
    Calls Try.prog 27 #[.agg #[.int .i64 ea, .bool eb], .agg #[.int .i64 na, .bool nb], .int .i64 d, .int .i64 n] w fun e w' => e = .returned (.tuple #[.bool false, .int .i64 2]) ∧ Below w.heap.size w w' := by
  have i0 := idx0 ea na
  have i1 := idx1 ea na
  by_cases hc : (n < 1 ∨ 32768 < n ∨ ea < 0 ∨ n ≤ ea) ∨ d < 0 ∨ n < d
  · clear h
    go_enter Try.func27, Try.ntmps27
    go_wp2_with fail
    refine wp_loop_rounds 3 ?_
    rw [rounds_succ]
    go_wp2_with (go_at_call 33; refine (checkMove_no _ _ _ _ _ hc).mono ?_; rintro e w1 ⟨rfl, hb⟩)
    go_ret2
    exact ⟨rfl, (Below.trans (by repeat (first | exact Below.refl _ _ | (refine Below.alloc ?_ (by first | (simp; done) | (simp; omega)) _))) (hb.mono (by first | (simp; done) | (simp; omega))))⟩
  · have hn : (n < 1 ∨ 32768 < n ∨ na < 0 ∨ n ≤ na) ∨ d < 0 ∨ n < d := by omega
    have h1 : 1 ≤ n := by omega
    have h2 : n ≤ 32768 := by omega
    have h3 : 0 ≤ ea := by omega
    have h4 : ea < n := by omega
    have h7 : 0 ≤ d := by omega
    have h8 : d ≤ n := by omega
    clear h hc
    go_enter Try.func27, Try.ntmps27
    go_wp2_with fail
    refine wp_loop_rounds 3 ?_
    rw [rounds_succ]
    go_wp2_with (go_in)
    rw [rounds_succ]
    go_wp2_with (go_at_call 33; refine (checkMove_no _ _ _ _ _ hn).mono ?_; rintro e w1 ⟨rfl, hb⟩)
    go_ret2
    exact ⟨rfl, (Below.trans (by repeat (first | exact Below.refl _ _ | (refine Below.alloc ?_ (by first | (simp; done) | (simp; omega)) _))) (hb.mono (by first | (simp; done) | (simp; omega))))⟩

end Go.Proofs.Ytomeodmadnobfaa
