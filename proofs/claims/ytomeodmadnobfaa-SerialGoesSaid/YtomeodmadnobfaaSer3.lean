/- Contracts of serial.Word, Read, Power, Align and of the reference's: results, and old memory stays. Conditions: as each theorem names them. -/
import Derived.Test.YtomeodmadnobfaaSer2
namespace Go.Proofs.Ytomeodmadnobfaa
open Go.ChangeShapes Go.WideShapes Go.ChangeAt Go.RowKit
set_option linter.unusedVariables false

def wordI (a : Int) (b : Bool) : Int := a % 32768 + if b then 32768 else 0
theorem word_f (a : Int) : bits .andNot .u16 (IntKind.u16.wrap a) 32768 = wordI a false := by
  rw [IntKind.wrap_u16, u16_low15 _ (by omega) (by omega)]
  unfold wordI
  simp <;> omega
theorem word_t (a : Int) : bits .or .u16 (bits .andNot .u16 (IntKind.u16.wrap a) 32768) 32768 = wordI a true := by
  rw [IntKind.wrap_u16, u16_low15 _ (by omega) (by omega), u16_or15 _ (by omega) (by omega)]
  unfold wordI
  simp <;> omega
theorem rword_f (a : Int) : IntKind.u16.wrap (bits BinOp.and IntKind.i64 a 32767) = wordI a false := by
  rw [i64_low15, IntKind.wrap_u16]
  unfold wordI
  simp <;> omega
theorem rword_t (a : Int) : IntKind.u16.wrap (IntKind.u16.wrap (bits BinOp.and IntKind.i64 a 32767) + 32768) = wordI a true := by
  rw [i64_low15, IntKind.wrap_u16, IntKind.wrap_u16]
  unfold wordI
  simp <;> omega

theorem word_any (a : Int) (b : Bool) (w : World) :
    Calls Try.prog 22 #[.agg #[.int .i64 a, .bool b]] w fun e w' => e = .returned (.int .u16 (wordI a b)) ∧ Below w.heap.size w w' := by
  cases b
  · go_enter Try.func22, Try.ntmps22
    go_wp2
    go_ret
    exact ⟨congrArg (fun x => Ending.returned (Value.int .u16 x)) (word_f a), (Below.refl _ _).alloc (Nat.le_refl _) _⟩
  · go_enter Try.func22, Try.ntmps22
    go_wp2
    go_ret
    exact ⟨congrArg (fun x => Ending.returned (Value.int .u16 x)) (word_t a), (Below.refl _ _).alloc (Nat.le_refl _) _⟩

theorem rword_any (a : Int) (b : Bool) (w : World) :
    Calls Try.prog 23 #[.agg #[.int .i64 a, .bool b]] w fun e w' => e = .returned (.int .u16 (wordI a b)) ∧ Below w.heap.size w w' := by
  cases b
  · go_enter Try.func23, Try.ntmps23
    go_wp2
    go_ret
    exact ⟨congrArg (fun x => Ending.returned (Value.int .u16 x)) (rword_f a), (Below.refl _ _).alloc (Nat.le_refl _) _⟩
  · go_enter Try.func23, Try.ntmps23
    go_wp2
    go_ret
    exact ⟨congrArg (fun x => Ending.returned (Value.int .u16 x)) (rword_t a), (Below.refl _ _).alloc (Nat.le_refl _) _⟩

theorem bit15_ne (x : Int) (h0 : 0 ≤ x) (h1 : x < 65536) : (bits .and .u16 x 32768 != 0) = decide (32768 ≤ x) := by
  rw [u16_bit15 x h0 h1]
  by_cases h : 32768 ≤ x
  · simp [h]
    omega
  · simp [h]
    omega

theorem read_yes (x n : Int) (w : World) (h0 : 0 ≤ x) (h1 : x < 65536) (h2 : 1 ≤ n) (h3 : n ≤ 32768) (h4 : x % 32768 < n) :
    Calls Try.prog 11 #[.int .u16 x, .int .i64 n] w fun e w' => e = .returned (.tuple #[.agg #[.int .i64 (x % 32768), .bool (decide (32768 ≤ x))], .int .i64 0]) ∧ Below w.heap.size w w' := by
  have e1 := u16_low15 x h0 h1
  have e2 := bit15_ne x h0 h1
  go_enter Try.func11, Try.ntmps11
  go_wp2
  exact bodyPost_ret (v := .tuple #[.agg #[.int .i64 (x % 32768), .bool (decide (32768 ≤ x))], .int .i64 0]) (by simp [results, Try.results11, go_sem]) rfl ⟨rfl, (by repeat (first | exact Below.refl _ _ | (refine Below.alloc ?_ (by first | (simp; done) | (simp; omega)) _)))⟩

theorem read_bad (x n : Int) (w : World) (h0 : 0 ≤ x) (h1 : x < 65536) (h2 : 1 ≤ n) (h3 : n ≤ 32768) (h4 : n ≤ x % 32768) :
    Calls Try.prog 11 #[.int .u16 x, .int .i64 n] w fun e w' => e = .returned (.tuple #[.agg #[.int .i64 0, .bool false], .int .i64 4]) ∧ Below w.heap.size w w' := by
  have e1 := u16_low15 x h0 h1
  have e2 := bit15_ne x h0 h1
  go_enter Try.func11, Try.ntmps11
  go_wp2
  exact bodyPost_ret (v := .tuple #[.agg #[.int .i64 0, .bool false], .int .i64 4]) (by simp [results, Try.results11, go_sem]) rfl ⟨rfl, (by repeat (first | exact Below.refl _ _ | (refine Below.alloc ?_ (by first | (simp; done) | (simp; omega)) _)))⟩

theorem read_arg (x n : Int) (w : World) (h : n < 1 ∨ 32768 < n) :
    Calls Try.prog 11 #[.int .u16 x, .int .i64 n] w fun e w' => e = .returned (.tuple #[.agg #[.int .i64 0, .bool false], .int .i64 2]) ∧ Below w.heap.size w w' := by
  go_enter Try.func11, Try.ntmps11
  go_wp2_with (go_at_call 34; refine (validSize_no _ _ h).mono ?_; rintro e w' ⟨rfl, rfl⟩)
  exact bodyPost_ret (v := .tuple #[.agg #[.int .i64 0, .bool false], .int .i64 2]) (by simp [results, Try.results11, go_sem]) rfl ⟨rfl, (by repeat (first | exact Below.refl _ _ | (refine Below.alloc ?_ (by first | (simp; done) | (simp; omega)) _)))⟩

theorem rread_yes (x n : Int) (w : World) (h0 : 0 ≤ x) (h1 : x < 65536) (h2 : 1 ≤ n) (h3 : n ≤ 32768) (h4 : x % 32768 < n) :
    Calls Try.prog 26 #[.int .u16 x, .int .i64 n] w fun e w' => e = .returned (.tuple #[.agg #[.int .i64 (x % 32768), .bool (decide (32768 ≤ x))], .int .i64 0]) ∧ Below w.heap.size w w' := by
  go_enter Try.func26, Try.ntmps26
  go_wp2
  exact bodyPost_ret (v := .tuple #[.agg #[.int .i64 (x % 32768), .bool (decide (32768 ≤ x))], .int .i64 0]) (by simp [results, Try.results26, go_sem]) rfl ⟨rfl, (by repeat (first | exact Below.refl _ _ | (refine Below.alloc ?_ (by first | (simp; done) | (simp; omega)) _)))⟩

theorem rread_bad (x n : Int) (w : World) (h0 : 0 ≤ x) (h1 : x < 65536) (h2 : 1 ≤ n) (h3 : n ≤ 32768) (h4 : n ≤ x % 32768) :
    Calls Try.prog 26 #[.int .u16 x, .int .i64 n] w fun e w' => e = .returned (.tuple #[.agg #[.int .i64 0, .bool false], .int .i64 4]) ∧ Below w.heap.size w w' := by
  go_enter Try.func26, Try.ntmps26
  go_wp2
  exact bodyPost_ret (v := .tuple #[.agg #[.int .i64 0, .bool false], .int .i64 4]) (by simp [results, Try.results26, go_sem]) rfl ⟨rfl, (by repeat (first | exact Below.refl _ _ | (refine Below.alloc ?_ (by first | (simp; done) | (simp; omega)) _)))⟩

theorem rread_arg (x n : Int) (w : World) (h : n < 1 ∨ 32768 < n) :
    Calls Try.prog 26 #[.int .u16 x, .int .i64 n] w fun e w' => e = .returned (.tuple #[.agg #[.int .i64 0, .bool false], .int .i64 2]) ∧ Below w.heap.size w w' := by
  go_enter Try.func26, Try.ntmps26
  go_wp2_with (go_at_call 36; refine (rsize_no _ _ h).mono ?_; rintro e w' ⟨rfl, rfl⟩)
  exact bodyPost_ret (v := .tuple #[.agg #[.int .i64 0, .bool false], .int .i64 2]) (by simp [results, Try.results26, go_sem]) rfl ⟨rfl, (by repeat (first | exact Below.refl _ _ | (refine Below.alloc ?_ (by first | (simp; done) | (simp; omega)) _)))⟩

end Go.Proofs.Ytomeodmadnobfaa
