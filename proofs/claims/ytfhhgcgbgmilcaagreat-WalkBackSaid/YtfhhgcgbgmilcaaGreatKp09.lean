/- Ser1 Ser2 Ser3: joined texts. Conditions: as each theorem names them. -/
import Derived.Test.YtfhhgcgbgmilcaaGreatKp01
import Derived.Test.YtfhhgcgbgmilcaaGreatKp08
import Derived.Test.YtfhhgcgbgmilcaaGreatRows
import Derived.WalkKit
import Derived.ProofKit
import Derived.OpenShut
import Derived.Below
import Derived.Deep.DeepCutAuto
/- Contracts of package serial's functions, of the reference's and of the kit's: what each call returns, and that it leaves old memory alone. Conditions: as each theorem names them. -/
namespace Go.Proofs.YtfhhgcgbgmilcaaGreat
open Go.ChangeShapes Go.WideShapes Go.ChangeAt Go.RowKit
set_option linter.unusedVariables false

/-! ## numbers -/
theorem validSize_yes (n : Int) (w : World) (h1 : 1 ≤ n) (h2 : n ≤ 32768) :
    Calls Tryz.prog 80 #[.int .i64 n] w fun e w' => e = .returned (.bool true) ∧ w = w' := by
  go_enter Tryz.func80, Tryz.ntmps80
  go_wp2
  go_ret
  exact ⟨rfl, rfl⟩

theorem validSize_no (n : Int) (w : World) (h : n < 1 ∨ 32768 < n) :
    Calls Tryz.prog 80 #[.int .i64 n] w fun e w' => e = .returned (.bool false) ∧ w = w' := by
  rcases h with h | h
  · go_enter Tryz.func80, Tryz.ntmps80
    go_wp2
    go_ret
    exact ⟨rfl, rfl⟩
  · have h' : 1 ≤ n := by omega
    go_enter Tryz.func80, Tryz.ntmps80
    go_wp2
    go_ret
    exact ⟨by simp; omega, rfl⟩

def sub16 (a b : Int) : Int := IntKind.u16.wrap (a - b)
theorem sub16_eq (a b : Int) : sub16 a b = (a - b) % 65536 := IntKind.wrap_u16 _

def needB (event next old : Int) : Bool := decide (sub16 (sub16 next event) 1 < sub16 next old)

/-! ## powers -/
theorem isPower_any (n : Int) (w : World) :
    Calls Tryz.prog 110 #[.int .u64 n] w fun e w' => e = .returned (.bool (powB n)) ∧ w = w' := by
  by_cases h : n = 0
  · subst h
    go_enter Tryz.func110, Tryz.ntmps110
    go_wp2
    go_ret
    exact ⟨rfl, rfl⟩
  · have h0 : (n != 0) = true := by simp [h]
    go_enter Tryz.func110, Tryz.ntmps110
    go_wp2
    go_ret
    exact ⟨by simp [powB, h0], rfl⟩

theorem isPower_yes (n : Int) (w : World) (h : powB n = true) :
    Calls Tryz.prog 110 #[.int .u64 n] w fun e w' => e = .returned (.bool true) ∧ w = w' := by
  rw [← h]
  exact isPower_any n w
theorem isPower_no (n : Int) (w : World) (h : powB n = false) :
    Calls Tryz.prog 110 #[.int .u64 n] w fun e w' => e = .returned (.bool false) ∧ w = w' := by
  rw [← h]
  exact isPower_any n w

end Go.Proofs.YtfhhgcgbgmilcaaGreat

/- Contracts of serial.Check, checkMove, Go, Word, Read and of the reference's: results, and old memory stays. Conditions: as each theorem names them. -/
namespace Go.Proofs.YtfhhgcgbgmilcaaGreat
open Go.ChangeShapes Go.WideShapes Go.ChangeAt Go.RowKit
set_option linter.unusedVariables false

abbrev pos (a : Int) (b : Bool) : Value := .agg #[.int .i64 a, .bool b]

theorem check_yes (p n : Int) (b : Bool) (w : World) (h1 : 1 ≤ n) (h2 : n ≤ 32768) (h3 : 0 ≤ p) (h4 : p < n) :
    Calls Tryz.prog 45 #[.agg #[.int .i64 p, .bool b], .int .i64 n] w fun e w' => e = .returned (.int .i64 0) ∧ Below w.heap.size w w' := by
  go_enter Tryz.func45, Tryz.ntmps45
  go_wp2_with (go_at_call 80; refine (validSize_yes _ _ (by omega) (by omega)).mono ?_; rintro e w' ⟨rfl, rfl⟩)
  go_ret
  exact ⟨rfl, (Below.refl _ _).alloc (Nat.le_refl _) _⟩

theorem check_no (p n : Int) (b : Bool) (w : World) (h : n < 1 ∨ 32768 < n ∨ p < 0 ∨ n ≤ p) :
    Calls Tryz.prog 45 #[.agg #[.int .i64 p, .bool b], .int .i64 n] w fun e w' => e = .returned (.int .i64 2) ∧ Below w.heap.size w w' := by
  by_cases hn : n < 1 ∨ 32768 < n
  · go_enter Tryz.func45, Tryz.ntmps45
    go_wp2_with (go_at_call 80; refine (validSize_no _ _ hn).mono ?_; rintro e w' ⟨rfl, rfl⟩)
    go_ret
    exact ⟨rfl, (Below.refl _ _).alloc (Nat.le_refl _) _⟩
  · by_cases hp : p < 0
    · go_enter Tryz.func45, Tryz.ntmps45
      go_wp2_with (go_at_call 80; refine (validSize_yes _ _ (by omega) (by omega)).mono ?_; rintro e w' ⟨rfl, rfl⟩)
      go_ret
      exact ⟨rfl, (Below.refl _ _).alloc (Nat.le_refl _) _⟩
    · have hnp : n ≤ p := by omega
      go_enter Tryz.func45, Tryz.ntmps45
      go_wp2_with (go_at_call 80; refine (validSize_yes _ _ (by omega) (by omega)).mono ?_; rintro e w' ⟨rfl, rfl⟩)
      go_ret
      exact ⟨rfl, (Below.refl _ _).alloc (Nat.le_refl _) _⟩

/-- may a position be moved so? -/
def movable (p by' n : Int) : Prop := 1 ≤ n ∧ n ≤ 32768 ∧ 0 ≤ p ∧ p < n ∧ 0 ≤ by' ∧ by' ≤ n

theorem checkMove_yes (p d n : Int) (b : Bool) (w : World) (h1 : 1 ≤ n) (h2 : n ≤ 32768) (h3 : 0 ≤ p) (h4 : p < n) (h5 : 0 ≤ d) (h6 : d ≤ n) :
    Calls Tryz.prog 101 #[.agg #[.int .i64 p, .bool b], .int .i64 d, .int .i64 n] w fun e w' => e = .returned (.int .i64 0) ∧ Below w.heap.size w w' := by
  go_enter Tryz.func101, Tryz.ntmps101
  go_wp2_with (go_at_call 45; refine (check_yes _ _ _ _ (by omega) (by omega) (by omega) (by omega)).mono ?_; rintro e w' ⟨rfl, hb⟩)
  go_ret
  exact ⟨rfl, ((Below.refl _ _).alloc (Nat.le_refl _) _).trans (hb.mono (by simp))⟩

theorem checkMove_no (p d n : Int) (b : Bool) (w : World) (h : (n < 1 ∨ 32768 < n ∨ p < 0 ∨ n ≤ p) ∨ d < 0 ∨ n < d) :
    Calls Tryz.prog 101 #[.agg #[.int .i64 p, .bool b], .int .i64 d, .int .i64 n] w fun e w' => e = .returned (.int .i64 2) ∧ Below w.heap.size w w' := by
  by_cases hc : n < 1 ∨ 32768 < n ∨ p < 0 ∨ n ≤ p
  · go_enter Tryz.func101, Tryz.ntmps101
    go_wp2_with (go_at_call 45; refine (check_no _ _ _ _ hc).mono ?_; rintro e w' ⟨rfl, hb⟩)
    go_ret
    exact ⟨rfl, ((Below.refl _ _).alloc (Nat.le_refl _) _).trans (hb.mono (by simp))⟩
  · by_cases hd : d < 0
    · go_enter Tryz.func101, Tryz.ntmps101
      go_wp2_with (go_at_call 45; refine (check_yes _ _ _ _ (by omega) (by omega) (by omega) (by omega)).mono ?_; rintro e w' ⟨rfl, hb⟩)
      go_ret
      exact ⟨rfl, ((Below.refl _ _).alloc (Nat.le_refl _) _).trans (hb.mono (by simp))⟩
    · have hnd : n < d := by omega
      go_enter Tryz.func101, Tryz.ntmps101
      go_wp2_with (go_at_call 45; refine (check_yes _ _ _ _ (by omega) (by omega) (by omega) (by omega)).mono ?_; rintro e w' ⟨rfl, hb⟩)
      go_ret
      exact ⟨rfl, ((Below.refl _ _).alloc (Nat.le_refl _) _).trans (hb.mono (by simp))⟩

theorem go_in (p d n : Int) (b : Bool) (w : World) (h1 : 1 ≤ n) (h2 : n ≤ 32768) (h3 : 0 ≤ p) (h4 : p < n) (h5 : 0 ≤ d) (h6 : d ≤ n) (h7 : p + d < n) :
    Calls Tryz.prog 82 #[.agg #[.int .i64 p, .bool b], .int .i64 d, .int .i64 n] w fun e w' => e = .returned (.tuple #[.agg #[.int .i64 (p + d), .bool b], .int .i64 0]) ∧ Below w.heap.size w w' := by
  go_enter Tryz.func82, Tryz.ntmps82
  go_wp2
  exact bodyPost_ret (v := .tuple #[.agg #[.int .i64 (p + d), .bool b], .int .i64 0]) (by simp [results, Tryz.results82, go_sem]) rfl ⟨rfl, (by repeat (first | exact Below.refl _ _ | (refine Below.alloc ?_ (by first | (simp; done) | (simp; omega)) _) | (refine Below.setCell ?_ (by first | (simp; done) | (simp; omega)) _)))⟩

theorem go_over (p d n : Int) (b : Bool) (w : World) (h1 : 1 ≤ n) (h2 : n ≤ 32768) (h3 : 0 ≤ p) (h4 : p < n) (h5 : 0 ≤ d) (h6 : d ≤ n) (h7 : n ≤ p + d) :
    Calls Tryz.prog 82 #[.agg #[.int .i64 p, .bool b], .int .i64 d, .int .i64 n] w fun e w' => e = .returned (.tuple #[.agg #[.int .i64 (p + d - n), .bool (!b)], .int .i64 0]) ∧ Below w.heap.size w w' := by
  go_enter Tryz.func82, Tryz.ntmps82
  go_wp2
  exact bodyPost_ret (v := .tuple #[.agg #[.int .i64 (p + d - n), .bool (!b)], .int .i64 0]) (by simp [results, Tryz.results82, go_sem]) rfl ⟨rfl, (by repeat (first | exact Below.refl _ _ | (refine Below.alloc ?_ (by first | (simp; done) | (simp; omega)) _) | (refine Below.setCell ?_ (by first | (simp; done) | (simp; omega)) _)))⟩

theorem go_no (p d n : Int) (b : Bool) (w : World) (h : (n < 1 ∨ 32768 < n ∨ p < 0 ∨ n ≤ p) ∨ d < 0 ∨ n < d) :
    Calls Tryz.prog 82 #[.agg #[.int .i64 p, .bool b], .int .i64 d, .int .i64 n] w fun e w' => e = .returned (.tuple #[.agg #[.int .i64 0, .bool false], .int .i64 2]) ∧ Below w.heap.size w w' := by
  go_enter Tryz.func82, Tryz.ntmps82
  go_wp2_with (go_at_call 101; refine (checkMove_no _ _ _ _ _ h).mono ?_; rintro e w1 ⟨rfl, hb⟩; have c0 := hb.cell (p := ⟨w.heap.size + 1, 0, none⟩) (by simp); have c1 := hb.cell (p := ⟨w.heap.size + 1, 1, none⟩) (by simp); have f0 := hb.frozen (p := ⟨w.heap.size + 1, 0, none⟩) (by simp); have f1 := hb.frozen (p := ⟨w.heap.size + 1, 1, none⟩) (by simp); simp [go_sem] at c0 c1 f0 f1)
  exact bodyPost_ret (v := .tuple #[.agg #[.int .i64 0, .bool false], .int .i64 2]) (by simp [results, Tryz.results82, go_sem, c0, c1]) rfl ⟨rfl, (((((Below.refl _ _).alloc (Nat.le_refl _) _).alloc (by simp) _).trans (hb.mono (by simp; omega))).setCell (by simp) _).setCell (by simp) _⟩

end Go.Proofs.YtfhhgcgbgmilcaaGreat

/- Contracts of serial.Word, Read, Power, Align and of the reference's: results, and old memory stays. Conditions: as each theorem names them. -/
namespace Go.Proofs.YtfhhgcgbgmilcaaGreat
open Go.ChangeShapes Go.WideShapes Go.ChangeAt Go.RowKit
set_option linter.unusedVariables false

def wordI (a : Int) (b : Bool) : Int := a % 32768 + if b then 32768 else 0
theorem word_f (a : Int) : bits .andNot .u16 (IntKind.u16.wrap a) 32768 = wordI a false := by
  rw [IntKind.wrap_u16, u16_low15 _ (by omega) (by omega)]
  unfold wordI
  simp <;> omega
theorem word_t (a : Int) : bits .or .u16 (bits .andNot .u16 (IntKind.u16.wrap a) 32768) 32768 = wordI a true := by
  rw [IntKind.wrap_u16, u16_low15 _ (by omega) (by omega), u16_or15 _ (by omega) (by omega)]
  unfold wordI
  simp <;> omega
theorem rword_f (a : Int) : IntKind.u16.wrap (bits BinOp.and IntKind.i64 a 32767) = wordI a false := by
  rw [i64_low15, IntKind.wrap_u16]
  unfold wordI
  simp <;> omega
theorem rword_t (a : Int) : IntKind.u16.wrap (IntKind.u16.wrap (bits BinOp.and IntKind.i64 a 32767) + 32768) = wordI a true := by
  rw [i64_low15, IntKind.wrap_u16, IntKind.wrap_u16]
  unfold wordI
  simp <;> omega

theorem bit15_ne (x : Int) (h0 : 0 ≤ x) (h1 : x < 65536) : (bits .and .u16 x 32768 != 0) = decide (32768 ≤ x) := by
  rw [u16_bit15 x h0 h1]
  by_cases h : 32768 ≤ x
  · simp [h]
    omega
  · simp [h]
    omega

end Go.Proofs.YtfhhgcgbgmilcaaGreat
