/- Contracts of layout's small functions: what each returns, and that old memory stays. Conditions: as each theorem names them. -/
import Derived.Test.YtolflhnkdnjckaaSer5
import Derived.Test.YtolflhnkdnjckaaOwn
import Derived.OwnWalk
namespace Go.Proofs.Ytolflhnkdnjckaa
open Go.ChangeShapes Go.WideShapes Go.ChangeAt Go.RowKit
set_option linter.unusedVariables false
set_option maxRecDepth 100000

/-- may rings have a size? -/
def szB (pk : Bool) (n : Int) : Bool := if pk then decide (1 ≤ n) && decide (n ≤ 32768) else powI n
theorem powI_rng {n : Int} (h : powI n = true) : 1 ≤ n ∧ n ≤ 32768 := by
  unfold powI at h
  simp at h
  exact h.1
theorem szB_rng {pk : Bool} {n : Int} (h : szB pk n = true) : 1 ≤ n ∧ n ≤ 32768 := by
  cases pk
  · exact powI_rng h
  · simpa [szB] using h

theorem validSize_lay (pk : Bool) (n : Int) (w : World) :
    Calls Try.prog 27 #[.bool pk, .int .i64 n] w fun e w' => e = .returned (.bool (szB pk n)) ∧ w = w' := by
  cases pk
  · have e : szB false n = powI n := rfl
    rw [e]
    go_enter Try.func27, Try.ntmps27
    go_wp2_with (go_at_call 44; refine (power_any _ _).mono ?_; rintro e w' ⟨rfl, rfl⟩)
    go_ret
    exact ⟨rfl, rfl⟩
  · by_cases h1 : 1 ≤ n
    · have e : szB true n = decide (n ≤ 32768) := by simp [szB, h1]
      rw [e]
      go_enter Try.func27, Try.ntmps27
      go_wp2
      go_ret
      exact ⟨rfl, rfl⟩
    · have e : szB true n = false := by simp [szB, h1]
      rw [e]
      have h1' : n < 1 := by omega
      go_enter Try.func27, Try.ntmps27
      go_wp2
      go_ret
      exact ⟨rfl, rfl⟩

theorem kind_any (pk : Bool) (w : World) :
    Calls Try.prog 46 #[.bool pk] w fun e w' => e = .returned (.int .i64 (if pk then 1 else 0)) ∧ w = w' := by
  cases pk <;>
  · go_enter Try.func46, Try.ntmps46
    go_wp2
    go_ret
    exact ⟨rfl, rfl⟩

def uG (pk : Bool) : Int := if pk then 4 else 2
theorem units_any (pk : Bool) (w : World) :
    Calls Try.prog 28 #[.bool pk] w fun e w' => e = .returned (.agg #[.int .u64 16, .int .u64 (uG pk), .int .u64 4]) ∧ Below w.heap.size w w' := by
  cases pk <;>
  · go_enter Try.func28, Try.ntmps28
    go_wp2
    exact bodyPost_ret (v := .agg #[.int .u64 16, .int .u64 (uG _), .int .u64 4]) (by simp [results, Try.results28, go_sem, uG]) rfl ⟨rfl, (by repeat (first | exact Below.refl _ _ | (refine Below.alloc ?_ (by first | omega | (simp; done) | (simp; omega)) _) | (refine Below.setCell ?_ (by first | omega | (simp; done) | (simp; omega)) _)))⟩

abbrev rV (pk : Bool) (n d g c : Int) : Value := .agg #[.bool pk, .int .i64 n, .int .u64 d, .int .u64 g, .int .u64 c]
def pD (pk : Bool) (n : Int) : Int := if szB pk n then 16 * n else 0
def pG (pk : Bool) (n : Int) : Int := if szB pk n then (if pk then 4 else 6 + 2 * n) else 0
def pC (pk : Bool) (n : Int) : Int := if szB pk n then (if pk then 4 else 6 + 8 * n) else 0

theorem parts_any (pk : Bool) (n d g c : Int) (w : World) :
    Calls Try.prog 16 #[rV pk n d g c] w fun e w' => e = .returned (.tuple #[.int .u64 (pD pk n), .int .u64 (pG pk n), .int .u64 (pC pk n)]) ∧ Below w.heap.size w w' := by
  cases h : szB pk n
  · have e1 : pD pk n = 0 := by simp [pD, h]
    have e2 : pG pk n = 0 := by simp [pG, h]
    have e3 : pC pk n = 0 := by simp [pC, h]
    have HV := validSize_lay pk n
    rw [h] at HV
    rw [e1, e2, e3]
    have HV' := hid_mk HV
    clear e1 e2 e3 HV h
    go_enter Try.func16, Try.ntmps16
    go_wp2_with (go_at_call 27; refine (HV'.out _).mono ?_; rintro e w' ⟨rfl, rfl⟩)
    go_ret3
    exact ⟨rfl, by repeat (first | exact Below.refl _ _ | (refine Below.alloc ?_ (by first | omega | (simp; done) | (simp; omega)) _))⟩
  · have hr := szB_rng h
    have e1 : pD pk n = 16 * n := by simp [pD, h]
    have w1 : IntKind.u64.wrap (16 * IntKind.u64.wrap n) = 16 * n := by
      rw [IntKind.wrap_u64, IntKind.wrap_u64]
      omega
    have w2 : IntKind.u64.wrap (6 + IntKind.u64.wrap (2 * IntKind.u64.wrap n)) = 6 + 2 * n := by
      rw [IntKind.wrap_u64, IntKind.wrap_u64, IntKind.wrap_u64]
      omega
    have w3 : IntKind.u64.wrap (6 + IntKind.u64.wrap (8 * IntKind.u64.wrap n)) = 6 + 8 * n := by
      rw [IntKind.wrap_u64, IntKind.wrap_u64, IntKind.wrap_u64]
      omega
    have HV := validSize_lay pk n
    rw [h] at HV
    have HV' := hid_mk HV
    rw [e1]
    cases pk
    · have e2 : pG false n = 6 + 2 * n := by simp [pG, h]
      have e3 : pC false n = 6 + 8 * n := by simp [pC, h]
      rw [e2, e3]
      clear HV h e1 e2 e3
      go_enter Try.func16, Try.ntmps16
      go_wp2_with (go_at_call 27; refine (HV'.out _).mono ?_; rintro e w' ⟨rfl, rfl⟩)
      go_ret3
      exact ⟨rfl, by repeat (first | exact Below.refl _ _ | (refine Below.alloc ?_ (by first | omega | (simp; done) | (simp; omega)) _))⟩
    · have e2 : pG true n = 4 := by simp [pG, h]
      have e3 : pC true n = 4 := by simp [pC, h]
      rw [e2, e3]
      clear HV h e1 e2 e3
      go_enter Try.func16, Try.ntmps16
      go_wp2_with (go_at_call 27; refine (HV'.out _).mono ?_; rintro e w' ⟨rfl, rfl⟩)
      go_ret3
      exact ⟨rfl, by repeat (first | exact Below.refl _ _ | (refine Below.alloc ?_ (by first | omega | (simp; done) | (simp; omega)) _))⟩

theorem meets_any (a0 a1 b0 b1 : Int) (w : World) :
    Calls Try.prog 38 #[.agg #[.int .u64 a0, .int .u64 a1], .agg #[.int .u64 b0, .int .u64 b1]] w fun e w' => e = .returned (.bool (decide (a0 ≤ b1) && decide (b0 ≤ a1))) ∧ Below w.heap.size w w' := by
  by_cases h1 : a0 ≤ b1
  · have e : (decide (a0 ≤ b1) && decide (b0 ≤ a1)) = decide (b0 ≤ a1) := by simp [h1]
    rw [e]
    go_enter Try.func38, Try.ntmps38
    go_wp2
    go_ret
    exact ⟨rfl, by repeat (first | exact Below.refl _ _ | (refine Below.alloc ?_ (by first | omega | (simp; done) | (simp; omega)) _))⟩
  · have e : (decide (a0 ≤ b1) && decide (b0 ≤ a1)) = false := by simp [h1]
    rw [e]
    have h1' : b1 < a0 := by omega
    go_enter Try.func38, Try.ntmps38
    go_wp2
    go_ret
    exact ⟨rfl, by repeat (first | exact Below.refl _ _ | (refine Below.alloc ?_ (by first | omega | (simp; done) | (simp; omega)) _))⟩

theorem up_any (n t : Int) (w : World) (hn : U64 n) (ht : U64 t) :
    Calls Try.prog 30 #[.int .u64 n, .int .u64 t] w fun e w' => e = .returned (.int .u64 (alV n t)) ∧ w = w' := by
  go_enter Try.func30, Try.ntmps30
  go_wp2_with (go_at_call 29; refine (align_any _ _ _ hn ht).mono ?_; rintro e w' ⟨rfl, rfl⟩)
  go_ret
  exact ⟨rfl, rfl⟩

/-- the last address of some bytes, as the machine reckons -/
abbrev lst (a n : Int) : Int := IntKind.u64.wrap (a + IntKind.u64.wrap (n - 1))
theorem below_new2 {w b : World} {o o2 : Obj} (hb : Below ((w.alloc o).alloc o2).heap.size ((w.alloc o).alloc o2) b) : Below w.heap.size w b :=
  Below.trans (((Below.refl w.heap.size w).alloc (Nat.le_refl _) _).alloc (by simp) _) (hb.mono (by simp; omega))
theorem spans_any (pk : Bool) (n d g c : Int) (w : World) :
    Calls Try.prog 36 #[rV pk n d g c] w fun e w' => e = .returned (.agg #[.int .u64 d, .int .u64 (lst d (pD pk n)), .int .u64 g, .int .u64 (lst g (pG pk n)), .int .u64 c, .int .u64 (lst c (pC pk n))]) ∧ Below w.heap.size w w' := by
  go_enter Try.func36, Try.ntmps36
  go_wp2_with fail
  refine (parts_any pk n d g c _).mono ?_
  rintro e w1 ⟨rfl, hb⟩
  have B1 := hid_mk (below_new2 hb)
  have C := bcell hb
  go_wp2_with fail
  exact bodyPost_ret (v := .agg #[.int .u64 d, .int .u64 (lst d (pD pk n)), .int .u64 g, .int .u64 (lst g (pG pk n)), .int .u64 c, .int .u64 (lst c (pC pk n))]) (by simp [results, Try.results36, go_sem, C]) rfl ⟨rfl, (by repeat (first | (refine Below.setCell ?_ (by first | omega | (simp; done) | (simp; omega)) _) | (refine Below.alloc ?_ (by first | omega | (simp; done) | (simp; omega)) _) | exact Below.refl _ _ | exact B1.out))⟩
end Go.Proofs.Ytolflhnkdnjckaa
