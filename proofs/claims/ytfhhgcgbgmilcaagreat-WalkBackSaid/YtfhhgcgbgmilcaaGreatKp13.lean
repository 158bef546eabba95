/- Sg2 Lay1 Lay2: joined texts. Conditions: as each theorem names them. -/
import Derived.Test.YtfhhgcgbgmilcaaGreatKp12
import Derived.Test.YtfhhgcgbgmilcaaGreatKp10
import Derived.Test.YtfhhgcgbgmilcaaGreatKp06
import Derived.BigQuiet
import Derived.OwnWalk
/- The reference's Check of layer 5. Conditions: as each theorem names them. -/
namespace Go.Proofs.YtfhhgcgbgmilcaaGreat
open Go.ChangeShapes Go.WideShapes Go.ChangeAt Go.RowKit
set_option linter.unusedVariables false
set_option maxRecDepth 100000

def prevT (L : List Sg) (k : Nat) : Bool := if k = 0 then false else (sat L (k - 1)).t
/-- what Check has seen when it comes to segment k with so many bytes -/
structure SgInv (L : List Sg) (k : Nat) (S : Int) : Prop where
  lo : 0 ≤ S
  hi : S ≤ 4294967296 * (k : Int)
  eq : sgC false 0 L = sgC (prevT L k) S (L.drop k)
theorem SgInv.start (L : List Sg) : SgInv L 0 0 := ⟨by omega, by omega, rfl⟩
theorem SgInv.stop {L : List Sg} {k : Nat} {S : Int} (h : SgInv L k S) (hk : k < L.length) (hc : (sat L k).n = 0 ∨ 18446744073709551616 < (sat L k).a + (sat L k).n ∨ (prevT L k = true ∧ (sat L k).t = false)) : sgC false 0 L = 2 := by
  rw [h.eq, drop_sat hk]
  show (if _ then _ else _) = _
  rw [if_pos hc]
theorem SgInv.next {L : List Sg} {k : Nat} {S : Int} (h : SgInv L k S) (hk : k < L.length) (hu : isSgs L) (hc : ¬ ((sat L k).n = 0 ∨ 18446744073709551616 < (sat L k).a + (sat L k).n ∨ (prevT L k = true ∧ (sat L k).t = false))) : SgInv L (k + 1) (S + (sat L k).n) := by
  have h0 := h.lo
  have h1 := h.hi
  obtain ⟨_, h2, h3⟩ := sat_is hu k
  refine ⟨by omega, by omega, ?_⟩
  have e : sgC (prevT L k) S (sat L k :: L.drop (k + 1)) = if (sat L k).n = 0 ∨ 18446744073709551616 < (sat L k).a + (sat L k).n ∨ (prevT L k = true ∧ (sat L k).t = false) then 2 else sgC (sat L k).t (S + (sat L k).n) (L.drop (k + 1)) := rfl
  rw [h.eq, drop_sat hk, e, if_neg hc]
  have e2 : prevT L (k + 1) = (sat L k).t := by simp [prevT]
  rw [e2]
theorem SgInv.done {L : List Sg} {S : Int} (h : SgInv L L.length S) : sgC false 0 L = if 4294967296 ≤ S then 2 else 0 := by
  rw [h.eq, List.drop_length]
  rfl

end Go.Proofs.YtfhhgcgbgmilcaaGreat

/- Contracts of layout's small functions: what each returns, and that old memory stays. Conditions: as each theorem names them. -/
namespace Go.Proofs.YtfhhgcgbgmilcaaGreat
open Go.ChangeShapes Go.WideShapes Go.ChangeAt Go.RowKit
set_option linter.unusedVariables false
set_option maxRecDepth 100000

/-- may rings have a size? -/
def szB (pk : Bool) (n : Int) : Bool := if pk then decide (1 ≤ n) && decide (n ≤ 32768) else powI n
theorem powI_rng {n : Int} (h : powI n = true) : 1 ≤ n ∧ n ≤ 32768 := by
  unfold powI at h
  simp at h
  exact h.1
theorem szB_rng {pk : Bool} {n : Int} (h : szB pk n = true) : 1 ≤ n ∧ n ≤ 32768 := by
  cases pk
  · exact powI_rng h
  · simpa [szB] using h

theorem validSize_lay (pk : Bool) (n : Int) (w : World) :
    Calls Tryz.prog 89 #[.bool pk, .int .i64 n] w fun e w' => e = .returned (.bool (szB pk n)) ∧ w = w' := by
  cases pk
  · have e : szB false n = powI n := rfl
    rw [e]
    go_enter Tryz.func89, Tryz.ntmps89
    go_wp2_with (go_at_call 104; refine (power_any _ _).mono ?_; rintro e w' ⟨rfl, rfl⟩)
    go_ret
    exact ⟨rfl, rfl⟩
  · by_cases h1 : 1 ≤ n
    · have e : szB true n = decide (n ≤ 32768) := by simp [szB, h1]
      rw [e]
      go_enter Tryz.func89, Tryz.ntmps89
      go_wp2
      go_ret
      exact ⟨rfl, rfl⟩
    · have e : szB true n = false := by simp [szB, h1]
      rw [e]
      have h1' : n < 1 := by omega
      go_enter Tryz.func89, Tryz.ntmps89
      go_wp2
      go_ret
      exact ⟨rfl, rfl⟩

def uG (pk : Bool) : Int := if pk then 4 else 2
theorem units_any (pk : Bool) (w : World) :
    Calls Tryz.prog 90 #[.bool pk] w fun e w' => e = .returned (.agg #[.int .u64 16, .int .u64 (uG pk), .int .u64 4]) ∧ Below w.heap.size w w' := by
  cases pk <;>
  · go_enter Tryz.func90, Tryz.ntmps90
    go_wp2
    exact bodyPost_ret (v := .agg #[.int .u64 16, .int .u64 (uG _), .int .u64 4]) (by simp [results, Tryz.results90, go_sem, uG]) rfl ⟨rfl, (by repeat (first | exact Below.refl _ _ | (refine Below.alloc ?_ (by first | omega | (simp; done) | (simp; omega)) _) | (refine Below.setCell ?_ (by first | omega | (simp; done) | (simp; omega)) _)))⟩

abbrev rV (pk : Bool) (n d g c : Int) : Value := .agg #[.bool pk, .int .i64 n, .int .u64 d, .int .u64 g, .int .u64 c]
def pD (pk : Bool) (n : Int) : Int := if szB pk n then 16 * n else 0
def pG (pk : Bool) (n : Int) : Int := if szB pk n then (if pk then 4 else 6 + 2 * n) else 0
def pC (pk : Bool) (n : Int) : Int := if szB pk n then (if pk then 4 else 6 + 8 * n) else 0

theorem parts_any (pk : Bool) (n d g c : Int) (w : World) :
    Calls Tryz.prog 105 #[rV pk n d g c] w fun e w' => e = .returned (.tuple #[.int .u64 (pD pk n), .int .u64 (pG pk n), .int .u64 (pC pk n)]) ∧ Below w.heap.size w w' := by
  cases h : szB pk n
  · have e1 : pD pk n = 0 := by simp [pD, h]
    have e2 : pG pk n = 0 := by simp [pG, h]
    have e3 : pC pk n = 0 := by simp [pC, h]
    have HV := validSize_lay pk n
    rw [h] at HV
    rw [e1, e2, e3]
    have HV' := hid_mk HV
    clear e1 e2 e3 HV h
    go_enter Tryz.func105, Tryz.ntmps105
    go_wp2_with (go_at_call 89; refine (HV'.out _).mono ?_; rintro e w' ⟨rfl, rfl⟩)
    go_ret3
    exact ⟨rfl, by repeat (first | exact Below.refl _ _ | (refine Below.alloc ?_ (by first | omega | (simp; done) | (simp; omega)) _))⟩
  · have hr := szB_rng h
    have e1 : pD pk n = 16 * n := by simp [pD, h]
    have w1 : IntKind.u64.wrap (16 * IntKind.u64.wrap n) = 16 * n := by
      rw [IntKind.wrap_u64, IntKind.wrap_u64]
      omega
    have w2 : IntKind.u64.wrap (6 + IntKind.u64.wrap (2 * IntKind.u64.wrap n)) = 6 + 2 * n := by
      rw [IntKind.wrap_u64, IntKind.wrap_u64, IntKind.wrap_u64]
      omega
    have w3 : IntKind.u64.wrap (6 + IntKind.u64.wrap (8 * IntKind.u64.wrap n)) = 6 + 8 * n := by
      rw [IntKind.wrap_u64, IntKind.wrap_u64, IntKind.wrap_u64]
      omega
    have HV := validSize_lay pk n
    rw [h] at HV
    have HV' := hid_mk HV
    rw [e1]
    cases pk
    · have e2 : pG false n = 6 + 2 * n := by simp [pG, h]
      have e3 : pC false n = 6 + 8 * n := by simp [pC, h]
      rw [e2, e3]
      clear HV h e1 e2 e3
      go_enter Tryz.func105, Tryz.ntmps105
      go_wp2_with (go_at_call 89; refine (HV'.out _).mono ?_; rintro e w' ⟨rfl, rfl⟩)
      go_ret3
      exact ⟨rfl, by repeat (first | exact Below.refl _ _ | (refine Below.alloc ?_ (by first | omega | (simp; done) | (simp; omega)) _))⟩
    · have e2 : pG true n = 4 := by simp [pG, h]
      have e3 : pC true n = 4 := by simp [pC, h]
      rw [e2, e3]
      clear HV h e1 e2 e3
      go_enter Tryz.func105, Tryz.ntmps105
      go_wp2_with (go_at_call 89; refine (HV'.out _).mono ?_; rintro e w' ⟨rfl, rfl⟩)
      go_ret3
      exact ⟨rfl, by repeat (first | exact Below.refl _ _ | (refine Below.alloc ?_ (by first | omega | (simp; done) | (simp; omega)) _))⟩

theorem meets_any (a0 a1 b0 b1 : Int) (w : World) :
    Calls Tryz.prog 92 #[.agg #[.int .u64 a0, .int .u64 a1], .agg #[.int .u64 b0, .int .u64 b1]] w fun e w' => e = .returned (.bool (decide (a0 ≤ b1) && decide (b0 ≤ a1))) ∧ Below w.heap.size w w' := by
  by_cases h1 : a0 ≤ b1
  · have e : (decide (a0 ≤ b1) && decide (b0 ≤ a1)) = decide (b0 ≤ a1) := by simp [h1]
    rw [e]
    go_enter Tryz.func92, Tryz.ntmps92
    go_wp2
    go_ret
    exact ⟨rfl, by repeat (first | exact Below.refl _ _ | (refine Below.alloc ?_ (by first | omega | (simp; done) | (simp; omega)) _))⟩
  · have e : (decide (a0 ≤ b1) && decide (b0 ≤ a1)) = false := by simp [h1]
    rw [e]
    have h1' : b1 < a0 := by omega
    go_enter Tryz.func92, Tryz.ntmps92
    go_wp2
    go_ret
    exact ⟨rfl, by repeat (first | exact Below.refl _ _ | (refine Below.alloc ?_ (by first | omega | (simp; done) | (simp; omega)) _))⟩

/-- the last address of some bytes, as the machine reckons -/
abbrev lst (a n : Int) : Int := IntKind.u64.wrap (a + IntKind.u64.wrap (n - 1))
theorem below_new2 {w b : World} {o o2 : Obj} (hb : Below ((w.alloc o).alloc o2).heap.size ((w.alloc o).alloc o2) b) : Below w.heap.size w b :=
  Below.trans (((Below.refl w.heap.size w).alloc (Nat.le_refl _) _).alloc (by simp) _) (hb.mono (by simp; omega))
theorem spans_any (pk : Bool) (n d g c : Int) (w : World) :
    Calls Tryz.prog 91 #[rV pk n d g c] w fun e w' => e = .returned (.agg #[.int .u64 d, .int .u64 (lst d (pD pk n)), .int .u64 g, .int .u64 (lst g (pG pk n)), .int .u64 c, .int .u64 (lst c (pC pk n))]) ∧ Below w.heap.size w w' := by
  go_enter Tryz.func91, Tryz.ntmps91
  go_wp2_with fail
  refine (parts_any pk n d g c _).mono ?_
  rintro e w1 ⟨rfl, hb⟩
  have B1 := hid_mk (below_new2 hb)
  have C := bcell hb
  go_wp2_with fail
  exact bodyPost_ret (v := .agg #[.int .u64 d, .int .u64 (lst d (pD pk n)), .int .u64 g, .int .u64 (lst g (pG pk n)), .int .u64 c, .int .u64 (lst c (pC pk n))]) (by simp [results, Tryz.results91, go_sem, C]) rfl ⟨rfl, (by repeat (first | (refine Below.setCell ?_ (by first | omega | (simp; done) | (simp; omega)) _) | (refine Below.alloc ?_ (by first | omega | (simp; done) | (simp; omega)) _) | exact Below.refl _ _ | exact B1.out))⟩
end Go.Proofs.YtfhhgcgbgmilcaaGreat

/- Contract of layout.Check: what it returns, and that old memory stays. Conditions: as each theorem names them. Written by mklay2.py. -/
namespace Go.Proofs.YtfhhgcgbgmilcaaGreat
open Go.ChangeShapes Go.WideShapes Go.ChangeAt Go.RowKit
set_option linter.unusedVariables false
set_option maxRecDepth 100000

theorem idx76_0 (a b c d e f : Int) (w : World) : (Instr.index 184 (.agg #[.int .u64 a, .int .u64 b, .int .u64 c, .int .u64 d, .int .u64 e, .int .u64 f]) (.int .i64 0)).run Tryz.prog w = .ok (.agg #[.int .u64 a, .int .u64 b]) w := by kernel_rfl
theorem idx76_1 (a b c d e f : Int) (w : World) : (Instr.index 184 (.agg #[.int .u64 a, .int .u64 b, .int .u64 c, .int .u64 d, .int .u64 e, .int .u64 f]) (.int .i64 1)).run Tryz.prog w = .ok (.agg #[.int .u64 c, .int .u64 d]) w := by kernel_rfl
theorem idx76_2 (a b c d e f : Int) (w : World) : (Instr.index 184 (.agg #[.int .u64 a, .int .u64 b, .int .u64 c, .int .u64 d, .int .u64 e, .int .u64 f]) (.int .i64 2)).run Tryz.prog w = .ok (.agg #[.int .u64 e, .int .u64 f]) w := by kernel_rfl

/-- Check's answer, of the three first and last addresses and Driver's unit -/
def chkF (d ld g lg c lc u : Int) : Int :=
  if (d.tmod 16 != 0) = true then 2 else if decide (ld < d) = true then 2 else
  if (g.tmod u != 0) = true then 2 else if decide (lg < g) = true then 2 else
  if (decide (g ≤ ld) && decide (d ≤ lg)) = true then 2 else
  if (c.tmod 4 != 0) = true then 2 else if decide (lc < c) = true then 2 else
  if (decide (c ≤ ld) && decide (d ≤ lc)) = true then 2 else
  if (decide (c ≤ lg) && decide (g ≤ lc)) = true then 2 else 0

theorem chkF_0 {d ld g lg c lc u : Int}  (h0 : (d.tmod 16 != 0) = true) : chkF d ld g lg c lc u = 2 := by
  unfold chkF
  rw [h0]
  rfl
theorem chkF_1 {d ld g lg c lc u : Int} (h0 : (d.tmod 16 != 0) = false) (h1 : decide (ld < d) = true) : chkF d ld g lg c lc u = 2 := by
  unfold chkF
  rw [h0, h1]
  rfl
theorem chkF_2 {d ld g lg c lc u : Int} (h0 : (d.tmod 16 != 0) = false) (h1 : decide (ld < d) = false) (h2 : (g.tmod u != 0) = true) : chkF d ld g lg c lc u = 2 := by
  unfold chkF
  rw [h0, h1, h2]
  rfl
theorem chkF_3 {d ld g lg c lc u : Int} (h0 : (d.tmod 16 != 0) = false) (h1 : decide (ld < d) = false) (h2 : (g.tmod u != 0) = false) (h3 : decide (lg < g) = true) : chkF d ld g lg c lc u = 2 := by
  unfold chkF
  rw [h0, h1, h2, h3]
  rfl
theorem chkF_4 {d ld g lg c lc u : Int} (h0 : (d.tmod 16 != 0) = false) (h1 : decide (ld < d) = false) (h2 : (g.tmod u != 0) = false) (h3 : decide (lg < g) = false) (h4 : (decide (g ≤ ld) && decide (d ≤ lg)) = true) : chkF d ld g lg c lc u = 2 := by
  unfold chkF
  rw [h0, h1, h2, h3, h4]
  rfl
theorem chkF_5 {d ld g lg c lc u : Int} (h0 : (d.tmod 16 != 0) = false) (h1 : decide (ld < d) = false) (h2 : (g.tmod u != 0) = false) (h3 : decide (lg < g) = false) (h4 : (decide (g ≤ ld) && decide (d ≤ lg)) = false) (h5 : (c.tmod 4 != 0) = true) : chkF d ld g lg c lc u = 2 := by
  unfold chkF
  rw [h0, h1, h2, h3, h4, h5]
  rfl
theorem chkF_6 {d ld g lg c lc u : Int} (h0 : (d.tmod 16 != 0) = false) (h1 : decide (ld < d) = false) (h2 : (g.tmod u != 0) = false) (h3 : decide (lg < g) = false) (h4 : (decide (g ≤ ld) && decide (d ≤ lg)) = false) (h5 : (c.tmod 4 != 0) = false) (h6 : decide (lc < c) = true) : chkF d ld g lg c lc u = 2 := by
  unfold chkF
  rw [h0, h1, h2, h3, h4, h5, h6]
  rfl
theorem chkF_7 {d ld g lg c lc u : Int} (h0 : (d.tmod 16 != 0) = false) (h1 : decide (ld < d) = false) (h2 : (g.tmod u != 0) = false) (h3 : decide (lg < g) = false) (h4 : (decide (g ≤ ld) && decide (d ≤ lg)) = false) (h5 : (c.tmod 4 != 0) = false) (h6 : decide (lc < c) = false) (h7 : (decide (c ≤ ld) && decide (d ≤ lc)) = true) : chkF d ld g lg c lc u = 2 := by
  unfold chkF
  rw [h0, h1, h2, h3, h4, h5, h6, h7]
  rfl
theorem chkF_8 {d ld g lg c lc u : Int} (h0 : (d.tmod 16 != 0) = false) (h1 : decide (ld < d) = false) (h2 : (g.tmod u != 0) = false) (h3 : decide (lg < g) = false) (h4 : (decide (g ≤ ld) && decide (d ≤ lg)) = false) (h5 : (c.tmod 4 != 0) = false) (h6 : decide (lc < c) = false) (h7 : (decide (c ≤ ld) && decide (d ≤ lc)) = false) (h8 : (decide (c ≤ lg) && decide (g ≤ lc)) = true) : chkF d ld g lg c lc u = 2 := by
  unfold chkF
  rw [h0, h1, h2, h3, h4, h5, h6, h7, h8]
  rfl
theorem chkF_9 {d ld g lg c lc u : Int} (h0 : (d.tmod 16 != 0) = false) (h1 : decide (ld < d) = false) (h2 : (g.tmod u != 0) = false) (h3 : decide (lg < g) = false) (h4 : (decide (g ≤ ld) && decide (d ≤ lg)) = false) (h5 : (c.tmod 4 != 0) = false) (h6 : decide (lc < c) = false) (h7 : (decide (c ≤ ld) && decide (d ≤ lc)) = false) (h8 : (decide (c ≤ lg) && decide (g ≤ lc)) = false) : chkF d ld g lg c lc u = 0 := by
  unfold chkF
  rw [h0, h1, h2, h3, h4, h5, h6, h7, h8]
  rfl

set_option maxHeartbeats 4000000 in
theorem check_core (pk : Bool) (n d ld g lg c lc u : Int) (w : World) (hu0 : ¬ u = 0)
    (HV : ∀ w, Calls Tryz.prog 89 #[.bool pk, .int .i64 n] w fun e w' => e = .returned (.bool true) ∧ w = w')
    (HU : ∀ w, Calls Tryz.prog 90 #[.bool pk] w fun e w' => e = .returned (.agg #[.int .u64 16, .int .u64 u, .int .u64 4]) ∧ Below w.heap.size w w')
    (HS : ∀ w, Calls Tryz.prog 91 #[rV pk n d g c] w fun e w' => e = .returned (.agg #[.int .u64 d, .int .u64 ld, .int .u64 g, .int .u64 lg, .int .u64 c, .int .u64 lc]) ∧ Below w.heap.size w w') :
    Calls Tryz.prog 66 #[rV pk n d g c] w fun e w' => e = .returned (.int .i64 (chkF d ld g lg c lc u)) ∧ Below w.heap.size w w' := by
  have i0 := idx76_0
  have i1 := idx76_1
  have i2 := idx76_2
  have HV' := hid_mk HV
  have HU' := hid_mk HU
  have HS' := hid_mk HS
  clear HV HU HS
  go_enter Tryz.func66, Tryz.ntmps66
  go_wp2_with fail
  refine (HV'.out _).mono ?_
  rintro e w' ⟨rfl, rfl⟩
  go_wp2_with fail
  refine (HU'.out _).mono ?_
  rintro e w1 ⟨rfl, hb⟩
  have B1 := hid_mk (below_new (Below.refl _ _) hb)
  have C1 := bcell hb
  have q1 : w.heap.size < w1.heap.size := by
    have := hb.size
    simp at this
    omega
  have q1' : w.heap.size < w1.heap.size + 1 := by omega
  clear hb
  go_wp2_with fail
  refine (HS'.out _).mono ?_
  rintro e w2 ⟨rfl, hb2⟩
  have C2 := bcell hb2
  have B2 := hid_mk (below_then (B1.out.alloc B1.out.size _) hb2)
  have q2 : w1.heap.size < w2.heap.size := by
    have := hb2.size
    simp at this
    omega
  have q2' : w1.heap.size < w2.heap.size + 1 := by omega
  have q3 : w.heap.size < w2.heap.size := by omega
  have q3' : w.heap.size < w2.heap.size + 1 := by omega
  clear hb2
  go_wp2_with fail
  refine wp_loop_rounds 4 ?_
  rw [rounds_succ]
  go_wp2_with fail
  cases h0 : (d.tmod 16 != 0)
  case' true =>
    go_quiet (fail)
    go_wp2_with fail
    go_ret
    exact ⟨ret_eq (by rw [chkF_0 h0]; rfl), (by repeat (first | (refine Below.setCell ?_ (by first | omega | (simp; done) | (simp; omega)) _) | (refine Below.alloc ?_ (by first | omega | (simp; done) | (simp; omega)) _) | (refine below_dn ?_ _) | exact Below.refl _ _ | exact B2.out))⟩
  cases h1 : decide (ld < d)
  case' true =>
    go_quiet (fail)
    go_wp2_with fail
    go_ret
    exact ⟨ret_eq (by rw [chkF_1 h0 h1]; rfl), (by repeat (first | (refine Below.setCell ?_ (by first | omega | (simp; done) | (simp; omega)) _) | (refine Below.alloc ?_ (by first | omega | (simp; done) | (simp; omega)) _) | (refine below_dn ?_ _) | exact Below.refl _ _ | exact B2.out))⟩
  go_quiet (fail)
  go_wp2_with fail
  refine wp_loop_rounds 1 ?_
  rw [rounds_succ]
  go_wp2_with fail
  rw [rounds_succ]
  go_wp2_with fail
  cases h2 : (g.tmod u != 0)
  case' true =>
    go_quiet (fail)
    go_wp2_with fail
    go_ret
    exact ⟨ret_eq (by rw [chkF_2 h0 h1 h2]; rfl), (by repeat (first | (refine Below.setCell ?_ (by first | omega | (simp; done) | (simp; omega)) _) | (refine Below.alloc ?_ (by first | omega | (simp; done) | (simp; omega)) _) | (refine below_dn ?_ _) | exact Below.refl _ _ | exact B2.out))⟩
  cases h3 : decide (lg < g)
  case' true =>
    go_quiet (fail)
    go_wp2_with fail
    go_ret
    exact ⟨ret_eq (by rw [chkF_3 h0 h1 h2 h3]; rfl), (by repeat (first | (refine Below.setCell ?_ (by first | omega | (simp; done) | (simp; omega)) _) | (refine Below.alloc ?_ (by first | omega | (simp; done) | (simp; omega)) _) | (refine below_dn ?_ _) | exact Below.refl _ _ | exact B2.out))⟩
  go_quiet (fail)
  go_wp2_with fail
  refine wp_loop_rounds 2 ?_
  rw [rounds_succ]
  go_wp2_with fail
  have HM := meets_any g lg d ld
  cases h4 : (decide (g ≤ ld) && decide (d ≤ lg))
  case' true =>
    simp only [h4] at HM
    refine (HM _).mono ?_
    rintro e w3 ⟨rfl, hbw3⟩
    have Bw3 : Hid (Below w.heap.size w w3) := below_then (by repeat (first | (refine Below.setCell ?_ (by first | omega | (simp; done) | (simp; omega)) _) | (refine Below.alloc ?_ (by first | omega | (simp; done) | (simp; omega)) _) | (refine below_dn ?_ _) | exact Below.refl _ _ | exact B2.out)) hbw3
    clear hbw3 HM
    go_wp2_with fail
    go_ret
    exact ⟨ret_eq (by rw [chkF_4 h0 h1 h2 h3 h4]; rfl), (by repeat (first | (refine Below.setCell ?_ (by first | omega | (simp; done) | (simp; omega)) _) | (refine Below.alloc ?_ (by first | omega | (simp; done) | (simp; omega)) _) | (refine below_dn ?_ _) | exact Below.refl _ _ | exact Bw3.out))⟩
  simp only [h4] at HM
  refine (HM _).mono ?_
  rintro e w3 ⟨rfl, hbw3⟩
  have Bw3 : Hid (Below w.heap.size w w3) := below_then (by repeat (first | (refine Below.setCell ?_ (by first | omega | (simp; done) | (simp; omega)) _) | (refine Below.alloc ?_ (by first | omega | (simp; done) | (simp; omega)) _) | (refine below_dn ?_ _) | exact Below.refl _ _ | exact B2.out)) hbw3
  have zw3 := hbw3.size
  simp at zw3
  have qww3 : w.heap.size < w3.heap.size := by omega
  have qww3' : w.heap.size < w3.heap.size + 1 := by omega
  have qww3'' : w.heap.size < w3.heap.size + 1 + 1 := by omega
  have qw1w3 : w1.heap.size < w3.heap.size := by omega
  have qw1w3' : w1.heap.size < w3.heap.size + 1 := by omega
  have qw1w3'' : w1.heap.size < w3.heap.size + 1 + 1 := by omega
  have qw2w3 : w2.heap.size < w3.heap.size := by omega
  have qw2w3' : w2.heap.size < w3.heap.size + 1 := by omega
  have qw2w3'' : w2.heap.size < w3.heap.size + 1 + 1 := by omega
  have fw3_0 := hbw3.cell (p := ⟨w1.heap.size, 0, none⟩) (by simp; omega)
  simp (disch := first | (simp; done) | (simp; omega)) [go_sem, *] at fw3_0
  have fw3_1 := hbw3.cell (p := ⟨w1.heap.size, 1, none⟩) (by simp; omega)
  simp (disch := first | (simp; done) | (simp; omega)) [go_sem, *] at fw3_1
  have fw3_2 := hbw3.cell (p := ⟨w1.heap.size, 2, none⟩) (by simp; omega)
  simp (disch := first | (simp; done) | (simp; omega)) [go_sem, *] at fw3_2
  have fw3_3 := hbw3.cell (p := ⟨w2.heap.size, 0, none⟩) (by simp; omega)
  simp (disch := first | (simp; done) | (simp; omega)) [go_sem, *] at fw3_3
  have fw3_4 := hbw3.cell (p := ⟨w2.heap.size, 1, none⟩) (by simp; omega)
  simp (disch := first | (simp; done) | (simp; omega)) [go_sem, *] at fw3_4
  have fw3_5 := hbw3.cell (p := ⟨w2.heap.size, 2, none⟩) (by simp; omega)
  simp (disch := first | (simp; done) | (simp; omega)) [go_sem, *] at fw3_5
  have fw3_6 := hbw3.cell (p := ⟨w2.heap.size, 3, none⟩) (by simp; omega)
  simp (disch := first | (simp; done) | (simp; omega)) [go_sem, *] at fw3_6
  have fw3_7 := hbw3.cell (p := ⟨w2.heap.size, 4, none⟩) (by simp; omega)
  simp (disch := first | (simp; done) | (simp; omega)) [go_sem, *] at fw3_7
  have fw3_8 := hbw3.cell (p := ⟨w2.heap.size, 5, none⟩) (by simp; omega)
  simp (disch := first | (simp; done) | (simp; omega)) [go_sem, *] at fw3_8
  clear hbw3 HM zw3
  go_wp2_with fail
  rw [rounds_succ]
  go_wp2_with fail
  rw [rounds_succ]
  go_wp2_with fail
  cases h5 : (c.tmod 4 != 0)
  case' true =>
    go_quiet (fail)
    go_wp2_with fail
    go_ret
    exact ⟨ret_eq (by rw [chkF_5 h0 h1 h2 h3 h4 h5]; rfl), (by repeat (first | (refine Below.setCell ?_ (by first | omega | (simp; done) | (simp; omega)) _) | (refine Below.alloc ?_ (by first | omega | (simp; done) | (simp; omega)) _) | (refine below_dn ?_ _) | exact Below.refl _ _ | exact Bw3.out))⟩
  cases h6 : decide (lc < c)
  case' true =>
    go_quiet (fail)
    go_wp2_with fail
    go_ret
    exact ⟨ret_eq (by rw [chkF_6 h0 h1 h2 h3 h4 h5 h6]; rfl), (by repeat (first | (refine Below.setCell ?_ (by first | omega | (simp; done) | (simp; omega)) _) | (refine Below.alloc ?_ (by first | omega | (simp; done) | (simp; omega)) _) | (refine below_dn ?_ _) | exact Below.refl _ _ | exact Bw3.out))⟩
  go_quiet (fail)
  go_wp2_with fail
  refine wp_loop_rounds 3 ?_
  rw [rounds_succ]
  go_wp2_with fail
  have HM := meets_any c lc d ld
  cases h7 : (decide (c ≤ ld) && decide (d ≤ lc))
  case' true =>
    simp only [h7] at HM
    refine (HM _).mono ?_
    rintro e w4 ⟨rfl, hbw4⟩
    have Bw4 : Hid (Below w.heap.size w w4) := below_then (by repeat (first | (refine Below.setCell ?_ (by first | omega | (simp; done) | (simp; omega)) _) | (refine Below.alloc ?_ (by first | omega | (simp; done) | (simp; omega)) _) | (refine below_dn ?_ _) | exact Below.refl _ _ | exact Bw3.out)) hbw4
    clear hbw4 HM
    go_wp2_with fail
    go_ret
    exact ⟨ret_eq (by rw [chkF_7 h0 h1 h2 h3 h4 h5 h6 h7]; rfl), (by repeat (first | (refine Below.setCell ?_ (by first | omega | (simp; done) | (simp; omega)) _) | (refine Below.alloc ?_ (by first | omega | (simp; done) | (simp; omega)) _) | (refine below_dn ?_ _) | exact Below.refl _ _ | exact Bw4.out))⟩
  simp only [h7] at HM
  refine (HM _).mono ?_
  rintro e w4 ⟨rfl, hbw4⟩
  have Bw4 : Hid (Below w.heap.size w w4) := below_then (by repeat (first | (refine Below.setCell ?_ (by first | omega | (simp; done) | (simp; omega)) _) | (refine Below.alloc ?_ (by first | omega | (simp; done) | (simp; omega)) _) | (refine below_dn ?_ _) | exact Below.refl _ _ | exact Bw3.out)) hbw4
  have zw4 := hbw4.size
  simp at zw4
  have qww4 : w.heap.size < w4.heap.size := by omega
  have qww4' : w.heap.size < w4.heap.size + 1 := by omega
  have qww4'' : w.heap.size < w4.heap.size + 1 + 1 := by omega
  have qw1w4 : w1.heap.size < w4.heap.size := by omega
  have qw1w4' : w1.heap.size < w4.heap.size + 1 := by omega
  have qw1w4'' : w1.heap.size < w4.heap.size + 1 + 1 := by omega
  have qw2w4 : w2.heap.size < w4.heap.size := by omega
  have qw2w4' : w2.heap.size < w4.heap.size + 1 := by omega
  have qw2w4'' : w2.heap.size < w4.heap.size + 1 + 1 := by omega
  have qw3w4 : w3.heap.size < w4.heap.size := by omega
  have qw3w4' : w3.heap.size < w4.heap.size + 1 := by omega
  have qw3w4'' : w3.heap.size < w4.heap.size + 1 + 1 := by omega
  have fw4_0 := hbw4.cell (p := ⟨w1.heap.size, 0, none⟩) (by simp; omega)
  simp (disch := first | (simp; done) | (simp; omega)) [go_sem, *] at fw4_0
  have fw4_1 := hbw4.cell (p := ⟨w1.heap.size, 1, none⟩) (by simp; omega)
  simp (disch := first | (simp; done) | (simp; omega)) [go_sem, *] at fw4_1
  have fw4_2 := hbw4.cell (p := ⟨w1.heap.size, 2, none⟩) (by simp; omega)
  simp (disch := first | (simp; done) | (simp; omega)) [go_sem, *] at fw4_2
  have fw4_3 := hbw4.cell (p := ⟨w2.heap.size, 0, none⟩) (by simp; omega)
  simp (disch := first | (simp; done) | (simp; omega)) [go_sem, *] at fw4_3
  have fw4_4 := hbw4.cell (p := ⟨w2.heap.size, 1, none⟩) (by simp; omega)
  simp (disch := first | (simp; done) | (simp; omega)) [go_sem, *] at fw4_4
  have fw4_5 := hbw4.cell (p := ⟨w2.heap.size, 2, none⟩) (by simp; omega)
  simp (disch := first | (simp; done) | (simp; omega)) [go_sem, *] at fw4_5
  have fw4_6 := hbw4.cell (p := ⟨w2.heap.size, 3, none⟩) (by simp; omega)
  simp (disch := first | (simp; done) | (simp; omega)) [go_sem, *] at fw4_6
  have fw4_7 := hbw4.cell (p := ⟨w2.heap.size, 4, none⟩) (by simp; omega)
  simp (disch := first | (simp; done) | (simp; omega)) [go_sem, *] at fw4_7
  have fw4_8 := hbw4.cell (p := ⟨w2.heap.size, 5, none⟩) (by simp; omega)
  simp (disch := first | (simp; done) | (simp; omega)) [go_sem, *] at fw4_8
  have fw4_9 := hbw4.cell (p := ⟨w3.heap.size, 0, none⟩) (by simp; omega)
  simp (disch := first | (simp; done) | (simp; omega)) [go_sem, *] at fw4_9
  have fw4_10 := hbw4.cell (p := ⟨w3.heap.size, 1, none⟩) (by simp; omega)
  simp (disch := first | (simp; done) | (simp; omega)) [go_sem, *] at fw4_10
  clear hbw4 HM zw4
  go_wp2_with fail
  rw [rounds_succ]
  go_wp2_with fail
  have HM := meets_any c lc g lg
  cases h8 : (decide (c ≤ lg) && decide (g ≤ lc))
  case' true =>
    simp only [h8] at HM
    refine (HM _).mono ?_
    rintro e w5 ⟨rfl, hbw5⟩
    have Bw5 : Hid (Below w.heap.size w w5) := below_then (by repeat (first | (refine Below.setCell ?_ (by first | omega | (simp; done) | (simp; omega)) _) | (refine Below.alloc ?_ (by first | omega | (simp; done) | (simp; omega)) _) | (refine below_dn ?_ _) | exact Below.refl _ _ | exact Bw4.out)) hbw5
    clear hbw5 HM
    go_wp2_with fail
    go_ret
    exact ⟨ret_eq (by rw [chkF_8 h0 h1 h2 h3 h4 h5 h6 h7 h8]; rfl), (by repeat (first | (refine Below.setCell ?_ (by first | omega | (simp; done) | (simp; omega)) _) | (refine Below.alloc ?_ (by first | omega | (simp; done) | (simp; omega)) _) | (refine below_dn ?_ _) | exact Below.refl _ _ | exact Bw5.out))⟩
  simp only [h8] at HM
  refine (HM _).mono ?_
  rintro e w5 ⟨rfl, hbw5⟩
  have Bw5 : Hid (Below w.heap.size w w5) := below_then (by repeat (first | (refine Below.setCell ?_ (by first | omega | (simp; done) | (simp; omega)) _) | (refine Below.alloc ?_ (by first | omega | (simp; done) | (simp; omega)) _) | (refine below_dn ?_ _) | exact Below.refl _ _ | exact Bw4.out)) hbw5
  have zw5 := hbw5.size
  simp at zw5
  have qww5 : w.heap.size < w5.heap.size := by omega
  have qww5' : w.heap.size < w5.heap.size + 1 := by omega
  have qww5'' : w.heap.size < w5.heap.size + 1 + 1 := by omega
  have qw1w5 : w1.heap.size < w5.heap.size := by omega
  have qw1w5' : w1.heap.size < w5.heap.size + 1 := by omega
  have qw1w5'' : w1.heap.size < w5.heap.size + 1 + 1 := by omega
  have qw2w5 : w2.heap.size < w5.heap.size := by omega
  have qw2w5' : w2.heap.size < w5.heap.size + 1 := by omega
  have qw2w5'' : w2.heap.size < w5.heap.size + 1 + 1 := by omega
  have qw3w5 : w3.heap.size < w5.heap.size := by omega
  have qw3w5' : w3.heap.size < w5.heap.size + 1 := by omega
  have qw3w5'' : w3.heap.size < w5.heap.size + 1 + 1 := by omega
  have qw4w5 : w4.heap.size < w5.heap.size := by omega
  have qw4w5' : w4.heap.size < w5.heap.size + 1 := by omega
  have qw4w5'' : w4.heap.size < w5.heap.size + 1 + 1 := by omega
  clear hbw5 HM zw5
  go_wp2_with fail
  rw [rounds_succ]
  go_wp2_with fail
  rw [rounds_succ]
  go_wp2_with fail
  go_ret
  exact ⟨ret_eq (by rw [chkF_9 h0 h1 h2 h3 h4 h5 h6 h7 h8]; rfl), (by repeat (first | (refine Below.setCell ?_ (by first | omega | (simp; done) | (simp; omega)) _) | (refine Below.alloc ?_ (by first | omega | (simp; done) | (simp; omega)) _) | (refine below_dn ?_ _) | exact Below.refl _ _ | exact Bw5.out))⟩
end Go.Proofs.YtfhhgcgbgmilcaaGreat
