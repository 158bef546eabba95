/- Contract of layout.Place: what it returns, and that old memory stays. Conditions: as each theorem names them. Written by mklay8.py. -/
import Derived.Test.YtolflhnkdnjckaaLay4
namespace Go.Proofs.Ytolflhnkdnjckaa
open Go.ChangeShapes Go.WideShapes Go.ChangeAt Go.RowKit
set_option linter.unusedVariables false
set_option maxRecDepth 100000

theorem powB2 : powB 2 = true := by decide
theorem powB4 : powB 4 = true := by decide
theorem powB16 : powB 16 = true := by decide
theorem alOk_num {x t : Int} (hp : powB t = true) : alOk x t = decide (x + t ≤ 18446744073709551616) := by
  unfold alOk
  rw [hp]
  rfl
theorem alV_num {x t : Int} (hp : powB t = true) (h : x + t ≤ 18446744073709551616) : alV x t = t * ((x + t - 1) / t) ∧ alE x t = 0 := by
  unfold alV alE
  rw [alOk_num hp, decide_eq_true h]
  exact ⟨rfl, rfl⟩
theorem alV_far {x t : Int} (hp : powB t = true) (h : 18446744073709551616 < x + t) : alV x t = 0 ∧ alE x t = 2 := by
  unfold alV alE
  rw [alOk_num hp, decide_eq_false (by omega)]
  exact ⟨rfl, rfl⟩

/-- where Device begins, behind Desc's address; the bytes that all take -/
def cO (pk : Bool) (n : Int) : Int := if pk then 16 * n + 4 else 4 * ((18 * n + 9) / 4)
def totL (pk : Bool) (n : Int) : Int := cO pk n + pC pk n
def plOk (pk : Bool) (n b : Int) : Bool := szB pk n && (alOk b 16 && decide (alV b 16 + totL pk n ≤ 18446744073709551616))
def plV (pk : Bool) (n b : Int) : Value := if plOk pk n b = true then rV pk n (alV b 16) (alV b 16 + 16 * n) (alV b 16 + cO pk n) else rV false 0 0 0 0
def plN (pk : Bool) (n b : Int) : Int := if plOk pk n b = true then alV b 16 - b + totL pk n else 0
def plE (pk : Bool) (n b : Int) : Int := if plOk pk n b = true then 0 else 2
abbrev plR (pk : Bool) (n b : Int) : Ending := .returned (.tuple #[plV pk n b, .int .u64 (plN pk n b), .int .i64 (plE pk n b)])
theorem pl_no {pk : Bool} {n b : Int} (h : plOk pk n b = false) : Ending.returned (.tuple #[rV false 0 0 0 0, .int .u64 0, .int .i64 2]) = plR pk n b := by
  unfold plR plV plN plE
  rw [h]
  rfl
theorem pl_yes {pk : Bool} {n b : Int} (h : plOk pk n b = true) : Ending.returned (.tuple #[rV pk n (alV b 16) (alV b 16 + 16 * n) (alV b 16 + cO pk n), .int .u64 (alV b 16 - b + totL pk n), .int .i64 0]) = plR pk n b := by
  unfold plR plV plN plE
  rw [h]
  rfl
/-- the numbers of valid rings -/
theorem tot_rng {pk : Bool} {n : Int} (h : szB pk n = true) : pD pk n = 16 * n ∧ 1 ≤ n ∧ n ≤ 32768 ∧ 16 * n + pG pk n ≤ cO pk n ∧ cO pk n ≤ 16 * n + pG pk n + 3 ∧ cO pk n % 4 = 0 ∧ totL pk n = cO pk n + pC pk n ∧ 4 * ((16 * n + pG pk n + 3) / 4) = cO pk n := by
  have hr := szB_rng h
  unfold totL cO pD pG pC
  rw [h]
  cases pk <;> simp <;> omega


set_option maxHeartbeats 4000000 in
theorem place_un (pk : Bool) (n b D G C u A O T : Int) (w : World)
    (HV : ∀ w, Calls Try.prog 27 #[.bool pk, .int .i64 n] w fun e w' => e = .returned (.bool true) ∧ w = w')
    (HP : ∀ w, Calls Try.prog 16 #[rV pk n 0 0 0] w fun e w' => e = .returned (.tuple #[.int .u64 D, .int .u64 G, .int .u64 C]) ∧ Below w.heap.size w w')
    (HU : ∀ w, Calls Try.prog 28 #[.bool pk] w fun e w' => e = .returned (.agg #[.int .u64 16, .int .u64 u, .int .u64 4]) ∧ Below w.heap.size w w')
    (HA : ∀ w, Calls Try.prog 29 #[.int .u64 b, .int .u64 16] w fun e w' => e = .returned (.tuple #[.int .u64 A, .int .i64 2]) ∧ w = w')
    : Calls Try.prog 8 #[.bool pk, .int .i64 n, .int .u64 b] w fun e w' => e = .returned (.tuple #[rV false 0 0 0 0, .int .u64 0, .int .i64 2]) ∧ Below w.heap.size w w' := by
  have HV' := hid_mk HV
  have HP' := hid_mk HP
  have HU' := hid_mk HU
  have HA' := hid_mk HA
  clear HV HP HU HA
  go_enter Try.func8, Try.ntmps8
  go_wp2_with fail
  refine (HV'.out _).mono ?_
  rintro e w' ⟨rfl, rfl⟩
  go_wp2_with fail
  refine (HP'.out _).mono ?_
  rintro e w1 ⟨rfl, hb1⟩
  have B1 := hid_mk (below_new2 hb1)
  have z1 := hb1.size
  simp at z1
  have cx00 := hb1.cell (p := ⟨w.heap.size, 0, none⟩) (by first | (simp; done) | (simp; omega))
  have fx00 := hb1.frozen (p := ⟨w.heap.size, 0, none⟩) (by first | (simp; done) | (simp; omega))
  simp [go_sem] at cx00 fx00
  have cx01 := hb1.cell (p := ⟨w.heap.size, 1, none⟩) (by first | (simp; done) | (simp; omega))
  have fx01 := hb1.frozen (p := ⟨w.heap.size, 1, none⟩) (by first | (simp; done) | (simp; omega))
  simp [go_sem] at cx01 fx01
  have cx02 := hb1.cell (p := ⟨w.heap.size, 2, none⟩) (by first | (simp; done) | (simp; omega))
  have fx02 := hb1.frozen (p := ⟨w.heap.size, 2, none⟩) (by first | (simp; done) | (simp; omega))
  simp [go_sem] at cx02 fx02
  have cx03 := hb1.cell (p := ⟨w.heap.size, 3, none⟩) (by first | (simp; done) | (simp; omega))
  have fx03 := hb1.frozen (p := ⟨w.heap.size, 3, none⟩) (by first | (simp; done) | (simp; omega))
  simp [go_sem] at cx03 fx03
  have cx04 := hb1.cell (p := ⟨w.heap.size, 4, none⟩) (by first | (simp; done) | (simp; omega))
  have fx04 := hb1.frozen (p := ⟨w.heap.size, 4, none⟩) (by first | (simp; done) | (simp; omega))
  simp [go_sem] at cx04 fx04
  have cx10 := hb1.cell (p := ⟨w.heap.size + 1, 0, none⟩) (by first | (simp; done) | (simp; omega))
  have fx10 := hb1.frozen (p := ⟨w.heap.size + 1, 0, none⟩) (by first | (simp; done) | (simp; omega))
  simp [go_sem] at cx10 fx10
  have cx11 := hb1.cell (p := ⟨w.heap.size + 1, 1, none⟩) (by first | (simp; done) | (simp; omega))
  have fx11 := hb1.frozen (p := ⟨w.heap.size + 1, 1, none⟩) (by first | (simp; done) | (simp; omega))
  simp [go_sem] at cx11 fx11
  have cx12 := hb1.cell (p := ⟨w.heap.size + 1, 2, none⟩) (by first | (simp; done) | (simp; omega))
  have fx12 := hb1.frozen (p := ⟨w.heap.size + 1, 2, none⟩) (by first | (simp; done) | (simp; omega))
  simp [go_sem] at cx12 fx12
  have cx13 := hb1.cell (p := ⟨w.heap.size + 1, 3, none⟩) (by first | (simp; done) | (simp; omega))
  have fx13 := hb1.frozen (p := ⟨w.heap.size + 1, 3, none⟩) (by first | (simp; done) | (simp; omega))
  simp [go_sem] at cx13 fx13
  have cx14 := hb1.cell (p := ⟨w.heap.size + 1, 4, none⟩) (by first | (simp; done) | (simp; omega))
  have fx14 := hb1.frozen (p := ⟨w.heap.size + 1, 4, none⟩) (by first | (simp; done) | (simp; omega))
  simp [go_sem] at cx14 fx14
  go_wp2_with fail
  refine (HU'.out _).mono ?_
  rintro e w2 ⟨rfl, hb2⟩
  have B2 := hid_mk (below_then B1.out hb2)
  have z2 := hb2.size
  have q0 : w.heap.size < w2.heap.size := by omega
  have q0' : w.heap.size < w2.heap.size + 1 := by omega
  have q1 : w.heap.size + 1 < w2.heap.size := by omega
  have q1' : w.heap.size + 1 < w2.heap.size + 1 := by omega
  have cy00 := (hb2.cell (p := ⟨w.heap.size, 0, none⟩) (by simp only []; omega)).trans cx00
  have fy00 := (hb2.frozen (p := ⟨w.heap.size, 0, none⟩) (by simp only []; omega)).trans fx00
  have cy01 := (hb2.cell (p := ⟨w.heap.size, 1, none⟩) (by simp only []; omega)).trans cx01
  have fy01 := (hb2.frozen (p := ⟨w.heap.size, 1, none⟩) (by simp only []; omega)).trans fx01
  have cy02 := (hb2.cell (p := ⟨w.heap.size, 2, none⟩) (by simp only []; omega)).trans cx02
  have fy02 := (hb2.frozen (p := ⟨w.heap.size, 2, none⟩) (by simp only []; omega)).trans fx02
  have cy03 := (hb2.cell (p := ⟨w.heap.size, 3, none⟩) (by simp only []; omega)).trans cx03
  have fy03 := (hb2.frozen (p := ⟨w.heap.size, 3, none⟩) (by simp only []; omega)).trans fx03
  have cy04 := (hb2.cell (p := ⟨w.heap.size, 4, none⟩) (by simp only []; omega)).trans cx04
  have fy04 := (hb2.frozen (p := ⟨w.heap.size, 4, none⟩) (by simp only []; omega)).trans fx04
  have cy10 := (hb2.cell (p := ⟨w.heap.size + 1, 0, none⟩) (by simp only []; omega)).trans cx10
  have fy10 := (hb2.frozen (p := ⟨w.heap.size + 1, 0, none⟩) (by simp only []; omega)).trans fx10
  have cy11 := (hb2.cell (p := ⟨w.heap.size + 1, 1, none⟩) (by simp only []; omega)).trans cx11
  have fy11 := (hb2.frozen (p := ⟨w.heap.size + 1, 1, none⟩) (by simp only []; omega)).trans fx11
  have cy12 := (hb2.cell (p := ⟨w.heap.size + 1, 2, none⟩) (by simp only []; omega)).trans cx12
  have fy12 := (hb2.frozen (p := ⟨w.heap.size + 1, 2, none⟩) (by simp only []; omega)).trans fx12
  have cy13 := (hb2.cell (p := ⟨w.heap.size + 1, 3, none⟩) (by simp only []; omega)).trans cx13
  have fy13 := (hb2.frozen (p := ⟨w.heap.size + 1, 3, none⟩) (by simp only []; omega)).trans fx13
  have cy14 := (hb2.cell (p := ⟨w.heap.size + 1, 4, none⟩) (by simp only []; omega)).trans cx14
  have fy14 := (hb2.frozen (p := ⟨w.heap.size + 1, 4, none⟩) (by simp only []; omega)).trans fx14
  clear cx00 fx00 cx01 fx01 cx02 fx02 cx03 fx03 cx04 fx04 cx10 fx10 cx11 fx11 cx12 fx12 cx13 fx13 cx14 fx14
  clear hb1 hb2
  go_wp2_with fail
  refine (HA'.out _).mono ?_
  rintro e w' ⟨rfl, rfl⟩
  go_wp2_with fail
  refine bodyPost_ret (v := .tuple #[rV false 0 0 0 0, .int .u64 0, .int .i64 2]) ?_ rfl ⟨rfl, ?_⟩
  · simp [results, Try.results8, go_sem, cy00, cy01, cy02, cy03, cy04, q0]
  · refine Below.alloc ?_ (by simp; omega) _
    clear HV' HP' HU' HA'
    repeat (refine Below.setCell ?_ (by simp only []; omega) _)
    exact B2.out

set_option maxHeartbeats 4000000 in
theorem place_far (pk : Bool) (n b D G C u A O T : Int) (w : World)
    (hf : IntKind.u64.wrap (18446744073709551615 - IntKind.u64.wrap (IntKind.u64.wrap (O + C) - 1)) < A)
    (HV : ∀ w, Calls Try.prog 27 #[.bool pk, .int .i64 n] w fun e w' => e = .returned (.bool true) ∧ w = w')
    (HP : ∀ w, Calls Try.prog 16 #[rV pk n 0 0 0] w fun e w' => e = .returned (.tuple #[.int .u64 D, .int .u64 G, .int .u64 C]) ∧ Below w.heap.size w w')
    (HU : ∀ w, Calls Try.prog 28 #[.bool pk] w fun e w' => e = .returned (.agg #[.int .u64 16, .int .u64 u, .int .u64 4]) ∧ Below w.heap.size w w')
    (HA : ∀ w, Calls Try.prog 29 #[.int .u64 b, .int .u64 16] w fun e w' => e = .returned (.tuple #[.int .u64 A, .int .i64 0]) ∧ w = w')
    (H1 : ∀ w, Calls Try.prog 30 #[.int .u64 D, .int .u64 u] w fun e w' => e = .returned (.int .u64 D) ∧ w = w')
    (H2 : ∀ w, Calls Try.prog 30 #[.int .u64 (IntKind.u64.wrap (D + G)), .int .u64 4] w fun e w' => e = .returned (.int .u64 O) ∧ w = w')
    : Calls Try.prog 8 #[.bool pk, .int .i64 n, .int .u64 b] w fun e w' => e = .returned (.tuple #[rV false 0 0 0 0, .int .u64 0, .int .i64 2]) ∧ Below w.heap.size w w' := by
  have HV' := hid_mk HV
  have HP' := hid_mk HP
  have HU' := hid_mk HU
  have HA' := hid_mk HA
  have H1' := hid_mk H1
  have H2' := hid_mk H2
  clear H1 H2
  clear HV HP HU HA
  go_enter Try.func8, Try.ntmps8
  go_wp2_with fail
  refine (HV'.out _).mono ?_
  rintro e w' ⟨rfl, rfl⟩
  go_wp2_with fail
  refine (HP'.out _).mono ?_
  rintro e w1 ⟨rfl, hb1⟩
  have B1 := hid_mk (below_new2 hb1)
  have z1 := hb1.size
  simp at z1
  have cx00 := hb1.cell (p := ⟨w.heap.size, 0, none⟩) (by first | (simp; done) | (simp; omega))
  have fx00 := hb1.frozen (p := ⟨w.heap.size, 0, none⟩) (by first | (simp; done) | (simp; omega))
  simp [go_sem] at cx00 fx00
  have cx01 := hb1.cell (p := ⟨w.heap.size, 1, none⟩) (by first | (simp; done) | (simp; omega))
  have fx01 := hb1.frozen (p := ⟨w.heap.size, 1, none⟩) (by first | (simp; done) | (simp; omega))
  simp [go_sem] at cx01 fx01
  have cx02 := hb1.cell (p := ⟨w.heap.size, 2, none⟩) (by first | (simp; done) | (simp; omega))
  have fx02 := hb1.frozen (p := ⟨w.heap.size, 2, none⟩) (by first | (simp; done) | (simp; omega))
  simp [go_sem] at cx02 fx02
  have cx03 := hb1.cell (p := ⟨w.heap.size, 3, none⟩) (by first | (simp; done) | (simp; omega))
  have fx03 := hb1.frozen (p := ⟨w.heap.size, 3, none⟩) (by first | (simp; done) | (simp; omega))
  simp [go_sem] at cx03 fx03
  have cx04 := hb1.cell (p := ⟨w.heap.size, 4, none⟩) (by first | (simp; done) | (simp; omega))
  have fx04 := hb1.frozen (p := ⟨w.heap.size, 4, none⟩) (by first | (simp; done) | (simp; omega))
  simp [go_sem] at cx04 fx04
  have cx10 := hb1.cell (p := ⟨w.heap.size + 1, 0, none⟩) (by first | (simp; done) | (simp; omega))
  have fx10 := hb1.frozen (p := ⟨w.heap.size + 1, 0, none⟩) (by first | (simp; done) | (simp; omega))
  simp [go_sem] at cx10 fx10
  have cx11 := hb1.cell (p := ⟨w.heap.size + 1, 1, none⟩) (by first | (simp; done) | (simp; omega))
  have fx11 := hb1.frozen (p := ⟨w.heap.size + 1, 1, none⟩) (by first | (simp; done) | (simp; omega))
  simp [go_sem] at cx11 fx11
  have cx12 := hb1.cell (p := ⟨w.heap.size + 1, 2, none⟩) (by first | (simp; done) | (simp; omega))
  have fx12 := hb1.frozen (p := ⟨w.heap.size + 1, 2, none⟩) (by first | (simp; done) | (simp; omega))
  simp [go_sem] at cx12 fx12
  have cx13 := hb1.cell (p := ⟨w.heap.size + 1, 3, none⟩) (by first | (simp; done) | (simp; omega))
  have fx13 := hb1.frozen (p := ⟨w.heap.size + 1, 3, none⟩) (by first | (simp; done) | (simp; omega))
  simp [go_sem] at cx13 fx13
  have cx14 := hb1.cell (p := ⟨w.heap.size + 1, 4, none⟩) (by first | (simp; done) | (simp; omega))
  have fx14 := hb1.frozen (p := ⟨w.heap.size + 1, 4, none⟩) (by first | (simp; done) | (simp; omega))
  simp [go_sem] at cx14 fx14
  go_wp2_with fail
  refine (HU'.out _).mono ?_
  rintro e w2 ⟨rfl, hb2⟩
  have B2 := hid_mk (below_then B1.out hb2)
  have z2 := hb2.size
  have q0 : w.heap.size < w2.heap.size := by omega
  have q0' : w.heap.size < w2.heap.size + 1 := by omega
  have q1 : w.heap.size + 1 < w2.heap.size := by omega
  have q1' : w.heap.size + 1 < w2.heap.size + 1 := by omega
  have cy00 := (hb2.cell (p := ⟨w.heap.size, 0, none⟩) (by simp only []; omega)).trans cx00
  have fy00 := (hb2.frozen (p := ⟨w.heap.size, 0, none⟩) (by simp only []; omega)).trans fx00
  have cy01 := (hb2.cell (p := ⟨w.heap.size, 1, none⟩) (by simp only []; omega)).trans cx01
  have fy01 := (hb2.frozen (p := ⟨w.heap.size, 1, none⟩) (by simp only []; omega)).trans fx01
  have cy02 := (hb2.cell (p := ⟨w.heap.size, 2, none⟩) (by simp only []; omega)).trans cx02
  have fy02 := (hb2.frozen (p := ⟨w.heap.size, 2, none⟩) (by simp only []; omega)).trans fx02
  have cy03 := (hb2.cell (p := ⟨w.heap.size, 3, none⟩) (by simp only []; omega)).trans cx03
  have fy03 := (hb2.frozen (p := ⟨w.heap.size, 3, none⟩) (by simp only []; omega)).trans fx03
  have cy04 := (hb2.cell (p := ⟨w.heap.size, 4, none⟩) (by simp only []; omega)).trans cx04
  have fy04 := (hb2.frozen (p := ⟨w.heap.size, 4, none⟩) (by simp only []; omega)).trans fx04
  have cy10 := (hb2.cell (p := ⟨w.heap.size + 1, 0, none⟩) (by simp only []; omega)).trans cx10
  have fy10 := (hb2.frozen (p := ⟨w.heap.size + 1, 0, none⟩) (by simp only []; omega)).trans fx10
  have cy11 := (hb2.cell (p := ⟨w.heap.size + 1, 1, none⟩) (by simp only []; omega)).trans cx11
  have fy11 := (hb2.frozen (p := ⟨w.heap.size + 1, 1, none⟩) (by simp only []; omega)).trans fx11
  have cy12 := (hb2.cell (p := ⟨w.heap.size + 1, 2, none⟩) (by simp only []; omega)).trans cx12
  have fy12 := (hb2.frozen (p := ⟨w.heap.size + 1, 2, none⟩) (by simp only []; omega)).trans fx12
  have cy13 := (hb2.cell (p := ⟨w.heap.size + 1, 3, none⟩) (by simp only []; omega)).trans cx13
  have fy13 := (hb2.frozen (p := ⟨w.heap.size + 1, 3, none⟩) (by simp only []; omega)).trans fx13
  have cy14 := (hb2.cell (p := ⟨w.heap.size + 1, 4, none⟩) (by simp only []; omega)).trans cx14
  have fy14 := (hb2.frozen (p := ⟨w.heap.size + 1, 4, none⟩) (by simp only []; omega)).trans fx14
  clear cx00 fx00 cx01 fx01 cx02 fx02 cx03 fx03 cx04 fx04 cx10 fx10 cx11 fx11 cx12 fx12 cx13 fx13 cx14 fx14
  clear hb1 hb2
  go_wp2_with fail
  refine (HA'.out _).mono ?_
  rintro e w' ⟨rfl, rfl⟩
  go_wp2_with fail
  refine (H1'.out _).mono ?_
  rintro e w' ⟨rfl, rfl⟩
  go_wp2_with fail
  refine (H2'.out _).mono ?_
  rintro e w' ⟨rfl, rfl⟩
  go_wp2_with fail
  refine bodyPost_ret (v := .tuple #[rV false 0 0 0 0, .int .u64 0, .int .i64 2]) ?_ rfl ⟨rfl, ?_⟩
  · simp [results, Try.results8, go_sem, cy00, cy01, cy02, cy03, cy04, q0]
  · refine Below.alloc ?_ (by simp; omega) _
    clear HV' HP' HU' HA' H1' H2'
    repeat (refine Below.setCell ?_ (by simp only []; omega) _)
    exact B2.out

set_option maxHeartbeats 4000000 in
theorem place_yes (pk : Bool) (n b D G C u A O T : Int) (w : World)
    (hf : A ≤ IntKind.u64.wrap (18446744073709551615 - IntKind.u64.wrap (IntKind.u64.wrap (O + C) - 1)))
    (HV : ∀ w, Calls Try.prog 27 #[.bool pk, .int .i64 n] w fun e w' => e = .returned (.bool true) ∧ w = w')
    (HP : ∀ w, Calls Try.prog 16 #[rV pk n 0 0 0] w fun e w' => e = .returned (.tuple #[.int .u64 D, .int .u64 G, .int .u64 C]) ∧ Below w.heap.size w w')
    (HU : ∀ w, Calls Try.prog 28 #[.bool pk] w fun e w' => e = .returned (.agg #[.int .u64 16, .int .u64 u, .int .u64 4]) ∧ Below w.heap.size w w')
    (HA : ∀ w, Calls Try.prog 29 #[.int .u64 b, .int .u64 16] w fun e w' => e = .returned (.tuple #[.int .u64 A, .int .i64 0]) ∧ w = w')
    (H1 : ∀ w, Calls Try.prog 30 #[.int .u64 D, .int .u64 u] w fun e w' => e = .returned (.int .u64 D) ∧ w = w')
    (H2 : ∀ w, Calls Try.prog 30 #[.int .u64 (IntKind.u64.wrap (D + G)), .int .u64 4] w fun e w' => e = .returned (.int .u64 O) ∧ w = w')
    : Calls Try.prog 8 #[.bool pk, .int .i64 n, .int .u64 b] w fun e w' => e = .returned (.tuple #[rV pk n A (IntKind.u64.wrap (A + D)) (IntKind.u64.wrap (A + O)), .int .u64 (IntKind.u64.wrap (IntKind.u64.wrap (A - b) + IntKind.u64.wrap (O + C))), .int .i64 0]) ∧ Below w.heap.size w w' := by
  have HV' := hid_mk HV
  have HP' := hid_mk HP
  have HU' := hid_mk HU
  have HA' := hid_mk HA
  have H1' := hid_mk H1
  have H2' := hid_mk H2
  clear H1 H2
  clear HV HP HU HA
  go_enter Try.func8, Try.ntmps8
  go_wp2_with fail
  refine (HV'.out _).mono ?_
  rintro e w' ⟨rfl, rfl⟩
  go_wp2_with fail
  refine (HP'.out _).mono ?_
  rintro e w1 ⟨rfl, hb1⟩
  have B1 := hid_mk (below_new2 hb1)
  have z1 := hb1.size
  simp at z1
  have cx00 := hb1.cell (p := ⟨w.heap.size, 0, none⟩) (by first | (simp; done) | (simp; omega))
  have fx00 := hb1.frozen (p := ⟨w.heap.size, 0, none⟩) (by first | (simp; done) | (simp; omega))
  simp [go_sem] at cx00 fx00
  have cx01 := hb1.cell (p := ⟨w.heap.size, 1, none⟩) (by first | (simp; done) | (simp; omega))
  have fx01 := hb1.frozen (p := ⟨w.heap.size, 1, none⟩) (by first | (simp; done) | (simp; omega))
  simp [go_sem] at cx01 fx01
  have cx02 := hb1.cell (p := ⟨w.heap.size, 2, none⟩) (by first | (simp; done) | (simp; omega))
  have fx02 := hb1.frozen (p := ⟨w.heap.size, 2, none⟩) (by first | (simp; done) | (simp; omega))
  simp [go_sem] at cx02 fx02
  have cx03 := hb1.cell (p := ⟨w.heap.size, 3, none⟩) (by first | (simp; done) | (simp; omega))
  have fx03 := hb1.frozen (p := ⟨w.heap.size, 3, none⟩) (by first | (simp; done) | (simp; omega))
  simp [go_sem] at cx03 fx03
  have cx04 := hb1.cell (p := ⟨w.heap.size, 4, none⟩) (by first | (simp; done) | (simp; omega))
  have fx04 := hb1.frozen (p := ⟨w.heap.size, 4, none⟩) (by first | (simp; done) | (simp; omega))
  simp [go_sem] at cx04 fx04
  have cx10 := hb1.cell (p := ⟨w.heap.size + 1, 0, none⟩) (by first | (simp; done) | (simp; omega))
  have fx10 := hb1.frozen (p := ⟨w.heap.size + 1, 0, none⟩) (by first | (simp; done) | (simp; omega))
  simp [go_sem] at cx10 fx10
  have cx11 := hb1.cell (p := ⟨w.heap.size + 1, 1, none⟩) (by first | (simp; done) | (simp; omega))
  have fx11 := hb1.frozen (p := ⟨w.heap.size + 1, 1, none⟩) (by first | (simp; done) | (simp; omega))
  simp [go_sem] at cx11 fx11
  have cx12 := hb1.cell (p := ⟨w.heap.size + 1, 2, none⟩) (by first | (simp; done) | (simp; omega))
  have fx12 := hb1.frozen (p := ⟨w.heap.size + 1, 2, none⟩) (by first | (simp; done) | (simp; omega))
  simp [go_sem] at cx12 fx12
  have cx13 := hb1.cell (p := ⟨w.heap.size + 1, 3, none⟩) (by first | (simp; done) | (simp; omega))
  have fx13 := hb1.frozen (p := ⟨w.heap.size + 1, 3, none⟩) (by first | (simp; done) | (simp; omega))
  simp [go_sem] at cx13 fx13
  have cx14 := hb1.cell (p := ⟨w.heap.size + 1, 4, none⟩) (by first | (simp; done) | (simp; omega))
  have fx14 := hb1.frozen (p := ⟨w.heap.size + 1, 4, none⟩) (by first | (simp; done) | (simp; omega))
  simp [go_sem] at cx14 fx14
  go_wp2_with fail
  refine (HU'.out _).mono ?_
  rintro e w2 ⟨rfl, hb2⟩
  have B2 := hid_mk (below_then B1.out hb2)
  have z2 := hb2.size
  have q0 : w.heap.size < w2.heap.size := by omega
  have q0' : w.heap.size < w2.heap.size + 1 := by omega
  have q1 : w.heap.size + 1 < w2.heap.size := by omega
  have q1' : w.heap.size + 1 < w2.heap.size + 1 := by omega
  have cy00 := (hb2.cell (p := ⟨w.heap.size, 0, none⟩) (by simp only []; omega)).trans cx00
  have fy00 := (hb2.frozen (p := ⟨w.heap.size, 0, none⟩) (by simp only []; omega)).trans fx00
  have cy01 := (hb2.cell (p := ⟨w.heap.size, 1, none⟩) (by simp only []; omega)).trans cx01
  have fy01 := (hb2.frozen (p := ⟨w.heap.size, 1, none⟩) (by simp only []; omega)).trans fx01
  have cy02 := (hb2.cell (p := ⟨w.heap.size, 2, none⟩) (by simp only []; omega)).trans cx02
  have fy02 := (hb2.frozen (p := ⟨w.heap.size, 2, none⟩) (by simp only []; omega)).trans fx02
  have cy03 := (hb2.cell (p := ⟨w.heap.size, 3, none⟩) (by simp only []; omega)).trans cx03
  have fy03 := (hb2.frozen (p := ⟨w.heap.size, 3, none⟩) (by simp only []; omega)).trans fx03
  have cy04 := (hb2.cell (p := ⟨w.heap.size, 4, none⟩) (by simp only []; omega)).trans cx04
  have fy04 := (hb2.frozen (p := ⟨w.heap.size, 4, none⟩) (by simp only []; omega)).trans fx04
  have cy10 := (hb2.cell (p := ⟨w.heap.size + 1, 0, none⟩) (by simp only []; omega)).trans cx10
  have fy10 := (hb2.frozen (p := ⟨w.heap.size + 1, 0, none⟩) (by simp only []; omega)).trans fx10
  have cy11 := (hb2.cell (p := ⟨w.heap.size + 1, 1, none⟩) (by simp only []; omega)).trans cx11
  have fy11 := (hb2.frozen (p := ⟨w.heap.size + 1, 1, none⟩) (by simp only []; omega)).trans fx11
  have cy12 := (hb2.cell (p := ⟨w.heap.size + 1, 2, none⟩) (by simp only []; omega)).trans cx12
  have fy12 := (hb2.frozen (p := ⟨w.heap.size + 1, 2, none⟩) (by simp only []; omega)).trans fx12
  have cy13 := (hb2.cell (p := ⟨w.heap.size + 1, 3, none⟩) (by simp only []; omega)).trans cx13
  have fy13 := (hb2.frozen (p := ⟨w.heap.size + 1, 3, none⟩) (by simp only []; omega)).trans fx13
  have cy14 := (hb2.cell (p := ⟨w.heap.size + 1, 4, none⟩) (by simp only []; omega)).trans cx14
  have fy14 := (hb2.frozen (p := ⟨w.heap.size + 1, 4, none⟩) (by simp only []; omega)).trans fx14
  clear cx00 fx00 cx01 fx01 cx02 fx02 cx03 fx03 cx04 fx04 cx10 fx10 cx11 fx11 cx12 fx12 cx13 fx13 cx14 fx14
  clear hb1 hb2
  go_wp2_with fail
  refine (HA'.out _).mono ?_
  rintro e w' ⟨rfl, rfl⟩
  go_wp2_with fail
  refine (H1'.out _).mono ?_
  rintro e w' ⟨rfl, rfl⟩
  go_wp2_with fail
  refine (H2'.out _).mono ?_
  rintro e w' ⟨rfl, rfl⟩
  go_wp2_with fail
  refine bodyPost_ret (v := .tuple #[rV pk n A (IntKind.u64.wrap (A + D)) (IntKind.u64.wrap (A + O)), .int .u64 (IntKind.u64.wrap (IntKind.u64.wrap (A - b) + IntKind.u64.wrap (O + C))), .int .i64 0]) ?_ rfl ⟨rfl, ?_⟩
  · simp [results, Try.results8, go_sem, cy00, cy01, cy02, cy03, cy04, q0]
  · refine Below.alloc ?_ (by simp; omega) _
    clear HV' HP' HU' HA' H1' H2'
    repeat (refine Below.setCell ?_ (by simp only []; omega) _)
    exact B2.out

theorem place_lay (pk : Bool) (n b : Int) (w : World) (hb : U64 b) :
    Calls Try.prog 8 #[.bool pk, .int .i64 n, .int .u64 b] w fun e w' => e = plR pk n b ∧ Below w.heap.size w w' := by
  cases hs : szB pk n
  · have HN := hid_mk (pl_no (pk := pk) (n := n) (b := b) (by simp [plOk, hs]))
    have HV := validSize_lay pk n
    rw [hs] at HV
    have HV' := hid_mk HV
    clear HV hs hb
    go_enter Try.func8, Try.ntmps8
    go_wp2_with fail
    refine (HV'.out _).mono ?_
    rintro e w' ⟨rfl, rfl⟩
    go_wp2_with fail
    refine bodyPost_ret (v := .tuple #[rV false 0 0 0 0, .int .u64 0, .int .i64 2]) ?_ rfl ⟨HN.out, ?_⟩
    · simp [results, Try.results8, go_sem]
    · repeat (first | exact Below.refl _ _ | (refine Below.setCell ?_ (by first | omega | (simp; done) | (simp; omega)) _) | (refine Below.alloc ?_ (by first | omega | (simp; done) | (simp; omega)) _))
  · obtain ⟨t1, t2, t3, t4, t5, t6, t7, t8⟩ := tot_rng hs
    obtain ⟨r1, r2, r3⟩ := part_rng hs
    have HV := validSize_lay pk n
    rw [hs] at HV
    have HP := parts_any pk n 0 0 0
    have HA := fun w => align_any b 16 w hb (by decide)
    cases ha : alOk b 16
    · rw [(al_no b 16 ha).1, (al_no b 16 ha).2] at HA
      have := place_un pk n b (pD pk n) (pG pk n) (pC pk n) (uG pk) 0 0 0 w HV HP (units_any pk) HA
      rw [pl_no (pk := pk) (n := n) (b := b) (by simp [plOk, ha])] at this
      exact this
    · have hle : b + 16 ≤ 18446744073709551616 := by
        rw [alOk_num powB16] at ha
        exact of_decide_eq_true ha
      have hA := alV_num powB16 hle
      have hAr : b ≤ alV b 16 ∧ alV b 16 < b + 16 := by
        rw [hA.1]
        omega
      rw [hA.2] at HA
      have H1 : ∀ w, Calls Try.prog 30 #[.int .u64 (pD pk n), .int .u64 (uG pk)] w fun e w' => e = .returned (.int .u64 (pD pk n)) ∧ w = w' := fun w => by
        have h := up_any (pD pk n) (uG pk) w ⟨by omega, by omega⟩ (by rcases uG_is pk with h | h <;> rw [h] <;> decide)
        have e : alV (pD pk n) (uG pk) = pD pk n := by
          rcases uG_is pk with h | h
          · rw [h, (alV_num powB2 (by omega)).1, t1]
            omega
          · rw [h, (alV_num powB4 (by omega)).1, t1]
            omega
        rw [e] at h
        exact h
      have ew : IntKind.u64.wrap (pD pk n + pG pk n) = 16 * n + pG pk n := by
        rw [IntKind.wrap_u64]
        omega
      have H2 : ∀ w, Calls Try.prog 30 #[.int .u64 (IntKind.u64.wrap (pD pk n + pG pk n)), .int .u64 4] w fun e w' => e = .returned (.int .u64 (cO pk n)) ∧ w = w' := fun w => by
        rw [ew]
        have h := up_any (16 * n + pG pk n) 4 w ⟨by omega, by omega⟩ (by decide)
        rw [(alV_num powB4 (by omega)).1] at h
        rw [show 4 * ((16 * n + pG pk n + 4 - 1) / 4) = cO pk n from by omega] at h
        exact h
      have e1 : IntKind.u64.wrap (cO pk n + pC pk n) = totL pk n := by
        rw [IntKind.wrap_u64]
        omega
      have e2 : IntKind.u64.wrap (18446744073709551615 - IntKind.u64.wrap (IntKind.u64.wrap (cO pk n + pC pk n) - 1)) = 18446744073709551616 - totL pk n := by
        rw [e1, IntKind.wrap_u64, IntKind.wrap_u64]
        omega
      by_cases hf : alV b 16 + totL pk n ≤ 18446744073709551616
      · have := place_yes pk n b (pD pk n) (pG pk n) (pC pk n) (uG pk) (alV b 16) (cO pk n) 0 w (by rw [e2]; omega) HV HP (units_any pk) HA H1 H2
        have hk : plOk pk n b = true := by
          unfold plOk
          rw [hs, ha, decide_eq_true hf]
          rfl
        rw [show IntKind.u64.wrap (alV b 16 + pD pk n) = alV b 16 + 16 * n from by rw [IntKind.wrap_u64]; omega, show IntKind.u64.wrap (alV b 16 + cO pk n) = alV b 16 + cO pk n from by rw [IntKind.wrap_u64]; omega, e1,
          show IntKind.u64.wrap (IntKind.u64.wrap (alV b 16 - b) + totL pk n) = alV b 16 - b + totL pk n from by rw [IntKind.wrap_u64, IntKind.wrap_u64]; omega, pl_yes hk] at this
        exact this
      · have := place_far pk n b (pD pk n) (pG pk n) (pC pk n) (uG pk) (alV b 16) (cO pk n) 0 w (by rw [e2]; omega) HV HP (units_any pk) HA H1 H2
        have hk : plOk pk n b = false := by
          unfold plOk
          rw [hs, ha, decide_eq_false hf]
          rfl
        rw [pl_no hk] at this
        exact this

end Go.Proofs.Ytolflhnkdnjckaa
