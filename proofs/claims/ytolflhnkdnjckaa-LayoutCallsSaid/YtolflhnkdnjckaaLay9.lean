/- Contract of the reference's Place of layer 4: what it returns, and that old memory stays. Conditions: as each theorem names them. Written by mklay9.py. -/
import Derived.Test.YtolflhnkdnjckaaLay8
namespace Go.Proofs.Ytolflhnkdnjckaa
open Go.ChangeShapes Go.WideShapes Go.ChangeAt Go.RowKit
set_option linter.unusedVariables false
set_option maxRecDepth 100000


set_option maxHeartbeats 4000000 in
theorem rplace_false_0 (n b D G C a1 e1 a2 e2 a3 e3 ck : Int) (w : World) (hD0 : ¬ D = 0)  (h0 : (e1 != 0) = true)
    (HP : ∀ w, Calls Try.prog 17 #[rV false n 0 0 0] w fun e w' => e = .returned (.tuple #[.int .u64 D, .int .u64 G, .int .u64 C]) ∧ Below w.heap.size w w')
    (H1 : ∀ w, Calls Try.prog 41 #[.int .u64 b, .int .u64 16] w fun e w' => e = .returned (.tuple #[.int .u64 a1, .int .i64 e1]) ∧ w = w')
    (H2 : ∀ w, Calls Try.prog 41 #[.int .u64 (IntKind.u64.wrap (a1 + D)), .int .u64 2] w fun e w' => e = .returned (.tuple #[.int .u64 a2, .int .i64 e2]) ∧ w = w')
    (H3 : ∀ w, Calls Try.prog 41 #[.int .u64 (IntKind.u64.wrap (a2 + G)), .int .u64 4] w fun e w' => e = .returned (.tuple #[.int .u64 a3, .int .i64 e3]) ∧ w = w')
    (HC : ∀ w, Calls Try.prog 18 #[rV false n a1 a2 a3] w fun e w' => e = .returned (.int .i64 ck) ∧ Below w.heap.size w w') :
    Calls Try.prog 21 #[.bool false, .int .i64 n, .int .u64 b] w fun e w' => e = .returned (.tuple #[rV false 0 0 0 0, .int .u64 0, .int .i64 2]) ∧ Below w.heap.size w w' := by
  have HP' := hid_mk HP
  have H1' := hid_mk H1
  have H2' := hid_mk H2
  have H3' := hid_mk H3
  have HC' := hid_mk HC
  clear HP H1 H2 H3 HC
  go_enter Try.func21, Try.ntmps21
  go_wp2_with fail
  refine (HP'.out _).mono ?_
  rintro e w1 ⟨rfl, hb1⟩
  have B1 := hid_mk (below_new2 hb1)
  have z1 := hb1.size
  simp at z1
  have q0 : w.heap.size < w1.heap.size := by omega
  have q1 : w.heap.size + 1 < w1.heap.size := by omega
  have cx00 := hb1.cell (p := ⟨w.heap.size, 0, none⟩) (by first | (simp; done) | (simp; omega))
  have fx00 := hb1.frozen (p := ⟨w.heap.size, 0, none⟩) (by first | (simp; done) | (simp; omega))
  simp [go_sem] at cx00 fx00
  have cx01 := hb1.cell (p := ⟨w.heap.size, 1, none⟩) (by first | (simp; done) | (simp; omega))
  have fx01 := hb1.frozen (p := ⟨w.heap.size, 1, none⟩) (by first | (simp; done) | (simp; omega))
  simp [go_sem] at cx01 fx01
  have cx02 := hb1.cell (p := ⟨w.heap.size, 2, none⟩) (by first | (simp; done) | (simp; omega))
  have fx02 := hb1.frozen (p := ⟨w.heap.size, 2, none⟩) (by first | (simp; done) | (simp; omega))
  simp [go_sem] at cx02 fx02
  have cx03 := hb1.cell (p := ⟨w.heap.size, 3, none⟩) (by first | (simp; done) | (simp; omega))
  have fx03 := hb1.frozen (p := ⟨w.heap.size, 3, none⟩) (by first | (simp; done) | (simp; omega))
  simp [go_sem] at cx03 fx03
  have cx04 := hb1.cell (p := ⟨w.heap.size, 4, none⟩) (by first | (simp; done) | (simp; omega))
  have fx04 := hb1.frozen (p := ⟨w.heap.size, 4, none⟩) (by first | (simp; done) | (simp; omega))
  simp [go_sem] at cx04 fx04
  have cx10 := hb1.cell (p := ⟨w.heap.size + 1, 0, none⟩) (by first | (simp; done) | (simp; omega))
  have fx10 := hb1.frozen (p := ⟨w.heap.size + 1, 0, none⟩) (by first | (simp; done) | (simp; omega))
  simp [go_sem] at cx10 fx10
  have cx11 := hb1.cell (p := ⟨w.heap.size + 1, 1, none⟩) (by first | (simp; done) | (simp; omega))
  have fx11 := hb1.frozen (p := ⟨w.heap.size + 1, 1, none⟩) (by first | (simp; done) | (simp; omega))
  simp [go_sem] at cx11 fx11
  have cx12 := hb1.cell (p := ⟨w.heap.size + 1, 2, none⟩) (by first | (simp; done) | (simp; omega))
  have fx12 := hb1.frozen (p := ⟨w.heap.size + 1, 2, none⟩) (by first | (simp; done) | (simp; omega))
  simp [go_sem] at cx12 fx12
  have cx13 := hb1.cell (p := ⟨w.heap.size + 1, 3, none⟩) (by first | (simp; done) | (simp; omega))
  have fx13 := hb1.frozen (p := ⟨w.heap.size + 1, 3, none⟩) (by first | (simp; done) | (simp; omega))
  simp [go_sem] at cx13 fx13
  have cx14 := hb1.cell (p := ⟨w.heap.size + 1, 4, none⟩) (by first | (simp; done) | (simp; omega))
  have fx14 := hb1.frozen (p := ⟨w.heap.size + 1, 4, none⟩) (by first | (simp; done) | (simp; omega))
  simp [go_sem] at cx14 fx14
  clear hb1
  go_wp2_with fail
  refine (H1'.out _).mono ?_
  rintro e w' ⟨rfl, rfl⟩
  go_wp2_with fail
  refine (H2'.out _).mono ?_
  rintro e w' ⟨rfl, rfl⟩
  go_wp2_with fail
  refine (H3'.out _).mono ?_
  rintro e w' ⟨rfl, rfl⟩
  go_wp2_with fail
  refine bodyPost_ret (v := .tuple #[rV false 0 0 0 0, .int .u64 0, .int .i64 2]) ?_ rfl ⟨rfl, ?_⟩
  · simp [results, Try.results21, go_sem, cx00, cx01, cx02, cx03, cx04]
  · clear HP' H1' H2' H3' HC'
    repeat (refine Below.setCell ?_ (by simp only []; omega) _)
    exact B1.out

set_option maxHeartbeats 4000000 in
theorem rplace_false_1 (n b D G C a1 e1 a2 e2 a3 e3 ck : Int) (w : World) (hD0 : ¬ D = 0) (h0 : (e1 != 0) = false) (h1 : (e2 != 0) = true)
    (HP : ∀ w, Calls Try.prog 17 #[rV false n 0 0 0] w fun e w' => e = .returned (.tuple #[.int .u64 D, .int .u64 G, .int .u64 C]) ∧ Below w.heap.size w w')
    (H1 : ∀ w, Calls Try.prog 41 #[.int .u64 b, .int .u64 16] w fun e w' => e = .returned (.tuple #[.int .u64 a1, .int .i64 e1]) ∧ w = w')
    (H2 : ∀ w, Calls Try.prog 41 #[.int .u64 (IntKind.u64.wrap (a1 + D)), .int .u64 2] w fun e w' => e = .returned (.tuple #[.int .u64 a2, .int .i64 e2]) ∧ w = w')
    (H3 : ∀ w, Calls Try.prog 41 #[.int .u64 (IntKind.u64.wrap (a2 + G)), .int .u64 4] w fun e w' => e = .returned (.tuple #[.int .u64 a3, .int .i64 e3]) ∧ w = w')
    (HC : ∀ w, Calls Try.prog 18 #[rV false n a1 a2 a3] w fun e w' => e = .returned (.int .i64 ck) ∧ Below w.heap.size w w') :
    Calls Try.prog 21 #[.bool false, .int .i64 n, .int .u64 b] w fun e w' => e = .returned (.tuple #[rV false 0 0 0 0, .int .u64 0, .int .i64 2]) ∧ Below w.heap.size w w' := by
  have HP' := hid_mk HP
  have H1' := hid_mk H1
  have H2' := hid_mk H2
  have H3' := hid_mk H3
  have HC' := hid_mk HC
  clear HP H1 H2 H3 HC
  go_enter Try.func21, Try.ntmps21
  go_wp2_with fail
  refine (HP'.out _).mono ?_
  rintro e w1 ⟨rfl, hb1⟩
  have B1 := hid_mk (below_new2 hb1)
  have z1 := hb1.size
  simp at z1
  have q0 : w.heap.size < w1.heap.size := by omega
  have q1 : w.heap.size + 1 < w1.heap.size := by omega
  have cx00 := hb1.cell (p := ⟨w.heap.size, 0, none⟩) (by first | (simp; done) | (simp; omega))
  have fx00 := hb1.frozen (p := ⟨w.heap.size, 0, none⟩) (by first | (simp; done) | (simp; omega))
  simp [go_sem] at cx00 fx00
  have cx01 := hb1.cell (p := ⟨w.heap.size, 1, none⟩) (by first | (simp; done) | (simp; omega))
  have fx01 := hb1.frozen (p := ⟨w.heap.size, 1, none⟩) (by first | (simp; done) | (simp; omega))
  simp [go_sem] at cx01 fx01
  have cx02 := hb1.cell (p := ⟨w.heap.size, 2, none⟩) (by first | (simp; done) | (simp; omega))
  have fx02 := hb1.frozen (p := ⟨w.heap.size, 2, none⟩) (by first | (simp; done) | (simp; omega))
  simp [go_sem] at cx02 fx02
  have cx03 := hb1.cell (p := ⟨w.heap.size, 3, none⟩) (by first | (simp; done) | (simp; omega))
  have fx03 := hb1.frozen (p := ⟨w.heap.size, 3, none⟩) (by first | (simp; done) | (simp; omega))
  simp [go_sem] at cx03 fx03
  have cx04 := hb1.cell (p := ⟨w.heap.size, 4, none⟩) (by first | (simp; done) | (simp; omega))
  have fx04 := hb1.frozen (p := ⟨w.heap.size, 4, none⟩) (by first | (simp; done) | (simp; omega))
  simp [go_sem] at cx04 fx04
  have cx10 := hb1.cell (p := ⟨w.heap.size + 1, 0, none⟩) (by first | (simp; done) | (simp; omega))
  have fx10 := hb1.frozen (p := ⟨w.heap.size + 1, 0, none⟩) (by first | (simp; done) | (simp; omega))
  simp [go_sem] at cx10 fx10
  have cx11 := hb1.cell (p := ⟨w.heap.size + 1, 1, none⟩) (by first | (simp; done) | (simp; omega))
  have fx11 := hb1.frozen (p := ⟨w.heap.size + 1, 1, none⟩) (by first | (simp; done) | (simp; omega))
  simp [go_sem] at cx11 fx11
  have cx12 := hb1.cell (p := ⟨w.heap.size + 1, 2, none⟩) (by first | (simp; done) | (simp; omega))
  have fx12 := hb1.frozen (p := ⟨w.heap.size + 1, 2, none⟩) (by first | (simp; done) | (simp; omega))
  simp [go_sem] at cx12 fx12
  have cx13 := hb1.cell (p := ⟨w.heap.size + 1, 3, none⟩) (by first | (simp; done) | (simp; omega))
  have fx13 := hb1.frozen (p := ⟨w.heap.size + 1, 3, none⟩) (by first | (simp; done) | (simp; omega))
  simp [go_sem] at cx13 fx13
  have cx14 := hb1.cell (p := ⟨w.heap.size + 1, 4, none⟩) (by first | (simp; done) | (simp; omega))
  have fx14 := hb1.frozen (p := ⟨w.heap.size + 1, 4, none⟩) (by first | (simp; done) | (simp; omega))
  simp [go_sem] at cx14 fx14
  clear hb1
  go_wp2_with fail
  refine (H1'.out _).mono ?_
  rintro e w' ⟨rfl, rfl⟩
  go_wp2_with fail
  refine (H2'.out _).mono ?_
  rintro e w' ⟨rfl, rfl⟩
  go_wp2_with fail
  refine (H3'.out _).mono ?_
  rintro e w' ⟨rfl, rfl⟩
  go_wp2_with fail
  refine bodyPost_ret (v := .tuple #[rV false 0 0 0 0, .int .u64 0, .int .i64 2]) ?_ rfl ⟨rfl, ?_⟩
  · simp [results, Try.results21, go_sem, cx00, cx01, cx02, cx03, cx04]
  · clear HP' H1' H2' H3' HC'
    repeat (refine Below.setCell ?_ (by simp only []; omega) _)
    exact B1.out

set_option maxHeartbeats 4000000 in
theorem rplace_false_2 (n b D G C a1 e1 a2 e2 a3 e3 ck : Int) (w : World) (hD0 : ¬ D = 0) (h0 : (e1 != 0) = false) (h1 : (e2 != 0) = false) (h2 : (e3 != 0) = true)
    (HP : ∀ w, Calls Try.prog 17 #[rV false n 0 0 0] w fun e w' => e = .returned (.tuple #[.int .u64 D, .int .u64 G, .int .u64 C]) ∧ Below w.heap.size w w')
    (H1 : ∀ w, Calls Try.prog 41 #[.int .u64 b, .int .u64 16] w fun e w' => e = .returned (.tuple #[.int .u64 a1, .int .i64 e1]) ∧ w = w')
    (H2 : ∀ w, Calls Try.prog 41 #[.int .u64 (IntKind.u64.wrap (a1 + D)), .int .u64 2] w fun e w' => e = .returned (.tuple #[.int .u64 a2, .int .i64 e2]) ∧ w = w')
    (H3 : ∀ w, Calls Try.prog 41 #[.int .u64 (IntKind.u64.wrap (a2 + G)), .int .u64 4] w fun e w' => e = .returned (.tuple #[.int .u64 a3, .int .i64 e3]) ∧ w = w')
    (HC : ∀ w, Calls Try.prog 18 #[rV false n a1 a2 a3] w fun e w' => e = .returned (.int .i64 ck) ∧ Below w.heap.size w w') :
    Calls Try.prog 21 #[.bool false, .int .i64 n, .int .u64 b] w fun e w' => e = .returned (.tuple #[rV false 0 0 0 0, .int .u64 0, .int .i64 2]) ∧ Below w.heap.size w w' := by
  have HP' := hid_mk HP
  have H1' := hid_mk H1
  have H2' := hid_mk H2
  have H3' := hid_mk H3
  have HC' := hid_mk HC
  clear HP H1 H2 H3 HC
  go_enter Try.func21, Try.ntmps21
  go_wp2_with fail
  refine (HP'.out _).mono ?_
  rintro e w1 ⟨rfl, hb1⟩
  have B1 := hid_mk (below_new2 hb1)
  have z1 := hb1.size
  simp at z1
  have q0 : w.heap.size < w1.heap.size := by omega
  have q1 : w.heap.size + 1 < w1.heap.size := by omega
  have cx00 := hb1.cell (p := ⟨w.heap.size, 0, none⟩) (by first | (simp; done) | (simp; omega))
  have fx00 := hb1.frozen (p := ⟨w.heap.size, 0, none⟩) (by first | (simp; done) | (simp; omega))
  simp [go_sem] at cx00 fx00
  have cx01 := hb1.cell (p := ⟨w.heap.size, 1, none⟩) (by first | (simp; done) | (simp; omega))
  have fx01 := hb1.frozen (p := ⟨w.heap.size, 1, none⟩) (by first | (simp; done) | (simp; omega))
  simp [go_sem] at cx01 fx01
  have cx02 := hb1.cell (p := ⟨w.heap.size, 2, none⟩) (by first | (simp; done) | (simp; omega))
  have fx02 := hb1.frozen (p := ⟨w.heap.size, 2, none⟩) (by first | (simp; done) | (simp; omega))
  simp [go_sem] at cx02 fx02
  have cx03 := hb1.cell (p := ⟨w.heap.size, 3, none⟩) (by first | (simp; done) | (simp; omega))
  have fx03 := hb1.frozen (p := ⟨w.heap.size, 3, none⟩) (by first | (simp; done) | (simp; omega))
  simp [go_sem] at cx03 fx03
  have cx04 := hb1.cell (p := ⟨w.heap.size, 4, none⟩) (by first | (simp; done) | (simp; omega))
  have fx04 := hb1.frozen (p := ⟨w.heap.size, 4, none⟩) (by first | (simp; done) | (simp; omega))
  simp [go_sem] at cx04 fx04
  have cx10 := hb1.cell (p := ⟨w.heap.size + 1, 0, none⟩) (by first | (simp; done) | (simp; omega))
  have fx10 := hb1.frozen (p := ⟨w.heap.size + 1, 0, none⟩) (by first | (simp; done) | (simp; omega))
  simp [go_sem] at cx10 fx10
  have cx11 := hb1.cell (p := ⟨w.heap.size + 1, 1, none⟩) (by first | (simp; done) | (simp; omega))
  have fx11 := hb1.frozen (p := ⟨w.heap.size + 1, 1, none⟩) (by first | (simp; done) | (simp; omega))
  simp [go_sem] at cx11 fx11
  have cx12 := hb1.cell (p := ⟨w.heap.size + 1, 2, none⟩) (by first | (simp; done) | (simp; omega))
  have fx12 := hb1.frozen (p := ⟨w.heap.size + 1, 2, none⟩) (by first | (simp; done) | (simp; omega))
  simp [go_sem] at cx12 fx12
  have cx13 := hb1.cell (p := ⟨w.heap.size + 1, 3, none⟩) (by first | (simp; done) | (simp; omega))
  have fx13 := hb1.frozen (p := ⟨w.heap.size + 1, 3, none⟩) (by first | (simp; done) | (simp; omega))
  simp [go_sem] at cx13 fx13
  have cx14 := hb1.cell (p := ⟨w.heap.size + 1, 4, none⟩) (by first | (simp; done) | (simp; omega))
  have fx14 := hb1.frozen (p := ⟨w.heap.size + 1, 4, none⟩) (by first | (simp; done) | (simp; omega))
  simp [go_sem] at cx14 fx14
  clear hb1
  go_wp2_with fail
  refine (H1'.out _).mono ?_
  rintro e w' ⟨rfl, rfl⟩
  go_wp2_with fail
  refine (H2'.out _).mono ?_
  rintro e w' ⟨rfl, rfl⟩
  go_wp2_with fail
  refine (H3'.out _).mono ?_
  rintro e w' ⟨rfl, rfl⟩
  go_wp2_with fail
  refine bodyPost_ret (v := .tuple #[rV false 0 0 0 0, .int .u64 0, .int .i64 2]) ?_ rfl ⟨rfl, ?_⟩
  · simp [results, Try.results21, go_sem, cx00, cx01, cx02, cx03, cx04]
  · clear HP' H1' H2' H3' HC'
    repeat (refine Below.setCell ?_ (by simp only []; omega) _)
    exact B1.out

set_option maxHeartbeats 4000000 in
theorem rplace_false_3 (n b D G C a1 e1 a2 e2 a3 e3 ck : Int) (w : World) (hD0 : ¬ D = 0) (h0 : (e1 != 0) = false) (h1 : (e2 != 0) = false) (h2 : (e3 != 0) = false) (h3 : decide (IntKind.u64.wrap (a1 + D) < a1) = true)
    (HP : ∀ w, Calls Try.prog 17 #[rV false n 0 0 0] w fun e w' => e = .returned (.tuple #[.int .u64 D, .int .u64 G, .int .u64 C]) ∧ Below w.heap.size w w')
    (H1 : ∀ w, Calls Try.prog 41 #[.int .u64 b, .int .u64 16] w fun e w' => e = .returned (.tuple #[.int .u64 a1, .int .i64 e1]) ∧ w = w')
    (H2 : ∀ w, Calls Try.prog 41 #[.int .u64 (IntKind.u64.wrap (a1 + D)), .int .u64 2] w fun e w' => e = .returned (.tuple #[.int .u64 a2, .int .i64 e2]) ∧ w = w')
    (H3 : ∀ w, Calls Try.prog 41 #[.int .u64 (IntKind.u64.wrap (a2 + G)), .int .u64 4] w fun e w' => e = .returned (.tuple #[.int .u64 a3, .int .i64 e3]) ∧ w = w')
    (HC : ∀ w, Calls Try.prog 18 #[rV false n a1 a2 a3] w fun e w' => e = .returned (.int .i64 ck) ∧ Below w.heap.size w w') :
    Calls Try.prog 21 #[.bool false, .int .i64 n, .int .u64 b] w fun e w' => e = .returned (.tuple #[rV false 0 0 0 0, .int .u64 0, .int .i64 2]) ∧ Below w.heap.size w w' := by
  have HP' := hid_mk HP
  have H1' := hid_mk H1
  have H2' := hid_mk H2
  have H3' := hid_mk H3
  have HC' := hid_mk HC
  clear HP H1 H2 H3 HC
  go_enter Try.func21, Try.ntmps21
  go_wp2_with fail
  refine (HP'.out _).mono ?_
  rintro e w1 ⟨rfl, hb1⟩
  have B1 := hid_mk (below_new2 hb1)
  have z1 := hb1.size
  simp at z1
  have q0 : w.heap.size < w1.heap.size := by omega
  have q1 : w.heap.size + 1 < w1.heap.size := by omega
  have cx00 := hb1.cell (p := ⟨w.heap.size, 0, none⟩) (by first | (simp; done) | (simp; omega))
  have fx00 := hb1.frozen (p := ⟨w.heap.size, 0, none⟩) (by first | (simp; done) | (simp; omega))
  simp [go_sem] at cx00 fx00
  have cx01 := hb1.cell (p := ⟨w.heap.size, 1, none⟩) (by first | (simp; done) | (simp; omega))
  have fx01 := hb1.frozen (p := ⟨w.heap.size, 1, none⟩) (by first | (simp; done) | (simp; omega))
  simp [go_sem] at cx01 fx01
  have cx02 := hb1.cell (p := ⟨w.heap.size, 2, none⟩) (by first | (simp; done) | (simp; omega))
  have fx02 := hb1.frozen (p := ⟨w.heap.size, 2, none⟩) (by first | (simp; done) | (simp; omega))
  simp [go_sem] at cx02 fx02
  have cx03 := hb1.cell (p := ⟨w.heap.size, 3, none⟩) (by first | (simp; done) | (simp; omega))
  have fx03 := hb1.frozen (p := ⟨w.heap.size, 3, none⟩) (by first | (simp; done) | (simp; omega))
  simp [go_sem] at cx03 fx03
  have cx04 := hb1.cell (p := ⟨w.heap.size, 4, none⟩) (by first | (simp; done) | (simp; omega))
  have fx04 := hb1.frozen (p := ⟨w.heap.size, 4, none⟩) (by first | (simp; done) | (simp; omega))
  simp [go_sem] at cx04 fx04
  have cx10 := hb1.cell (p := ⟨w.heap.size + 1, 0, none⟩) (by first | (simp; done) | (simp; omega))
  have fx10 := hb1.frozen (p := ⟨w.heap.size + 1, 0, none⟩) (by first | (simp; done) | (simp; omega))
  simp [go_sem] at cx10 fx10
  have cx11 := hb1.cell (p := ⟨w.heap.size + 1, 1, none⟩) (by first | (simp; done) | (simp; omega))
  have fx11 := hb1.frozen (p := ⟨w.heap.size + 1, 1, none⟩) (by first | (simp; done) | (simp; omega))
  simp [go_sem] at cx11 fx11
  have cx12 := hb1.cell (p := ⟨w.heap.size + 1, 2, none⟩) (by first | (simp; done) | (simp; omega))
  have fx12 := hb1.frozen (p := ⟨w.heap.size + 1, 2, none⟩) (by first | (simp; done) | (simp; omega))
  simp [go_sem] at cx12 fx12
  have cx13 := hb1.cell (p := ⟨w.heap.size + 1, 3, none⟩) (by first | (simp; done) | (simp; omega))
  have fx13 := hb1.frozen (p := ⟨w.heap.size + 1, 3, none⟩) (by first | (simp; done) | (simp; omega))
  simp [go_sem] at cx13 fx13
  have cx14 := hb1.cell (p := ⟨w.heap.size + 1, 4, none⟩) (by first | (simp; done) | (simp; omega))
  have fx14 := hb1.frozen (p := ⟨w.heap.size + 1, 4, none⟩) (by first | (simp; done) | (simp; omega))
  simp [go_sem] at cx14 fx14
  clear hb1
  go_wp2_with fail
  refine (H1'.out _).mono ?_
  rintro e w' ⟨rfl, rfl⟩
  go_wp2_with fail
  refine (H2'.out _).mono ?_
  rintro e w' ⟨rfl, rfl⟩
  go_wp2_with fail
  refine (H3'.out _).mono ?_
  rintro e w' ⟨rfl, rfl⟩
  go_wp2_with fail
  refine bodyPost_ret (v := .tuple #[rV false 0 0 0 0, .int .u64 0, .int .i64 2]) ?_ rfl ⟨rfl, ?_⟩
  · simp [results, Try.results21, go_sem, cx00, cx01, cx02, cx03, cx04]
  · clear HP' H1' H2' H3' HC'
    repeat (refine Below.setCell ?_ (by simp only []; omega) _)
    exact B1.out

set_option maxHeartbeats 4000000 in
theorem rplace_false_4 (n b D G C a1 e1 a2 e2 a3 e3 ck : Int) (w : World) (hD0 : ¬ D = 0) (h0 : (e1 != 0) = false) (h1 : (e2 != 0) = false) (h2 : (e3 != 0) = false) (h3 : decide (IntKind.u64.wrap (a1 + D) < a1) = false) (h4 : decide (IntKind.u64.wrap (a2 + G) < a2) = true)
    (HP : ∀ w, Calls Try.prog 17 #[rV false n 0 0 0] w fun e w' => e = .returned (.tuple #[.int .u64 D, .int .u64 G, .int .u64 C]) ∧ Below w.heap.size w w')
    (H1 : ∀ w, Calls Try.prog 41 #[.int .u64 b, .int .u64 16] w fun e w' => e = .returned (.tuple #[.int .u64 a1, .int .i64 e1]) ∧ w = w')
    (H2 : ∀ w, Calls Try.prog 41 #[.int .u64 (IntKind.u64.wrap (a1 + D)), .int .u64 2] w fun e w' => e = .returned (.tuple #[.int .u64 a2, .int .i64 e2]) ∧ w = w')
    (H3 : ∀ w, Calls Try.prog 41 #[.int .u64 (IntKind.u64.wrap (a2 + G)), .int .u64 4] w fun e w' => e = .returned (.tuple #[.int .u64 a3, .int .i64 e3]) ∧ w = w')
    (HC : ∀ w, Calls Try.prog 18 #[rV false n a1 a2 a3] w fun e w' => e = .returned (.int .i64 ck) ∧ Below w.heap.size w w') :
    Calls Try.prog 21 #[.bool false, .int .i64 n, .int .u64 b] w fun e w' => e = .returned (.tuple #[rV false 0 0 0 0, .int .u64 0, .int .i64 2]) ∧ Below w.heap.size w w' := by
  have HP' := hid_mk HP
  have H1' := hid_mk H1
  have H2' := hid_mk H2
  have H3' := hid_mk H3
  have HC' := hid_mk HC
  clear HP H1 H2 H3 HC
  go_enter Try.func21, Try.ntmps21
  go_wp2_with fail
  refine (HP'.out _).mono ?_
  rintro e w1 ⟨rfl, hb1⟩
  have B1 := hid_mk (below_new2 hb1)
  have z1 := hb1.size
  simp at z1
  have q0 : w.heap.size < w1.heap.size := by omega
  have q1 : w.heap.size + 1 < w1.heap.size := by omega
  have cx00 := hb1.cell (p := ⟨w.heap.size, 0, none⟩) (by first | (simp; done) | (simp; omega))
  have fx00 := hb1.frozen (p := ⟨w.heap.size, 0, none⟩) (by first | (simp; done) | (simp; omega))
  simp [go_sem] at cx00 fx00
  have cx01 := hb1.cell (p := ⟨w.heap.size, 1, none⟩) (by first | (simp; done) | (simp; omega))
  have fx01 := hb1.frozen (p := ⟨w.heap.size, 1, none⟩) (by first | (simp; done) | (simp; omega))
  simp [go_sem] at cx01 fx01
  have cx02 := hb1.cell (p := ⟨w.heap.size, 2, none⟩) (by first | (simp; done) | (simp; omega))
  have fx02 := hb1.frozen (p := ⟨w.heap.size, 2, none⟩) (by first | (simp; done) | (simp; omega))
  simp [go_sem] at cx02 fx02
  have cx03 := hb1.cell (p := ⟨w.heap.size, 3, none⟩) (by first | (simp; done) | (simp; omega))
  have fx03 := hb1.frozen (p := ⟨w.heap.size, 3, none⟩) (by first | (simp; done) | (simp; omega))
  simp [go_sem] at cx03 fx03
  have cx04 := hb1.cell (p := ⟨w.heap.size, 4, none⟩) (by first | (simp; done) | (simp; omega))
  have fx04 := hb1.frozen (p := ⟨w.heap.size, 4, none⟩) (by first | (simp; done) | (simp; omega))
  simp [go_sem] at cx04 fx04
  have cx10 := hb1.cell (p := ⟨w.heap.size + 1, 0, none⟩) (by first | (simp; done) | (simp; omega))
  have fx10 := hb1.frozen (p := ⟨w.heap.size + 1, 0, none⟩) (by first | (simp; done) | (simp; omega))
  simp [go_sem] at cx10 fx10
  have cx11 := hb1.cell (p := ⟨w.heap.size + 1, 1, none⟩) (by first | (simp; done) | (simp; omega))
  have fx11 := hb1.frozen (p := ⟨w.heap.size + 1, 1, none⟩) (by first | (simp; done) | (simp; omega))
  simp [go_sem] at cx11 fx11
  have cx12 := hb1.cell (p := ⟨w.heap.size + 1, 2, none⟩) (by first | (simp; done) | (simp; omega))
  have fx12 := hb1.frozen (p := ⟨w.heap.size + 1, 2, none⟩) (by first | (simp; done) | (simp; omega))
  simp [go_sem] at cx12 fx12
  have cx13 := hb1.cell (p := ⟨w.heap.size + 1, 3, none⟩) (by first | (simp; done) | (simp; omega))
  have fx13 := hb1.frozen (p := ⟨w.heap.size + 1, 3, none⟩) (by first | (simp; done) | (simp; omega))
  simp [go_sem] at cx13 fx13
  have cx14 := hb1.cell (p := ⟨w.heap.size + 1, 4, none⟩) (by first | (simp; done) | (simp; omega))
  have fx14 := hb1.frozen (p := ⟨w.heap.size + 1, 4, none⟩) (by first | (simp; done) | (simp; omega))
  simp [go_sem] at cx14 fx14
  clear hb1
  go_wp2_with fail
  refine (H1'.out _).mono ?_
  rintro e w' ⟨rfl, rfl⟩
  go_wp2_with fail
  refine (H2'.out _).mono ?_
  rintro e w' ⟨rfl, rfl⟩
  go_wp2_with fail
  refine (H3'.out _).mono ?_
  rintro e w' ⟨rfl, rfl⟩
  go_wp2_with fail
  refine bodyPost_ret (v := .tuple #[rV false 0 0 0 0, .int .u64 0, .int .i64 2]) ?_ rfl ⟨rfl, ?_⟩
  · simp [results, Try.results21, go_sem, cx00, cx01, cx02, cx03, cx04]
  · clear HP' H1' H2' H3' HC'
    repeat (refine Below.setCell ?_ (by simp only []; omega) _)
    exact B1.out

set_option maxHeartbeats 4000000 in
theorem rplace_false_5 (n b D G C a1 e1 a2 e2 a3 e3 ck : Int) (w : World) (hD0 : ¬ D = 0) (h0 : (e1 != 0) = false) (h1 : (e2 != 0) = false) (h2 : (e3 != 0) = false) (h3 : decide (IntKind.u64.wrap (a1 + D) < a1) = false) (h4 : decide (IntKind.u64.wrap (a2 + G) < a2) = false) (h5 : decide (IntKind.u64.wrap (a3 + IntKind.u64.wrap (C - 1)) < a3) = true)
    (HP : ∀ w, Calls Try.prog 17 #[rV false n 0 0 0] w fun e w' => e = .returned (.tuple #[.int .u64 D, .int .u64 G, .int .u64 C]) ∧ Below w.heap.size w w')
    (H1 : ∀ w, Calls Try.prog 41 #[.int .u64 b, .int .u64 16] w fun e w' => e = .returned (.tuple #[.int .u64 a1, .int .i64 e1]) ∧ w = w')
    (H2 : ∀ w, Calls Try.prog 41 #[.int .u64 (IntKind.u64.wrap (a1 + D)), .int .u64 2] w fun e w' => e = .returned (.tuple #[.int .u64 a2, .int .i64 e2]) ∧ w = w')
    (H3 : ∀ w, Calls Try.prog 41 #[.int .u64 (IntKind.u64.wrap (a2 + G)), .int .u64 4] w fun e w' => e = .returned (.tuple #[.int .u64 a3, .int .i64 e3]) ∧ w = w')
    (HC : ∀ w, Calls Try.prog 18 #[rV false n a1 a2 a3] w fun e w' => e = .returned (.int .i64 ck) ∧ Below w.heap.size w w') :
    Calls Try.prog 21 #[.bool false, .int .i64 n, .int .u64 b] w fun e w' => e = .returned (.tuple #[rV false 0 0 0 0, .int .u64 0, .int .i64 2]) ∧ Below w.heap.size w w' := by
  have HP' := hid_mk HP
  have H1' := hid_mk H1
  have H2' := hid_mk H2
  have H3' := hid_mk H3
  have HC' := hid_mk HC
  clear HP H1 H2 H3 HC
  go_enter Try.func21, Try.ntmps21
  go_wp2_with fail
  refine (HP'.out _).mono ?_
  rintro e w1 ⟨rfl, hb1⟩
  have B1 := hid_mk (below_new2 hb1)
  have z1 := hb1.size
  simp at z1
  have q0 : w.heap.size < w1.heap.size := by omega
  have q1 : w.heap.size + 1 < w1.heap.size := by omega
  have cx00 := hb1.cell (p := ⟨w.heap.size, 0, none⟩) (by first | (simp; done) | (simp; omega))
  have fx00 := hb1.frozen (p := ⟨w.heap.size, 0, none⟩) (by first | (simp; done) | (simp; omega))
  simp [go_sem] at cx00 fx00
  have cx01 := hb1.cell (p := ⟨w.heap.size, 1, none⟩) (by first | (simp; done) | (simp; omega))
  have fx01 := hb1.frozen (p := ⟨w.heap.size, 1, none⟩) (by first | (simp; done) | (simp; omega))
  simp [go_sem] at cx01 fx01
  have cx02 := hb1.cell (p := ⟨w.heap.size, 2, none⟩) (by first | (simp; done) | (simp; omega))
  have fx02 := hb1.frozen (p := ⟨w.heap.size, 2, none⟩) (by first | (simp; done) | (simp; omega))
  simp [go_sem] at cx02 fx02
  have cx03 := hb1.cell (p := ⟨w.heap.size, 3, none⟩) (by first | (simp; done) | (simp; omega))
  have fx03 := hb1.frozen (p := ⟨w.heap.size, 3, none⟩) (by first | (simp; done) | (simp; omega))
  simp [go_sem] at cx03 fx03
  have cx04 := hb1.cell (p := ⟨w.heap.size, 4, none⟩) (by first | (simp; done) | (simp; omega))
  have fx04 := hb1.frozen (p := ⟨w.heap.size, 4, none⟩) (by first | (simp; done) | (simp; omega))
  simp [go_sem] at cx04 fx04
  have cx10 := hb1.cell (p := ⟨w.heap.size + 1, 0, none⟩) (by first | (simp; done) | (simp; omega))
  have fx10 := hb1.frozen (p := ⟨w.heap.size + 1, 0, none⟩) (by first | (simp; done) | (simp; omega))
  simp [go_sem] at cx10 fx10
  have cx11 := hb1.cell (p := ⟨w.heap.size + 1, 1, none⟩) (by first | (simp; done) | (simp; omega))
  have fx11 := hb1.frozen (p := ⟨w.heap.size + 1, 1, none⟩) (by first | (simp; done) | (simp; omega))
  simp [go_sem] at cx11 fx11
  have cx12 := hb1.cell (p := ⟨w.heap.size + 1, 2, none⟩) (by first | (simp; done) | (simp; omega))
  have fx12 := hb1.frozen (p := ⟨w.heap.size + 1, 2, none⟩) (by first | (simp; done) | (simp; omega))
  simp [go_sem] at cx12 fx12
  have cx13 := hb1.cell (p := ⟨w.heap.size + 1, 3, none⟩) (by first | (simp; done) | (simp; omega))
  have fx13 := hb1.frozen (p := ⟨w.heap.size + 1, 3, none⟩) (by first | (simp; done) | (simp; omega))
  simp [go_sem] at cx13 fx13
  have cx14 := hb1.cell (p := ⟨w.heap.size + 1, 4, none⟩) (by first | (simp; done) | (simp; omega))
  have fx14 := hb1.frozen (p := ⟨w.heap.size + 1, 4, none⟩) (by first | (simp; done) | (simp; omega))
  simp [go_sem] at cx14 fx14
  clear hb1
  go_wp2_with fail
  refine (H1'.out _).mono ?_
  rintro e w' ⟨rfl, rfl⟩
  go_wp2_with fail
  refine (H2'.out _).mono ?_
  rintro e w' ⟨rfl, rfl⟩
  go_wp2_with fail
  refine (H3'.out _).mono ?_
  rintro e w' ⟨rfl, rfl⟩
  go_wp2_with fail
  refine bodyPost_ret (v := .tuple #[rV false 0 0 0 0, .int .u64 0, .int .i64 2]) ?_ rfl ⟨rfl, ?_⟩
  · simp [results, Try.results21, go_sem, cx00, cx01, cx02, cx03, cx04]
  · clear HP' H1' H2' H3' HC'
    repeat (refine Below.setCell ?_ (by simp only []; omega) _)
    exact B1.out

set_option maxHeartbeats 4000000 in
theorem rplace_false_6 (n b D G C a1 e1 a2 e2 a3 e3 ck : Int) (w : World) (hD0 : ¬ D = 0) (h0 : (e1 != 0) = false) (h1 : (e2 != 0) = false) (h2 : (e3 != 0) = false) (h3 : decide (IntKind.u64.wrap (a1 + D) < a1) = false) (h4 : decide (IntKind.u64.wrap (a2 + G) < a2) = false) (h5 : decide (IntKind.u64.wrap (a3 + IntKind.u64.wrap (C - 1)) < a3) = false) (h6 : (ck != 0) = true)
    (HP : ∀ w, Calls Try.prog 17 #[rV false n 0 0 0] w fun e w' => e = .returned (.tuple #[.int .u64 D, .int .u64 G, .int .u64 C]) ∧ Below w.heap.size w w')
    (H1 : ∀ w, Calls Try.prog 41 #[.int .u64 b, .int .u64 16] w fun e w' => e = .returned (.tuple #[.int .u64 a1, .int .i64 e1]) ∧ w = w')
    (H2 : ∀ w, Calls Try.prog 41 #[.int .u64 (IntKind.u64.wrap (a1 + D)), .int .u64 2] w fun e w' => e = .returned (.tuple #[.int .u64 a2, .int .i64 e2]) ∧ w = w')
    (H3 : ∀ w, Calls Try.prog 41 #[.int .u64 (IntKind.u64.wrap (a2 + G)), .int .u64 4] w fun e w' => e = .returned (.tuple #[.int .u64 a3, .int .i64 e3]) ∧ w = w')
    (HC : ∀ w, Calls Try.prog 18 #[rV false n a1 a2 a3] w fun e w' => e = .returned (.int .i64 ck) ∧ Below w.heap.size w w') :
    Calls Try.prog 21 #[.bool false, .int .i64 n, .int .u64 b] w fun e w' => e = .returned (.tuple #[rV false 0 0 0 0, .int .u64 0, .int .i64 2]) ∧ Below w.heap.size w w' := by
  have HP' := hid_mk HP
  have H1' := hid_mk H1
  have H2' := hid_mk H2
  have H3' := hid_mk H3
  have HC' := hid_mk HC
  clear HP H1 H2 H3 HC
  go_enter Try.func21, Try.ntmps21
  go_wp2_with fail
  refine (HP'.out _).mono ?_
  rintro e w1 ⟨rfl, hb1⟩
  have B1 := hid_mk (below_new2 hb1)
  have z1 := hb1.size
  simp at z1
  have q0 : w.heap.size < w1.heap.size := by omega
  have q1 : w.heap.size + 1 < w1.heap.size := by omega
  have cx00 := hb1.cell (p := ⟨w.heap.size, 0, none⟩) (by first | (simp; done) | (simp; omega))
  have fx00 := hb1.frozen (p := ⟨w.heap.size, 0, none⟩) (by first | (simp; done) | (simp; omega))
  simp [go_sem] at cx00 fx00
  have cx01 := hb1.cell (p := ⟨w.heap.size, 1, none⟩) (by first | (simp; done) | (simp; omega))
  have fx01 := hb1.frozen (p := ⟨w.heap.size, 1, none⟩) (by first | (simp; done) | (simp; omega))
  simp [go_sem] at cx01 fx01
  have cx02 := hb1.cell (p := ⟨w.heap.size, 2, none⟩) (by first | (simp; done) | (simp; omega))
  have fx02 := hb1.frozen (p := ⟨w.heap.size, 2, none⟩) (by first | (simp; done) | (simp; omega))
  simp [go_sem] at cx02 fx02
  have cx03 := hb1.cell (p := ⟨w.heap.size, 3, none⟩) (by first | (simp; done) | (simp; omega))
  have fx03 := hb1.frozen (p := ⟨w.heap.size, 3, none⟩) (by first | (simp; done) | (simp; omega))
  simp [go_sem] at cx03 fx03
  have cx04 := hb1.cell (p := ⟨w.heap.size, 4, none⟩) (by first | (simp; done) | (simp; omega))
  have fx04 := hb1.frozen (p := ⟨w.heap.size, 4, none⟩) (by first | (simp; done) | (simp; omega))
  simp [go_sem] at cx04 fx04
  have cx10 := hb1.cell (p := ⟨w.heap.size + 1, 0, none⟩) (by first | (simp; done) | (simp; omega))
  have fx10 := hb1.frozen (p := ⟨w.heap.size + 1, 0, none⟩) (by first | (simp; done) | (simp; omega))
  simp [go_sem] at cx10 fx10
  have cx11 := hb1.cell (p := ⟨w.heap.size + 1, 1, none⟩) (by first | (simp; done) | (simp; omega))
  have fx11 := hb1.frozen (p := ⟨w.heap.size + 1, 1, none⟩) (by first | (simp; done) | (simp; omega))
  simp [go_sem] at cx11 fx11
  have cx12 := hb1.cell (p := ⟨w.heap.size + 1, 2, none⟩) (by first | (simp; done) | (simp; omega))
  have fx12 := hb1.frozen (p := ⟨w.heap.size + 1, 2, none⟩) (by first | (simp; done) | (simp; omega))
  simp [go_sem] at cx12 fx12
  have cx13 := hb1.cell (p := ⟨w.heap.size + 1, 3, none⟩) (by first | (simp; done) | (simp; omega))
  have fx13 := hb1.frozen (p := ⟨w.heap.size + 1, 3, none⟩) (by first | (simp; done) | (simp; omega))
  simp [go_sem] at cx13 fx13
  have cx14 := hb1.cell (p := ⟨w.heap.size + 1, 4, none⟩) (by first | (simp; done) | (simp; omega))
  have fx14 := hb1.frozen (p := ⟨w.heap.size + 1, 4, none⟩) (by first | (simp; done) | (simp; omega))
  simp [go_sem] at cx14 fx14
  clear hb1
  go_wp2_with fail
  refine (H1'.out _).mono ?_
  rintro e w' ⟨rfl, rfl⟩
  go_wp2_with fail
  refine (H2'.out _).mono ?_
  rintro e w' ⟨rfl, rfl⟩
  go_wp2_with fail
  refine (H3'.out _).mono ?_
  rintro e w' ⟨rfl, rfl⟩
  go_wp2_with fail
  refine (HC'.out _).mono ?_
  rintro e w3 ⟨rfl, hb3⟩
  have B3 : Hid (Below w.heap.size w w3) := by
    clear HP' H1' H2' H3' HC'
    refine below_then ?_ hb3
    repeat (refine Below.setCell ?_ (by simp only []; omega) _)
    exact B1.out
  have z3 := hb3.size
  simp at z3
  have q30 : w.heap.size < w3.heap.size := by omega
  have q31 : w.heap.size + 1 < w3.heap.size := by omega
  have cy00 := hb3.cell (p := ⟨w.heap.size, 0, none⟩) (by first | (simp; done) | (simp; omega))
  have fy00 := hb3.frozen (p := ⟨w.heap.size, 0, none⟩) (by first | (simp; done) | (simp; omega))
  simp [go_sem, cx00] at cy00
  simp [go_sem, fx00] at fy00
  have cy01 := hb3.cell (p := ⟨w.heap.size, 1, none⟩) (by first | (simp; done) | (simp; omega))
  have fy01 := hb3.frozen (p := ⟨w.heap.size, 1, none⟩) (by first | (simp; done) | (simp; omega))
  simp [go_sem, cx01] at cy01
  simp [go_sem, fx01] at fy01
  have cy02 := hb3.cell (p := ⟨w.heap.size, 2, none⟩) (by first | (simp; done) | (simp; omega))
  have fy02 := hb3.frozen (p := ⟨w.heap.size, 2, none⟩) (by first | (simp; done) | (simp; omega))
  simp [go_sem, cx02] at cy02
  simp [go_sem, fx02] at fy02
  have cy03 := hb3.cell (p := ⟨w.heap.size, 3, none⟩) (by first | (simp; done) | (simp; omega))
  have fy03 := hb3.frozen (p := ⟨w.heap.size, 3, none⟩) (by first | (simp; done) | (simp; omega))
  simp [go_sem, cx03] at cy03
  simp [go_sem, fx03] at fy03
  have cy04 := hb3.cell (p := ⟨w.heap.size, 4, none⟩) (by first | (simp; done) | (simp; omega))
  have fy04 := hb3.frozen (p := ⟨w.heap.size, 4, none⟩) (by first | (simp; done) | (simp; omega))
  simp [go_sem, cx04] at cy04
  simp [go_sem, fx04] at fy04
  have cy10 := hb3.cell (p := ⟨w.heap.size + 1, 0, none⟩) (by first | (simp; done) | (simp; omega))
  have fy10 := hb3.frozen (p := ⟨w.heap.size + 1, 0, none⟩) (by first | (simp; done) | (simp; omega))
  simp [go_sem, cx10] at cy10
  simp [go_sem, fx10] at fy10
  have cy11 := hb3.cell (p := ⟨w.heap.size + 1, 1, none⟩) (by first | (simp; done) | (simp; omega))
  have fy11 := hb3.frozen (p := ⟨w.heap.size + 1, 1, none⟩) (by first | (simp; done) | (simp; omega))
  simp [go_sem, cx11] at cy11
  simp [go_sem, fx11] at fy11
  have cy12 := hb3.cell (p := ⟨w.heap.size + 1, 2, none⟩) (by first | (simp; done) | (simp; omega))
  have fy12 := hb3.frozen (p := ⟨w.heap.size + 1, 2, none⟩) (by first | (simp; done) | (simp; omega))
  simp [go_sem, cx12] at cy12
  simp [go_sem, fx12] at fy12
  have cy13 := hb3.cell (p := ⟨w.heap.size + 1, 3, none⟩) (by first | (simp; done) | (simp; omega))
  have fy13 := hb3.frozen (p := ⟨w.heap.size + 1, 3, none⟩) (by first | (simp; done) | (simp; omega))
  simp [go_sem, cx13] at cy13
  simp [go_sem, fx13] at fy13
  have cy14 := hb3.cell (p := ⟨w.heap.size + 1, 4, none⟩) (by first | (simp; done) | (simp; omega))
  have fy14 := hb3.frozen (p := ⟨w.heap.size + 1, 4, none⟩) (by first | (simp; done) | (simp; omega))
  simp [go_sem, cx14] at cy14
  simp [go_sem, fx14] at fy14
  clear cx00 fx00 cx01 fx01 cx02 fx02 cx03 fx03 cx04 fx04 cx10 fx10 cx11 fx11 cx12 fx12 cx13 fx13 cx14 fx14
  clear hb3 q0 q1 z1
  go_wp2_with fail
  refine bodyPost_ret (v := .tuple #[rV false 0 0 0 0, .int .u64 0, .int .i64 2]) ?_ rfl ⟨rfl, ?_⟩
  · simp [results, Try.results21, go_sem, cy00, cy01, cy02, cy03, cy04]
  · clear HP' H1' H2' H3' HC'
    repeat (refine Below.setCell ?_ (by simp only []; omega) _)
    exact B3.out

set_option maxHeartbeats 4000000 in
theorem rplace_false_7 (n b D G C a1 e1 a2 e2 a3 e3 ck : Int) (w : World) (hD0 : ¬ D = 0) (h0 : (e1 != 0) = false) (h1 : (e2 != 0) = false) (h2 : (e3 != 0) = false) (h3 : decide (IntKind.u64.wrap (a1 + D) < a1) = false) (h4 : decide (IntKind.u64.wrap (a2 + G) < a2) = false) (h5 : decide (IntKind.u64.wrap (a3 + IntKind.u64.wrap (C - 1)) < a3) = false) (h6 : (ck != 0) = false)
    (HP : ∀ w, Calls Try.prog 17 #[rV false n 0 0 0] w fun e w' => e = .returned (.tuple #[.int .u64 D, .int .u64 G, .int .u64 C]) ∧ Below w.heap.size w w')
    (H1 : ∀ w, Calls Try.prog 41 #[.int .u64 b, .int .u64 16] w fun e w' => e = .returned (.tuple #[.int .u64 a1, .int .i64 e1]) ∧ w = w')
    (H2 : ∀ w, Calls Try.prog 41 #[.int .u64 (IntKind.u64.wrap (a1 + D)), .int .u64 2] w fun e w' => e = .returned (.tuple #[.int .u64 a2, .int .i64 e2]) ∧ w = w')
    (H3 : ∀ w, Calls Try.prog 41 #[.int .u64 (IntKind.u64.wrap (a2 + G)), .int .u64 4] w fun e w' => e = .returned (.tuple #[.int .u64 a3, .int .i64 e3]) ∧ w = w')
    (HC : ∀ w, Calls Try.prog 18 #[rV false n a1 a2 a3] w fun e w' => e = .returned (.int .i64 ck) ∧ Below w.heap.size w w') :
    Calls Try.prog 21 #[.bool false, .int .i64 n, .int .u64 b] w fun e w' => e = .returned (.tuple #[rV false n a1 a2 a3, .int .u64 (IntKind.u64.wrap (IntKind.u64.wrap (a3 + C) - b)), .int .i64 0]) ∧ Below w.heap.size w w' := by
  have HP' := hid_mk HP
  have H1' := hid_mk H1
  have H2' := hid_mk H2
  have H3' := hid_mk H3
  have HC' := hid_mk HC
  clear HP H1 H2 H3 HC
  go_enter Try.func21, Try.ntmps21
  go_wp2_with fail
  refine (HP'.out _).mono ?_
  rintro e w1 ⟨rfl, hb1⟩
  have B1 := hid_mk (below_new2 hb1)
  have z1 := hb1.size
  simp at z1
  have q0 : w.heap.size < w1.heap.size := by omega
  have q1 : w.heap.size + 1 < w1.heap.size := by omega
  have cx00 := hb1.cell (p := ⟨w.heap.size, 0, none⟩) (by first | (simp; done) | (simp; omega))
  have fx00 := hb1.frozen (p := ⟨w.heap.size, 0, none⟩) (by first | (simp; done) | (simp; omega))
  simp [go_sem] at cx00 fx00
  have cx01 := hb1.cell (p := ⟨w.heap.size, 1, none⟩) (by first | (simp; done) | (simp; omega))
  have fx01 := hb1.frozen (p := ⟨w.heap.size, 1, none⟩) (by first | (simp; done) | (simp; omega))
  simp [go_sem] at cx01 fx01
  have cx02 := hb1.cell (p := ⟨w.heap.size, 2, none⟩) (by first | (simp; done) | (simp; omega))
  have fx02 := hb1.frozen (p := ⟨w.heap.size, 2, none⟩) (by first | (simp; done) | (simp; omega))
  simp [go_sem] at cx02 fx02
  have cx03 := hb1.cell (p := ⟨w.heap.size, 3, none⟩) (by first | (simp; done) | (simp; omega))
  have fx03 := hb1.frozen (p := ⟨w.heap.size, 3, none⟩) (by first | (simp; done) | (simp; omega))
  simp [go_sem] at cx03 fx03
  have cx04 := hb1.cell (p := ⟨w.heap.size, 4, none⟩) (by first | (simp; done) | (simp; omega))
  have fx04 := hb1.frozen (p := ⟨w.heap.size, 4, none⟩) (by first | (simp; done) | (simp; omega))
  simp [go_sem] at cx04 fx04
  have cx10 := hb1.cell (p := ⟨w.heap.size + 1, 0, none⟩) (by first | (simp; done) | (simp; omega))
  have fx10 := hb1.frozen (p := ⟨w.heap.size + 1, 0, none⟩) (by first | (simp; done) | (simp; omega))
  simp [go_sem] at cx10 fx10
  have cx11 := hb1.cell (p := ⟨w.heap.size + 1, 1, none⟩) (by first | (simp; done) | (simp; omega))
  have fx11 := hb1.frozen (p := ⟨w.heap.size + 1, 1, none⟩) (by first | (simp; done) | (simp; omega))
  simp [go_sem] at cx11 fx11
  have cx12 := hb1.cell (p := ⟨w.heap.size + 1, 2, none⟩) (by first | (simp; done) | (simp; omega))
  have fx12 := hb1.frozen (p := ⟨w.heap.size + 1, 2, none⟩) (by first | (simp; done) | (simp; omega))
  simp [go_sem] at cx12 fx12
  have cx13 := hb1.cell (p := ⟨w.heap.size + 1, 3, none⟩) (by first | (simp; done) | (simp; omega))
  have fx13 := hb1.frozen (p := ⟨w.heap.size + 1, 3, none⟩) (by first | (simp; done) | (simp; omega))
  simp [go_sem] at cx13 fx13
  have cx14 := hb1.cell (p := ⟨w.heap.size + 1, 4, none⟩) (by first | (simp; done) | (simp; omega))
  have fx14 := hb1.frozen (p := ⟨w.heap.size + 1, 4, none⟩) (by first | (simp; done) | (simp; omega))
  simp [go_sem] at cx14 fx14
  clear hb1
  go_wp2_with fail
  refine (H1'.out _).mono ?_
  rintro e w' ⟨rfl, rfl⟩
  go_wp2_with fail
  refine (H2'.out _).mono ?_
  rintro e w' ⟨rfl, rfl⟩
  go_wp2_with fail
  refine (H3'.out _).mono ?_
  rintro e w' ⟨rfl, rfl⟩
  go_wp2_with fail
  refine (HC'.out _).mono ?_
  rintro e w3 ⟨rfl, hb3⟩
  have B3 : Hid (Below w.heap.size w w3) := by
    clear HP' H1' H2' H3' HC'
    refine below_then ?_ hb3
    repeat (refine Below.setCell ?_ (by simp only []; omega) _)
    exact B1.out
  have z3 := hb3.size
  simp at z3
  have q30 : w.heap.size < w3.heap.size := by omega
  have q31 : w.heap.size + 1 < w3.heap.size := by omega
  have cy00 := hb3.cell (p := ⟨w.heap.size, 0, none⟩) (by first | (simp; done) | (simp; omega))
  have fy00 := hb3.frozen (p := ⟨w.heap.size, 0, none⟩) (by first | (simp; done) | (simp; omega))
  simp [go_sem, cx00] at cy00
  simp [go_sem, fx00] at fy00
  have cy01 := hb3.cell (p := ⟨w.heap.size, 1, none⟩) (by first | (simp; done) | (simp; omega))
  have fy01 := hb3.frozen (p := ⟨w.heap.size, 1, none⟩) (by first | (simp; done) | (simp; omega))
  simp [go_sem, cx01] at cy01
  simp [go_sem, fx01] at fy01
  have cy02 := hb3.cell (p := ⟨w.heap.size, 2, none⟩) (by first | (simp; done) | (simp; omega))
  have fy02 := hb3.frozen (p := ⟨w.heap.size, 2, none⟩) (by first | (simp; done) | (simp; omega))
  simp [go_sem, cx02] at cy02
  simp [go_sem, fx02] at fy02
  have cy03 := hb3.cell (p := ⟨w.heap.size, 3, none⟩) (by first | (simp; done) | (simp; omega))
  have fy03 := hb3.frozen (p := ⟨w.heap.size, 3, none⟩) (by first | (simp; done) | (simp; omega))
  simp [go_sem, cx03] at cy03
  simp [go_sem, fx03] at fy03
  have cy04 := hb3.cell (p := ⟨w.heap.size, 4, none⟩) (by first | (simp; done) | (simp; omega))
  have fy04 := hb3.frozen (p := ⟨w.heap.size, 4, none⟩) (by first | (simp; done) | (simp; omega))
  simp [go_sem, cx04] at cy04
  simp [go_sem, fx04] at fy04
  have cy10 := hb3.cell (p := ⟨w.heap.size + 1, 0, none⟩) (by first | (simp; done) | (simp; omega))
  have fy10 := hb3.frozen (p := ⟨w.heap.size + 1, 0, none⟩) (by first | (simp; done) | (simp; omega))
  simp [go_sem, cx10] at cy10
  simp [go_sem, fx10] at fy10
  have cy11 := hb3.cell (p := ⟨w.heap.size + 1, 1, none⟩) (by first | (simp; done) | (simp; omega))
  have fy11 := hb3.frozen (p := ⟨w.heap.size + 1, 1, none⟩) (by first | (simp; done) | (simp; omega))
  simp [go_sem, cx11] at cy11
  simp [go_sem, fx11] at fy11
  have cy12 := hb3.cell (p := ⟨w.heap.size + 1, 2, none⟩) (by first | (simp; done) | (simp; omega))
  have fy12 := hb3.frozen (p := ⟨w.heap.size + 1, 2, none⟩) (by first | (simp; done) | (simp; omega))
  simp [go_sem, cx12] at cy12
  simp [go_sem, fx12] at fy12
  have cy13 := hb3.cell (p := ⟨w.heap.size + 1, 3, none⟩) (by first | (simp; done) | (simp; omega))
  have fy13 := hb3.frozen (p := ⟨w.heap.size + 1, 3, none⟩) (by first | (simp; done) | (simp; omega))
  simp [go_sem, cx13] at cy13
  simp [go_sem, fx13] at fy13
  have cy14 := hb3.cell (p := ⟨w.heap.size + 1, 4, none⟩) (by first | (simp; done) | (simp; omega))
  have fy14 := hb3.frozen (p := ⟨w.heap.size + 1, 4, none⟩) (by first | (simp; done) | (simp; omega))
  simp [go_sem, cx14] at cy14
  simp [go_sem, fx14] at fy14
  clear cx00 fx00 cx01 fx01 cx02 fx02 cx03 fx03 cx04 fx04 cx10 fx10 cx11 fx11 cx12 fx12 cx13 fx13 cx14 fx14
  clear hb3 q0 q1 z1
  go_wp2_with fail
  go_region
  go_wp2_with fail
  refine bodyPost_ret (v := .tuple #[rV false n a1 a2 a3, .int .u64 (IntKind.u64.wrap (IntKind.u64.wrap (a3 + C) - b)), .int .i64 0]) ?_ rfl ⟨rfl, ?_⟩
  · simp [results, Try.results21, go_sem, cy00, cy01, cy02, cy03, cy04]
  · clear HP' H1' H2' H3' HC'
    refine Below.drew ?_
    repeat (refine Below.setCell ?_ (by simp only []; omega) _)
    exact B3.out

set_option maxHeartbeats 4000000 in
theorem rplace_true_0 (n b D G C a1 e1 a2 e2 a3 e3 ck : Int) (w : World) (hD0 : ¬ D = 0)  (h0 : (e1 != 0) = true)
    (HP : ∀ w, Calls Try.prog 17 #[rV true n 0 0 0] w fun e w' => e = .returned (.tuple #[.int .u64 D, .int .u64 G, .int .u64 C]) ∧ Below w.heap.size w w')
    (H1 : ∀ w, Calls Try.prog 41 #[.int .u64 b, .int .u64 16] w fun e w' => e = .returned (.tuple #[.int .u64 a1, .int .i64 e1]) ∧ w = w')
    (H2 : ∀ w, Calls Try.prog 41 #[.int .u64 (IntKind.u64.wrap (a1 + D)), .int .u64 4] w fun e w' => e = .returned (.tuple #[.int .u64 a2, .int .i64 e2]) ∧ w = w')
    (H3 : ∀ w, Calls Try.prog 41 #[.int .u64 (IntKind.u64.wrap (a2 + G)), .int .u64 4] w fun e w' => e = .returned (.tuple #[.int .u64 a3, .int .i64 e3]) ∧ w = w')
    (HC : ∀ w, Calls Try.prog 18 #[rV true n a1 a2 a3] w fun e w' => e = .returned (.int .i64 ck) ∧ Below w.heap.size w w') :
    Calls Try.prog 21 #[.bool true, .int .i64 n, .int .u64 b] w fun e w' => e = .returned (.tuple #[rV false 0 0 0 0, .int .u64 0, .int .i64 2]) ∧ Below w.heap.size w w' := by
  have HP' := hid_mk HP
  have H1' := hid_mk H1
  have H2' := hid_mk H2
  have H3' := hid_mk H3
  have HC' := hid_mk HC
  clear HP H1 H2 H3 HC
  go_enter Try.func21, Try.ntmps21
  go_wp2_with fail
  refine (HP'.out _).mono ?_
  rintro e w1 ⟨rfl, hb1⟩
  have B1 := hid_mk (below_new2 hb1)
  have z1 := hb1.size
  simp at z1
  have q0 : w.heap.size < w1.heap.size := by omega
  have q1 : w.heap.size + 1 < w1.heap.size := by omega
  have cx00 := hb1.cell (p := ⟨w.heap.size, 0, none⟩) (by first | (simp; done) | (simp; omega))
  have fx00 := hb1.frozen (p := ⟨w.heap.size, 0, none⟩) (by first | (simp; done) | (simp; omega))
  simp [go_sem] at cx00 fx00
  have cx01 := hb1.cell (p := ⟨w.heap.size, 1, none⟩) (by first | (simp; done) | (simp; omega))
  have fx01 := hb1.frozen (p := ⟨w.heap.size, 1, none⟩) (by first | (simp; done) | (simp; omega))
  simp [go_sem] at cx01 fx01
  have cx02 := hb1.cell (p := ⟨w.heap.size, 2, none⟩) (by first | (simp; done) | (simp; omega))
  have fx02 := hb1.frozen (p := ⟨w.heap.size, 2, none⟩) (by first | (simp; done) | (simp; omega))
  simp [go_sem] at cx02 fx02
  have cx03 := hb1.cell (p := ⟨w.heap.size, 3, none⟩) (by first | (simp; done) | (simp; omega))
  have fx03 := hb1.frozen (p := ⟨w.heap.size, 3, none⟩) (by first | (simp; done) | (simp; omega))
  simp [go_sem] at cx03 fx03
  have cx04 := hb1.cell (p := ⟨w.heap.size, 4, none⟩) (by first | (simp; done) | (simp; omega))
  have fx04 := hb1.frozen (p := ⟨w.heap.size, 4, none⟩) (by first | (simp; done) | (simp; omega))
  simp [go_sem] at cx04 fx04
  have cx10 := hb1.cell (p := ⟨w.heap.size + 1, 0, none⟩) (by first | (simp; done) | (simp; omega))
  have fx10 := hb1.frozen (p := ⟨w.heap.size + 1, 0, none⟩) (by first | (simp; done) | (simp; omega))
  simp [go_sem] at cx10 fx10
  have cx11 := hb1.cell (p := ⟨w.heap.size + 1, 1, none⟩) (by first | (simp; done) | (simp; omega))
  have fx11 := hb1.frozen (p := ⟨w.heap.size + 1, 1, none⟩) (by first | (simp; done) | (simp; omega))
  simp [go_sem] at cx11 fx11
  have cx12 := hb1.cell (p := ⟨w.heap.size + 1, 2, none⟩) (by first | (simp; done) | (simp; omega))
  have fx12 := hb1.frozen (p := ⟨w.heap.size + 1, 2, none⟩) (by first | (simp; done) | (simp; omega))
  simp [go_sem] at cx12 fx12
  have cx13 := hb1.cell (p := ⟨w.heap.size + 1, 3, none⟩) (by first | (simp; done) | (simp; omega))
  have fx13 := hb1.frozen (p := ⟨w.heap.size + 1, 3, none⟩) (by first | (simp; done) | (simp; omega))
  simp [go_sem] at cx13 fx13
  have cx14 := hb1.cell (p := ⟨w.heap.size + 1, 4, none⟩) (by first | (simp; done) | (simp; omega))
  have fx14 := hb1.frozen (p := ⟨w.heap.size + 1, 4, none⟩) (by first | (simp; done) | (simp; omega))
  simp [go_sem] at cx14 fx14
  clear hb1
  go_wp2_with fail
  refine (H1'.out _).mono ?_
  rintro e w' ⟨rfl, rfl⟩
  go_wp2_with fail
  refine (H2'.out _).mono ?_
  rintro e w' ⟨rfl, rfl⟩
  go_wp2_with fail
  refine (H3'.out _).mono ?_
  rintro e w' ⟨rfl, rfl⟩
  go_wp2_with fail
  refine bodyPost_ret (v := .tuple #[rV false 0 0 0 0, .int .u64 0, .int .i64 2]) ?_ rfl ⟨rfl, ?_⟩
  · simp [results, Try.results21, go_sem, cx00, cx01, cx02, cx03, cx04]
  · clear HP' H1' H2' H3' HC'
    repeat (refine Below.setCell ?_ (by simp only []; omega) _)
    exact B1.out

set_option maxHeartbeats 4000000 in
theorem rplace_true_1 (n b D G C a1 e1 a2 e2 a3 e3 ck : Int) (w : World) (hD0 : ¬ D = 0) (h0 : (e1 != 0) = false) (h1 : (e2 != 0) = true)
    (HP : ∀ w, Calls Try.prog 17 #[rV true n 0 0 0] w fun e w' => e = .returned (.tuple #[.int .u64 D, .int .u64 G, .int .u64 C]) ∧ Below w.heap.size w w')
    (H1 : ∀ w, Calls Try.prog 41 #[.int .u64 b, .int .u64 16] w fun e w' => e = .returned (.tuple #[.int .u64 a1, .int .i64 e1]) ∧ w = w')
    (H2 : ∀ w, Calls Try.prog 41 #[.int .u64 (IntKind.u64.wrap (a1 + D)), .int .u64 4] w fun e w' => e = .returned (.tuple #[.int .u64 a2, .int .i64 e2]) ∧ w = w')
    (H3 : ∀ w, Calls Try.prog 41 #[.int .u64 (IntKind.u64.wrap (a2 + G)), .int .u64 4] w fun e w' => e = .returned (.tuple #[.int .u64 a3, .int .i64 e3]) ∧ w = w')
    (HC : ∀ w, Calls Try.prog 18 #[rV true n a1 a2 a3] w fun e w' => e = .returned (.int .i64 ck) ∧ Below w.heap.size w w') :
    Calls Try.prog 21 #[.bool true, .int .i64 n, .int .u64 b] w fun e w' => e = .returned (.tuple #[rV false 0 0 0 0, .int .u64 0, .int .i64 2]) ∧ Below w.heap.size w w' := by
  have HP' := hid_mk HP
  have H1' := hid_mk H1
  have H2' := hid_mk H2
  have H3' := hid_mk H3
  have HC' := hid_mk HC
  clear HP H1 H2 H3 HC
  go_enter Try.func21, Try.ntmps21
  go_wp2_with fail
  refine (HP'.out _).mono ?_
  rintro e w1 ⟨rfl, hb1⟩
  have B1 := hid_mk (below_new2 hb1)
  have z1 := hb1.size
  simp at z1
  have q0 : w.heap.size < w1.heap.size := by omega
  have q1 : w.heap.size + 1 < w1.heap.size := by omega
  have cx00 := hb1.cell (p := ⟨w.heap.size, 0, none⟩) (by first | (simp; done) | (simp; omega))
  have fx00 := hb1.frozen (p := ⟨w.heap.size, 0, none⟩) (by first | (simp; done) | (simp; omega))
  simp [go_sem] at cx00 fx00
  have cx01 := hb1.cell (p := ⟨w.heap.size, 1, none⟩) (by first | (simp; done) | (simp; omega))
  have fx01 := hb1.frozen (p := ⟨w.heap.size, 1, none⟩) (by first | (simp; done) | (simp; omega))
  simp [go_sem] at cx01 fx01
  have cx02 := hb1.cell (p := ⟨w.heap.size, 2, none⟩) (by first | (simp; done) | (simp; omega))
  have fx02 := hb1.frozen (p := ⟨w.heap.size, 2, none⟩) (by first | (simp; done) | (simp; omega))
  simp [go_sem] at cx02 fx02
  have cx03 := hb1.cell (p := ⟨w.heap.size, 3, none⟩) (by first | (simp; done) | (simp; omega))
  have fx03 := hb1.frozen (p := ⟨w.heap.size, 3, none⟩) (by first | (simp; done) | (simp; omega))
  simp [go_sem] at cx03 fx03
  have cx04 := hb1.cell (p := ⟨w.heap.size, 4, none⟩) (by first | (simp; done) | (simp; omega))
  have fx04 := hb1.frozen (p := ⟨w.heap.size, 4, none⟩) (by first | (simp; done) | (simp; omega))
  simp [go_sem] at cx04 fx04
  have cx10 := hb1.cell (p := ⟨w.heap.size + 1, 0, none⟩) (by first | (simp; done) | (simp; omega))
  have fx10 := hb1.frozen (p := ⟨w.heap.size + 1, 0, none⟩) (by first | (simp; done) | (simp; omega))
  simp [go_sem] at cx10 fx10
  have cx11 := hb1.cell (p := ⟨w.heap.size + 1, 1, none⟩) (by first | (simp; done) | (simp; omega))
  have fx11 := hb1.frozen (p := ⟨w.heap.size + 1, 1, none⟩) (by first | (simp; done) | (simp; omega))
  simp [go_sem] at cx11 fx11
  have cx12 := hb1.cell (p := ⟨w.heap.size + 1, 2, none⟩) (by first | (simp; done) | (simp; omega))
  have fx12 := hb1.frozen (p := ⟨w.heap.size + 1, 2, none⟩) (by first | (simp; done) | (simp; omega))
  simp [go_sem] at cx12 fx12
  have cx13 := hb1.cell (p := ⟨w.heap.size + 1, 3, none⟩) (by first | (simp; done) | (simp; omega))
  have fx13 := hb1.frozen (p := ⟨w.heap.size + 1, 3, none⟩) (by first | (simp; done) | (simp; omega))
  simp [go_sem] at cx13 fx13
  have cx14 := hb1.cell (p := ⟨w.heap.size + 1, 4, none⟩) (by first | (simp; done) | (simp; omega))
  have fx14 := hb1.frozen (p := ⟨w.heap.size + 1, 4, none⟩) (by first | (simp; done) | (simp; omega))
  simp [go_sem] at cx14 fx14
  clear hb1
  go_wp2_with fail
  refine (H1'.out _).mono ?_
  rintro e w' ⟨rfl, rfl⟩
  go_wp2_with fail
  refine (H2'.out _).mono ?_
  rintro e w' ⟨rfl, rfl⟩
  go_wp2_with fail
  refine (H3'.out _).mono ?_
  rintro e w' ⟨rfl, rfl⟩
  go_wp2_with fail
  refine bodyPost_ret (v := .tuple #[rV false 0 0 0 0, .int .u64 0, .int .i64 2]) ?_ rfl ⟨rfl, ?_⟩
  · simp [results, Try.results21, go_sem, cx00, cx01, cx02, cx03, cx04]
  · clear HP' H1' H2' H3' HC'
    repeat (refine Below.setCell ?_ (by simp only []; omega) _)
    exact B1.out

set_option maxHeartbeats 4000000 in
theorem rplace_true_2 (n b D G C a1 e1 a2 e2 a3 e3 ck : Int) (w : World) (hD0 : ¬ D = 0) (h0 : (e1 != 0) = false) (h1 : (e2 != 0) = false) (h2 : (e3 != 0) = true)
    (HP : ∀ w, Calls Try.prog 17 #[rV true n 0 0 0] w fun e w' => e = .returned (.tuple #[.int .u64 D, .int .u64 G, .int .u64 C]) ∧ Below w.heap.size w w')
    (H1 : ∀ w, Calls Try.prog 41 #[.int .u64 b, .int .u64 16] w fun e w' => e = .returned (.tuple #[.int .u64 a1, .int .i64 e1]) ∧ w = w')
    (H2 : ∀ w, Calls Try.prog 41 #[.int .u64 (IntKind.u64.wrap (a1 + D)), .int .u64 4] w fun e w' => e = .returned (.tuple #[.int .u64 a2, .int .i64 e2]) ∧ w = w')
    (H3 : ∀ w, Calls Try.prog 41 #[.int .u64 (IntKind.u64.wrap (a2 + G)), .int .u64 4] w fun e w' => e = .returned (.tuple #[.int .u64 a3, .int .i64 e3]) ∧ w = w')
    (HC : ∀ w, Calls Try.prog 18 #[rV true n a1 a2 a3] w fun e w' => e = .returned (.int .i64 ck) ∧ Below w.heap.size w w') :
    Calls Try.prog 21 #[.bool true, .int .i64 n, .int .u64 b] w fun e w' => e = .returned (.tuple #[rV false 0 0 0 0, .int .u64 0, .int .i64 2]) ∧ Below w.heap.size w w' := by
  have HP' := hid_mk HP
  have H1' := hid_mk H1
  have H2' := hid_mk H2
  have H3' := hid_mk H3
  have HC' := hid_mk HC
  clear HP H1 H2 H3 HC
  go_enter Try.func21, Try.ntmps21
  go_wp2_with fail
  refine (HP'.out _).mono ?_
  rintro e w1 ⟨rfl, hb1⟩
  have B1 := hid_mk (below_new2 hb1)
  have z1 := hb1.size
  simp at z1
  have q0 : w.heap.size < w1.heap.size := by omega
  have q1 : w.heap.size + 1 < w1.heap.size := by omega
  have cx00 := hb1.cell (p := ⟨w.heap.size, 0, none⟩) (by first | (simp; done) | (simp; omega))
  have fx00 := hb1.frozen (p := ⟨w.heap.size, 0, none⟩) (by first | (simp; done) | (simp; omega))
  simp [go_sem] at cx00 fx00
  have cx01 := hb1.cell (p := ⟨w.heap.size, 1, none⟩) (by first | (simp; done) | (simp; omega))
  have fx01 := hb1.frozen (p := ⟨w.heap.size, 1, none⟩) (by first | (simp; done) | (simp; omega))
  simp [go_sem] at cx01 fx01
  have cx02 := hb1.cell (p := ⟨w.heap.size, 2, none⟩) (by first | (simp; done) | (simp; omega))
  have fx02 := hb1.frozen (p := ⟨w.heap.size, 2, none⟩) (by first | (simp; done) | (simp; omega))
  simp [go_sem] at cx02 fx02
  have cx03 := hb1.cell (p := ⟨w.heap.size, 3, none⟩) (by first | (simp; done) | (simp; omega))
  have fx03 := hb1.frozen (p := ⟨w.heap.size, 3, none⟩) (by first | (simp; done) | (simp; omega))
  simp [go_sem] at cx03 fx03
  have cx04 := hb1.cell (p := ⟨w.heap.size, 4, none⟩) (by first | (simp; done) | (simp; omega))
  have fx04 := hb1.frozen (p := ⟨w.heap.size, 4, none⟩) (by first | (simp; done) | (simp; omega))
  simp [go_sem] at cx04 fx04
  have cx10 := hb1.cell (p := ⟨w.heap.size + 1, 0, none⟩) (by first | (simp; done) | (simp; omega))
  have fx10 := hb1.frozen (p := ⟨w.heap.size + 1, 0, none⟩) (by first | (simp; done) | (simp; omega))
  simp [go_sem] at cx10 fx10
  have cx11 := hb1.cell (p := ⟨w.heap.size + 1, 1, none⟩) (by first | (simp; done) | (simp; omega))
  have fx11 := hb1.frozen (p := ⟨w.heap.size + 1, 1, none⟩) (by first | (simp; done) | (simp; omega))
  simp [go_sem] at cx11 fx11
  have cx12 := hb1.cell (p := ⟨w.heap.size + 1, 2, none⟩) (by first | (simp; done) | (simp; omega))
  have fx12 := hb1.frozen (p := ⟨w.heap.size + 1, 2, none⟩) (by first | (simp; done) | (simp; omega))
  simp [go_sem] at cx12 fx12
  have cx13 := hb1.cell (p := ⟨w.heap.size + 1, 3, none⟩) (by first | (simp; done) | (simp; omega))
  have fx13 := hb1.frozen (p := ⟨w.heap.size + 1, 3, none⟩) (by first | (simp; done) | (simp; omega))
  simp [go_sem] at cx13 fx13
  have cx14 := hb1.cell (p := ⟨w.heap.size + 1, 4, none⟩) (by first | (simp; done) | (simp; omega))
  have fx14 := hb1.frozen (p := ⟨w.heap.size + 1, 4, none⟩) (by first | (simp; done) | (simp; omega))
  simp [go_sem] at cx14 fx14
  clear hb1
  go_wp2_with fail
  refine (H1'.out _).mono ?_
  rintro e w' ⟨rfl, rfl⟩
  go_wp2_with fail
  refine (H2'.out _).mono ?_
  rintro e w' ⟨rfl, rfl⟩
  go_wp2_with fail
  refine (H3'.out _).mono ?_
  rintro e w' ⟨rfl, rfl⟩
  go_wp2_with fail
  refine bodyPost_ret (v := .tuple #[rV false 0 0 0 0, .int .u64 0, .int .i64 2]) ?_ rfl ⟨rfl, ?_⟩
  · simp [results, Try.results21, go_sem, cx00, cx01, cx02, cx03, cx04]
  · clear HP' H1' H2' H3' HC'
    repeat (refine Below.setCell ?_ (by simp only []; omega) _)
    exact B1.out

set_option maxHeartbeats 4000000 in
theorem rplace_true_3 (n b D G C a1 e1 a2 e2 a3 e3 ck : Int) (w : World) (hD0 : ¬ D = 0) (h0 : (e1 != 0) = false) (h1 : (e2 != 0) = false) (h2 : (e3 != 0) = false) (h3 : decide (IntKind.u64.wrap (a1 + D) < a1) = true)
    (HP : ∀ w, Calls Try.prog 17 #[rV true n 0 0 0] w fun e w' => e = .returned (.tuple #[.int .u64 D, .int .u64 G, .int .u64 C]) ∧ Below w.heap.size w w')
    (H1 : ∀ w, Calls Try.prog 41 #[.int .u64 b, .int .u64 16] w fun e w' => e = .returned (.tuple #[.int .u64 a1, .int .i64 e1]) ∧ w = w')
    (H2 : ∀ w, Calls Try.prog 41 #[.int .u64 (IntKind.u64.wrap (a1 + D)), .int .u64 4] w fun e w' => e = .returned (.tuple #[.int .u64 a2, .int .i64 e2]) ∧ w = w')
    (H3 : ∀ w, Calls Try.prog 41 #[.int .u64 (IntKind.u64.wrap (a2 + G)), .int .u64 4] w fun e w' => e = .returned (.tuple #[.int .u64 a3, .int .i64 e3]) ∧ w = w')
    (HC : ∀ w, Calls Try.prog 18 #[rV true n a1 a2 a3] w fun e w' => e = .returned (.int .i64 ck) ∧ Below w.heap.size w w') :
    Calls Try.prog 21 #[.bool true, .int .i64 n, .int .u64 b] w fun e w' => e = .returned (.tuple #[rV false 0 0 0 0, .int .u64 0, .int .i64 2]) ∧ Below w.heap.size w w' := by
  have HP' := hid_mk HP
  have H1' := hid_mk H1
  have H2' := hid_mk H2
  have H3' := hid_mk H3
  have HC' := hid_mk HC
  clear HP H1 H2 H3 HC
  go_enter Try.func21, Try.ntmps21
  go_wp2_with fail
  refine (HP'.out _).mono ?_
  rintro e w1 ⟨rfl, hb1⟩
  have B1 := hid_mk (below_new2 hb1)
  have z1 := hb1.size
  simp at z1
  have q0 : w.heap.size < w1.heap.size := by omega
  have q1 : w.heap.size + 1 < w1.heap.size := by omega
  have cx00 := hb1.cell (p := ⟨w.heap.size, 0, none⟩) (by first | (simp; done) | (simp; omega))
  have fx00 := hb1.frozen (p := ⟨w.heap.size, 0, none⟩) (by first | (simp; done) | (simp; omega))
  simp [go_sem] at cx00 fx00
  have cx01 := hb1.cell (p := ⟨w.heap.size, 1, none⟩) (by first | (simp; done) | (simp; omega))
  have fx01 := hb1.frozen (p := ⟨w.heap.size, 1, none⟩) (by first | (simp; done) | (simp; omega))
  simp [go_sem] at cx01 fx01
  have cx02 := hb1.cell (p := ⟨w.heap.size, 2, none⟩) (by first | (simp; done) | (simp; omega))
  have fx02 := hb1.frozen (p := ⟨w.heap.size, 2, none⟩) (by first | (simp; done) | (simp; omega))
  simp [go_sem] at cx02 fx02
  have cx03 := hb1.cell (p := ⟨w.heap.size, 3, none⟩) (by first | (simp; done) | (simp; omega))
  have fx03 := hb1.frozen (p := ⟨w.heap.size, 3, none⟩) (by first | (simp; done) | (simp; omega))
  simp [go_sem] at cx03 fx03
  have cx04 := hb1.cell (p := ⟨w.heap.size, 4, none⟩) (by first | (simp; done) | (simp; omega))
  have fx04 := hb1.frozen (p := ⟨w.heap.size, 4, none⟩) (by first | (simp; done) | (simp; omega))
  simp [go_sem] at cx04 fx04
  have cx10 := hb1.cell (p := ⟨w.heap.size + 1, 0, none⟩) (by first | (simp; done) | (simp; omega))
  have fx10 := hb1.frozen (p := ⟨w.heap.size + 1, 0, none⟩) (by first | (simp; done) | (simp; omega))
  simp [go_sem] at cx10 fx10
  have cx11 := hb1.cell (p := ⟨w.heap.size + 1, 1, none⟩) (by first | (simp; done) | (simp; omega))
  have fx11 := hb1.frozen (p := ⟨w.heap.size + 1, 1, none⟩) (by first | (simp; done) | (simp; omega))
  simp [go_sem] at cx11 fx11
  have cx12 := hb1.cell (p := ⟨w.heap.size + 1, 2, none⟩) (by first | (simp; done) | (simp; omega))
  have fx12 := hb1.frozen (p := ⟨w.heap.size + 1, 2, none⟩) (by first | (simp; done) | (simp; omega))
  simp [go_sem] at cx12 fx12
  have cx13 := hb1.cell (p := ⟨w.heap.size + 1, 3, none⟩) (by first | (simp; done) | (simp; omega))
  have fx13 := hb1.frozen (p := ⟨w.heap.size + 1, 3, none⟩) (by first | (simp; done) | (simp; omega))
  simp [go_sem] at cx13 fx13
  have cx14 := hb1.cell (p := ⟨w.heap.size + 1, 4, none⟩) (by first | (simp; done) | (simp; omega))
  have fx14 := hb1.frozen (p := ⟨w.heap.size + 1, 4, none⟩) (by first | (simp; done) | (simp; omega))
  simp [go_sem] at cx14 fx14
  clear hb1
  go_wp2_with fail
  refine (H1'.out _).mono ?_
  rintro e w' ⟨rfl, rfl⟩
  go_wp2_with fail
  refine (H2'.out _).mono ?_
  rintro e w' ⟨rfl, rfl⟩
  go_wp2_with fail
  refine (H3'.out _).mono ?_
  rintro e w' ⟨rfl, rfl⟩
  go_wp2_with fail
  refine bodyPost_ret (v := .tuple #[rV false 0 0 0 0, .int .u64 0, .int .i64 2]) ?_ rfl ⟨rfl, ?_⟩
  · simp [results, Try.results21, go_sem, cx00, cx01, cx02, cx03, cx04]
  · clear HP' H1' H2' H3' HC'
    repeat (refine Below.setCell ?_ (by simp only []; omega) _)
    exact B1.out

set_option maxHeartbeats 4000000 in
theorem rplace_true_4 (n b D G C a1 e1 a2 e2 a3 e3 ck : Int) (w : World) (hD0 : ¬ D = 0) (h0 : (e1 != 0) = false) (h1 : (e2 != 0) = false) (h2 : (e3 != 0) = false) (h3 : decide (IntKind.u64.wrap (a1 + D) < a1) = false) (h4 : decide (IntKind.u64.wrap (a2 + G) < a2) = true)
    (HP : ∀ w, Calls Try.prog 17 #[rV true n 0 0 0] w fun e w' => e = .returned (.tuple #[.int .u64 D, .int .u64 G, .int .u64 C]) ∧ Below w.heap.size w w')
    (H1 : ∀ w, Calls Try.prog 41 #[.int .u64 b, .int .u64 16] w fun e w' => e = .returned (.tuple #[.int .u64 a1, .int .i64 e1]) ∧ w = w')
    (H2 : ∀ w, Calls Try.prog 41 #[.int .u64 (IntKind.u64.wrap (a1 + D)), .int .u64 4] w fun e w' => e = .returned (.tuple #[.int .u64 a2, .int .i64 e2]) ∧ w = w')
    (H3 : ∀ w, Calls Try.prog 41 #[.int .u64 (IntKind.u64.wrap (a2 + G)), .int .u64 4] w fun e w' => e = .returned (.tuple #[.int .u64 a3, .int .i64 e3]) ∧ w = w')
    (HC : ∀ w, Calls Try.prog 18 #[rV true n a1 a2 a3] w fun e w' => e = .returned (.int .i64 ck) ∧ Below w.heap.size w w') :
    Calls Try.prog 21 #[.bool true, .int .i64 n, .int .u64 b] w fun e w' => e = .returned (.tuple #[rV false 0 0 0 0, .int .u64 0, .int .i64 2]) ∧ Below w.heap.size w w' := by
  have HP' := hid_mk HP
  have H1' := hid_mk H1
  have H2' := hid_mk H2
  have H3' := hid_mk H3
  have HC' := hid_mk HC
  clear HP H1 H2 H3 HC
  go_enter Try.func21, Try.ntmps21
  go_wp2_with fail
  refine (HP'.out _).mono ?_
  rintro e w1 ⟨rfl, hb1⟩
  have B1 := hid_mk (below_new2 hb1)
  have z1 := hb1.size
  simp at z1
  have q0 : w.heap.size < w1.heap.size := by omega
  have q1 : w.heap.size + 1 < w1.heap.size := by omega
  have cx00 := hb1.cell (p := ⟨w.heap.size, 0, none⟩) (by first | (simp; done) | (simp; omega))
  have fx00 := hb1.frozen (p := ⟨w.heap.size, 0, none⟩) (by first | (simp; done) | (simp; omega))
  simp [go_sem] at cx00 fx00
  have cx01 := hb1.cell (p := ⟨w.heap.size, 1, none⟩) (by first | (simp; done) | (simp; omega))
  have fx01 := hb1.frozen (p := ⟨w.heap.size, 1, none⟩) (by first | (simp; done) | (simp; omega))
  simp [go_sem] at cx01 fx01
  have cx02 := hb1.cell (p := ⟨w.heap.size, 2, none⟩) (by first | (simp; done) | (simp; omega))
  have fx02 := hb1.frozen (p := ⟨w.heap.size, 2, none⟩) (by first | (simp; done) | (simp; omega))
  simp [go_sem] at cx02 fx02
  have cx03 := hb1.cell (p := ⟨w.heap.size, 3, none⟩) (by first | (simp; done) | (simp; omega))
  have fx03 := hb1.frozen (p := ⟨w.heap.size, 3, none⟩) (by first | (simp; done) | (simp; omega))
  simp [go_sem] at cx03 fx03
  have cx04 := hb1.cell (p := ⟨w.heap.size, 4, none⟩) (by first | (simp; done) | (simp; omega))
  have fx04 := hb1.frozen (p := ⟨w.heap.size, 4, none⟩) (by first | (simp; done) | (simp; omega))
  simp [go_sem] at cx04 fx04
  have cx10 := hb1.cell (p := ⟨w.heap.size + 1, 0, none⟩) (by first | (simp; done) | (simp; omega))
  have fx10 := hb1.frozen (p := ⟨w.heap.size + 1, 0, none⟩) (by first | (simp; done) | (simp; omega))
  simp [go_sem] at cx10 fx10
  have cx11 := hb1.cell (p := ⟨w.heap.size + 1, 1, none⟩) (by first | (simp; done) | (simp; omega))
  have fx11 := hb1.frozen (p := ⟨w.heap.size + 1, 1, none⟩) (by first | (simp; done) | (simp; omega))
  simp [go_sem] at cx11 fx11
  have cx12 := hb1.cell (p := ⟨w.heap.size + 1, 2, none⟩) (by first | (simp; done) | (simp; omega))
  have fx12 := hb1.frozen (p := ⟨w.heap.size + 1, 2, none⟩) (by first | (simp; done) | (simp; omega))
  simp [go_sem] at cx12 fx12
  have cx13 := hb1.cell (p := ⟨w.heap.size + 1, 3, none⟩) (by first | (simp; done) | (simp; omega))
  have fx13 := hb1.frozen (p := ⟨w.heap.size + 1, 3, none⟩) (by first | (simp; done) | (simp; omega))
  simp [go_sem] at cx13 fx13
  have cx14 := hb1.cell (p := ⟨w.heap.size + 1, 4, none⟩) (by first | (simp; done) | (simp; omega))
  have fx14 := hb1.frozen (p := ⟨w.heap.size + 1, 4, none⟩) (by first | (simp; done) | (simp; omega))
  simp [go_sem] at cx14 fx14
  clear hb1
  go_wp2_with fail
  refine (H1'.out _).mono ?_
  rintro e w' ⟨rfl, rfl⟩
  go_wp2_with fail
  refine (H2'.out _).mono ?_
  rintro e w' ⟨rfl, rfl⟩
  go_wp2_with fail
  refine (H3'.out _).mono ?_
  rintro e w' ⟨rfl, rfl⟩
  go_wp2_with fail
  refine bodyPost_ret (v := .tuple #[rV false 0 0 0 0, .int .u64 0, .int .i64 2]) ?_ rfl ⟨rfl, ?_⟩
  · simp [results, Try.results21, go_sem, cx00, cx01, cx02, cx03, cx04]
  · clear HP' H1' H2' H3' HC'
    repeat (refine Below.setCell ?_ (by simp only []; omega) _)
    exact B1.out

set_option maxHeartbeats 4000000 in
theorem rplace_true_5 (n b D G C a1 e1 a2 e2 a3 e3 ck : Int) (w : World) (hD0 : ¬ D = 0) (h0 : (e1 != 0) = false) (h1 : (e2 != 0) = false) (h2 : (e3 != 0) = false) (h3 : decide (IntKind.u64.wrap (a1 + D) < a1) = false) (h4 : decide (IntKind.u64.wrap (a2 + G) < a2) = false) (h5 : decide (IntKind.u64.wrap (a3 + IntKind.u64.wrap (C - 1)) < a3) = true)
    (HP : ∀ w, Calls Try.prog 17 #[rV true n 0 0 0] w fun e w' => e = .returned (.tuple #[.int .u64 D, .int .u64 G, .int .u64 C]) ∧ Below w.heap.size w w')
    (H1 : ∀ w, Calls Try.prog 41 #[.int .u64 b, .int .u64 16] w fun e w' => e = .returned (.tuple #[.int .u64 a1, .int .i64 e1]) ∧ w = w')
    (H2 : ∀ w, Calls Try.prog 41 #[.int .u64 (IntKind.u64.wrap (a1 + D)), .int .u64 4] w fun e w' => e = .returned (.tuple #[.int .u64 a2, .int .i64 e2]) ∧ w = w')
    (H3 : ∀ w, Calls Try.prog 41 #[.int .u64 (IntKind.u64.wrap (a2 + G)), .int .u64 4] w fun e w' => e = .returned (.tuple #[.int .u64 a3, .int .i64 e3]) ∧ w = w')
    (HC : ∀ w, Calls Try.prog 18 #[rV true n a1 a2 a3] w fun e w' => e = .returned (.int .i64 ck) ∧ Below w.heap.size w w') :
    Calls Try.prog 21 #[.bool true, .int .i64 n, .int .u64 b] w fun e w' => e = .returned (.tuple #[rV false 0 0 0 0, .int .u64 0, .int .i64 2]) ∧ Below w.heap.size w w' := by
  have HP' := hid_mk HP
  have H1' := hid_mk H1
  have H2' := hid_mk H2
  have H3' := hid_mk H3
  have HC' := hid_mk HC
  clear HP H1 H2 H3 HC
  go_enter Try.func21, Try.ntmps21
  go_wp2_with fail
  refine (HP'.out _).mono ?_
  rintro e w1 ⟨rfl, hb1⟩
  have B1 := hid_mk (below_new2 hb1)
  have z1 := hb1.size
  simp at z1
  have q0 : w.heap.size < w1.heap.size := by omega
  have q1 : w.heap.size + 1 < w1.heap.size := by omega
  have cx00 := hb1.cell (p := ⟨w.heap.size, 0, none⟩) (by first | (simp; done) | (simp; omega))
  have fx00 := hb1.frozen (p := ⟨w.heap.size, 0, none⟩) (by first | (simp; done) | (simp; omega))
  simp [go_sem] at cx00 fx00
  have cx01 := hb1.cell (p := ⟨w.heap.size, 1, none⟩) (by first | (simp; done) | (simp; omega))
  have fx01 := hb1.frozen (p := ⟨w.heap.size, 1, none⟩) (by first | (simp; done) | (simp; omega))
  simp [go_sem] at cx01 fx01
  have cx02 := hb1.cell (p := ⟨w.heap.size, 2, none⟩) (by first | (simp; done) | (simp; omega))
  have fx02 := hb1.frozen (p := ⟨w.heap.size, 2, none⟩) (by first | (simp; done) | (simp; omega))
  simp [go_sem] at cx02 fx02
  have cx03 := hb1.cell (p := ⟨w.heap.size, 3, none⟩) (by first | (simp; done) | (simp; omega))
  have fx03 := hb1.frozen (p := ⟨w.heap.size, 3, none⟩) (by first | (simp; done) | (simp; omega))
  simp [go_sem] at cx03 fx03
  have cx04 := hb1.cell (p := ⟨w.heap.size, 4, none⟩) (by first | (simp; done) | (simp; omega))
  have fx04 := hb1.frozen (p := ⟨w.heap.size, 4, none⟩) (by first | (simp; done) | (simp; omega))
  simp [go_sem] at cx04 fx04
  have cx10 := hb1.cell (p := ⟨w.heap.size + 1, 0, none⟩) (by first | (simp; done) | (simp; omega))
  have fx10 := hb1.frozen (p := ⟨w.heap.size + 1, 0, none⟩) (by first | (simp; done) | (simp; omega))
  simp [go_sem] at cx10 fx10
  have cx11 := hb1.cell (p := ⟨w.heap.size + 1, 1, none⟩) (by first | (simp; done) | (simp; omega))
  have fx11 := hb1.frozen (p := ⟨w.heap.size + 1, 1, none⟩) (by first | (simp; done) | (simp; omega))
  simp [go_sem] at cx11 fx11
  have cx12 := hb1.cell (p := ⟨w.heap.size + 1, 2, none⟩) (by first | (simp; done) | (simp; omega))
  have fx12 := hb1.frozen (p := ⟨w.heap.size + 1, 2, none⟩) (by first | (simp; done) | (simp; omega))
  simp [go_sem] at cx12 fx12
  have cx13 := hb1.cell (p := ⟨w.heap.size + 1, 3, none⟩) (by first | (simp; done) | (simp; omega))
  have fx13 := hb1.frozen (p := ⟨w.heap.size + 1, 3, none⟩) (by first | (simp; done) | (simp; omega))
  simp [go_sem] at cx13 fx13
  have cx14 := hb1.cell (p := ⟨w.heap.size + 1, 4, none⟩) (by first | (simp; done) | (simp; omega))
  have fx14 := hb1.frozen (p := ⟨w.heap.size + 1, 4, none⟩) (by first | (simp; done) | (simp; omega))
  simp [go_sem] at cx14 fx14
  clear hb1
  go_wp2_with fail
  refine (H1'.out _).mono ?_
  rintro e w' ⟨rfl, rfl⟩
  go_wp2_with fail
  refine (H2'.out _).mono ?_
  rintro e w' ⟨rfl, rfl⟩
  go_wp2_with fail
  refine (H3'.out _).mono ?_
  rintro e w' ⟨rfl, rfl⟩
  go_wp2_with fail
  refine bodyPost_ret (v := .tuple #[rV false 0 0 0 0, .int .u64 0, .int .i64 2]) ?_ rfl ⟨rfl, ?_⟩
  · simp [results, Try.results21, go_sem, cx00, cx01, cx02, cx03, cx04]
  · clear HP' H1' H2' H3' HC'
    repeat (refine Below.setCell ?_ (by simp only []; omega) _)
    exact B1.out

set_option maxHeartbeats 4000000 in
theorem rplace_true_6 (n b D G C a1 e1 a2 e2 a3 e3 ck : Int) (w : World) (hD0 : ¬ D = 0) (h0 : (e1 != 0) = false) (h1 : (e2 != 0) = false) (h2 : (e3 != 0) = false) (h3 : decide (IntKind.u64.wrap (a1 + D) < a1) = false) (h4 : decide (IntKind.u64.wrap (a2 + G) < a2) = false) (h5 : decide (IntKind.u64.wrap (a3 + IntKind.u64.wrap (C - 1)) < a3) = false) (h6 : (ck != 0) = true)
    (HP : ∀ w, Calls Try.prog 17 #[rV true n 0 0 0] w fun e w' => e = .returned (.tuple #[.int .u64 D, .int .u64 G, .int .u64 C]) ∧ Below w.heap.size w w')
    (H1 : ∀ w, Calls Try.prog 41 #[.int .u64 b, .int .u64 16] w fun e w' => e = .returned (.tuple #[.int .u64 a1, .int .i64 e1]) ∧ w = w')
    (H2 : ∀ w, Calls Try.prog 41 #[.int .u64 (IntKind.u64.wrap (a1 + D)), .int .u64 4] w fun e w' => e = .returned (.tuple #[.int .u64 a2, .int .i64 e2]) ∧ w = w')
    (H3 : ∀ w, Calls Try.prog 41 #[.int .u64 (IntKind.u64.wrap (a2 + G)), .int .u64 4] w fun e w' => e = .returned (.tuple #[.int .u64 a3, .int .i64 e3]) ∧ w = w')
    (HC : ∀ w, Calls Try.prog 18 #[rV true n a1 a2 a3] w fun e w' => e = .returned (.int .i64 ck) ∧ Below w.heap.size w w') :
    Calls Try.prog 21 #[.bool true, .int .i64 n, .int .u64 b] w fun e w' => e = .returned (.tuple #[rV false 0 0 0 0, .int .u64 0, .int .i64 2]) ∧ Below w.heap.size w w' := by
  have HP' := hid_mk HP
  have H1' := hid_mk H1
  have H2' := hid_mk H2
  have H3' := hid_mk H3
  have HC' := hid_mk HC
  clear HP H1 H2 H3 HC
  go_enter Try.func21, Try.ntmps21
  go_wp2_with fail
  refine (HP'.out _).mono ?_
  rintro e w1 ⟨rfl, hb1⟩
  have B1 := hid_mk (below_new2 hb1)
  have z1 := hb1.size
  simp at z1
  have q0 : w.heap.size < w1.heap.size := by omega
  have q1 : w.heap.size + 1 < w1.heap.size := by omega
  have cx00 := hb1.cell (p := ⟨w.heap.size, 0, none⟩) (by first | (simp; done) | (simp; omega))
  have fx00 := hb1.frozen (p := ⟨w.heap.size, 0, none⟩) (by first | (simp; done) | (simp; omega))
  simp [go_sem] at cx00 fx00
  have cx01 := hb1.cell (p := ⟨w.heap.size, 1, none⟩) (by first | (simp; done) | (simp; omega))
  have fx01 := hb1.frozen (p := ⟨w.heap.size, 1, none⟩) (by first | (simp; done) | (simp; omega))
  simp [go_sem] at cx01 fx01
  have cx02 := hb1.cell (p := ⟨w.heap.size, 2, none⟩) (by first | (simp; done) | (simp; omega))
  have fx02 := hb1.frozen (p := ⟨w.heap.size, 2, none⟩) (by first | (simp; done) | (simp; omega))
  simp [go_sem] at cx02 fx02
  have cx03 := hb1.cell (p := ⟨w.heap.size, 3, none⟩) (by first | (simp; done) | (simp; omega))
  have fx03 := hb1.frozen (p := ⟨w.heap.size, 3, none⟩) (by first | (simp; done) | (simp; omega))
  simp [go_sem] at cx03 fx03
  have cx04 := hb1.cell (p := ⟨w.heap.size, 4, none⟩) (by first | (simp; done) | (simp; omega))
  have fx04 := hb1.frozen (p := ⟨w.heap.size, 4, none⟩) (by first | (simp; done) | (simp; omega))
  simp [go_sem] at cx04 fx04
  have cx10 := hb1.cell (p := ⟨w.heap.size + 1, 0, none⟩) (by first | (simp; done) | (simp; omega))
  have fx10 := hb1.frozen (p := ⟨w.heap.size + 1, 0, none⟩) (by first | (simp; done) | (simp; omega))
  simp [go_sem] at cx10 fx10
  have cx11 := hb1.cell (p := ⟨w.heap.size + 1, 1, none⟩) (by first | (simp; done) | (simp; omega))
  have fx11 := hb1.frozen (p := ⟨w.heap.size + 1, 1, none⟩) (by first | (simp; done) | (simp; omega))
  simp [go_sem] at cx11 fx11
  have cx12 := hb1.cell (p := ⟨w.heap.size + 1, 2, none⟩) (by first | (simp; done) | (simp; omega))
  have fx12 := hb1.frozen (p := ⟨w.heap.size + 1, 2, none⟩) (by first | (simp; done) | (simp; omega))
  simp [go_sem] at cx12 fx12
  have cx13 := hb1.cell (p := ⟨w.heap.size + 1, 3, none⟩) (by first | (simp; done) | (simp; omega))
  have fx13 := hb1.frozen (p := ⟨w.heap.size + 1, 3, none⟩) (by first | (simp; done) | (simp; omega))
  simp [go_sem] at cx13 fx13
  have cx14 := hb1.cell (p := ⟨w.heap.size + 1, 4, none⟩) (by first | (simp; done) | (simp; omega))
  have fx14 := hb1.frozen (p := ⟨w.heap.size + 1, 4, none⟩) (by first | (simp; done) | (simp; omega))
  simp [go_sem] at cx14 fx14
  clear hb1
  go_wp2_with fail
  refine (H1'.out _).mono ?_
  rintro e w' ⟨rfl, rfl⟩
  go_wp2_with fail
  refine (H2'.out _).mono ?_
  rintro e w' ⟨rfl, rfl⟩
  go_wp2_with fail
  refine (H3'.out _).mono ?_
  rintro e w' ⟨rfl, rfl⟩
  go_wp2_with fail
  refine (HC'.out _).mono ?_
  rintro e w3 ⟨rfl, hb3⟩
  have B3 : Hid (Below w.heap.size w w3) := by
    clear HP' H1' H2' H3' HC'
    refine below_then ?_ hb3
    repeat (refine Below.setCell ?_ (by simp only []; omega) _)
    exact B1.out
  have z3 := hb3.size
  simp at z3
  have q30 : w.heap.size < w3.heap.size := by omega
  have q31 : w.heap.size + 1 < w3.heap.size := by omega
  have cy00 := hb3.cell (p := ⟨w.heap.size, 0, none⟩) (by first | (simp; done) | (simp; omega))
  have fy00 := hb3.frozen (p := ⟨w.heap.size, 0, none⟩) (by first | (simp; done) | (simp; omega))
  simp [go_sem, cx00] at cy00
  simp [go_sem, fx00] at fy00
  have cy01 := hb3.cell (p := ⟨w.heap.size, 1, none⟩) (by first | (simp; done) | (simp; omega))
  have fy01 := hb3.frozen (p := ⟨w.heap.size, 1, none⟩) (by first | (simp; done) | (simp; omega))
  simp [go_sem, cx01] at cy01
  simp [go_sem, fx01] at fy01
  have cy02 := hb3.cell (p := ⟨w.heap.size, 2, none⟩) (by first | (simp; done) | (simp; omega))
  have fy02 := hb3.frozen (p := ⟨w.heap.size, 2, none⟩) (by first | (simp; done) | (simp; omega))
  simp [go_sem, cx02] at cy02
  simp [go_sem, fx02] at fy02
  have cy03 := hb3.cell (p := ⟨w.heap.size, 3, none⟩) (by first | (simp; done) | (simp; omega))
  have fy03 := hb3.frozen (p := ⟨w.heap.size, 3, none⟩) (by first | (simp; done) | (simp; omega))
  simp [go_sem, cx03] at cy03
  simp [go_sem, fx03] at fy03
  have cy04 := hb3.cell (p := ⟨w.heap.size, 4, none⟩) (by first | (simp; done) | (simp; omega))
  have fy04 := hb3.frozen (p := ⟨w.heap.size, 4, none⟩) (by first | (simp; done) | (simp; omega))
  simp [go_sem, cx04] at cy04
  simp [go_sem, fx04] at fy04
  have cy10 := hb3.cell (p := ⟨w.heap.size + 1, 0, none⟩) (by first | (simp; done) | (simp; omega))
  have fy10 := hb3.frozen (p := ⟨w.heap.size + 1, 0, none⟩) (by first | (simp; done) | (simp; omega))
  simp [go_sem, cx10] at cy10
  simp [go_sem, fx10] at fy10
  have cy11 := hb3.cell (p := ⟨w.heap.size + 1, 1, none⟩) (by first | (simp; done) | (simp; omega))
  have fy11 := hb3.frozen (p := ⟨w.heap.size + 1, 1, none⟩) (by first | (simp; done) | (simp; omega))
  simp [go_sem, cx11] at cy11
  simp [go_sem, fx11] at fy11
  have cy12 := hb3.cell (p := ⟨w.heap.size + 1, 2, none⟩) (by first | (simp; done) | (simp; omega))
  have fy12 := hb3.frozen (p := ⟨w.heap.size + 1, 2, none⟩) (by first | (simp; done) | (simp; omega))
  simp [go_sem, cx12] at cy12
  simp [go_sem, fx12] at fy12
  have cy13 := hb3.cell (p := ⟨w.heap.size + 1, 3, none⟩) (by first | (simp; done) | (simp; omega))
  have fy13 := hb3.frozen (p := ⟨w.heap.size + 1, 3, none⟩) (by first | (simp; done) | (simp; omega))
  simp [go_sem, cx13] at cy13
  simp [go_sem, fx13] at fy13
  have cy14 := hb3.cell (p := ⟨w.heap.size + 1, 4, none⟩) (by first | (simp; done) | (simp; omega))
  have fy14 := hb3.frozen (p := ⟨w.heap.size + 1, 4, none⟩) (by first | (simp; done) | (simp; omega))
  simp [go_sem, cx14] at cy14
  simp [go_sem, fx14] at fy14
  clear cx00 fx00 cx01 fx01 cx02 fx02 cx03 fx03 cx04 fx04 cx10 fx10 cx11 fx11 cx12 fx12 cx13 fx13 cx14 fx14
  clear hb3 q0 q1 z1
  go_wp2_with fail
  refine bodyPost_ret (v := .tuple #[rV false 0 0 0 0, .int .u64 0, .int .i64 2]) ?_ rfl ⟨rfl, ?_⟩
  · simp [results, Try.results21, go_sem, cy00, cy01, cy02, cy03, cy04]
  · clear HP' H1' H2' H3' HC'
    repeat (refine Below.setCell ?_ (by simp only []; omega) _)
    exact B3.out

set_option maxHeartbeats 4000000 in
theorem rplace_true_7 (n b D G C a1 e1 a2 e2 a3 e3 ck : Int) (w : World) (hD0 : ¬ D = 0) (h0 : (e1 != 0) = false) (h1 : (e2 != 0) = false) (h2 : (e3 != 0) = false) (h3 : decide (IntKind.u64.wrap (a1 + D) < a1) = false) (h4 : decide (IntKind.u64.wrap (a2 + G) < a2) = false) (h5 : decide (IntKind.u64.wrap (a3 + IntKind.u64.wrap (C - 1)) < a3) = false) (h6 : (ck != 0) = false)
    (HP : ∀ w, Calls Try.prog 17 #[rV true n 0 0 0] w fun e w' => e = .returned (.tuple #[.int .u64 D, .int .u64 G, .int .u64 C]) ∧ Below w.heap.size w w')
    (H1 : ∀ w, Calls Try.prog 41 #[.int .u64 b, .int .u64 16] w fun e w' => e = .returned (.tuple #[.int .u64 a1, .int .i64 e1]) ∧ w = w')
    (H2 : ∀ w, Calls Try.prog 41 #[.int .u64 (IntKind.u64.wrap (a1 + D)), .int .u64 4] w fun e w' => e = .returned (.tuple #[.int .u64 a2, .int .i64 e2]) ∧ w = w')
    (H3 : ∀ w, Calls Try.prog 41 #[.int .u64 (IntKind.u64.wrap (a2 + G)), .int .u64 4] w fun e w' => e = .returned (.tuple #[.int .u64 a3, .int .i64 e3]) ∧ w = w')
    (HC : ∀ w, Calls Try.prog 18 #[rV true n a1 a2 a3] w fun e w' => e = .returned (.int .i64 ck) ∧ Below w.heap.size w w') :
    Calls Try.prog 21 #[.bool true, .int .i64 n, .int .u64 b] w fun e w' => e = .returned (.tuple #[rV true n a1 a2 a3, .int .u64 (IntKind.u64.wrap (IntKind.u64.wrap (a3 + C) - b)), .int .i64 0]) ∧ Below w.heap.size w w' := by
  have HP' := hid_mk HP
  have H1' := hid_mk H1
  have H2' := hid_mk H2
  have H3' := hid_mk H3
  have HC' := hid_mk HC
  clear HP H1 H2 H3 HC
  go_enter Try.func21, Try.ntmps21
  go_wp2_with fail
  refine (HP'.out _).mono ?_
  rintro e w1 ⟨rfl, hb1⟩
  have B1 := hid_mk (below_new2 hb1)
  have z1 := hb1.size
  simp at z1
  have q0 : w.heap.size < w1.heap.size := by omega
  have q1 : w.heap.size + 1 < w1.heap.size := by omega
  have cx00 := hb1.cell (p := ⟨w.heap.size, 0, none⟩) (by first | (simp; done) | (simp; omega))
  have fx00 := hb1.frozen (p := ⟨w.heap.size, 0, none⟩) (by first | (simp; done) | (simp; omega))
  simp [go_sem] at cx00 fx00
  have cx01 := hb1.cell (p := ⟨w.heap.size, 1, none⟩) (by first | (simp; done) | (simp; omega))
  have fx01 := hb1.frozen (p := ⟨w.heap.size, 1, none⟩) (by first | (simp; done) | (simp; omega))
  simp [go_sem] at cx01 fx01
  have cx02 := hb1.cell (p := ⟨w.heap.size, 2, none⟩) (by first | (simp; done) | (simp; omega))
  have fx02 := hb1.frozen (p := ⟨w.heap.size, 2, none⟩) (by first | (simp; done) | (simp; omega))
  simp [go_sem] at cx02 fx02
  have cx03 := hb1.cell (p := ⟨w.heap.size, 3, none⟩) (by first | (simp; done) | (simp; omega))
  have fx03 := hb1.frozen (p := ⟨w.heap.size, 3, none⟩) (by first | (simp; done) | (simp; omega))
  simp [go_sem] at cx03 fx03
  have cx04 := hb1.cell (p := ⟨w.heap.size, 4, none⟩) (by first | (simp; done) | (simp; omega))
  have fx04 := hb1.frozen (p := ⟨w.heap.size, 4, none⟩) (by first | (simp; done) | (simp; omega))
  simp [go_sem] at cx04 fx04
  have cx10 := hb1.cell (p := ⟨w.heap.size + 1, 0, none⟩) (by first | (simp; done) | (simp; omega))
  have fx10 := hb1.frozen (p := ⟨w.heap.size + 1, 0, none⟩) (by first | (simp; done) | (simp; omega))
  simp [go_sem] at cx10 fx10
  have cx11 := hb1.cell (p := ⟨w.heap.size + 1, 1, none⟩) (by first | (simp; done) | (simp; omega))
  have fx11 := hb1.frozen (p := ⟨w.heap.size + 1, 1, none⟩) (by first | (simp; done) | (simp; omega))
  simp [go_sem] at cx11 fx11
  have cx12 := hb1.cell (p := ⟨w.heap.size + 1, 2, none⟩) (by first | (simp; done) | (simp; omega))
  have fx12 := hb1.frozen (p := ⟨w.heap.size + 1, 2, none⟩) (by first | (simp; done) | (simp; omega))
  simp [go_sem] at cx12 fx12
  have cx13 := hb1.cell (p := ⟨w.heap.size + 1, 3, none⟩) (by first | (simp; done) | (simp; omega))
  have fx13 := hb1.frozen (p := ⟨w.heap.size + 1, 3, none⟩) (by first | (simp; done) | (simp; omega))
  simp [go_sem] at cx13 fx13
  have cx14 := hb1.cell (p := ⟨w.heap.size + 1, 4, none⟩) (by first | (simp; done) | (simp; omega))
  have fx14 := hb1.frozen (p := ⟨w.heap.size + 1, 4, none⟩) (by first | (simp; done) | (simp; omega))
  simp [go_sem] at cx14 fx14
  clear hb1
  go_wp2_with fail
  refine (H1'.out _).mono ?_
  rintro e w' ⟨rfl, rfl⟩
  go_wp2_with fail
  refine (H2'.out _).mono ?_
  rintro e w' ⟨rfl, rfl⟩
  go_wp2_with fail
  refine (H3'.out _).mono ?_
  rintro e w' ⟨rfl, rfl⟩
  go_wp2_with fail
  refine (HC'.out _).mono ?_
  rintro e w3 ⟨rfl, hb3⟩
  have B3 : Hid (Below w.heap.size w w3) := by
    clear HP' H1' H2' H3' HC'
    refine below_then ?_ hb3
    repeat (refine Below.setCell ?_ (by simp only []; omega) _)
    exact B1.out
  have z3 := hb3.size
  simp at z3
  have q30 : w.heap.size < w3.heap.size := by omega
  have q31 : w.heap.size + 1 < w3.heap.size := by omega
  have cy00 := hb3.cell (p := ⟨w.heap.size, 0, none⟩) (by first | (simp; done) | (simp; omega))
  have fy00 := hb3.frozen (p := ⟨w.heap.size, 0, none⟩) (by first | (simp; done) | (simp; omega))
  simp [go_sem, cx00] at cy00
  simp [go_sem, fx00] at fy00
  have cy01 := hb3.cell (p := ⟨w.heap.size, 1, none⟩) (by first | (simp; done) | (simp; omega))
  have fy01 := hb3.frozen (p := ⟨w.heap.size, 1, none⟩) (by first | (simp; done) | (simp; omega))
  simp [go_sem, cx01] at cy01
  simp [go_sem, fx01] at fy01
  have cy02 := hb3.cell (p := ⟨w.heap.size, 2, none⟩) (by first | (simp; done) | (simp; omega))
  have fy02 := hb3.frozen (p := ⟨w.heap.size, 2, none⟩) (by first | (simp; done) | (simp; omega))
  simp [go_sem, cx02] at cy02
  simp [go_sem, fx02] at fy02
  have cy03 := hb3.cell (p := ⟨w.heap.size, 3, none⟩) (by first | (simp; done) | (simp; omega))
  have fy03 := hb3.frozen (p := ⟨w.heap.size, 3, none⟩) (by first | (simp; done) | (simp; omega))
  simp [go_sem, cx03] at cy03
  simp [go_sem, fx03] at fy03
  have cy04 := hb3.cell (p := ⟨w.heap.size, 4, none⟩) (by first | (simp; done) | (simp; omega))
  have fy04 := hb3.frozen (p := ⟨w.heap.size, 4, none⟩) (by first | (simp; done) | (simp; omega))
  simp [go_sem, cx04] at cy04
  simp [go_sem, fx04] at fy04
  have cy10 := hb3.cell (p := ⟨w.heap.size + 1, 0, none⟩) (by first | (simp; done) | (simp; omega))
  have fy10 := hb3.frozen (p := ⟨w.heap.size + 1, 0, none⟩) (by first | (simp; done) | (simp; omega))
  simp [go_sem, cx10] at cy10
  simp [go_sem, fx10] at fy10
  have cy11 := hb3.cell (p := ⟨w.heap.size + 1, 1, none⟩) (by first | (simp; done) | (simp; omega))
  have fy11 := hb3.frozen (p := ⟨w.heap.size + 1, 1, none⟩) (by first | (simp; done) | (simp; omega))
  simp [go_sem, cx11] at cy11
  simp [go_sem, fx11] at fy11
  have cy12 := hb3.cell (p := ⟨w.heap.size + 1, 2, none⟩) (by first | (simp; done) | (simp; omega))
  have fy12 := hb3.frozen (p := ⟨w.heap.size + 1, 2, none⟩) (by first | (simp; done) | (simp; omega))
  simp [go_sem, cx12] at cy12
  simp [go_sem, fx12] at fy12
  have cy13 := hb3.cell (p := ⟨w.heap.size + 1, 3, none⟩) (by first | (simp; done) | (simp; omega))
  have fy13 := hb3.frozen (p := ⟨w.heap.size + 1, 3, none⟩) (by first | (simp; done) | (simp; omega))
  simp [go_sem, cx13] at cy13
  simp [go_sem, fx13] at fy13
  have cy14 := hb3.cell (p := ⟨w.heap.size + 1, 4, none⟩) (by first | (simp; done) | (simp; omega))
  have fy14 := hb3.frozen (p := ⟨w.heap.size + 1, 4, none⟩) (by first | (simp; done) | (simp; omega))
  simp [go_sem, cx14] at cy14
  simp [go_sem, fx14] at fy14
  clear cx00 fx00 cx01 fx01 cx02 fx02 cx03 fx03 cx04 fx04 cx10 fx10 cx11 fx11 cx12 fx12 cx13 fx13 cx14 fx14
  clear hb3 q0 q1 z1
  go_wp2_with fail
  go_region
  go_wp2_with fail
  refine bodyPost_ret (v := .tuple #[rV true n a1 a2 a3, .int .u64 (IntKind.u64.wrap (IntKind.u64.wrap (a3 + C) - b)), .int .i64 0]) ?_ rfl ⟨rfl, ?_⟩
  · simp [results, Try.results21, go_sem, cy00, cy01, cy02, cy03, cy04]
  · clear HP' H1' H2' H3' HC'
    refine Below.drew ?_
    repeat (refine Below.setCell ?_ (by simp only []; omega) _)
    exact B3.out
end Go.Proofs.Ytolflhnkdnjckaa
