/-
  PROVED: dumbwaiterlaw04.LayoutMoves returns true for either kind, every size, base and element, and what was in memory stays as it was. Conditions: none.
-/
import Derived.Test.YtolflhnkdnjckaaRows
import Derived.Test.YtolflhnkdnjckaaLay15
import Derived.WalkKit
import Derived.ProofKit
import Derived.OpenShut
import Derived.ShutString
import Derived.ChangeOld
import Derived.Below
import Derived.Carry
import Derived.Lib.SmallJoins
namespace Go.Proofs.Ytolflhnkdnjckaa.layoutMoves
open Go.ChangeShapes Go.WideShapes Go.ChangeAt Go.RowKit
set_option linter.unusedVariables false


set_option maxRecDepth 100000 in
set_option maxHeartbeats 4000000 in
theorem core_false_in (a1 a2 a3 a4 : Int) (K : Nat) (S B r2 r3 T s2 s3 t2 t3 T2 D G C D2 G2 C2 x y u v N E : Int) (w : World) (hKl : (K : Int) < 10)
    (hS : wrap64 (2 ^ K) = S) (hS1 : 1 ≤ S) (hS2 : S ≤ 512) (eB : IntKind.u64.wrap (a2.tmod 1099511627776 * 16) = B) (hT : T < T2) (hT' : decide (T2 ≤ T) = false)
    (eD : IntKind.u64.wrap (2 * D) = D2) (eG : IntKind.u64.wrap (G2 - 6) = IntKind.u64.wrap (2 * IntKind.u64.wrap (G - 6))) (eC : IntKind.u64.wrap (C2 - 6) = IntKind.u64.wrap (2 * IntKind.u64.wrap (C - 6)))
    (hx0 : 0 ≤ x) (hx1 : x < 11) (hE : (E == 0) = true) (hv : IntKind.u64.wrap (v - u) = B) (eB0 : IntKind.u64.wrap B = B) (es2 : IntKind.u64.wrap (s2 - r2) = B) (es3 : IntKind.u64.wrap (s3 - r3) = B)
    (HK : a1 % 10 = (K : Int)) (Hx : a3 % 11 = x) (Hy : a4 % S = y)
    (HPr : ∀ w, Calls Try.prog 8 #[.bool false, .int .i64 S, .int .u64 0] w fun e w' => e = .returned (.tuple #[rV false S 0 r2 r3, .int .u64 T, .int .i64 0]) ∧ Below w.heap.size w w')
    (HPs : ∀ w, Calls Try.prog 8 #[.bool false, .int .i64 S, .int .u64 B] w fun e w' => e = .returned (.tuple #[rV false S B s2 s3, .int .u64 T, .int .i64 0]) ∧ Below w.heap.size w w')
    (HPt : ∀ w, Calls Try.prog 8 #[.bool false, .int .i64 (2 * S), .int .u64 0] w fun e w' => e = .returned (.tuple #[rV false (2 * S) 0 t2 t3, .int .u64 T2, .int .i64 0]) ∧ Below w.heap.size w w')
    (HQr : ∀ w, Calls Try.prog 16 #[rV false S 0 r2 r3] w fun e w' => e = .returned (.tuple #[.int .u64 D, .int .u64 G, .int .u64 C]) ∧ Below w.heap.size w w')
    (HQt : ∀ w, Calls Try.prog 16 #[rV false (2 * S) 0 t2 t3] w fun e w' => e = .returned (.tuple #[.int .u64 D2, .int .u64 G2, .int .u64 C2]) ∧ Below w.heap.size w w')
    (HWr : ∀ w, Calls Try.prog 9 #[rV false S 0 r2 r3, .int .i64 (1 + x), .int .i64 y] w fun e w' => e = .returned (.tuple #[.int .u64 u, .int .i64 N, .int .i64 E]) ∧ Below w.heap.size w w')
    (HWs : ∀ w, Calls Try.prog 9 #[rV false S B s2 s3, .int .i64 (1 + x), .int .i64 y] w fun e w' => e = .returned (.tuple #[.int .u64 v, .int .i64 N, .int .i64 E]) ∧ Below w.heap.size w w')
    (HCs : ∀ w, Calls Try.prog 13 #[rV false S B s2 s3] w fun e w' => e = .returned (.int .i64 0) ∧ Below w.heap.size w w') :
    Calls Try.prog 7 #[.bool false, .int .i64 a1, .int .u64 a2, .int .i64 a3, .int .i64 a4] w fun e w' => e = .returned (.bool true) ∧ Below w.heap.size w w' := by
  have HPr' := hid_mk HPr
  have HPs' := hid_mk HPs
  have HPt' := hid_mk HPt
  have HQr' := hid_mk HQr
  have HQt' := hid_mk HQt
  have HWr' := hid_mk HWr
  have HWs' := hid_mk HWs
  have HCs' := hid_mk HCs
  have HK' := hid_mk HK
  have Hx' := hid_mk Hx
  have Hy' := hid_mk Hy
  clear HPr HPs HPt HQr HQt HWr HWs HCs HK Hx Hy
  go_enter Try.func7, Try.ntmps7
  go_wp2_with fail
  refine (lives_any _).mono ?_
  rintro e u1 ⟨rfl, hbu1⟩
  have Bu1 : Hid (Below w.heap.size w u1) := below_then (by repeat (first | (refine Below.setCell ?_ (by first | omega | (simp; done) | (simp; omega)) _) | (refine Below.alloc ?_ (by first | omega | (simp; done) | (simp; omega)) _) | (refine below_dn ?_ _) | exact Below.refl _ _)) hbu1
  have zu1 := hbu1.size
  try simp at zu1
  clear hbu1
  go_wp2_with fail
  refine (pick_at _ _ _ _ (by omega) (by omega) HK'.out).mono ?_
  rintro e w' ⟨rfl, rfl⟩
  go_wp2_with fail
  refine (HPr'.out _).mono ?_
  rintro e u2 ⟨rfl, hbu2⟩
  have Bu2 : Hid (Below w.heap.size w u2) := below_then (by repeat (first | (refine Below.setCell ?_ (by first | omega | (simp; done) | (simp; omega)) _) | (refine Below.alloc ?_ (by first | omega | (simp; done) | (simp; omega)) _) | (refine below_dn ?_ _) | exact Below.refl _ _ | exact Bu1.out)) hbu2
  have zu2 := hbu2.size
  try simp at zu2
  clear hbu2
  go_wp2_with fail
  refine (HPs'.out _).mono ?_
  rintro e u3 ⟨rfl, hbu3⟩
  have Bu3 : Hid (Below w.heap.size w u3) := below_then (by repeat (first | (refine Below.setCell ?_ (by first | omega | (simp; done) | (simp; omega)) _) | (refine Below.alloc ?_ (by first | omega | (simp; done) | (simp; omega)) _) | (refine below_dn ?_ _) | exact Below.refl _ _ | exact Bu2.out)) hbu3
  have zu3 := hbu3.size
  try simp at zu3
  have qu3_0 : u2.heap.size < u3.heap.size := by omega
  have cu3_0_0 := hbu3.cell (p := ⟨u2.heap.size, 0, none⟩) (by first | (simp; done) | (simp; omega))
  simp (disch := first | (simp; done) | (simp; omega)) [go_sem] at cu3_0_0
  have cu3_0_1 := hbu3.cell (p := ⟨u2.heap.size, 1, none⟩) (by first | (simp; done) | (simp; omega))
  simp (disch := first | (simp; done) | (simp; omega)) [go_sem] at cu3_0_1
  have cu3_0_2 := hbu3.cell (p := ⟨u2.heap.size, 2, none⟩) (by first | (simp; done) | (simp; omega))
  simp (disch := first | (simp; done) | (simp; omega)) [go_sem] at cu3_0_2
  have cu3_0_3 := hbu3.cell (p := ⟨u2.heap.size, 3, none⟩) (by first | (simp; done) | (simp; omega))
  simp (disch := first | (simp; done) | (simp; omega)) [go_sem] at cu3_0_3
  have cu3_0_4 := hbu3.cell (p := ⟨u2.heap.size, 4, none⟩) (by first | (simp; done) | (simp; omega))
  simp (disch := first | (simp; done) | (simp; omega)) [go_sem] at cu3_0_4
  clear hbu3
  go_wp2_with fail
  refine (HPt'.out _).mono ?_
  rintro e u4 ⟨rfl, hbu4⟩
  have Bu4 : Hid (Below w.heap.size w u4) := below_then (by repeat (first | (refine Below.setCell ?_ (by first | omega | (simp; done) | (simp; omega)) _) | (refine Below.alloc ?_ (by first | omega | (simp; done) | (simp; omega)) _) | (refine below_dn ?_ _) | exact Below.refl _ _ | exact Bu3.out)) hbu4
  have zu4 := hbu4.size
  try simp at zu4
  have qu4_0 : u2.heap.size < u4.heap.size := by omega
  have qu4_1 : u3.heap.size < u4.heap.size := by omega
  have cu4_0_0 := hbu4.cell (p := ⟨u2.heap.size, 0, none⟩) (by first | (simp; done) | (simp; omega))
  simp (disch := first | (simp; done) | (simp; omega)) [go_sem, cu3_0_0] at cu4_0_0
  clear cu3_0_0
  have cu4_0_1 := hbu4.cell (p := ⟨u2.heap.size, 1, none⟩) (by first | (simp; done) | (simp; omega))
  simp (disch := first | (simp; done) | (simp; omega)) [go_sem, cu3_0_1] at cu4_0_1
  clear cu3_0_1
  have cu4_0_2 := hbu4.cell (p := ⟨u2.heap.size, 2, none⟩) (by first | (simp; done) | (simp; omega))
  simp (disch := first | (simp; done) | (simp; omega)) [go_sem, cu3_0_2] at cu4_0_2
  clear cu3_0_2
  have cu4_0_3 := hbu4.cell (p := ⟨u2.heap.size, 3, none⟩) (by first | (simp; done) | (simp; omega))
  simp (disch := first | (simp; done) | (simp; omega)) [go_sem, cu3_0_3] at cu4_0_3
  clear cu3_0_3
  have cu4_0_4 := hbu4.cell (p := ⟨u2.heap.size, 4, none⟩) (by first | (simp; done) | (simp; omega))
  simp (disch := first | (simp; done) | (simp; omega)) [go_sem, cu3_0_4] at cu4_0_4
  clear cu3_0_4
  have cu4_1_0 := hbu4.cell (p := ⟨u3.heap.size, 0, none⟩) (by first | (simp; done) | (simp; omega))
  simp (disch := first | (simp; done) | (simp; omega)) [go_sem] at cu4_1_0
  have cu4_1_1 := hbu4.cell (p := ⟨u3.heap.size, 1, none⟩) (by first | (simp; done) | (simp; omega))
  simp (disch := first | (simp; done) | (simp; omega)) [go_sem] at cu4_1_1
  have cu4_1_2 := hbu4.cell (p := ⟨u3.heap.size, 2, none⟩) (by first | (simp; done) | (simp; omega))
  simp (disch := first | (simp; done) | (simp; omega)) [go_sem] at cu4_1_2
  have cu4_1_3 := hbu4.cell (p := ⟨u3.heap.size, 3, none⟩) (by first | (simp; done) | (simp; omega))
  simp (disch := first | (simp; done) | (simp; omega)) [go_sem] at cu4_1_3
  have cu4_1_4 := hbu4.cell (p := ⟨u3.heap.size, 4, none⟩) (by first | (simp; done) | (simp; omega))
  simp (disch := first | (simp; done) | (simp; omega)) [go_sem] at cu4_1_4
  clear hbu4
  go_wp2_with fail
  refine (HQr'.out _).mono ?_
  rintro e u5 ⟨rfl, hbu5⟩
  have Bu5 : Hid (Below w.heap.size w u5) := below_then (by repeat (first | (refine Below.setCell ?_ (by first | omega | (simp; done) | (simp; omega)) _) | (refine Below.alloc ?_ (by first | omega | (simp; done) | (simp; omega)) _) | (refine below_dn ?_ _) | exact Below.refl _ _ | exact Bu4.out)) hbu5
  have zu5 := hbu5.size
  try simp at zu5
  have qu5_0 : u2.heap.size < u5.heap.size := by omega
  have qu5_1 : u3.heap.size < u5.heap.size := by omega
  have qu5_2 : u4.heap.size < u5.heap.size := by omega
  have cu5_0_0 := hbu5.cell (p := ⟨u2.heap.size, 0, none⟩) (by first | (simp; done) | (simp; omega))
  simp (disch := first | (simp; done) | (simp; omega)) [go_sem, cu4_0_0] at cu5_0_0
  clear cu4_0_0
  have cu5_0_1 := hbu5.cell (p := ⟨u2.heap.size, 1, none⟩) (by first | (simp; done) | (simp; omega))
  simp (disch := first | (simp; done) | (simp; omega)) [go_sem, cu4_0_1] at cu5_0_1
  clear cu4_0_1
  have cu5_0_2 := hbu5.cell (p := ⟨u2.heap.size, 2, none⟩) (by first | (simp; done) | (simp; omega))
  simp (disch := first | (simp; done) | (simp; omega)) [go_sem, cu4_0_2] at cu5_0_2
  clear cu4_0_2
  have cu5_0_3 := hbu5.cell (p := ⟨u2.heap.size, 3, none⟩) (by first | (simp; done) | (simp; omega))
  simp (disch := first | (simp; done) | (simp; omega)) [go_sem, cu4_0_3] at cu5_0_3
  clear cu4_0_3
  have cu5_0_4 := hbu5.cell (p := ⟨u2.heap.size, 4, none⟩) (by first | (simp; done) | (simp; omega))
  simp (disch := first | (simp; done) | (simp; omega)) [go_sem, cu4_0_4] at cu5_0_4
  clear cu4_0_4
  have cu5_1_0 := hbu5.cell (p := ⟨u3.heap.size, 0, none⟩) (by first | (simp; done) | (simp; omega))
  simp (disch := first | (simp; done) | (simp; omega)) [go_sem, cu4_1_0] at cu5_1_0
  clear cu4_1_0
  have cu5_1_1 := hbu5.cell (p := ⟨u3.heap.size, 1, none⟩) (by first | (simp; done) | (simp; omega))
  simp (disch := first | (simp; done) | (simp; omega)) [go_sem, cu4_1_1] at cu5_1_1
  clear cu4_1_1
  have cu5_1_2 := hbu5.cell (p := ⟨u3.heap.size, 2, none⟩) (by first | (simp; done) | (simp; omega))
  simp (disch := first | (simp; done) | (simp; omega)) [go_sem, cu4_1_2] at cu5_1_2
  clear cu4_1_2
  have cu5_1_3 := hbu5.cell (p := ⟨u3.heap.size, 3, none⟩) (by first | (simp; done) | (simp; omega))
  simp (disch := first | (simp; done) | (simp; omega)) [go_sem, cu4_1_3] at cu5_1_3
  clear cu4_1_3
  have cu5_1_4 := hbu5.cell (p := ⟨u3.heap.size, 4, none⟩) (by first | (simp; done) | (simp; omega))
  simp (disch := first | (simp; done) | (simp; omega)) [go_sem, cu4_1_4] at cu5_1_4
  clear cu4_1_4
  have cu5_2_0 := hbu5.cell (p := ⟨u4.heap.size, 0, none⟩) (by first | (simp; done) | (simp; omega))
  simp (disch := first | (simp; done) | (simp; omega)) [go_sem] at cu5_2_0
  have cu5_2_1 := hbu5.cell (p := ⟨u4.heap.size, 1, none⟩) (by first | (simp; done) | (simp; omega))
  simp (disch := first | (simp; done) | (simp; omega)) [go_sem] at cu5_2_1
  have cu5_2_2 := hbu5.cell (p := ⟨u4.heap.size, 2, none⟩) (by first | (simp; done) | (simp; omega))
  simp (disch := first | (simp; done) | (simp; omega)) [go_sem] at cu5_2_2
  have cu5_2_3 := hbu5.cell (p := ⟨u4.heap.size, 3, none⟩) (by first | (simp; done) | (simp; omega))
  simp (disch := first | (simp; done) | (simp; omega)) [go_sem] at cu5_2_3
  have cu5_2_4 := hbu5.cell (p := ⟨u4.heap.size, 4, none⟩) (by first | (simp; done) | (simp; omega))
  simp (disch := first | (simp; done) | (simp; omega)) [go_sem] at cu5_2_4
  clear hbu5
  go_wp2_with fail
  refine (HQt'.out _).mono ?_
  rintro e u6 ⟨rfl, hbu6⟩
  have Bu6 : Hid (Below w.heap.size w u6) := below_then (by repeat (first | (refine Below.setCell ?_ (by first | omega | (simp; done) | (simp; omega)) _) | (refine Below.alloc ?_ (by first | omega | (simp; done) | (simp; omega)) _) | (refine below_dn ?_ _) | exact Below.refl _ _ | exact Bu5.out)) hbu6
  have zu6 := hbu6.size
  try simp at zu6
  have qu6_0 : u2.heap.size < u6.heap.size := by omega
  have qu6_1 : u3.heap.size < u6.heap.size := by omega
  have qu6_2 : u4.heap.size < u6.heap.size := by omega
  have cu6_0_0 := hbu6.cell (p := ⟨u2.heap.size, 0, none⟩) (by first | (simp; done) | (simp; omega))
  simp (disch := first | (simp; done) | (simp; omega)) [go_sem, cu5_0_0] at cu6_0_0
  clear cu5_0_0
  have cu6_0_1 := hbu6.cell (p := ⟨u2.heap.size, 1, none⟩) (by first | (simp; done) | (simp; omega))
  simp (disch := first | (simp; done) | (simp; omega)) [go_sem, cu5_0_1] at cu6_0_1
  clear cu5_0_1
  have cu6_0_2 := hbu6.cell (p := ⟨u2.heap.size, 2, none⟩) (by first | (simp; done) | (simp; omega))
  simp (disch := first | (simp; done) | (simp; omega)) [go_sem, cu5_0_2] at cu6_0_2
  clear cu5_0_2
  have cu6_0_3 := hbu6.cell (p := ⟨u2.heap.size, 3, none⟩) (by first | (simp; done) | (simp; omega))
  simp (disch := first | (simp; done) | (simp; omega)) [go_sem, cu5_0_3] at cu6_0_3
  clear cu5_0_3
  have cu6_0_4 := hbu6.cell (p := ⟨u2.heap.size, 4, none⟩) (by first | (simp; done) | (simp; omega))
  simp (disch := first | (simp; done) | (simp; omega)) [go_sem, cu5_0_4] at cu6_0_4
  clear cu5_0_4
  have cu6_1_0 := hbu6.cell (p := ⟨u3.heap.size, 0, none⟩) (by first | (simp; done) | (simp; omega))
  simp (disch := first | (simp; done) | (simp; omega)) [go_sem, cu5_1_0] at cu6_1_0
  clear cu5_1_0
  have cu6_1_1 := hbu6.cell (p := ⟨u3.heap.size, 1, none⟩) (by first | (simp; done) | (simp; omega))
  simp (disch := first | (simp; done) | (simp; omega)) [go_sem, cu5_1_1] at cu6_1_1
  clear cu5_1_1
  have cu6_1_2 := hbu6.cell (p := ⟨u3.heap.size, 2, none⟩) (by first | (simp; done) | (simp; omega))
  simp (disch := first | (simp; done) | (simp; omega)) [go_sem, cu5_1_2] at cu6_1_2
  clear cu5_1_2
  have cu6_1_3 := hbu6.cell (p := ⟨u3.heap.size, 3, none⟩) (by first | (simp; done) | (simp; omega))
  simp (disch := first | (simp; done) | (simp; omega)) [go_sem, cu5_1_3] at cu6_1_3
  clear cu5_1_3
  have cu6_1_4 := hbu6.cell (p := ⟨u3.heap.size, 4, none⟩) (by first | (simp; done) | (simp; omega))
  simp (disch := first | (simp; done) | (simp; omega)) [go_sem, cu5_1_4] at cu6_1_4
  clear cu5_1_4
  have cu6_2_0 := hbu6.cell (p := ⟨u4.heap.size, 0, none⟩) (by first | (simp; done) | (simp; omega))
  simp (disch := first | (simp; done) | (simp; omega)) [go_sem, cu5_2_0] at cu6_2_0
  clear cu5_2_0
  have cu6_2_1 := hbu6.cell (p := ⟨u4.heap.size, 1, none⟩) (by first | (simp; done) | (simp; omega))
  simp (disch := first | (simp; done) | (simp; omega)) [go_sem, cu5_2_1] at cu6_2_1
  clear cu5_2_1
  have cu6_2_2 := hbu6.cell (p := ⟨u4.heap.size, 2, none⟩) (by first | (simp; done) | (simp; omega))
  simp (disch := first | (simp; done) | (simp; omega)) [go_sem, cu5_2_2] at cu6_2_2
  clear cu5_2_2
  have cu6_2_3 := hbu6.cell (p := ⟨u4.heap.size, 3, none⟩) (by first | (simp; done) | (simp; omega))
  simp (disch := first | (simp; done) | (simp; omega)) [go_sem, cu5_2_3] at cu6_2_3
  clear cu5_2_3
  have cu6_2_4 := hbu6.cell (p := ⟨u4.heap.size, 4, none⟩) (by first | (simp; done) | (simp; omega))
  simp (disch := first | (simp; done) | (simp; omega)) [go_sem, cu5_2_4] at cu6_2_4
  clear cu5_2_4
  clear hbu6
  go_wp2_with fail
  refine (pick_at _ _ _ _ (by omega) (by omega) Hx'.out).mono ?_
  rintro e w' ⟨rfl, rfl⟩
  go_wp2_with fail
  refine (pick_at _ _ _ _ (by omega) (by omega) Hy'.out).mono ?_
  rintro e w' ⟨rfl, rfl⟩
  go_wp2_with fail
  refine (HWr'.out _).mono ?_
  rintro e u7 ⟨rfl, hbu7⟩
  have Bu7 : Hid (Below w.heap.size w u7) := below_then (by repeat (first | (refine Below.setCell ?_ (by first | omega | (simp; done) | (simp; omega)) _) | (refine Below.alloc ?_ (by first | omega | (simp; done) | (simp; omega)) _) | (refine below_dn ?_ _) | exact Below.refl _ _ | exact Bu6.out)) hbu7
  have zu7 := hbu7.size
  try simp at zu7
  have qu7_0 : u2.heap.size < u7.heap.size := by omega
  have qu7_1 : u3.heap.size < u7.heap.size := by omega
  have qu7_2 : u4.heap.size < u7.heap.size := by omega
  have cu7_0_0 := hbu7.cell (p := ⟨u2.heap.size, 0, none⟩) (by first | (simp; done) | (simp; omega))
  simp (disch := first | (simp; done) | (simp; omega)) [go_sem, cu6_0_0] at cu7_0_0
  clear cu6_0_0
  have cu7_0_1 := hbu7.cell (p := ⟨u2.heap.size, 1, none⟩) (by first | (simp; done) | (simp; omega))
  simp (disch := first | (simp; done) | (simp; omega)) [go_sem, cu6_0_1] at cu7_0_1
  clear cu6_0_1
  have cu7_0_2 := hbu7.cell (p := ⟨u2.heap.size, 2, none⟩) (by first | (simp; done) | (simp; omega))
  simp (disch := first | (simp; done) | (simp; omega)) [go_sem, cu6_0_2] at cu7_0_2
  clear cu6_0_2
  have cu7_0_3 := hbu7.cell (p := ⟨u2.heap.size, 3, none⟩) (by first | (simp; done) | (simp; omega))
  simp (disch := first | (simp; done) | (simp; omega)) [go_sem, cu6_0_3] at cu7_0_3
  clear cu6_0_3
  have cu7_0_4 := hbu7.cell (p := ⟨u2.heap.size, 4, none⟩) (by first | (simp; done) | (simp; omega))
  simp (disch := first | (simp; done) | (simp; omega)) [go_sem, cu6_0_4] at cu7_0_4
  clear cu6_0_4
  have cu7_1_0 := hbu7.cell (p := ⟨u3.heap.size, 0, none⟩) (by first | (simp; done) | (simp; omega))
  simp (disch := first | (simp; done) | (simp; omega)) [go_sem, cu6_1_0] at cu7_1_0
  clear cu6_1_0
  have cu7_1_1 := hbu7.cell (p := ⟨u3.heap.size, 1, none⟩) (by first | (simp; done) | (simp; omega))
  simp (disch := first | (simp; done) | (simp; omega)) [go_sem, cu6_1_1] at cu7_1_1
  clear cu6_1_1
  have cu7_1_2 := hbu7.cell (p := ⟨u3.heap.size, 2, none⟩) (by first | (simp; done) | (simp; omega))
  simp (disch := first | (simp; done) | (simp; omega)) [go_sem, cu6_1_2] at cu7_1_2
  clear cu6_1_2
  have cu7_1_3 := hbu7.cell (p := ⟨u3.heap.size, 3, none⟩) (by first | (simp; done) | (simp; omega))
  simp (disch := first | (simp; done) | (simp; omega)) [go_sem, cu6_1_3] at cu7_1_3
  clear cu6_1_3
  have cu7_1_4 := hbu7.cell (p := ⟨u3.heap.size, 4, none⟩) (by first | (simp; done) | (simp; omega))
  simp (disch := first | (simp; done) | (simp; omega)) [go_sem, cu6_1_4] at cu7_1_4
  clear cu6_1_4
  have cu7_2_0 := hbu7.cell (p := ⟨u4.heap.size, 0, none⟩) (by first | (simp; done) | (simp; omega))
  simp (disch := first | (simp; done) | (simp; omega)) [go_sem, cu6_2_0] at cu7_2_0
  clear cu6_2_0
  have cu7_2_1 := hbu7.cell (p := ⟨u4.heap.size, 1, none⟩) (by first | (simp; done) | (simp; omega))
  simp (disch := first | (simp; done) | (simp; omega)) [go_sem, cu6_2_1] at cu7_2_1
  clear cu6_2_1
  have cu7_2_2 := hbu7.cell (p := ⟨u4.heap.size, 2, none⟩) (by first | (simp; done) | (simp; omega))
  simp (disch := first | (simp; done) | (simp; omega)) [go_sem, cu6_2_2] at cu7_2_2
  clear cu6_2_2
  have cu7_2_3 := hbu7.cell (p := ⟨u4.heap.size, 3, none⟩) (by first | (simp; done) | (simp; omega))
  simp (disch := first | (simp; done) | (simp; omega)) [go_sem, cu6_2_3] at cu7_2_3
  clear cu6_2_3
  have cu7_2_4 := hbu7.cell (p := ⟨u4.heap.size, 4, none⟩) (by first | (simp; done) | (simp; omega))
  simp (disch := first | (simp; done) | (simp; omega)) [go_sem, cu6_2_4] at cu7_2_4
  clear cu6_2_4
  clear hbu7
  go_wp2_with fail
  refine (HWs'.out _).mono ?_
  rintro e u8 ⟨rfl, hbu8⟩
  have Bu8 : Hid (Below w.heap.size w u8) := below_then (by repeat (first | (refine Below.setCell ?_ (by first | omega | (simp; done) | (simp; omega)) _) | (refine Below.alloc ?_ (by first | omega | (simp; done) | (simp; omega)) _) | (refine below_dn ?_ _) | exact Below.refl _ _ | exact Bu7.out)) hbu8
  have zu8 := hbu8.size
  try simp at zu8
  have qu8_0 : u2.heap.size < u8.heap.size := by omega
  have qu8_1 : u3.heap.size < u8.heap.size := by omega
  have qu8_2 : u4.heap.size < u8.heap.size := by omega
  have cu8_0_0 := hbu8.cell (p := ⟨u2.heap.size, 0, none⟩) (by first | (simp; done) | (simp; omega))
  simp (disch := first | (simp; done) | (simp; omega)) [go_sem, cu7_0_0] at cu8_0_0
  clear cu7_0_0
  have cu8_0_1 := hbu8.cell (p := ⟨u2.heap.size, 1, none⟩) (by first | (simp; done) | (simp; omega))
  simp (disch := first | (simp; done) | (simp; omega)) [go_sem, cu7_0_1] at cu8_0_1
  clear cu7_0_1
  have cu8_0_2 := hbu8.cell (p := ⟨u2.heap.size, 2, none⟩) (by first | (simp; done) | (simp; omega))
  simp (disch := first | (simp; done) | (simp; omega)) [go_sem, cu7_0_2] at cu8_0_2
  clear cu7_0_2
  have cu8_0_3 := hbu8.cell (p := ⟨u2.heap.size, 3, none⟩) (by first | (simp; done) | (simp; omega))
  simp (disch := first | (simp; done) | (simp; omega)) [go_sem, cu7_0_3] at cu8_0_3
  clear cu7_0_3
  have cu8_0_4 := hbu8.cell (p := ⟨u2.heap.size, 4, none⟩) (by first | (simp; done) | (simp; omega))
  simp (disch := first | (simp; done) | (simp; omega)) [go_sem, cu7_0_4] at cu8_0_4
  clear cu7_0_4
  have cu8_1_0 := hbu8.cell (p := ⟨u3.heap.size, 0, none⟩) (by first | (simp; done) | (simp; omega))
  simp (disch := first | (simp; done) | (simp; omega)) [go_sem, cu7_1_0] at cu8_1_0
  clear cu7_1_0
  have cu8_1_1 := hbu8.cell (p := ⟨u3.heap.size, 1, none⟩) (by first | (simp; done) | (simp; omega))
  simp (disch := first | (simp; done) | (simp; omega)) [go_sem, cu7_1_1] at cu8_1_1
  clear cu7_1_1
  have cu8_1_2 := hbu8.cell (p := ⟨u3.heap.size, 2, none⟩) (by first | (simp; done) | (simp; omega))
  simp (disch := first | (simp; done) | (simp; omega)) [go_sem, cu7_1_2] at cu8_1_2
  clear cu7_1_2
  have cu8_1_3 := hbu8.cell (p := ⟨u3.heap.size, 3, none⟩) (by first | (simp; done) | (simp; omega))
  simp (disch := first | (simp; done) | (simp; omega)) [go_sem, cu7_1_3] at cu8_1_3
  clear cu7_1_3
  have cu8_1_4 := hbu8.cell (p := ⟨u3.heap.size, 4, none⟩) (by first | (simp; done) | (simp; omega))
  simp (disch := first | (simp; done) | (simp; omega)) [go_sem, cu7_1_4] at cu8_1_4
  clear cu7_1_4
  have cu8_2_0 := hbu8.cell (p := ⟨u4.heap.size, 0, none⟩) (by first | (simp; done) | (simp; omega))
  simp (disch := first | (simp; done) | (simp; omega)) [go_sem, cu7_2_0] at cu8_2_0
  clear cu7_2_0
  have cu8_2_1 := hbu8.cell (p := ⟨u4.heap.size, 1, none⟩) (by first | (simp; done) | (simp; omega))
  simp (disch := first | (simp; done) | (simp; omega)) [go_sem, cu7_2_1] at cu8_2_1
  clear cu7_2_1
  have cu8_2_2 := hbu8.cell (p := ⟨u4.heap.size, 2, none⟩) (by first | (simp; done) | (simp; omega))
  simp (disch := first | (simp; done) | (simp; omega)) [go_sem, cu7_2_2] at cu8_2_2
  clear cu7_2_2
  have cu8_2_3 := hbu8.cell (p := ⟨u4.heap.size, 3, none⟩) (by first | (simp; done) | (simp; omega))
  simp (disch := first | (simp; done) | (simp; omega)) [go_sem, cu7_2_3] at cu8_2_3
  clear cu7_2_3
  have cu8_2_4 := hbu8.cell (p := ⟨u4.heap.size, 4, none⟩) (by first | (simp; done) | (simp; omega))
  simp (disch := first | (simp; done) | (simp; omega)) [go_sem, cu7_2_4] at cu8_2_4
  clear cu7_2_4
  clear hbu8
  go_wp2_with fail
  refine (HCs'.out _).mono ?_
  rintro e u9 ⟨rfl, hbu9⟩
  have Bu9 : Hid (Below w.heap.size w u9) := below_then (by repeat (first | (refine Below.setCell ?_ (by first | omega | (simp; done) | (simp; omega)) _) | (refine Below.alloc ?_ (by first | omega | (simp; done) | (simp; omega)) _) | (refine below_dn ?_ _) | exact Below.refl _ _ | exact Bu8.out)) hbu9
  have zu9 := hbu9.size
  try simp at zu9
  have qu9_0 : u2.heap.size < u9.heap.size := by omega
  have qu9_1 : u3.heap.size < u9.heap.size := by omega
  have qu9_2 : u4.heap.size < u9.heap.size := by omega
  have cu9_0_0 := hbu9.cell (p := ⟨u2.heap.size, 0, none⟩) (by first | (simp; done) | (simp; omega))
  simp (disch := first | (simp; done) | (simp; omega)) [go_sem, cu8_0_0] at cu9_0_0
  clear cu8_0_0
  have cu9_0_1 := hbu9.cell (p := ⟨u2.heap.size, 1, none⟩) (by first | (simp; done) | (simp; omega))
  simp (disch := first | (simp; done) | (simp; omega)) [go_sem, cu8_0_1] at cu9_0_1
  clear cu8_0_1
  have cu9_0_2 := hbu9.cell (p := ⟨u2.heap.size, 2, none⟩) (by first | (simp; done) | (simp; omega))
  simp (disch := first | (simp; done) | (simp; omega)) [go_sem, cu8_0_2] at cu9_0_2
  clear cu8_0_2
  have cu9_0_3 := hbu9.cell (p := ⟨u2.heap.size, 3, none⟩) (by first | (simp; done) | (simp; omega))
  simp (disch := first | (simp; done) | (simp; omega)) [go_sem, cu8_0_3] at cu9_0_3
  clear cu8_0_3
  have cu9_0_4 := hbu9.cell (p := ⟨u2.heap.size, 4, none⟩) (by first | (simp; done) | (simp; omega))
  simp (disch := first | (simp; done) | (simp; omega)) [go_sem, cu8_0_4] at cu9_0_4
  clear cu8_0_4
  have cu9_1_0 := hbu9.cell (p := ⟨u3.heap.size, 0, none⟩) (by first | (simp; done) | (simp; omega))
  simp (disch := first | (simp; done) | (simp; omega)) [go_sem, cu8_1_0] at cu9_1_0
  clear cu8_1_0
  have cu9_1_1 := hbu9.cell (p := ⟨u3.heap.size, 1, none⟩) (by first | (simp; done) | (simp; omega))
  simp (disch := first | (simp; done) | (simp; omega)) [go_sem, cu8_1_1] at cu9_1_1
  clear cu8_1_1
  have cu9_1_2 := hbu9.cell (p := ⟨u3.heap.size, 2, none⟩) (by first | (simp; done) | (simp; omega))
  simp (disch := first | (simp; done) | (simp; omega)) [go_sem, cu8_1_2] at cu9_1_2
  clear cu8_1_2
  have cu9_1_3 := hbu9.cell (p := ⟨u3.heap.size, 3, none⟩) (by first | (simp; done) | (simp; omega))
  simp (disch := first | (simp; done) | (simp; omega)) [go_sem, cu8_1_3] at cu9_1_3
  clear cu8_1_3
  have cu9_1_4 := hbu9.cell (p := ⟨u3.heap.size, 4, none⟩) (by first | (simp; done) | (simp; omega))
  simp (disch := first | (simp; done) | (simp; omega)) [go_sem, cu8_1_4] at cu9_1_4
  clear cu8_1_4
  have cu9_2_0 := hbu9.cell (p := ⟨u4.heap.size, 0, none⟩) (by first | (simp; done) | (simp; omega))
  simp (disch := first | (simp; done) | (simp; omega)) [go_sem, cu8_2_0] at cu9_2_0
  clear cu8_2_0
  have cu9_2_1 := hbu9.cell (p := ⟨u4.heap.size, 1, none⟩) (by first | (simp; done) | (simp; omega))
  simp (disch := first | (simp; done) | (simp; omega)) [go_sem, cu8_2_1] at cu9_2_1
  clear cu8_2_1
  have cu9_2_2 := hbu9.cell (p := ⟨u4.heap.size, 2, none⟩) (by first | (simp; done) | (simp; omega))
  simp (disch := first | (simp; done) | (simp; omega)) [go_sem, cu8_2_2] at cu9_2_2
  clear cu8_2_2
  have cu9_2_3 := hbu9.cell (p := ⟨u4.heap.size, 3, none⟩) (by first | (simp; done) | (simp; omega))
  simp (disch := first | (simp; done) | (simp; omega)) [go_sem, cu8_2_3] at cu9_2_3
  clear cu8_2_3
  have cu9_2_4 := hbu9.cell (p := ⟨u4.heap.size, 4, none⟩) (by first | (simp; done) | (simp; omega))
  simp (disch := first | (simp; done) | (simp; omega)) [go_sem, cu8_2_4] at cu9_2_4
  clear cu8_2_4
  clear hbu9
  go_wp2_with fail
  go_ret
  exact ⟨rfl, Bu9.out⟩

set_option maxRecDepth 100000 in
set_option maxHeartbeats 4000000 in
theorem core_false_out (a1 a2 a3 a4 : Int) (K : Nat) (S B r2 r3 T s2 s3 t2 t3 T2 D G C D2 G2 C2 x y u v N E : Int) (w : World) (hKl : (K : Int) < 10)
    (hS : wrap64 (2 ^ K) = S) (hS1 : 1 ≤ S) (hS2 : S ≤ 512) (eB : IntKind.u64.wrap (a2.tmod 1099511627776 * 16) = B) (hT : T < T2) (hT' : decide (T2 ≤ T) = false)
    (eD : IntKind.u64.wrap (2 * D) = D2) (eG : IntKind.u64.wrap (G2 - 6) = IntKind.u64.wrap (2 * IntKind.u64.wrap (G - 6))) (eC : IntKind.u64.wrap (C2 - 6) = IntKind.u64.wrap (2 * IntKind.u64.wrap (C - 6)))
    (hx0 : 0 ≤ x) (hx1 : x < 11) (hE : (E == 0) = false) (eB0 : IntKind.u64.wrap B = B) (es2 : IntKind.u64.wrap (s2 - r2) = B) (es3 : IntKind.u64.wrap (s3 - r3) = B)
    (HK : a1 % 10 = (K : Int)) (Hx : a3 % 11 = x) (Hy : a4 % S = y)
    (HPr : ∀ w, Calls Try.prog 8 #[.bool false, .int .i64 S, .int .u64 0] w fun e w' => e = .returned (.tuple #[rV false S 0 r2 r3, .int .u64 T, .int .i64 0]) ∧ Below w.heap.size w w')
    (HPs : ∀ w, Calls Try.prog 8 #[.bool false, .int .i64 S, .int .u64 B] w fun e w' => e = .returned (.tuple #[rV false S B s2 s3, .int .u64 T, .int .i64 0]) ∧ Below w.heap.size w w')
    (HPt : ∀ w, Calls Try.prog 8 #[.bool false, .int .i64 (2 * S), .int .u64 0] w fun e w' => e = .returned (.tuple #[rV false (2 * S) 0 t2 t3, .int .u64 T2, .int .i64 0]) ∧ Below w.heap.size w w')
    (HQr : ∀ w, Calls Try.prog 16 #[rV false S 0 r2 r3] w fun e w' => e = .returned (.tuple #[.int .u64 D, .int .u64 G, .int .u64 C]) ∧ Below w.heap.size w w')
    (HQt : ∀ w, Calls Try.prog 16 #[rV false (2 * S) 0 t2 t3] w fun e w' => e = .returned (.tuple #[.int .u64 D2, .int .u64 G2, .int .u64 C2]) ∧ Below w.heap.size w w')
    (HWr : ∀ w, Calls Try.prog 9 #[rV false S 0 r2 r3, .int .i64 (1 + x), .int .i64 y] w fun e w' => e = .returned (.tuple #[.int .u64 u, .int .i64 N, .int .i64 E]) ∧ Below w.heap.size w w')
    (HWs : ∀ w, Calls Try.prog 9 #[rV false S B s2 s3, .int .i64 (1 + x), .int .i64 y] w fun e w' => e = .returned (.tuple #[.int .u64 v, .int .i64 N, .int .i64 E]) ∧ Below w.heap.size w w')
    (HCs : ∀ w, Calls Try.prog 13 #[rV false S B s2 s3] w fun e w' => e = .returned (.int .i64 0) ∧ Below w.heap.size w w') :
    Calls Try.prog 7 #[.bool false, .int .i64 a1, .int .u64 a2, .int .i64 a3, .int .i64 a4] w fun e w' => e = .returned (.bool true) ∧ Below w.heap.size w w' := by
  have HPr' := hid_mk HPr
  have HPs' := hid_mk HPs
  have HPt' := hid_mk HPt
  have HQr' := hid_mk HQr
  have HQt' := hid_mk HQt
  have HWr' := hid_mk HWr
  have HWs' := hid_mk HWs
  have HCs' := hid_mk HCs
  have HK' := hid_mk HK
  have Hx' := hid_mk Hx
  have Hy' := hid_mk Hy
  clear HPr HPs HPt HQr HQt HWr HWs HCs HK Hx Hy
  go_enter Try.func7, Try.ntmps7
  go_wp2_with fail
  refine (lives_any _).mono ?_
  rintro e u1 ⟨rfl, hbu1⟩
  have Bu1 : Hid (Below w.heap.size w u1) := below_then (by repeat (first | (refine Below.setCell ?_ (by first | omega | (simp; done) | (simp; omega)) _) | (refine Below.alloc ?_ (by first | omega | (simp; done) | (simp; omega)) _) | (refine below_dn ?_ _) | exact Below.refl _ _)) hbu1
  have zu1 := hbu1.size
  try simp at zu1
  clear hbu1
  go_wp2_with fail
  refine (pick_at _ _ _ _ (by omega) (by omega) HK'.out).mono ?_
  rintro e w' ⟨rfl, rfl⟩
  go_wp2_with fail
  refine (HPr'.out _).mono ?_
  rintro e u2 ⟨rfl, hbu2⟩
  have Bu2 : Hid (Below w.heap.size w u2) := below_then (by repeat (first | (refine Below.setCell ?_ (by first | omega | (simp; done) | (simp; omega)) _) | (refine Below.alloc ?_ (by first | omega | (simp; done) | (simp; omega)) _) | (refine below_dn ?_ _) | exact Below.refl _ _ | exact Bu1.out)) hbu2
  have zu2 := hbu2.size
  try simp at zu2
  clear hbu2
  go_wp2_with fail
  refine (HPs'.out _).mono ?_
  rintro e u3 ⟨rfl, hbu3⟩
  have Bu3 : Hid (Below w.heap.size w u3) := below_then (by repeat (first | (refine Below.setCell ?_ (by first | omega | (simp; done) | (simp; omega)) _) | (refine Below.alloc ?_ (by first | omega | (simp; done) | (simp; omega)) _) | (refine below_dn ?_ _) | exact Below.refl _ _ | exact Bu2.out)) hbu3
  have zu3 := hbu3.size
  try simp at zu3
  have qu3_0 : u2.heap.size < u3.heap.size := by omega
  have cu3_0_0 := hbu3.cell (p := ⟨u2.heap.size, 0, none⟩) (by first | (simp; done) | (simp; omega))
  simp (disch := first | (simp; done) | (simp; omega)) [go_sem] at cu3_0_0
  have cu3_0_1 := hbu3.cell (p := ⟨u2.heap.size, 1, none⟩) (by first | (simp; done) | (simp; omega))
  simp (disch := first | (simp; done) | (simp; omega)) [go_sem] at cu3_0_1
  have cu3_0_2 := hbu3.cell (p := ⟨u2.heap.size, 2, none⟩) (by first | (simp; done) | (simp; omega))
  simp (disch := first | (simp; done) | (simp; omega)) [go_sem] at cu3_0_2
  have cu3_0_3 := hbu3.cell (p := ⟨u2.heap.size, 3, none⟩) (by first | (simp; done) | (simp; omega))
  simp (disch := first | (simp; done) | (simp; omega)) [go_sem] at cu3_0_3
  have cu3_0_4 := hbu3.cell (p := ⟨u2.heap.size, 4, none⟩) (by first | (simp; done) | (simp; omega))
  simp (disch := first | (simp; done) | (simp; omega)) [go_sem] at cu3_0_4
  clear hbu3
  go_wp2_with fail
  refine (HPt'.out _).mono ?_
  rintro e u4 ⟨rfl, hbu4⟩
  have Bu4 : Hid (Below w.heap.size w u4) := below_then (by repeat (first | (refine Below.setCell ?_ (by first | omega | (simp; done) | (simp; omega)) _) | (refine Below.alloc ?_ (by first | omega | (simp; done) | (simp; omega)) _) | (refine below_dn ?_ _) | exact Below.refl _ _ | exact Bu3.out)) hbu4
  have zu4 := hbu4.size
  try simp at zu4
  have qu4_0 : u2.heap.size < u4.heap.size := by omega
  have qu4_1 : u3.heap.size < u4.heap.size := by omega
  have cu4_0_0 := hbu4.cell (p := ⟨u2.heap.size, 0, none⟩) (by first | (simp; done) | (simp; omega))
  simp (disch := first | (simp; done) | (simp; omega)) [go_sem, cu3_0_0] at cu4_0_0
  clear cu3_0_0
  have cu4_0_1 := hbu4.cell (p := ⟨u2.heap.size, 1, none⟩) (by first | (simp; done) | (simp; omega))
  simp (disch := first | (simp; done) | (simp; omega)) [go_sem, cu3_0_1] at cu4_0_1
  clear cu3_0_1
  have cu4_0_2 := hbu4.cell (p := ⟨u2.heap.size, 2, none⟩) (by first | (simp; done) | (simp; omega))
  simp (disch := first | (simp; done) | (simp; omega)) [go_sem, cu3_0_2] at cu4_0_2
  clear cu3_0_2
  have cu4_0_3 := hbu4.cell (p := ⟨u2.heap.size, 3, none⟩) (by first | (simp; done) | (simp; omega))
  simp (disch := first | (simp; done) | (simp; omega)) [go_sem, cu3_0_3] at cu4_0_3
  clear cu3_0_3
  have cu4_0_4 := hbu4.cell (p := ⟨u2.heap.size, 4, none⟩) (by first | (simp; done) | (simp; omega))
  simp (disch := first | (simp; done) | (simp; omega)) [go_sem, cu3_0_4] at cu4_0_4
  clear cu3_0_4
  have cu4_1_0 := hbu4.cell (p := ⟨u3.heap.size, 0, none⟩) (by first | (simp; done) | (simp; omega))
  simp (disch := first | (simp; done) | (simp; omega)) [go_sem] at cu4_1_0
  have cu4_1_1 := hbu4.cell (p := ⟨u3.heap.size, 1, none⟩) (by first | (simp; done) | (simp; omega))
  simp (disch := first | (simp; done) | (simp; omega)) [go_sem] at cu4_1_1
  have cu4_1_2 := hbu4.cell (p := ⟨u3.heap.size, 2, none⟩) (by first | (simp; done) | (simp; omega))
  simp (disch := first | (simp; done) | (simp; omega)) [go_sem] at cu4_1_2
  have cu4_1_3 := hbu4.cell (p := ⟨u3.heap.size, 3, none⟩) (by first | (simp; done) | (simp; omega))
  simp (disch := first | (simp; done) | (simp; omega)) [go_sem] at cu4_1_3
  have cu4_1_4 := hbu4.cell (p := ⟨u3.heap.size, 4, none⟩) (by first | (simp; done) | (simp; omega))
  simp (disch := first | (simp; done) | (simp; omega)) [go_sem] at cu4_1_4
  clear hbu4
  go_wp2_with fail
  refine (HQr'.out _).mono ?_
  rintro e u5 ⟨rfl, hbu5⟩
  have Bu5 : Hid (Below w.heap.size w u5) := below_then (by repeat (first | (refine Below.setCell ?_ (by first | omega | (simp; done) | (simp; omega)) _) | (refine Below.alloc ?_ (by first | omega | (simp; done) | (simp; omega)) _) | (refine below_dn ?_ _) | exact Below.refl _ _ | exact Bu4.out)) hbu5
  have zu5 := hbu5.size
  try simp at zu5
  have qu5_0 : u2.heap.size < u5.heap.size := by omega
  have qu5_1 : u3.heap.size < u5.heap.size := by omega
  have qu5_2 : u4.heap.size < u5.heap.size := by omega
  have cu5_0_0 := hbu5.cell (p := ⟨u2.heap.size, 0, none⟩) (by first | (simp; done) | (simp; omega))
  simp (disch := first | (simp; done) | (simp; omega)) [go_sem, cu4_0_0] at cu5_0_0
  clear cu4_0_0
  have cu5_0_1 := hbu5.cell (p := ⟨u2.heap.size, 1, none⟩) (by first | (simp; done) | (simp; omega))
  simp (disch := first | (simp; done) | (simp; omega)) [go_sem, cu4_0_1] at cu5_0_1
  clear cu4_0_1
  have cu5_0_2 := hbu5.cell (p := ⟨u2.heap.size, 2, none⟩) (by first | (simp; done) | (simp; omega))
  simp (disch := first | (simp; done) | (simp; omega)) [go_sem, cu4_0_2] at cu5_0_2
  clear cu4_0_2
  have cu5_0_3 := hbu5.cell (p := ⟨u2.heap.size, 3, none⟩) (by first | (simp; done) | (simp; omega))
  simp (disch := first | (simp; done) | (simp; omega)) [go_sem, cu4_0_3] at cu5_0_3
  clear cu4_0_3
  have cu5_0_4 := hbu5.cell (p := ⟨u2.heap.size, 4, none⟩) (by first | (simp; done) | (simp; omega))
  simp (disch := first | (simp; done) | (simp; omega)) [go_sem, cu4_0_4] at cu5_0_4
  clear cu4_0_4
  have cu5_1_0 := hbu5.cell (p := ⟨u3.heap.size, 0, none⟩) (by first | (simp; done) | (simp; omega))
  simp (disch := first | (simp; done) | (simp; omega)) [go_sem, cu4_1_0] at cu5_1_0
  clear cu4_1_0
  have cu5_1_1 := hbu5.cell (p := ⟨u3.heap.size, 1, none⟩) (by first | (simp; done) | (simp; omega))
  simp (disch := first | (simp; done) | (simp; omega)) [go_sem, cu4_1_1] at cu5_1_1
  clear cu4_1_1
  have cu5_1_2 := hbu5.cell (p := ⟨u3.heap.size, 2, none⟩) (by first | (simp; done) | (simp; omega))
  simp (disch := first | (simp; done) | (simp; omega)) [go_sem, cu4_1_2] at cu5_1_2
  clear cu4_1_2
  have cu5_1_3 := hbu5.cell (p := ⟨u3.heap.size, 3, none⟩) (by first | (simp; done) | (simp; omega))
  simp (disch := first | (simp; done) | (simp; omega)) [go_sem, cu4_1_3] at cu5_1_3
  clear cu4_1_3
  have cu5_1_4 := hbu5.cell (p := ⟨u3.heap.size, 4, none⟩) (by first | (simp; done) | (simp; omega))
  simp (disch := first | (simp; done) | (simp; omega)) [go_sem, cu4_1_4] at cu5_1_4
  clear cu4_1_4
  have cu5_2_0 := hbu5.cell (p := ⟨u4.heap.size, 0, none⟩) (by first | (simp; done) | (simp; omega))
  simp (disch := first | (simp; done) | (simp; omega)) [go_sem] at cu5_2_0
  have cu5_2_1 := hbu5.cell (p := ⟨u4.heap.size, 1, none⟩) (by first | (simp; done) | (simp; omega))
  simp (disch := first | (simp; done) | (simp; omega)) [go_sem] at cu5_2_1
  have cu5_2_2 := hbu5.cell (p := ⟨u4.heap.size, 2, none⟩) (by first | (simp; done) | (simp; omega))
  simp (disch := first | (simp; done) | (simp; omega)) [go_sem] at cu5_2_2
  have cu5_2_3 := hbu5.cell (p := ⟨u4.heap.size, 3, none⟩) (by first | (simp; done) | (simp; omega))
  simp (disch := first | (simp; done) | (simp; omega)) [go_sem] at cu5_2_3
  have cu5_2_4 := hbu5.cell (p := ⟨u4.heap.size, 4, none⟩) (by first | (simp; done) | (simp; omega))
  simp (disch := first | (simp; done) | (simp; omega)) [go_sem] at cu5_2_4
  clear hbu5
  go_wp2_with fail
  refine (HQt'.out _).mono ?_
  rintro e u6 ⟨rfl, hbu6⟩
  have Bu6 : Hid (Below w.heap.size w u6) := below_then (by repeat (first | (refine Below.setCell ?_ (by first | omega | (simp; done) | (simp; omega)) _) | (refine Below.alloc ?_ (by first | omega | (simp; done) | (simp; omega)) _) | (refine below_dn ?_ _) | exact Below.refl _ _ | exact Bu5.out)) hbu6
  have zu6 := hbu6.size
  try simp at zu6
  have qu6_0 : u2.heap.size < u6.heap.size := by omega
  have qu6_1 : u3.heap.size < u6.heap.size := by omega
  have qu6_2 : u4.heap.size < u6.heap.size := by omega
  have cu6_0_0 := hbu6.cell (p := ⟨u2.heap.size, 0, none⟩) (by first | (simp; done) | (simp; omega))
  simp (disch := first | (simp; done) | (simp; omega)) [go_sem, cu5_0_0] at cu6_0_0
  clear cu5_0_0
  have cu6_0_1 := hbu6.cell (p := ⟨u2.heap.size, 1, none⟩) (by first | (simp; done) | (simp; omega))
  simp (disch := first | (simp; done) | (simp; omega)) [go_sem, cu5_0_1] at cu6_0_1
  clear cu5_0_1
  have cu6_0_2 := hbu6.cell (p := ⟨u2.heap.size, 2, none⟩) (by first | (simp; done) | (simp; omega))
  simp (disch := first | (simp; done) | (simp; omega)) [go_sem, cu5_0_2] at cu6_0_2
  clear cu5_0_2
  have cu6_0_3 := hbu6.cell (p := ⟨u2.heap.size, 3, none⟩) (by first | (simp; done) | (simp; omega))
  simp (disch := first | (simp; done) | (simp; omega)) [go_sem, cu5_0_3] at cu6_0_3
  clear cu5_0_3
  have cu6_0_4 := hbu6.cell (p := ⟨u2.heap.size, 4, none⟩) (by first | (simp; done) | (simp; omega))
  simp (disch := first | (simp; done) | (simp; omega)) [go_sem, cu5_0_4] at cu6_0_4
  clear cu5_0_4
  have cu6_1_0 := hbu6.cell (p := ⟨u3.heap.size, 0, none⟩) (by first | (simp; done) | (simp; omega))
  simp (disch := first | (simp; done) | (simp; omega)) [go_sem, cu5_1_0] at cu6_1_0
  clear cu5_1_0
  have cu6_1_1 := hbu6.cell (p := ⟨u3.heap.size, 1, none⟩) (by first | (simp; done) | (simp; omega))
  simp (disch := first | (simp; done) | (simp; omega)) [go_sem, cu5_1_1] at cu6_1_1
  clear cu5_1_1
  have cu6_1_2 := hbu6.cell (p := ⟨u3.heap.size, 2, none⟩) (by first | (simp; done) | (simp; omega))
  simp (disch := first | (simp; done) | (simp; omega)) [go_sem, cu5_1_2] at cu6_1_2
  clear cu5_1_2
  have cu6_1_3 := hbu6.cell (p := ⟨u3.heap.size, 3, none⟩) (by first | (simp; done) | (simp; omega))
  simp (disch := first | (simp; done) | (simp; omega)) [go_sem, cu5_1_3] at cu6_1_3
  clear cu5_1_3
  have cu6_1_4 := hbu6.cell (p := ⟨u3.heap.size, 4, none⟩) (by first | (simp; done) | (simp; omega))
  simp (disch := first | (simp; done) | (simp; omega)) [go_sem, cu5_1_4] at cu6_1_4
  clear cu5_1_4
  have cu6_2_0 := hbu6.cell (p := ⟨u4.heap.size, 0, none⟩) (by first | (simp; done) | (simp; omega))
  simp (disch := first | (simp; done) | (simp; omega)) [go_sem, cu5_2_0] at cu6_2_0
  clear cu5_2_0
  have cu6_2_1 := hbu6.cell (p := ⟨u4.heap.size, 1, none⟩) (by first | (simp; done) | (simp; omega))
  simp (disch := first | (simp; done) | (simp; omega)) [go_sem, cu5_2_1] at cu6_2_1
  clear cu5_2_1
  have cu6_2_2 := hbu6.cell (p := ⟨u4.heap.size, 2, none⟩) (by first | (simp; done) | (simp; omega))
  simp (disch := first | (simp; done) | (simp; omega)) [go_sem, cu5_2_2] at cu6_2_2
  clear cu5_2_2
  have cu6_2_3 := hbu6.cell (p := ⟨u4.heap.size, 3, none⟩) (by first | (simp; done) | (simp; omega))
  simp (disch := first | (simp; done) | (simp; omega)) [go_sem, cu5_2_3] at cu6_2_3
  clear cu5_2_3
  have cu6_2_4 := hbu6.cell (p := ⟨u4.heap.size, 4, none⟩) (by first | (simp; done) | (simp; omega))
  simp (disch := first | (simp; done) | (simp; omega)) [go_sem, cu5_2_4] at cu6_2_4
  clear cu5_2_4
  clear hbu6
  go_wp2_with fail
  refine (pick_at _ _ _ _ (by omega) (by omega) Hx'.out).mono ?_
  rintro e w' ⟨rfl, rfl⟩
  go_wp2_with fail
  refine (pick_at _ _ _ _ (by omega) (by omega) Hy'.out).mono ?_
  rintro e w' ⟨rfl, rfl⟩
  go_wp2_with fail
  refine (HWr'.out _).mono ?_
  rintro e u7 ⟨rfl, hbu7⟩
  have Bu7 : Hid (Below w.heap.size w u7) := below_then (by repeat (first | (refine Below.setCell ?_ (by first | omega | (simp; done) | (simp; omega)) _) | (refine Below.alloc ?_ (by first | omega | (simp; done) | (simp; omega)) _) | (refine below_dn ?_ _) | exact Below.refl _ _ | exact Bu6.out)) hbu7
  have zu7 := hbu7.size
  try simp at zu7
  have qu7_0 : u2.heap.size < u7.heap.size := by omega
  have qu7_1 : u3.heap.size < u7.heap.size := by omega
  have qu7_2 : u4.heap.size < u7.heap.size := by omega
  have cu7_0_0 := hbu7.cell (p := ⟨u2.heap.size, 0, none⟩) (by first | (simp; done) | (simp; omega))
  simp (disch := first | (simp; done) | (simp; omega)) [go_sem, cu6_0_0] at cu7_0_0
  clear cu6_0_0
  have cu7_0_1 := hbu7.cell (p := ⟨u2.heap.size, 1, none⟩) (by first | (simp; done) | (simp; omega))
  simp (disch := first | (simp; done) | (simp; omega)) [go_sem, cu6_0_1] at cu7_0_1
  clear cu6_0_1
  have cu7_0_2 := hbu7.cell (p := ⟨u2.heap.size, 2, none⟩) (by first | (simp; done) | (simp; omega))
  simp (disch := first | (simp; done) | (simp; omega)) [go_sem, cu6_0_2] at cu7_0_2
  clear cu6_0_2
  have cu7_0_3 := hbu7.cell (p := ⟨u2.heap.size, 3, none⟩) (by first | (simp; done) | (simp; omega))
  simp (disch := first | (simp; done) | (simp; omega)) [go_sem, cu6_0_3] at cu7_0_3
  clear cu6_0_3
  have cu7_0_4 := hbu7.cell (p := ⟨u2.heap.size, 4, none⟩) (by first | (simp; done) | (simp; omega))
  simp (disch := first | (simp; done) | (simp; omega)) [go_sem, cu6_0_4] at cu7_0_4
  clear cu6_0_4
  have cu7_1_0 := hbu7.cell (p := ⟨u3.heap.size, 0, none⟩) (by first | (simp; done) | (simp; omega))
  simp (disch := first | (simp; done) | (simp; omega)) [go_sem, cu6_1_0] at cu7_1_0
  clear cu6_1_0
  have cu7_1_1 := hbu7.cell (p := ⟨u3.heap.size, 1, none⟩) (by first | (simp; done) | (simp; omega))
  simp (disch := first | (simp; done) | (simp; omega)) [go_sem, cu6_1_1] at cu7_1_1
  clear cu6_1_1
  have cu7_1_2 := hbu7.cell (p := ⟨u3.heap.size, 2, none⟩) (by first | (simp; done) | (simp; omega))
  simp (disch := first | (simp; done) | (simp; omega)) [go_sem, cu6_1_2] at cu7_1_2
  clear cu6_1_2
  have cu7_1_3 := hbu7.cell (p := ⟨u3.heap.size, 3, none⟩) (by first | (simp; done) | (simp; omega))
  simp (disch := first | (simp; done) | (simp; omega)) [go_sem, cu6_1_3] at cu7_1_3
  clear cu6_1_3
  have cu7_1_4 := hbu7.cell (p := ⟨u3.heap.size, 4, none⟩) (by first | (simp; done) | (simp; omega))
  simp (disch := first | (simp; done) | (simp; omega)) [go_sem, cu6_1_4] at cu7_1_4
  clear cu6_1_4
  have cu7_2_0 := hbu7.cell (p := ⟨u4.heap.size, 0, none⟩) (by first | (simp; done) | (simp; omega))
  simp (disch := first | (simp; done) | (simp; omega)) [go_sem, cu6_2_0] at cu7_2_0
  clear cu6_2_0
  have cu7_2_1 := hbu7.cell (p := ⟨u4.heap.size, 1, none⟩) (by first | (simp; done) | (simp; omega))
  simp (disch := first | (simp; done) | (simp; omega)) [go_sem, cu6_2_1] at cu7_2_1
  clear cu6_2_1
  have cu7_2_2 := hbu7.cell (p := ⟨u4.heap.size, 2, none⟩) (by first | (simp; done) | (simp; omega))
  simp (disch := first | (simp; done) | (simp; omega)) [go_sem, cu6_2_2] at cu7_2_2
  clear cu6_2_2
  have cu7_2_3 := hbu7.cell (p := ⟨u4.heap.size, 3, none⟩) (by first | (simp; done) | (simp; omega))
  simp (disch := first | (simp; done) | (simp; omega)) [go_sem, cu6_2_3] at cu7_2_3
  clear cu6_2_3
  have cu7_2_4 := hbu7.cell (p := ⟨u4.heap.size, 4, none⟩) (by first | (simp; done) | (simp; omega))
  simp (disch := first | (simp; done) | (simp; omega)) [go_sem, cu6_2_4] at cu7_2_4
  clear cu6_2_4
  clear hbu7
  go_wp2_with fail
  refine (HWs'.out _).mono ?_
  rintro e u8 ⟨rfl, hbu8⟩
  have Bu8 : Hid (Below w.heap.size w u8) := below_then (by repeat (first | (refine Below.setCell ?_ (by first | omega | (simp; done) | (simp; omega)) _) | (refine Below.alloc ?_ (by first | omega | (simp; done) | (simp; omega)) _) | (refine below_dn ?_ _) | exact Below.refl _ _ | exact Bu7.out)) hbu8
  have zu8 := hbu8.size
  try simp at zu8
  have qu8_0 : u2.heap.size < u8.heap.size := by omega
  have qu8_1 : u3.heap.size < u8.heap.size := by omega
  have qu8_2 : u4.heap.size < u8.heap.size := by omega
  have cu8_0_0 := hbu8.cell (p := ⟨u2.heap.size, 0, none⟩) (by first | (simp; done) | (simp; omega))
  simp (disch := first | (simp; done) | (simp; omega)) [go_sem, cu7_0_0] at cu8_0_0
  clear cu7_0_0
  have cu8_0_1 := hbu8.cell (p := ⟨u2.heap.size, 1, none⟩) (by first | (simp; done) | (simp; omega))
  simp (disch := first | (simp; done) | (simp; omega)) [go_sem, cu7_0_1] at cu8_0_1
  clear cu7_0_1
  have cu8_0_2 := hbu8.cell (p := ⟨u2.heap.size, 2, none⟩) (by first | (simp; done) | (simp; omega))
  simp (disch := first | (simp; done) | (simp; omega)) [go_sem, cu7_0_2] at cu8_0_2
  clear cu7_0_2
  have cu8_0_3 := hbu8.cell (p := ⟨u2.heap.size, 3, none⟩) (by first | (simp; done) | (simp; omega))
  simp (disch := first | (simp; done) | (simp; omega)) [go_sem, cu7_0_3] at cu8_0_3
  clear cu7_0_3
  have cu8_0_4 := hbu8.cell (p := ⟨u2.heap.size, 4, none⟩) (by first | (simp; done) | (simp; omega))
  simp (disch := first | (simp; done) | (simp; omega)) [go_sem, cu7_0_4] at cu8_0_4
  clear cu7_0_4
  have cu8_1_0 := hbu8.cell (p := ⟨u3.heap.size, 0, none⟩) (by first | (simp; done) | (simp; omega))
  simp (disch := first | (simp; done) | (simp; omega)) [go_sem, cu7_1_0] at cu8_1_0
  clear cu7_1_0
  have cu8_1_1 := hbu8.cell (p := ⟨u3.heap.size, 1, none⟩) (by first | (simp; done) | (simp; omega))
  simp (disch := first | (simp; done) | (simp; omega)) [go_sem, cu7_1_1] at cu8_1_1
  clear cu7_1_1
  have cu8_1_2 := hbu8.cell (p := ⟨u3.heap.size, 2, none⟩) (by first | (simp; done) | (simp; omega))
  simp (disch := first | (simp; done) | (simp; omega)) [go_sem, cu7_1_2] at cu8_1_2
  clear cu7_1_2
  have cu8_1_3 := hbu8.cell (p := ⟨u3.heap.size, 3, none⟩) (by first | (simp; done) | (simp; omega))
  simp (disch := first | (simp; done) | (simp; omega)) [go_sem, cu7_1_3] at cu8_1_3
  clear cu7_1_3
  have cu8_1_4 := hbu8.cell (p := ⟨u3.heap.size, 4, none⟩) (by first | (simp; done) | (simp; omega))
  simp (disch := first | (simp; done) | (simp; omega)) [go_sem, cu7_1_4] at cu8_1_4
  clear cu7_1_4
  have cu8_2_0 := hbu8.cell (p := ⟨u4.heap.size, 0, none⟩) (by first | (simp; done) | (simp; omega))
  simp (disch := first | (simp; done) | (simp; omega)) [go_sem, cu7_2_0] at cu8_2_0
  clear cu7_2_0
  have cu8_2_1 := hbu8.cell (p := ⟨u4.heap.size, 1, none⟩) (by first | (simp; done) | (simp; omega))
  simp (disch := first | (simp; done) | (simp; omega)) [go_sem, cu7_2_1] at cu8_2_1
  clear cu7_2_1
  have cu8_2_2 := hbu8.cell (p := ⟨u4.heap.size, 2, none⟩) (by first | (simp; done) | (simp; omega))
  simp (disch := first | (simp; done) | (simp; omega)) [go_sem, cu7_2_2] at cu8_2_2
  clear cu7_2_2
  have cu8_2_3 := hbu8.cell (p := ⟨u4.heap.size, 3, none⟩) (by first | (simp; done) | (simp; omega))
  simp (disch := first | (simp; done) | (simp; omega)) [go_sem, cu7_2_3] at cu8_2_3
  clear cu7_2_3
  have cu8_2_4 := hbu8.cell (p := ⟨u4.heap.size, 4, none⟩) (by first | (simp; done) | (simp; omega))
  simp (disch := first | (simp; done) | (simp; omega)) [go_sem, cu7_2_4] at cu8_2_4
  clear cu7_2_4
  clear hbu8
  go_wp2_with fail
  refine (HCs'.out _).mono ?_
  rintro e u9 ⟨rfl, hbu9⟩
  have Bu9 : Hid (Below w.heap.size w u9) := below_then (by repeat (first | (refine Below.setCell ?_ (by first | omega | (simp; done) | (simp; omega)) _) | (refine Below.alloc ?_ (by first | omega | (simp; done) | (simp; omega)) _) | (refine below_dn ?_ _) | exact Below.refl _ _ | exact Bu8.out)) hbu9
  have zu9 := hbu9.size
  try simp at zu9
  have qu9_0 : u2.heap.size < u9.heap.size := by omega
  have qu9_1 : u3.heap.size < u9.heap.size := by omega
  have qu9_2 : u4.heap.size < u9.heap.size := by omega
  have cu9_0_0 := hbu9.cell (p := ⟨u2.heap.size, 0, none⟩) (by first | (simp; done) | (simp; omega))
  simp (disch := first | (simp; done) | (simp; omega)) [go_sem, cu8_0_0] at cu9_0_0
  clear cu8_0_0
  have cu9_0_1 := hbu9.cell (p := ⟨u2.heap.size, 1, none⟩) (by first | (simp; done) | (simp; omega))
  simp (disch := first | (simp; done) | (simp; omega)) [go_sem, cu8_0_1] at cu9_0_1
  clear cu8_0_1
  have cu9_0_2 := hbu9.cell (p := ⟨u2.heap.size, 2, none⟩) (by first | (simp; done) | (simp; omega))
  simp (disch := first | (simp; done) | (simp; omega)) [go_sem, cu8_0_2] at cu9_0_2
  clear cu8_0_2
  have cu9_0_3 := hbu9.cell (p := ⟨u2.heap.size, 3, none⟩) (by first | (simp; done) | (simp; omega))
  simp (disch := first | (simp; done) | (simp; omega)) [go_sem, cu8_0_3] at cu9_0_3
  clear cu8_0_3
  have cu9_0_4 := hbu9.cell (p := ⟨u2.heap.size, 4, none⟩) (by first | (simp; done) | (simp; omega))
  simp (disch := first | (simp; done) | (simp; omega)) [go_sem, cu8_0_4] at cu9_0_4
  clear cu8_0_4
  have cu9_1_0 := hbu9.cell (p := ⟨u3.heap.size, 0, none⟩) (by first | (simp; done) | (simp; omega))
  simp (disch := first | (simp; done) | (simp; omega)) [go_sem, cu8_1_0] at cu9_1_0
  clear cu8_1_0
  have cu9_1_1 := hbu9.cell (p := ⟨u3.heap.size, 1, none⟩) (by first | (simp; done) | (simp; omega))
  simp (disch := first | (simp; done) | (simp; omega)) [go_sem, cu8_1_1] at cu9_1_1
  clear cu8_1_1
  have cu9_1_2 := hbu9.cell (p := ⟨u3.heap.size, 2, none⟩) (by first | (simp; done) | (simp; omega))
  simp (disch := first | (simp; done) | (simp; omega)) [go_sem, cu8_1_2] at cu9_1_2
  clear cu8_1_2
  have cu9_1_3 := hbu9.cell (p := ⟨u3.heap.size, 3, none⟩) (by first | (simp; done) | (simp; omega))
  simp (disch := first | (simp; done) | (simp; omega)) [go_sem, cu8_1_3] at cu9_1_3
  clear cu8_1_3
  have cu9_1_4 := hbu9.cell (p := ⟨u3.heap.size, 4, none⟩) (by first | (simp; done) | (simp; omega))
  simp (disch := first | (simp; done) | (simp; omega)) [go_sem, cu8_1_4] at cu9_1_4
  clear cu8_1_4
  have cu9_2_0 := hbu9.cell (p := ⟨u4.heap.size, 0, none⟩) (by first | (simp; done) | (simp; omega))
  simp (disch := first | (simp; done) | (simp; omega)) [go_sem, cu8_2_0] at cu9_2_0
  clear cu8_2_0
  have cu9_2_1 := hbu9.cell (p := ⟨u4.heap.size, 1, none⟩) (by first | (simp; done) | (simp; omega))
  simp (disch := first | (simp; done) | (simp; omega)) [go_sem, cu8_2_1] at cu9_2_1
  clear cu8_2_1
  have cu9_2_2 := hbu9.cell (p := ⟨u4.heap.size, 2, none⟩) (by first | (simp; done) | (simp; omega))
  simp (disch := first | (simp; done) | (simp; omega)) [go_sem, cu8_2_2] at cu9_2_2
  clear cu8_2_2
  have cu9_2_3 := hbu9.cell (p := ⟨u4.heap.size, 3, none⟩) (by first | (simp; done) | (simp; omega))
  simp (disch := first | (simp; done) | (simp; omega)) [go_sem, cu8_2_3] at cu9_2_3
  clear cu8_2_3
  have cu9_2_4 := hbu9.cell (p := ⟨u4.heap.size, 4, none⟩) (by first | (simp; done) | (simp; omega))
  simp (disch := first | (simp; done) | (simp; omega)) [go_sem, cu8_2_4] at cu9_2_4
  clear cu8_2_4
  clear hbu9
  go_wp2_with fail
  go_ret
  exact ⟨rfl, Bu9.out⟩

set_option maxRecDepth 100000 in
set_option maxHeartbeats 4000000 in
theorem core_true_in (a1 a2 a3 a4 : Int) (K : Nat) (S B r2 r3 T s2 s3 t2 t3 T2 D G C D2 G2 C2 x y u v N E : Int) (w : World) (hKl : (K : Int) < 10)
    (hS : wrap64 (2 ^ K) = S) (hS1 : 1 ≤ S) (hS2 : S ≤ 512) (eB : IntKind.u64.wrap (a2.tmod 1099511627776 * 16) = B) (hT : T < T2) (hT' : decide (T2 ≤ T) = false)
    (eD : IntKind.u64.wrap (2 * D) = D2) (eG : G2 = G) (eC : C2 = C)
    (hx0 : 0 ≤ x) (hx1 : x < 11) (hE : (E == 0) = true) (hv : IntKind.u64.wrap (v - u) = B) (eB0 : IntKind.u64.wrap B = B) (es2 : IntKind.u64.wrap (s2 - r2) = B) (es3 : IntKind.u64.wrap (s3 - r3) = B)
    (HK : a1 % 10 = (K : Int)) (Hx : a3 % 11 = x) (Hy : a4 % S = y)
    (HPr : ∀ w, Calls Try.prog 8 #[.bool true, .int .i64 S, .int .u64 0] w fun e w' => e = .returned (.tuple #[rV true S 0 r2 r3, .int .u64 T, .int .i64 0]) ∧ Below w.heap.size w w')
    (HPs : ∀ w, Calls Try.prog 8 #[.bool true, .int .i64 S, .int .u64 B] w fun e w' => e = .returned (.tuple #[rV true S B s2 s3, .int .u64 T, .int .i64 0]) ∧ Below w.heap.size w w')
    (HPt : ∀ w, Calls Try.prog 8 #[.bool true, .int .i64 (2 * S), .int .u64 0] w fun e w' => e = .returned (.tuple #[rV true (2 * S) 0 t2 t3, .int .u64 T2, .int .i64 0]) ∧ Below w.heap.size w w')
    (HQr : ∀ w, Calls Try.prog 16 #[rV true S 0 r2 r3] w fun e w' => e = .returned (.tuple #[.int .u64 D, .int .u64 G, .int .u64 C]) ∧ Below w.heap.size w w')
    (HQt : ∀ w, Calls Try.prog 16 #[rV true (2 * S) 0 t2 t3] w fun e w' => e = .returned (.tuple #[.int .u64 D2, .int .u64 G2, .int .u64 C2]) ∧ Below w.heap.size w w')
    (HWr : ∀ w, Calls Try.prog 9 #[rV true S 0 r2 r3, .int .i64 (1 + x), .int .i64 y] w fun e w' => e = .returned (.tuple #[.int .u64 u, .int .i64 N, .int .i64 E]) ∧ Below w.heap.size w w')
    (HWs : ∀ w, Calls Try.prog 9 #[rV true S B s2 s3, .int .i64 (1 + x), .int .i64 y] w fun e w' => e = .returned (.tuple #[.int .u64 v, .int .i64 N, .int .i64 E]) ∧ Below w.heap.size w w')
    (HCs : ∀ w, Calls Try.prog 13 #[rV true S B s2 s3] w fun e w' => e = .returned (.int .i64 0) ∧ Below w.heap.size w w') :
    Calls Try.prog 7 #[.bool true, .int .i64 a1, .int .u64 a2, .int .i64 a3, .int .i64 a4] w fun e w' => e = .returned (.bool true) ∧ Below w.heap.size w w' := by
  have HPr' := hid_mk HPr
  have HPs' := hid_mk HPs
  have HPt' := hid_mk HPt
  have HQr' := hid_mk HQr
  have HQt' := hid_mk HQt
  have HWr' := hid_mk HWr
  have HWs' := hid_mk HWs
  have HCs' := hid_mk HCs
  have HK' := hid_mk HK
  have Hx' := hid_mk Hx
  have Hy' := hid_mk Hy
  clear HPr HPs HPt HQr HQt HWr HWs HCs HK Hx Hy
  go_enter Try.func7, Try.ntmps7
  go_wp2_with fail
  refine (lives_any _).mono ?_
  rintro e u1 ⟨rfl, hbu1⟩
  have Bu1 : Hid (Below w.heap.size w u1) := below_then (by repeat (first | (refine Below.setCell ?_ (by first | omega | (simp; done) | (simp; omega)) _) | (refine Below.alloc ?_ (by first | omega | (simp; done) | (simp; omega)) _) | (refine below_dn ?_ _) | exact Below.refl _ _)) hbu1
  have zu1 := hbu1.size
  try simp at zu1
  clear hbu1
  go_wp2_with fail
  refine (pick_at _ _ _ _ (by omega) (by omega) HK'.out).mono ?_
  rintro e w' ⟨rfl, rfl⟩
  go_wp2_with fail
  refine (HPr'.out _).mono ?_
  rintro e u2 ⟨rfl, hbu2⟩
  have Bu2 : Hid (Below w.heap.size w u2) := below_then (by repeat (first | (refine Below.setCell ?_ (by first | omega | (simp; done) | (simp; omega)) _) | (refine Below.alloc ?_ (by first | omega | (simp; done) | (simp; omega)) _) | (refine below_dn ?_ _) | exact Below.refl _ _ | exact Bu1.out)) hbu2
  have zu2 := hbu2.size
  try simp at zu2
  clear hbu2
  go_wp2_with fail
  refine (HPs'.out _).mono ?_
  rintro e u3 ⟨rfl, hbu3⟩
  have Bu3 : Hid (Below w.heap.size w u3) := below_then (by repeat (first | (refine Below.setCell ?_ (by first | omega | (simp; done) | (simp; omega)) _) | (refine Below.alloc ?_ (by first | omega | (simp; done) | (simp; omega)) _) | (refine below_dn ?_ _) | exact Below.refl _ _ | exact Bu2.out)) hbu3
  have zu3 := hbu3.size
  try simp at zu3
  have qu3_0 : u2.heap.size < u3.heap.size := by omega
  have cu3_0_0 := hbu3.cell (p := ⟨u2.heap.size, 0, none⟩) (by first | (simp; done) | (simp; omega))
  simp (disch := first | (simp; done) | (simp; omega)) [go_sem] at cu3_0_0
  have cu3_0_1 := hbu3.cell (p := ⟨u2.heap.size, 1, none⟩) (by first | (simp; done) | (simp; omega))
  simp (disch := first | (simp; done) | (simp; omega)) [go_sem] at cu3_0_1
  have cu3_0_2 := hbu3.cell (p := ⟨u2.heap.size, 2, none⟩) (by first | (simp; done) | (simp; omega))
  simp (disch := first | (simp; done) | (simp; omega)) [go_sem] at cu3_0_2
  have cu3_0_3 := hbu3.cell (p := ⟨u2.heap.size, 3, none⟩) (by first | (simp; done) | (simp; omega))
  simp (disch := first | (simp; done) | (simp; omega)) [go_sem] at cu3_0_3
  have cu3_0_4 := hbu3.cell (p := ⟨u2.heap.size, 4, none⟩) (by first | (simp; done) | (simp; omega))
  simp (disch := first | (simp; done) | (simp; omega)) [go_sem] at cu3_0_4
  clear hbu3
  go_wp2_with fail
  refine (HPt'.out _).mono ?_
  rintro e u4 ⟨rfl, hbu4⟩
  have Bu4 : Hid (Below w.heap.size w u4) := below_then (by repeat (first | (refine Below.setCell ?_ (by first | omega | (simp; done) | (simp; omega)) _) | (refine Below.alloc ?_ (by first | omega | (simp; done) | (simp; omega)) _) | (refine below_dn ?_ _) | exact Below.refl _ _ | exact Bu3.out)) hbu4
  have zu4 := hbu4.size
  try simp at zu4
  have qu4_0 : u2.heap.size < u4.heap.size := by omega
  have qu4_1 : u3.heap.size < u4.heap.size := by omega
  have cu4_0_0 := hbu4.cell (p := ⟨u2.heap.size, 0, none⟩) (by first | (simp; done) | (simp; omega))
  simp (disch := first | (simp; done) | (simp; omega)) [go_sem, cu3_0_0] at cu4_0_0
  clear cu3_0_0
  have cu4_0_1 := hbu4.cell (p := ⟨u2.heap.size, 1, none⟩) (by first | (simp; done) | (simp; omega))
  simp (disch := first | (simp; done) | (simp; omega)) [go_sem, cu3_0_1] at cu4_0_1
  clear cu3_0_1
  have cu4_0_2 := hbu4.cell (p := ⟨u2.heap.size, 2, none⟩) (by first | (simp; done) | (simp; omega))
  simp (disch := first | (simp; done) | (simp; omega)) [go_sem, cu3_0_2] at cu4_0_2
  clear cu3_0_2
  have cu4_0_3 := hbu4.cell (p := ⟨u2.heap.size, 3, none⟩) (by first | (simp; done) | (simp; omega))
  simp (disch := first | (simp; done) | (simp; omega)) [go_sem, cu3_0_3] at cu4_0_3
  clear cu3_0_3
  have cu4_0_4 := hbu4.cell (p := ⟨u2.heap.size, 4, none⟩) (by first | (simp; done) | (simp; omega))
  simp (disch := first | (simp; done) | (simp; omega)) [go_sem, cu3_0_4] at cu4_0_4
  clear cu3_0_4
  have cu4_1_0 := hbu4.cell (p := ⟨u3.heap.size, 0, none⟩) (by first | (simp; done) | (simp; omega))
  simp (disch := first | (simp; done) | (simp; omega)) [go_sem] at cu4_1_0
  have cu4_1_1 := hbu4.cell (p := ⟨u3.heap.size, 1, none⟩) (by first | (simp; done) | (simp; omega))
  simp (disch := first | (simp; done) | (simp; omega)) [go_sem] at cu4_1_1
  have cu4_1_2 := hbu4.cell (p := ⟨u3.heap.size, 2, none⟩) (by first | (simp; done) | (simp; omega))
  simp (disch := first | (simp; done) | (simp; omega)) [go_sem] at cu4_1_2
  have cu4_1_3 := hbu4.cell (p := ⟨u3.heap.size, 3, none⟩) (by first | (simp; done) | (simp; omega))
  simp (disch := first | (simp; done) | (simp; omega)) [go_sem] at cu4_1_3
  have cu4_1_4 := hbu4.cell (p := ⟨u3.heap.size, 4, none⟩) (by first | (simp; done) | (simp; omega))
  simp (disch := first | (simp; done) | (simp; omega)) [go_sem] at cu4_1_4
  clear hbu4
  go_wp2_with fail
  refine (HQr'.out _).mono ?_
  rintro e u5 ⟨rfl, hbu5⟩
  have Bu5 : Hid (Below w.heap.size w u5) := below_then (by repeat (first | (refine Below.setCell ?_ (by first | omega | (simp; done) | (simp; omega)) _) | (refine Below.alloc ?_ (by first | omega | (simp; done) | (simp; omega)) _) | (refine below_dn ?_ _) | exact Below.refl _ _ | exact Bu4.out)) hbu5
  have zu5 := hbu5.size
  try simp at zu5
  have qu5_0 : u2.heap.size < u5.heap.size := by omega
  have qu5_1 : u3.heap.size < u5.heap.size := by omega
  have qu5_2 : u4.heap.size < u5.heap.size := by omega
  have cu5_0_0 := hbu5.cell (p := ⟨u2.heap.size, 0, none⟩) (by first | (simp; done) | (simp; omega))
  simp (disch := first | (simp; done) | (simp; omega)) [go_sem, cu4_0_0] at cu5_0_0
  clear cu4_0_0
  have cu5_0_1 := hbu5.cell (p := ⟨u2.heap.size, 1, none⟩) (by first | (simp; done) | (simp; omega))
  simp (disch := first | (simp; done) | (simp; omega)) [go_sem, cu4_0_1] at cu5_0_1
  clear cu4_0_1
  have cu5_0_2 := hbu5.cell (p := ⟨u2.heap.size, 2, none⟩) (by first | (simp; done) | (simp; omega))
  simp (disch := first | (simp; done) | (simp; omega)) [go_sem, cu4_0_2] at cu5_0_2
  clear cu4_0_2
  have cu5_0_3 := hbu5.cell (p := ⟨u2.heap.size, 3, none⟩) (by first | (simp; done) | (simp; omega))
  simp (disch := first | (simp; done) | (simp; omega)) [go_sem, cu4_0_3] at cu5_0_3
  clear cu4_0_3
  have cu5_0_4 := hbu5.cell (p := ⟨u2.heap.size, 4, none⟩) (by first | (simp; done) | (simp; omega))
  simp (disch := first | (simp; done) | (simp; omega)) [go_sem, cu4_0_4] at cu5_0_4
  clear cu4_0_4
  have cu5_1_0 := hbu5.cell (p := ⟨u3.heap.size, 0, none⟩) (by first | (simp; done) | (simp; omega))
  simp (disch := first | (simp; done) | (simp; omega)) [go_sem, cu4_1_0] at cu5_1_0
  clear cu4_1_0
  have cu5_1_1 := hbu5.cell (p := ⟨u3.heap.size, 1, none⟩) (by first | (simp; done) | (simp; omega))
  simp (disch := first | (simp; done) | (simp; omega)) [go_sem, cu4_1_1] at cu5_1_1
  clear cu4_1_1
  have cu5_1_2 := hbu5.cell (p := ⟨u3.heap.size, 2, none⟩) (by first | (simp; done) | (simp; omega))
  simp (disch := first | (simp; done) | (simp; omega)) [go_sem, cu4_1_2] at cu5_1_2
  clear cu4_1_2
  have cu5_1_3 := hbu5.cell (p := ⟨u3.heap.size, 3, none⟩) (by first | (simp; done) | (simp; omega))
  simp (disch := first | (simp; done) | (simp; omega)) [go_sem, cu4_1_3] at cu5_1_3
  clear cu4_1_3
  have cu5_1_4 := hbu5.cell (p := ⟨u3.heap.size, 4, none⟩) (by first | (simp; done) | (simp; omega))
  simp (disch := first | (simp; done) | (simp; omega)) [go_sem, cu4_1_4] at cu5_1_4
  clear cu4_1_4
  have cu5_2_0 := hbu5.cell (p := ⟨u4.heap.size, 0, none⟩) (by first | (simp; done) | (simp; omega))
  simp (disch := first | (simp; done) | (simp; omega)) [go_sem] at cu5_2_0
  have cu5_2_1 := hbu5.cell (p := ⟨u4.heap.size, 1, none⟩) (by first | (simp; done) | (simp; omega))
  simp (disch := first | (simp; done) | (simp; omega)) [go_sem] at cu5_2_1
  have cu5_2_2 := hbu5.cell (p := ⟨u4.heap.size, 2, none⟩) (by first | (simp; done) | (simp; omega))
  simp (disch := first | (simp; done) | (simp; omega)) [go_sem] at cu5_2_2
  have cu5_2_3 := hbu5.cell (p := ⟨u4.heap.size, 3, none⟩) (by first | (simp; done) | (simp; omega))
  simp (disch := first | (simp; done) | (simp; omega)) [go_sem] at cu5_2_3
  have cu5_2_4 := hbu5.cell (p := ⟨u4.heap.size, 4, none⟩) (by first | (simp; done) | (simp; omega))
  simp (disch := first | (simp; done) | (simp; omega)) [go_sem] at cu5_2_4
  clear hbu5
  go_wp2_with fail
  refine (HQt'.out _).mono ?_
  rintro e u6 ⟨rfl, hbu6⟩
  have Bu6 : Hid (Below w.heap.size w u6) := below_then (by repeat (first | (refine Below.setCell ?_ (by first | omega | (simp; done) | (simp; omega)) _) | (refine Below.alloc ?_ (by first | omega | (simp; done) | (simp; omega)) _) | (refine below_dn ?_ _) | exact Below.refl _ _ | exact Bu5.out)) hbu6
  have zu6 := hbu6.size
  try simp at zu6
  have qu6_0 : u2.heap.size < u6.heap.size := by omega
  have qu6_1 : u3.heap.size < u6.heap.size := by omega
  have qu6_2 : u4.heap.size < u6.heap.size := by omega
  have cu6_0_0 := hbu6.cell (p := ⟨u2.heap.size, 0, none⟩) (by first | (simp; done) | (simp; omega))
  simp (disch := first | (simp; done) | (simp; omega)) [go_sem, cu5_0_0] at cu6_0_0
  clear cu5_0_0
  have cu6_0_1 := hbu6.cell (p := ⟨u2.heap.size, 1, none⟩) (by first | (simp; done) | (simp; omega))
  simp (disch := first | (simp; done) | (simp; omega)) [go_sem, cu5_0_1] at cu6_0_1
  clear cu5_0_1
  have cu6_0_2 := hbu6.cell (p := ⟨u2.heap.size, 2, none⟩) (by first | (simp; done) | (simp; omega))
  simp (disch := first | (simp; done) | (simp; omega)) [go_sem, cu5_0_2] at cu6_0_2
  clear cu5_0_2
  have cu6_0_3 := hbu6.cell (p := ⟨u2.heap.size, 3, none⟩) (by first | (simp; done) | (simp; omega))
  simp (disch := first | (simp; done) | (simp; omega)) [go_sem, cu5_0_3] at cu6_0_3
  clear cu5_0_3
  have cu6_0_4 := hbu6.cell (p := ⟨u2.heap.size, 4, none⟩) (by first | (simp; done) | (simp; omega))
  simp (disch := first | (simp; done) | (simp; omega)) [go_sem, cu5_0_4] at cu6_0_4
  clear cu5_0_4
  have cu6_1_0 := hbu6.cell (p := ⟨u3.heap.size, 0, none⟩) (by first | (simp; done) | (simp; omega))
  simp (disch := first | (simp; done) | (simp; omega)) [go_sem, cu5_1_0] at cu6_1_0
  clear cu5_1_0
  have cu6_1_1 := hbu6.cell (p := ⟨u3.heap.size, 1, none⟩) (by first | (simp; done) | (simp; omega))
  simp (disch := first | (simp; done) | (simp; omega)) [go_sem, cu5_1_1] at cu6_1_1
  clear cu5_1_1
  have cu6_1_2 := hbu6.cell (p := ⟨u3.heap.size, 2, none⟩) (by first | (simp; done) | (simp; omega))
  simp (disch := first | (simp; done) | (simp; omega)) [go_sem, cu5_1_2] at cu6_1_2
  clear cu5_1_2
  have cu6_1_3 := hbu6.cell (p := ⟨u3.heap.size, 3, none⟩) (by first | (simp; done) | (simp; omega))
  simp (disch := first | (simp; done) | (simp; omega)) [go_sem, cu5_1_3] at cu6_1_3
  clear cu5_1_3
  have cu6_1_4 := hbu6.cell (p := ⟨u3.heap.size, 4, none⟩) (by first | (simp; done) | (simp; omega))
  simp (disch := first | (simp; done) | (simp; omega)) [go_sem, cu5_1_4] at cu6_1_4
  clear cu5_1_4
  have cu6_2_0 := hbu6.cell (p := ⟨u4.heap.size, 0, none⟩) (by first | (simp; done) | (simp; omega))
  simp (disch := first | (simp; done) | (simp; omega)) [go_sem, cu5_2_0] at cu6_2_0
  clear cu5_2_0
  have cu6_2_1 := hbu6.cell (p := ⟨u4.heap.size, 1, none⟩) (by first | (simp; done) | (simp; omega))
  simp (disch := first | (simp; done) | (simp; omega)) [go_sem, cu5_2_1] at cu6_2_1
  clear cu5_2_1
  have cu6_2_2 := hbu6.cell (p := ⟨u4.heap.size, 2, none⟩) (by first | (simp; done) | (simp; omega))
  simp (disch := first | (simp; done) | (simp; omega)) [go_sem, cu5_2_2] at cu6_2_2
  clear cu5_2_2
  have cu6_2_3 := hbu6.cell (p := ⟨u4.heap.size, 3, none⟩) (by first | (simp; done) | (simp; omega))
  simp (disch := first | (simp; done) | (simp; omega)) [go_sem, cu5_2_3] at cu6_2_3
  clear cu5_2_3
  have cu6_2_4 := hbu6.cell (p := ⟨u4.heap.size, 4, none⟩) (by first | (simp; done) | (simp; omega))
  simp (disch := first | (simp; done) | (simp; omega)) [go_sem, cu5_2_4] at cu6_2_4
  clear cu5_2_4
  clear hbu6
  go_wp2_with fail
  refine (pick_at _ _ _ _ (by omega) (by omega) Hx'.out).mono ?_
  rintro e w' ⟨rfl, rfl⟩
  go_wp2_with fail
  refine (pick_at _ _ _ _ (by omega) (by omega) Hy'.out).mono ?_
  rintro e w' ⟨rfl, rfl⟩
  go_wp2_with fail
  refine (HWr'.out _).mono ?_
  rintro e u7 ⟨rfl, hbu7⟩
  have Bu7 : Hid (Below w.heap.size w u7) := below_then (by repeat (first | (refine Below.setCell ?_ (by first | omega | (simp; done) | (simp; omega)) _) | (refine Below.alloc ?_ (by first | omega | (simp; done) | (simp; omega)) _) | (refine below_dn ?_ _) | exact Below.refl _ _ | exact Bu6.out)) hbu7
  have zu7 := hbu7.size
  try simp at zu7
  have qu7_0 : u2.heap.size < u7.heap.size := by omega
  have qu7_1 : u3.heap.size < u7.heap.size := by omega
  have qu7_2 : u4.heap.size < u7.heap.size := by omega
  have cu7_0_0 := hbu7.cell (p := ⟨u2.heap.size, 0, none⟩) (by first | (simp; done) | (simp; omega))
  simp (disch := first | (simp; done) | (simp; omega)) [go_sem, cu6_0_0] at cu7_0_0
  clear cu6_0_0
  have cu7_0_1 := hbu7.cell (p := ⟨u2.heap.size, 1, none⟩) (by first | (simp; done) | (simp; omega))
  simp (disch := first | (simp; done) | (simp; omega)) [go_sem, cu6_0_1] at cu7_0_1
  clear cu6_0_1
  have cu7_0_2 := hbu7.cell (p := ⟨u2.heap.size, 2, none⟩) (by first | (simp; done) | (simp; omega))
  simp (disch := first | (simp; done) | (simp; omega)) [go_sem, cu6_0_2] at cu7_0_2
  clear cu6_0_2
  have cu7_0_3 := hbu7.cell (p := ⟨u2.heap.size, 3, none⟩) (by first | (simp; done) | (simp; omega))
  simp (disch := first | (simp; done) | (simp; omega)) [go_sem, cu6_0_3] at cu7_0_3
  clear cu6_0_3
  have cu7_0_4 := hbu7.cell (p := ⟨u2.heap.size, 4, none⟩) (by first | (simp; done) | (simp; omega))
  simp (disch := first | (simp; done) | (simp; omega)) [go_sem, cu6_0_4] at cu7_0_4
  clear cu6_0_4
  have cu7_1_0 := hbu7.cell (p := ⟨u3.heap.size, 0, none⟩) (by first | (simp; done) | (simp; omega))
  simp (disch := first | (simp; done) | (simp; omega)) [go_sem, cu6_1_0] at cu7_1_0
  clear cu6_1_0
  have cu7_1_1 := hbu7.cell (p := ⟨u3.heap.size, 1, none⟩) (by first | (simp; done) | (simp; omega))
  simp (disch := first | (simp; done) | (simp; omega)) [go_sem, cu6_1_1] at cu7_1_1
  clear cu6_1_1
  have cu7_1_2 := hbu7.cell (p := ⟨u3.heap.size, 2, none⟩) (by first | (simp; done) | (simp; omega))
  simp (disch := first | (simp; done) | (simp; omega)) [go_sem, cu6_1_2] at cu7_1_2
  clear cu6_1_2
  have cu7_1_3 := hbu7.cell (p := ⟨u3.heap.size, 3, none⟩) (by first | (simp; done) | (simp; omega))
  simp (disch := first | (simp; done) | (simp; omega)) [go_sem, cu6_1_3] at cu7_1_3
  clear cu6_1_3
  have cu7_1_4 := hbu7.cell (p := ⟨u3.heap.size, 4, none⟩) (by first | (simp; done) | (simp; omega))
  simp (disch := first | (simp; done) | (simp; omega)) [go_sem, cu6_1_4] at cu7_1_4
  clear cu6_1_4
  have cu7_2_0 := hbu7.cell (p := ⟨u4.heap.size, 0, none⟩) (by first | (simp; done) | (simp; omega))
  simp (disch := first | (simp; done) | (simp; omega)) [go_sem, cu6_2_0] at cu7_2_0
  clear cu6_2_0
  have cu7_2_1 := hbu7.cell (p := ⟨u4.heap.size, 1, none⟩) (by first | (simp; done) | (simp; omega))
  simp (disch := first | (simp; done) | (simp; omega)) [go_sem, cu6_2_1] at cu7_2_1
  clear cu6_2_1
  have cu7_2_2 := hbu7.cell (p := ⟨u4.heap.size, 2, none⟩) (by first | (simp; done) | (simp; omega))
  simp (disch := first | (simp; done) | (simp; omega)) [go_sem, cu6_2_2] at cu7_2_2
  clear cu6_2_2
  have cu7_2_3 := hbu7.cell (p := ⟨u4.heap.size, 3, none⟩) (by first | (simp; done) | (simp; omega))
  simp (disch := first | (simp; done) | (simp; omega)) [go_sem, cu6_2_3] at cu7_2_3
  clear cu6_2_3
  have cu7_2_4 := hbu7.cell (p := ⟨u4.heap.size, 4, none⟩) (by first | (simp; done) | (simp; omega))
  simp (disch := first | (simp; done) | (simp; omega)) [go_sem, cu6_2_4] at cu7_2_4
  clear cu6_2_4
  clear hbu7
  go_wp2_with fail
  refine (HWs'.out _).mono ?_
  rintro e u8 ⟨rfl, hbu8⟩
  have Bu8 : Hid (Below w.heap.size w u8) := below_then (by repeat (first | (refine Below.setCell ?_ (by first | omega | (simp; done) | (simp; omega)) _) | (refine Below.alloc ?_ (by first | omega | (simp; done) | (simp; omega)) _) | (refine below_dn ?_ _) | exact Below.refl _ _ | exact Bu7.out)) hbu8
  have zu8 := hbu8.size
  try simp at zu8
  have qu8_0 : u2.heap.size < u8.heap.size := by omega
  have qu8_1 : u3.heap.size < u8.heap.size := by omega
  have qu8_2 : u4.heap.size < u8.heap.size := by omega
  have cu8_0_0 := hbu8.cell (p := ⟨u2.heap.size, 0, none⟩) (by first | (simp; done) | (simp; omega))
  simp (disch := first | (simp; done) | (simp; omega)) [go_sem, cu7_0_0] at cu8_0_0
  clear cu7_0_0
  have cu8_0_1 := hbu8.cell (p := ⟨u2.heap.size, 1, none⟩) (by first | (simp; done) | (simp; omega))
  simp (disch := first | (simp; done) | (simp; omega)) [go_sem, cu7_0_1] at cu8_0_1
  clear cu7_0_1
  have cu8_0_2 := hbu8.cell (p := ⟨u2.heap.size, 2, none⟩) (by first | (simp; done) | (simp; omega))
  simp (disch := first | (simp; done) | (simp; omega)) [go_sem, cu7_0_2] at cu8_0_2
  clear cu7_0_2
  have cu8_0_3 := hbu8.cell (p := ⟨u2.heap.size, 3, none⟩) (by first | (simp; done) | (simp; omega))
  simp (disch := first | (simp; done) | (simp; omega)) [go_sem, cu7_0_3] at cu8_0_3
  clear cu7_0_3
  have cu8_0_4 := hbu8.cell (p := ⟨u2.heap.size, 4, none⟩) (by first | (simp; done) | (simp; omega))
  simp (disch := first | (simp; done) | (simp; omega)) [go_sem, cu7_0_4] at cu8_0_4
  clear cu7_0_4
  have cu8_1_0 := hbu8.cell (p := ⟨u3.heap.size, 0, none⟩) (by first | (simp; done) | (simp; omega))
  simp (disch := first | (simp; done) | (simp; omega)) [go_sem, cu7_1_0] at cu8_1_0
  clear cu7_1_0
  have cu8_1_1 := hbu8.cell (p := ⟨u3.heap.size, 1, none⟩) (by first | (simp; done) | (simp; omega))
  simp (disch := first | (simp; done) | (simp; omega)) [go_sem, cu7_1_1] at cu8_1_1
  clear cu7_1_1
  have cu8_1_2 := hbu8.cell (p := ⟨u3.heap.size, 2, none⟩) (by first | (simp; done) | (simp; omega))
  simp (disch := first | (simp; done) | (simp; omega)) [go_sem, cu7_1_2] at cu8_1_2
  clear cu7_1_2
  have cu8_1_3 := hbu8.cell (p := ⟨u3.heap.size, 3, none⟩) (by first | (simp; done) | (simp; omega))
  simp (disch := first | (simp; done) | (simp; omega)) [go_sem, cu7_1_3] at cu8_1_3
  clear cu7_1_3
  have cu8_1_4 := hbu8.cell (p := ⟨u3.heap.size, 4, none⟩) (by first | (simp; done) | (simp; omega))
  simp (disch := first | (simp; done) | (simp; omega)) [go_sem, cu7_1_4] at cu8_1_4
  clear cu7_1_4
  have cu8_2_0 := hbu8.cell (p := ⟨u4.heap.size, 0, none⟩) (by first | (simp; done) | (simp; omega))
  simp (disch := first | (simp; done) | (simp; omega)) [go_sem, cu7_2_0] at cu8_2_0
  clear cu7_2_0
  have cu8_2_1 := hbu8.cell (p := ⟨u4.heap.size, 1, none⟩) (by first | (simp; done) | (simp; omega))
  simp (disch := first | (simp; done) | (simp; omega)) [go_sem, cu7_2_1] at cu8_2_1
  clear cu7_2_1
  have cu8_2_2 := hbu8.cell (p := ⟨u4.heap.size, 2, none⟩) (by first | (simp; done) | (simp; omega))
  simp (disch := first | (simp; done) | (simp; omega)) [go_sem, cu7_2_2] at cu8_2_2
  clear cu7_2_2
  have cu8_2_3 := hbu8.cell (p := ⟨u4.heap.size, 3, none⟩) (by first | (simp; done) | (simp; omega))
  simp (disch := first | (simp; done) | (simp; omega)) [go_sem, cu7_2_3] at cu8_2_3
  clear cu7_2_3
  have cu8_2_4 := hbu8.cell (p := ⟨u4.heap.size, 4, none⟩) (by first | (simp; done) | (simp; omega))
  simp (disch := first | (simp; done) | (simp; omega)) [go_sem, cu7_2_4] at cu8_2_4
  clear cu7_2_4
  clear hbu8
  go_wp2_with fail
  refine (HCs'.out _).mono ?_
  rintro e u9 ⟨rfl, hbu9⟩
  have Bu9 : Hid (Below w.heap.size w u9) := below_then (by repeat (first | (refine Below.setCell ?_ (by first | omega | (simp; done) | (simp; omega)) _) | (refine Below.alloc ?_ (by first | omega | (simp; done) | (simp; omega)) _) | (refine below_dn ?_ _) | exact Below.refl _ _ | exact Bu8.out)) hbu9
  have zu9 := hbu9.size
  try simp at zu9
  have qu9_0 : u2.heap.size < u9.heap.size := by omega
  have qu9_1 : u3.heap.size < u9.heap.size := by omega
  have qu9_2 : u4.heap.size < u9.heap.size := by omega
  have cu9_0_0 := hbu9.cell (p := ⟨u2.heap.size, 0, none⟩) (by first | (simp; done) | (simp; omega))
  simp (disch := first | (simp; done) | (simp; omega)) [go_sem, cu8_0_0] at cu9_0_0
  clear cu8_0_0
  have cu9_0_1 := hbu9.cell (p := ⟨u2.heap.size, 1, none⟩) (by first | (simp; done) | (simp; omega))
  simp (disch := first | (simp; done) | (simp; omega)) [go_sem, cu8_0_1] at cu9_0_1
  clear cu8_0_1
  have cu9_0_2 := hbu9.cell (p := ⟨u2.heap.size, 2, none⟩) (by first | (simp; done) | (simp; omega))
  simp (disch := first | (simp; done) | (simp; omega)) [go_sem, cu8_0_2] at cu9_0_2
  clear cu8_0_2
  have cu9_0_3 := hbu9.cell (p := ⟨u2.heap.size, 3, none⟩) (by first | (simp; done) | (simp; omega))
  simp (disch := first | (simp; done) | (simp; omega)) [go_sem, cu8_0_3] at cu9_0_3
  clear cu8_0_3
  have cu9_0_4 := hbu9.cell (p := ⟨u2.heap.size, 4, none⟩) (by first | (simp; done) | (simp; omega))
  simp (disch := first | (simp; done) | (simp; omega)) [go_sem, cu8_0_4] at cu9_0_4
  clear cu8_0_4
  have cu9_1_0 := hbu9.cell (p := ⟨u3.heap.size, 0, none⟩) (by first | (simp; done) | (simp; omega))
  simp (disch := first | (simp; done) | (simp; omega)) [go_sem, cu8_1_0] at cu9_1_0
  clear cu8_1_0
  have cu9_1_1 := hbu9.cell (p := ⟨u3.heap.size, 1, none⟩) (by first | (simp; done) | (simp; omega))
  simp (disch := first | (simp; done) | (simp; omega)) [go_sem, cu8_1_1] at cu9_1_1
  clear cu8_1_1
  have cu9_1_2 := hbu9.cell (p := ⟨u3.heap.size, 2, none⟩) (by first | (simp; done) | (simp; omega))
  simp (disch := first | (simp; done) | (simp; omega)) [go_sem, cu8_1_2] at cu9_1_2
  clear cu8_1_2
  have cu9_1_3 := hbu9.cell (p := ⟨u3.heap.size, 3, none⟩) (by first | (simp; done) | (simp; omega))
  simp (disch := first | (simp; done) | (simp; omega)) [go_sem, cu8_1_3] at cu9_1_3
  clear cu8_1_3
  have cu9_1_4 := hbu9.cell (p := ⟨u3.heap.size, 4, none⟩) (by first | (simp; done) | (simp; omega))
  simp (disch := first | (simp; done) | (simp; omega)) [go_sem, cu8_1_4] at cu9_1_4
  clear cu8_1_4
  have cu9_2_0 := hbu9.cell (p := ⟨u4.heap.size, 0, none⟩) (by first | (simp; done) | (simp; omega))
  simp (disch := first | (simp; done) | (simp; omega)) [go_sem, cu8_2_0] at cu9_2_0
  clear cu8_2_0
  have cu9_2_1 := hbu9.cell (p := ⟨u4.heap.size, 1, none⟩) (by first | (simp; done) | (simp; omega))
  simp (disch := first | (simp; done) | (simp; omega)) [go_sem, cu8_2_1] at cu9_2_1
  clear cu8_2_1
  have cu9_2_2 := hbu9.cell (p := ⟨u4.heap.size, 2, none⟩) (by first | (simp; done) | (simp; omega))
  simp (disch := first | (simp; done) | (simp; omega)) [go_sem, cu8_2_2] at cu9_2_2
  clear cu8_2_2
  have cu9_2_3 := hbu9.cell (p := ⟨u4.heap.size, 3, none⟩) (by first | (simp; done) | (simp; omega))
  simp (disch := first | (simp; done) | (simp; omega)) [go_sem, cu8_2_3] at cu9_2_3
  clear cu8_2_3
  have cu9_2_4 := hbu9.cell (p := ⟨u4.heap.size, 4, none⟩) (by first | (simp; done) | (simp; omega))
  simp (disch := first | (simp; done) | (simp; omega)) [go_sem, cu8_2_4] at cu9_2_4
  clear cu8_2_4
  clear hbu9
  go_wp2_with fail
  go_ret
  exact ⟨rfl, Bu9.out⟩

set_option maxRecDepth 100000 in
set_option maxHeartbeats 4000000 in
theorem core_true_out (a1 a2 a3 a4 : Int) (K : Nat) (S B r2 r3 T s2 s3 t2 t3 T2 D G C D2 G2 C2 x y u v N E : Int) (w : World) (hKl : (K : Int) < 10)
    (hS : wrap64 (2 ^ K) = S) (hS1 : 1 ≤ S) (hS2 : S ≤ 512) (eB : IntKind.u64.wrap (a2.tmod 1099511627776 * 16) = B) (hT : T < T2) (hT' : decide (T2 ≤ T) = false)
    (eD : IntKind.u64.wrap (2 * D) = D2) (eG : G2 = G) (eC : C2 = C)
    (hx0 : 0 ≤ x) (hx1 : x < 11) (hE : (E == 0) = false) (eB0 : IntKind.u64.wrap B = B) (es2 : IntKind.u64.wrap (s2 - r2) = B) (es3 : IntKind.u64.wrap (s3 - r3) = B)
    (HK : a1 % 10 = (K : Int)) (Hx : a3 % 11 = x) (Hy : a4 % S = y)
    (HPr : ∀ w, Calls Try.prog 8 #[.bool true, .int .i64 S, .int .u64 0] w fun e w' => e = .returned (.tuple #[rV true S 0 r2 r3, .int .u64 T, .int .i64 0]) ∧ Below w.heap.size w w')
    (HPs : ∀ w, Calls Try.prog 8 #[.bool true, .int .i64 S, .int .u64 B] w fun e w' => e = .returned (.tuple #[rV true S B s2 s3, .int .u64 T, .int .i64 0]) ∧ Below w.heap.size w w')
    (HPt : ∀ w, Calls Try.prog 8 #[.bool true, .int .i64 (2 * S), .int .u64 0] w fun e w' => e = .returned (.tuple #[rV true (2 * S) 0 t2 t3, .int .u64 T2, .int .i64 0]) ∧ Below w.heap.size w w')
    (HQr : ∀ w, Calls Try.prog 16 #[rV true S 0 r2 r3] w fun e w' => e = .returned (.tuple #[.int .u64 D, .int .u64 G, .int .u64 C]) ∧ Below w.heap.size w w')
    (HQt : ∀ w, Calls Try.prog 16 #[rV true (2 * S) 0 t2 t3] w fun e w' => e = .returned (.tuple #[.int .u64 D2, .int .u64 G2, .int .u64 C2]) ∧ Below w.heap.size w w')
    (HWr : ∀ w, Calls Try.prog 9 #[rV true S 0 r2 r3, .int .i64 (1 + x), .int .i64 y] w fun e w' => e = .returned (.tuple #[.int .u64 u, .int .i64 N, .int .i64 E]) ∧ Below w.heap.size w w')
    (HWs : ∀ w, Calls Try.prog 9 #[rV true S B s2 s3, .int .i64 (1 + x), .int .i64 y] w fun e w' => e = .returned (.tuple #[.int .u64 v, .int .i64 N, .int .i64 E]) ∧ Below w.heap.size w w')
    (HCs : ∀ w, Calls Try.prog 13 #[rV true S B s2 s3] w fun e w' => e = .returned (.int .i64 0) ∧ Below w.heap.size w w') :
    Calls Try.prog 7 #[.bool true, .int .i64 a1, .int .u64 a2, .int .i64 a3, .int .i64 a4] w fun e w' => e = .returned (.bool true) ∧ Below w.heap.size w w' := by
  have HPr' := hid_mk HPr
  have HPs' := hid_mk HPs
  have HPt' := hid_mk HPt
  have HQr' := hid_mk HQr
  have HQt' := hid_mk HQt
  have HWr' := hid_mk HWr
  have HWs' := hid_mk HWs
  have HCs' := hid_mk HCs
  have HK' := hid_mk HK
  have Hx' := hid_mk Hx
  have Hy' := hid_mk Hy
  clear HPr HPs HPt HQr HQt HWr HWs HCs HK Hx Hy
  go_enter Try.func7, Try.ntmps7
  go_wp2_with fail
  refine (lives_any _).mono ?_
  rintro e u1 ⟨rfl, hbu1⟩
  have Bu1 : Hid (Below w.heap.size w u1) := below_then (by repeat (first | (refine Below.setCell ?_ (by first | omega | (simp; done) | (simp; omega)) _) | (refine Below.alloc ?_ (by first | omega | (simp; done) | (simp; omega)) _) | (refine below_dn ?_ _) | exact Below.refl _ _)) hbu1
  have zu1 := hbu1.size
  try simp at zu1
  clear hbu1
  go_wp2_with fail
  refine (pick_at _ _ _ _ (by omega) (by omega) HK'.out).mono ?_
  rintro e w' ⟨rfl, rfl⟩
  go_wp2_with fail
  refine (HPr'.out _).mono ?_
  rintro e u2 ⟨rfl, hbu2⟩
  have Bu2 : Hid (Below w.heap.size w u2) := below_then (by repeat (first | (refine Below.setCell ?_ (by first | omega | (simp; done) | (simp; omega)) _) | (refine Below.alloc ?_ (by first | omega | (simp; done) | (simp; omega)) _) | (refine below_dn ?_ _) | exact Below.refl _ _ | exact Bu1.out)) hbu2
  have zu2 := hbu2.size
  try simp at zu2
  clear hbu2
  go_wp2_with fail
  refine (HPs'.out _).mono ?_
  rintro e u3 ⟨rfl, hbu3⟩
  have Bu3 : Hid (Below w.heap.size w u3) := below_then (by repeat (first | (refine Below.setCell ?_ (by first | omega | (simp; done) | (simp; omega)) _) | (refine Below.alloc ?_ (by first | omega | (simp; done) | (simp; omega)) _) | (refine below_dn ?_ _) | exact Below.refl _ _ | exact Bu2.out)) hbu3
  have zu3 := hbu3.size
  try simp at zu3
  have qu3_0 : u2.heap.size < u3.heap.size := by omega
  have cu3_0_0 := hbu3.cell (p := ⟨u2.heap.size, 0, none⟩) (by first | (simp; done) | (simp; omega))
  simp (disch := first | (simp; done) | (simp; omega)) [go_sem] at cu3_0_0
  have cu3_0_1 := hbu3.cell (p := ⟨u2.heap.size, 1, none⟩) (by first | (simp; done) | (simp; omega))
  simp (disch := first | (simp; done) | (simp; omega)) [go_sem] at cu3_0_1
  have cu3_0_2 := hbu3.cell (p := ⟨u2.heap.size, 2, none⟩) (by first | (simp; done) | (simp; omega))
  simp (disch := first | (simp; done) | (simp; omega)) [go_sem] at cu3_0_2
  have cu3_0_3 := hbu3.cell (p := ⟨u2.heap.size, 3, none⟩) (by first | (simp; done) | (simp; omega))
  simp (disch := first | (simp; done) | (simp; omega)) [go_sem] at cu3_0_3
  have cu3_0_4 := hbu3.cell (p := ⟨u2.heap.size, 4, none⟩) (by first | (simp; done) | (simp; omega))
  simp (disch := first | (simp; done) | (simp; omega)) [go_sem] at cu3_0_4
  clear hbu3
  go_wp2_with fail
  refine (HPt'.out _).mono ?_
  rintro e u4 ⟨rfl, hbu4⟩
  have Bu4 : Hid (Below w.heap.size w u4) := below_then (by repeat (first | (refine Below.setCell ?_ (by first | omega | (simp; done) | (simp; omega)) _) | (refine Below.alloc ?_ (by first | omega | (simp; done) | (simp; omega)) _) | (refine below_dn ?_ _) | exact Below.refl _ _ | exact Bu3.out)) hbu4
  have zu4 := hbu4.size
  try simp at zu4
  have qu4_0 : u2.heap.size < u4.heap.size := by omega
  have qu4_1 : u3.heap.size < u4.heap.size := by omega
  have cu4_0_0 := hbu4.cell (p := ⟨u2.heap.size, 0, none⟩) (by first | (simp; done) | (simp; omega))
  simp (disch := first | (simp; done) | (simp; omega)) [go_sem, cu3_0_0] at cu4_0_0
  clear cu3_0_0
  have cu4_0_1 := hbu4.cell (p := ⟨u2.heap.size, 1, none⟩) (by first | (simp; done) | (simp; omega))
  simp (disch := first | (simp; done) | (simp; omega)) [go_sem, cu3_0_1] at cu4_0_1
  clear cu3_0_1
  have cu4_0_2 := hbu4.cell (p := ⟨u2.heap.size, 2, none⟩) (by first | (simp; done) | (simp; omega))
  simp (disch := first | (simp; done) | (simp; omega)) [go_sem, cu3_0_2] at cu4_0_2
  clear cu3_0_2
  have cu4_0_3 := hbu4.cell (p := ⟨u2.heap.size, 3, none⟩) (by first | (simp; done) | (simp; omega))
  simp (disch := first | (simp; done) | (simp; omega)) [go_sem, cu3_0_3] at cu4_0_3
  clear cu3_0_3
  have cu4_0_4 := hbu4.cell (p := ⟨u2.heap.size, 4, none⟩) (by first | (simp; done) | (simp; omega))
  simp (disch := first | (simp; done) | (simp; omega)) [go_sem, cu3_0_4] at cu4_0_4
  clear cu3_0_4
  have cu4_1_0 := hbu4.cell (p := ⟨u3.heap.size, 0, none⟩) (by first | (simp; done) | (simp; omega))
  simp (disch := first | (simp; done) | (simp; omega)) [go_sem] at cu4_1_0
  have cu4_1_1 := hbu4.cell (p := ⟨u3.heap.size, 1, none⟩) (by first | (simp; done) | (simp; omega))
  simp (disch := first | (simp; done) | (simp; omega)) [go_sem] at cu4_1_1
  have cu4_1_2 := hbu4.cell (p := ⟨u3.heap.size, 2, none⟩) (by first | (simp; done) | (simp; omega))
  simp (disch := first | (simp; done) | (simp; omega)) [go_sem] at cu4_1_2
  have cu4_1_3 := hbu4.cell (p := ⟨u3.heap.size, 3, none⟩) (by first | (simp; done) | (simp; omega))
  simp (disch := first | (simp; done) | (simp; omega)) [go_sem] at cu4_1_3
  have cu4_1_4 := hbu4.cell (p := ⟨u3.heap.size, 4, none⟩) (by first | (simp; done) | (simp; omega))
  simp (disch := first | (simp; done) | (simp; omega)) [go_sem] at cu4_1_4
  clear hbu4
  go_wp2_with fail
  refine (HQr'.out _).mono ?_
  rintro e u5 ⟨rfl, hbu5⟩
  have Bu5 : Hid (Below w.heap.size w u5) := below_then (by repeat (first | (refine Below.setCell ?_ (by first | omega | (simp; done) | (simp; omega)) _) | (refine Below.alloc ?_ (by first | omega | (simp; done) | (simp; omega)) _) | (refine below_dn ?_ _) | exact Below.refl _ _ | exact Bu4.out)) hbu5
  have zu5 := hbu5.size
  try simp at zu5
  have qu5_0 : u2.heap.size < u5.heap.size := by omega
  have qu5_1 : u3.heap.size < u5.heap.size := by omega
  have qu5_2 : u4.heap.size < u5.heap.size := by omega
  have cu5_0_0 := hbu5.cell (p := ⟨u2.heap.size, 0, none⟩) (by first | (simp; done) | (simp; omega))
  simp (disch := first | (simp; done) | (simp; omega)) [go_sem, cu4_0_0] at cu5_0_0
  clear cu4_0_0
  have cu5_0_1 := hbu5.cell (p := ⟨u2.heap.size, 1, none⟩) (by first | (simp; done) | (simp; omega))
  simp (disch := first | (simp; done) | (simp; omega)) [go_sem, cu4_0_1] at cu5_0_1
  clear cu4_0_1
  have cu5_0_2 := hbu5.cell (p := ⟨u2.heap.size, 2, none⟩) (by first | (simp; done) | (simp; omega))
  simp (disch := first | (simp; done) | (simp; omega)) [go_sem, cu4_0_2] at cu5_0_2
  clear cu4_0_2
  have cu5_0_3 := hbu5.cell (p := ⟨u2.heap.size, 3, none⟩) (by first | (simp; done) | (simp; omega))
  simp (disch := first | (simp; done) | (simp; omega)) [go_sem, cu4_0_3] at cu5_0_3
  clear cu4_0_3
  have cu5_0_4 := hbu5.cell (p := ⟨u2.heap.size, 4, none⟩) (by first | (simp; done) | (simp; omega))
  simp (disch := first | (simp; done) | (simp; omega)) [go_sem, cu4_0_4] at cu5_0_4
  clear cu4_0_4
  have cu5_1_0 := hbu5.cell (p := ⟨u3.heap.size, 0, none⟩) (by first | (simp; done) | (simp; omega))
  simp (disch := first | (simp; done) | (simp; omega)) [go_sem, cu4_1_0] at cu5_1_0
  clear cu4_1_0
  have cu5_1_1 := hbu5.cell (p := ⟨u3.heap.size, 1, none⟩) (by first | (simp; done) | (simp; omega))
  simp (disch := first | (simp; done) | (simp; omega)) [go_sem, cu4_1_1] at cu5_1_1
  clear cu4_1_1
  have cu5_1_2 := hbu5.cell (p := ⟨u3.heap.size, 2, none⟩) (by first | (simp; done) | (simp; omega))
  simp (disch := first | (simp; done) | (simp; omega)) [go_sem, cu4_1_2] at cu5_1_2
  clear cu4_1_2
  have cu5_1_3 := hbu5.cell (p := ⟨u3.heap.size, 3, none⟩) (by first | (simp; done) | (simp; omega))
  simp (disch := first | (simp; done) | (simp; omega)) [go_sem, cu4_1_3] at cu5_1_3
  clear cu4_1_3
  have cu5_1_4 := hbu5.cell (p := ⟨u3.heap.size, 4, none⟩) (by first | (simp; done) | (simp; omega))
  simp (disch := first | (simp; done) | (simp; omega)) [go_sem, cu4_1_4] at cu5_1_4
  clear cu4_1_4
  have cu5_2_0 := hbu5.cell (p := ⟨u4.heap.size, 0, none⟩) (by first | (simp; done) | (simp; omega))
  simp (disch := first | (simp; done) | (simp; omega)) [go_sem] at cu5_2_0
  have cu5_2_1 := hbu5.cell (p := ⟨u4.heap.size, 1, none⟩) (by first | (simp; done) | (simp; omega))
  simp (disch := first | (simp; done) | (simp; omega)) [go_sem] at cu5_2_1
  have cu5_2_2 := hbu5.cell (p := ⟨u4.heap.size, 2, none⟩) (by first | (simp; done) | (simp; omega))
  simp (disch := first | (simp; done) | (simp; omega)) [go_sem] at cu5_2_2
  have cu5_2_3 := hbu5.cell (p := ⟨u4.heap.size, 3, none⟩) (by first | (simp; done) | (simp; omega))
  simp (disch := first | (simp; done) | (simp; omega)) [go_sem] at cu5_2_3
  have cu5_2_4 := hbu5.cell (p := ⟨u4.heap.size, 4, none⟩) (by first | (simp; done) | (simp; omega))
  simp (disch := first | (simp; done) | (simp; omega)) [go_sem] at cu5_2_4
  clear hbu5
  go_wp2_with fail
  refine (HQt'.out _).mono ?_
  rintro e u6 ⟨rfl, hbu6⟩
  have Bu6 : Hid (Below w.heap.size w u6) := below_then (by repeat (first | (refine Below.setCell ?_ (by first | omega | (simp; done) | (simp; omega)) _) | (refine Below.alloc ?_ (by first | omega | (simp; done) | (simp; omega)) _) | (refine below_dn ?_ _) | exact Below.refl _ _ | exact Bu5.out)) hbu6
  have zu6 := hbu6.size
  try simp at zu6
  have qu6_0 : u2.heap.size < u6.heap.size := by omega
  have qu6_1 : u3.heap.size < u6.heap.size := by omega
  have qu6_2 : u4.heap.size < u6.heap.size := by omega
  have cu6_0_0 := hbu6.cell (p := ⟨u2.heap.size, 0, none⟩) (by first | (simp; done) | (simp; omega))
  simp (disch := first | (simp; done) | (simp; omega)) [go_sem, cu5_0_0] at cu6_0_0
  clear cu5_0_0
  have cu6_0_1 := hbu6.cell (p := ⟨u2.heap.size, 1, none⟩) (by first | (simp; done) | (simp; omega))
  simp (disch := first | (simp; done) | (simp; omega)) [go_sem, cu5_0_1] at cu6_0_1
  clear cu5_0_1
  have cu6_0_2 := hbu6.cell (p := ⟨u2.heap.size, 2, none⟩) (by first | (simp; done) | (simp; omega))
  simp (disch := first | (simp; done) | (simp; omega)) [go_sem, cu5_0_2] at cu6_0_2
  clear cu5_0_2
  have cu6_0_3 := hbu6.cell (p := ⟨u2.heap.size, 3, none⟩) (by first | (simp; done) | (simp; omega))
  simp (disch := first | (simp; done) | (simp; omega)) [go_sem, cu5_0_3] at cu6_0_3
  clear cu5_0_3
  have cu6_0_4 := hbu6.cell (p := ⟨u2.heap.size, 4, none⟩) (by first | (simp; done) | (simp; omega))
  simp (disch := first | (simp; done) | (simp; omega)) [go_sem, cu5_0_4] at cu6_0_4
  clear cu5_0_4
  have cu6_1_0 := hbu6.cell (p := ⟨u3.heap.size, 0, none⟩) (by first | (simp; done) | (simp; omega))
  simp (disch := first | (simp; done) | (simp; omega)) [go_sem, cu5_1_0] at cu6_1_0
  clear cu5_1_0
  have cu6_1_1 := hbu6.cell (p := ⟨u3.heap.size, 1, none⟩) (by first | (simp; done) | (simp; omega))
  simp (disch := first | (simp; done) | (simp; omega)) [go_sem, cu5_1_1] at cu6_1_1
  clear cu5_1_1
  have cu6_1_2 := hbu6.cell (p := ⟨u3.heap.size, 2, none⟩) (by first | (simp; done) | (simp; omega))
  simp (disch := first | (simp; done) | (simp; omega)) [go_sem, cu5_1_2] at cu6_1_2
  clear cu5_1_2
  have cu6_1_3 := hbu6.cell (p := ⟨u3.heap.size, 3, none⟩) (by first | (simp; done) | (simp; omega))
  simp (disch := first | (simp; done) | (simp; omega)) [go_sem, cu5_1_3] at cu6_1_3
  clear cu5_1_3
  have cu6_1_4 := hbu6.cell (p := ⟨u3.heap.size, 4, none⟩) (by first | (simp; done) | (simp; omega))
  simp (disch := first | (simp; done) | (simp; omega)) [go_sem, cu5_1_4] at cu6_1_4
  clear cu5_1_4
  have cu6_2_0 := hbu6.cell (p := ⟨u4.heap.size, 0, none⟩) (by first | (simp; done) | (simp; omega))
  simp (disch := first | (simp; done) | (simp; omega)) [go_sem, cu5_2_0] at cu6_2_0
  clear cu5_2_0
  have cu6_2_1 := hbu6.cell (p := ⟨u4.heap.size, 1, none⟩) (by first | (simp; done) | (simp; omega))
  simp (disch := first | (simp; done) | (simp; omega)) [go_sem, cu5_2_1] at cu6_2_1
  clear cu5_2_1
  have cu6_2_2 := hbu6.cell (p := ⟨u4.heap.size, 2, none⟩) (by first | (simp; done) | (simp; omega))
  simp (disch := first | (simp; done) | (simp; omega)) [go_sem, cu5_2_2] at cu6_2_2
  clear cu5_2_2
  have cu6_2_3 := hbu6.cell (p := ⟨u4.heap.size, 3, none⟩) (by first | (simp; done) | (simp; omega))
  simp (disch := first | (simp; done) | (simp; omega)) [go_sem, cu5_2_3] at cu6_2_3
  clear cu5_2_3
  have cu6_2_4 := hbu6.cell (p := ⟨u4.heap.size, 4, none⟩) (by first | (simp; done) | (simp; omega))
  simp (disch := first | (simp; done) | (simp; omega)) [go_sem, cu5_2_4] at cu6_2_4
  clear cu5_2_4
  clear hbu6
  go_wp2_with fail
  refine (pick_at _ _ _ _ (by omega) (by omega) Hx'.out).mono ?_
  rintro e w' ⟨rfl, rfl⟩
  go_wp2_with fail
  refine (pick_at _ _ _ _ (by omega) (by omega) Hy'.out).mono ?_
  rintro e w' ⟨rfl, rfl⟩
  go_wp2_with fail
  refine (HWr'.out _).mono ?_
  rintro e u7 ⟨rfl, hbu7⟩
  have Bu7 : Hid (Below w.heap.size w u7) := below_then (by repeat (first | (refine Below.setCell ?_ (by first | omega | (simp; done) | (simp; omega)) _) | (refine Below.alloc ?_ (by first | omega | (simp; done) | (simp; omega)) _) | (refine below_dn ?_ _) | exact Below.refl _ _ | exact Bu6.out)) hbu7
  have zu7 := hbu7.size
  try simp at zu7
  have qu7_0 : u2.heap.size < u7.heap.size := by omega
  have qu7_1 : u3.heap.size < u7.heap.size := by omega
  have qu7_2 : u4.heap.size < u7.heap.size := by omega
  have cu7_0_0 := hbu7.cell (p := ⟨u2.heap.size, 0, none⟩) (by first | (simp; done) | (simp; omega))
  simp (disch := first | (simp; done) | (simp; omega)) [go_sem, cu6_0_0] at cu7_0_0
  clear cu6_0_0
  have cu7_0_1 := hbu7.cell (p := ⟨u2.heap.size, 1, none⟩) (by first | (simp; done) | (simp; omega))
  simp (disch := first | (simp; done) | (simp; omega)) [go_sem, cu6_0_1] at cu7_0_1
  clear cu6_0_1
  have cu7_0_2 := hbu7.cell (p := ⟨u2.heap.size, 2, none⟩) (by first | (simp; done) | (simp; omega))
  simp (disch := first | (simp; done) | (simp; omega)) [go_sem, cu6_0_2] at cu7_0_2
  clear cu6_0_2
  have cu7_0_3 := hbu7.cell (p := ⟨u2.heap.size, 3, none⟩) (by first | (simp; done) | (simp; omega))
  simp (disch := first | (simp; done) | (simp; omega)) [go_sem, cu6_0_3] at cu7_0_3
  clear cu6_0_3
  have cu7_0_4 := hbu7.cell (p := ⟨u2.heap.size, 4, none⟩) (by first | (simp; done) | (simp; omega))
  simp (disch := first | (simp; done) | (simp; omega)) [go_sem, cu6_0_4] at cu7_0_4
  clear cu6_0_4
  have cu7_1_0 := hbu7.cell (p := ⟨u3.heap.size, 0, none⟩) (by first | (simp; done) | (simp; omega))
  simp (disch := first | (simp; done) | (simp; omega)) [go_sem, cu6_1_0] at cu7_1_0
  clear cu6_1_0
  have cu7_1_1 := hbu7.cell (p := ⟨u3.heap.size, 1, none⟩) (by first | (simp; done) | (simp; omega))
  simp (disch := first | (simp; done) | (simp; omega)) [go_sem, cu6_1_1] at cu7_1_1
  clear cu6_1_1
  have cu7_1_2 := hbu7.cell (p := ⟨u3.heap.size, 2, none⟩) (by first | (simp; done) | (simp; omega))
  simp (disch := first | (simp; done) | (simp; omega)) [go_sem, cu6_1_2] at cu7_1_2
  clear cu6_1_2
  have cu7_1_3 := hbu7.cell (p := ⟨u3.heap.size, 3, none⟩) (by first | (simp; done) | (simp; omega))
  simp (disch := first | (simp; done) | (simp; omega)) [go_sem, cu6_1_3] at cu7_1_3
  clear cu6_1_3
  have cu7_1_4 := hbu7.cell (p := ⟨u3.heap.size, 4, none⟩) (by first | (simp; done) | (simp; omega))
  simp (disch := first | (simp; done) | (simp; omega)) [go_sem, cu6_1_4] at cu7_1_4
  clear cu6_1_4
  have cu7_2_0 := hbu7.cell (p := ⟨u4.heap.size, 0, none⟩) (by first | (simp; done) | (simp; omega))
  simp (disch := first | (simp; done) | (simp; omega)) [go_sem, cu6_2_0] at cu7_2_0
  clear cu6_2_0
  have cu7_2_1 := hbu7.cell (p := ⟨u4.heap.size, 1, none⟩) (by first | (simp; done) | (simp; omega))
  simp (disch := first | (simp; done) | (simp; omega)) [go_sem, cu6_2_1] at cu7_2_1
  clear cu6_2_1
  have cu7_2_2 := hbu7.cell (p := ⟨u4.heap.size, 2, none⟩) (by first | (simp; done) | (simp; omega))
  simp (disch := first | (simp; done) | (simp; omega)) [go_sem, cu6_2_2] at cu7_2_2
  clear cu6_2_2
  have cu7_2_3 := hbu7.cell (p := ⟨u4.heap.size, 3, none⟩) (by first | (simp; done) | (simp; omega))
  simp (disch := first | (simp; done) | (simp; omega)) [go_sem, cu6_2_3] at cu7_2_3
  clear cu6_2_3
  have cu7_2_4 := hbu7.cell (p := ⟨u4.heap.size, 4, none⟩) (by first | (simp; done) | (simp; omega))
  simp (disch := first | (simp; done) | (simp; omega)) [go_sem, cu6_2_4] at cu7_2_4
  clear cu6_2_4
  clear hbu7
  go_wp2_with fail
  refine (HWs'.out _).mono ?_
  rintro e u8 ⟨rfl, hbu8⟩
  have Bu8 : Hid (Below w.heap.size w u8) := below_then (by repeat (first | (refine Below.setCell ?_ (by first | omega | (simp; done) | (simp; omega)) _) | (refine Below.alloc ?_ (by first | omega | (simp; done) | (simp; omega)) _) | (refine below_dn ?_ _) | exact Below.refl _ _ | exact Bu7.out)) hbu8
  have zu8 := hbu8.size
  try simp at zu8
  have qu8_0 : u2.heap.size < u8.heap.size := by omega
  have qu8_1 : u3.heap.size < u8.heap.size := by omega
  have qu8_2 : u4.heap.size < u8.heap.size := by omega
  have cu8_0_0 := hbu8.cell (p := ⟨u2.heap.size, 0, none⟩) (by first | (simp; done) | (simp; omega))
  simp (disch := first | (simp; done) | (simp; omega)) [go_sem, cu7_0_0] at cu8_0_0
  clear cu7_0_0
  have cu8_0_1 := hbu8.cell (p := ⟨u2.heap.size, 1, none⟩) (by first | (simp; done) | (simp; omega))
  simp (disch := first | (simp; done) | (simp; omega)) [go_sem, cu7_0_1] at cu8_0_1
  clear cu7_0_1
  have cu8_0_2 := hbu8.cell (p := ⟨u2.heap.size, 2, none⟩) (by first | (simp; done) | (simp; omega))
  simp (disch := first | (simp; done) | (simp; omega)) [go_sem, cu7_0_2] at cu8_0_2
  clear cu7_0_2
  have cu8_0_3 := hbu8.cell (p := ⟨u2.heap.size, 3, none⟩) (by first | (simp; done) | (simp; omega))
  simp (disch := first | (simp; done) | (simp; omega)) [go_sem, cu7_0_3] at cu8_0_3
  clear cu7_0_3
  have cu8_0_4 := hbu8.cell (p := ⟨u2.heap.size, 4, none⟩) (by first | (simp; done) | (simp; omega))
  simp (disch := first | (simp; done) | (simp; omega)) [go_sem, cu7_0_4] at cu8_0_4
  clear cu7_0_4
  have cu8_1_0 := hbu8.cell (p := ⟨u3.heap.size, 0, none⟩) (by first | (simp; done) | (simp; omega))
  simp (disch := first | (simp; done) | (simp; omega)) [go_sem, cu7_1_0] at cu8_1_0
  clear cu7_1_0
  have cu8_1_1 := hbu8.cell (p := ⟨u3.heap.size, 1, none⟩) (by first | (simp; done) | (simp; omega))
  simp (disch := first | (simp; done) | (simp; omega)) [go_sem, cu7_1_1] at cu8_1_1
  clear cu7_1_1
  have cu8_1_2 := hbu8.cell (p := ⟨u3.heap.size, 2, none⟩) (by first | (simp; done) | (simp; omega))
  simp (disch := first | (simp; done) | (simp; omega)) [go_sem, cu7_1_2] at cu8_1_2
  clear cu7_1_2
  have cu8_1_3 := hbu8.cell (p := ⟨u3.heap.size, 3, none⟩) (by first | (simp; done) | (simp; omega))
  simp (disch := first | (simp; done) | (simp; omega)) [go_sem, cu7_1_3] at cu8_1_3
  clear cu7_1_3
  have cu8_1_4 := hbu8.cell (p := ⟨u3.heap.size, 4, none⟩) (by first | (simp; done) | (simp; omega))
  simp (disch := first | (simp; done) | (simp; omega)) [go_sem, cu7_1_4] at cu8_1_4
  clear cu7_1_4
  have cu8_2_0 := hbu8.cell (p := ⟨u4.heap.size, 0, none⟩) (by first | (simp; done) | (simp; omega))
  simp (disch := first | (simp; done) | (simp; omega)) [go_sem, cu7_2_0] at cu8_2_0
  clear cu7_2_0
  have cu8_2_1 := hbu8.cell (p := ⟨u4.heap.size, 1, none⟩) (by first | (simp; done) | (simp; omega))
  simp (disch := first | (simp; done) | (simp; omega)) [go_sem, cu7_2_1] at cu8_2_1
  clear cu7_2_1
  have cu8_2_2 := hbu8.cell (p := ⟨u4.heap.size, 2, none⟩) (by first | (simp; done) | (simp; omega))
  simp (disch := first | (simp; done) | (simp; omega)) [go_sem, cu7_2_2] at cu8_2_2
  clear cu7_2_2
  have cu8_2_3 := hbu8.cell (p := ⟨u4.heap.size, 3, none⟩) (by first | (simp; done) | (simp; omega))
  simp (disch := first | (simp; done) | (simp; omega)) [go_sem, cu7_2_3] at cu8_2_3
  clear cu7_2_3
  have cu8_2_4 := hbu8.cell (p := ⟨u4.heap.size, 4, none⟩) (by first | (simp; done) | (simp; omega))
  simp (disch := first | (simp; done) | (simp; omega)) [go_sem, cu7_2_4] at cu8_2_4
  clear cu7_2_4
  clear hbu8
  go_wp2_with fail
  refine (HCs'.out _).mono ?_
  rintro e u9 ⟨rfl, hbu9⟩
  have Bu9 : Hid (Below w.heap.size w u9) := below_then (by repeat (first | (refine Below.setCell ?_ (by first | omega | (simp; done) | (simp; omega)) _) | (refine Below.alloc ?_ (by first | omega | (simp; done) | (simp; omega)) _) | (refine below_dn ?_ _) | exact Below.refl _ _ | exact Bu8.out)) hbu9
  have zu9 := hbu9.size
  try simp at zu9
  have qu9_0 : u2.heap.size < u9.heap.size := by omega
  have qu9_1 : u3.heap.size < u9.heap.size := by omega
  have qu9_2 : u4.heap.size < u9.heap.size := by omega
  have cu9_0_0 := hbu9.cell (p := ⟨u2.heap.size, 0, none⟩) (by first | (simp; done) | (simp; omega))
  simp (disch := first | (simp; done) | (simp; omega)) [go_sem, cu8_0_0] at cu9_0_0
  clear cu8_0_0
  have cu9_0_1 := hbu9.cell (p := ⟨u2.heap.size, 1, none⟩) (by first | (simp; done) | (simp; omega))
  simp (disch := first | (simp; done) | (simp; omega)) [go_sem, cu8_0_1] at cu9_0_1
  clear cu8_0_1
  have cu9_0_2 := hbu9.cell (p := ⟨u2.heap.size, 2, none⟩) (by first | (simp; done) | (simp; omega))
  simp (disch := first | (simp; done) | (simp; omega)) [go_sem, cu8_0_2] at cu9_0_2
  clear cu8_0_2
  have cu9_0_3 := hbu9.cell (p := ⟨u2.heap.size, 3, none⟩) (by first | (simp; done) | (simp; omega))
  simp (disch := first | (simp; done) | (simp; omega)) [go_sem, cu8_0_3] at cu9_0_3
  clear cu8_0_3
  have cu9_0_4 := hbu9.cell (p := ⟨u2.heap.size, 4, none⟩) (by first | (simp; done) | (simp; omega))
  simp (disch := first | (simp; done) | (simp; omega)) [go_sem, cu8_0_4] at cu9_0_4
  clear cu8_0_4
  have cu9_1_0 := hbu9.cell (p := ⟨u3.heap.size, 0, none⟩) (by first | (simp; done) | (simp; omega))
  simp (disch := first | (simp; done) | (simp; omega)) [go_sem, cu8_1_0] at cu9_1_0
  clear cu8_1_0
  have cu9_1_1 := hbu9.cell (p := ⟨u3.heap.size, 1, none⟩) (by first | (simp; done) | (simp; omega))
  simp (disch := first | (simp; done) | (simp; omega)) [go_sem, cu8_1_1] at cu9_1_1
  clear cu8_1_1
  have cu9_1_2 := hbu9.cell (p := ⟨u3.heap.size, 2, none⟩) (by first | (simp; done) | (simp; omega))
  simp (disch := first | (simp; done) | (simp; omega)) [go_sem, cu8_1_2] at cu9_1_2
  clear cu8_1_2
  have cu9_1_3 := hbu9.cell (p := ⟨u3.heap.size, 3, none⟩) (by first | (simp; done) | (simp; omega))
  simp (disch := first | (simp; done) | (simp; omega)) [go_sem, cu8_1_3] at cu9_1_3
  clear cu8_1_3
  have cu9_1_4 := hbu9.cell (p := ⟨u3.heap.size, 4, none⟩) (by first | (simp; done) | (simp; omega))
  simp (disch := first | (simp; done) | (simp; omega)) [go_sem, cu8_1_4] at cu9_1_4
  clear cu8_1_4
  have cu9_2_0 := hbu9.cell (p := ⟨u4.heap.size, 0, none⟩) (by first | (simp; done) | (simp; omega))
  simp (disch := first | (simp; done) | (simp; omega)) [go_sem, cu8_2_0] at cu9_2_0
  clear cu8_2_0
  have cu9_2_1 := hbu9.cell (p := ⟨u4.heap.size, 1, none⟩) (by first | (simp; done) | (simp; omega))
  simp (disch := first | (simp; done) | (simp; omega)) [go_sem, cu8_2_1] at cu9_2_1
  clear cu8_2_1
  have cu9_2_2 := hbu9.cell (p := ⟨u4.heap.size, 2, none⟩) (by first | (simp; done) | (simp; omega))
  simp (disch := first | (simp; done) | (simp; omega)) [go_sem, cu8_2_2] at cu9_2_2
  clear cu8_2_2
  have cu9_2_3 := hbu9.cell (p := ⟨u4.heap.size, 3, none⟩) (by first | (simp; done) | (simp; omega))
  simp (disch := first | (simp; done) | (simp; omega)) [go_sem, cu8_2_3] at cu9_2_3
  clear cu8_2_3
  have cu9_2_4 := hbu9.cell (p := ⟨u4.heap.size, 4, none⟩) (by first | (simp; done) | (simp; omega))
  simp (disch := first | (simp; done) | (simp; omega)) [go_sem, cu8_2_4] at cu9_2_4
  clear cu8_2_4
  clear hbu9
  go_wp2_with fail
  go_ret
  exact ⟨rfl, Bu9.out⟩

theorem szB_pow (pk : Bool) {k : Nat} (h : k < 16) : szB pk (pow2 k) = true := by
  have h1 := pow2_pos k
  have h2 := pow2_le (j := k) (k := 15) (by omega)
  have e15 : pow2 15 = 32768 := by decide
  cases pk
  · exact powI_some k h
  · unfold szB
    simp
    omega
theorem whE_t {pk : Bool} {n d g c x i : Int} (h : whOk pk n d g c x i = true) : (whE pk n d g c x i == 0) = true := by
  unfold whE
  rw [if_pos h]
  rfl
theorem whE_f {pk : Bool} {n d g c x i : Int} (h : whOk pk n d g c x i = false) : (whE pk n d g c x i == 0) = false := by
  unfold whE
  rw [h]
  rfl
theorem shl64 (k : Nat) (hk : k < 62) : wrap64 (2 ^ k) = pow2 k := by
  have h1 := pow2_pos k
  have h2 := pow2_lt (j := k) (k := 62) (by omega)
  have e62 : pow2 62 = 4611686018427387904 := by decide
  have e : (2 : Int) ^ k = pow2 k := by
    unfold pow2
    simp
  rw [e]
  unfold wrap64
  omega
theorem elP_same (pk : Bool) (n d g c d' g' c' x : Int) : (elP pk n d g c x).2 = (elP pk n d' g' c' x).2 := by
  unfold elP
  repeat' split
  all_goals rfl

theorem walk (a0 : Bool) (a1 a2 a3 a4 : Int) (w1 : (Lit.int .i64 a1).wf = true) (w2 : (Lit.int .u64 a2).wf = true) (w3 : (Lit.int .i64 a3).wf = true) (w4 : (Lit.int .i64 a4).wf = true) (w : World) :
    Calls Try.prog 7 #[.bool a0, .int .i64 a1, .int .u64 a2, .int .i64 a3, .int .i64 a4] w fun e w' => e = .returned (.bool true) ∧ Below w.heap.size w w' := by
  have hb2 := bounds_u64 w2
  obtain ⟨K, hK⟩ := Int.eq_ofNat_of_zero_le (Int.emod_nonneg a1 (show (10 : Int) ≠ 0 by omega))
  have hK10 : (K : Int) < 10 := by
    have := Int.emod_lt_of_pos a1 (show (0 : Int) < 10 by omega)
    omega
  have hKn : K < 10 := by omega
  have p1 := pow2_pos K
  have p2 := pow2_le (j := K) (k := 9) (by omega)
  have e9 : pow2 9 = 512 := by decide
  have ps := pow2_succ K
  have hs1 := szB_pow a0 (k := K) (by omega)
  have hs2 := szB_pow a0 (k := K + 1) (by omega)
  have hS := shl64 K (by omega)
  obtain ⟨S, eS⟩ : ∃ S, pow2 K = S := ⟨_, rfl⟩
  rw [ps] at hs2
  rw [eS] at hS p1 p2 hs1 hs2
  clear ps
  obtain ⟨t1, t2, t3, t4, t5, t6, t7, t8⟩ := tot_rng hs1
  obtain ⟨z1, z2, z3, z4, z5, z6, z7, z8⟩ := tot_rng hs2
  obtain ⟨r1, r2, r3⟩ := part_rng hs1
  obtain ⟨y1, y2, y3⟩ := part_rng hs2
  have eT : a2.tmod 1099511627776 = a2 % 1099511627776 := Int.tmod_eq_emod_of_nonneg (by omega)
  have eB : IntKind.u64.wrap (a2.tmod 1099511627776 * 16) = a2 % 1099511627776 * 16 := by
    rw [eT, IntKind.wrap_u64]
    omega
  obtain ⟨B, dB, hB0, hB1, hB2⟩ : ∃ B, a2 % 1099511627776 * 16 = B ∧ 0 ≤ B ∧ B % 16 = 0 ∧ B ≤ 17592186044400 := ⟨_, rfl, by omega, by omega, by omega⟩
  rw [dB] at eB
  have k0 : plOk a0 S 0 = true := pl_mk hs1 (by omega) (by omega)
  have kB : plOk a0 S B = true := pl_mk hs1 (by omega) (by omega)
  have k2 : plOk a0 (2 * S) 0 = true := pl_mk hs2 (by omega) (by omega)
  have A0 : alV 0 16 = 0 := by
    rw [(pl_parts k0).2.2.1]
    omega
  have AB : alV B 16 = B := by
    rw [(pl_parts kB).2.2.1]
    omega
  have ok0 := placed_ok (by omega) k0
  have okB := placed_ok hB0 kB
  have P0 := fun w => place_lay a0 S 0 w ⟨by omega, by omega⟩
  have PB := fun w => place_lay a0 S B w ⟨by omega, by omega⟩
  have P2 := fun w => place_lay a0 (2 * S) 0 w ⟨by omega, by omega⟩
  rw [← pl_yes k0] at P0
  rw [← pl_yes kB] at PB
  rw [← pl_yes k2] at P2
  rw [A0] at P0 P2 ok0
  rw [AB] at PB okB
  have ed0 : (0 : Int) - 0 + totL a0 S = totL a0 S := by omega
  have edB : B - B + totL a0 S = totL a0 S := by omega
  have ed2 : (0 : Int) - 0 + totL a0 (2 * S) = totL a0 (2 * S) := by omega
  rw [ed0] at P0
  rw [edB] at PB
  rw [ed2] at P2
  have hmono : cO a0 S < cO a0 (2 * S) ∧ pC a0 S ≤ pC a0 (2 * S) := by
    clear w1 w2 w3 w4
    cases a0
    · simp [cO, pC, hs1, hs2]
      omega
    · simp [cO, pC, hs1, hs2]
      omega
  have hlt : totL a0 S < totL a0 (2 * S) := by omega
  have u0 : U64 (0 : Int) := by decide
  have ug0 : U64 (0 + 16 * S) := ⟨by omega, by omega⟩
  have uc0 : U64 (0 + cO a0 S) := ⟨by omega, by omega⟩
  have ub : U64 B := ⟨by omega, by omega⟩
  have ugb : U64 (B + 16 * S) := ⟨by omega, by omega⟩
  have ucb : U64 (B + cO a0 S) := ⟨by omega, by omega⟩
  obtain ⟨x, hx⟩ : ∃ x, a3 % 11 = x := ⟨_, rfl⟩
  obtain ⟨y, hy⟩ : ∃ y, a4 % S = y := ⟨_, rfl⟩
  have hx0 : 0 ≤ x := by omega
  have hx1 : x < 11 := by omega
  have hnq := elP_same a0 S 0 (0 + 16 * S) (0 + cO a0 S) B (B + 16 * S) (B + cO a0 S) (1 + x)
  have hwo : whOk a0 S B (B + 16 * S) (B + cO a0 S) (1 + x) y = whOk a0 S 0 (0 + 16 * S) (0 + cO a0 S) (1 + x) y := by
    unfold whOk
    rw [ok0, okB, hnq]
  have hE : whE a0 S B (B + 16 * S) (B + cO a0 S) (1 + x) y = whE a0 S 0 (0 + 16 * S) (0 + cO a0 S) (1 + x) y := by
    unfold whE
    rw [hwo]
  have hN : whN a0 S B (B + 16 * S) (B + cO a0 S) (1 + x) y = whN a0 S 0 (0 + 16 * S) (0 + cO a0 S) (1 + x) y := by
    unfold whN
    rw [hwo, hnq]
  have W0 := fun w => where_any a0 S 0 (0 + 16 * S) (0 + cO a0 S) (1 + x) y w u0 ug0 uc0
  have WB := fun w => where_any a0 S B (B + 16 * S) (B + cO a0 S) (1 + x) y w ub ugb ucb
  rw [hE, hN] at WB
  have CB := fun w => check_lay a0 S B (B + 16 * S) (B + cO a0 S) w ub ugb ucb
  rw [show chkR a0 S B (B + 16 * S) (B + cO a0 S) = 0 from by simp [chkR, okB]] at CB
  have Q0 := parts_any a0 S 0 (0 + 16 * S) (0 + cO a0 S)
  have Q2 := parts_any a0 (2 * S) 0 (0 + 16 * (2 * S)) (0 + cO a0 (2 * S))
  have eD : IntKind.u64.wrap (2 * pD a0 S) = pD a0 (2 * S) := by
    rw [IntKind.wrap_u64]
    omega
  have eB0 : IntKind.u64.wrap B = B := by
    rw [IntKind.wrap_u64]
    omega
  have es2 : IntKind.u64.wrap (B + 16 * S - (0 + 16 * S)) = B := by
    rw [IntKind.wrap_u64]
    omega
  have es3 : IntKind.u64.wrap (B + cO a0 S - (0 + cO a0 S)) = B := by
    rw [IntKind.wrap_u64]
    omega
  have gf : a0 = false → pG a0 S = 6 + 2 * S ∧ pC a0 S = 6 + 8 * S ∧ pG a0 (2 * S) = 6 + 2 * (2 * S) ∧ pC a0 (2 * S) = 6 + 8 * (2 * S) := by
    rintro rfl
    simp [pG, pC, hs1, hs2]
  have gt : a0 = true → pG a0 (2 * S) = pG a0 S ∧ pC a0 (2 * S) = pC a0 S := by
    rintro rfl
    simp [pG, pC, hs1, hs2]
  have hv : whOk a0 S 0 (0 + 16 * S) (0 + cO a0 S) (1 + x) y = true → IntKind.u64.wrap (whA a0 S B (B + 16 * S) (B + cO a0 S) (1 + x) y - whA a0 S 0 (0 + 16 * S) (0 + cO a0 S) (1 + x) y) = B := fun h => by
    rw [(whA_eq h u0 ug0 uc0).1, (whA_eq (hwo.trans h) ub ugb ucb).1]
    have e : elB a0 B (B + 16 * S) (B + cO a0 S) (1 + x) + elOff S (1 + x) y - (elB a0 0 (0 + 16 * S) (0 + cO a0 S) (1 + x) + elOff S (1 + x) y) = B := by
      unfold elB
      repeat' split
      all_goals omega
    rw [e, eB0]
  cases a0
  · obtain ⟨g1, g2, g3, g4⟩ := gf rfl
    have eG : IntKind.u64.wrap (pG false (2 * S) - 6) = IntKind.u64.wrap (2 * IntKind.u64.wrap (pG false S - 6)) := by
      rw [IntKind.wrap_u64, IntKind.wrap_u64, IntKind.wrap_u64]
      omega
    have eC : IntKind.u64.wrap (pC false (2 * S) - 6) = IntKind.u64.wrap (2 * IntKind.u64.wrap (pC false S - 6)) := by
      rw [IntKind.wrap_u64, IntKind.wrap_u64, IntKind.wrap_u64]
      omega
    cases ho : whOk false S 0 (0 + 16 * S) (0 + cO false S) (1 + x) y
    · exact core_false_out a1 a2 a3 a4 K S B _ _ _ _ _ _ _ _ _ _ _ _ _ _ x y _ _ _ _ w hK10 hS (by omega) p2 eB hlt (decide_eq_false (by omega)) eD eG eC hx0 hx1 (whE_f ho) eB0 es2 es3 hK hx hy P0 PB P2 Q0 Q2 W0 WB CB
    · exact core_false_in a1 a2 a3 a4 K S B _ _ _ _ _ _ _ _ _ _ _ _ _ _ x y _ _ _ _ w hK10 hS (by omega) p2 eB hlt (decide_eq_false (by omega)) eD eG eC hx0 hx1 (whE_t ho) (hv ho) eB0 es2 es3 hK hx hy P0 PB P2 Q0 Q2 W0 WB CB
  · obtain ⟨eG, eC⟩ := gt rfl
    cases ho : whOk true S 0 (0 + 16 * S) (0 + cO true S) (1 + x) y
    · exact core_true_out a1 a2 a3 a4 K S B _ _ _ _ _ _ _ _ _ _ _ _ _ _ x y _ _ _ _ w hK10 hS (by omega) p2 eB hlt (decide_eq_false (by omega)) eD eG eC hx0 hx1 (whE_f ho) eB0 es2 es3 hK hx hy P0 PB P2 Q0 Q2 W0 WB CB
    · exact core_true_in a1 a2 a3 a4 K S B _ _ _ _ _ _ _ _ _ _ _ _ _ _ x y _ _ _ _ w hK10 hS (by omega) p2 eB hlt (decide_eq_false (by omega)) eD eG eC hx0 hx1 (whE_t ho) (hv ho) eB0 es2 es3 hK hx hy P0 PB P2 Q0 Q2 W0 WB CB

/-! ### the row's frame -/
theorem own : ownKnob Try.prog.godebug = none := by kernel_rfl
theorem laidOut : laidOutB Try.prog = true := by kernel_rfl

set_option maxRecDepth 100000 in
theorem lifted (os : Os) (started : os.Started) (H : Type) (enc : TypeId × Value → H) :
    ReturnsInHanded {} Try.checked os 7 .any (Rows.layoutMovesSpec.pre6 enc Try.prog Try.f7 Rows.layoutMovesRow.domain false) (Rows.layoutMovesSpec.post enc Try.prog Try.f7 false true false false) := by
  refine returnsInHanded_of_change (C := Try.checked) own started (by kernel_rfl) Try.func7
    (ChangeSpec.witness6 (enc := enc) (C := Try.checked) false ⟨#[], #[.bool false, .int .i64 0, .int .u64 0, .int .i64 0, .int .i64 0], []⟩ 8 (by kernel_rfl) (by kernel_rfl) (by kernel_rfl) (by kernel_rfl)) ?_
  intro W base args ds gs before hval0 hW hcnd _
  have hval : ∀ (j : Nat) t v, Try.f7.params[j]? = some t → args[j]? = some v → Value.okWide Try.prog W .any base t v := hval0
  have hW' := hW
  obtain ⟨p, q, hA0, hV, rfl, hfz, hnd⟩ := hW
  have hA : DataW.TrodAll enc Try.prog W 0 (fun _ => true) true Try.f7.params.toList args.toList ds p := hA0
  rw [Try.params7] at hA hval
  obtain ⟨v0, vs0, d0, ds0, p0, q0, hargs, rfl, rfl, h0, r0⟩ := trodAll_cons hA
  obtain ⟨v1, vs1, d1, ds1, p1, q1, rfl, rfl, rfl, h1, r1⟩ := trodAll_cons r0
  obtain ⟨v2, vs2, d2, ds2, p2, q2, rfl, rfl, rfl, h2, r2⟩ := trodAll_cons r1
  obtain ⟨v3, vs3, d3, ds3, p3, q3, rfl, rfl, rfl, h3, r3⟩ := trodAll_cons r2
  obtain ⟨v4, vs4, d4, ds4, p4, q4, rfl, rfl, rfl, h4, r4⟩ := trodAll_cons r3
  obtain ⟨rfl, rfl, rfl⟩ := trodAll_nil r4
  obtain rfl : args = #[v0, v1, v2, v3, v4] := by cases args; simp_all
  obtain ⟨rfl, rfl⟩ := trodVars_none hV
  have k0 := h0
  have lt0 : ∀ x ∈ p0, x.block < W.heap.size := by
    obtain ⟨m, hm⟩ := k0
    exact DataW.trod_lt m _ _ _ hm
  have k1 := h1
  have lt1 : ∀ x ∈ p1, x.block < W.heap.size := by
    obtain ⟨m, hm⟩ := k1
    exact DataW.trod_lt m _ _ _ hm
  have k2 := h2
  have lt2 : ∀ x ∈ p2, x.block < W.heap.size := by
    obtain ⟨m, hm⟩ := k2
    exact DataW.trod_lt m _ _ _ hm
  have k3 := h3
  have lt3 : ∀ x ∈ p3, x.block < W.heap.size := by
    obtain ⟨m, hm⟩ := k3
    exact DataW.trod_lt m _ _ _ hm
  have k4 := h4
  have lt4 : ∀ x ∈ p4, x.block < W.heap.size := by
    obtain ⟨m, hm⟩ := k4
    exact DataW.trod_lt m _ _ _ hm
  obtain ⟨a0, rfl, rfl, rfl⟩ := open_bool Try.underlying4 (hval 0 4 v0 rfl rfl) h0
  obtain ⟨a1, rfl, rfl, rfl, w1⟩ := open_int Try.underlying3 (hval 1 3 v1 rfl rfl) h1
  obtain ⟨a2, rfl, rfl, rfl, w2⟩ := open_int Try.underlying22 (hval 2 22 v2 rfl rfl) h2
  obtain ⟨a3, rfl, rfl, rfl, w3⟩ := open_int Try.underlying3 (hval 3 3 v3 rfl rfl) h3
  obtain ⟨a4, rfl, rfl, rfl, w4⟩ := open_int Try.underlying3 (hval 4 3 v4 rfl rfl) h4
  clear hA0 hval0
  refine (walk a0 a1 a2 a3 a4 w1 w2 w3 w4 W).mono fun e W' ⟨he, bel⟩ => ?_
  subst he
  exact ⟨_, rfl, _, _, _, [], _, [], hW', trodAll_mk1 (shut_bool Try.underlying4 _), (trodAll_cons_mk (Below.trod laidOut (by kernel_rfl) (of_decide_eq_true (by kernel_rfl)) k0 bel lt0) (trodAll_cons_mk (Below.trod laidOut (by kernel_rfl) (of_decide_eq_true (by kernel_rfl)) k1 bel lt1) (trodAll_cons_mk (Below.trod laidOut (by kernel_rfl) (of_decide_eq_true (by kernel_rfl)) k2 bel lt2) (trodAll_cons_mk (Below.trod laidOut (by kernel_rfl) (of_decide_eq_true (by kernel_rfl)) k3 bel lt3) (trodAll_cons_mk (Below.trod laidOut (by kernel_rfl) (of_decide_eq_true (by kernel_rfl)) k4 bel lt4) trodAll_mk0))))), rfl, bel.frame _, fun h => by cases h⟩

theorem over : Rows.layoutMovesRow.holds Try.pinned (OpenSpec.ofChange Rows.layoutMovesSpec) :=
  OpenClaim.holds_of_wide 7 Try.f7 rfl rfl rfl rfl rfl rfl rfl ⟨rfl, rfl, rfl, rfl, rfl⟩ rfl rfl rfl rfl rfl (by kernel_rfl) Try.func7 (by kernel_rfl)
    (of_decide_eq_true (by kernel_rfl)) (by unfold Func.isWrapper; first | (rw [if_pos (by decide +kernel)]; kernel_rfl) | (rw [if_neg (by decide +kernel)]; exact ⟨rfl, rfl⟩))
    (fun os started H enc _ => lifted os started H enc)

/-- THE STATEMENT -/
theorem layoutMoves_holds : Rows.LayoutMovesSaid := over
#print axioms layoutMoves_holds
end Go.Proofs.Ytolflhnkdnjckaa.layoutMoves
