/-
  PROVED: dumbwaiterlaw04.LayoutPlaces returns true for either kind, every size and base, and what was in memory stays as it was. Conditions: none.
-/
import Derived.Test.YtolflhnkdnjckaaRows
import Derived.Test.YtolflhnkdnjckaaLay15
import Derived.WalkKit
import Derived.ProofKit
import Derived.OpenShut
import Derived.ShutString
import Derived.ChangeOld
import Derived.Below
import Derived.Carry
import Derived.Lib.SmallJoins
namespace Go.Proofs.Ytolflhnkdnjckaa.layoutPlaces
open Go.ChangeShapes Go.WideShapes Go.ChangeAt Go.RowKit
set_option linter.unusedVariables false


theorem loc1 {b N a n : Int} : (loc [(b, N)] a n).isSome = decide (b ≤ a ∧ a + n ≤ b + N ∧ 1 ≤ n) := by
  cases h : loc [(b, N)] a n with
  | some k =>
    obtain ⟨i, hi, h1, h2, h3, _⟩ := loc_some h
    obtain rfl : i = 0 := by simpa using hi
    have e : at_ [(b, N)] 0 = (b, N) := rfl
    rw [e] at h1 h2
    simp only [] at h1 h2
    rw [decide_eq_true ⟨h1, h2, h3⟩]
    rfl
  | none =>
    have := loc_none h 0 (by simp)
    have e : at_ [(b, N)] 0 = (b, N) := rfl
    rw [e] at this
    rw [decide_eq_false this]
    rfl
theorem plc (pk : Bool) (S b : Int) (hs : szB pk S = true) (hS : S ≤ 256) (hb0 : 0 ≤ b) (hb1 : b ≤ 100000) : ∃ A s2 s3 N N1 D G C : Int,
    (∀ w, Calls Try.prog 8 #[.bool pk, .int .i64 S, .int .u64 b] w fun e w' => e = .returned (.tuple #[rV pk S A s2 s3, .int .u64 N, .int .i64 0]) ∧ Below w.heap.size w w') ∧
    (∀ w, Calls Try.prog 13 #[rV pk S A s2 s3] w fun e w' => e = .returned (.int .i64 0) ∧ Below w.heap.size w w') ∧
    (∀ w, Calls Try.prog 16 #[rV pk S A s2 s3] w fun e w' => e = .returned (.tuple #[.int .u64 D, .int .u64 G, .int .u64 C]) ∧ Below w.heap.size w w') ∧
    okR (-1) 1048576 [(b, N)] = true ∧ okR (-1) 1048576 [(b, N1)] = true ∧ fitR [(b, N)] pk S A s2 s3 = 0 ∧ fitR [(b, N1)] pk S A s2 s3 = 5 ∧ IntKind.u64.wrap (N - 1) = N1 ∧
    U64 A ∧ U64 s2 ∧ U64 s3 ∧ U64 N ∧ U64 N1 ∧ b ≤ A ∧ IntKind.u64.wrap (A - b) ≤ 15 ∧ IntKind.u64.wrap (IntKind.u64.wrap (D + G) + C) ≤ N ∧
    N ≤ IntKind.u64.wrap (IntKind.u64.wrap (IntKind.u64.wrap (IntKind.u64.wrap (IntKind.u64.wrap (D + G) + C) + 15) + 3) + 3) ∧ IntKind.u64.wrap (A + D) ≤ s2 ∧ IntKind.u64.wrap (s2 + G) ≤ s3 := by
  obtain ⟨t1, t2, t3, t4, t5, t6, t7, t8⟩ := tot_rng hs
  obtain ⟨r1, r2, r3⟩ := part_rng hs
  have hC : pC pk S ≤ 6 + 8 * S := by
    unfold pC
    rw [hs]
    cases pk <;> simp <;> omega
  have k0 : plOk pk S b = true := pl_mk hs (by omega) (by omega)
  have hA := (pl_parts k0).2.2.1
  have P := fun w => place_lay pk S b w ⟨by omega, by omega⟩
  rw [← pl_yes k0] at P
  have hok := placed_ok hb0 k0
  have uA : U64 (alV b 16) := ⟨by omega, by omega⟩
  have u2 : U64 (alV b 16 + 16 * S) := ⟨by omega, by omega⟩
  have u3 : U64 (alV b 16 + cO pk S) := ⟨by omega, by omega⟩
  have CB := fun w => check_lay pk S (alV b 16) (alV b 16 + 16 * S) (alV b 16 + cO pk S) w uA u2 u3
  rw [show chkR pk S (alV b 16) (alV b 16 + 16 * S) (alV b 16 + cO pk S) = 0 from by simp [chkR, hok]] at CB
  refine ⟨alV b 16, alV b 16 + 16 * S, alV b 16 + cO pk S, alV b 16 - b + totL pk S, alV b 16 - b + totL pk S - 1, pD pk S, pG pk S, pC pk S, P, CB, parts_any pk S _ _ _, ?_, ?_, ?_, ?_, ?_, uA, u2, u3, ⟨by omega, by omega⟩, ⟨by omega, by omega⟩, by omega, ?_, ?_, ?_, ?_, ?_⟩
  · rw [okR_cons]
    exact ⟨⟨by simp only []; omega, by simp only []; omega, by simp only []; omega, by simp only []; omega⟩, rfl⟩
  · rw [okR_cons]
    exact ⟨⟨by simp only []; omega, by simp only []; omega, by simp only []; omega, by simp only []; omega⟩, rfl⟩
  · unfold fitR
    rw [hok, loc1, loc1, loc1, decide_eq_true ⟨by omega, by omega, by omega⟩, decide_eq_true ⟨by omega, by omega, by omega⟩, decide_eq_true ⟨by omega, by omega, by omega⟩]
    rfl
  · unfold fitR
    rw [hok, loc1, loc1, loc1, decide_eq_false (p := b ≤ alV b 16 + cO pk S ∧ _ ∧ _) (by omega)]
    simp
  · rw [IntKind.wrap_u64]
    omega
  · rw [IntKind.wrap_u64]
    omega
  · rw [IntKind.wrap_u64, IntKind.wrap_u64]
    omega
  · simp only [IntKind.wrap_u64]
    omega
  · rw [IntKind.wrap_u64]
    omega
  · rw [IntKind.wrap_u64]
    omega

set_option maxRecDepth 100000 in
set_option maxHeartbeats 4000000 in
theorem core_true (a1 a2 b z : Int) (w : World) (eb : a2.tmod 100001 = b) (hb0 : 0 ≤ b) (hb1 : b ≤ 100000) (hz0 : 0 ≤ z) (hz1 : z < 256) (Hz : a1 % 256 = z) :
    Calls Try.prog 6 #[.bool true, .int .i64 a1, .int .u64 a2] w fun e w' => e = .returned (.bool true) ∧ Below w.heap.size w w' := by
  have Hz' := hid_mk Hz
  clear Hz
  go_enter Try.func6, Try.ntmps6
  go_wp2_with fail
  refine (lives_any _).mono ?_
  rintro e u1 ⟨rfl, hb⟩
  have Bu1 := hid_mk hb
  have zu1 := hb.size
  clear hb
  go_wp2_with fail
  refine (pick_at _ _ _ _ (by omega) (by omega) Hz'.out).mono ?_
  rintro e w' ⟨rfl, rfl⟩
  have hs : szB true (1 + z) = true := by
    simp [szB]
    omega
  have hS256 : 1 + z ≤ 256 := by omega
  obtain ⟨A, s2, s3, N, N1, D, G, C, HP, HC, HQ, ok1, ok2, f1, f2, e1, uA, us2, us3, uN, uN1, g1, g2, g3, g4, g5, g6⟩ := plc true (1 + z) b hs hS256 hb0 hb1
  have HP' := hid_mk HP
  have HC' := hid_mk HC
  have HQ' := hid_mk HQ
  have OK1 := hid_mk ok1
  have OK2 := hid_mk ok2
  have F1 := hid_mk f1
  have F2 := hid_mk f2
  have UA := hid_mk uA
  have US2 := hid_mk us2
  have US3 := hid_mk us3
  have HR1 : Hid (isRegs [(b, N)]) := fun r hr => by
    obtain rfl : r = (b, N) := by simpa using hr
    exact ⟨⟨hb0, by simp only []; omega⟩, uN⟩
  have HR2 : Hid (isRegs [(b, N1)]) := fun r hr => by
    obtain rfl : r = (b, N1) := by simpa using hr
    exact ⟨⟨hb0, by simp only []; omega⟩, uN1⟩
  clear HP HC HQ ok1 ok2 f1 f2 uA us2 us3 uN uN1
  go_wp2_with fail
  refine (HP'.out _).mono ?_
  rintro e u2 ⟨rfl, hbu2⟩
  have Bu2 : Hid (Below w.heap.size w u2) := below_then (by repeat (first | (refine Below.setCell ?_ (by first | omega | (simp; done) | (simp; omega)) _) | (refine Below.alloc ?_ (by first | omega | (simp; done) | (simp; omega)) _) | (refine below_dn ?_ _) | exact Below.refl _ _ | exact Bu1.out)) hbu2
  have zu2 := hbu2.size
  try simp at zu2
  clear hbu2
  go_wp2_with fail
  refine (HC'.out _).mono ?_
  rintro e u3 ⟨rfl, hbu3⟩
  have Bu3 : Hid (Below w.heap.size w u3) := below_then (by repeat (first | (refine Below.setCell ?_ (by first | omega | (simp; done) | (simp; omega)) _) | (refine Below.alloc ?_ (by first | omega | (simp; done) | (simp; omega)) _) | (refine below_dn ?_ _) | exact Below.refl _ _ | exact Bu2.out)) hbu3
  have zu3 := hbu3.size
  try simp at zu3
  have qu3_0 : u2.heap.size < u3.heap.size := by omega
  have cu3_0_0 := hbu3.cell (p := ⟨u2.heap.size, 0, none⟩) (by first | (simp; done) | (simp; omega))
  simp (disch := first | (simp; done) | (simp; omega)) [go_sem] at cu3_0_0
  have cu3_0_1 := hbu3.cell (p := ⟨u2.heap.size, 1, none⟩) (by first | (simp; done) | (simp; omega))
  simp (disch := first | (simp; done) | (simp; omega)) [go_sem] at cu3_0_1
  have cu3_0_2 := hbu3.cell (p := ⟨u2.heap.size, 2, none⟩) (by first | (simp; done) | (simp; omega))
  simp (disch := first | (simp; done) | (simp; omega)) [go_sem] at cu3_0_2
  have cu3_0_3 := hbu3.cell (p := ⟨u2.heap.size, 3, none⟩) (by first | (simp; done) | (simp; omega))
  simp (disch := first | (simp; done) | (simp; omega)) [go_sem] at cu3_0_3
  have cu3_0_4 := hbu3.cell (p := ⟨u2.heap.size, 4, none⟩) (by first | (simp; done) | (simp; omega))
  simp (disch := first | (simp; done) | (simp; omega)) [go_sem] at cu3_0_4
  clear hbu3
  go_wp2_with fail
  refine (HQ'.out _).mono ?_
  rintro e u4 ⟨rfl, hbu4⟩
  have Bu4 : Hid (Below w.heap.size w u4) := below_then (by repeat (first | (refine Below.setCell ?_ (by first | omega | (simp; done) | (simp; omega)) _) | (refine Below.alloc ?_ (by first | omega | (simp; done) | (simp; omega)) _) | (refine below_dn ?_ _) | exact Below.refl _ _ | exact Bu3.out)) hbu4
  have zu4 := hbu4.size
  try simp at zu4
  have qu4_0 : u2.heap.size < u4.heap.size := by omega
  have cu4_0_0 := hbu4.cell (p := ⟨u2.heap.size, 0, none⟩) (by first | (simp; done) | (simp; omega))
  simp (disch := first | (simp; done) | (simp; omega)) [go_sem, cu3_0_0] at cu4_0_0
  clear cu3_0_0
  have cu4_0_1 := hbu4.cell (p := ⟨u2.heap.size, 1, none⟩) (by first | (simp; done) | (simp; omega))
  simp (disch := first | (simp; done) | (simp; omega)) [go_sem, cu3_0_1] at cu4_0_1
  clear cu3_0_1
  have cu4_0_2 := hbu4.cell (p := ⟨u2.heap.size, 2, none⟩) (by first | (simp; done) | (simp; omega))
  simp (disch := first | (simp; done) | (simp; omega)) [go_sem, cu3_0_2] at cu4_0_2
  clear cu3_0_2
  have cu4_0_3 := hbu4.cell (p := ⟨u2.heap.size, 3, none⟩) (by first | (simp; done) | (simp; omega))
  simp (disch := first | (simp; done) | (simp; omega)) [go_sem, cu3_0_3] at cu4_0_3
  clear cu3_0_3
  have cu4_0_4 := hbu4.cell (p := ⟨u2.heap.size, 4, none⟩) (by first | (simp; done) | (simp; omega))
  simp (disch := first | (simp; done) | (simp; omega)) [go_sem, cu3_0_4] at cu4_0_4
  clear cu3_0_4
  clear hbu4
  go_wp2_with fail
  refine (new_any _ [(b, N)] _ (regsLit _ [(b, N)] 34) HR1.out (by simp) OK1.out (by simp)).mono ?_
  rintro e u5 ⟨p, ib, qb, rfl, hm, -, hbu5⟩
  have Bu5 : Hid (Below w.heap.size w u5) := below_then (by repeat (first | (refine Below.setCell ?_ (by first | omega | (simp; done) | (simp; omega)) _) | (refine Below.alloc ?_ (by first | omega | (simp; done) | (simp; omega)) _) | (refine below_dn ?_ _) | exact Below.refl _ _ | exact Bu4.out)) hbu5
  have zu5 := hbu5.size
  try simp at zu5
  have qu5_0 : u2.heap.size < u5.heap.size := by omega
  have cu5_0_0 := hbu5.cell (p := ⟨u2.heap.size, 0, none⟩) (by first | (simp; done) | (simp; omega))
  simp (disch := first | (simp; done) | (simp; omega)) [go_sem, cu4_0_0] at cu5_0_0
  clear cu4_0_0
  have cu5_0_1 := hbu5.cell (p := ⟨u2.heap.size, 1, none⟩) (by first | (simp; done) | (simp; omega))
  simp (disch := first | (simp; done) | (simp; omega)) [go_sem, cu4_0_1] at cu5_0_1
  clear cu4_0_1
  have cu5_0_2 := hbu5.cell (p := ⟨u2.heap.size, 2, none⟩) (by first | (simp; done) | (simp; omega))
  simp (disch := first | (simp; done) | (simp; omega)) [go_sem, cu4_0_2] at cu5_0_2
  clear cu4_0_2
  have cu5_0_3 := hbu5.cell (p := ⟨u2.heap.size, 3, none⟩) (by first | (simp; done) | (simp; omega))
  simp (disch := first | (simp; done) | (simp; omega)) [go_sem, cu4_0_3] at cu5_0_3
  clear cu4_0_3
  have cu5_0_4 := hbu5.cell (p := ⟨u2.heap.size, 4, none⟩) (by first | (simp; done) | (simp; omega))
  simp (disch := first | (simp; done) | (simp; omega)) [go_sem, cu4_0_4] at cu5_0_4
  clear cu4_0_4
  have MA := hid_mk hm
  clear hbu5
  clear hm
  go_wp2_with fail
  refine (new_any _ [(b, N1)] _ (regsLit _ [(b, N1)] 34) HR2.out (by simp) OK2.out (by simp)).mono ?_
  rintro e u6 ⟨p2, ib2, qb2, rfl, hm, -, hbu6⟩
  have Bu6 : Hid (Below w.heap.size w u6) := below_then (by repeat (first | (refine Below.setCell ?_ (by first | omega | (simp; done) | (simp; omega)) _) | (refine Below.alloc ?_ (by first | omega | (simp; done) | (simp; omega)) _) | (refine below_dn ?_ _) | exact Below.refl _ _ | exact Bu5.out)) hbu6
  have zu6 := hbu6.size
  try simp at zu6
  have qu6_0 : u2.heap.size < u6.heap.size := by omega
  have cu6_0_0 := hbu6.cell (p := ⟨u2.heap.size, 0, none⟩) (by first | (simp; done) | (simp; omega))
  simp (disch := first | (simp; done) | (simp; omega)) [go_sem, cu5_0_0] at cu6_0_0
  clear cu5_0_0
  have cu6_0_1 := hbu6.cell (p := ⟨u2.heap.size, 1, none⟩) (by first | (simp; done) | (simp; omega))
  simp (disch := first | (simp; done) | (simp; omega)) [go_sem, cu5_0_1] at cu6_0_1
  clear cu5_0_1
  have cu6_0_2 := hbu6.cell (p := ⟨u2.heap.size, 2, none⟩) (by first | (simp; done) | (simp; omega))
  simp (disch := first | (simp; done) | (simp; omega)) [go_sem, cu5_0_2] at cu6_0_2
  clear cu5_0_2
  have cu6_0_3 := hbu6.cell (p := ⟨u2.heap.size, 3, none⟩) (by first | (simp; done) | (simp; omega))
  simp (disch := first | (simp; done) | (simp; omega)) [go_sem, cu5_0_3] at cu6_0_3
  clear cu5_0_3
  have cu6_0_4 := hbu6.cell (p := ⟨u2.heap.size, 4, none⟩) (by first | (simp; done) | (simp; omega))
  simp (disch := first | (simp; done) | (simp; omega)) [go_sem, cu5_0_4] at cu6_0_4
  clear cu5_0_4
  have MAu6 := hid_mk ((MA.out.below ((Below.refl _ _).alloc (Nat.le_refl _) _)).below hbu6)
  have MB := hid_mk hm
  clear hbu6
  clear hm
  go_wp2_with fail
  refine (F1.out ▸ fits_any p ib qb [(b, N)] _ true (1 + z) A s2 s3 _ MAu6.out UA.out US2.out US3.out).mono ?_
  rintro e u7 ⟨rfl, hbu7⟩
  have Bu7 : Hid (Below w.heap.size w u7) := below_then (by repeat (first | (refine Below.setCell ?_ (by first | omega | (simp; done) | (simp; omega)) _) | (refine Below.alloc ?_ (by first | omega | (simp; done) | (simp; omega)) _) | (refine below_dn ?_ _) | exact Below.refl _ _ | exact Bu6.out)) hbu7
  have zu7 := hbu7.size
  try simp at zu7
  have qu7_0 : u2.heap.size < u7.heap.size := by omega
  have cu7_0_0 := hbu7.cell (p := ⟨u2.heap.size, 0, none⟩) (by first | (simp; done) | (simp; omega))
  simp (disch := first | (simp; done) | (simp; omega)) [go_sem, cu6_0_0] at cu7_0_0
  clear cu6_0_0
  have cu7_0_1 := hbu7.cell (p := ⟨u2.heap.size, 1, none⟩) (by first | (simp; done) | (simp; omega))
  simp (disch := first | (simp; done) | (simp; omega)) [go_sem, cu6_0_1] at cu7_0_1
  clear cu6_0_1
  have cu7_0_2 := hbu7.cell (p := ⟨u2.heap.size, 2, none⟩) (by first | (simp; done) | (simp; omega))
  simp (disch := first | (simp; done) | (simp; omega)) [go_sem, cu6_0_2] at cu7_0_2
  clear cu6_0_2
  have cu7_0_3 := hbu7.cell (p := ⟨u2.heap.size, 3, none⟩) (by first | (simp; done) | (simp; omega))
  simp (disch := first | (simp; done) | (simp; omega)) [go_sem, cu6_0_3] at cu7_0_3
  clear cu6_0_3
  have cu7_0_4 := hbu7.cell (p := ⟨u2.heap.size, 4, none⟩) (by first | (simp; done) | (simp; omega))
  simp (disch := first | (simp; done) | (simp; omega)) [go_sem, cu6_0_4] at cu7_0_4
  clear cu6_0_4
  have MAu7 := hid_mk (MAu6.out.below hbu7)
  have MBu7 := hid_mk (MB.out.below hbu7)
  clear hbu7
  go_wp2_with fail
  refine (F2.out ▸ fits_any p2 ib2 qb2 [(b, N1)] _ true (1 + z) A s2 s3 _ MBu7.out UA.out US2.out US3.out).mono ?_
  rintro e u8 ⟨rfl, hbu8⟩
  have Bu8 : Hid (Below w.heap.size w u8) := below_then (by repeat (first | (refine Below.setCell ?_ (by first | omega | (simp; done) | (simp; omega)) _) | (refine Below.alloc ?_ (by first | omega | (simp; done) | (simp; omega)) _) | (refine below_dn ?_ _) | exact Below.refl _ _ | exact Bu7.out)) hbu8
  have zu8 := hbu8.size
  try simp at zu8
  have qu8_0 : u2.heap.size < u8.heap.size := by omega
  have cu8_0_0 := hbu8.cell (p := ⟨u2.heap.size, 0, none⟩) (by first | (simp; done) | (simp; omega))
  simp (disch := first | (simp; done) | (simp; omega)) [go_sem, cu7_0_0] at cu8_0_0
  clear cu7_0_0
  have cu8_0_1 := hbu8.cell (p := ⟨u2.heap.size, 1, none⟩) (by first | (simp; done) | (simp; omega))
  simp (disch := first | (simp; done) | (simp; omega)) [go_sem, cu7_0_1] at cu8_0_1
  clear cu7_0_1
  have cu8_0_2 := hbu8.cell (p := ⟨u2.heap.size, 2, none⟩) (by first | (simp; done) | (simp; omega))
  simp (disch := first | (simp; done) | (simp; omega)) [go_sem, cu7_0_2] at cu8_0_2
  clear cu7_0_2
  have cu8_0_3 := hbu8.cell (p := ⟨u2.heap.size, 3, none⟩) (by first | (simp; done) | (simp; omega))
  simp (disch := first | (simp; done) | (simp; omega)) [go_sem, cu7_0_3] at cu8_0_3
  clear cu7_0_3
  have cu8_0_4 := hbu8.cell (p := ⟨u2.heap.size, 4, none⟩) (by first | (simp; done) | (simp; omega))
  simp (disch := first | (simp; done) | (simp; omega)) [go_sem, cu7_0_4] at cu8_0_4
  clear cu7_0_4
  have MAu8 := hid_mk (MAu7.out.below hbu8)
  have MBu8 := hid_mk (MBu7.out.below hbu8)
  clear hbu8
  go_wp2_with fail
  go_ret
  exact ⟨rfl, Bu8.out⟩

set_option maxRecDepth 100000 in
set_option maxHeartbeats 4000000 in
theorem core_false (a1 a2 b z : Int) (w : World) (eb : a2.tmod 100001 = b) (hb0 : 0 ≤ b) (hb1 : b ≤ 100000) (hz0 : 0 ≤ z) (hz1 : z < 256) (Hz : a1 % 256 = z) :
    Calls Try.prog 6 #[.bool false, .int .i64 a1, .int .u64 a2] w fun e w' => e = .returned (.bool true) ∧ Below w.heap.size w w' := by
  have Hz' := hid_mk Hz
  clear Hz
  go_enter Try.func6, Try.ntmps6
  go_wp2_with fail
  refine (lives_any _).mono ?_
  rintro e u1 ⟨rfl, hb⟩
  have Bu1 := hid_mk hb
  have zu1 := hb.size
  clear hb
  go_wp2_with fail
  refine (pick_at _ _ _ _ (by omega) (by omega) Hz'.out).mono ?_
  rintro e w' ⟨rfl, rfl⟩
  go_wp2_with fail
  go_loop [7] (fun k => ∃ j : Nat, j ≤ 8 ∧ k = .int .i64 (pow2 j)) (fun k => (256 - intOf k).toNat)
  case atStart => exact ⟨0, by omega, rfl⟩
  case round =>
    obtain ⟨j, hj, rfl⟩ := hrel
    have hp := pow2_pos j
    have hle := pow2_le (j := j) (k := 8) hj
    have e8 : pow2 8 = 256 := by decide
    by_cases hlt : pow2 j < 1 + z
    · have hj8 : j < 8 := by
        by_cases h : j = 8
        · rw [h] at hlt
          omega
        · omega
      have hd := pow2_succ j
      have hle2 := pow2_le (j := j + 1) (k := 8) (by omega)
      go_wp2_with fail
      go_round
      case rel => exact ⟨j + 1, by omega, by rw [hd]⟩
      case measure => simp [intOf]; omega
    · have hge : 1 + z ≤ pow2 j := by omega
      have hs : szB false (pow2 j) = true := powI_some j (by omega)
      have hS256 : pow2 j ≤ 256 := by omega
      clear hlt hle e8
      generalize pow2 j = S at *
      obtain ⟨A, s2, s3, N, N1, D, G, C, HP, HC, HQ, ok1, ok2, f1, f2, e1, uA, us2, us3, uN, uN1, g1, g2, g3, g4, g5, g6⟩ := plc false S b hs hS256 hb0 hb1
      have HP' := hid_mk HP
      have HC' := hid_mk HC
      have HQ' := hid_mk HQ
      have OK1 := hid_mk ok1
      have OK2 := hid_mk ok2
      have F1 := hid_mk f1
      have F2 := hid_mk f2
      have UA := hid_mk uA
      have US2 := hid_mk us2
      have US3 := hid_mk us3
      have HR1 : Hid (isRegs [(b, N)]) := fun r hr => by
        obtain rfl : r = (b, N) := by simpa using hr
        exact ⟨⟨hb0, by simp only []; omega⟩, uN⟩
      have HR2 : Hid (isRegs [(b, N1)]) := fun r hr => by
        obtain rfl : r = (b, N1) := by simpa using hr
        exact ⟨⟨hb0, by simp only []; omega⟩, uN1⟩
      clear HP HC HQ ok1 ok2 f1 f2 uA us2 us3 uN uN1
      go_wp2_with fail
      refine (HP'.out _).mono ?_
      rintro e u2 ⟨rfl, hbu2⟩
      have Bu2 : Hid (Below w.heap.size w u2) := below_then (by repeat (first | (refine Below.setCell ?_ (by first | omega | (simp; done) | (simp; omega)) _) | (refine Below.alloc ?_ (by first | omega | (simp; done) | (simp; omega)) _) | (refine below_dn ?_ _) | exact Below.refl _ _ | exact Bu1.out)) hbu2
      have zu2 := hbu2.size
      try simp at zu2
      clear hbu2
      go_wp2_with fail
      refine (HC'.out _).mono ?_
      rintro e u3 ⟨rfl, hbu3⟩
      have Bu3 : Hid (Below w.heap.size w u3) := below_then (by repeat (first | (refine Below.setCell ?_ (by first | omega | (simp; done) | (simp; omega)) _) | (refine Below.alloc ?_ (by first | omega | (simp; done) | (simp; omega)) _) | (refine below_dn ?_ _) | exact Below.refl _ _ | exact Bu2.out)) hbu3
      have zu3 := hbu3.size
      try simp at zu3
      have qu3_0 : u2.heap.size < u3.heap.size := by omega
      have cu3_0_0 := hbu3.cell (p := ⟨u2.heap.size, 0, none⟩) (by first | (simp; done) | (simp; omega))
      simp (disch := first | (simp; done) | (simp; omega)) [go_sem] at cu3_0_0
      have cu3_0_1 := hbu3.cell (p := ⟨u2.heap.size, 1, none⟩) (by first | (simp; done) | (simp; omega))
      simp (disch := first | (simp; done) | (simp; omega)) [go_sem] at cu3_0_1
      have cu3_0_2 := hbu3.cell (p := ⟨u2.heap.size, 2, none⟩) (by first | (simp; done) | (simp; omega))
      simp (disch := first | (simp; done) | (simp; omega)) [go_sem] at cu3_0_2
      have cu3_0_3 := hbu3.cell (p := ⟨u2.heap.size, 3, none⟩) (by first | (simp; done) | (simp; omega))
      simp (disch := first | (simp; done) | (simp; omega)) [go_sem] at cu3_0_3
      have cu3_0_4 := hbu3.cell (p := ⟨u2.heap.size, 4, none⟩) (by first | (simp; done) | (simp; omega))
      simp (disch := first | (simp; done) | (simp; omega)) [go_sem] at cu3_0_4
      clear hbu3
      go_wp2_with fail
      refine (HQ'.out _).mono ?_
      rintro e u4 ⟨rfl, hbu4⟩
      have Bu4 : Hid (Below w.heap.size w u4) := below_then (by repeat (first | (refine Below.setCell ?_ (by first | omega | (simp; done) | (simp; omega)) _) | (refine Below.alloc ?_ (by first | omega | (simp; done) | (simp; omega)) _) | (refine below_dn ?_ _) | exact Below.refl _ _ | exact Bu3.out)) hbu4
      have zu4 := hbu4.size
      try simp at zu4
      have qu4_0 : u2.heap.size < u4.heap.size := by omega
      have cu4_0_0 := hbu4.cell (p := ⟨u2.heap.size, 0, none⟩) (by first | (simp; done) | (simp; omega))
      simp (disch := first | (simp; done) | (simp; omega)) [go_sem, cu3_0_0] at cu4_0_0
      clear cu3_0_0
      have cu4_0_1 := hbu4.cell (p := ⟨u2.heap.size, 1, none⟩) (by first | (simp; done) | (simp; omega))
      simp (disch := first | (simp; done) | (simp; omega)) [go_sem, cu3_0_1] at cu4_0_1
      clear cu3_0_1
      have cu4_0_2 := hbu4.cell (p := ⟨u2.heap.size, 2, none⟩) (by first | (simp; done) | (simp; omega))
      simp (disch := first | (simp; done) | (simp; omega)) [go_sem, cu3_0_2] at cu4_0_2
      clear cu3_0_2
      have cu4_0_3 := hbu4.cell (p := ⟨u2.heap.size, 3, none⟩) (by first | (simp; done) | (simp; omega))
      simp (disch := first | (simp; done) | (simp; omega)) [go_sem, cu3_0_3] at cu4_0_3
      clear cu3_0_3
      have cu4_0_4 := hbu4.cell (p := ⟨u2.heap.size, 4, none⟩) (by first | (simp; done) | (simp; omega))
      simp (disch := first | (simp; done) | (simp; omega)) [go_sem, cu3_0_4] at cu4_0_4
      clear cu3_0_4
      clear hbu4
      go_wp2_with fail
      refine (new_any _ [(b, N)] _ (regsLit _ [(b, N)] 34) HR1.out (by simp) OK1.out (by simp)).mono ?_
      rintro e u5 ⟨p, ib, qb, rfl, hm, -, hbu5⟩
      have Bu5 : Hid (Below w.heap.size w u5) := below_then (by repeat (first | (refine Below.setCell ?_ (by first | omega | (simp; done) | (simp; omega)) _) | (refine Below.alloc ?_ (by first | omega | (simp; done) | (simp; omega)) _) | (refine below_dn ?_ _) | exact Below.refl _ _ | exact Bu4.out)) hbu5
      have zu5 := hbu5.size
      try simp at zu5
      have qu5_0 : u2.heap.size < u5.heap.size := by omega
      have cu5_0_0 := hbu5.cell (p := ⟨u2.heap.size, 0, none⟩) (by first | (simp; done) | (simp; omega))
      simp (disch := first | (simp; done) | (simp; omega)) [go_sem, cu4_0_0] at cu5_0_0
      clear cu4_0_0
      have cu5_0_1 := hbu5.cell (p := ⟨u2.heap.size, 1, none⟩) (by first | (simp; done) | (simp; omega))
      simp (disch := first | (simp; done) | (simp; omega)) [go_sem, cu4_0_1] at cu5_0_1
      clear cu4_0_1
      have cu5_0_2 := hbu5.cell (p := ⟨u2.heap.size, 2, none⟩) (by first | (simp; done) | (simp; omega))
      simp (disch := first | (simp; done) | (simp; omega)) [go_sem, cu4_0_2] at cu5_0_2
      clear cu4_0_2
      have cu5_0_3 := hbu5.cell (p := ⟨u2.heap.size, 3, none⟩) (by first | (simp; done) | (simp; omega))
      simp (disch := first | (simp; done) | (simp; omega)) [go_sem, cu4_0_3] at cu5_0_3
      clear cu4_0_3
      have cu5_0_4 := hbu5.cell (p := ⟨u2.heap.size, 4, none⟩) (by first | (simp; done) | (simp; omega))
      simp (disch := first | (simp; done) | (simp; omega)) [go_sem, cu4_0_4] at cu5_0_4
      clear cu4_0_4
      have MA := hid_mk hm
      clear hbu5
      clear hm
      go_wp2_with fail
      refine (new_any _ [(b, N1)] _ (regsLit _ [(b, N1)] 34) HR2.out (by simp) OK2.out (by simp)).mono ?_
      rintro e u6 ⟨p2, ib2, qb2, rfl, hm, -, hbu6⟩
      have Bu6 : Hid (Below w.heap.size w u6) := below_then (by repeat (first | (refine Below.setCell ?_ (by first | omega | (simp; done) | (simp; omega)) _) | (refine Below.alloc ?_ (by first | omega | (simp; done) | (simp; omega)) _) | (refine below_dn ?_ _) | exact Below.refl _ _ | exact Bu5.out)) hbu6
      have zu6 := hbu6.size
      try simp at zu6
      have qu6_0 : u2.heap.size < u6.heap.size := by omega
      have cu6_0_0 := hbu6.cell (p := ⟨u2.heap.size, 0, none⟩) (by first | (simp; done) | (simp; omega))
      simp (disch := first | (simp; done) | (simp; omega)) [go_sem, cu5_0_0] at cu6_0_0
      clear cu5_0_0
      have cu6_0_1 := hbu6.cell (p := ⟨u2.heap.size, 1, none⟩) (by first | (simp; done) | (simp; omega))
      simp (disch := first | (simp; done) | (simp; omega)) [go_sem, cu5_0_1] at cu6_0_1
      clear cu5_0_1
      have cu6_0_2 := hbu6.cell (p := ⟨u2.heap.size, 2, none⟩) (by first | (simp; done) | (simp; omega))
      simp (disch := first | (simp; done) | (simp; omega)) [go_sem, cu5_0_2] at cu6_0_2
      clear cu5_0_2
      have cu6_0_3 := hbu6.cell (p := ⟨u2.heap.size, 3, none⟩) (by first | (simp; done) | (simp; omega))
      simp (disch := first | (simp; done) | (simp; omega)) [go_sem, cu5_0_3] at cu6_0_3
      clear cu5_0_3
      have cu6_0_4 := hbu6.cell (p := ⟨u2.heap.size, 4, none⟩) (by first | (simp; done) | (simp; omega))
      simp (disch := first | (simp; done) | (simp; omega)) [go_sem, cu5_0_4] at cu6_0_4
      clear cu5_0_4
      have MAu6 := hid_mk ((MA.out.below ((Below.refl _ _).alloc (Nat.le_refl _) _)).below hbu6)
      have MB := hid_mk hm
      clear hbu6
      clear hm
      go_wp2_with fail
      refine (F1.out ▸ fits_any p ib qb [(b, N)] _ false S A s2 s3 _ MAu6.out UA.out US2.out US3.out).mono ?_
      rintro e u7 ⟨rfl, hbu7⟩
      have Bu7 : Hid (Below w.heap.size w u7) := below_then (by repeat (first | (refine Below.setCell ?_ (by first | omega | (simp; done) | (simp; omega)) _) | (refine Below.alloc ?_ (by first | omega | (simp; done) | (simp; omega)) _) | (refine below_dn ?_ _) | exact Below.refl _ _ | exact Bu6.out)) hbu7
      have zu7 := hbu7.size
      try simp at zu7
      have qu7_0 : u2.heap.size < u7.heap.size := by omega
      have cu7_0_0 := hbu7.cell (p := ⟨u2.heap.size, 0, none⟩) (by first | (simp; done) | (simp; omega))
      simp (disch := first | (simp; done) | (simp; omega)) [go_sem, cu6_0_0] at cu7_0_0
      clear cu6_0_0
      have cu7_0_1 := hbu7.cell (p := ⟨u2.heap.size, 1, none⟩) (by first | (simp; done) | (simp; omega))
      simp (disch := first | (simp; done) | (simp; omega)) [go_sem, cu6_0_1] at cu7_0_1
      clear cu6_0_1
      have cu7_0_2 := hbu7.cell (p := ⟨u2.heap.size, 2, none⟩) (by first | (simp; done) | (simp; omega))
      simp (disch := first | (simp; done) | (simp; omega)) [go_sem, cu6_0_2] at cu7_0_2
      clear cu6_0_2
      have cu7_0_3 := hbu7.cell (p := ⟨u2.heap.size, 3, none⟩) (by first | (simp; done) | (simp; omega))
      simp (disch := first | (simp; done) | (simp; omega)) [go_sem, cu6_0_3] at cu7_0_3
      clear cu6_0_3
      have cu7_0_4 := hbu7.cell (p := ⟨u2.heap.size, 4, none⟩) (by first | (simp; done) | (simp; omega))
      simp (disch := first | (simp; done) | (simp; omega)) [go_sem, cu6_0_4] at cu7_0_4
      clear cu6_0_4
      have MAu7 := hid_mk (MAu6.out.below hbu7)
      have MBu7 := hid_mk (MB.out.below hbu7)
      clear hbu7
      go_wp2_with fail
      refine (F2.out ▸ fits_any p2 ib2 qb2 [(b, N1)] _ false S A s2 s3 _ MBu7.out UA.out US2.out US3.out).mono ?_
      rintro e u8 ⟨rfl, hbu8⟩
      have Bu8 : Hid (Below w.heap.size w u8) := below_then (by repeat (first | (refine Below.setCell ?_ (by first | omega | (simp; done) | (simp; omega)) _) | (refine Below.alloc ?_ (by first | omega | (simp; done) | (simp; omega)) _) | (refine below_dn ?_ _) | exact Below.refl _ _ | exact Bu7.out)) hbu8
      have zu8 := hbu8.size
      try simp at zu8
      have qu8_0 : u2.heap.size < u8.heap.size := by omega
      have cu8_0_0 := hbu8.cell (p := ⟨u2.heap.size, 0, none⟩) (by first | (simp; done) | (simp; omega))
      simp (disch := first | (simp; done) | (simp; omega)) [go_sem, cu7_0_0] at cu8_0_0
      clear cu7_0_0
      have cu8_0_1 := hbu8.cell (p := ⟨u2.heap.size, 1, none⟩) (by first | (simp; done) | (simp; omega))
      simp (disch := first | (simp; done) | (simp; omega)) [go_sem, cu7_0_1] at cu8_0_1
      clear cu7_0_1
      have cu8_0_2 := hbu8.cell (p := ⟨u2.heap.size, 2, none⟩) (by first | (simp; done) | (simp; omega))
      simp (disch := first | (simp; done) | (simp; omega)) [go_sem, cu7_0_2] at cu8_0_2
      clear cu7_0_2
      have cu8_0_3 := hbu8.cell (p := ⟨u2.heap.size, 3, none⟩) (by first | (simp; done) | (simp; omega))
      simp (disch := first | (simp; done) | (simp; omega)) [go_sem, cu7_0_3] at cu8_0_3
      clear cu7_0_3
      have cu8_0_4 := hbu8.cell (p := ⟨u2.heap.size, 4, none⟩) (by first | (simp; done) | (simp; omega))
      simp (disch := first | (simp; done) | (simp; omega)) [go_sem, cu7_0_4] at cu8_0_4
      clear cu7_0_4
      have MAu8 := hid_mk (MAu7.out.below hbu8)
      have MBu8 := hid_mk (MBu7.out.below hbu8)
      clear hbu8
      go_wp2_with fail
      go_ret
      exact ⟨rfl, Bu8.out⟩

theorem walk (a0 : Bool) (a1 a2 : Int) (w1 : (Lit.int .i64 a1).wf = true) (w2 : (Lit.int .u64 a2).wf = true) (w : World) :
    Calls Try.prog 6 #[.bool a0, .int .i64 a1, .int .u64 a2] w fun e w' => e = .returned (.bool true) ∧ Below w.heap.size w w' := by
  have hb2 := bounds_u64 w2
  have eT : a2.tmod 100001 = a2 % 100001 := Int.tmod_eq_emod_of_nonneg (by omega)
  have h1 := Int.emod_lt_of_pos a1 (show (0 : Int) < 256 by omega)
  cases a0
  · exact core_false a1 a2 (a2 % 100001) (a1 % 256) w eT (by omega) (by omega) (by omega) h1 rfl
  · exact core_true a1 a2 (a2 % 100001) (a1 % 256) w eT (by omega) (by omega) (by omega) h1 rfl

/-! ### the row's frame -/
theorem own : ownKnob Try.prog.godebug = none := by kernel_rfl
theorem laidOut : laidOutB Try.prog = true := by kernel_rfl

set_option maxRecDepth 100000 in
theorem lifted (os : Os) (started : os.Started) (H : Type) (enc : TypeId × Value → H) :
    ReturnsInHanded {} Try.checked os 6 .any (Rows.layoutPlacesSpec.pre6 enc Try.prog Try.f6 Rows.layoutPlacesRow.domain false) (Rows.layoutPlacesSpec.post enc Try.prog Try.f6 false true false false) := by
  refine returnsInHanded_of_change (C := Try.checked) own started (by kernel_rfl) Try.func6
    (ChangeSpec.witness6 (enc := enc) (C := Try.checked) false ⟨#[], #[.bool false, .int .i64 0, .int .u64 0], []⟩ 8 (by kernel_rfl) (by kernel_rfl) (by kernel_rfl) (by kernel_rfl)) ?_
  intro W base args ds gs before hval0 hW hcnd _
  have hval : ∀ (j : Nat) t v, Try.f6.params[j]? = some t → args[j]? = some v → Value.okWide Try.prog W .any base t v := hval0
  have hW' := hW
  obtain ⟨p, q, hA0, hV, rfl, hfz, hnd⟩ := hW
  have hA : DataW.TrodAll enc Try.prog W 0 (fun _ => true) true Try.f6.params.toList args.toList ds p := hA0
  rw [Try.params6] at hA hval
  obtain ⟨v0, vs0, d0, ds0, p0, q0, hargs, rfl, rfl, h0, r0⟩ := trodAll_cons hA
  obtain ⟨v1, vs1, d1, ds1, p1, q1, rfl, rfl, rfl, h1, r1⟩ := trodAll_cons r0
  obtain ⟨v2, vs2, d2, ds2, p2, q2, rfl, rfl, rfl, h2, r2⟩ := trodAll_cons r1
  obtain ⟨rfl, rfl, rfl⟩ := trodAll_nil r2
  obtain rfl : args = #[v0, v1, v2] := by cases args; simp_all
  obtain ⟨rfl, rfl⟩ := trodVars_none hV
  have k0 := h0
  have lt0 : ∀ x ∈ p0, x.block < W.heap.size := by
    obtain ⟨m, hm⟩ := k0
    exact DataW.trod_lt m _ _ _ hm
  have k1 := h1
  have lt1 : ∀ x ∈ p1, x.block < W.heap.size := by
    obtain ⟨m, hm⟩ := k1
    exact DataW.trod_lt m _ _ _ hm
  have k2 := h2
  have lt2 : ∀ x ∈ p2, x.block < W.heap.size := by
    obtain ⟨m, hm⟩ := k2
    exact DataW.trod_lt m _ _ _ hm
  obtain ⟨a0, rfl, rfl, rfl⟩ := open_bool Try.underlying4 (hval 0 4 v0 rfl rfl) h0
  obtain ⟨a1, rfl, rfl, rfl, w1⟩ := open_int Try.underlying3 (hval 1 3 v1 rfl rfl) h1
  obtain ⟨a2, rfl, rfl, rfl, w2⟩ := open_int Try.underlying22 (hval 2 22 v2 rfl rfl) h2
  clear hA0 hval0
  refine (walk a0 a1 a2 w1 w2 W).mono fun e W' ⟨he, bel⟩ => ?_
  subst he
  exact ⟨_, rfl, _, _, _, [], _, [], hW', trodAll_mk1 (shut_bool Try.underlying4 _), (trodAll_cons_mk (Below.trod laidOut (by kernel_rfl) (of_decide_eq_true (by kernel_rfl)) k0 bel lt0) (trodAll_cons_mk (Below.trod laidOut (by kernel_rfl) (of_decide_eq_true (by kernel_rfl)) k1 bel lt1) (trodAll_cons_mk (Below.trod laidOut (by kernel_rfl) (of_decide_eq_true (by kernel_rfl)) k2 bel lt2) trodAll_mk0))), rfl, bel.frame _, fun h => by cases h⟩

theorem over : Rows.layoutPlacesRow.holds Try.pinned (OpenSpec.ofChange Rows.layoutPlacesSpec) :=
  OpenClaim.holds_of_wide 6 Try.f6 rfl rfl rfl rfl rfl rfl rfl ⟨rfl, rfl, rfl, rfl, rfl⟩ rfl rfl rfl rfl rfl (by kernel_rfl) Try.func6 (by kernel_rfl)
    (of_decide_eq_true (by kernel_rfl)) (by unfold Func.isWrapper; first | (rw [if_pos (by decide +kernel)]; kernel_rfl) | (rw [if_neg (by decide +kernel)]; exact ⟨rfl, rfl⟩))
    (fun os started H enc _ => lifted os started H enc)

/-- THE STATEMENT -/
theorem layoutPlaces_holds : Rows.LayoutPlacesSaid := over
#print axioms layoutPlaces_holds
end Go.Proofs.Ytolflhnkdnjckaa.layoutPlaces
