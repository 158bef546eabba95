/-
  PROVED: dumbwaiterlaw04.LayoutNames returns true at every call, and what was in memory stays as it was. Conditions: none.
-/
import Derived.Test.YtolflhnkdnjckaaRows
import Derived.Test.YtolflhnkdnjckaaLay14
import Derived.WalkKit
import Derived.ProofKit
import Derived.OpenShut
import Derived.ShutString
import Derived.ChangeOld
import Derived.Below
import Derived.Carry
import Derived.Lib.SmallJoins
namespace Go.Proofs.Ytolflhnkdnjckaa.layoutNames
open Go.ChangeShapes Go.WideShapes Go.ChangeAt Go.RowKit
set_option linter.unusedVariables false


abbrev LN : List (Int × Int) := [(0, 103)]
theorem pl_n1 : plR false 6 0 = .returned (.tuple #[rV false 0 0 0 0, .int .u64 0, .int .i64 2]) := (pl_no (by decide +kernel)).symm
theorem pl_n3 : plR true 1 18446744073709551596 = .returned (.tuple #[rV false 0 0 0 0, .int .u64 0, .int .i64 2]) := (pl_no (by decide +kernel)).symm
theorem pl_n2 : plR true 6 0 = .returned (.tuple #[rV true 6 0 96 100, .int .u64 104, .int .i64 0]) := by
  have h : plOk true 6 0 = true := by decide +kernel
  rw [← pl_yes h, show alV 0 16 = 0 from by decide +kernel, show cO true 6 = 100 from by decide +kernel, show totL true 6 = 104 from by decide +kernel]
  rfl

set_option maxRecDepth 100000 in
set_option maxHeartbeats 4000000 in
theorem walk (w : World) :
    Calls Try.prog 3 #[] w fun e w' => e = .returned (.bool true) ∧ Below w.heap.size w w' := by
  have P1 := place_lay false 6 0
  have P2 := place_lay true 6 0
  have P3 := place_lay true 1 18446744073709551596
  rw [pl_n1] at P1
  rw [pl_n2] at P2
  rw [pl_n3] at P3
  have P1' := hid_mk P1
  have P2' := hid_mk P2
  have P3' := hid_mk P3
  clear P1 P2 P3
  have X0 := fun w => where_any true 6 0 96 100 3 0 w (by decide) (by decide) (by decide)
  rw [show whA true 6 0 96 100 3 0 = 0 from by decide +kernel, show whN true 6 0 96 100 3 0 = 0 from by decide +kernel, show whE true 6 0 96 100 3 0 = 2 from by decide +kernel] at X0
  have X0' := hid_mk X0
  clear X0
  have X1 := fun w => where_any true 6 0 96 100 11 0 w (by decide) (by decide) (by decide)
  rw [show whA true 6 0 96 100 11 0 = 100 from by decide +kernel, show whN true 6 0 96 100 11 0 = 4 from by decide +kernel, show whE true 6 0 96 100 11 0 = 0 from by decide +kernel] at X1
  have X1' := hid_mk X1
  clear X1
  have X2 := fun w => where_any true 6 0 96 100 11 1 w (by decide) (by decide) (by decide)
  rw [show whA true 6 0 96 100 11 1 = 0 from by decide +kernel, show whN true 6 0 96 100 11 1 = 0 from by decide +kernel, show whE true 6 0 96 100 11 1 = 2 from by decide +kernel] at X2
  have X2' := hid_mk X2
  clear X2
  have hf : fitR LN true 6 0 96 100 = 5 := by decide +kernel
  have hc : chkR false 4 8 0 0 = 2 := by decide +kernel
  have O1 := fun w => over_any true 6 0 96 100 103 1 w (by decide) (by decide) (by decide) (by decide) (by decide)
  have O2 := fun w => over_any true 6 0 96 100 104 9 w (by decide) (by decide) (by decide) (by decide) (by decide)
  have O3 := fun w => over_any true 6 0 96 100 0 0 w (by decide) (by decide) (by decide) (by decide) (by decide)
  have K := fun w => check_lay false 4 8 0 0 w (by decide) (by decide) (by decide)
  rw [show ovB true 6 0 96 100 103 1 = true from by decide +kernel] at O1
  rw [show ovB true 6 0 96 100 104 9 = false from by decide +kernel] at O2
  rw [show ovB true 6 0 96 100 0 0 = false from by decide +kernel] at O3
  rw [hc] at K
  have O1' := hid_mk O1
  have O2' := hid_mk O2
  have O3' := hid_mk O3
  have K' := hid_mk K
  have hq : ∀ u, (binOp .eql 24 (rV true 6 0 96 100) (rV true 6 0 96 100)).run Try.prog u = .ok (.bool true) u := fun u => by rw [eqRg, sameRg_self]
  clear O1 O2 O3 K hc
  go_enter Try.func3, Try.ntmps3
  go_wp2_with fail
  refine (P1'.out _ (by decide)).mono ?_
  rintro e u1 ⟨rfl, hbu1⟩
  have Bu1 : Hid (Below w.heap.size w u1) := below_then (by repeat (first | (refine Below.setCell ?_ (by first | omega | (simp; done) | (simp; omega)) _) | (refine Below.alloc ?_ (by first | omega | (simp; done) | (simp; omega)) _) | (refine below_dn ?_ _) | exact Below.refl _ _)) hbu1
  have zu1 := hbu1.size
  try simp at zu1
  clear hbu1
  go_wp2_with fail
  refine (P2'.out _ (by decide)).mono ?_
  rintro e u2 ⟨rfl, hbu2⟩
  have Bu2 : Hid (Below w.heap.size w u2) := below_then (by repeat (first | (refine Below.setCell ?_ (by first | omega | (simp; done) | (simp; omega)) _) | (refine Below.alloc ?_ (by first | omega | (simp; done) | (simp; omega)) _) | (refine below_dn ?_ _) | exact Below.refl _ _ | exact Bu1.out)) hbu2
  have zu2 := hbu2.size
  try simp at zu2
  clear hbu2
  go_wp2_with fail
  refine (P3'.out _ (by decide)).mono ?_
  rintro e u3 ⟨rfl, hbu3⟩
  have Bu3 : Hid (Below w.heap.size w u3) := below_then (by repeat (first | (refine Below.setCell ?_ (by first | omega | (simp; done) | (simp; omega)) _) | (refine Below.alloc ?_ (by first | omega | (simp; done) | (simp; omega)) _) | (refine below_dn ?_ _) | exact Below.refl _ _ | exact Bu2.out)) hbu3
  have zu3 := hbu3.size
  try simp at zu3
  have qu3_0 : u2.heap.size < u3.heap.size := by omega
  have cu3_0_0 := hbu3.cell (p := ⟨u2.heap.size, 0, none⟩) (by first | (simp; done) | (simp; omega))
  simp (disch := first | (simp; done) | (simp; omega)) [go_sem] at cu3_0_0
  have cu3_0_1 := hbu3.cell (p := ⟨u2.heap.size, 1, none⟩) (by first | (simp; done) | (simp; omega))
  simp (disch := first | (simp; done) | (simp; omega)) [go_sem] at cu3_0_1
  have cu3_0_2 := hbu3.cell (p := ⟨u2.heap.size, 2, none⟩) (by first | (simp; done) | (simp; omega))
  simp (disch := first | (simp; done) | (simp; omega)) [go_sem] at cu3_0_2
  have cu3_0_3 := hbu3.cell (p := ⟨u2.heap.size, 3, none⟩) (by first | (simp; done) | (simp; omega))
  simp (disch := first | (simp; done) | (simp; omega)) [go_sem] at cu3_0_3
  have cu3_0_4 := hbu3.cell (p := ⟨u2.heap.size, 4, none⟩) (by first | (simp; done) | (simp; omega))
  simp (disch := first | (simp; done) | (simp; omega)) [go_sem] at cu3_0_4
  clear hbu3
  go_wp2_with fail
  refine (X0'.out _).mono ?_
  rintro e u4 ⟨rfl, hbu4⟩
  have Bu4 : Hid (Below w.heap.size w u4) := below_then (by repeat (first | (refine Below.setCell ?_ (by first | omega | (simp; done) | (simp; omega)) _) | (refine Below.alloc ?_ (by first | omega | (simp; done) | (simp; omega)) _) | (refine below_dn ?_ _) | exact Below.refl _ _ | exact Bu3.out)) hbu4
  have zu4 := hbu4.size
  try simp at zu4
  have qu4_0 : u2.heap.size < u4.heap.size := by omega
  have cu4_0_0 := hbu4.cell (p := ⟨u2.heap.size, 0, none⟩) (by first | (simp; done) | (simp; omega))
  simp (disch := first | (simp; done) | (simp; omega)) [go_sem, cu3_0_0] at cu4_0_0
  clear cu3_0_0
  have cu4_0_1 := hbu4.cell (p := ⟨u2.heap.size, 1, none⟩) (by first | (simp; done) | (simp; omega))
  simp (disch := first | (simp; done) | (simp; omega)) [go_sem, cu3_0_1] at cu4_0_1
  clear cu3_0_1
  have cu4_0_2 := hbu4.cell (p := ⟨u2.heap.size, 2, none⟩) (by first | (simp; done) | (simp; omega))
  simp (disch := first | (simp; done) | (simp; omega)) [go_sem, cu3_0_2] at cu4_0_2
  clear cu3_0_2
  have cu4_0_3 := hbu4.cell (p := ⟨u2.heap.size, 3, none⟩) (by first | (simp; done) | (simp; omega))
  simp (disch := first | (simp; done) | (simp; omega)) [go_sem, cu3_0_3] at cu4_0_3
  clear cu3_0_3
  have cu4_0_4 := hbu4.cell (p := ⟨u2.heap.size, 4, none⟩) (by first | (simp; done) | (simp; omega))
  simp (disch := first | (simp; done) | (simp; omega)) [go_sem, cu3_0_4] at cu4_0_4
  clear cu3_0_4
  clear hbu4
  go_wp2_with fail
  refine (X1'.out _).mono ?_
  rintro e u5 ⟨rfl, hbu5⟩
  have Bu5 : Hid (Below w.heap.size w u5) := below_then (by repeat (first | (refine Below.setCell ?_ (by first | omega | (simp; done) | (simp; omega)) _) | (refine Below.alloc ?_ (by first | omega | (simp; done) | (simp; omega)) _) | (refine below_dn ?_ _) | exact Below.refl _ _ | exact Bu4.out)) hbu5
  have zu5 := hbu5.size
  try simp at zu5
  have qu5_0 : u2.heap.size < u5.heap.size := by omega
  have cu5_0_0 := hbu5.cell (p := ⟨u2.heap.size, 0, none⟩) (by first | (simp; done) | (simp; omega))
  simp (disch := first | (simp; done) | (simp; omega)) [go_sem, cu4_0_0] at cu5_0_0
  clear cu4_0_0
  have cu5_0_1 := hbu5.cell (p := ⟨u2.heap.size, 1, none⟩) (by first | (simp; done) | (simp; omega))
  simp (disch := first | (simp; done) | (simp; omega)) [go_sem, cu4_0_1] at cu5_0_1
  clear cu4_0_1
  have cu5_0_2 := hbu5.cell (p := ⟨u2.heap.size, 2, none⟩) (by first | (simp; done) | (simp; omega))
  simp (disch := first | (simp; done) | (simp; omega)) [go_sem, cu4_0_2] at cu5_0_2
  clear cu4_0_2
  have cu5_0_3 := hbu5.cell (p := ⟨u2.heap.size, 3, none⟩) (by first | (simp; done) | (simp; omega))
  simp (disch := first | (simp; done) | (simp; omega)) [go_sem, cu4_0_3] at cu5_0_3
  clear cu4_0_3
  have cu5_0_4 := hbu5.cell (p := ⟨u2.heap.size, 4, none⟩) (by first | (simp; done) | (simp; omega))
  simp (disch := first | (simp; done) | (simp; omega)) [go_sem, cu4_0_4] at cu5_0_4
  clear cu4_0_4
  clear hbu5
  go_wp2_with fail
  refine (X2'.out _).mono ?_
  rintro e u6 ⟨rfl, hbu6⟩
  have Bu6 : Hid (Below w.heap.size w u6) := below_then (by repeat (first | (refine Below.setCell ?_ (by first | omega | (simp; done) | (simp; omega)) _) | (refine Below.alloc ?_ (by first | omega | (simp; done) | (simp; omega)) _) | (refine below_dn ?_ _) | exact Below.refl _ _ | exact Bu5.out)) hbu6
  have zu6 := hbu6.size
  try simp at zu6
  have qu6_0 : u2.heap.size < u6.heap.size := by omega
  have cu6_0_0 := hbu6.cell (p := ⟨u2.heap.size, 0, none⟩) (by first | (simp; done) | (simp; omega))
  simp (disch := first | (simp; done) | (simp; omega)) [go_sem, cu5_0_0] at cu6_0_0
  clear cu5_0_0
  have cu6_0_1 := hbu6.cell (p := ⟨u2.heap.size, 1, none⟩) (by first | (simp; done) | (simp; omega))
  simp (disch := first | (simp; done) | (simp; omega)) [go_sem, cu5_0_1] at cu6_0_1
  clear cu5_0_1
  have cu6_0_2 := hbu6.cell (p := ⟨u2.heap.size, 2, none⟩) (by first | (simp; done) | (simp; omega))
  simp (disch := first | (simp; done) | (simp; omega)) [go_sem, cu5_0_2] at cu6_0_2
  clear cu5_0_2
  have cu6_0_3 := hbu6.cell (p := ⟨u2.heap.size, 3, none⟩) (by first | (simp; done) | (simp; omega))
  simp (disch := first | (simp; done) | (simp; omega)) [go_sem, cu5_0_3] at cu6_0_3
  clear cu5_0_3
  have cu6_0_4 := hbu6.cell (p := ⟨u2.heap.size, 4, none⟩) (by first | (simp; done) | (simp; omega))
  simp (disch := first | (simp; done) | (simp; omega)) [go_sem, cu5_0_4] at cu6_0_4
  clear cu5_0_4
  clear hbu6
  go_wp2_with fail
  go_wp2_with fail
  refine (new_any _ LN _ (regsLit _ LN 34) (isRegs_of (by decide)) (by decide) (by decide) (by decide)).mono ?_
  rintro e u7 ⟨p, ib, qb, rfl, hm, ⟨hg1, hg2, hg3⟩, hbu7⟩
  have Bu7 : Hid (Below w.heap.size w u7) := below_then (by repeat (first | (refine Below.setCell ?_ (by first | omega | (simp; done) | (simp; omega)) _) | (refine Below.alloc ?_ (by first | omega | (simp; done) | (simp; omega)) _) | (refine below_dn ?_ _) | exact Below.refl _ _ | exact Bu6.out)) hbu7
  have zu7 := hbu7.size
  try simp at zu7
  have qu7_0 : u2.heap.size < u7.heap.size := by omega
  have cu7_0_0 := hbu7.cell (p := ⟨u2.heap.size, 0, none⟩) (by first | (simp; done) | (simp; omega))
  simp (disch := first | (simp; done) | (simp; omega)) [go_sem, cu6_0_0] at cu7_0_0
  clear cu6_0_0
  have cu7_0_1 := hbu7.cell (p := ⟨u2.heap.size, 1, none⟩) (by first | (simp; done) | (simp; omega))
  simp (disch := first | (simp; done) | (simp; omega)) [go_sem, cu6_0_1] at cu7_0_1
  clear cu6_0_1
  have cu7_0_2 := hbu7.cell (p := ⟨u2.heap.size, 2, none⟩) (by first | (simp; done) | (simp; omega))
  simp (disch := first | (simp; done) | (simp; omega)) [go_sem, cu6_0_2] at cu7_0_2
  clear cu6_0_2
  have cu7_0_3 := hbu7.cell (p := ⟨u2.heap.size, 3, none⟩) (by first | (simp; done) | (simp; omega))
  simp (disch := first | (simp; done) | (simp; omega)) [go_sem, cu6_0_3] at cu7_0_3
  clear cu6_0_3
  have cu7_0_4 := hbu7.cell (p := ⟨u2.heap.size, 4, none⟩) (by first | (simp; done) | (simp; omega))
  simp (disch := first | (simp; done) | (simp; omega)) [go_sem, cu6_0_4] at cu7_0_4
  clear cu6_0_4
  have gpu7 : w.heap.size ≤ ib := by
    have := Bu6.out.size
    simp at hg2
    omega
  have Mu7 := hid_mk hm
  clear hm hg1 hg2 hg3
  clear hbu7
  go_wp2_with fail
  refine (lives_any _).mono ?_
  rintro e u8 ⟨rfl, hbu8⟩
  have Bu8 : Hid (Below w.heap.size w u8) := below_then (by repeat (first | (refine Below.setCell ?_ (by first | omega | (simp; done) | (simp; omega)) _) | (refine Below.alloc ?_ (by first | omega | (simp; done) | (simp; omega)) _) | (refine below_dn ?_ _) | exact Below.refl _ _ | exact Bu7.out)) hbu8
  have zu8 := hbu8.size
  try simp at zu8
  have qu8_0 : u2.heap.size < u8.heap.size := by omega
  have cu8_0_0 := hbu8.cell (p := ⟨u2.heap.size, 0, none⟩) (by first | (simp; done) | (simp; omega))
  simp (disch := first | (simp; done) | (simp; omega)) [go_sem, cu7_0_0] at cu8_0_0
  clear cu7_0_0
  have cu8_0_1 := hbu8.cell (p := ⟨u2.heap.size, 1, none⟩) (by first | (simp; done) | (simp; omega))
  simp (disch := first | (simp; done) | (simp; omega)) [go_sem, cu7_0_1] at cu8_0_1
  clear cu7_0_1
  have cu8_0_2 := hbu8.cell (p := ⟨u2.heap.size, 2, none⟩) (by first | (simp; done) | (simp; omega))
  simp (disch := first | (simp; done) | (simp; omega)) [go_sem, cu7_0_2] at cu8_0_2
  clear cu7_0_2
  have cu8_0_3 := hbu8.cell (p := ⟨u2.heap.size, 3, none⟩) (by first | (simp; done) | (simp; omega))
  simp (disch := first | (simp; done) | (simp; omega)) [go_sem, cu7_0_3] at cu8_0_3
  clear cu7_0_3
  have cu8_0_4 := hbu8.cell (p := ⟨u2.heap.size, 4, none⟩) (by first | (simp; done) | (simp; omega))
  simp (disch := first | (simp; done) | (simp; omega)) [go_sem, cu7_0_4] at cu8_0_4
  clear cu7_0_4
  have Mu8 := hid_mk (Mu7.out.below hbu8)
  clear Mu7
  clear hbu8
  go_wp2_with fail
  refine (fits_nil true 6 0 96 100 _).mono ?_
  rintro e u9 ⟨rfl, hbu9⟩
  have Bu9 : Hid (Below w.heap.size w u9) := below_then (by repeat (first | (refine Below.setCell ?_ (by first | omega | (simp; done) | (simp; omega)) _) | (refine Below.alloc ?_ (by first | omega | (simp; done) | (simp; omega)) _) | (refine below_dn ?_ _) | exact Below.refl _ _ | exact Bu8.out)) hbu9
  have zu9 := hbu9.size
  try simp at zu9
  have qu9_0 : u2.heap.size < u9.heap.size := by omega
  have cu9_0_0 := hbu9.cell (p := ⟨u2.heap.size, 0, none⟩) (by first | (simp; done) | (simp; omega))
  simp (disch := first | (simp; done) | (simp; omega)) [go_sem, cu8_0_0] at cu9_0_0
  clear cu8_0_0
  have cu9_0_1 := hbu9.cell (p := ⟨u2.heap.size, 1, none⟩) (by first | (simp; done) | (simp; omega))
  simp (disch := first | (simp; done) | (simp; omega)) [go_sem, cu8_0_1] at cu9_0_1
  clear cu8_0_1
  have cu9_0_2 := hbu9.cell (p := ⟨u2.heap.size, 2, none⟩) (by first | (simp; done) | (simp; omega))
  simp (disch := first | (simp; done) | (simp; omega)) [go_sem, cu8_0_2] at cu9_0_2
  clear cu8_0_2
  have cu9_0_3 := hbu9.cell (p := ⟨u2.heap.size, 3, none⟩) (by first | (simp; done) | (simp; omega))
  simp (disch := first | (simp; done) | (simp; omega)) [go_sem, cu8_0_3] at cu9_0_3
  clear cu8_0_3
  have cu9_0_4 := hbu9.cell (p := ⟨u2.heap.size, 4, none⟩) (by first | (simp; done) | (simp; omega))
  simp (disch := first | (simp; done) | (simp; omega)) [go_sem, cu8_0_4] at cu9_0_4
  clear cu8_0_4
  have Mu9 := hid_mk (Mu8.out.below hbu9)
  clear Mu8
  clear hbu9
  go_wp2_with fail
  refine (hf ▸ fits_any p ib qb LN _ true 6 0 96 100 _ Mu9.out (by decide) (by decide) (by decide)).mono ?_
  rintro e u10 ⟨rfl, hbu10⟩
  have Bu10 : Hid (Below w.heap.size w u10) := below_then (by repeat (first | (refine Below.setCell ?_ (by first | omega | (simp; done) | (simp; omega)) _) | (refine Below.alloc ?_ (by first | omega | (simp; done) | (simp; omega)) _) | (refine below_dn ?_ _) | exact Below.refl _ _ | exact Bu9.out)) hbu10
  have zu10 := hbu10.size
  try simp at zu10
  have qu10_0 : u2.heap.size < u10.heap.size := by omega
  have cu10_0_0 := hbu10.cell (p := ⟨u2.heap.size, 0, none⟩) (by first | (simp; done) | (simp; omega))
  simp (disch := first | (simp; done) | (simp; omega)) [go_sem, cu9_0_0] at cu10_0_0
  clear cu9_0_0
  have cu10_0_1 := hbu10.cell (p := ⟨u2.heap.size, 1, none⟩) (by first | (simp; done) | (simp; omega))
  simp (disch := first | (simp; done) | (simp; omega)) [go_sem, cu9_0_1] at cu10_0_1
  clear cu9_0_1
  have cu10_0_2 := hbu10.cell (p := ⟨u2.heap.size, 2, none⟩) (by first | (simp; done) | (simp; omega))
  simp (disch := first | (simp; done) | (simp; omega)) [go_sem, cu9_0_2] at cu10_0_2
  clear cu9_0_2
  have cu10_0_3 := hbu10.cell (p := ⟨u2.heap.size, 3, none⟩) (by first | (simp; done) | (simp; omega))
  simp (disch := first | (simp; done) | (simp; omega)) [go_sem, cu9_0_3] at cu10_0_3
  clear cu9_0_3
  have cu10_0_4 := hbu10.cell (p := ⟨u2.heap.size, 4, none⟩) (by first | (simp; done) | (simp; omega))
  simp (disch := first | (simp; done) | (simp; omega)) [go_sem, cu9_0_4] at cu10_0_4
  clear cu9_0_4
  have Mu10 := hid_mk (Mu9.out.below hbu10)
  clear Mu9
  clear hbu10
  go_wp2_with fail
  refine (K'.out _).mono ?_
  rintro e u11 ⟨rfl, hbu11⟩
  have Bu11 : Hid (Below w.heap.size w u11) := below_then (by repeat (first | (refine Below.setCell ?_ (by first | omega | (simp; done) | (simp; omega)) _) | (refine Below.alloc ?_ (by first | omega | (simp; done) | (simp; omega)) _) | (refine below_dn ?_ _) | exact Below.refl _ _ | exact Bu10.out)) hbu11
  have zu11 := hbu11.size
  try simp at zu11
  have qu11_0 : u2.heap.size < u11.heap.size := by omega
  have cu11_0_0 := hbu11.cell (p := ⟨u2.heap.size, 0, none⟩) (by first | (simp; done) | (simp; omega))
  simp (disch := first | (simp; done) | (simp; omega)) [go_sem, cu10_0_0] at cu11_0_0
  clear cu10_0_0
  have cu11_0_1 := hbu11.cell (p := ⟨u2.heap.size, 1, none⟩) (by first | (simp; done) | (simp; omega))
  simp (disch := first | (simp; done) | (simp; omega)) [go_sem, cu10_0_1] at cu11_0_1
  clear cu10_0_1
  have cu11_0_2 := hbu11.cell (p := ⟨u2.heap.size, 2, none⟩) (by first | (simp; done) | (simp; omega))
  simp (disch := first | (simp; done) | (simp; omega)) [go_sem, cu10_0_2] at cu11_0_2
  clear cu10_0_2
  have cu11_0_3 := hbu11.cell (p := ⟨u2.heap.size, 3, none⟩) (by first | (simp; done) | (simp; omega))
  simp (disch := first | (simp; done) | (simp; omega)) [go_sem, cu10_0_3] at cu11_0_3
  clear cu10_0_3
  have cu11_0_4 := hbu11.cell (p := ⟨u2.heap.size, 4, none⟩) (by first | (simp; done) | (simp; omega))
  simp (disch := first | (simp; done) | (simp; omega)) [go_sem, cu10_0_4] at cu11_0_4
  clear cu10_0_4
  have Mu11 := hid_mk (Mu10.out.below hbu11)
  clear Mu10
  clear hbu11
  go_wp2_with fail
  refine (O1'.out _).mono ?_
  rintro e u12 ⟨rfl, hbu12⟩
  have Bu12 : Hid (Below w.heap.size w u12) := below_then (by repeat (first | (refine Below.setCell ?_ (by first | omega | (simp; done) | (simp; omega)) _) | (refine Below.alloc ?_ (by first | omega | (simp; done) | (simp; omega)) _) | (refine below_dn ?_ _) | exact Below.refl _ _ | exact Bu11.out)) hbu12
  have zu12 := hbu12.size
  try simp at zu12
  have qu12_0 : u2.heap.size < u12.heap.size := by omega
  have cu12_0_0 := hbu12.cell (p := ⟨u2.heap.size, 0, none⟩) (by first | (simp; done) | (simp; omega))
  simp (disch := first | (simp; done) | (simp; omega)) [go_sem, cu11_0_0] at cu12_0_0
  clear cu11_0_0
  have cu12_0_1 := hbu12.cell (p := ⟨u2.heap.size, 1, none⟩) (by first | (simp; done) | (simp; omega))
  simp (disch := first | (simp; done) | (simp; omega)) [go_sem, cu11_0_1] at cu12_0_1
  clear cu11_0_1
  have cu12_0_2 := hbu12.cell (p := ⟨u2.heap.size, 2, none⟩) (by first | (simp; done) | (simp; omega))
  simp (disch := first | (simp; done) | (simp; omega)) [go_sem, cu11_0_2] at cu12_0_2
  clear cu11_0_2
  have cu12_0_3 := hbu12.cell (p := ⟨u2.heap.size, 3, none⟩) (by first | (simp; done) | (simp; omega))
  simp (disch := first | (simp; done) | (simp; omega)) [go_sem, cu11_0_3] at cu12_0_3
  clear cu11_0_3
  have cu12_0_4 := hbu12.cell (p := ⟨u2.heap.size, 4, none⟩) (by first | (simp; done) | (simp; omega))
  simp (disch := first | (simp; done) | (simp; omega)) [go_sem, cu11_0_4] at cu12_0_4
  clear cu11_0_4
  have Mu12 := hid_mk (Mu11.out.below hbu12)
  clear Mu11
  clear hbu12
  go_wp2_with fail
  refine (O2'.out _).mono ?_
  rintro e u13 ⟨rfl, hbu13⟩
  have Bu13 : Hid (Below w.heap.size w u13) := below_then (by repeat (first | (refine Below.setCell ?_ (by first | omega | (simp; done) | (simp; omega)) _) | (refine Below.alloc ?_ (by first | omega | (simp; done) | (simp; omega)) _) | (refine below_dn ?_ _) | exact Below.refl _ _ | exact Bu12.out)) hbu13
  have zu13 := hbu13.size
  try simp at zu13
  have qu13_0 : u2.heap.size < u13.heap.size := by omega
  have cu13_0_0 := hbu13.cell (p := ⟨u2.heap.size, 0, none⟩) (by first | (simp; done) | (simp; omega))
  simp (disch := first | (simp; done) | (simp; omega)) [go_sem, cu12_0_0] at cu13_0_0
  clear cu12_0_0
  have cu13_0_1 := hbu13.cell (p := ⟨u2.heap.size, 1, none⟩) (by first | (simp; done) | (simp; omega))
  simp (disch := first | (simp; done) | (simp; omega)) [go_sem, cu12_0_1] at cu13_0_1
  clear cu12_0_1
  have cu13_0_2 := hbu13.cell (p := ⟨u2.heap.size, 2, none⟩) (by first | (simp; done) | (simp; omega))
  simp (disch := first | (simp; done) | (simp; omega)) [go_sem, cu12_0_2] at cu13_0_2
  clear cu12_0_2
  have cu13_0_3 := hbu13.cell (p := ⟨u2.heap.size, 3, none⟩) (by first | (simp; done) | (simp; omega))
  simp (disch := first | (simp; done) | (simp; omega)) [go_sem, cu12_0_3] at cu13_0_3
  clear cu12_0_3
  have cu13_0_4 := hbu13.cell (p := ⟨u2.heap.size, 4, none⟩) (by first | (simp; done) | (simp; omega))
  simp (disch := first | (simp; done) | (simp; omega)) [go_sem, cu12_0_4] at cu13_0_4
  clear cu12_0_4
  have Mu13 := hid_mk (Mu12.out.below hbu13)
  clear Mu12
  clear hbu13
  go_wp2_with fail
  refine (O3'.out _).mono ?_
  rintro e u14 ⟨rfl, hbu14⟩
  have Bu14 : Hid (Below w.heap.size w u14) := below_then (by repeat (first | (refine Below.setCell ?_ (by first | omega | (simp; done) | (simp; omega)) _) | (refine Below.alloc ?_ (by first | omega | (simp; done) | (simp; omega)) _) | (refine below_dn ?_ _) | exact Below.refl _ _ | exact Bu13.out)) hbu14
  have zu14 := hbu14.size
  try simp at zu14
  have qu14_0 : u2.heap.size < u14.heap.size := by omega
  have cu14_0_0 := hbu14.cell (p := ⟨u2.heap.size, 0, none⟩) (by first | (simp; done) | (simp; omega))
  simp (disch := first | (simp; done) | (simp; omega)) [go_sem, cu13_0_0] at cu14_0_0
  clear cu13_0_0
  have cu14_0_1 := hbu14.cell (p := ⟨u2.heap.size, 1, none⟩) (by first | (simp; done) | (simp; omega))
  simp (disch := first | (simp; done) | (simp; omega)) [go_sem, cu13_0_1] at cu14_0_1
  clear cu13_0_1
  have cu14_0_2 := hbu14.cell (p := ⟨u2.heap.size, 2, none⟩) (by first | (simp; done) | (simp; omega))
  simp (disch := first | (simp; done) | (simp; omega)) [go_sem, cu13_0_2] at cu14_0_2
  clear cu13_0_2
  have cu14_0_3 := hbu14.cell (p := ⟨u2.heap.size, 3, none⟩) (by first | (simp; done) | (simp; omega))
  simp (disch := first | (simp; done) | (simp; omega)) [go_sem, cu13_0_3] at cu14_0_3
  clear cu13_0_3
  have cu14_0_4 := hbu14.cell (p := ⟨u2.heap.size, 4, none⟩) (by first | (simp; done) | (simp; omega))
  simp (disch := first | (simp; done) | (simp; omega)) [go_sem, cu13_0_4] at cu14_0_4
  clear cu13_0_4
  have Mu14 := hid_mk (Mu13.out.below hbu14)
  clear Mu13
  clear hbu14
  go_wp2_with fail
  go_ret
  exact ⟨rfl, Bu14.out⟩

/-! ### the row's frame -/
theorem own : ownKnob Try.prog.godebug = none := by kernel_rfl
theorem laidOut : laidOutB Try.prog = true := by kernel_rfl

set_option maxRecDepth 100000 in
theorem lifted (os : Os) (started : os.Started) (H : Type) (enc : TypeId × Value → H) :
    ReturnsInHanded {} Try.checked os 3 .any (Rows.layoutNamesSpec.pre6 enc Try.prog Try.f3 Rows.layoutNamesRow.domain false) (Rows.layoutNamesSpec.post enc Try.prog Try.f3 false true false false) := by
  refine returnsInHanded_of_change (C := Try.checked) own started (by kernel_rfl) Try.func3
    (ChangeSpec.witness6 (enc := enc) (C := Try.checked) false ⟨#[], #[], []⟩ 8 (by kernel_rfl) (by kernel_rfl) (by kernel_rfl) (by kernel_rfl)) ?_
  intro W base args ds gs before hval0 hW hcnd _
  have hval : ∀ (j : Nat) t v, Try.f3.params[j]? = some t → args[j]? = some v → Value.okWide Try.prog W .any base t v := hval0
  have hW' := hW
  obtain ⟨p, q, hA0, hV, rfl, hfz, hnd⟩ := hW
  have hA : DataW.TrodAll enc Try.prog W 0 (fun _ => true) true Try.f3.params.toList args.toList ds p := hA0
  rw [Try.params3] at hA hval
  obtain ⟨hargs, rfl, rfl⟩ := trodAll_nil hA
  obtain rfl : args = #[] := by cases args; simp_all
  obtain ⟨rfl, rfl⟩ := trodVars_none hV
  clear hA0 hval0
  refine (walk W).mono fun e W' ⟨he, bel⟩ => ?_
  subst he
  exact ⟨_, rfl, _, _, _, [], _, [], hW', trodAll_mk1 (shut_bool Try.underlying4 _), trodAll_mk0, rfl, bel.frame _, fun h => by cases h⟩

theorem over : Rows.layoutNamesRow.holds Try.pinned (OpenSpec.ofChange Rows.layoutNamesSpec) :=
  OpenClaim.holds_of_wide 3 Try.f3 rfl rfl rfl rfl rfl rfl rfl ⟨rfl, rfl, rfl, rfl, rfl⟩ rfl rfl rfl rfl rfl (by kernel_rfl) Try.func3 (by kernel_rfl)
    (of_decide_eq_true (by kernel_rfl)) (by unfold Func.isWrapper; first | (rw [if_pos (by decide +kernel)]; kernel_rfl) | (rw [if_neg (by decide +kernel)]; exact ⟨rfl, rfl⟩))
    (fun os started H enc _ => lifted os started H enc)

/-- THE STATEMENT -/
theorem layoutNames_holds : Rows.LayoutNamesSaid := over
#print axioms layoutNames_holds
end Go.Proofs.Ytolflhnkdnjckaa.layoutNames
