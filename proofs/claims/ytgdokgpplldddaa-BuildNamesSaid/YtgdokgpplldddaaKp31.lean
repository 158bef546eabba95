/- Bh5 Dsc8: joined texts. Conditions: as each theorem names them. -/
import Derived.Test.YtgdokgpplldddaaKp29
import Derived.Test.YtgdokgpplldddaaKp30
import Derived.Test.YtgdokgpplldddaaKp12
import Derived.Laws.MakeOwn
/- build's puts: one descriptor of each kind. Conditions: as each theorem names them. -/
namespace Go.Proofs.Ytgdokgpplldddaa
open Go.ChangeShapes Go.WideShapes Go.ChangeAt Go.RowKit
set_option linter.unusedVariables false
set_option maxRecDepth 100000

set_option maxHeartbeats 2000000 in
theorem bscput (b o vc N : Nat) (k : Nat) (x x1 a n : Int) (f : Nat) (nx : Bool) (w : World) (hb : b < w.heap.size) (hc : w.cell? ⟨b, o + k, none⟩ = some (.int .i64 x)) (hk : k < N) (hN : N ≤ 1000) (h1 : nx = true → k + 1 < N ∧ w.cell? ⟨b, o + (k + 1), none⟩ = some (.int .i64 x1) ∧ 0 ≤ x1 ∧ x1 < 32768) (h0 : nx = false → x1 = 0) (hf : (bits .and .u16 (f : Int) 1 != 0) = nx) :
    Calls Try.prog 40 #[.slice (some ⟨b, o, none⟩) N vc, .int .i64 k, paV a n f] w fun e w' => e = .returned (pV ⟨x, ⟨a, n, f, x1⟩⟩) ∧ Below w.heap.size w w' := by
  have HC := hid_mk (fun u => bcont a n f nx u hf)
  have HB0 : Hid (Below w.heap.size w (((w.alloc (.cells #[.int .u64 a, .int .u32 n, .int .u16 (f : Int)] 86)).alloc (.cells (ptCells [zPt]).toArray 40)).alloc (.cells #[.int .u64 a, .int .u32 n, .int .u16 (f : Int), .int .u16 0] 38))) := hid_mk (((below_box w _).alloc (by simp) _).alloc (by simp <;> omega) _)
  have HX0 : Hid (BlkAt (((w.alloc (.cells #[.int .u64 a, .int .u32 n, .int .u16 (f : Int)] 86)).alloc (.cells (ptCells [zPt]).toArray 40)).alloc (.cells #[.int .u64 a, .int .u32 n, .int .u16 (f : Int), .int .u16 0] 38)) (w.heap.size + 2) [.int .u64 a, .int .u32 n, .int .u16 (f : Int), .int .u16 0] 38) := hid_mk (by
    have := blk_new ((w.alloc (.cells #[.int .u64 a, .int .u32 n, .int .u16 (f : Int)] 86)).alloc (.cells (ptCells [zPt]).toArray 40)) [.int .u64 a, .int .u32 n, .int .u16 (f : Int), .int .u16 0] 38
    simpa using this)
  have HR0 : Hid (BlkAt (((w.alloc (.cells #[.int .u64 a, .int .u32 n, .int .u16 (f : Int)] 86)).alloc (.cells (ptCells [zPt]).toArray 40)).alloc (.cells #[.int .u64 a, .int .u32 n, .int .u16 (f : Int), .int .u16 0] 38)) (w.heap.size + 1) (ptCells [zPt]) 40) := hid_mk (by
    have := blk_new (w.alloc (.cells #[.int .u64 a, .int .u32 n, .int .u16 (f : Int)] 86)) (ptCells [zPt]) 40
    have := this.below (below_box _ (.cells #[.int .u64 a, .int .u32 n, .int .u16 (f : Int), .int .u16 0] 38))
    simpa using this)
  simp only [ptCells, zPt] at HB0 HX0 HR0
  clear hf
  have hki : (k : Int) < (N : Int) := by omega
  have hNi : (N : Int) ≤ 1000 := by omega
  cases nx
  · have hx1 := h0 rfl
    subst hx1
    clear h1 h0
    go_enter Try.func40, Try.ntmps40
    go_wp2_with fail
    refine (HC.out _).mono ?_
    rintro e w1 ⟨rfl, hb1⟩
    have HB1 := hid_mk (below_then HB0.out hb1)
    have HR1 := hid_mk (HR0.out.below hb1)
    have HX1 := hid_mk (HX0.out.below hb1)
    obtain ⟨⟨c0, c1, c2, c3, c4, hcc, hlt, k0, k1, k2, k3, k4⟩, f0, f1, f2, f3, f4⟩ := blk5 HR1.out rfl
    cases hcc
    obtain ⟨lx, q0, q1, q2, q3, g0, g1, g2, g3⟩ := blk4 HX1.out
    have hbw := HB1.out.cell (p := ⟨b, o + k, none⟩) hb
    rw [hc] at hbw
    have hb2 : b < w1.heap.size := Nat.lt_of_lt_of_le hb HB1.out.size
    clear hb1
    obtain ⟨db, hdb⟩ : ∃ db, w.heap.size + 2 = db := ⟨_, rfl⟩
    obtain ⟨rb, hrb⟩ : ∃ rb, w.heap.size + 1 = rb := ⟨_, rfl⟩
    have hne : db ≠ rb := by omega
    have hne2 : rb < db := by omega
    have hne3 : b < rb := by omega
    have hne4 : b ≠ rb := by omega
    have HRB : Hid (w.heap.size ≤ rb) := hid_mk (by omega)
    have HDB : Hid (w.heap.size ≤ db) := hid_mk (by omega)
    rw [hdb] at lx q0 q1 q2 q3 g0 g1 g2 g3 ⊢
    rw [hrb] at hlt k0 k1 k2 k3 k4 f0 f1 f2 f3 f4 ⊢
    go_wp2_with fail
    go_region
    go_wp2_with fail
    exact bodyPost_ret (v := pV ⟨x, ⟨a, n, f, 0⟩⟩) (by simp [results, Try.results40, go_sem, k0, k1, k2, k3, k4]) rfl ⟨rfl, (put5_below HB1.out HRB.out _ _ _ _ _).drew⟩
  · obtain ⟨h1a, h1b, h1c, h1d⟩ := h1 rfl
    clear h1 h0
    have hk1 : (k : Int) + 1 < (N : Int) := by omega
    have hw16 : IntKind.u16.wrap x1 = x1 := by rw [IntKind.wrap_u16]; omega
    go_enter Try.func40, Try.ntmps40
    go_wp2_with fail
    refine (HC.out _).mono ?_
    rintro e w1 ⟨rfl, hb1⟩
    have HB1 := hid_mk (below_then HB0.out hb1)
    have HR1 := hid_mk (HR0.out.below hb1)
    have HX1 := hid_mk (HX0.out.below hb1)
    obtain ⟨⟨c0, c1, c2, c3, c4, hcc, hlt, k0, k1, k2, k3, k4⟩, f0, f1, f2, f3, f4⟩ := blk5 HR1.out rfl
    cases hcc
    obtain ⟨lx, q0, q1, q2, q3, g0, g1, g2, g3⟩ := blk4 HX1.out
    have hbw := HB1.out.cell (p := ⟨b, o + k, none⟩) hb
    rw [hc] at hbw
    have hbw1 := HB1.out.cell (p := ⟨b, o + (k + 1), none⟩) hb
    rw [h1b] at hbw1
    have hb2 : b < w1.heap.size := Nat.lt_of_lt_of_le hb HB1.out.size
    clear hb1
    obtain ⟨db, hdb⟩ : ∃ db, w.heap.size + 2 = db := ⟨_, rfl⟩
    obtain ⟨rb, hrb⟩ : ∃ rb, w.heap.size + 1 = rb := ⟨_, rfl⟩
    have hne : db ≠ rb := by omega
    have hne2 : rb < db := by omega
    have hne3 : b < rb := by omega
    have hne4 : b ≠ rb := by omega
    have HRB : Hid (w.heap.size ≤ rb) := hid_mk (by omega)
    have HDB : Hid (w.heap.size ≤ db) := hid_mk (by omega)
    rw [hdb] at lx q0 q1 q2 q3 g0 g1 g2 g3 ⊢
    rw [hrb] at hlt k0 k1 k2 k3 k4 f0 f1 f2 f3 f4 ⊢
    go_wp2_with fail
    go_region
    go_wp2_with fail
    exact bodyPost_ret (v := pV ⟨x, ⟨a, n, f, x1⟩⟩) (by simp [results, Try.results40, go_sem, k0, k1, k2, k3, k4]) rfl ⟨rfl, (put5_below (HB1.out.setCell HDB.out _) HRB.out _ _ _ _ _).drew⟩

set_option maxHeartbeats 2000000 in
theorem bstput (k : Nat) (x1 a n : Int) (f : Nat) (nx : Bool) (w : World) (hk : k ≤ 1000) (h1 : nx = true → x1 = (k : Int) + 1) (h0 : nx = false → x1 = 0) (hf : (bits .and .u16 (f : Int) 1 != 0) = nx) :
    Calls Try.prog 98 #[.agg #[], .int .i64 k, paV a n f] w fun e w' => e = .returned (dV ⟨a, n, f, x1⟩) ∧ Below w.heap.size w w' := by
  have HC := hid_mk (fun u => bcont a n f nx u hf)
  clear hf
  have hki : (k : Int) ≤ 1000 := by omega
  have HB0 : Hid (Below w.heap.size w ((((w.alloc (.cells #[] 92)).alloc (.cells #[.int .u64 a, .int .u32 n, .int .u16 (f : Int)] 86)).alloc (.cells #[.int .u64 0, .int .u32 0, .int .u16 0, .int .u16 0] 38)).alloc (.cells #[.int .u64 a, .int .u32 n, .int .u16 (f : Int), .int .u16 0] 38))) := hid_mk ((((below_box w _).alloc (by simp) _).alloc (by simp <;> omega) _).alloc (by simp <;> omega) _)
  have HX0 : Hid (BlkAt ((((w.alloc (.cells #[] 92)).alloc (.cells #[.int .u64 a, .int .u32 n, .int .u16 (f : Int)] 86)).alloc (.cells #[.int .u64 0, .int .u32 0, .int .u16 0, .int .u16 0] 38)).alloc (.cells #[.int .u64 a, .int .u32 n, .int .u16 (f : Int), .int .u16 0] 38)) (w.heap.size + 1 + 1 + 1) [.int .u64 a, .int .u32 n, .int .u16 (f : Int), .int .u16 0] 38) := hid_mk (by
    have := blk_new (((w.alloc (.cells #[] 92)).alloc (.cells #[.int .u64 a, .int .u32 n, .int .u16 (f : Int)] 86)).alloc (.cells #[.int .u64 0, .int .u32 0, .int .u16 0, .int .u16 0] 38)) [.int .u64 a, .int .u32 n, .int .u16 (f : Int), .int .u16 0] 38
    simpa using this)
  have HR0 : Hid (BlkAt ((((w.alloc (.cells #[] 92)).alloc (.cells #[.int .u64 a, .int .u32 n, .int .u16 (f : Int)] 86)).alloc (.cells #[.int .u64 0, .int .u32 0, .int .u16 0, .int .u16 0] 38)).alloc (.cells #[.int .u64 a, .int .u32 n, .int .u16 (f : Int), .int .u16 0] 38)) (w.heap.size + 1 + 1) [.int .u64 0, .int .u32 0, .int .u16 0, .int .u16 0] 38) := hid_mk (by
    have := blk_new ((w.alloc (.cells #[] 92)).alloc (.cells #[.int .u64 a, .int .u32 n, .int .u16 (f : Int)] 86)) [.int .u64 0, .int .u32 0, .int .u16 0, .int .u16 0] 38
    have := this.below (below_box _ (.cells #[.int .u64 a, .int .u32 n, .int .u16 (f : Int), .int .u16 0] 38))
    simpa using this)
  cases nx
  · have hx1 := h0 rfl
    subst hx1
    clear h1 h0
    go_enter Try.func98, Try.ntmps98
    go_wp2_with fail
    refine (HC.out _).mono ?_
    rintro e w1 ⟨rfl, hb1⟩
    have HB1 := hid_mk (below_then HB0.out hb1)
    have HR1 := hid_mk (HR0.out.below hb1)
    have HX1 := hid_mk (HX0.out.below hb1)
    obtain ⟨hlt, k0, k1, k2, k3, f0, f1, f2, f3⟩ := blk4 HR1.out
    obtain ⟨lx, q0, q1, q2, q3, g0, g1, g2, g3⟩ := blk4 HX1.out
    clear hb1
    obtain ⟨db, hdb⟩ : ∃ db, w.heap.size + 1 + 1 + 1 = db := ⟨_, rfl⟩
    obtain ⟨rb, hrb⟩ : ∃ rb, w.heap.size + 1 + 1 = rb := ⟨_, rfl⟩
    have hne : db ≠ rb := by omega
    have hne2 : rb < db := by omega
    have HRB : Hid (w.heap.size ≤ rb) := hid_mk (by omega)
    have HDB : Hid (w.heap.size ≤ db) := hid_mk (by omega)
    rw [hdb] at lx q0 q1 q2 q3 g0 g1 g2 g3 ⊢
    rw [hrb] at hlt k0 k1 k2 k3 f0 f1 f2 f3 ⊢
    go_wp2_with fail
    exact bodyPost_ret (v := dV ⟨a, n, f, 0⟩) (by simp [results, Try.results98, go_sem, k0, k1, k2, k3]) rfl ⟨rfl, by repeat (first | exact HB1.out | (refine Below.setCell ?_ (by first | exact HRB.out | exact HDB.out) _))⟩
  · have hx1 := h1 rfl
    subst hx1
    clear h1 h0
    have hw16 : IntKind.u16.wrap ((k : Int) + 1) = (k : Int) + 1 := by rw [IntKind.wrap_u16]; omega
    go_enter Try.func98, Try.ntmps98
    go_wp2_with fail
    refine (HC.out _).mono ?_
    rintro e w1 ⟨rfl, hb1⟩
    have HB1 := hid_mk (below_then HB0.out hb1)
    have HR1 := hid_mk (HR0.out.below hb1)
    have HX1 := hid_mk (HX0.out.below hb1)
    obtain ⟨hlt, k0, k1, k2, k3, f0, f1, f2, f3⟩ := blk4 HR1.out
    obtain ⟨lx, q0, q1, q2, q3, g0, g1, g2, g3⟩ := blk4 HX1.out
    clear hb1
    obtain ⟨db, hdb⟩ : ∃ db, w.heap.size + 1 + 1 + 1 = db := ⟨_, rfl⟩
    obtain ⟨rb, hrb⟩ : ∃ rb, w.heap.size + 1 + 1 = rb := ⟨_, rfl⟩
    have hne : db ≠ rb := by omega
    have hne2 : rb < db := by omega
    have HRB : Hid (w.heap.size ≤ rb) := hid_mk (by omega)
    have HDB : Hid (w.heap.size ≤ db) := hid_mk (by omega)
    rw [hdb] at lx q0 q1 q2 q3 g0 g1 g2 g3 ⊢
    rw [hrb] at hlt k0 k1 k2 k3 f0 f1 f2 f3 ⊢
    go_wp2_with fail
    exact bodyPost_ret (v := dV ⟨a, n, f, (k : Int) + 1⟩) (by simp [results, Try.results98, go_sem, k0, k1, k2, k3]) rfl ⟨rfl, by repeat (first | exact HB1.out | (refine Below.setCell ?_ (by first | exact HRB.out | exact HDB.out) _))⟩
set_option maxHeartbeats 2000000 in
theorem bptput (k : Int) (a n : Int) (t nx : Bool) (w : World) :
    Calls Try.prog 99 #[.agg #[], .int .i64 k, paV a n (flgN t nx)] w fun e w' => e = .returned (dV ⟨a, n, 0, (flgN t false : Nat)⟩) ∧ Below w.heap.size w w' := by
  have hb : bits .and .u16 (flgN t nx : Nat) 2 = ((flgN t false : Nat) : Int) := by cases t <;> cases nx <;> decide +kernel
  generalize flgN t nx = f at *
  generalize flgN t false = g at *
  go_enter Try.func99, Try.ntmps99
  go_wp2
  exact bodyPost_ret (v := dV ⟨a, n, 0, (g : Nat)⟩) (by simp [results, Try.results99, go_sem]) rfl ⟨rfl, ((below_box w _).alloc (by simp) _).alloc (by simp <;> omega) _⟩
set_option maxHeartbeats 2000000 in
theorem bpcput (p n id a l : Int) (b : Bool) (k : Nat) (f : Nat) (w : World) (hf : f < 65536) (hp : okP p n = true) (hk : (k : Int) ≤ n) (hid : 0 ≤ id ∧ id < 32768) :
    Calls Try.prog 42 #[.agg #[.int .i64 p, .bool b, .int .i64 n, .int .i64 id], .int .i64 k, paV a l f] w fun e w' => e = .returned (pV ⟨goA p k n, ⟨a, l, id, (markN f (goW p k n b) false : Nat)⟩⟩) ∧ Below w.heap.size w w' := by
  obtain ⟨h1, h2, h3, h4⟩ := okP_t hp
  have HG := hid_mk (fun u => go_any p k n b u h1 h2 h3 h4 (by omega) hk)
  have HM := hid_mk (fun c u => Mark_any f c false u hf)
  have hw16 : IntKind.u16.wrap id = id := by rw [IntKind.wrap_u16]; omega
  generalize goA p k n = ga at *
  generalize goW p k n b = gw at *
  obtain ⟨hid0, hid1⟩ := hid
  clear hp h1 h2 h3 h4 hk hf
  have HB0 : Hid (Below w.heap.size w (((w.alloc (.cells #[.int .i64 p, .bool b, .int .i64 n, .int .i64 id] 82)).alloc (.cells #[.int .u64 a, .int .u32 l, .int .u16 (f : Int)] 86)).alloc (.cells #[.int .i64 0, .int .u64 0, .int .u32 0, .int .u16 0, .int .u16 0] 46))) := hid_mk (((below_box w _).alloc (by simp) _).alloc (by simp <;> omega) _)
  have HP0 : Hid (BlkAt (((w.alloc (.cells #[.int .i64 p, .bool b, .int .i64 n, .int .i64 id] 82)).alloc (.cells #[.int .u64 a, .int .u32 l, .int .u16 (f : Int)] 86)).alloc (.cells #[.int .i64 0, .int .u64 0, .int .u32 0, .int .u16 0, .int .u16 0] 46)) w.heap.size [.int .i64 p, .bool b, .int .i64 n, .int .i64 id] 82) := hid_mk (((blk_new w _ _).below (below_box _ _)).below (below_box _ _))
  have HQ0 : Hid (BlkAt (((w.alloc (.cells #[.int .i64 p, .bool b, .int .i64 n, .int .i64 id] 82)).alloc (.cells #[.int .u64 a, .int .u32 l, .int .u16 (f : Int)] 86)).alloc (.cells #[.int .i64 0, .int .u64 0, .int .u32 0, .int .u16 0, .int .u16 0] 46)) (w.heap.size + 1) [.int .u64 a, .int .u32 l, .int .u16 (f : Int)] 86) := hid_mk (by
    have := (blk_new (w.alloc (.cells #[.int .i64 p, .bool b, .int .i64 n, .int .i64 id] 82)) [.int .u64 a, .int .u32 l, .int .u16 (f : Int)] 86).below (below_box _ (.cells #[.int .i64 0, .int .u64 0, .int .u32 0, .int .u16 0, .int .u16 0] 46))
    simpa using this)
  have HR0 : Hid (BlkAt (((w.alloc (.cells #[.int .i64 p, .bool b, .int .i64 n, .int .i64 id] 82)).alloc (.cells #[.int .u64 a, .int .u32 l, .int .u16 (f : Int)] 86)).alloc (.cells #[.int .i64 0, .int .u64 0, .int .u32 0, .int .u16 0, .int .u16 0] 46)) (w.heap.size + 1 + 1) [.int .i64 0, .int .u64 0, .int .u32 0, .int .u16 0, .int .u16 0] 46) := hid_mk (by
    have := blk_new ((w.alloc (.cells #[.int .i64 p, .bool b, .int .i64 n, .int .i64 id] 82)).alloc (.cells #[.int .u64 a, .int .u32 l, .int .u16 (f : Int)] 86)) [.int .i64 0, .int .u64 0, .int .u32 0, .int .u16 0, .int .u16 0] 46
    simpa using this)
  go_enter Try.func42, Try.ntmps42
  go_wp2_with fail
  refine (HG.out _).mono ?_
  rintro e w1 ⟨rfl, hb1⟩
  have HB1 := hid_mk (below_then HB0.out hb1)
  have HR1 := hid_mk (HR0.out.below hb1)
  have HP1 := HP0.out.below hb1
  have HQ1 := HQ0.out.below hb1
  obtain ⟨⟨c0, c1, c2, c3, c4, hcc, hlt, k0, k1, k2, k3, k4⟩, f0, f1, f2, f3, f4⟩ := blk5 HR1.out rfl
  cases hcc
  have y0 := HP1.lt
  have y1 : w1.cell? ⟨w.heap.size, 3, none⟩ = some (.int .i64 id) := HP1.cell 3
  have z0 := HQ1.lt
  have z1 : w1.cell? ⟨w.heap.size + 1, 0, none⟩ = some (.int .u64 a) := HQ1.cell 0
  have z2 : w1.cell? ⟨w.heap.size + 1, 1, none⟩ = some (.int .u32 l) := HQ1.cell 1
  have z3 : w1.cell? ⟨w.heap.size + 1, 2, none⟩ = some (.int .u16 (f : Int)) := HQ1.cell 2
  clear hb1 HP1 HQ1
  obtain ⟨pb, hpb⟩ : ∃ pb, w.heap.size + 1 = pb := ⟨_, rfl⟩
  obtain ⟨rb, hrb⟩ : ∃ rb, w.heap.size + 1 + 1 = rb := ⟨_, rfl⟩
  have HRB : Hid (w.heap.size ≤ rb) := hid_mk (by omega)
  rw [hrb] at hlt k0 k1 k2 k3 k4 f0 f1 f2 f3 f4 ⊢
  rw [hpb] at z0 z1 z2 z3 ⊢
  have hcb2 : w.heap.size < rb := by omega
  go_wp2_with fail
  refine (HM.out _ _).mono ?_
  rintro e w2 ⟨rfl, rfl⟩
  go_wp2_with fail
  have HF := (put5_pt (⟨ga, ⟨a, l, id, (markN f gw false : Nat)⟩⟩ : Pt) HR1.out rfl).below (below_box _ (.cells #[.int .i64 ga, .bool gw] 33))
  have HBe := (put5_below HB1.out HRB.out (.int .i64 ga) (.int .u64 a) (.int .u32 l) (.int .u16 id) (.int .u16 (markN f gw false : Nat))).alloc (by simp; exact HB1.out.size) (.cells #[.int .i64 ga, .bool gw] 33)
  simp only [hrb] at HF HBe
  clear HB0 HP0 HQ0 HR0 HG HM
  generalize hU : World.alloc _ _ = U
  rw [hU] at HF HBe
  have m0 : U.cell? ⟨rb, 0, none⟩ = some (.int .i64 ga) := HF.cell 0
  have m1 : U.cell? ⟨rb, 1, none⟩ = some (.int .u64 a) := HF.cell 1
  have m2 : U.cell? ⟨rb, 2, none⟩ = some (.int .u32 l) := HF.cell 2
  have m3 : U.cell? ⟨rb, 3, none⟩ = some (.int .u16 id) := HF.cell 3
  have m4 : U.cell? ⟨rb, 4, none⟩ = some (.int .u16 (markN f gw false : Nat)) := HF.cell 4
  exact bodyPost_ret (v := pV ⟨ga, ⟨a, l, id, (markN f gw false : Nat)⟩⟩) (by simp [results, Try.results42, go_sem, m0, m1, m2, m3, m4]) rfl ⟨rfl, HBe⟩
end Go.Proofs.Ytgdokgpplldddaa

/- Contracts of desc's ReadTable. Conditions: as each theorem names them. -/
namespace Go.Proofs.Ytgdokgpplldddaa
open Go.ChangeShapes Go.WideShapes Go.ChangeAt Go.RowKit
set_option linter.unusedVariables false
set_option maxRecDepth 100000

def dCs : List Dsc → List Value
  | [] => []
  | d :: L => .int .u64 d.a :: .int .u32 d.l :: .int .u16 d.f :: .int .u16 d.n :: dCs L
theorem dCs_length : ∀ L : List Dsc, (dCs L).length = L.length * 4
  | [] => rfl
  | d :: L => by simp [dCs, dCs_length L]; omega
theorem dat_succ (d : Dsc) (L : List Dsc) (k : Nat) : dat (d :: L) (k + 1) = dat L k := by simp [dat, List.getD]
theorem dCs_at : ∀ (L : List Dsc) (k : Nat), k < L.length → (dCs L)[k * 4]? = some (.int .u64 (dat L k).a) ∧ (dCs L)[k * 4 + 1]? = some (.int .u32 (dat L k).l) ∧ (dCs L)[k * 4 + 2]? = some (.int .u16 (dat L k).f) ∧ (dCs L)[k * 4 + 3]? = some (.int .u16 (dat L k).n)
  | [], k, h => by simp at h
  | d :: L, 0, _ => by simp [dCs, dat]
  | d :: L, k + 1, h => by
    have ih := dCs_at L k (by simpa using h)
    rw [dat_succ, show (k + 1) * 4 = k * 4 + 1 + 1 + 1 + 1 from by omega]
    simp only [dCs, List.getElem?_cons_succ, show k * 4 + 1 + 1 + 1 + 1 + 1 = k * 4 + 1 + 1 + 1 + 1 + 1 from rfl, show k * 4 + 1 + 1 + 1 + 1 + 2 = k * 4 + 2 + 1 + 1 + 1 + 1 from by omega, show k * 4 + 1 + 1 + 1 + 1 + 3 = k * 4 + 3 + 1 + 1 + 1 + 1 from by omega]
    exact ih
theorem dCs_set : ∀ (L : List Dsc) (k : Nat) (d : Dsc), k < L.length → ((((dCs L).set (k * 4) (.int .u64 d.a)).set (k * 4 + 1) (.int .u32 d.l)).set (k * 4 + 2) (.int .u16 d.f)).set (k * 4 + 3) (.int .u16 d.n) = dCs (L.set k d)
  | [], k, d, h => by simp at h
  | x :: L, 0, d, _ => by simp [dCs]
  | x :: L, k + 1, d, h => by
    have ih := dCs_set L k d (by simpa using h)
    rw [show (k + 1) * 4 = k * 4 + 1 + 1 + 1 + 1 from by omega, show k * 4 + 1 + 1 + 1 + 1 + 2 = k * 4 + 2 + 1 + 1 + 1 + 1 from by omega, show k * 4 + 1 + 1 + 1 + 1 + 3 = k * 4 + 3 + 1 + 1 + 1 + 1 from by omega]
    simp only [dCs, List.set_cons_succ, ih]
theorem setV (w : World) (g i : Nat) (C : List Value) (x : Value) (t : TypeId) (hg : w.heap[g]? = some (.cells C.toArray t (0, 0))) : w.setCell ⟨g, i, none⟩ x = w.setRow g (C.set i x).toArray := by
  rw [setCell_eq_setRow w g i _ t (0, 0) _ hg]
  congr 1
  simp
/-- a row of descriptors -/
abbrev DRow (w : World) (b : Nat) (L : List Dsc) : Prop := w.heap[b]? = some (.cells (dCs L).toArray 38 (0, 0))
theorem set4 (w : World) (g : Nat) (L : List Dsc) (k : Nat) (d : Dsc) (hg : DRow w g L) (hk : k < L.length) :
    (((w.setCell ⟨g, k * 4, none⟩ (.int .u64 d.a)).setCell ⟨g, k * 4 + 1, none⟩ (.int .u32 d.l)).setCell ⟨g, k * 4 + 2, none⟩ (.int .u16 d.f)).setCell ⟨g, k * 4 + 3, none⟩ (.int .u16 d.n) = w.setRow g (dCs (L.set k d)).toArray := by
  rw [setV w g _ _ _ _ hg, setV _ g _ _ _ _ (setRow_heap _ _ _ _ _ _ hg), setRow_setRow, setV _ g _ _ _ _ (setRow_heap _ _ _ _ _ _ hg), setRow_setRow, setV _ g _ _ _ _ (setRow_heap _ _ _ _ _ _ hg), setRow_setRow, dCs_set L k d hk]
theorem DRow.at {w : World} {g : Nat} {L : List Dsc} (h : DRow w g L) (k : Nat) (hk : k < L.length) : at4 w g (k * 4) (dat L k) := by
  obtain ⟨h0, h1, h2, h3⟩ := dCs_at L k hk
  exact ⟨(cellK h _).trans h0, (cellK h _).trans h1, (cellK h _).trans h2, (cellK h _).trans h3⟩
theorem DRow.descs {w : World} {g n c : Nat} {L : List Dsc} (h : DRow w g L) (hn : L.length = n) (hc : n ≤ c) : DescsAt w (.slice (some ⟨g, 0, none⟩) n c) L := by
  subst hn
  exact Or.inr ⟨g, 0, c, rfl, lt_blk h, hc, fun j hj => by rw [Nat.zero_add]; exact h.at j hj⟩

theorem rowDesc : (Try.prog.info? 38).map (fun i => (i.zero, i.size, i.bytes)) = some (some (.agg #[.int .u64 0, .int .u32 0, .int .u16 0, .int .u16 0]), 4, 16) := by kernel_rfl
abbrev zD : Dsc := ⟨0, 0, 0, 0⟩
theorem made4 : ∀ n : Nat, (madeCells #[Value.int .u64 0, .int .u32 0, .int .u16 0, .int .u16 0] (n * 4)).toList = dCs (List.replicate n zD) := by
  intro n
  apply List.ext_getElem?
  intro i
  by_cases hi : i < n * 4
  · have h := dCs_at (List.replicate n zD) (i / 4) (by simp; omega)
    have hd : dat (List.replicate n zD) (i / 4) = zD := by simp [dat, List.getD, show i / 4 < n from by omega]
    rw [hd] at h
    rcases (show i % 4 = 0 ∨ i % 4 = 1 ∨ i % 4 = 2 ∨ i % 4 = 3 from by omega) with e | e | e | e
    · have e2 : i = i / 4 * 4 := by omega
      have g := h.1
      rw [← e2] at g
      rw [g]
      simp [madeCells, hi, e]
    · have e2 : i = i / 4 * 4 + 1 := by omega
      have g := h.2.1
      rw [← e2] at g
      rw [g]
      simp [madeCells, hi, e]
    · have e2 : i = i / 4 * 4 + 2 := by omega
      have g := h.2.2.1
      rw [← e2] at g
      rw [g]
      simp [madeCells, hi, e]
    · have e2 : i = i / 4 * 4 + 3 := by omega
      have g := h.2.2.2
      rw [← e2] at g
      rw [g]
      simp [madeCells, hi, e]
  · have h1 := size_madeCells #[Value.int .u64 0, .int .u32 0, .int .u16 0, .int .u16 0] (n * 4)
    have h2 := dCs_length (List.replicate n zD)
    rw [List.getElem?_eq_none (by rw [Array.length_toList, h1]; omega), List.getElem?_eq_none (by rw [h2]; simp; omega)]
theorem makeD (w : World) (k : IntKind) (n : Nat) (h : n ≤ 1000000) :
    (Instr.makeSlice 59 (.int k (n : Int)) (.int k (n : Int))).run Try.prog w = .ok (.slice (some ⟨w.heap.size, 0, none⟩) n n) (w.alloc (.cells (dCs (List.replicate n zD)).toArray 38)) := by
  obtain ⟨i0, hi, hz0, hz1, hz2⟩ := info_parts rowDesc
  have hr := run_make (P := Try.prog) w 59 38 i0 _ Try.underlying59 hi hz0 k k n n (by omega) (Int.le_refl _) (by rw [hz2]; omega) (by omega)
  rw [hr]
  simp only [Int.toNat_natCast, hz1]
  congr 3
  apply Array.ext'
  rw [← made4 n]
  rfl

/-- the descriptors of these bytes, 16 each -/
def rdT (n : Nat) (l : List Int) : List Dsc := (List.range n).map (fun i => dR ((l.drop (16 * i)).take 16))
theorem rdT_length (n : Nat) (l : List Int) : (rdT n l).length = n := by simp [rdT]
theorem rdT_at (n : Nat) (l : List Int) (k : Nat) (h : k < n) : dat (rdT n l) k = dR ((l.drop (16 * k)).take 16) := by simp [dat, rdT, List.getD, h]
/-- so far -/
def rdS (n : Nat) (l : List Int) (k : Nat) : List Dsc := (rdT n l).take k ++ List.replicate (n - k) zD
theorem rdS_length (n : Nat) (l : List Int) (k : Nat) (h : k ≤ n) : (rdS n l k).length = n := by simp [rdS, rdT_length]; omega
theorem rdS_zero (n : Nat) (l : List Int) : rdS n l 0 = List.replicate n zD := by simp [rdS]
theorem rdS_all (n : Nat) (l : List Int) : rdS n l n = rdT n l := by
  unfold rdS
  rw [Nat.sub_self, List.replicate_zero, List.append_nil, List.take_of_length_le (by rw [rdT_length]; exact Nat.le_refl _)]
theorem rdS_step (n : Nat) (l : List Int) (k : Nat) (h : k < n) : (rdS n l k).set k (dR ((l.drop (16 * k)).take 16)) = rdS n l (k + 1) := by
  unfold rdS
  have h1 : ((rdT n l).take k).length = k := by rw [List.length_take, rdT_length]; omega
  have h2 : (rdT n l).take (k + 1) = (rdT n l).take k ++ [dR ((l.drop (16 * k)).take 16)] := by
    rw [List.take_succ_eq_append_getElem (by rw [rdT_length]; exact h)]
    simp [rdT]
  rw [List.set_append_right _ _ (by omega), h1, Nat.sub_self, h2, show n - k = n - (k + 1) + 1 from by omega, List.replicate_succ]
  simp
theorem rdS_zeroAt (n : Nat) (l : List Int) (k : Nat) (h : k < n) : dat (rdS n l k) k = zD := by
  have h1 : ((rdT n l).take k).length = k := by rw [List.length_take, rdT_length]; omega
  unfold dat rdS
  rw [List.getD_eq_getElem?_getD, List.getElem?_append_right (by omega), h1, Nat.sub_self]
  simp [show 0 < n - k from by omega]

end Go.Proofs.Ytgdokgpplldddaa
