/- Bh4 Bd4 Bh5: joined texts. Conditions: as each theorem names them. -/
import Derived.Test.YtfhhgcgbgmilcaaGreatKp44
import Derived.Test.YtfhhgcgbgmilcaaGreatKp22
/- build's parts and puts. Conditions: as each theorem names them. -/
namespace Go.Proofs.YtfhhgcgbgmilcaaGreat
open Go.ChangeShapes Go.WideShapes Go.ChangeAt Go.RowKit
set_option linter.unusedVariables false
set_option maxRecDepth 100000

abbrev paV (a n : Int) (f : Nat) : Value := .agg #[.int .u64 a, .int .u32 n, .int .u16 (f : Int)]
set_option maxHeartbeats 1000000 in
theorem bsegpart (s : Sg) (nx : Bool) (w : World) : Calls Tryz.prog 62 #[.agg #[.int .u64 s.a, .int .u32 s.n, .bool s.t], .bool nx] w fun e w' => e = .returned (paV s.a s.n (flgN s.t nx)) ∧ Below w.heap.size w w' := by
  obtain ⟨a, n, t⟩ := s
  have HB : ∀ x y z, Below w.heap.size w (((w.alloc x).alloc y).alloc z) := fun x y z => ((below_box w x).alloc (by simp) y).alloc (by simp <;> omega) z
  have HBH := hid_mk HB
  clear HB
  cases t <;> cases nx
  all_goals
    go_enter Tryz.func62, Tryz.ntmps62
    go_wp2
    exact bodyPost_ret (v := paV a n _) (by simp [results, Tryz.results62, go_sem]; decide +kernel) rfl ⟨rfl, by repeat (first | exact HBH.out _ _ _ | (refine Below.setCell ?_ (by simp <;> omega) _))⟩
theorem btabpart (a n : Int) (w : World) (hn : 1 ≤ n ∧ n ≤ 64) : Calls Tryz.prog 41 #[.int .u64 a, .int .i64 n] w fun e w' => e = .returned (paV a (16 * n) 4) ∧ Below w.heap.size w w' := by
  obtain ⟨h1, h2⟩ := hn
  have hw : IntKind.u32.wrap (16 * n) = 16 * n := by rw [IntKind.wrap_u32]; omega
  have hw2 : IntKind.i64.wrap (16 * n) = 16 * n := IntWalk.i64_in _ (by omega)
  go_enter Tryz.func41, Tryz.ntmps41
  go_wp2
  exact bodyPost_ret (v := paV a (16 * n) 4) (by simp [results, Tryz.results41, go_sem]) rfl ⟨rfl, by repeat (first | exact below_box _ _ | (refine Below.setCell ?_ (by simp <;> omega) _))⟩
theorem bcont (a n : Int) (f : Nat) (c : Bool) (w : World) (hc : (bits .and .u16 (f : Int) 1 != 0) = c) : Calls Tryz.prog 77 #[paV a n f] w fun e w' => e = .returned (.bool c) ∧ Below w.heap.size w w' := by
  go_enter Tryz.func77, Tryz.ntmps77
  go_wp2
  go_ret
  exact ⟨rfl, below_box _ _⟩
end Go.Proofs.YtfhhgcgbgmilcaaGreat

/- The reference of layer 9: Split. Conditions: as each theorem names them. Written by mkbd4.py. -/
namespace Go.Proofs.YtfhhgcgbgmilcaaGreat
open Go.ChangeShapes Go.WideShapes Go.ChangeAt Go.RowKit
set_option linter.unusedVariables false
set_option maxRecDepth 100000

theorem infoDs : (Tryz.prog.info? 44).map (·.size) = some 4 := by kernel_rfl
theorem rangeDs {w : World} {b : Nat} {d : Dsc} {t : TypeId} (h : BlkAt w b (dC d) t) : w.rangeAt b 0 (dC d) := fun j v hv => by
  match j, hv with
  | 0, hv => simp at hv; subst hv; exact h.cell 0
  | 1, hv => simp at hv; subst hv; exact h.cell 1
  | 2, hv => simp at hv; subst hv; exact h.cell 2
  | 3, hv => simp at hv; subst hv; exact h.cell 3
theorem loadDs {w : World} {b : Nat} {d : Dsc} {t : TypeId} (h : BlkAt w b (dC d) t) : (Instr.loadAt 44 (.pointer (some ⟨b, 0, none⟩))).run Tryz.prog w = .ok (dV d) w := run_loadAt_mid w b 0 _ (dC d) _ (rangeDs h) Tryz.underlying44 rfl infoDs
theorem spl_no {I : List Int} {L : List Sg} (h : mayE L = 0) (h2 : I.length ≠ L.length ∨ okT 32768 I I.length = false) : splE I L = 2 ∧ splR I L = [] := by
  have e : splE I L = 2 := by
    unfold splE idsB
    rw [if_pos h]
    rcases h2 with h2 | h2
    · rw [decide_eq_false h2]
      rfl
    · rw [h2, Bool.and_false]
      rfl
  refine ⟨e, ?_⟩
  unfold splR
  rw [e]
  rfl
theorem spl_bad {I : List Int} {L : List Sg} (h : mayE L ≠ 0) : splE I L = mayE L ∧ splR I L = [] := by
  have e : splE I L = mayE L := by
    unfold splE
    rw [if_neg h]
  refine ⟨e, ?_⟩
  unfold splR
  rw [e, if_neg h]
theorem spl_yes {I : List Int} {L : List Sg} (h : mayE L = 0) (h1 : I.length = L.length) (h2 : okT 32768 I I.length = true) : splE I L = 0 ∧ splR I L = splL I L := by
  have e : splE I L = 0 := by
    unfold splE idsB
    rw [if_pos h, decide_eq_true h1, h2]
    rfl
  refine ⟨e, ?_⟩
  unfold splR
  rw [e]
  rfl
theorem okT_at {S : Int} {I : List Int} (h : okT S I I.length = true) {k : Nat} (hk : k < I.length) : 0 ≤ I.getD k 0 ∧ I.getD k 0 < S := by
  have := (okT_iff (Nat.le_refl _)).1 h
  rw [List.take_length] at this
  exact this.1 _ (getD_mem hk)
/-- what the build's end keeps: the box, and what was there -/
structure ApS (w : World) (db : Nat) (d : Dsc) (W : World) : Prop where
  box : BlkAt W db (dC d) 44
  old : Below w.heap.size w W
theorem ApS.below {w W W' : World} {db : Nat} {d : Dsc} (h : ApS w db d W) (hb : Below W.heap.size W W') : ApS w db d W' := ⟨h.box.below hb, below_then h.old hb⟩
/-- a row has grown -/
def GrT (vo : Value) (W W' : World) : Prop := W.grownBy W' vo.ownBlock
theorem ApS.gr {w W W' : World} {db : Nat} {d : Dsc} {vo : Value} (h : ApS w db d W) (hg : GrT vo W W') (hv : ∀ g, vo.ownBlock = some g → w.heap.size ≤ g ∧ g ≠ db) : ApS w db d W' := by
  refine ⟨(hg.block db h.box.lt (fun e => (hv db e.symm).2 rfl)).trans h.box, h.old.trans (grown_below hg h.old.size (fun k hk => (hv k hk).1))⟩
theorem own_block {B : Nat} {w : World} {v : Value} {L : List Pt} {t t2 : TypeId} {db : Nat} {C : List Value} (h : w.ownsRow B t 5 v L.length (ptCells L)) (hne : t ≠ t2) (hb : BlkAt w db C t2) (g : Nat) (hg : v.ownBlock = some g) : B ≤ g ∧ g ≠ db := by
  rcases h.2 with ⟨rfl, _⟩ | ⟨g2, cap, cur, rfl, hg2, hh, _⟩
  · cases hg
  · simp [Value.ownBlock] at hg
    subst hg
    refine ⟨hg2, fun e => ?_⟩
    subst e
    have h2 : w.heap[g2]? = some (.cells C.toArray t2 (0, 0)) := hb
    rw [hh] at h2
    injection h2 with h2
    injection h2 with _ h3
    exact hne h3
theorem OwnPt.below {B : Nat} {w w' : World} {v : Value} {l : List Pt} (h : OwnPt B w v l) (hb : Below w.heap.size w w') : OwnPt B w' v l := by
  refine ⟨h.1, ?_⟩
  rcases h.2 with hn | ⟨gg, cap, cur, rfl, hg, hh, rest⟩
  · exact .inl hn
  · exact .inr ⟨gg, cap, cur, rfl, hg, (hb.block gg (lt_blk hh)).trans hh, rest⟩
theorem OwnPt.setCell {B : Nat} {w : World} {v : Value} {l : List Pt} (h : OwnPt B w v l) {db i : Nat} {C : List Value} (hb : BlkAt w db C 44) (x : Value) : OwnPt B (w.setCell ⟨db, i, none⟩ x) v l := by
  refine ⟨h.1, ?_⟩
  have hne := own_block h (t2 := 44) (by decide) hb
  rcases h.2 with hn | ⟨gg, cap, cur, rfl, hg, hh, rest⟩
  · exact .inl hn
  · exact .inr ⟨gg, cap, cur, rfl, hg, (Below.heap_setCell w ⟨db, i, none⟩ x gg (hne gg rfl).2).trans hh, rest⟩
theorem own_len {B : Nat} {w : World} {v : Value} {n : Nat} {t : TypeId} {C : List Value} (h : w.ownsRow B t 5 v n C) : ∃ a c, v = .slice a n c := by
  rcases h.2 with ⟨rfl, h0⟩ | ⟨g, cap, cur, rfl, _⟩
  · exact ⟨none, 0, by rw [h0]⟩
  · exact ⟨_, cap, rfl⟩
theorem blk4 {w : World} {b : Nat} {x0 x1 x2 x3 : Value} {t : TypeId} (h : BlkAt w b [x0, x1, x2, x3] t) : b < w.heap.size ∧ w.cell? ⟨b, 0, none⟩ = some x0 ∧ w.cell? ⟨b, 1, none⟩ = some x1 ∧ w.cell? ⟨b, 2, none⟩ = some x2 ∧ w.cell? ⟨b, 3, none⟩ = some x3 ∧ w.frozen? ⟨b, 0, none⟩ = false ∧ w.frozen? ⟨b, 1, none⟩ = false ∧ w.frozen? ⟨b, 2, none⟩ = false ∧ w.frozen? ⟨b, 3, none⟩ = false := ⟨h.lt, h.cell 0, h.cell 1, h.cell 2, h.cell 3, h.free 0, h.free 1, h.free 2, h.free 3⟩
theorem u16_two (x : Int) : bits .or .u16 0 1 = 1 ∧ bits .or .u16 2 1 = 3 := by decide +kernel

end Go.Proofs.YtfhhgcgbgmilcaaGreat

/- build's puts: one descriptor of each kind. Conditions: as each theorem names them. -/
namespace Go.Proofs.YtfhhgcgbgmilcaaGreat
open Go.ChangeShapes Go.WideShapes Go.ChangeAt Go.RowKit
set_option linter.unusedVariables false
set_option maxRecDepth 100000

set_option maxHeartbeats 2000000 in
theorem bscput (b o vc N : Nat) (k : Nat) (x x1 a n : Int) (f : Nat) (nx : Bool) (w : World) (hb : b < w.heap.size) (hc : w.cell? ⟨b, o + k, none⟩ = some (.int .i64 x)) (hk : k < N) (hN : N ≤ 1000) (h1 : nx = true → k + 1 < N ∧ w.cell? ⟨b, o + (k + 1), none⟩ = some (.int .i64 x1) ∧ 0 ≤ x1 ∧ x1 < 32768) (h0 : nx = false → x1 = 0) (hf : (bits .and .u16 (f : Int) 1 != 0) = nx) :
    Calls Tryz.prog 40 #[.slice (some ⟨b, o, none⟩) N vc, .int .i64 k, paV a n f] w fun e w' => e = .returned (pV ⟨x, ⟨a, n, f, x1⟩⟩) ∧ Below w.heap.size w w' := by
  have HC := hid_mk (fun u => bcont a n f nx u hf)
  have HB0 : Hid (Below w.heap.size w (((w.alloc (.cells #[.int .u64 a, .int .u32 n, .int .u16 (f : Int)] 111)).alloc (.cells (ptCells [zPt]).toArray 46)).alloc (.cells #[.int .u64 a, .int .u32 n, .int .u16 (f : Int), .int .u16 0] 44))) := hid_mk (((below_box w _).alloc (by simp) _).alloc (by simp <;> omega) _)
  have HX0 : Hid (BlkAt (((w.alloc (.cells #[.int .u64 a, .int .u32 n, .int .u16 (f : Int)] 111)).alloc (.cells (ptCells [zPt]).toArray 46)).alloc (.cells #[.int .u64 a, .int .u32 n, .int .u16 (f : Int), .int .u16 0] 44)) (w.heap.size + 2) [.int .u64 a, .int .u32 n, .int .u16 (f : Int), .int .u16 0] 44) := hid_mk (by
    have := blk_new ((w.alloc (.cells #[.int .u64 a, .int .u32 n, .int .u16 (f : Int)] 111)).alloc (.cells (ptCells [zPt]).toArray 46)) [.int .u64 a, .int .u32 n, .int .u16 (f : Int), .int .u16 0] 44
    simpa using this)
  have HR0 : Hid (BlkAt (((w.alloc (.cells #[.int .u64 a, .int .u32 n, .int .u16 (f : Int)] 111)).alloc (.cells (ptCells [zPt]).toArray 46)).alloc (.cells #[.int .u64 a, .int .u32 n, .int .u16 (f : Int), .int .u16 0] 44)) (w.heap.size + 1) (ptCells [zPt]) 46) := hid_mk (by
    have := blk_new (w.alloc (.cells #[.int .u64 a, .int .u32 n, .int .u16 (f : Int)] 111)) (ptCells [zPt]) 46
    have := this.below (below_box _ (.cells #[.int .u64 a, .int .u32 n, .int .u16 (f : Int), .int .u16 0] 44))
    simpa using this)
  simp only [ptCells, zPt] at HB0 HX0 HR0
  clear hf
  have hki : (k : Int) < (N : Int) := by omega
  have hNi : (N : Int) ≤ 1000 := by omega
  cases nx
  · have hx1 := h0 rfl
    subst hx1
    clear h1 h0
    go_enter Tryz.func40, Tryz.ntmps40
    go_wp2_with fail
    refine (HC.out _).mono ?_
    rintro e w1 ⟨rfl, hb1⟩
    have HB1 := hid_mk (below_then HB0.out hb1)
    have HR1 := hid_mk (HR0.out.below hb1)
    have HX1 := hid_mk (HX0.out.below hb1)
    obtain ⟨⟨c0, c1, c2, c3, c4, hcc, hlt, k0, k1, k2, k3, k4⟩, f0, f1, f2, f3, f4⟩ := blk5 HR1.out rfl
    cases hcc
    obtain ⟨lx, q0, q1, q2, q3, g0, g1, g2, g3⟩ := blk4 HX1.out
    have hbw := HB1.out.cell (p := ⟨b, o + k, none⟩) hb
    rw [hc] at hbw
    have hb2 : b < w1.heap.size := Nat.lt_of_lt_of_le hb HB1.out.size
    clear hb1
    obtain ⟨db, hdb⟩ : ∃ db, w.heap.size + 2 = db := ⟨_, rfl⟩
    obtain ⟨rb, hrb⟩ : ∃ rb, w.heap.size + 1 = rb := ⟨_, rfl⟩
    have hne : db ≠ rb := by omega
    have hne2 : rb < db := by omega
    have hne3 : b < rb := by omega
    have hne4 : b ≠ rb := by omega
    have HRB : Hid (w.heap.size ≤ rb) := hid_mk (by omega)
    have HDB : Hid (w.heap.size ≤ db) := hid_mk (by omega)
    rw [hdb] at lx q0 q1 q2 q3 g0 g1 g2 g3 ⊢
    rw [hrb] at hlt k0 k1 k2 k3 k4 f0 f1 f2 f3 f4 ⊢
    go_wp2_with fail
    go_region
    go_wp2_with fail
    exact bodyPost_ret (v := pV ⟨x, ⟨a, n, f, 0⟩⟩) (by simp [results, Tryz.results40, go_sem, k0, k1, k2, k3, k4]) rfl ⟨rfl, (put5_below HB1.out HRB.out _ _ _ _ _).drew⟩
  · obtain ⟨h1a, h1b, h1c, h1d⟩ := h1 rfl
    clear h1 h0
    have hk1 : (k : Int) + 1 < (N : Int) := by omega
    have hw16 : IntKind.u16.wrap x1 = x1 := by rw [IntKind.wrap_u16]; omega
    go_enter Tryz.func40, Tryz.ntmps40
    go_wp2_with fail
    refine (HC.out _).mono ?_
    rintro e w1 ⟨rfl, hb1⟩
    have HB1 := hid_mk (below_then HB0.out hb1)
    have HR1 := hid_mk (HR0.out.below hb1)
    have HX1 := hid_mk (HX0.out.below hb1)
    obtain ⟨⟨c0, c1, c2, c3, c4, hcc, hlt, k0, k1, k2, k3, k4⟩, f0, f1, f2, f3, f4⟩ := blk5 HR1.out rfl
    cases hcc
    obtain ⟨lx, q0, q1, q2, q3, g0, g1, g2, g3⟩ := blk4 HX1.out
    have hbw := HB1.out.cell (p := ⟨b, o + k, none⟩) hb
    rw [hc] at hbw
    have hbw1 := HB1.out.cell (p := ⟨b, o + (k + 1), none⟩) hb
    rw [h1b] at hbw1
    have hb2 : b < w1.heap.size := Nat.lt_of_lt_of_le hb HB1.out.size
    clear hb1
    obtain ⟨db, hdb⟩ : ∃ db, w.heap.size + 2 = db := ⟨_, rfl⟩
    obtain ⟨rb, hrb⟩ : ∃ rb, w.heap.size + 1 = rb := ⟨_, rfl⟩
    have hne : db ≠ rb := by omega
    have hne2 : rb < db := by omega
    have hne3 : b < rb := by omega
    have hne4 : b ≠ rb := by omega
    have HRB : Hid (w.heap.size ≤ rb) := hid_mk (by omega)
    have HDB : Hid (w.heap.size ≤ db) := hid_mk (by omega)
    rw [hdb] at lx q0 q1 q2 q3 g0 g1 g2 g3 ⊢
    rw [hrb] at hlt k0 k1 k2 k3 k4 f0 f1 f2 f3 f4 ⊢
    go_wp2_with fail
    go_region
    go_wp2_with fail
    exact bodyPost_ret (v := pV ⟨x, ⟨a, n, f, x1⟩⟩) (by simp [results, Tryz.results40, go_sem, k0, k1, k2, k3, k4]) rfl ⟨rfl, (put5_below (HB1.out.setCell HDB.out _) HRB.out _ _ _ _ _).drew⟩

set_option maxHeartbeats 2000000 in
theorem bstput (k : Nat) (x1 a n : Int) (f : Nat) (nx : Bool) (w : World) (hk : k ≤ 1000) (h1 : nx = true → x1 = (k : Int) + 1) (h0 : nx = false → x1 = 0) (hf : (bits .and .u16 (f : Int) 1 != 0) = nx) :
    Calls Tryz.prog 133 #[.agg #[], .int .i64 k, paV a n f] w fun e w' => e = .returned (dV ⟨a, n, f, x1⟩) ∧ Below w.heap.size w w' := by
  have HC := hid_mk (fun u => bcont a n f nx u hf)
  clear hf
  have hki : (k : Int) ≤ 1000 := by omega
  have HB0 : Hid (Below w.heap.size w ((((w.alloc (.cells #[] 106)).alloc (.cells #[.int .u64 a, .int .u32 n, .int .u16 (f : Int)] 111)).alloc (.cells #[.int .u64 0, .int .u32 0, .int .u16 0, .int .u16 0] 44)).alloc (.cells #[.int .u64 a, .int .u32 n, .int .u16 (f : Int), .int .u16 0] 44))) := hid_mk ((((below_box w _).alloc (by simp) _).alloc (by simp <;> omega) _).alloc (by simp <;> omega) _)
  have HX0 : Hid (BlkAt ((((w.alloc (.cells #[] 106)).alloc (.cells #[.int .u64 a, .int .u32 n, .int .u16 (f : Int)] 111)).alloc (.cells #[.int .u64 0, .int .u32 0, .int .u16 0, .int .u16 0] 44)).alloc (.cells #[.int .u64 a, .int .u32 n, .int .u16 (f : Int), .int .u16 0] 44)) (w.heap.size + 1 + 1 + 1) [.int .u64 a, .int .u32 n, .int .u16 (f : Int), .int .u16 0] 44) := hid_mk (by
    have := blk_new (((w.alloc (.cells #[] 106)).alloc (.cells #[.int .u64 a, .int .u32 n, .int .u16 (f : Int)] 111)).alloc (.cells #[.int .u64 0, .int .u32 0, .int .u16 0, .int .u16 0] 44)) [.int .u64 a, .int .u32 n, .int .u16 (f : Int), .int .u16 0] 44
    simpa using this)
  have HR0 : Hid (BlkAt ((((w.alloc (.cells #[] 106)).alloc (.cells #[.int .u64 a, .int .u32 n, .int .u16 (f : Int)] 111)).alloc (.cells #[.int .u64 0, .int .u32 0, .int .u16 0, .int .u16 0] 44)).alloc (.cells #[.int .u64 a, .int .u32 n, .int .u16 (f : Int), .int .u16 0] 44)) (w.heap.size + 1 + 1) [.int .u64 0, .int .u32 0, .int .u16 0, .int .u16 0] 44) := hid_mk (by
    have := blk_new ((w.alloc (.cells #[] 106)).alloc (.cells #[.int .u64 a, .int .u32 n, .int .u16 (f : Int)] 111)) [.int .u64 0, .int .u32 0, .int .u16 0, .int .u16 0] 44
    have := this.below (below_box _ (.cells #[.int .u64 a, .int .u32 n, .int .u16 (f : Int), .int .u16 0] 44))
    simpa using this)
  cases nx
  · have hx1 := h0 rfl
    subst hx1
    clear h1 h0
    go_enter Tryz.func133, Tryz.ntmps133
    go_wp2_with fail
    refine (HC.out _).mono ?_
    rintro e w1 ⟨rfl, hb1⟩
    have HB1 := hid_mk (below_then HB0.out hb1)
    have HR1 := hid_mk (HR0.out.below hb1)
    have HX1 := hid_mk (HX0.out.below hb1)
    obtain ⟨hlt, k0, k1, k2, k3, f0, f1, f2, f3⟩ := blk4 HR1.out
    obtain ⟨lx, q0, q1, q2, q3, g0, g1, g2, g3⟩ := blk4 HX1.out
    clear hb1
    obtain ⟨db, hdb⟩ : ∃ db, w.heap.size + 1 + 1 + 1 = db := ⟨_, rfl⟩
    obtain ⟨rb, hrb⟩ : ∃ rb, w.heap.size + 1 + 1 = rb := ⟨_, rfl⟩
    have hne : db ≠ rb := by omega
    have hne2 : rb < db := by omega
    have HRB : Hid (w.heap.size ≤ rb) := hid_mk (by omega)
    have HDB : Hid (w.heap.size ≤ db) := hid_mk (by omega)
    rw [hdb] at lx q0 q1 q2 q3 g0 g1 g2 g3 ⊢
    rw [hrb] at hlt k0 k1 k2 k3 f0 f1 f2 f3 ⊢
    go_wp2_with fail
    exact bodyPost_ret (v := dV ⟨a, n, f, 0⟩) (by simp [results, Tryz.results133, go_sem, k0, k1, k2, k3]) rfl ⟨rfl, by repeat (first | exact HB1.out | (refine Below.setCell ?_ (by first | exact HRB.out | exact HDB.out) _))⟩
  · have hx1 := h1 rfl
    subst hx1
    clear h1 h0
    have hw16 : IntKind.u16.wrap ((k : Int) + 1) = (k : Int) + 1 := by rw [IntKind.wrap_u16]; omega
    go_enter Tryz.func133, Tryz.ntmps133
    go_wp2_with fail
    refine (HC.out _).mono ?_
    rintro e w1 ⟨rfl, hb1⟩
    have HB1 := hid_mk (below_then HB0.out hb1)
    have HR1 := hid_mk (HR0.out.below hb1)
    have HX1 := hid_mk (HX0.out.below hb1)
    obtain ⟨hlt, k0, k1, k2, k3, f0, f1, f2, f3⟩ := blk4 HR1.out
    obtain ⟨lx, q0, q1, q2, q3, g0, g1, g2, g3⟩ := blk4 HX1.out
    clear hb1
    obtain ⟨db, hdb⟩ : ∃ db, w.heap.size + 1 + 1 + 1 = db := ⟨_, rfl⟩
    obtain ⟨rb, hrb⟩ : ∃ rb, w.heap.size + 1 + 1 = rb := ⟨_, rfl⟩
    have hne : db ≠ rb := by omega
    have hne2 : rb < db := by omega
    have HRB : Hid (w.heap.size ≤ rb) := hid_mk (by omega)
    have HDB : Hid (w.heap.size ≤ db) := hid_mk (by omega)
    rw [hdb] at lx q0 q1 q2 q3 g0 g1 g2 g3 ⊢
    rw [hrb] at hlt k0 k1 k2 k3 f0 f1 f2 f3 ⊢
    go_wp2_with fail
    exact bodyPost_ret (v := dV ⟨a, n, f, (k : Int) + 1⟩) (by simp [results, Tryz.results133, go_sem, k0, k1, k2, k3]) rfl ⟨rfl, by repeat (first | exact HB1.out | (refine Below.setCell ?_ (by first | exact HRB.out | exact HDB.out) _))⟩
set_option maxHeartbeats 2000000 in
theorem bptput (k : Int) (a n : Int) (t nx : Bool) (w : World) :
    Calls Tryz.prog 134 #[.agg #[], .int .i64 k, paV a n (flgN t nx)] w fun e w' => e = .returned (dV ⟨a, n, 0, (flgN t false : Nat)⟩) ∧ Below w.heap.size w w' := by
  have hb : bits .and .u16 (flgN t nx : Nat) 2 = ((flgN t false : Nat) : Int) := by cases t <;> cases nx <;> decide +kernel
  generalize flgN t nx = f at *
  generalize flgN t false = g at *
  go_enter Tryz.func134, Tryz.ntmps134
  go_wp2
  exact bodyPost_ret (v := dV ⟨a, n, 0, (g : Nat)⟩) (by simp [results, Tryz.results134, go_sem]) rfl ⟨rfl, ((below_box w _).alloc (by simp) _).alloc (by simp <;> omega) _⟩
set_option maxHeartbeats 2000000 in
theorem bpcput (p n id a l : Int) (b : Bool) (k : Nat) (f : Nat) (w : World) (hf : f < 65536) (hp : okP p n = true) (hk : (k : Int) ≤ n) (hid : 0 ≤ id ∧ id < 32768) :
    Calls Tryz.prog 48 #[.agg #[.int .i64 p, .bool b, .int .i64 n, .int .i64 id], .int .i64 k, paV a l f] w fun e w' => e = .returned (pV ⟨goA p k n, ⟨a, l, id, (markN f (goW p k n b) false : Nat)⟩⟩) ∧ Below w.heap.size w w' := by
  obtain ⟨h1, h2, h3, h4⟩ := okP_t hp
  have HG := hid_mk (fun u => go_any p k n b u h1 h2 h3 h4 (by omega) hk)
  have HM := hid_mk (fun c u => Mark_any f c false u hf)
  have hw16 : IntKind.u16.wrap id = id := by rw [IntKind.wrap_u16]; omega
  generalize goA p k n = ga at *
  generalize goW p k n b = gw at *
  obtain ⟨hid0, hid1⟩ := hid
  clear hp h1 h2 h3 h4 hk hf
  have HB0 : Hid (Below w.heap.size w (((w.alloc (.cells #[.int .i64 p, .bool b, .int .i64 n, .int .i64 id] 117)).alloc (.cells #[.int .u64 a, .int .u32 l, .int .u16 (f : Int)] 111)).alloc (.cells #[.int .i64 0, .int .u64 0, .int .u32 0, .int .u16 0, .int .u16 0] 65))) := hid_mk (((below_box w _).alloc (by simp) _).alloc (by simp <;> omega) _)
  have HP0 : Hid (BlkAt (((w.alloc (.cells #[.int .i64 p, .bool b, .int .i64 n, .int .i64 id] 117)).alloc (.cells #[.int .u64 a, .int .u32 l, .int .u16 (f : Int)] 111)).alloc (.cells #[.int .i64 0, .int .u64 0, .int .u32 0, .int .u16 0, .int .u16 0] 65)) w.heap.size [.int .i64 p, .bool b, .int .i64 n, .int .i64 id] 117) := hid_mk (((blk_new w _ _).below (below_box _ _)).below (below_box _ _))
  have HQ0 : Hid (BlkAt (((w.alloc (.cells #[.int .i64 p, .bool b, .int .i64 n, .int .i64 id] 117)).alloc (.cells #[.int .u64 a, .int .u32 l, .int .u16 (f : Int)] 111)).alloc (.cells #[.int .i64 0, .int .u64 0, .int .u32 0, .int .u16 0, .int .u16 0] 65)) (w.heap.size + 1) [.int .u64 a, .int .u32 l, .int .u16 (f : Int)] 111) := hid_mk (by
    have := (blk_new (w.alloc (.cells #[.int .i64 p, .bool b, .int .i64 n, .int .i64 id] 117)) [.int .u64 a, .int .u32 l, .int .u16 (f : Int)] 111).below (below_box _ (.cells #[.int .i64 0, .int .u64 0, .int .u32 0, .int .u16 0, .int .u16 0] 65))
    simpa using this)
  have HR0 : Hid (BlkAt (((w.alloc (.cells #[.int .i64 p, .bool b, .int .i64 n, .int .i64 id] 117)).alloc (.cells #[.int .u64 a, .int .u32 l, .int .u16 (f : Int)] 111)).alloc (.cells #[.int .i64 0, .int .u64 0, .int .u32 0, .int .u16 0, .int .u16 0] 65)) (w.heap.size + 1 + 1) [.int .i64 0, .int .u64 0, .int .u32 0, .int .u16 0, .int .u16 0] 65) := hid_mk (by
    have := blk_new ((w.alloc (.cells #[.int .i64 p, .bool b, .int .i64 n, .int .i64 id] 117)).alloc (.cells #[.int .u64 a, .int .u32 l, .int .u16 (f : Int)] 111)) [.int .i64 0, .int .u64 0, .int .u32 0, .int .u16 0, .int .u16 0] 65
    simpa using this)
  go_enter Tryz.func48, Tryz.ntmps48
  go_wp2_with fail
  refine (HG.out _).mono ?_
  rintro e w1 ⟨rfl, hb1⟩
  have HB1 := hid_mk (below_then HB0.out hb1)
  have HR1 := hid_mk (HR0.out.below hb1)
  have HP1 := HP0.out.below hb1
  have HQ1 := HQ0.out.below hb1
  obtain ⟨⟨c0, c1, c2, c3, c4, hcc, hlt, k0, k1, k2, k3, k4⟩, f0, f1, f2, f3, f4⟩ := blk5 HR1.out rfl
  cases hcc
  have y0 := HP1.lt
  have y1 : w1.cell? ⟨w.heap.size, 3, none⟩ = some (.int .i64 id) := HP1.cell 3
  have z0 := HQ1.lt
  have z1 : w1.cell? ⟨w.heap.size + 1, 0, none⟩ = some (.int .u64 a) := HQ1.cell 0
  have z2 : w1.cell? ⟨w.heap.size + 1, 1, none⟩ = some (.int .u32 l) := HQ1.cell 1
  have z3 : w1.cell? ⟨w.heap.size + 1, 2, none⟩ = some (.int .u16 (f : Int)) := HQ1.cell 2
  clear hb1 HP1 HQ1
  obtain ⟨pb, hpb⟩ : ∃ pb, w.heap.size + 1 = pb := ⟨_, rfl⟩
  obtain ⟨rb, hrb⟩ : ∃ rb, w.heap.size + 1 + 1 = rb := ⟨_, rfl⟩
  have HRB : Hid (w.heap.size ≤ rb) := hid_mk (by omega)
  rw [hrb] at hlt k0 k1 k2 k3 k4 f0 f1 f2 f3 f4 ⊢
  rw [hpb] at z0 z1 z2 z3 ⊢
  have hcb2 : w.heap.size < rb := by omega
  go_wp2_with fail
  refine (HM.out _ _).mono ?_
  rintro e w2 ⟨rfl, rfl⟩
  go_wp2_with fail
  have HF := (put5_pt (⟨ga, ⟨a, l, id, (markN f gw false : Nat)⟩⟩ : Pt) HR1.out rfl).below (below_box _ (.cells #[.int .i64 ga, .bool gw] 58))
  have HBe := (put5_below HB1.out HRB.out (.int .i64 ga) (.int .u64 a) (.int .u32 l) (.int .u16 id) (.int .u16 (markN f gw false : Nat))).alloc (by simp; exact HB1.out.size) (.cells #[.int .i64 ga, .bool gw] 58)
  simp only [hrb] at HF HBe
  clear HB0 HP0 HQ0 HR0 HG HM
  generalize hU : World.alloc _ _ = U
  rw [hU] at HF HBe
  have m0 : U.cell? ⟨rb, 0, none⟩ = some (.int .i64 ga) := HF.cell 0
  have m1 : U.cell? ⟨rb, 1, none⟩ = some (.int .u64 a) := HF.cell 1
  have m2 : U.cell? ⟨rb, 2, none⟩ = some (.int .u32 l) := HF.cell 2
  have m3 : U.cell? ⟨rb, 3, none⟩ = some (.int .u16 id) := HF.cell 3
  have m4 : U.cell? ⟨rb, 4, none⟩ = some (.int .u16 (markN f gw false : Nat)) := HF.cell 4
  exact bodyPost_ret (v := pV ⟨ga, ⟨a, l, id, (markN f gw false : Nat)⟩⟩) (by simp [results, Tryz.results48, go_sem, m0, m1, m2, m3, m4]) rfl ⟨rfl, HBe⟩
end Go.Proofs.YtfhhgcgbgmilcaaGreat
