/- Gm6 Gm7 Gm8: joined texts. Conditions: as each theorem names them. -/
import Derived.Test.YtfhhgcgbgmilcaaGreatKp04
import Derived.Laws.MakeOwn
import Derived.Laws.BytesArg
/- Contracts of gmem's Regions and New. Conditions: as each theorem names them. -/
namespace Go.Proofs.YtfhhgcgbgmilcaaGreat
open Go.ChangeShapes Go.WideShapes Go.ChangeAt Go.RowKit
set_option linter.unusedVariables false
set_option maxRecDepth 100000

/-- regions as a block's cells -/
def regCells : List (Int × Int) → List Value
  | [] => []
  | r :: l => .int .u64 r.1 :: .int .u64 r.2 :: regCells l
theorem regCells_length : ∀ l : List (Int × Int), (regCells l).length = l.length * 2
  | [] => rfl
  | r :: l => by
    simp only [regCells, List.length_cons, regCells_length l]
    omega
theorem regCells_at : ∀ (l : List (Int × Int)) (i : Nat), i < l.length → (regCells l)[i * 2]? = some (.int .u64 (at_ l i).1) ∧ (regCells l)[i * 2 + 1]? = some (.int .u64 (at_ l i).2)
  | [], i, h => by simp at h
  | r :: l, 0, _ => by simp [regCells, at_]
  | r :: l, i + 1, h => by
    have := regCells_at l i (by simpa using h)
    have e : (i + 1) * 2 = i * 2 + 1 + 1 := by omega
    rw [at_succ, e]
    simpa [regCells] using this
theorem regCells_set : ∀ (l : List (Int × Int)) (i : Nat) (x y : Int), ((regCells l).set (i * 2) (.int .u64 x)).set (i * 2 + 1) (.int .u64 y) = regCells (l.set i (x, y))
  | [], i, x, y => by simp [regCells]
  | r :: l, 0, x, y => by simp [regCells]
  | r :: l, i + 1, x, y => by
    have := regCells_set l i x y
    have e : (i + 1) * 2 = i * 2 + 1 + 1 := by omega
    rw [e]
    simpa [regCells] using this
theorem regsAt_row {w : World} {g c : Nat} {L : List (Int × Int)} {t : TypeId} {fr : Nat × Nat} {cs : List Value} (h : w.heap[g]? = some (.cells (regCells L ++ cs).toArray t fr)) (hc : L.length ≤ c) : RegsAt w (.slice (some ⟨g, 0, none⟩) L.length c) L := by
  refine Or.inr ⟨g, 0, c, rfl, lt_blk h, hc, fun j hj => ?_⟩
  have h1 := regCells_at L j hj
  have hl := regCells_length L
  refine ⟨?_, ?_⟩
  · rw [Nat.zero_add, cellK h, List.getElem?_append_left (by omega)]
    exact h1.1
  · rw [Nat.zero_add, cellK h, List.getElem?_append_left (by omega)]
    exact h1.2
theorem setR (w : World) (g i : Nat) (X : List (Int × Int)) (x y : Int) (t : TypeId) (hg : w.heap[g]? = some (.cells (regCells X).toArray t (0, 0))) :
    (w.setCell ⟨g, i * 2, none⟩ (.int .u64 x)).setCell ⟨g, i * 2 + 1, none⟩ (.int .u64 y) = w.setRow g (regCells (X.set i (x, y))).toArray := by
  have h1 := setCell_eq_setRow w g (i * 2) _ t (0, 0) (.int .u64 x) hg
  have h2 : (w.setCell ⟨g, i * 2, none⟩ (.int .u64 x)).heap[g]? = some (.cells ((regCells X).set (i * 2) (.int .u64 x)).toArray t (0, 0)) := by
    rw [heap_setCell_same w g (i * 2) _ t _ hg]
    simp
  rw [setCell_eq_setRow _ g (i * 2 + 1) _ t (0, 0) _ h2, h1, setRow_setRow]
  simp [regCells_set]

/-- make([]api.Region, n) -/
theorem rowReg : (Tryz.prog.info? 80).map (fun i => (i.zero, i.size, i.bytes)) = some (some (.agg #[.int .u64 0, .int .u64 0]), 2, 16) := by kernel_rfl
theorem regCells_zero : ∀ n : Nat, regCells (List.replicate n (0, 0)) = List.replicate (n * 2) (.int .u64 0)
  | 0 => rfl
  | n + 1 => by
    rw [List.replicate_succ, regCells, regCells_zero n, show (n + 1) * 2 = n * 2 + 1 + 1 from by omega, List.replicate_succ, List.replicate_succ]
theorem makeR (w : World) (n : Nat) (h : n ≤ 1000000) :
    (Instr.makeSlice 81 (.int .i64 (n : Int)) (.int .i64 (n : Int))).run Tryz.prog w = .ok (.slice (some ⟨w.heap.size, 0, none⟩) n n) (w.alloc (.cells (regCells (List.replicate n (0, 0))).toArray 80)) := by
  obtain ⟨i0, hi, hz0, hz1, hz2⟩ := info_parts rowReg
  have hr := run_make (P := Tryz.prog) w 81 80 i0 _ Tryz.underlying81 hi hz0 .i64 .i64 n n (by omega) (Int.le_refl _) (by rw [hz2]; omega) (by omega)
  rw [hr]
  simp only [Int.toNat_natCast, hz1]
  congr 3
  rw [regCells_zero]
  apply Array.ext'
  rw [show (Value.agg #[.int .u64 0, .int .u64 0]).cells = #[.int .u64 0, .int .u64 0] from rfl]
  apply List.ext_getElem
  · simp [madeCells]
  · intro i h1 h2
    simp [madeCells]
    rcases Nat.mod_two_eq_zero_or_one i with e | e
    · rw [e]; rfl
    · rw [e]; rfl

/-! ## Regions -/
theorem take_set (L : List (Int × Int)) (k : Nat) (h : k < L.length) : (L.take k ++ List.replicate (L.length - k) (0, 0)).set k ((at_ L k).1, (at_ L k).2) = L.take (k + 1) ++ List.replicate (L.length - (k + 1)) (0, 0) := by
  have e1 : (L.take k).length = k := by simp; omega
  rw [List.set_append_right _ _ (by omega), e1, Nat.sub_self, show L.length - k = (L.length - (k + 1)) + 1 from by omega, List.replicate_succ, List.set_cons_zero, List.take_succ_eq_append_getElem h, List.append_assoc]
  simp [at_, List.getD, h]
end Go.Proofs.YtfhhgcgbgmilcaaGreat

/- The contract of gmem's New: a memory of zeros, or Check's error. Conditions: as each theorem names them. -/
namespace Go.Proofs.YtfhhgcgbgmilcaaGreat
open Go.ChangeShapes Go.WideShapes Go.ChangeAt Go.RowKit
set_option linter.unusedVariables false
set_option maxRecDepth 100000

/-- parts as the memory keeps them while New fills them: the first k are laid -/
def partHalf (ib : Nat) (L : List (Int × Int)) (k : Nat) : List Value := partCells ib 0 (L.take k) ++ (List.replicate (L.length - k) [Value.int .u64 0, .int .u64 0, .slice none 0 0]).flatten
theorem partHalf_length (ib : Nat) (L : List (Int × Int)) (k : Nat) (h : k ≤ L.length) : (partHalf ib L k).length = 3 * L.length := by
  unfold partHalf
  simp [partCells_length]
  omega
theorem partCells_append (ib : Nat) : ∀ (o : Nat) (a b : List (Int × Int)), partCells ib o (a ++ b) = partCells ib o a ++ partCells ib (o + sumR a) b
  | o, [], b => by simp [partCells, sumR]
  | o, r :: a, b => by
    simp only [List.cons_append, partCells, sumR, partCells_append ib (o + r.2.toNat) a b]
    simp [Nat.add_assoc]
theorem partHalf_step (ib : Nat) (L : List (Int × Int)) (k : Nat) (h : k < L.length) :
    (((partHalf ib L k).set (k * 3) (.int .u64 (at_ L k).1)).set (k * 3 + 1) (.int .u64 ((at_ L k).1 + (at_ L k).2 - 1))).set (k * 3 + 2) (.slice (some ⟨ib, off L k, none⟩) (at_ L k).2.toNat (at_ L k).2.toNat) = partHalf ib L (k + 1) := by
  have e1 : (partCells ib 0 (L.take k)).length = k * 3 := by
    rw [partCells_length]
    simp
    omega
  have et : L.take (k + 1) = L.take k ++ [at_ L k] := by
    rw [List.take_succ_eq_append_getElem h]
    simp [at_, List.getD, h]
  unfold partHalf
  rw [et, partCells_append, show L.length - k = (L.length - (k + 1)) + 1 from by omega, List.replicate_succ, List.flatten_cons]
  simp only [List.set_append_right _ _ (show (partCells ib 0 (L.take k)).length ≤ k * 3 by omega), List.set_append_right _ _ (show (partCells ib 0 (L.take k)).length ≤ k * 3 + 1 by omega), List.set_append_right _ _ (show (partCells ib 0 (L.take k)).length ≤ k * 3 + 2 by omega), e1]
  rw [show k * 3 - k * 3 = 0 from by omega, show k * 3 + 1 - k * 3 = 1 from by omega, show k * 3 + 2 - k * 3 = 2 from by omega]
  simp [partCells, off]

theorem flat_at {α : Type} (l : List α) : ∀ (n i : Nat), i < n * l.length → ((List.replicate n l).flatten)[i]? = l[i % l.length]?
  | 0, i, h => by simp at h
  | n + 1, i, h => by
    rw [Nat.succ_mul] at h
    rw [List.replicate_succ, List.flatten_cons, List.getElem?_append]
    by_cases hi : i < l.length
    · rw [if_pos hi, Nat.mod_eq_of_lt hi]
    · rw [if_neg hi, flat_at l n (i - l.length) (by omega), ← Nat.mod_eq_sub_mod (by omega)]
/-- make([]part, n) -/
theorem rowPart : (Tryz.prog.info? 135).map (fun i => (i.zero, i.size, i.bytes)) = some (some (.agg #[.int .u64 0, .int .u64 0, .slice none 0 0]), 3, 40) := by kernel_rfl
theorem makeP (w : World) (ib : Nat) (L : List (Int × Int)) (h : L.length ≤ 1000000) :
    (Instr.makeSlice 130 (.int .i64 (L.length : Int)) (.int .i64 (L.length : Int))).run Tryz.prog w = .ok (.slice (some ⟨w.heap.size, 0, none⟩) L.length L.length) (w.alloc (.cells (partHalf ib L 0).toArray 135)) := by
  obtain ⟨i0, hi, hz0, hz1, hz2⟩ := info_parts rowPart
  have hr := run_make (P := Tryz.prog) w 130 135 i0 _ Tryz.underlying130 hi hz0 .i64 .i64 L.length L.length (by omega) (Int.le_refl _) (by rw [hz2]; omega) (by omega)
  rw [hr]
  simp only [Int.toNat_natCast, hz1]
  congr 3
  apply Array.ext'
  rw [show (Value.agg #[.int .u64 0, .int .u64 0, .slice none 0 0]).cells = #[.int .u64 0, .int .u64 0, .slice none 0 0] from rfl]
  have hl := partHalf_length ib L 0 (Nat.zero_le _)
  apply List.ext_getElem
  · simp [madeCells, hl]
    omega
  · intro i h1 h2
    have hz : partHalf ib L 0 = (List.replicate L.length [Value.int .u64 0, .int .u64 0, .slice none 0 0]).flatten := by simp [partHalf, partCells]
    have hlt : i < L.length * 3 := by
      simp at h2
      omega
    have e := flat_at [Value.int .u64 0, .int .u64 0, .slice none 0 0] L.length i (by simpa using hlt)
    rw [← hz] at e
    have e2 : (partHalf ib L 0).toArray.toList[i] = (partHalf ib L 0)[i]'(by omega) := by simp
    rw [e2]
    apply Option.some.inj
    rw [← List.getElem?_eq_getElem h1, ← List.getElem?_eq_getElem (show i < (partHalf ib L 0).length by omega), e]
    have e3 : (madeCells #[Value.int .u64 0, .int .u64 0, .slice none 0 0] (L.length * 3)).toList[i]? = some (#[Value.int .u64 0, .int .u64 0, .slice none 0 0][i % 3]!) := by
      rw [Array.getElem?_toList]
      simp [madeCells, hlt]
    rw [e3]
    simp only [List.length_cons, List.length_nil]
    have hm : i % 3 < 3 := Nat.mod_lt _ (by omega)
    generalize i % 3 = j at hm
    rcases j with _ | _ | _ | j
    · rfl
    · rfl
    · rfl
    · omega
theorem setP (w : World) (g k ib : Nat) (L : List (Int × Int)) (t : TypeId) (h : k < L.length) (hg : w.heap[g]? = some (.cells (partHalf ib L k).toArray t (0, 0))) :
    ((w.setCell ⟨g, k * 3, none⟩ (.int .u64 (at_ L k).1)).setCell ⟨g, k * 3 + 1, none⟩ (.int .u64 ((at_ L k).1 + (at_ L k).2 - 1))).setCell ⟨g, k * 3 + 2, none⟩ (.slice (some ⟨ib, off L k, none⟩) (at_ L k).2.toNat (at_ L k).2.toNat) = w.setRow g (partHalf ib L (k + 1)).toArray := by
  have h1 := setCell_eq_setRow w g (k * 3) _ t (0, 0) (.int .u64 (at_ L k).1) hg
  have h2 := heap_setCell_same w g (k * 3) _ t (.int .u64 (at_ L k).1) hg
  have h3 := setCell_eq_setRow _ g (k * 3 + 1) _ t (0, 0) (.int .u64 ((at_ L k).1 + (at_ L k).2 - 1)) h2
  have h4 := heap_setCell_same _ g (k * 3 + 1) _ t (.int .u64 ((at_ L k).1 + (at_ L k).2 - 1)) h2
  rw [setCell_eq_setRow _ g (k * 3 + 2) _ t (0, 0) _ h4, h3, h1, setRow_setRow, setRow_setRow, ← partHalf_step ib L k h]
  simp only [List.setIfInBounds_toArray]

theorem partHalf_zero (a b : Nat) (L : List (Int × Int)) : partHalf a L 0 = partHalf b L 0 := by simp [partHalf, partCells]
theorem heapA (w : World) (o : Obj) (k : Nat) : (w.alloc o).heap[k]? = if k = w.heap.size then some o else w.heap[k]? := by
  show (w.heap.push o)[k]? = _
  rw [Array.getElem?_push]

theorem sizeA (w : World) (o : Obj) : (w.alloc o).heap.size = w.heap.size + 1 := by simp
theorem heap3_0 (w : World) (A B C : Obj) : (((w.alloc A).alloc B).alloc C).heap[w.heap.size]? = some A := by
  rw [heapA, if_neg (by rw [sizeA, sizeA]; omega), heapA, if_neg (by rw [sizeA]; omega), heapA, if_pos rfl]
theorem heap3_1 (w : World) (A B C : Obj) : (((w.alloc A).alloc B).alloc C).heap[w.heap.size + 1]? = some B := by
  rw [heapA, if_neg (by rw [sizeA, sizeA]; omega), heapA, if_pos (by rw [sizeA])]
theorem heap3_2 (w : World) (A B C : Obj) : (((w.alloc A).alloc B).alloc C).heap[w.heap.size + 1 + 1]? = some C := by
  rw [heapA, if_pos (by rw [sizeA, sizeA])]
theorem heap2_0 (w : World) (A B : Obj) : ((w.alloc A).alloc B).heap[w.heap.size]? = some A := by
  rw [heapA, if_neg (by rw [sizeA]; omega), heapA, if_pos rfl]
theorem heap2_1 (w : World) (A B : Obj) : ((w.alloc A).alloc B).heap[w.heap.size + 1]? = some B := by
  rw [heapA, if_pos (by rw [sizeA])]

/-- what New has made before it lays the parts -/
structure Fresh (B : Nat) (w : World) (p ib qb : Nat) (L : List (Int × Int)) : Prop where
  obj : w.heap[p]? = some (.cells #[.pointer none, .slice (some ⟨ib, 0, none⟩) (sumR L) (sumR L), .slice (some ⟨qb, 0, none⟩) L.length L.length] 132 (0, 0))
  img : w.heap[ib]? = some (.cells (bv (List.replicate (sumR L) 0)) 5 (0, 0))
  bp : B ≤ p
  bi : B ≤ ib
  bq : B ≤ qb
  ne1 : p ≠ ib
  ne2 : p ≠ qb
  ne3 : ib ≠ qb

/-- what a cell holds, behind a name -/
def cv (w : World) (a : Addr) : Value := (w.cell? a).getD undef
theorem cv_mk {w : World} {a : Addr} (h : (w.cell? a).isSome = true) : w.cell? a = some (cv w a) := by
  unfold cv
  obtain ⟨v, hv⟩ := Option.isSome_iff_exists.1 h
  rw [hv]
  rfl
theorem some_set {w : World} {a b : Addr} {u v : Value} (h : w.cell? b = some v) : ((w.setCell a u).cell? b).isSome = true := by
  obtain ⟨v', hv'⟩ := cell?_setCell_some (w := w) (p := a) (x := u) (q := b) (v := v) h
  rw [hv']
  rfl
theorem lt_cell {w : World} {b o : Nat} {v : Value} (h : w.cell? ⟨b, o, none⟩ = some v) : b < w.heap.size := World.block_lt_of_cell? w _ h
theorem keep9_call {wr W W' : World} {p qb k n : Nat} {x y : Int} (h : Chg (· = qb) wr W ∧ (W.cell? ⟨p, 2, none⟩ = some (.slice (some ⟨qb, 0, none⟩) n n) ∧ W.cell? ⟨wr.heap.size, 0, none⟩ = some (.int .u64 x) ∧ W.cell? ⟨wr.heap.size, 1, none⟩ = some (.int .u64 y)) ∧ (W.cell? ⟨qb, k * 3, none⟩ = some (cv W ⟨qb, k * 3, none⟩) ∧ W.cell? ⟨qb, k * 3 + 1, none⟩ = some (cv W ⟨qb, k * 3 + 1, none⟩) ∧ W.cell? ⟨qb, k * 3 + 2, none⟩ = some (cv W ⟨qb, k * 3 + 2, none⟩)) ∧ (W.frozen? ⟨qb, k * 3, none⟩ = false ∧ W.frozen? ⟨qb, k * 3 + 1, none⟩ = false ∧ W.frozen? ⟨qb, k * 3 + 2, none⟩ = false)) (hb : Below W.heap.size W W') : Chg (· = qb) wr W' ∧ (W'.cell? ⟨p, 2, none⟩ = some (.slice (some ⟨qb, 0, none⟩) n n) ∧ W'.cell? ⟨wr.heap.size, 0, none⟩ = some (.int .u64 x) ∧ W'.cell? ⟨wr.heap.size, 1, none⟩ = some (.int .u64 y)) ∧ (W'.cell? ⟨qb, k * 3, none⟩ = some (cv W' ⟨qb, k * 3, none⟩) ∧ W'.cell? ⟨qb, k * 3 + 1, none⟩ = some (cv W' ⟨qb, k * 3 + 1, none⟩) ∧ W'.cell? ⟨qb, k * 3 + 2, none⟩ = some (cv W' ⟨qb, k * 3 + 2, none⟩)) ∧ (W'.frozen? ⟨qb, k * 3, none⟩ = false ∧ W'.frozen? ⟨qb, k * 3 + 1, none⟩ = false ∧ W'.frozen? ⟨qb, k * 3 + 2, none⟩ = false) := by
  obtain ⟨h0, ⟨h1, h2, h3⟩, ⟨h4, h5, h6⟩, h7, h8, h9⟩ := h
  have l1 := lt_cell h1
  have l2 := lt_cell h2
  have l4 := lt_cell h4
  refine ⟨h0.trans (Chg.of_below hb), ⟨(hb.cell (p := ⟨_, _, none⟩) l1).trans h1, (hb.cell (p := ⟨_, _, none⟩) l2).trans h2, (hb.cell (p := ⟨_, _, none⟩) l2).trans h3⟩, ⟨cv_mk ?_, cv_mk ?_, cv_mk ?_⟩, (hb.frozen (p := ⟨_, _, none⟩) l4).trans h7, (hb.frozen (p := ⟨_, _, none⟩) l4).trans h8, (hb.frozen (p := ⟨_, _, none⟩) l4).trans h9⟩
  · rw [hb.cell (p := ⟨_, _, none⟩) l4, h4]
    rfl
  · rw [hb.cell (p := ⟨_, _, none⟩) l4, h5]
    rfl
  · rw [hb.cell (p := ⟨_, _, none⟩) l4, h6]
    rfl

theorem frozen_set (w : World) (a : Addr) (v : Value) (x : Addr) : (w.setCell a v).frozen? x = w.frozen? x := by
  simp
theorem keep9_store {wr W : World} {p qb k n : Nat} {x y : Int} {a b c : Value} (hp : p ≠ qb) (hr : wr.heap.size ≠ qb) (h : Chg (· = qb) wr W ∧ (W.cell? ⟨p, 2, none⟩ = some (.slice (some ⟨qb, 0, none⟩) n n) ∧ W.cell? ⟨wr.heap.size, 0, none⟩ = some (.int .u64 x) ∧ W.cell? ⟨wr.heap.size, 1, none⟩ = some (.int .u64 y)) ∧ (W.cell? ⟨qb, k * 3, none⟩ = some (cv W ⟨qb, k * 3, none⟩) ∧ W.cell? ⟨qb, k * 3 + 1, none⟩ = some (cv W ⟨qb, k * 3 + 1, none⟩) ∧ W.cell? ⟨qb, k * 3 + 2, none⟩ = some (cv W ⟨qb, k * 3 + 2, none⟩)) ∧ (W.frozen? ⟨qb, k * 3, none⟩ = false ∧ W.frozen? ⟨qb, k * 3 + 1, none⟩ = false ∧ W.frozen? ⟨qb, k * 3 + 2, none⟩ = false)) : Chg (· = qb) wr (((W.setCell ⟨qb, k * 3, none⟩ a).setCell ⟨qb, k * 3 + 1, none⟩ b).setCell ⟨qb, k * 3 + 2, none⟩ c) ∧ ((((W.setCell ⟨qb, k * 3, none⟩ a).setCell ⟨qb, k * 3 + 1, none⟩ b).setCell ⟨qb, k * 3 + 2, none⟩ c).cell? ⟨p, 2, none⟩ = some (.slice (some ⟨qb, 0, none⟩) n n) ∧ (((W.setCell ⟨qb, k * 3, none⟩ a).setCell ⟨qb, k * 3 + 1, none⟩ b).setCell ⟨qb, k * 3 + 2, none⟩ c).cell? ⟨wr.heap.size, 0, none⟩ = some (.int .u64 x) ∧ (((W.setCell ⟨qb, k * 3, none⟩ a).setCell ⟨qb, k * 3 + 1, none⟩ b).setCell ⟨qb, k * 3 + 2, none⟩ c).cell? ⟨wr.heap.size, 1, none⟩ = some (.int .u64 y)) ∧ ((((W.setCell ⟨qb, k * 3, none⟩ a).setCell ⟨qb, k * 3 + 1, none⟩ b).setCell ⟨qb, k * 3 + 2, none⟩ c).cell? ⟨qb, k * 3, none⟩ = some (cv (((W.setCell ⟨qb, k * 3, none⟩ a).setCell ⟨qb, k * 3 + 1, none⟩ b).setCell ⟨qb, k * 3 + 2, none⟩ c) ⟨qb, k * 3, none⟩) ∧ (((W.setCell ⟨qb, k * 3, none⟩ a).setCell ⟨qb, k * 3 + 1, none⟩ b).setCell ⟨qb, k * 3 + 2, none⟩ c).cell? ⟨qb, k * 3 + 1, none⟩ = some (cv (((W.setCell ⟨qb, k * 3, none⟩ a).setCell ⟨qb, k * 3 + 1, none⟩ b).setCell ⟨qb, k * 3 + 2, none⟩ c) ⟨qb, k * 3 + 1, none⟩) ∧ (((W.setCell ⟨qb, k * 3, none⟩ a).setCell ⟨qb, k * 3 + 1, none⟩ b).setCell ⟨qb, k * 3 + 2, none⟩ c).cell? ⟨qb, k * 3 + 2, none⟩ = some (cv (((W.setCell ⟨qb, k * 3, none⟩ a).setCell ⟨qb, k * 3 + 1, none⟩ b).setCell ⟨qb, k * 3 + 2, none⟩ c) ⟨qb, k * 3 + 2, none⟩)) ∧ ((((W.setCell ⟨qb, k * 3, none⟩ a).setCell ⟨qb, k * 3 + 1, none⟩ b).setCell ⟨qb, k * 3 + 2, none⟩ c).frozen? ⟨qb, k * 3, none⟩ = false ∧ (((W.setCell ⟨qb, k * 3, none⟩ a).setCell ⟨qb, k * 3 + 1, none⟩ b).setCell ⟨qb, k * 3 + 2, none⟩ c).frozen? ⟨qb, k * 3 + 1, none⟩ = false ∧ (((W.setCell ⟨qb, k * 3, none⟩ a).setCell ⟨qb, k * 3 + 1, none⟩ b).setCell ⟨qb, k * 3 + 2, none⟩ c).frozen? ⟨qb, k * 3 + 2, none⟩ = false) := by
  obtain ⟨h0, ⟨h1, h2, h3⟩, ⟨h4, h5, h6⟩, h7, h8, h9⟩ := h
  have e : ∀ (d o : Nat), d ≠ qb → (((W.setCell ⟨qb, k * 3, none⟩ a).setCell ⟨qb, k * 3 + 1, none⟩ b).setCell ⟨qb, k * 3 + 2, none⟩ c).cell? ⟨d, o, none⟩ = W.cell? ⟨d, o, none⟩ := fun d o hd => by
    apply World.cell?_of_block
    rw [heap_setCell_other _ _ _ _ hd, heap_setCell_other _ _ _ _ hd, heap_setCell_other _ _ _ _ hd]
  have f : ∀ (o : Nat) (v : Value), W.cell? ⟨qb, o, none⟩ = some v → ((((W.setCell ⟨qb, k * 3, none⟩ a).setCell ⟨qb, k * 3 + 1, none⟩ b).setCell ⟨qb, k * 3 + 2, none⟩ c).cell? ⟨qb, o, none⟩).isSome = true := fun o v hv => by
    obtain ⟨v1, g1⟩ := Option.isSome_iff_exists.1 (some_set (a := ⟨qb, k * 3, none⟩) (u := a) hv)
    obtain ⟨v2, g2⟩ := Option.isSome_iff_exists.1 (some_set (a := ⟨qb, k * 3 + 1, none⟩) (u := b) g1)
    exact some_set g2
  refine ⟨⟨h0.os, h0.tape, h0.output, by simp; exact h0.size, fun i hi hne => ?_⟩, ⟨(e _ _ hp).trans h1, (e _ _ hr).trans h2, (e _ _ hr).trans h3⟩, ⟨cv_mk (f _ _ h4), cv_mk (f _ _ h5), cv_mk (f _ _ h6)⟩, ?_, ?_, ?_⟩
  · rw [heap_setCell_other _ _ _ _ hne, heap_setCell_other _ _ _ _ hne, heap_setCell_other _ _ _ _ hne]
    exact h0.block i hi hne
  · rw [frozen_set, frozen_set, frozen_set]
    exact h7
  · rw [frozen_set, frozen_set, frozen_set]
    exact h8
  · rw [frozen_set, frozen_set, frozen_set]
    exact h9

theorem keep9_start {wr : World} {p qb k n : Nat} {x y : Int} (hp2 : wr.cell? ⟨p, 2, none⟩ = some (.slice (some ⟨qb, 0, none⟩) n n)) (h0 : (wr.cell? ⟨qb, k * 3, none⟩).isSome = true) (h1 : (wr.cell? ⟨qb, k * 3 + 1, none⟩).isSome = true) (h2 : (wr.cell? ⟨qb, k * 3 + 2, none⟩).isSome = true)
    (f0 : wr.frozen? ⟨qb, k * 3, none⟩ = false) (f1 : wr.frozen? ⟨qb, k * 3 + 1, none⟩ = false) (f2 : wr.frozen? ⟨qb, k * 3 + 2, none⟩ = false) (hq : qb < wr.heap.size) (hp : p < wr.heap.size) : Chg (· = qb) wr (wr.alloc (.cells #[.int .u64 x, .int .u64 y] 80)).drew ∧ ((wr.alloc (.cells #[.int .u64 x, .int .u64 y] 80)).drew.cell? ⟨p, 2, none⟩ = some (.slice (some ⟨qb, 0, none⟩) n n) ∧ (wr.alloc (.cells #[.int .u64 x, .int .u64 y] 80)).drew.cell? ⟨wr.heap.size, 0, none⟩ = some (.int .u64 x) ∧ (wr.alloc (.cells #[.int .u64 x, .int .u64 y] 80)).drew.cell? ⟨wr.heap.size, 1, none⟩ = some (.int .u64 y)) ∧ ((wr.alloc (.cells #[.int .u64 x, .int .u64 y] 80)).drew.cell? ⟨qb, k * 3, none⟩ = some (cv (wr.alloc (.cells #[.int .u64 x, .int .u64 y] 80)).drew ⟨qb, k * 3, none⟩) ∧ (wr.alloc (.cells #[.int .u64 x, .int .u64 y] 80)).drew.cell? ⟨qb, k * 3 + 1, none⟩ = some (cv (wr.alloc (.cells #[.int .u64 x, .int .u64 y] 80)).drew ⟨qb, k * 3 + 1, none⟩) ∧ (wr.alloc (.cells #[.int .u64 x, .int .u64 y] 80)).drew.cell? ⟨qb, k * 3 + 2, none⟩ = some (cv (wr.alloc (.cells #[.int .u64 x, .int .u64 y] 80)).drew ⟨qb, k * 3 + 2, none⟩)) ∧ ((wr.alloc (.cells #[.int .u64 x, .int .u64 y] 80)).drew.frozen? ⟨qb, k * 3, none⟩ = false ∧ (wr.alloc (.cells #[.int .u64 x, .int .u64 y] 80)).drew.frozen? ⟨qb, k * 3 + 1, none⟩ = false ∧ (wr.alloc (.cells #[.int .u64 x, .int .u64 y] 80)).drew.frozen? ⟨qb, k * 3 + 2, none⟩ = false) := by
  have hb : Below wr.heap.size wr (wr.alloc (.cells #[.int .u64 x, .int .u64 y] 80)).drew := ((Below.refl _ wr).alloc (Nat.le_refl _) _).drew
  refine ⟨Chg.of_below hb, ⟨(hb.cell (p := ⟨_, _, none⟩) hp).trans hp2, ?_, ?_⟩, ⟨cv_mk ?_, cv_mk ?_, cv_mk ?_⟩, (hb.frozen (p := ⟨_, _, none⟩) hq).trans f0, (hb.frozen (p := ⟨_, _, none⟩) hq).trans f1, (hb.frozen (p := ⟨_, _, none⟩) hq).trans f2⟩
  · go_simp
  · go_simp
  · rw [hb.cell (p := ⟨_, _, none⟩) hq]
    exact h0
  · rw [hb.cell (p := ⟨_, _, none⟩) hq]
    exact h1
  · rw [hb.cell (p := ⟨_, _, none⟩) hq]
    exact h2

set_option maxHeartbeats 4000000 in
theorem new_any (v : Value) (L : List (Int × Int)) (w : World) (hv : RegsAt w v L) (hu : isRegs L) (hm : L.length ≤ 4611686018427387904) (hok : okR (-1) 1048576 L = true) (h16 : L.length ≤ 16) :
    Calls Tryz.prog 23 #[v] w fun e w' => ∃ p ib qb, e = .returned (.tuple #[.pointer (some ⟨p, 0, none⟩), .int .i64 0]) ∧ IsMem w' p ib qb L (List.replicate (sumR L) 0) ∧ (w.heap.size ≤ p ∧ w.heap.size ≤ ib ∧ w.heap.size ≤ qb) ∧ Below w.heap.size w w' := by
  have HV := hid_mk hv
  have HU := hid_mk hu
  have HM := hid_mk hm
  have HOK := hid_mk hok
  have hchk := check_any v L w hv hu hm
  have hE : chkE L = 0 := by
    unfold chkE
    rw [if_pos ⟨h16, hok⟩]
  rw [hE] at hchk
  have hsum : sumR L ≤ 1048576 := by
    rcases okR_sum hok with h | h
    · omega
    · rw [h]
      simp [sumR]
  have hmk1 := fun w => makeB w .u64 (sumR L) (by omega)
  have hmk2 := fun w => makeP w 0 L (by omega)
  obtain ⟨va, vc, rfl⟩ : ∃ a c, v = .slice a L.length c := by
    rcases hv with ⟨⟨a, c, h, _⟩, rfl⟩ | ⟨b, o, c, h, _⟩
    · exact ⟨a, c, h⟩
    · exact ⟨_, _, h⟩
  clear hE hv hu hm hok
  go_enter Tryz.func23, Tryz.ntmps23
  go_upto_region 4 with (go_at_call 52; refine hchk.mono ?_; rintro e w1 ⟨rfl, hb1⟩)
  have HB1 := hid_mk hb1
  have hz1 := hb1.size
  clear hb1
  go_cut [5] (fun s5 wx => ∃ p ib qb : Nat, s5 = .pointer (some ⟨p, 0, none⟩) ∧ Fresh w.heap.size wx p ib qb L ∧ wx.heap[qb]? = some (.cells (partHalf ib L 0).toArray 135 (0, 0)) ∧ Below w.heap.size w wx)
  case first =>
    go_region_held3 (fun w' => Below w1.heap.size w1 w') (first | exact (Below.refl _ _).drew | (refine Below.alloc (by assumption) (by have := Below.size (by assumption : Below w1.heap.size w1 _); omega) _) | (refine Below.trans (by assumption) (Below.mono (by assumption) (Below.size (by assumption)))))
      (first | (go_at_call 53; refine (total_any _ L _ ((HV.out.below HB1.out).below (by assumption)) HU.out hsum h16).mono ?_; rintro e w' ⟨rfl, hb⟩))
    all_goals (go_wp2_with fail; go_meet)
    · have hB : Below w1.heap.size w1 w' := Below.trans (Below.refl _ w1).drew hb
      have hz := hB.size
      exact ⟨w'.heap.size + 1 + 1, w'.heap.size, w'.heap.size + 1, rfl, ⟨heap3_2 _ _ _ _, heap3_0 _ _ _ _, by omega, by omega, by omega, by omega, by omega, by omega⟩, (by rw [partHalf_zero w'.heap.size 0]; exact heap3_1 _ _ _ _), (((HB1.out.trans (hB.mono hz1)).alloc (by omega) _).alloc (by rw [sizeA]; omega) _).alloc (by rw [sizeA, sizeA]; omega) _⟩
    · have hB : Below w1.heap.size w1 w' := Below.trans (Below.refl _ w1).drew hb
      have hz := hB.size
      exact ⟨w'.heap.size + 1 + 1, w'.heap.size + 1, w'.heap.size, rfl, ⟨heap3_2 _ _ _ _, heap3_1 _ _ _ _, by omega, by omega, by omega, by omega, by omega, by omega⟩, (by rw [partHalf_zero (w'.heap.size + 1) 0]; exact heap3_0 _ _ _ _), (((HB1.out.trans (hB.mono hz1)).alloc (by omega) _).alloc (by rw [sizeA]; omega) _).alloc (by rw [sizeA, sizeA]; omega) _⟩
    · have hq := keepB hb (heap_alloc_new _ _)
      have hql := lt_blk hq
      have hqs : w1.drew.heap.size = w1.heap.size := rfl
      have hB : Below w1.heap.size w1 w' := Below.trans ((Below.refl _ w1).alloc (Nat.le_refl _) _).drew (hb.mono (by show w1.heap.size ≤ (w1.alloc _).heap.size; rw [sizeA]; omega))
      exact ⟨w'.heap.size + 1, w'.heap.size, w1.heap.size, rfl, ⟨heap2_1 _ _ _, heap2_0 _ _ _, by omega, by omega, by omega, by omega, by omega, by omega⟩, (by rw [partHalf_zero w'.heap.size 0, heapA, if_neg (by rw [sizeA]; omega), heapA, if_neg (by omega)]; exact hq), ((HB1.out.trans (hB.mono hz1)).alloc (by omega) _).alloc (by rw [sizeA]; omega) _⟩
  case rest =>
    obtain ⟨p, ib, qb, rfl, hfr, hq, hbel⟩ := hcut
    have ho := cell_of_row _ _ 1 _ _ _ hfr.obj
    simp at ho
    have HF := hid_mk hfr
    have HQ := hid_mk hq
    have HB := hid_mk hbel
    clear hfr hq hbel
    go_wp2_with fail
    go_loopw [6, 7, 8, 28] (fun s6 _ _ i wr => ∃ (k o : Nat), k ≤ L.length ∧ i = .int .i64 k ∧ s6 = .slice (some ⟨ib, o, none⟩) (sumR L - off L k) (sumR L - off L k) ∧ (k < L.length → o = off L k) ∧ Below w.heap.size w wr ∧ Fresh w.heap.size wr p ib qb L ∧ wr.heap[qb]? = some (.cells (partHalf ib L k).toArray 135 (0, 0))) (fun _ _ _ i _ => L.length - (intOf i).toNat)
    case atStart => exact ⟨0, 0, Nat.zero_le _, rfl, by rw [off_zero]; rfl, fun _ => (off_zero L).symm, HB.out, HF.out, HQ.out⟩
    case round =>
      obtain ⟨k, o, hk, rfl, rfl, hoo, hbel, hfr, hq⟩ := hrel
      by_cases hlt : k < L.length
      · have hoo' := hoo hlt
        subst hoo'
        rcases HV.out with ⟨_, rfl⟩ | ⟨b, bo, bc, hveq, hb1, hb2, hb3⟩
        · simp at hlt
        · obtain ⟨rfl, _, rfl⟩ : va = some ⟨b, bo, none⟩ ∧ True ∧ vc = bc := by
            injection hveq with h1 h2 h3
            exact ⟨h1, trivial, h3⟩
          have hc := hb3 k hlt
          have c0 := (hbel.cell (p := ⟨b, bo + k * 2, none⟩) hb1).trans hc.1
          have c1 := (hbel.cell (p := ⟨b, bo + k * 2 + 1, none⟩) hb1).trans hc.2
          have hz := hbel.size
          have hbz : b < wr.heap.size := by omega
          have hat := okR_at HOK.out k hlt
          have hroom := off_room L k hlt
          have hnext : ∀ h : k + 1 < L.length, off L (k + 1) + 1 ≤ sumR L := fun h => by
            have := off_room L (k + 1) h
            have := okR_at HOK.out (k + 1) h
            omega
          have hstep := off_step L k hlt
          have HP := hid_mk (fun (W : World) (hW : W.heap[qb]? = some (.cells (partHalf ib L k).toArray 135 (0, 0))) => setP W qb k ib L _ hlt hW)
          have hl := lastI_ok (show 0 ≤ (at_ L k).1 by omega) hat.1 hat.2.2.1
          have hp2 := cell_of_row _ _ 2 _ _ _ hfr.obj
          simp at hp2
          have hph := partHalf_length ib L k hk
          have hcl : ∀ j, j < 3 * L.length → (wr.cell? ⟨qb, j, none⟩).isSome = true := fun j hj => by
            rw [cellK hq, List.getElem?_eq_getElem (by omega)]
            rfl
          have hfz := fun j => frozenK hq j
          have hql := lt_blk hq
          have hpl := lt_blk hfr.obj
          obtain ⟨S', hS'⟩ : ∃ S', S' = sumR L - off L k := ⟨_, rfl⟩
          obtain ⟨y', hy'⟩ := Int.eq_ofNat_of_zero_le (show 0 ≤ (at_ L k).2 by omega)
          rw [← hS']
          have HN := hid_mk hnext
          have HS := hid_mk hstep
          have HR := hid_mk hroom
          have HSS := hid_mk hS'
          have HC := hid_mk hcl
          have HZ := hid_mk hfz
          have HQQ := hid_mk hq
          have HFR := hid_mk hfr
          clear hb3 hc hveq hnext hstep hroom hS' hcl hfz hq hfr hph
          rw [hy'] at c1 hl hat
          generalize hx : (at_ L k).1 = x at *
          have hyS : (y' : Int) ≤ (S' : Int) := by
            have h1 := HR.out
            have h2 := HSS.out
            rw [hy'] at h1
            omega
          have hwq : qb ≠ wr.heap.size := by omega
          have HL2 := hid_mk (show k * 3 + 2 < 3 * L.length by omega)
          go_wp2_with fail
          go_region_held3 (fun w' => Chg (· = qb) wr w' ∧ (w'.cell? ⟨p, 2, none⟩ = some (.slice (some ⟨qb, 0, none⟩) L.length L.length) ∧ w'.cell? ⟨wr.heap.size, 0, none⟩ = some (.int .u64 x) ∧ w'.cell? ⟨wr.heap.size, 1, none⟩ = some (.int .u64 (y' : Int))) ∧ (w'.cell? ⟨qb, k * 3, none⟩ = some (cv w' ⟨qb, k * 3, none⟩) ∧ w'.cell? ⟨qb, k * 3 + 1, none⟩ = some (cv w' ⟨qb, k * 3 + 1, none⟩) ∧ w'.cell? ⟨qb, k * 3 + 2, none⟩ = some (cv w' ⟨qb, k * 3 + 2, none⟩)) ∧ (w'.frozen? ⟨qb, k * 3, none⟩ = false ∧ w'.frozen? ⟨qb, k * 3 + 1, none⟩ = false ∧ w'.frozen? ⟨qb, k * 3 + 2, none⟩ = false))
            (first | exact keep9_start hp2 (HC.out _ (by have := HL2.out; omega)) (HC.out _ (by have := HL2.out; omega)) (HC.out _ HL2.out) (HZ.out _) (HZ.out _) (HZ.out _) hql hpl | exact keep9_call (by assumption) (by assumption) | exact keep9_store HFR.out.ne2 (fun e => hwq e.symm) (by assumption))
            (first | (go_at_call 54; refine (last_any _ _ _).mono ?_; rintro e w' ⟨rfl, hb⟩))
          have hoff : off L (k + 1) = off L k + y' := by
            have := HS.out
            rw [hy'] at this
            simpa using this
          have HOFF := hid_mk hoff
          clear hoff
          have hrow : w'.heap[qb]? = some (.cells (partHalf ib L k).toArray 135 (0, 0)) := keepB hb (keepB ((Below.alloc (Below.refl _ _) (Nat.le_refl _) _).drew) HQQ.out)
          have HP2 := HP.out w' hrow
          rw [hy', Int.toNat_natCast] at HP2
          have HP3 := hid_mk HP2
          have HROW := hid_mk hrow
          have HBW : Hid (Below w.heap.size w w') := (hbel.trans (((Below.refl wr.heap.size wr).alloc (Nat.le_refl _) _).drew.mono hbel.size)).trans (hb.mono (by show w.heap.size ≤ (wr.alloc _).heap.size; rw [sizeA]; omega))
          clear HP2 hrow
          by_cases hsy : S' = y'
          · go_wp2_with fail
            go_roundw
            case rel =>
              refine ⟨k + 1, off L k, by omega, by go_num, ?_, fun h => ?_, ((HBW.out.setCell HFR.out.bq _).setCell HFR.out.bq _).setCell HFR.out.bq _, ?_, ?_⟩
              · have h1 := HOFF.out
                have h2 := HSS.out
                rw [show sumR L - off L (k + 1) = 0 from by omega]
              · have h1 := HOFF.out
                have h2 := HSS.out
                have h3 := HN.out h
                omega
              · have hC : Chg (· = qb) wr (((w'.setCell ⟨qb, k * 3, none⟩ (.int .u64 x)).setCell ⟨qb, k * 3 + 1, none⟩ (.int .u64 (x + (y' : Int) - 1))).setCell ⟨qb, k * 3 + 2, none⟩ (.slice (some ⟨ib, off L k, none⟩) y' y')) := (‹Chg (· = qb) wr _ ∧ _›).1
                exact ⟨hC.keep HFR.out.obj HFR.out.ne2, hC.keep HFR.out.img HFR.out.ne3, HFR.out.bp, HFR.out.bi, HFR.out.bq, HFR.out.ne1, HFR.out.ne2, HFR.out.ne3⟩
              · rw [HP3.out, setRow_heap _ _ _ _ _ _ HROW.out]
            case measure => simp [intOf]; omega
          · go_wp2_with fail
            go_roundw
            case rel =>
              refine ⟨k + 1, off L k + y', by omega, by go_num, ?_, fun h => HOFF.out.symm, ((HBW.out.setCell HFR.out.bq _).setCell HFR.out.bq _).setCell HFR.out.bq _, ?_, ?_⟩
              · have h1 := HOFF.out
                have h2 := HSS.out
                rw [show sumR L - off L (k + 1) = S' - y' from by omega]
              · have hC : Chg (· = qb) wr (((w'.setCell ⟨qb, k * 3, none⟩ (.int .u64 x)).setCell ⟨qb, k * 3 + 1, none⟩ (.int .u64 (x + (y' : Int) - 1))).setCell ⟨qb, k * 3 + 2, none⟩ (.slice (some ⟨ib, off L k, none⟩) y' y')) := (‹Chg (· = qb) wr _ ∧ _›).1
                exact ⟨hC.keep HFR.out.obj HFR.out.ne2, hC.keep HFR.out.img HFR.out.ne3, HFR.out.bp, HFR.out.bi, HFR.out.bq, HFR.out.ne1, HFR.out.ne2, HFR.out.ne3⟩
              · rw [HP3.out, setRow_heap _ _ _ _ _ _ HROW.out]
            case measure => simp [intOf]; omega
      · obtain rfl : k = L.length := by omega
        have ho0 := cell_of_row _ _ 0 _ _ _ hfr.obj
        simp at ho0
        have hpf := frozenK hfr.obj 0
        have hset := setCell_eq_setRow wr p 0 _ _ (0, 0) (.pointer (some ⟨p, 0, none⟩)) hfr.obj
        have HST := hid_mk hset
        have HFR := hid_mk hfr
        have HQQ := hid_mk hq
        clear hset hfr hq
        go_wp2_with fail
        go_ret2
        have hg := HFR.out
        refine ⟨p, ib, qb, rfl, ⟨?_, ?_, ?_, HOK.out, h16, by simp, isBytes_zero _, hg.ne1, hg.ne2, hg.ne3⟩, ⟨hg.bp, hg.bi, hg.bq⟩, hbel.setCell hg.bp _⟩
        · rw [HST.out, setRow_heap _ _ _ _ _ _ hg.obj]
          simp
        · rw [heap_setCell_other _ _ _ _ (fun e => hg.ne1 e.symm)]
          exact hg.img
        · rw [heap_setCell_other _ _ _ _ (fun e => hg.ne2 e.symm), HQQ.out]
          simp [partHalf]
end Go.Proofs.YtfhhgcgbgmilcaaGreat

/- The statements' common examples: two, lives; New where the regions are not valid. Conditions: as each theorem names them. -/
namespace Go.Proofs.YtfhhgcgbgmilcaaGreat
open Go.ChangeShapes Go.WideShapes Go.ChangeAt Go.RowKit
set_option linter.unusedVariables false
set_option maxRecDepth 100000

theorem new_no (v : Value) (L : List (Int × Int)) (w : World) (hv : RegsAt w v L) (hu : isRegs L) (hm : L.length ≤ 4611686018427387904) (hno : chkE L = 2) :
    Calls Tryz.prog 23 #[v] w fun e w' => e = .returned (.tuple #[.pointer none, .int .i64 2]) ∧ Below w.heap.size w w' := by
  have hchk := check_any v L w hv hu hm
  rw [hno] at hchk
  clear hv hu hm hno
  go_enter Tryz.func23, Tryz.ntmps23
  go_wp2_with (go_at_call 52; refine hchk.mono ?_; rintro e w1 ⟨rfl, hb1⟩)
  go_ret2
  exact ⟨rfl, hb1⟩

/-- a change of what was made since -/
theorem Chg.since {S : Nat → Prop} {w a b : World} (h : Below w.heap.size w a) (hc : Chg S a b) (hS : ∀ k, S k → w.heap.size ≤ k) : Below w.heap.size w b :=
  h.trans (hc.below h.size (fun k hk hs => by have := hS k hs; omega))
theorem Chg.since1 {w a b : World} {ib : Nat} (h : Below w.heap.size w a) (hc : Chg (· = ib) a b) (hi : w.heap.size ≤ ib) : Below w.heap.size w b := hc.since h (fun k hk => by omega)

abbrev L2 : List (Int × Int) := [(100, 8), (108, 4)]
theorem isRegs_L2 : isRegs L2 := by
  intro r hr
  simp [L2] at hr
  rcases hr with rfl | rfl <;> simp [U64]

/-! ## words for closed regions, and for bytes as a string -/
def isRegsB (L : List (Int × Int)) : Bool := L.all fun r => decide (0 ≤ r.1 ∧ r.1 < 18446744073709551616 ∧ 0 ≤ r.2 ∧ r.2 < 18446744073709551616)
theorem isRegs_of {L : List (Int × Int)} (h : isRegsB L = true) : isRegs L := by
  intro r hr
  have := List.all_eq_true.1 h r hr
  simp at this
  exact ⟨⟨this.1, this.2.1⟩, this.2.2.1, this.2.2.2⟩
theorem isBytes_of {l : List Int} (h : (l.all fun x => decide (0 ≤ x ∧ x < 256)) = true) : isBytes l := by
  intro r hr
  have := List.all_eq_true.1 h r hr
  simpa using this
theorem regsLit (w : World) (L : List (Int × Int)) (t : TypeId) : RegsAt (w.alloc (.cells (regCells L).toArray t)) (.slice (some ⟨w.heap.size, 0, none⟩) L.length L.length) L :=
  regsAt_row (cs := []) (by rw [List.append_nil]; exact heap_alloc_new _ _) (Nat.le_refl _)
theorem bytesLit (w : World) (l : List Int) (t : TypeId) : BytesAt (w.alloc (.cells (bv l) t)) (.slice (some ⟨w.heap.size, 0, none⟩) l.length l.length) l :=
  Or.inr ⟨w.heap.size, 0, l.length, rfl, by rw [sizeA]; omega, Nat.le_refl _, fun j hj => by rw [Nat.zero_add]; exact cellB (M := l) (heap_alloc_new w _) j hj⟩
theorem NewBytes.len {B : Nat} {w : World} {v : Value} {l : List Int} (h : NewBytes B w v l) : ∃ a c, v = .slice a l.length c := by
  rcases h with ⟨rfl, rfl⟩ | ⟨b, c, rfl, _⟩
  · exact ⟨none, 0, rfl⟩
  · exact ⟨_, _, rfl⟩
theorem convN {B : Nat} {w : World} {v : Value} {l : List Int} (h : NewBytes B w v l) : (convert 47 9 v).run Tryz.prog w = .ok (.string (strOfNums l)) w := by
  rcases h with ⟨rfl, rfl⟩ | ⟨b, c, rfl, _, _, cs, h4, _⟩
  · exact run_convert_bytes_nil w 47 5 Tryz.underlying47 Tryz.underlying5 0 0 9 Tryz.underlying9
  · exact run_convert_bytes_arg w 47 5 Tryz.underlying47 Tryz.underlying5 b 0 l.length c l rfl (fun i hi => by
      rw [cellK h4, Nat.zero_add, List.getElem?_append_left (by simp; omega)]
      simp [hi, List.getD]) 9 Tryz.underlying9
theorem NewBytes.form {B : Nat} {w : World} {v : Value} {l : List Int} (h : NewBytes B w v l) (hl : 0 < l.length) : ∃ b c : Nat, v = .slice (some ⟨b, 0, none⟩) l.length c ∧ B ≤ b ∧ b < w.heap.size ∧ l.length ≤ c ∧ ∀ j, j < l.length → w.cell? ⟨b, j, none⟩ = some (.int .u8 (l.getD j 0)) := by
  rcases h with ⟨_, rfl⟩ | ⟨b, c, h1, h2, h3, cs, h4, _⟩
  · simp at hl
  · refine ⟨b, c, h1, h2, lt_blk h4, h3, fun j hj => ?_⟩
    rw [cellK h4, List.getElem?_append_left (by simp; omega)]
    simp [hj, List.getD]
/-- a new block, and a call behind it -/
theorem below_new {w a b : World} {o : Obj} (h : Below w.heap.size w a) (hb : Below (a.alloc o).heap.size (a.alloc o) b) : Below w.heap.size w b :=
  (h.alloc h.size o).trans (hb.mono (by rw [sizeA]; have := h.size; omega))
theorem below_then {w a b : World} (h : Below w.heap.size w a) (hb : Below a.heap.size a b) : Below w.heap.size w b := h.trans (hb.mono h.size)
end Go.Proofs.YtfhhgcgbgmilcaaGreat
