/- Gm6 Gm7: joined texts. Conditions: as each theorem names them. -/
import Derived.Test.YtgdokgpplldddaaKp06
import Derived.Laws.MakeOwn
/- Contracts of gmem's Regions and New. Conditions: as each theorem names them. -/
namespace Go.Proofs.Ytgdokgpplldddaa
open Go.ChangeShapes Go.WideShapes Go.ChangeAt Go.RowKit
set_option linter.unusedVariables false
set_option maxRecDepth 100000

/-- regions as a block's cells -/
def regCells : List (Int × Int) → List Value
  | [] => []
  | r :: l => .int .u64 r.1 :: .int .u64 r.2 :: regCells l
theorem regCells_length : ∀ l : List (Int × Int), (regCells l).length = l.length * 2
  | [] => rfl
  | r :: l => by
    simp only [regCells, List.length_cons, regCells_length l]
    omega
theorem regCells_at : ∀ (l : List (Int × Int)) (i : Nat), i < l.length → (regCells l)[i * 2]? = some (.int .u64 (at_ l i).1) ∧ (regCells l)[i * 2 + 1]? = some (.int .u64 (at_ l i).2)
  | [], i, h => by simp at h
  | r :: l, 0, _ => by simp [regCells, at_]
  | r :: l, i + 1, h => by
    have := regCells_at l i (by simpa using h)
    have e : (i + 1) * 2 = i * 2 + 1 + 1 := by omega
    rw [at_succ, e]
    simpa [regCells] using this
theorem regCells_set : ∀ (l : List (Int × Int)) (i : Nat) (x y : Int), ((regCells l).set (i * 2) (.int .u64 x)).set (i * 2 + 1) (.int .u64 y) = regCells (l.set i (x, y))
  | [], i, x, y => by simp [regCells]
  | r :: l, 0, x, y => by simp [regCells]
  | r :: l, i + 1, x, y => by
    have := regCells_set l i x y
    have e : (i + 1) * 2 = i * 2 + 1 + 1 := by omega
    rw [e]
    simpa [regCells] using this
theorem regsAt_row {w : World} {g c : Nat} {L : List (Int × Int)} {t : TypeId} {fr : Nat × Nat} {cs : List Value} (h : w.heap[g]? = some (.cells (regCells L ++ cs).toArray t fr)) (hc : L.length ≤ c) : RegsAt w (.slice (some ⟨g, 0, none⟩) L.length c) L := by
  refine Or.inr ⟨g, 0, c, rfl, lt_blk h, hc, fun j hj => ?_⟩
  have h1 := regCells_at L j hj
  have hl := regCells_length L
  refine ⟨?_, ?_⟩
  · rw [Nat.zero_add, cellK h, List.getElem?_append_left (by omega)]
    exact h1.1
  · rw [Nat.zero_add, cellK h, List.getElem?_append_left (by omega)]
    exact h1.2
theorem setR (w : World) (g i : Nat) (X : List (Int × Int)) (x y : Int) (t : TypeId) (hg : w.heap[g]? = some (.cells (regCells X).toArray t (0, 0))) :
    (w.setCell ⟨g, i * 2, none⟩ (.int .u64 x)).setCell ⟨g, i * 2 + 1, none⟩ (.int .u64 y) = w.setRow g (regCells (X.set i (x, y))).toArray := by
  have h1 := setCell_eq_setRow w g (i * 2) _ t (0, 0) (.int .u64 x) hg
  have h2 : (w.setCell ⟨g, i * 2, none⟩ (.int .u64 x)).heap[g]? = some (.cells ((regCells X).set (i * 2) (.int .u64 x)).toArray t (0, 0)) := by
    rw [heap_setCell_same w g (i * 2) _ t _ hg]
    simp
  rw [setCell_eq_setRow _ g (i * 2 + 1) _ t (0, 0) _ h2, h1, setRow_setRow]
  simp [regCells_set]

theorem regCells_zero : ∀ n : Nat, regCells (List.replicate n (0, 0)) = List.replicate (n * 2) (.int .u64 0)
  | 0 => rfl
  | n + 1 => by
    rw [List.replicate_succ, regCells, regCells_zero n, show (n + 1) * 2 = n * 2 + 1 + 1 from by omega, List.replicate_succ, List.replicate_succ]
/-! ## Regions -/
theorem take_set (L : List (Int × Int)) (k : Nat) (h : k < L.length) : (L.take k ++ List.replicate (L.length - k) (0, 0)).set k ((at_ L k).1, (at_ L k).2) = L.take (k + 1) ++ List.replicate (L.length - (k + 1)) (0, 0) := by
  have e1 : (L.take k).length = k := by simp; omega
  rw [List.set_append_right _ _ (by omega), e1, Nat.sub_self, show L.length - k = (L.length - (k + 1)) + 1 from by omega, List.replicate_succ, List.set_cons_zero, List.take_succ_eq_append_getElem h, List.append_assoc]
  simp [at_, List.getD, h]
end Go.Proofs.Ytgdokgpplldddaa

/- The contract of gmem's New: a memory of zeros, or Check's error. Conditions: as each theorem names them. -/
namespace Go.Proofs.Ytgdokgpplldddaa
open Go.ChangeShapes Go.WideShapes Go.ChangeAt Go.RowKit
set_option linter.unusedVariables false
set_option maxRecDepth 100000

/-- parts as the memory keeps them while New fills them: the first k are laid -/
def partHalf (ib : Nat) (L : List (Int × Int)) (k : Nat) : List Value := partCells ib 0 (L.take k) ++ (List.replicate (L.length - k) [Value.int .u64 0, .int .u64 0, .slice none 0 0]).flatten
theorem partHalf_length (ib : Nat) (L : List (Int × Int)) (k : Nat) (h : k ≤ L.length) : (partHalf ib L k).length = 3 * L.length := by
  unfold partHalf
  simp [partCells_length]
  omega
theorem partCells_append (ib : Nat) : ∀ (o : Nat) (a b : List (Int × Int)), partCells ib o (a ++ b) = partCells ib o a ++ partCells ib (o + sumR a) b
  | o, [], b => by simp [partCells, sumR]
  | o, r :: a, b => by
    simp only [List.cons_append, partCells, sumR, partCells_append ib (o + r.2.toNat) a b]
    simp [Nat.add_assoc]
theorem partHalf_step (ib : Nat) (L : List (Int × Int)) (k : Nat) (h : k < L.length) :
    (((partHalf ib L k).set (k * 3) (.int .u64 (at_ L k).1)).set (k * 3 + 1) (.int .u64 ((at_ L k).1 + (at_ L k).2 - 1))).set (k * 3 + 2) (.slice (some ⟨ib, off L k, none⟩) (at_ L k).2.toNat (at_ L k).2.toNat) = partHalf ib L (k + 1) := by
  have e1 : (partCells ib 0 (L.take k)).length = k * 3 := by
    rw [partCells_length]
    simp
    omega
  have et : L.take (k + 1) = L.take k ++ [at_ L k] := by
    rw [List.take_succ_eq_append_getElem h]
    simp [at_, List.getD, h]
  unfold partHalf
  rw [et, partCells_append, show L.length - k = (L.length - (k + 1)) + 1 from by omega, List.replicate_succ, List.flatten_cons]
  simp only [List.set_append_right _ _ (show (partCells ib 0 (L.take k)).length ≤ k * 3 by omega), List.set_append_right _ _ (show (partCells ib 0 (L.take k)).length ≤ k * 3 + 1 by omega), List.set_append_right _ _ (show (partCells ib 0 (L.take k)).length ≤ k * 3 + 2 by omega), e1]
  rw [show k * 3 - k * 3 = 0 from by omega, show k * 3 + 1 - k * 3 = 1 from by omega, show k * 3 + 2 - k * 3 = 2 from by omega]
  simp [partCells, off]

theorem flat_at {α : Type} (l : List α) : ∀ (n i : Nat), i < n * l.length → ((List.replicate n l).flatten)[i]? = l[i % l.length]?
  | 0, i, h => by simp at h
  | n + 1, i, h => by
    rw [Nat.succ_mul] at h
    rw [List.replicate_succ, List.flatten_cons, List.getElem?_append]
    by_cases hi : i < l.length
    · rw [if_pos hi, Nat.mod_eq_of_lt hi]
    · rw [if_neg hi, flat_at l n (i - l.length) (by omega), ← Nat.mod_eq_sub_mod (by omega)]
theorem setP (w : World) (g k ib : Nat) (L : List (Int × Int)) (t : TypeId) (h : k < L.length) (hg : w.heap[g]? = some (.cells (partHalf ib L k).toArray t (0, 0))) :
    ((w.setCell ⟨g, k * 3, none⟩ (.int .u64 (at_ L k).1)).setCell ⟨g, k * 3 + 1, none⟩ (.int .u64 ((at_ L k).1 + (at_ L k).2 - 1))).setCell ⟨g, k * 3 + 2, none⟩ (.slice (some ⟨ib, off L k, none⟩) (at_ L k).2.toNat (at_ L k).2.toNat) = w.setRow g (partHalf ib L (k + 1)).toArray := by
  have h1 := setCell_eq_setRow w g (k * 3) _ t (0, 0) (.int .u64 (at_ L k).1) hg
  have h2 := heap_setCell_same w g (k * 3) _ t (.int .u64 (at_ L k).1) hg
  have h3 := setCell_eq_setRow _ g (k * 3 + 1) _ t (0, 0) (.int .u64 ((at_ L k).1 + (at_ L k).2 - 1)) h2
  have h4 := heap_setCell_same _ g (k * 3 + 1) _ t (.int .u64 ((at_ L k).1 + (at_ L k).2 - 1)) h2
  rw [setCell_eq_setRow _ g (k * 3 + 2) _ t (0, 0) _ h4, h3, h1, setRow_setRow, setRow_setRow, ← partHalf_step ib L k h]
  simp only [List.setIfInBounds_toArray]

theorem partHalf_zero (a b : Nat) (L : List (Int × Int)) : partHalf a L 0 = partHalf b L 0 := by simp [partHalf, partCells]
theorem heapA (w : World) (o : Obj) (k : Nat) : (w.alloc o).heap[k]? = if k = w.heap.size then some o else w.heap[k]? := by
  show (w.heap.push o)[k]? = _
  rw [Array.getElem?_push]

theorem sizeA (w : World) (o : Obj) : (w.alloc o).heap.size = w.heap.size + 1 := by simp
theorem heap3_0 (w : World) (A B C : Obj) : (((w.alloc A).alloc B).alloc C).heap[w.heap.size]? = some A := by
  rw [heapA, if_neg (by rw [sizeA, sizeA]; omega), heapA, if_neg (by rw [sizeA]; omega), heapA, if_pos rfl]
theorem heap3_1 (w : World) (A B C : Obj) : (((w.alloc A).alloc B).alloc C).heap[w.heap.size + 1]? = some B := by
  rw [heapA, if_neg (by rw [sizeA, sizeA]; omega), heapA, if_pos (by rw [sizeA])]
theorem heap3_2 (w : World) (A B C : Obj) : (((w.alloc A).alloc B).alloc C).heap[w.heap.size + 1 + 1]? = some C := by
  rw [heapA, if_pos (by rw [sizeA, sizeA])]
theorem heap2_0 (w : World) (A B : Obj) : ((w.alloc A).alloc B).heap[w.heap.size]? = some A := by
  rw [heapA, if_neg (by rw [sizeA]; omega), heapA, if_pos rfl]
theorem heap2_1 (w : World) (A B : Obj) : ((w.alloc A).alloc B).heap[w.heap.size + 1]? = some B := by
  rw [heapA, if_pos (by rw [sizeA])]

/-- what a cell holds, behind a name -/
def cv (w : World) (a : Addr) : Value := (w.cell? a).getD undef
theorem cv_mk {w : World} {a : Addr} (h : (w.cell? a).isSome = true) : w.cell? a = some (cv w a) := by
  unfold cv
  obtain ⟨v, hv⟩ := Option.isSome_iff_exists.1 h
  rw [hv]
  rfl
theorem some_set {w : World} {a b : Addr} {u v : Value} (h : w.cell? b = some v) : ((w.setCell a u).cell? b).isSome = true := by
  obtain ⟨v', hv'⟩ := cell?_setCell_some (w := w) (p := a) (x := u) (q := b) (v := v) h
  rw [hv']
  rfl
theorem lt_cell {w : World} {b o : Nat} {v : Value} (h : w.cell? ⟨b, o, none⟩ = some v) : b < w.heap.size := World.block_lt_of_cell? w _ h
theorem keep9_call {wr W W' : World} {p qb k n : Nat} {x y : Int} (h : Chg (· = qb) wr W ∧ (W.cell? ⟨p, 2, none⟩ = some (.slice (some ⟨qb, 0, none⟩) n n) ∧ W.cell? ⟨wr.heap.size, 0, none⟩ = some (.int .u64 x) ∧ W.cell? ⟨wr.heap.size, 1, none⟩ = some (.int .u64 y)) ∧ (W.cell? ⟨qb, k * 3, none⟩ = some (cv W ⟨qb, k * 3, none⟩) ∧ W.cell? ⟨qb, k * 3 + 1, none⟩ = some (cv W ⟨qb, k * 3 + 1, none⟩) ∧ W.cell? ⟨qb, k * 3 + 2, none⟩ = some (cv W ⟨qb, k * 3 + 2, none⟩)) ∧ (W.frozen? ⟨qb, k * 3, none⟩ = false ∧ W.frozen? ⟨qb, k * 3 + 1, none⟩ = false ∧ W.frozen? ⟨qb, k * 3 + 2, none⟩ = false)) (hb : Below W.heap.size W W') : Chg (· = qb) wr W' ∧ (W'.cell? ⟨p, 2, none⟩ = some (.slice (some ⟨qb, 0, none⟩) n n) ∧ W'.cell? ⟨wr.heap.size, 0, none⟩ = some (.int .u64 x) ∧ W'.cell? ⟨wr.heap.size, 1, none⟩ = some (.int .u64 y)) ∧ (W'.cell? ⟨qb, k * 3, none⟩ = some (cv W' ⟨qb, k * 3, none⟩) ∧ W'.cell? ⟨qb, k * 3 + 1, none⟩ = some (cv W' ⟨qb, k * 3 + 1, none⟩) ∧ W'.cell? ⟨qb, k * 3 + 2, none⟩ = some (cv W' ⟨qb, k * 3 + 2, none⟩)) ∧ (W'.frozen? ⟨qb, k * 3, none⟩ = false ∧ W'.frozen? ⟨qb, k * 3 + 1, none⟩ = false ∧ W'.frozen? ⟨qb, k * 3 + 2, none⟩ = false) := by
  obtain ⟨h0, ⟨h1, h2, h3⟩, ⟨h4, h5, h6⟩, h7, h8, h9⟩ := h
  have l1 := lt_cell h1
  have l2 := lt_cell h2
  have l4 := lt_cell h4
  refine ⟨h0.trans (Chg.of_below hb), ⟨(hb.cell (p := ⟨_, _, none⟩) l1).trans h1, (hb.cell (p := ⟨_, _, none⟩) l2).trans h2, (hb.cell (p := ⟨_, _, none⟩) l2).trans h3⟩, ⟨cv_mk ?_, cv_mk ?_, cv_mk ?_⟩, (hb.frozen (p := ⟨_, _, none⟩) l4).trans h7, (hb.frozen (p := ⟨_, _, none⟩) l4).trans h8, (hb.frozen (p := ⟨_, _, none⟩) l4).trans h9⟩
  · rw [hb.cell (p := ⟨_, _, none⟩) l4, h4]
    rfl
  · rw [hb.cell (p := ⟨_, _, none⟩) l4, h5]
    rfl
  · rw [hb.cell (p := ⟨_, _, none⟩) l4, h6]
    rfl

theorem frozen_set (w : World) (a : Addr) (v : Value) (x : Addr) : (w.setCell a v).frozen? x = w.frozen? x := by
  simp
theorem keep9_store {wr W : World} {p qb k n : Nat} {x y : Int} {a b c : Value} (hp : p ≠ qb) (hr : wr.heap.size ≠ qb) (h : Chg (· = qb) wr W ∧ (W.cell? ⟨p, 2, none⟩ = some (.slice (some ⟨qb, 0, none⟩) n n) ∧ W.cell? ⟨wr.heap.size, 0, none⟩ = some (.int .u64 x) ∧ W.cell? ⟨wr.heap.size, 1, none⟩ = some (.int .u64 y)) ∧ (W.cell? ⟨qb, k * 3, none⟩ = some (cv W ⟨qb, k * 3, none⟩) ∧ W.cell? ⟨qb, k * 3 + 1, none⟩ = some (cv W ⟨qb, k * 3 + 1, none⟩) ∧ W.cell? ⟨qb, k * 3 + 2, none⟩ = some (cv W ⟨qb, k * 3 + 2, none⟩)) ∧ (W.frozen? ⟨qb, k * 3, none⟩ = false ∧ W.frozen? ⟨qb, k * 3 + 1, none⟩ = false ∧ W.frozen? ⟨qb, k * 3 + 2, none⟩ = false)) : Chg (· = qb) wr (((W.setCell ⟨qb, k * 3, none⟩ a).setCell ⟨qb, k * 3 + 1, none⟩ b).setCell ⟨qb, k * 3 + 2, none⟩ c) ∧ ((((W.setCell ⟨qb, k * 3, none⟩ a).setCell ⟨qb, k * 3 + 1, none⟩ b).setCell ⟨qb, k * 3 + 2, none⟩ c).cell? ⟨p, 2, none⟩ = some (.slice (some ⟨qb, 0, none⟩) n n) ∧ (((W.setCell ⟨qb, k * 3, none⟩ a).setCell ⟨qb, k * 3 + 1, none⟩ b).setCell ⟨qb, k * 3 + 2, none⟩ c).cell? ⟨wr.heap.size, 0, none⟩ = some (.int .u64 x) ∧ (((W.setCell ⟨qb, k * 3, none⟩ a).setCell ⟨qb, k * 3 + 1, none⟩ b).setCell ⟨qb, k * 3 + 2, none⟩ c).cell? ⟨wr.heap.size, 1, none⟩ = some (.int .u64 y)) ∧ ((((W.setCell ⟨qb, k * 3, none⟩ a).setCell ⟨qb, k * 3 + 1, none⟩ b).setCell ⟨qb, k * 3 + 2, none⟩ c).cell? ⟨qb, k * 3, none⟩ = some (cv (((W.setCell ⟨qb, k * 3, none⟩ a).setCell ⟨qb, k * 3 + 1, none⟩ b).setCell ⟨qb, k * 3 + 2, none⟩ c) ⟨qb, k * 3, none⟩) ∧ (((W.setCell ⟨qb, k * 3, none⟩ a).setCell ⟨qb, k * 3 + 1, none⟩ b).setCell ⟨qb, k * 3 + 2, none⟩ c).cell? ⟨qb, k * 3 + 1, none⟩ = some (cv (((W.setCell ⟨qb, k * 3, none⟩ a).setCell ⟨qb, k * 3 + 1, none⟩ b).setCell ⟨qb, k * 3 + 2, none⟩ c) ⟨qb, k * 3 + 1, none⟩) ∧ (((W.setCell ⟨qb, k * 3, none⟩ a).setCell ⟨qb, k * 3 + 1, none⟩ b).setCell ⟨qb, k * 3 + 2, none⟩ c).cell? ⟨qb, k * 3 + 2, none⟩ = some (cv (((W.setCell ⟨qb, k * 3, none⟩ a).setCell ⟨qb, k * 3 + 1, none⟩ b).setCell ⟨qb, k * 3 + 2, none⟩ c) ⟨qb, k * 3 + 2, none⟩)) ∧ ((((W.setCell ⟨qb, k * 3, none⟩ a).setCell ⟨qb, k * 3 + 1, none⟩ b).setCell ⟨qb, k * 3 + 2, none⟩ c).frozen? ⟨qb, k * 3, none⟩ = false ∧ (((W.setCell ⟨qb, k * 3, none⟩ a).setCell ⟨qb, k * 3 + 1, none⟩ b).setCell ⟨qb, k * 3 + 2, none⟩ c).frozen? ⟨qb, k * 3 + 1, none⟩ = false ∧ (((W.setCell ⟨qb, k * 3, none⟩ a).setCell ⟨qb, k * 3 + 1, none⟩ b).setCell ⟨qb, k * 3 + 2, none⟩ c).frozen? ⟨qb, k * 3 + 2, none⟩ = false) := by
  obtain ⟨h0, ⟨h1, h2, h3⟩, ⟨h4, h5, h6⟩, h7, h8, h9⟩ := h
  have e : ∀ (d o : Nat), d ≠ qb → (((W.setCell ⟨qb, k * 3, none⟩ a).setCell ⟨qb, k * 3 + 1, none⟩ b).setCell ⟨qb, k * 3 + 2, none⟩ c).cell? ⟨d, o, none⟩ = W.cell? ⟨d, o, none⟩ := fun d o hd => by
    apply World.cell?_of_block
    rw [heap_setCell_other _ _ _ _ hd, heap_setCell_other _ _ _ _ hd, heap_setCell_other _ _ _ _ hd]
  have f : ∀ (o : Nat) (v : Value), W.cell? ⟨qb, o, none⟩ = some v → ((((W.setCell ⟨qb, k * 3, none⟩ a).setCell ⟨qb, k * 3 + 1, none⟩ b).setCell ⟨qb, k * 3 + 2, none⟩ c).cell? ⟨qb, o, none⟩).isSome = true := fun o v hv => by
    obtain ⟨v1, g1⟩ := Option.isSome_iff_exists.1 (some_set (a := ⟨qb, k * 3, none⟩) (u := a) hv)
    obtain ⟨v2, g2⟩ := Option.isSome_iff_exists.1 (some_set (a := ⟨qb, k * 3 + 1, none⟩) (u := b) g1)
    exact some_set g2
  refine ⟨⟨h0.os, h0.tape, h0.output, by simp; exact h0.size, fun i hi hne => ?_⟩, ⟨(e _ _ hp).trans h1, (e _ _ hr).trans h2, (e _ _ hr).trans h3⟩, ⟨cv_mk (f _ _ h4), cv_mk (f _ _ h5), cv_mk (f _ _ h6)⟩, ?_, ?_, ?_⟩
  · rw [heap_setCell_other _ _ _ _ hne, heap_setCell_other _ _ _ _ hne, heap_setCell_other _ _ _ _ hne]
    exact h0.block i hi hne
  · rw [frozen_set, frozen_set, frozen_set]
    exact h7
  · rw [frozen_set, frozen_set, frozen_set]
    exact h8
  · rw [frozen_set, frozen_set, frozen_set]
    exact h9

end Go.Proofs.Ytgdokgpplldddaa
