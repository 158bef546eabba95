/- Contracts of gmem's Regions and New. Conditions: as each theorem names them. -/
import Derived.Test.YtfbimocgcnaogaaGm5
import Derived.Laws.MakeOwn
namespace Go.Proofs.Ytfbimocgcnaogaa
open Go.ChangeShapes Go.WideShapes Go.ChangeAt Go.RowKit
set_option linter.unusedVariables false
set_option maxRecDepth 100000

/-- regions as a block's cells -/
def regCells : List (Int × Int) → List Value
  | [] => []
  | r :: l => .int .u64 r.1 :: .int .u64 r.2 :: regCells l
theorem regCells_length : ∀ l : List (Int × Int), (regCells l).length = l.length * 2
  | [] => rfl
  | r :: l => by
    simp only [regCells, List.length_cons, regCells_length l]
    omega
theorem regCells_at : ∀ (l : List (Int × Int)) (i : Nat), i < l.length → (regCells l)[i * 2]? = some (.int .u64 (at_ l i).1) ∧ (regCells l)[i * 2 + 1]? = some (.int .u64 (at_ l i).2)
  | [], i, h => by simp at h
  | r :: l, 0, _ => by simp [regCells, at_]
  | r :: l, i + 1, h => by
    have := regCells_at l i (by simpa using h)
    have e : (i + 1) * 2 = i * 2 + 1 + 1 := by omega
    rw [at_succ, e]
    simpa [regCells] using this
theorem regCells_set : ∀ (l : List (Int × Int)) (i : Nat) (x y : Int), ((regCells l).set (i * 2) (.int .u64 x)).set (i * 2 + 1) (.int .u64 y) = regCells (l.set i (x, y))
  | [], i, x, y => by simp [regCells]
  | r :: l, 0, x, y => by simp [regCells]
  | r :: l, i + 1, x, y => by
    have := regCells_set l i x y
    have e : (i + 1) * 2 = i * 2 + 1 + 1 := by omega
    rw [e]
    simpa [regCells] using this
theorem regsAt_row {w : World} {g c : Nat} {L : List (Int × Int)} {t : TypeId} {fr : Nat × Nat} {cs : List Value} (h : w.heap[g]? = some (.cells (regCells L ++ cs).toArray t fr)) (hc : L.length ≤ c) : RegsAt w (.slice (some ⟨g, 0, none⟩) L.length c) L := by
  refine Or.inr ⟨g, 0, c, rfl, lt_blk h, hc, fun j hj => ?_⟩
  have h1 := regCells_at L j hj
  have hl := regCells_length L
  refine ⟨?_, ?_⟩
  · rw [Nat.zero_add, cellK h, List.getElem?_append_left (by omega)]
    exact h1.1
  · rw [Nat.zero_add, cellK h, List.getElem?_append_left (by omega)]
    exact h1.2
theorem setR (w : World) (g i : Nat) (X : List (Int × Int)) (x y : Int) (t : TypeId) (hg : w.heap[g]? = some (.cells (regCells X).toArray t (0, 0))) :
    (w.setCell ⟨g, i * 2, none⟩ (.int .u64 x)).setCell ⟨g, i * 2 + 1, none⟩ (.int .u64 y) = w.setRow g (regCells (X.set i (x, y))).toArray := by
  have h1 := setCell_eq_setRow w g (i * 2) _ t (0, 0) (.int .u64 x) hg
  have h2 : (w.setCell ⟨g, i * 2, none⟩ (.int .u64 x)).heap[g]? = some (.cells ((regCells X).set (i * 2) (.int .u64 x)).toArray t (0, 0)) := by
    rw [heap_setCell_same w g (i * 2) _ t _ hg]
    simp
  rw [setCell_eq_setRow _ g (i * 2 + 1) _ t (0, 0) _ h2, h1, setRow_setRow]
  simp [regCells_set]

theorem regCells_zero : ∀ n : Nat, regCells (List.replicate n (0, 0)) = List.replicate (n * 2) (.int .u64 0)
  | 0 => rfl
  | n + 1 => by
    rw [List.replicate_succ, regCells, regCells_zero n, show (n + 1) * 2 = n * 2 + 1 + 1 from by omega, List.replicate_succ, List.replicate_succ]
/-! ## Regions -/
theorem take_set (L : List (Int × Int)) (k : Nat) (h : k < L.length) : (L.take k ++ List.replicate (L.length - k) (0, 0)).set k ((at_ L k).1, (at_ L k).2) = L.take (k + 1) ++ List.replicate (L.length - (k + 1)) (0, 0) := by
  have e1 : (L.take k).length = k := by simp; omega
  rw [List.set_append_right _ _ (by omega), e1, Nat.sub_self, show L.length - k = (L.length - (k + 1)) + 1 from by omega, List.replicate_succ, List.set_cons_zero, List.take_succ_eq_append_getElem h, List.append_assoc]
  simp [at_, List.getD, h]
end Go.Proofs.Ytfbimocgcnaogaa
