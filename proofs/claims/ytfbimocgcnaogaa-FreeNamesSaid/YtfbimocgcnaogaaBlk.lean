/- A block of a call's own, all its cells known: made, kept, written. No program in sight. -/
import Derived.Test.YtfbimocgcnaogaaWld
namespace Go.Proofs.Ytfbimocgcnaogaa
open Go Go.RowKit
set_option linter.unusedVariables false

/-- block b holds the cells C, free to be written -/
abbrev BlkAt (w : World) (b : Nat) (C : List Value) (t : TypeId) : Prop := w.heap[b]? = some (.cells C.toArray t (0, 0))
theorem BlkAt.lt {w : World} {b : Nat} {C : List Value} {t : TypeId} (h : BlkAt w b C t) : b < w.heap.size := lt_blk h
theorem BlkAt.cell {w : World} {b : Nat} {C : List Value} {t : TypeId} (h : BlkAt w b C t) (i : Nat) : w.cell? ⟨b, i, none⟩ = C[i]? := cellK h i
theorem BlkAt.free {w : World} {b : Nat} {C : List Value} {t : TypeId} (h : BlkAt w b C t) (i : Nat) : w.frozen? ⟨b, i, none⟩ = false := frozenK h i
theorem blk_new (w : World) (C : List Value) (t : TypeId) : BlkAt (w.alloc (.cells C.toArray t)) w.heap.size C t := heap_alloc_new w _
theorem BlkAt.below {w w' : World} {b : Nat} {C : List Value} {t : TypeId} (h : BlkAt w b C t) (hb : Below w.heap.size w w') : BlkAt w' b C t := keepB hb h
theorem BlkAt.set {w : World} {b : Nat} {C : List Value} {t : TypeId} (h : BlkAt w b C t) (i : Nat) (x : Value) : BlkAt (w.setCell ⟨b, i, none⟩ x) b (C.set i x) t := by
  have hlt := h.lt
  have h' : w.heap[b] = .cells C.toArray t (0, 0) := by
    have h2 : w.heap[b]? = some (.cells C.toArray t (0, 0)) := h
    rw [Array.getElem?_eq_getElem hlt] at h2
    exact Option.some.inj h2
  show (w.heap.modify b _)[b]? = _
  rw [Array.getElem?_eq_getElem (by simpa using hlt), Array.getElem_modify_self, h']
  simp
theorem BlkAt.other {w : World} {b g i : Nat} {C : List Value} {t : TypeId} (h : BlkAt w b C t) (hne : b ≠ g) (x : Value) : BlkAt (w.setCell ⟨g, i, none⟩ x) b C t := by
  show (w.setCell ⟨g, i, none⟩ x).heap[b]? = _
  rw [Below.heap_setCell w ⟨g, i, none⟩ x b hne]
  exact h
theorem below_box (w : World) (x : Obj) : Below w.heap.size w (w.alloc x) := (Below.refl _ w).alloc (Nat.le_refl _) _
end Go.Proofs.Ytfbimocgcnaogaa
