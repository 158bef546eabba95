/- Rd3 Rd5 Blk: joined texts. Conditions: as each theorem names them. -/
import Derived.Test.YtfhhgcgbgmilcaaGreatKp19
import Derived.Test.YtfhhgcgbgmilcaaGreatKp06
import Derived.Test.YtfhhgcgbgmilcaaGreatKp01
/- The reference of layer 3: Read, ReadPacked; words and flags. Conditions: as each theorem names them. -/
namespace Go.Proofs.YtfhhgcgbgmilcaaGreat
open Go.ChangeShapes Go.WideShapes Go.ChangeAt Go.RowKit
set_option linter.unusedVariables false
set_option maxRecDepth 100000

/-! ## words -/
end Go.Proofs.YtfhhgcgbgmilcaaGreat

/- The reference of layer 3: Table, ReadTable. Conditions: as each theorem names them. -/
namespace Go.Proofs.YtfhhgcgbgmilcaaGreat
open Go.ChangeShapes Go.WideShapes Go.ChangeAt Go.RowKit
set_option linter.unusedVariables false
set_option maxRecDepth 100000

theorem ownsRow_below {w w' : World} {B : Nat} {e : TypeId} {size n : Nat} {v : Value} {xs : List Value} (h : w.ownsRow B e size v n xs) (hb : Below w.heap.size w w') : w'.ownsRow B e size v n xs := by
  refine ⟨h.1, ?_⟩
  rcases h.2 with h2 | ⟨g, cap, cur, h1, h2, h3, h4⟩
  · exact Or.inl h2
  · exact Or.inr ⟨g, cap, cur, h1, h2, keepB hb h3, h4⟩

/-! ## ReadTable -/
theorem dCs_append : ∀ (a b : List Dsc), dCs (a ++ b) = dCs a ++ dCs b
  | [], _ => rfl
  | d :: a, b => by simp [dCs, dCs_append a b]
theorem dCs_one : ∀ (L : List Dsc), ∀ u ∈ dCs L, u.oneCell' = true
  | [], u, h => by cases h
  | d :: L, u, h => by
    simp only [dCs, List.mem_cons] at h
    rcases h with rfl | rfl | rfl | rfl | h
    · rfl
    · rfl
    · rfl
    · rfl
    · exact dCs_one L u h
theorem descs_of {B : Nat} {w : World} {v : Value} {L : List Dsc} (h : w.ownsRow B 44 4 v L.length (dCs L)) : DescsAt w v L := by
  rcases h.2 with ⟨rfl, h0⟩ | ⟨g, cap, cur, rfl, hg, hh, hn, hm, hs, ht⟩
  · exact Or.inl ⟨⟨none, 0, rfl, fun _ => rfl⟩, List.length_eq_zero_iff.1 h0⟩
  · refine Or.inr ⟨g, 0, cap, rfl, lt_blk hh, hn, fun j hj => ?_⟩
    have hcell : ∀ i u, (dCs L)[i]? = some u → w.cell? ⟨g, i, none⟩ = some u := fun i u hu => by
      rw [cell_of_row w g i _ _ _ hh, ← hu, ← ht]
      have hi : i < L.length * 4 := by
        have := (List.getElem?_eq_some_iff.1 hu).1
        rw [dCs_length] at this
        exact this
      rw [List.getElem?_take, if_pos hi]
      simp
    obtain ⟨h0, h1, h2, h3⟩ := dCs_at L j hj
    rw [Nat.zero_add]
    exact ⟨hcell _ _ h0, hcell _ _ h1, hcell _ _ h2, hcell _ _ h3⟩

end Go.Proofs.YtfhhgcgbgmilcaaGreat

/- A block of a call's own, all its cells known: made, kept, written. No program in sight. -/
namespace Go.Proofs.YtfhhgcgbgmilcaaGreat
open Go Go.RowKit
set_option linter.unusedVariables false

/-- block b holds the cells C, free to be written -/
abbrev BlkAt (w : World) (b : Nat) (C : List Value) (t : TypeId) : Prop := w.heap[b]? = some (.cells C.toArray t (0, 0))
theorem BlkAt.lt {w : World} {b : Nat} {C : List Value} {t : TypeId} (h : BlkAt w b C t) : b < w.heap.size := lt_blk h
theorem BlkAt.cell {w : World} {b : Nat} {C : List Value} {t : TypeId} (h : BlkAt w b C t) (i : Nat) : w.cell? ⟨b, i, none⟩ = C[i]? := cellK h i
theorem BlkAt.free {w : World} {b : Nat} {C : List Value} {t : TypeId} (h : BlkAt w b C t) (i : Nat) : w.frozen? ⟨b, i, none⟩ = false := frozenK h i
theorem blk_new (w : World) (C : List Value) (t : TypeId) : BlkAt (w.alloc (.cells C.toArray t)) w.heap.size C t := heap_alloc_new w _
theorem BlkAt.below {w w' : World} {b : Nat} {C : List Value} {t : TypeId} (h : BlkAt w b C t) (hb : Below w.heap.size w w') : BlkAt w' b C t := keepB hb h
theorem BlkAt.set {w : World} {b : Nat} {C : List Value} {t : TypeId} (h : BlkAt w b C t) (i : Nat) (x : Value) : BlkAt (w.setCell ⟨b, i, none⟩ x) b (C.set i x) t := by
  have hlt := h.lt
  have h' : w.heap[b] = .cells C.toArray t (0, 0) := by
    have h2 : w.heap[b]? = some (.cells C.toArray t (0, 0)) := h
    rw [Array.getElem?_eq_getElem hlt] at h2
    exact Option.some.inj h2
  show (w.heap.modify b _)[b]? = _
  rw [Array.getElem?_eq_getElem (by simpa using hlt), Array.getElem_modify_self, h']
  simp
theorem BlkAt.other {w : World} {b g i : Nat} {C : List Value} {t : TypeId} (h : BlkAt w b C t) (hne : b ≠ g) (x : Value) : BlkAt (w.setCell ⟨g, i, none⟩ x) b C t := by
  show (w.setCell ⟨g, i, none⟩ x).heap[b]? = _
  rw [Below.heap_setCell w ⟨g, i, none⟩ x b hne]
  exact h
theorem below_box (w : World) (x : Obj) : Below w.heap.size w (w.alloc x) := (Below.refl _ w).alloc (Nat.le_refl _) _
end Go.Proofs.YtfhhgcgbgmilcaaGreat
