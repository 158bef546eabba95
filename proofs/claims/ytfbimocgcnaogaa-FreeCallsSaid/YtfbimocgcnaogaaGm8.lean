/- The statements' common examples: two, lives; New where the regions are not valid. Conditions: as each theorem names them. -/
import Derived.Test.YtfbimocgcnaogaaGm7
import Derived.Laws.BytesArg
namespace Go.Proofs.Ytfbimocgcnaogaa
open Go.ChangeShapes Go.WideShapes Go.ChangeAt Go.RowKit
set_option linter.unusedVariables false
set_option maxRecDepth 100000

/-- a change of what was made since -/
theorem Chg.since {S : Nat → Prop} {w a b : World} (h : Below w.heap.size w a) (hc : Chg S a b) (hS : ∀ k, S k → w.heap.size ≤ k) : Below w.heap.size w b :=
  h.trans (hc.below h.size (fun k hk hs => by have := hS k hs; omega))
theorem Chg.since1 {w a b : World} {ib : Nat} (h : Below w.heap.size w a) (hc : Chg (· = ib) a b) (hi : w.heap.size ≤ ib) : Below w.heap.size w b := hc.since h (fun k hk => by omega)

abbrev L2 : List (Int × Int) := [(100, 8), (108, 4)]
theorem isRegs_L2 : isRegs L2 := by
  intro r hr
  simp [L2] at hr
  rcases hr with rfl | rfl <;> simp [U64]

/-! ## words for closed regions, and for bytes as a string -/
def isRegsB (L : List (Int × Int)) : Bool := L.all fun r => decide (0 ≤ r.1 ∧ r.1 < 18446744073709551616 ∧ 0 ≤ r.2 ∧ r.2 < 18446744073709551616)
theorem isRegs_of {L : List (Int × Int)} (h : isRegsB L = true) : isRegs L := by
  intro r hr
  have := List.all_eq_true.1 h r hr
  simp at this
  exact ⟨⟨this.1, this.2.1⟩, this.2.2.1, this.2.2.2⟩
theorem isBytes_of {l : List Int} (h : (l.all fun x => decide (0 ≤ x ∧ x < 256)) = true) : isBytes l := by
  intro r hr
  have := List.all_eq_true.1 h r hr
  simpa using this
theorem regsLit (w : World) (L : List (Int × Int)) (t : TypeId) : RegsAt (w.alloc (.cells (regCells L).toArray t)) (.slice (some ⟨w.heap.size, 0, none⟩) L.length L.length) L :=
  regsAt_row (cs := []) (by rw [List.append_nil]; exact heap_alloc_new _ _) (Nat.le_refl _)
theorem bytesLit (w : World) (l : List Int) (t : TypeId) : BytesAt (w.alloc (.cells (bv l) t)) (.slice (some ⟨w.heap.size, 0, none⟩) l.length l.length) l :=
  Or.inr ⟨w.heap.size, 0, l.length, rfl, by rw [sizeA]; omega, Nat.le_refl _, fun j hj => by rw [Nat.zero_add]; exact cellB (M := l) (heap_alloc_new w _) j hj⟩
theorem NewBytes.len {B : Nat} {w : World} {v : Value} {l : List Int} (h : NewBytes B w v l) : ∃ a c, v = .slice a l.length c := by
  rcases h with ⟨rfl, rfl⟩ | ⟨b, c, rfl, _⟩
  · exact ⟨none, 0, rfl⟩
  · exact ⟨_, _, rfl⟩
theorem NewBytes.form {B : Nat} {w : World} {v : Value} {l : List Int} (h : NewBytes B w v l) (hl : 0 < l.length) : ∃ b c : Nat, v = .slice (some ⟨b, 0, none⟩) l.length c ∧ B ≤ b ∧ b < w.heap.size ∧ l.length ≤ c ∧ ∀ j, j < l.length → w.cell? ⟨b, j, none⟩ = some (.int .u8 (l.getD j 0)) := by
  rcases h with ⟨_, rfl⟩ | ⟨b, c, h1, h2, h3, cs, h4, _⟩
  · simp at hl
  · refine ⟨b, c, h1, h2, lt_blk h4, h3, fun j hj => ?_⟩
    rw [cellK h4, List.getElem?_append_left (by simp; omega)]
    simp [hj, List.getD]
/-- a new block, and a call behind it -/
theorem below_new {w a b : World} {o : Obj} (h : Below w.heap.size w a) (hb : Below (a.alloc o).heap.size (a.alloc o) b) : Below w.heap.size w b :=
  (h.alloc h.size o).trans (hb.mono (by rw [sizeA]; have := h.size; omega))
theorem below_then {w a b : World} (h : Below w.heap.size w a) (hb : Below a.heap.size a b) : Below w.heap.size w b := h.trans (hb.mono h.size)
end Go.Proofs.Ytfbimocgcnaogaa
