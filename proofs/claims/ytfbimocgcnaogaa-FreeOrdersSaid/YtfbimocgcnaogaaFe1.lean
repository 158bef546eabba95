/- Lists of ints as slices: kept, parted; a free list as a parameter. Conditions: as each theorem names them. -/
import Derived.Test.YtfbimocgcnaogaaFe0
import Derived.Test.YtfbimocgcnaogaaFb
import Derived.Test.YtfbimocgcnaogaaKit
import Derived.Test.YtfbimocgcnaogaaBlk
namespace Go.Proofs.Ytfbimocgcnaogaa
open Go.ChangeShapes Go.WideShapes Go.ChangeAt Go.RowKit
set_option linter.unusedVariables false
set_option maxRecDepth 100000

theorem IntsZ.below {w w' : World} {v : Value} {L : List Int} (h : IntsZ w v L) (hb : Below w.heap.size w w') : IntsZ w' v L := by
  rcases h with h | ⟨b, o, c, h1, h2, h3, h4⟩
  · exact Or.inl h
  · have := hb.size
    exact Or.inr ⟨b, o, c, h1, by omega, h3, fun j hj => (hb.cell (p := ⟨b, o + j, none⟩) h2).trans (h4 j hj)⟩
theorem IntsZ.nil (w : World) : IntsZ w (.slice none 0 0) [] := Or.inl ⟨⟨_, _, rfl, fun _ => rfl⟩, rfl⟩
theorem getD_dropI (L : List Int) (k i : Nat) : (L.drop k).getD i 0 = L.getD (k + i) 0 := by
  rw [List.getD_eq_getElem?_getD, List.getD_eq_getElem?_getD, List.getElem?_drop]
theorem getD_takeI (L : List Int) {k i : Nat} (h : i < k) : (L.take k).getD i 0 = L.getD i 0 := by
  rw [List.getD_eq_getElem?_getD, List.getD_eq_getElem?_getD, List.getElem?_take_of_lt h]
theorem IntsZ.front {w : World} {b o c : Nat} {L : List Int} (k c2 : Nat) (hk : k ≤ L.length) (h2 : b < w.heap.size) (h3 : k ≤ c2) (h4 : ∀ j, j < L.length → w.cell? ⟨b, o + j, none⟩ = some (.int .i64 (L.getD j 0))) : IntsZ w (.slice (some ⟨b, o, none⟩) k c2) (L.take k) := by
  have hl : (L.take k).length = k := by
    rw [List.length_take]
    omega
  refine Or.inr ⟨b, o, c2, by rw [hl], h2, by omega, fun j hj => ?_⟩
  rw [hl] at hj
  rw [getD_takeI L hj]
  exact h4 j (by omega)
theorem IntsZ.back {w : World} {b o c : Nat} {L : List Int} (k c2 : Nat) (hk : k ≤ L.length) (h2 : b < w.heap.size) (h3 : L.length - k ≤ c2) (h4 : ∀ j, j < L.length → w.cell? ⟨b, o + j, none⟩ = some (.int .i64 (L.getD j 0))) : IntsZ w (.slice (some ⟨b, o + k, none⟩) (L.length - k) c2) (L.drop k) := by
  have hl : (L.drop k).length = L.length - k := List.length_drop ..
  refine Or.inr ⟨b, o + k, c2, by rw [hl], h2, by omega, fun j hj => ?_⟩
  rw [hl] at hj
  rw [getD_dropI, Nat.add_assoc]
  exact h4 (k + j) (by omega)
/-- the first q, and the rest, as slices -/
theorem slicesI {w : World} {va : Option Addr} {vc : Nat} {L : List Int} (hv : IntsZ w (.slice va L.length vc) L) (q : Nat) (hq : q ≤ L.length) :
    ∃ v1 v2, (∀ u, (Instr.sliceAt 22 (.slice va L.length vc) none (some (.int .i64 (q : Int))) none).run Try.prog u = .ok v1 u) ∧ IntsZ w v1 (L.take q) ∧
      (∀ u, (Instr.sliceAt 22 (.slice va L.length vc) (some (.int .i64 (q : Int))) none none).run Try.prog u = .ok v2 u) ∧ IntsZ w v2 (L.drop q) := by
  have hqi : (q : Int) ≤ (L.length : Int) := by omega
  rcases hv with ⟨⟨a, c, he, hac⟩, rfl⟩ | ⟨b, o, c, he, h2, h3, h4⟩
  · cases he
    obtain rfl : q = 0 := by simpa using hq
    cases va with
    | none =>
      obtain rfl := hac rfl
      refine ⟨.slice none 0 0, .slice none 0 0, fun u => ?_, IntsZ.nil _, fun u => ?_, IntsZ.nil _⟩
      · simp [go_sem]
      · simp [go_sem]
    | some a =>
      refine ⟨.slice (some a) 0 vc, .slice (some a) 0 vc, fun u => ?_, Or.inl ⟨⟨_, _, rfl, fun h => by cases h⟩, rfl⟩, fun u => ?_, Or.inl ⟨⟨_, _, rfl, fun h => by cases h⟩, rfl⟩⟩
      · simp [go_sem]
      · simp [go_sem]
  · cases he
    have hci : (L.length : Int) ≤ (vc : Int) := by omega
    have hqc : (q : Int) ≤ (vc : Int) := by omega
    by_cases hvq : vc = q
    · have hql : L.length = q := by omega
      have hdr : L.drop q = [] := by rw [← hql, List.drop_length]
      refine ⟨.slice (some ⟨b, o, none⟩) q vc, .slice (some ⟨b, o, none⟩) 0 0, fun u => ?_, IntsZ.front (c := vc) q vc hq h2 (by omega) h4, fun u => ?_, Or.inl ⟨⟨_, _, rfl, fun h => by cases h⟩, hdr⟩⟩
      · simp [go_sem, hqc]
      · simp [go_sem, hvq, hql]
    · refine ⟨.slice (some ⟨b, o, none⟩) q vc, .slice (some ⟨b, o + q, none⟩) (L.length - q) (vc - q), fun u => ?_, IntsZ.front (c := vc) q vc hq h2 (by omega) h4, fun u => ?_, IntsZ.back (c := vc) q (vc - q) hq h2 (by omega) h4⟩
      · simp [go_sem, hqc]
      · simp [go_sem, hqi, hvq]
/-- a literal -/
theorem IntsZ.lit (w : World) (L : List Int) (t : TypeId) : IntsZ (w.alloc (.cells (L.map (Value.int .i64)).toArray t)) (.slice (some ⟨w.heap.size, 0, none⟩) L.length L.length) L := by
  refine Or.inr ⟨w.heap.size, 0, L.length, rfl, by rw [sizeA]; omega, Nat.le_refl _, fun j hj => ?_⟩
  rw [Nat.zero_add, cellB (heap_alloc_new w _) j hj]

/-! ### a free list -/
def frV (S : Int) (v : Value) : Value := .agg #[.int .i64 S, v]
section
variable {H : Type} {enc : TypeId × Value → H} {W : World} {r : Reach} {b0 : Nat} {v : Value} {d : DataW H} {p : List MemPlace}
theorem trod_intz {n : Nat} {y : DataW H × List MemPlace} (hf : DataW.trod enc Try.prog W 0 (fun _ => true) true n 22 [v] = some y) : ∃ L, IntsZ W v L ∧ L.length ≤ maxLen := by
  have hc : Try.prog.cellsOf 3 = 1 := by kernel_rfl
  rcases open_ints Try.underlying22 Try.underlying3 hc hf with ⟨hcs, _⟩ | ⟨a', len', cap', zs, hcs, _, hle, hmax, hall, _, hcell, hwf⟩
  · simp at hcs
    subst hcs
    exact ⟨[], IntsZ.nil _, by simp⟩
  · simp at hcs
    subst hcs
    simp only [if_true] at hall
    have hl : (zs.take len').length = len' := by simp; omega
    by_cases h0 : len' = 0
    · subst h0
      exact ⟨[], Or.inl ⟨⟨_, _, rfl, fun h => by cases h⟩, rfl⟩, by simp⟩
    · obtain ⟨b, off, rfl, hc2⟩ := ints_at hcell (by omega)
      refine ⟨zs.take len', Or.inr ⟨b, off, cap', by rw [hl], World.block_lt_of_cell? W _ (hc2 0 (by omega)), by omega, fun j hj => ?_⟩, by omega⟩
      rw [hc2 j (by omega)]
      congr 2
      simp only [List.getD_eq_getElem?_getD, List.getElem?_take]
      rw [if_pos (by omega)]
theorem open_free (hval : Value.okWide Try.prog W r b0 24 v) (h : DataW.Trod enc Try.prog W 0 (fun _ => true) true 24 v d p) :
    ∃ S x L, v = frV S x ∧ IntsZ W x L ∧ I64 S ∧ L.length ≤ maxLen := by
  obtain ⟨c0, c1, y0, y1, m, rfl, rfl, rfl, h0, h1⟩ := Go.Joins.open_agg2 Try.underlying24 (by kernel_rfl) (by kernel_rfl) hval h
  obtain ⟨n0, e0, _, w0⟩ := DataW.trod_int Try.underlying3 h0
  obtain ⟨L, hL, hm⟩ := trod_intz h1
  simp at e0
  subst e0
  have := bounds_i64 w0
  exact ⟨n0, c1, L, rfl, hL, by constructor <;> omega, hm⟩
end
end Go.Proofs.Ytfbimocgcnaogaa
