/- Wk2 Sg5 Sg6: joined texts. Conditions: as each theorem names them. -/
import Derived.Test.YtfhhgcgbgmilcaaGreatKp21
import Derived.Test.YtfhhgcgbgmilcaaGreatKp22
import Derived.Test.YtfhhgcgbgmilcaaGreatKp15
/- The reference of layer 10: desc, entries. Conditions: as each theorem names them. -/
namespace Go.Proofs.YtfhhgcgbgmilcaaGreat
open Go.ChangeShapes Go.WideShapes Go.ChangeAt Go.RowKit
set_option linter.unusedVariables false
set_option maxRecDepth 100000

theorem cells4 {w : World} {b : Nat} {x0 x1 x2 x3 : Value} {t : TypeId} (h : BlkAt w b [x0, x1, x2, x3] t) : b < w.heap.size ∧ w.cell? ⟨b, 0, none⟩ = some x0 ∧ w.cell? ⟨b, 1, none⟩ = some x1 ∧ w.cell? ⟨b, 2, none⟩ = some x2 ∧ w.cell? ⟨b, 3, none⟩ = some x3 ∧ w.frozen? ⟨b, 0, none⟩ = false ∧ w.frozen? ⟨b, 1, none⟩ = false ∧ w.frozen? ⟨b, 2, none⟩ = false ∧ w.frozen? ⟨b, 3, none⟩ = false := ⟨h.lt, h.cell 0, h.cell 1, h.cell 2, h.cell 3, h.free 0, h.free 1, h.free 2, h.free 3⟩
end Go.Proofs.YtfhhgcgbgmilcaaGreat

/- The reference's Part and Cut of layer 5; kit.SameSegs. Conditions: as each theorem names them. -/
namespace Go.Proofs.YtfhhgcgbgmilcaaGreat
open Go.ChangeShapes Go.WideShapes Go.ChangeAt Go.RowKit
set_option linter.unusedVariables false
set_option maxRecDepth 100000

theorem partS_append (t : Bool) (a b : List Sg) : partS t (a ++ b) = partS t a ++ partS t b := by
  unfold partS
  exact List.filter_append ..
theorem partS_step {t : Bool} {L : List Sg} {k : Nat} (h : k < L.length) : partS t (L.take (k + 1)) = partS t (L.take k) ++ if (sat L k).t = t then [sat L k] else [] := by
  rw [take_sat h, partS_append]
  congr 1
  by_cases hq : (sat L k).t = t
  · rw [partS_yes hq, if_pos hq]
    rfl
  · rw [partS_no hq, if_neg hq]
    rfl
theorem partS_le (t : Bool) (L : List Sg) : (partS t L).length ≤ L.length := by
  unfold partS
  exact List.length_filter_le ..
theorem seg_pos {L : List Sg} (h : segE L ≠ 0) : 0 < L.length := by
  rcases Nat.eq_zero_or_pos L.length with q | q
  · rw [List.length_eq_zero_iff.1 q] at h
    exact absurd rfl h
  · exact q

end Go.Proofs.YtfhhgcgbgmilcaaGreat

/- The reference's Cut of layer 5. Conditions: as each theorem names them. -/
namespace Go.Proofs.YtfhhgcgbgmilcaaGreat
open Go.ChangeShapes Go.WideShapes Go.ChangeAt Go.RowKit
set_option linter.unusedVariables false
set_option maxRecDepth 100000

/-- what Cut holds when it comes to segment k -/
structure CutInv (L : List Sg) (f0 n0 : Int) (k : Nat) (f n : Int) (acc : List Sg) : Prop where
  uf : U64 f
  un : U64 n
  len : acc.length ≤ k
  eq : cutS L f0 n0 = acc ++ cutS (L.drop k) f n
theorem CutInv.skip {L : List Sg} {f0 n0 : Int} {k : Nat} {f n : Int} {acc : List Sg} (h : CutInv L f0 n0 k f n acc) (hk : k < L.length) (hu : isSgs L) (hf : (sat L k).n ≤ f) : CutInv L f0 n0 (k + 1) (f - (sat L k).n) n acc := by
  have h1 := h.uf
  obtain ⟨_, h2, h3⟩ := sat_is hu k
  refine ⟨⟨by omega, by omega⟩, h.un, Nat.le_succ_of_le h.len, ?_⟩
  rw [h.eq, drop_sat hk, cutS_le hf]
theorem CutInv.some {L : List Sg} {f0 n0 : Int} {k : Nat} {f n : Int} {acc : List Sg} (h : CutInv L f0 n0 k f n acc) (hk : k < L.length) (hu : isSgs L) (hf : f < (sat L k).n) {q : Int} (hq : min ((sat L k).n - f) n = q) (h0 : 0 < q) : CutInv L f0 n0 (k + 1) 0 (n - q) (acc ++ [⟨(sat L k).a + f, q, (sat L k).t⟩]) := by
  have h1 := h.uf
  have h2 := h.un
  refine ⟨by decide, ⟨by omega, by omega⟩, by have := h.len; simp; omega, ?_⟩
  rw [h.eq, drop_sat hk, cutS_some hf hq h0, List.append_assoc]
  rfl
theorem CutInv.none {L : List Sg} {f0 n0 : Int} {k : Nat} {f n : Int} {acc : List Sg} (h : CutInv L f0 n0 k f n acc) (hk : k < L.length) (hu : isSgs L) (hf : f < (sat L k).n) {q : Int} (hq : min ((sat L k).n - f) n = q) (h0 : q ≤ 0) : CutInv L f0 n0 (k + 1) 0 (n - q) acc := by
  have h1 := h.uf
  have h2 := h.un
  refine ⟨by decide, ⟨by omega, by omega⟩, Nat.le_succ_of_le h.len, ?_⟩
  rw [h.eq, drop_sat hk, cutS_none hf hq h0]

end Go.Proofs.YtfhhgcgbgmilcaaGreat
