/- SgOpen Rf7: joined texts. Conditions: as each theorem names them. -/
import Derived.Test.YteolnghnlfeakaaKp08
import Derived.Test.YteolnghnlfeakaaKp17
import Derived.Test.YteolnghnlfeakaaKp20
import Derived.Deep.SlicePairs
import Derived.Lib.SmallJoins
/- How a parameter of type []api.Seg opens. Conditions: as each theorem names them. -/
namespace Go.Proofs.Yteolnghnlfeakaa
open Go.ChangeShapes Go.WideShapes Go.ChangeAt Go.RowKit
set_option linter.unusedVariables false
set_option maxRecDepth 100000

section
variable {H : Type} {enc : TypeId × Value → H} {W : World} {r : Reach} {b0 : Nat} {v : Value} {d : DataW H} {p : List MemPlace}
instance : Inhabited Sg := ⟨⟨0, 0, false⟩⟩
theorem list3 {α : Type} {l : List α} (h : l.length = 3) : ∃ a b c, l = [a, b, c] := by
  match l, h with
  | [a, b, c], _ => exact ⟨a, b, c, rfl⟩
theorem open_segs (hval : Value.okWide Try.prog W r b0 33 v) (h : DataW.Trod enc Try.prog W 0 (fun _ => true) true 33 v d p) :
    ∃ L, SegsAt W v L ∧ isSgs L ∧ L.length ≤ maxLen := by
  obtain ⟨a, len, cap, rfl⟩ := okWide_slice Try.underlying33 hval
  obtain ⟨fuel, hf⟩ := h
  rcases Go.Deep.open_slice Try.underlying33 hf with ⟨hcs, _⟩ | ⟨a', len', cap', m, n, D, Pl, hcs, _, hle, hmax, hm, _, hx⟩
  · simp [Value.cells] at hcs
    obtain ⟨rfl, rfl, rfl⟩ := hcs
    exact ⟨[], Or.inl ⟨⟨_, _, rfl, fun _ => rfl⟩, rfl⟩, (fun d hd => by cases hd), by simp⟩
  · simp [Value.cells] at hcs
    obtain ⟨rfl, rfl, rfl⟩ := hcs
    simp only [if_true] at hm
    subst hm
    have hC : Try.prog.cellsOf 32 = 3 := by kernel_rfl
    have hC64 : Try.prog.cellsOf 26 = 1 := by kernel_rfl
    have hC32 : Try.prog.cellsOf 30 = 1 := by kernel_rfl
    have hCb : Try.prog.cellsOf 4 = 1 := by kernel_rfl
    have each : ∀ i, i < len → ∃ x : Sg, (W.cell? (a'.add (i * 3)) = some (.int .u64 x.a) ∧ W.cell? (a'.add (i * 3 + 1)) = some (.int .u32 x.n) ∧ W.cell? (a'.add (i * 3 + 2)) = some (.bool x.t)) ∧ isSg x := fun i hi => by
      obtain ⟨cs', h1, h2⟩ := hx i (by omega)
      rw [hC] at h1
      obtain ⟨_, hlen, hcell⟩ := World.cells?_some h1
      obtain ⟨v0, v1, v2, rfl⟩ := list3 hlen
      obtain ⟨xs, k, hk, hxy, _, hxl, hfd⟩ := DataW.trod_struct Try.underlying32 h2
      obtain ⟨y0, y1, y2, rfl⟩ := list3 hxl
      have g0 := hfd 0 _ rfl
      have g1 := hfd 1 _ rfl
      have g2 := hfd 2 _ rfl
      simp [hC64, hC32, hCb] at g0 g1 g2
      obtain ⟨n0, e0, _, w0⟩ := DataW.trod_int Try.underlying26 g0
      obtain ⟨n1, e1, _, w1⟩ := DataW.trod_int Try.underlying30 g1
      obtain ⟨n2, e2, _⟩ := DataW.trod_bool Try.underlying4 g2
      simp at e0 e1 e2
      subst e0 e1 e2
      have c0 := hcell 0 (by omega)
      have c1 := hcell 1 (by omega)
      have c2 := hcell 2 (by omega)
      rw [Go.Deep.add_add] at c0 c1 c2
      have u0 := bounds_u64 w0
      have u1 := bounds_u32 w1
      exact ⟨⟨n0, n1, n2⟩, ⟨c0, c1, c2⟩, ⟨⟨by simp only; omega, by simp only; omega⟩, by simp only; omega, by simp only; omega⟩⟩
    obtain ⟨f, hf2⟩ := Go.Deep.choose_lt each
    have hlen : ((List.range len).map f).length = len := by simp
    have hat : ∀ i, i < len → sat ((List.range len).map f) i = f i := fun i hi => by simp [sat, List.getD, hi]
    refine ⟨(List.range len).map f, ?_, (fun d hd => by
      obtain ⟨i, hi, rfl⟩ := List.mem_map.1 hd
      exact (hf2 i (by simpa using hi)).2), by rw [hlen]; omega⟩
    by_cases h0 : len = 0
    · subst h0
      exact Or.inl ⟨⟨_, _, rfl, fun h => by cases h⟩, rfl⟩
    · obtain ⟨b, off, spot⟩ := a'
      have hspot : spot = none := by simpa [Addr.add] using World.cell?_spot (hf2 0 (by omega)).1.1
      subst hspot
      have h00 := (hf2 0 (by omega)).1.1
      rw [add_plain] at h00
      refine Or.inr ⟨b, off, m, by rw [hlen], World.block_lt_of_cell? W _ h00, by omega, fun j hj => ?_⟩
      rw [hlen] at hj
      have h1 := (hf2 j hj).1
      simp only [add_plain] at h1
      rw [hat j hj]
      exact ⟨h1.1, by rw [Nat.add_assoc]; exact h1.2.1, by rw [Nat.add_assoc]; exact h1.2.2⟩
end
end Go.Proofs.Yteolnghnlfeakaa

/- kit.SameRegions of two slices of the same regions. Conditions: as the theorem names them. -/
namespace Go.Proofs.Yteolnghnlfeakaa
open Go.ChangeShapes Go.WideShapes Go.ChangeAt Go.RowKit
set_option linter.unusedVariables false

end Go.Proofs.Yteolnghnlfeakaa
