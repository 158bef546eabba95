/- Arg Kit: joined texts. Conditions: as each theorem names them. -/
import Derived.Test.YteolnghnlfeakaaKp06
import Derived.Test.YteolnghnlfeakaaKp02
import Derived.OpenShut
import Derived.Deep.SlicePairs
import Derived.Lib.SmallJoins
import Derived.Test.YteolnghnlfeakaaRows
import Derived.WalkKit
import Derived.ProofKit
/- Arguments that came in, read as the statements' own words: bytes, regions. Conditions: as each theorem names them. -/
namespace Go.Proofs.Yteolnghnlfeakaa
open Go.ChangeShapes Go.WideShapes Go.ChangeAt Go.RowKit
set_option linter.unusedVariables false
set_option maxRecDepth 100000

section
variable {H : Type} {enc : TypeId × Value → H} {W : World} {r : Reach} {b0 : Nat} {v : Value} {d : DataW H} {p : List MemPlace}

theorem add_some {w : World} {a : Addr} {k : Nat} {v : Value} (h : w.cell? (a.add k) = some v) (hk : k = 0 ∨ a.spot = none) : a.spot = none := by
  rcases hk with rfl | h'
  · simpa [Addr.add] using World.cell?_spot h
  · exact h'

/-- bytes, as cells -/
theorem open_bytes_cells {fuel : Nat} {cs : List Value} {x : DataW H × List MemPlace} (h : DataW.trod enc Try.prog W 0 (fun _ => true) true fuel 38 cs = some x) :
    ∃ v l, cs = [v] ∧ BytesAt W v l ∧ isBytes l ∧ l.length ≤ maxLen := by
  have hc : Try.prog.cellsOf 5 = 1 := by kernel_rfl
  rcases open_ints Try.underlying38 Try.underlying5 hc h with ⟨hcs, _⟩ | ⟨a, len, cap, zs, hcs, _, hle, hmax, hall, _, hcell, hwf⟩
  · exact ⟨_, [], hcs, Or.inl ⟨⟨none, 0, rfl, fun _ => rfl⟩, rfl⟩, isBytes_nil, by simp⟩
  · simp only [if_true] at hall
    have hb : isBytes (zs.take len) := fun x hx => by
      have := bounds_u8 (hwf x (List.mem_of_mem_take hx))
      omega
    have hl : (zs.take len).length = len := by simp; omega
    by_cases h0 : len = 0
    · subst h0
      exact ⟨_, [], hcs, Or.inl ⟨⟨_, _, rfl, fun h => by cases h⟩, rfl⟩, isBytes_nil, by simp⟩
    · obtain ⟨b, off, rfl, hc2⟩ := ints_at hcell (by omega)
      refine ⟨_, zs.take len, hcs, Or.inr ⟨b, off, cap, by rw [hl], World.block_lt_of_cell? W _ (hc2 0 (by omega)), by omega, fun j hj => ?_⟩, hb, by omega⟩
      rw [hc2 j (by omega)]
      congr 2
      simp only [List.getD_eq_getElem?_getD, List.getElem?_take]
      rw [if_pos (by omega)]
theorem open_bytes (hval : Value.okWide Try.prog W r b0 38 v) (h : DataW.Trod enc Try.prog W 0 (fun _ => true) true 38 v d p) :
    ∃ l, BytesAt W v l ∧ isBytes l ∧ l.length ≤ maxLen := by
  obtain ⟨a, len, cap, rfl⟩ := okWide_slice Try.underlying38 hval
  obtain ⟨fuel, hf⟩ := h
  obtain ⟨v', l, h1, h2, h3, h4⟩ := open_bytes_cells hf
  simp [Value.cells] at h1
  subst h1
  exact ⟨l, h2, h3, h4⟩

/-- regions -/
theorem open_regs (hval : Value.okWide Try.prog W r b0 29 v) (h : DataW.Trod enc Try.prog W 0 (fun _ => true) true 29 v d p) :
    ∃ L, RegsAt W v L ∧ isRegs L ∧ L.length ≤ maxLen := by
  obtain ⟨a, len, cap, rfl⟩ := okWide_slice Try.underlying29 hval
  obtain ⟨fuel, hf⟩ := h
  rcases Go.Deep.open_slice_pairs Try.underlying29 Try.underlying28 (by kernel_rfl) rfl rfl (by kernel_rfl) (by kernel_rfl) hf with ⟨hcs, _⟩ | ⟨a', len', cap', m, n, V0, V1, D0, D1, P0, P1, hcs, _, hle, hmax, hm, _, hx⟩
  · simp [Value.cells] at hcs
    obtain ⟨rfl, rfl, rfl⟩ := hcs
    exact ⟨[], Or.inl ⟨⟨_, _, rfl, fun _ => rfl⟩, rfl⟩, (fun r hr => by cases hr), by simp⟩
  · simp [Value.cells] at hcs
    obtain ⟨rfl, rfl, rfl⟩ := hcs
    simp only [if_true] at hm
    subst hm
    have each : ∀ i, i < len → ∃ r : Int × Int, W.cell? (a'.add (i * 2)) = some (.int .u64 r.1) ∧ W.cell? (a'.add (i * 2 + 1)) = some (.int .u64 r.2) ∧ U64 r.1 ∧ U64 r.2 := fun i hi => by
      obtain ⟨h1, h2, h3, h4⟩ := hx i (by omega)
      obtain ⟨x, e1, _, w1⟩ := DataW.trod_int Try.underlying26 h3
      obtain ⟨y, e2, _, w2⟩ := DataW.trod_int Try.underlying26 h4
      simp at e1 e2
      rw [e1] at h1
      rw [e2] at h2
      have := bounds_u64 w1
      have := bounds_u64 w2
      exact ⟨(x, y), h1, h2, ⟨by omega, by omega⟩, ⟨by omega, by omega⟩⟩
    obtain ⟨f, hf2⟩ := Go.Deep.choose_lt each
    have hlen : ((List.range len).map f).length = len := by simp
    have hat : ∀ i, i < len → at_ ((List.range len).map f) i = f i := fun i hi => by simp [at_, List.getD, hi]
    refine ⟨(List.range len).map f, ?_, ?_, by rw [hlen]; omega⟩
    · by_cases h0 : len = 0
      · subst h0
        exact Or.inl ⟨⟨_, _, rfl, fun h => by cases h⟩, rfl⟩
      · obtain ⟨b, off, spot⟩ := a'
        have hspot : spot = none := by simpa [Addr.add] using World.cell?_spot (hf2 0 (by omega)).1
        subst hspot
        have h00 := (hf2 0 (by omega)).1
        rw [add_plain] at h00
        refine Or.inr ⟨b, off, m, by rw [hlen], World.block_lt_of_cell? W _ h00, by omega, fun j hj => ?_⟩
        rw [hlen] at hj
        have h1 := hf2 j hj
        rw [add_plain, add_plain] at h1
        rw [hat j hj]
        exact ⟨h1.1, by rw [Nat.add_assoc]; exact h1.2.1⟩
    · intro r hr
      obtain ⟨i, hi, rfl⟩ := List.mem_map.1 hr
      exact (hf2 i (by simpa using hi)).2.2
end
end Go.Proofs.Yteolnghnlfeakaa

/- Contracts of the kit's small functions: Pick. Conditions: as each theorem names them. -/
namespace Go.Proofs.Yteolnghnlfeakaa
open Go.ChangeShapes Go.WideShapes Go.ChangeAt Go.RowKit
set_option linter.unusedVariables false
set_option maxRecDepth 100000

end Go.Proofs.Yteolnghnlfeakaa
