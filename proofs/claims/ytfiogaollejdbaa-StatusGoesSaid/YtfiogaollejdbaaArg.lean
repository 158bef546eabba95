/- Arguments that came in, read as the statements' own words: bytes, regions. Conditions: as each theorem names them. -/
import Derived.Test.YtfiogaollejdbaaGm5
import Derived.OpenShut
import Derived.Deep.SlicePairs
import Derived.Lib.SmallJoins
namespace Go.Proofs.Ytfiogaollejdbaa
open Go.ChangeShapes Go.WideShapes Go.ChangeAt Go.RowKit
set_option linter.unusedVariables false
set_option maxRecDepth 100000

section
variable {H : Type} {enc : TypeId × Value → H} {W : World} {r : Reach} {b0 : Nat} {v : Value} {d : DataW H} {p : List MemPlace}

theorem add_some {w : World} {a : Addr} {k : Nat} {v : Value} (h : w.cell? (a.add k) = some v) (hk : k = 0 ∨ a.spot = none) : a.spot = none := by
  rcases hk with rfl | h'
  · simpa [Addr.add] using World.cell?_spot h
  · exact h'

/-- bytes, as cells -/
theorem open_bytes_cells {fuel : Nat} {cs : List Value} {x : DataW H × List MemPlace} (h : DataW.trod enc Try.prog W 0 (fun _ => true) true fuel 46 cs = some x) :
    ∃ v l, cs = [v] ∧ BytesAt W v l ∧ isBytes l ∧ l.length ≤ maxLen := by
  have hc : Try.prog.cellsOf 5 = 1 := by kernel_rfl
  rcases open_ints Try.underlying46 Try.underlying5 hc h with ⟨hcs, _⟩ | ⟨a, len, cap, zs, hcs, _, hle, hmax, hall, _, hcell, hwf⟩
  · exact ⟨_, [], hcs, Or.inl ⟨⟨none, 0, rfl, fun _ => rfl⟩, rfl⟩, isBytes_nil, by simp⟩
  · simp only [if_true] at hall
    have hb : isBytes (zs.take len) := fun x hx => by
      have := bounds_u8 (hwf x (List.mem_of_mem_take hx))
      omega
    have hl : (zs.take len).length = len := by simp; omega
    by_cases h0 : len = 0
    · subst h0
      exact ⟨_, [], hcs, Or.inl ⟨⟨_, _, rfl, fun h => by cases h⟩, rfl⟩, isBytes_nil, by simp⟩
    · obtain ⟨b, off, rfl, hc2⟩ := ints_at hcell (by omega)
      refine ⟨_, zs.take len, hcs, Or.inr ⟨b, off, cap, by rw [hl], World.block_lt_of_cell? W _ (hc2 0 (by omega)), by omega, fun j hj => ?_⟩, hb, by omega⟩
      rw [hc2 j (by omega)]
      congr 2
      simp only [List.getD_eq_getElem?_getD, List.getElem?_take]
      rw [if_pos (by omega)]
theorem open_bytes (hval : Value.okWide Try.prog W r b0 46 v) (h : DataW.Trod enc Try.prog W 0 (fun _ => true) true 46 v d p) :
    ∃ l, BytesAt W v l ∧ isBytes l ∧ l.length ≤ maxLen := by
  obtain ⟨a, len, cap, rfl⟩ := okWide_slice Try.underlying46 hval
  obtain ⟨fuel, hf⟩ := h
  obtain ⟨v', l, h1, h2, h3, h4⟩ := open_bytes_cells hf
  simp [Value.cells] at h1
  subst h1
  exact ⟨l, h2, h3, h4⟩

end
end Go.Proofs.Ytfiogaollejdbaa
