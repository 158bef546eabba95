/- What FeatBits holds between two bits: the row, the map. Conditions: as each theorem names them. -/
import Derived.Test.YtahhbfcafkiilaaFb
namespace Go.Proofs.Ytahhbfcafkiilaa
open Go.ChangeShapes Go.WideShapes Go.ChangeAt Go.RowKit Go.Maps
set_option linter.unusedVariables false
set_option maxRecDepth 100000

/-- the bits of the first k numbers -/
def pK (L : List Int) (k : Nat) : List Nat := (L.take k).map fun x => (x % 64).toNat
theorem pK_succ {L : List Int} {k : Nat} (h : k < L.length) : pK L (k + 1) = pK L k ++ [(L.getD k 0 % 64).toNat] := by
  unfold pK
  rw [List.take_succ_eq_append_getElem h, List.map_append]
  simp [List.getD, h]
theorem pK_len (L : List Int) (k : Nat) : (pK L k).length ≤ L.length := by
  unfold pK
  simp
  omega
theorem pK_lt (L : List Int) (k : Nat) : ∀ x ∈ pK L k, x < 64 := fun x hx => by
  unfold pK at hx
  obtain ⟨y, _, rfl⟩ := List.mem_map.1 hx
  omega
structure FbI (w0 W : World) (mb : Nat) (P : List Nat) (pv : Value) : Prop where
  bel : Below w0.heap.size w0 W
  map : ∃ n f, MapSetI W mb n f ∧ n ≤ P.length ∧ ∀ x : Nat, x < 64 → (f (x : Int) = true ↔ x ∈ P)
  row : OwnI (mb + 1) W pv P
  lo : w0.heap.size ≤ mb ∧ mb + 1 ≤ W.heap.size
theorem FbI.start {w0 w : World} (h : Below w0.heap.size w0 w) : FbI w0 (w.alloc (.map #[] 0)) w.heap.size [] (.slice none 0 0) :=
  ⟨h.alloc h.size _, ⟨0, _, MapSetI.made w, Nat.le_refl _, fun x _ => by simp⟩, World.ownsRow_nil _ _ _ _, h.size, by rw [sizeA]; exact Nat.le_refl _⟩
/-- a bit is put behind the others, and into the map -/
theorem FbI.push {w0 W : World} {mb x : Nat} {P : List Nat} {pv : Value} (h : FbI w0 W mb P pv) (hP : P.length ≤ 1000) (hx : x < 64) :
    ∃ v1 w1 w2, (∀ ty, (Builtin.append_ #[38, 38] ty #[pv, .slice (some ⟨W.heap.size, 0, none⟩) 1 1]).run Try.prog (W.alloc (.cells #[.int .i64 x] 3)) = .ok v1 w1) ∧ (Instr.mapUpdate 39 (.map (some mb)) (.int .i64 x) (.bool true)).run Try.prog w1 = .ok () w2 ∧ FbI w0 w2 mb (P ++ [x]) v1 := by
  obtain ⟨l1, l2⟩ := h.lo
  obtain ⟨n, f, hm, hn, hf⟩ := h.map
  obtain ⟨v1, w1, h1, h2, h3⟩ := app_int x h.row l2 (by omega)
  have hm1 := hm.keep (h3.block mb (by omega))
  obtain ⟨w2, h4, h5, h6⟩ := hm1.update (by omega) (x : Int) ⟨by omega, by omega⟩
  refine ⟨v1, w1, w2, h1, h4, ⟨?_, ⟨n + 1, _, h5, by simp; omega, fun y hy => ?_⟩, ?_, l1, ?_⟩⟩
  · exact (h.bel.trans (h3.mono (by omega))).trans (h6.below (by have := h3.size; have := h.bel.size; omega) (fun k hk => by omega))
  · by_cases e : (y : Int) = (x : Int)
    · have e2 : y = x := by omega
      subst e2
      simp
    · have e2 : y ≠ x := fun h => e (by rw [h])
      simp only [if_neg e, List.mem_append, List.mem_singleton, e2, or_false]
      exact hf y hy
  · refine ⟨h2.1, ?_⟩
    rcases h2.2 with hn | ⟨gg, cap, cur, rfl, hg, hh, rest⟩
    · exact .inl hn
    · exact .inr ⟨gg, cap, cur, rfl, hg, h6.keep hh (fun e => by omega), rest⟩
  · have := h3.size
    have := h6.size
    omega
/-- the set's bits -/
theorem orF_bit : ∀ (L : List Nat) (i : Nat), (orF L).testBit i = true ↔ i ∈ L := by
  have key : ∀ (L : List Nat) (s i : Nat), (L.foldl (fun s b => s ||| 2 ^ b) s).testBit i = true ↔ s.testBit i = true ∨ i ∈ L := by
    intro L
    induction L with
    | nil => intro s i; simp
    | cons a L ih =>
      intro s i
      rw [List.foldl_cons, ih, Nat.testBit_or, one_bit, Bool.or_eq_true, decide_eq_true_eq, List.mem_cons]
      constructor
      · rintro ((h | h) | h)
        · exact Or.inl h
        · exact Or.inr (Or.inl h.symm)
        · exact Or.inr (Or.inr h)
      · rintro (h | h | h)
        · exact Or.inl (Or.inl h)
        · exact Or.inl (Or.inr h.symm)
        · exact Or.inr h
  intro L i
  unfold orF
  rw [key]
  simp
end Go.Proofs.Ytahhbfcafkiilaa
