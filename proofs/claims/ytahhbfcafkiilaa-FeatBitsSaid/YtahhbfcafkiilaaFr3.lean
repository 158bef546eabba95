/- Feature bits of the reference, layer 6: Needs, Closed, Accept. Conditions: as each theorem names them. -/
import Derived.Test.YtahhbfcafkiilaaFr2
namespace Go.Proofs.Ytahhbfcafkiilaa
open Go.ChangeShapes Go.WideShapes Go.ChangeAt Go.RowKit
set_option linter.unusedVariables false
set_option maxRecDepth 100000

/-- what Needs has gathered ahead of bit b -/
def accN (k : Int) (S : Nat) : Nat → Nat
  | 0 => 2 ^ 32
  | b + 1 => if S.testBit b = true then accN k S b ||| nF k b else accN k S b
theorem accN_lt (k : Int) (S b : Nat) : accN k S b < N64 := by
  induction b with
  | zero => exact (by decide : (2 : Nat) ^ 32 < N64)
  | succ b ih =>
    unfold accN
    split
    · exact or_lt ih (nF_lt _ _)
    · exact ih
theorem accN_bit (k : Int) (S b j : Nat) : (accN k S b).testBit j = true ↔ j = 32 ∨ ∃ i, i < b ∧ ndsF k i j = true ∧ S.testBit i = true := by
  induction b with
  | zero =>
    unfold accN
    rw [one_bit, decide_eq_true_eq]
    constructor
    · exact fun h => Or.inl h.symm
    · rintro (h | ⟨i, h, _⟩)
      · exact h.symm
      · omega
  | succ b ih =>
    unfold accN
    split
    · rename_i hs
      rw [Nat.testBit_or, Bool.or_eq_true, ih, nF_bit]
      constructor
      · rintro ((h | ⟨i, h1, h2⟩) | h)
        · exact Or.inl h
        · exact Or.inr ⟨i, by omega, h2⟩
        · exact Or.inr ⟨b, by omega, h, hs⟩
      · rintro (h | ⟨i, h1, h2, h3⟩)
        · exact Or.inl (Or.inl h)
        · by_cases e : i = b
          · subst e
            exact Or.inr h2
          · exact Or.inl (Or.inr ⟨i, by omega, h2, h3⟩)
    · rename_i hs
      rw [ih]
      constructor
      · rintro (h | ⟨i, h1, h2⟩)
        · exact Or.inl h
        · exact Or.inr ⟨i, by omega, h2⟩
      · rintro (h | ⟨i, h1, h2, h3⟩)
        · exact Or.inl h
        · by_cases e : i = b
          · subst e
            exact absurd h3 hs
          · exact Or.inr ⟨i, by omega, h2, h3⟩
theorem accN_all {k : Int} {S : Nat} (hS : S < N64) : minF (accN k S 64) S = minF (cloF k S) S := by
  refine bit_ext fun j => ?_
  rw [minF_bit hS (accN_lt _ _ _), minF_bit hS (cloF_lt hS)]
  cases hj : S.testBit j
  · have e : (accN k S 64).testBit j = (cloF k S).testBit j := by
      rw [Bool.eq_iff_iff, accN_bit, cloF_bit]
      constructor
      · rintro (h | ⟨i, _, h1, h2⟩)
        · exact Or.inr (Or.inl h)
        · exact Or.inr (Or.inr ⟨i, h1, h2⟩)
      · rintro (h | h | ⟨i, h1, h2⟩)
        · rw [hj] at h
          cases h
        · exact Or.inl h
        · exact Or.inr ⟨i, (ndsF_lt h1).1, h1, h2⟩
    rw [e]
  · simp
theorem accN_yes {k : Int} {S b : Nat} (h : S.testBit b = true) : accN k S b ||| nF k b = accN k S (b + 1) := by
  show _ = if S.testBit b = true then _ else _
  rw [if_pos h]
theorem accN_no {k : Int} {S b : Nat} (h : S.testBit b = false) : accN k S b = accN k S (b + 1) := by
  show _ = if S.testBit b = true then _ else _
  rw [if_neg (by rw [h]; decide)]

end Go.Proofs.Ytahhbfcafkiilaa
