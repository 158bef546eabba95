/- Feature bits of the reference, layer 6: Best. Conditions: as each theorem names them. -/
import Derived.Test.YtahhbfcafkiilaaFr3
namespace Go.Proofs.Ytahhbfcafkiilaa
open Go.ChangeShapes Go.WideShapes Go.ChangeAt Go.RowKit
set_option linter.unusedVariables false
set_option maxRecDepth 100000

/-- what Best holds when all bits below m have been looked at -/
structure BestP (k : Int) (c m s : Nat) : Prop where
  lt : s < N64
  bit : ∀ i, s.testBit i = true ↔ c.testBit i = true ∧ (i < m → ∀ j, ndsF k i j = true → c.testBit j = true)
theorem BestP.start {k : Int} {c : Nat} (h : c < N64) : BestP k c 0 c := ⟨h, fun i => ⟨fun h => ⟨h, fun h => absurd h (Nat.not_lt_zero _)⟩, fun h => h.1⟩⟩
theorem BestP.need {k : Int} {c m s i j : Nat} (h : BestP k c m s) (hn : ndsF k i j = true) : s.testBit j = c.testBit j := by
  rw [Bool.eq_iff_iff, h.bit]
  exact ⟨fun h => h.1, fun h => ⟨h, fun _ q hq => by rw [ndsF_no hn] at hq; cases hq⟩⟩
theorem BestP.sub {k : Int} {c m s b : Nat} (h : BestP k c m s) : minF (nF k b) s = 0 ↔ ∀ j, ndsF k b j = true → c.testBit j = true := by
  rw [minF_zero h.lt (nF_lt _ _)]
  constructor
  · intro h1 j hj
    rw [← h.need hj]
    exact h1 j (by rw [nF_bit]; exact hj)
  · intro h1 j hj
    rw [nF_bit] at hj
    rw [h.need hj]
    exact h1 j hj
theorem BestP.skip {k : Int} {c m s b : Nat} (h : BestP k c m s) (hb : b ≤ m) (hs : s.testBit b = false ∨ minF (nF k b) s = 0) : BestP k c (max m (b + 1)) s := by
  refine ⟨h.lt, fun i => ?_⟩
  rw [h.bit]
  constructor
  · rintro ⟨h1, h2⟩
    refine ⟨h1, fun hi => ?_⟩
    by_cases e : i < m
    · exact h2 e
    · have e2 : i = b := by omega
      subst e2
      rcases hs with hs | hs
      · have := (h.bit i).2 ⟨h1, h2⟩
        rw [hs] at this
        cases this
      · exact h.sub.1 hs
  · rintro ⟨h1, h2⟩
    exact ⟨h1, fun hi => h2 (by omega)⟩
theorem BestP.drop {k : Int} {c m s b : Nat} (h : BestP k c m s) (hb : b ≤ m) (hb64 : b < 64) (hs : minF (nF k b) s ≠ 0) : BestP k c (max m (b + 1)) (minF s (2 ^ b)) := by
  refine ⟨minF_lt h.lt, fun i => ?_⟩
  rw [minF_bit (one_lt hb64) h.lt, Bool.and_eq_true, one_bit, h.bit]
  have hno : ¬ ∀ j, ndsF k b j = true → c.testBit j = true := fun h1 => hs (h.sub.2 h1)
  by_cases e : b = i
  · subst e
    rw [decide_eq_true rfl]
    constructor
    · rintro ⟨_, h2⟩
      cases h2
    · rintro ⟨_, h2⟩
      exact absurd (h2 (by omega)) hno
  · rw [decide_eq_false e]
    constructor
    · rintro ⟨⟨h1, h2⟩, _⟩
      exact ⟨h1, fun hi => h2 (by omega)⟩
    · rintro ⟨h1, h2⟩
      exact ⟨⟨h1, fun hi => h2 (by omega)⟩, rfl⟩
theorem BestP.done {k : Int} {o w s : Nat} (ho : o < N64) (h : BestP k (candF k o w) 64 s) : s = bestF k o w := by
  refine bit_ext fun i => ?_
  rw [Bool.eq_iff_iff, h.bit, bestF_bit ho]
  constructor
  · rintro ⟨h1, h2⟩
    exact ⟨h1, fun j hj => h2 (ndsF_lt hj).1 j hj⟩
  · rintro ⟨h1, h2⟩
    exact ⟨h1, fun _ => h2⟩

/-- Best's answers -/
def bestB (k : Int) (o : Nat) : Bool := decide (allF k ≠ 0) && o.testBit 32
def bestR (k : Int) (o w : Nat) : Nat := if bestB k o = true then bestF k o w else 0
def bestE (k : Int) (o : Nat) : Int := if bestB k o = true then 0 else 2

end Go.Proofs.Ytahhbfcafkiilaa
