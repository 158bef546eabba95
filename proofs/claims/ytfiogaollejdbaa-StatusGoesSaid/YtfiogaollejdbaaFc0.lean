/- feat's rules as plain functions of sets: a rule applied (added, dropped), all of them once, twice. No program in sight. -/
import Derived.Test.YtfiogaollejdbaaFr4
namespace Go.Proofs.Ytfiogaollejdbaa
open Go
set_option linter.unusedVariables false
set_option maxRecDepth 100000

/-- the rule is broken in s -/
def brF (r : Nat × Nat) (s : Nat) : Bool := s.testBit r.1 && !s.testBit r.2
def addF (r : Nat × Nat) (s : Nat) : Nat := if brF r s = true then s ||| 2 ^ r.2 else s
def dropF (r : Nat × Nat) (s : Nat) : Nat := if brF r s = true then minF s (2 ^ r.1) else s
def ruleL : List (Nat × Nat) := [(18, 17), (19, 17), (22, 17), (23, 17), (23, 5)]
/-- the rules of a kind -/
def ruleK (k : Int) : List (Nat × Nat) := if k = 1 then ruleL else []
/-- the first q rules, applied -/
def runF (f : Nat × Nat → Nat → Nat) (R : List (Nat × Nat)) (s : Nat) : Nat := R.foldl (fun x r => f r x) s
theorem runF_succ (f : Nat × Nat → Nat → Nat) (R : List (Nat × Nat)) (s q : Nat) (h : q < R.length) : runF f (R.take (q + 1)) s = f (R.getD q (0, 0)) (runF f (R.take q) s) := by
  unfold runF
  rw [List.take_succ_eq_append_getElem h, List.foldl_append]
  simp [List.getD, h]
theorem addF_bit (r : Nat × Nat) (s j : Nat) : (addF r s).testBit j = (s.testBit j || (s.testBit r.1 && decide (r.2 = j))) := by
  unfold addF brF
  cases h1 : s.testBit r.1
  · simp
  · cases h2 : s.testBit r.2
    · simp [Nat.testBit_or, one_bit]
    · by_cases e : r.2 = j
      · subst e
        simp [h2]
      · simp [e]
theorem dropF_bit (r : Nat × Nat) (s j : Nat) (hs : s < N64) (hr : r.1 < 64) : (dropF r s).testBit j = (s.testBit j && !(decide (r.1 = j) && !s.testBit r.2)) := by
  unfold dropF brF
  cases h1 : s.testBit r.1
  · by_cases e : r.1 = j
    · subst e
      simp [h1]
    · simp [e]
  · cases h2 : s.testBit r.2
    · simp [minF_bit (one_lt hr) hs, one_bit]
    · simp
theorem addF_lt {r : Nat × Nat} {s : Nat} (hs : s < N64) (hr : r.2 < 64) : addF r s < N64 := by
  unfold addF
  split
  · exact or_lt hs (one_lt hr)
  · exact hs
theorem dropF_lt {r : Nat × Nat} {s : Nat} (hs : s < N64) : dropF r s < N64 := by
  unfold dropF
  split
  · exact minF_lt hs
  · exact hs
theorem ruleL_lt {r : Nat × Nat} (h : r ∈ ruleL) : r.1 < 64 ∧ r.2 < 64 := by
  revert h r
  decide
theorem runA_lt {R : List (Nat × Nat)} {s : Nat} (hs : s < N64) (hR : ∀ r ∈ R, r ∈ ruleL) : runF addF R s < N64 := by
  induction R generalizing s with
  | nil => exact hs
  | cons r R ih => exact ih (addF_lt hs (ruleL_lt (hR r (by simp))).2) fun x hx => hR x (by simp [hx])
theorem runD_lt {R : List (Nat × Nat)} {s : Nat} (hs : s < N64) : runF dropF R s < N64 := by
  induction R generalizing s with
  | nil => exact hs
  | cons r R ih => exact ih (dropF_lt hs)
/-- all rules, added -/
theorem runA_bit (s j : Nat) : (runF addF ruleL s).testBit j = (s.testBit j || ((s.testBit 18 || s.testBit 19 || s.testBit 22 || s.testBit 23) && decide (17 = j)) || (s.testBit 23 && decide (5 = j))) := by
  unfold runF ruleL
  simp only [List.foldl, addF_bit]
  simp only [show ((17 : Nat) = 19) = False by simp, show ((17 : Nat) = 22) = False by simp, show ((17 : Nat) = 23) = False by simp, decide_false, Bool.and_false, Bool.or_false]
  cases s.testBit j <;> cases s.testBit 18 <;> cases s.testBit 19 <;> cases s.testBit 22 <;> cases s.testBit 23 <;> cases decide (17 = j) <;> cases decide (5 = j) <;> rfl
/-- all rules, dropped -/
theorem runD_bit (s j : Nat) (hs : s < N64) : (runF dropF ruleL s).testBit j = (s.testBit j && !((decide (18 = j) || decide (19 = j) || decide (22 = j) || decide (23 = j)) && !s.testBit 17) && !(decide (23 = j) && !s.testBit 5)) := by
  have h1 := dropF_lt (r := (18, 17)) hs
  have h2 := dropF_lt (r := (19, 17)) h1
  have h3 := dropF_lt (r := (22, 17)) h2
  have h4 := dropF_lt (r := (23, 17)) h3
  unfold runF ruleL
  simp only [List.foldl]
  rw [dropF_bit _ _ _ h4 (by decide), dropF_bit _ _ j h3 (by decide), dropF_bit _ _ j h2 (by decide), dropF_bit _ _ j h1 (by decide), dropF_bit _ _ j hs (by decide)]
  rw [dropF_bit _ _ 5 h3 (by decide), dropF_bit _ _ 5 h2 (by decide), dropF_bit _ _ 5 h1 (by decide), dropF_bit _ _ 5 hs (by decide)]
  rw [dropF_bit _ _ 17 h2 (by decide), dropF_bit _ _ 17 h1 (by decide), dropF_bit _ _ 17 hs (by decide)]
  simp
  cases s.testBit j <;> cases s.testBit 17 <;> cases s.testBit 5 <;> cases decide (18 = j) <;> cases decide (19 = j) <;> cases decide (22 = j) <;> cases decide (23 = j) <;> rfl
theorem runA_two (k : Int) (s : Nat) : runF addF (ruleK k) (runF addF (ruleK k) s) = runF addF (ruleK k) s := by
  unfold ruleK
  split
  · refine bit_ext fun j => ?_
    simp only [runA_bit]
    simp
    cases s.testBit j <;> cases s.testBit 18 <;> cases s.testBit 19 <;> cases s.testBit 22 <;> cases s.testBit 23 <;> cases decide (17 = j) <;> cases decide (5 = j) <;> rfl
  · rfl
theorem runD_two (k : Int) (s : Nat) (hs : s < N64) : runF dropF (ruleK k) (runF dropF (ruleK k) s) = runF dropF (ruleK k) s := by
  unfold ruleK
  split
  · refine bit_ext fun j => ?_
    rw [runD_bit _ _ (runD_lt hs), runD_bit _ _ hs, runD_bit _ 17 hs, runD_bit _ 5 hs]
    simp
    cases s.testBit j <;> cases s.testBit 17 <;> cases s.testBit 5 <;> cases decide (18 = j) <;> cases decide (19 = j) <;> cases decide (22 = j) <;> cases decide (23 = j) <;> rfl
  · rfl
/-- a set with V1, rules added: what its bits need is there -/
theorem runA_clo (k : Int) (s : Nat) : runF addF (ruleK k) (s ||| 2 ^ 32) = cloF k s := by
  unfold ruleK cloF
  by_cases hk : k = 1
  · rw [if_pos hk, if_pos hk]
    refine bit_ext fun j => ?_
    rw [runA_bit]
    simp only [Nat.testBit_or, one_bit, if_bit]
    simp
    cases s.testBit j <;> cases s.testBit 18 <;> cases s.testBit 19 <;> cases s.testBit 22 <;> cases s.testBit 23 <;> cases decide (17 = j) <;> cases decide (5 = j) <;> cases decide (32 = j) <;> rfl
  · rw [if_neg hk, if_neg hk, Nat.or_zero]
    rfl
/-- what is offered, wished and known, rules dropped: the best set -/
theorem runD_best (k : Int) (o w : Nat) (ho : o < N64) : runF dropF (ruleK k) (candF k o w) = bestF k o w := by
  have hc := candF_lt (k := k) (w := w) ho
  unfold ruleK bestF
  generalize candF k o w = c at *
  by_cases hk : k = 1
  · rw [if_pos hk]
    refine bit_ext fun j => ?_
    have l1 : (if k = 1 ∧ c.testBit 17 = false then 2 ^ 18 + 2 ^ 19 + 2 ^ 22 + 2 ^ 23 else 0) < N64 := by split <;> decide
    have l2 : (if k = 1 ∧ c.testBit 5 = false then 2 ^ 23 else 0) < N64 := by split <;> decide
    rw [runD_bit _ _ hc, minF_bit l2 (minF_lt hc), minF_bit l1 hc]
    have e1 : (if k = 1 ∧ c.testBit 17 = false then 2 ^ 18 + 2 ^ 19 + 2 ^ 22 + 2 ^ 23 else 0).testBit j = (!c.testBit 17 && decide (j = 18 ∨ j = 19 ∨ j = 22 ∨ j = 23)) := by
      cases h : c.testBit 17
      · rw [if_pos ⟨hk, rfl⟩, four_bit]
        simp
      · simp
    have e2 : (if k = 1 ∧ c.testBit 5 = false then 2 ^ 23 else 0).testBit j = (!c.testBit 5 && decide (23 = j)) := by
      cases h : c.testBit 5
      · rw [if_pos ⟨hk, rfl⟩, one_bit]
        simp
      · simp
    rw [e1, e2]
    simp only [Bool.decide_or, eq_comm (a := j)]
    cases c.testBit j <;> cases c.testBit 17 <;> cases c.testBit 5 <;> cases decide (18 = j) <;> cases decide (19 = j) <;> cases decide (22 = j) <;> cases decide (23 = j) <;> rfl
  · rw [if_neg hk, if_neg (by simp [hk]), if_neg (by simp [hk])]
    unfold minF runF
    simp only [List.foldl, Nat.sub_zero]
    refine bit_ext fun j => ?_
    have e : (18446744073709551615 : Nat) = 2 ^ 64 - 1 := by decide
    rw [e, Nat.testBit_and, Nat.testBit_and, Nat.testBit_two_pow_sub_one]
    by_cases h : j < 64
    · simp [h]
    · have : c.testBit j = false := Nat.testBit_lt_two_pow (Nat.lt_of_lt_of_le hc (by
        have : (2 : Nat) ^ 64 ≤ 2 ^ j := Nat.pow_le_pow_right (by omega) (by omega)
        have e2 : (2 : Nat) ^ 64 = 18446744073709551616 := by decide
        omega))
      simp [this]
end Go.Proofs.Ytfiogaollejdbaa
