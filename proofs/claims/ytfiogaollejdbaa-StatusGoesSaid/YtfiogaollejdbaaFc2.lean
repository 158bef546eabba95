/- feat's rules: rules, broken, add, drop. Conditions: as each theorem names them. -/
import Derived.Test.YtfiogaollejdbaaFc0
import Derived.Test.YtfiogaollejdbaaFc1
namespace Go.Proofs.Ytfiogaollejdbaa
open Go.ChangeShapes Go.WideShapes Go.ChangeAt Go.RowKit
set_option linter.unusedVariables false
set_option maxRecDepth 100000

/-- the rules lie in block b -/
structure RulesAt (w : World) (b : Nat) : Prop where
  lt : b < w.heap.size
  c0 : w.cell? ⟨b, 0, none⟩ = some (.int .i64 18)
  c1 : w.cell? ⟨b, 1, none⟩ = some (.int .i64 17)
  c2 : w.cell? ⟨b, 2, none⟩ = some (.int .i64 19)
  c3 : w.cell? ⟨b, 3, none⟩ = some (.int .i64 17)
  c4 : w.cell? ⟨b, 4, none⟩ = some (.int .i64 22)
  c5 : w.cell? ⟨b, 5, none⟩ = some (.int .i64 17)
  c6 : w.cell? ⟨b, 6, none⟩ = some (.int .i64 23)
  c7 : w.cell? ⟨b, 7, none⟩ = some (.int .i64 17)
  c8 : w.cell? ⟨b, 8, none⟩ = some (.int .i64 23)
  c9 : w.cell? ⟨b, 9, none⟩ = some (.int .i64 5)
theorem RulesAt.below {w w' : World} {b : Nat} (h : RulesAt w b) (hb : Below w.heap.size w w') : RulesAt w' b := by
  have hc := fun o => hb.cell (p := ⟨b, o, none⟩) h.lt
  exact ⟨Nat.lt_of_lt_of_le h.lt hb.size, (hc 0).trans h.c0, (hc 1).trans h.c1, (hc 2).trans h.c2, (hc 3).trans h.c3, (hc 4).trans h.c4, (hc 5).trans h.c5, (hc 6).trans h.c6, (hc 7).trans h.c7, (hc 8).trans h.c8, (hc 9).trans h.c9⟩

set_option maxHeartbeats 1000000 in
theorem frules_net (w : World) :
    Calls Try.prog 44 #[.int .i64 1] w fun e w' => e = .returned (.slice (some ⟨w.heap.size, 0, none⟩) 5 5) ∧ Below w.heap.size w w' ∧ RulesAt w' w.heap.size := by
  go_enter Try.func44, Try.ntmps44
  go_wp2
  go_ret
  refine ⟨rfl, (Below.refl _ w).alloc (Nat.le_refl _) _, ?_, ?_, ?_, ?_, ?_, ?_, ?_, ?_, ?_, ?_, ?_⟩ <;> go_simp

set_option maxHeartbeats 1000000 in
theorem frules_not (k : Int) (hk : ¬ k = 1) (w : World) :
    Calls Try.prog 44 #[.int .i64 k] w fun e w' => e = .returned (.slice none 0 0) ∧ w' = w := by
  go_enter Try.func44, Try.ntmps44
  go_wp2
  go_ret
  exact ⟨rfl, rfl⟩

/-- a rule as a value -/
def rV2 (a b : Nat) : Value := .agg #[.int .i64 a, .int .i64 b]
set_option maxHeartbeats 1000000 in
theorem fbroken (a b s : Nat) (ha : a < 64) (hb : b < 64) (hs : s < N64) (w : World) :
    Calls Try.prog 45 #[.agg #[.int .i64 a, .int .i64 b], .int .u64 s] w fun e w' => e = .returned (.bool (brF (a, b) s)) ∧ Below w.heap.size w w' := by
  have H1 := hid_mk (fun w => fhas_w s hs a w)
  have H2 := hid_mk (fun w => fhas_w s hs b w)
  rw [hasF_nat ha] at H1
  rw [hasF_nat hb] at H2
  unfold brF
  cases h : s.testBit a
  · rw [h] at H1
    rw [Bool.false_and]
    clear h
    go_enter Try.func45, Try.ntmps45
    go_wp2_with fail
    refine (H1.out _).mono ?_
    rintro e w1 ⟨rfl, rfl⟩
    go_wp2_with fail
    go_ret
    exact ⟨rfl, (Below.refl _ w).alloc (Nat.le_refl _) _⟩
  · rw [h] at H1
    rw [Bool.true_and]
    clear h
    generalize s.testBit b = z at *
    go_enter Try.func45, Try.ntmps45
    go_wp2_with fail
    refine (H1.out _).mono ?_
    rintro e w1 ⟨rfl, rfl⟩
    go_wp2_with fail
    refine (H2.out _).mono ?_
    rintro e w1 ⟨rfl, rfl⟩
    go_wp2_with fail
    go_ret
    exact ⟨rfl, (Below.refl _ w).alloc (Nat.le_refl _) _⟩

set_option maxHeartbeats 1000000 in
theorem fadd (a b s : Nat) (ha : a < 64) (hb : b < 64) (hs : s < N64) (w : World) :
    Calls Try.prog 52 #[.agg #[.int .i64 a, .int .i64 b], .int .u64 s] w fun e w' => e = .returned (.int .u64 (s ||| 2 ^ b : Nat)) ∧ Below w.heap.size w w' := by
  have HS := hid_mk (shl_one64 hb)
  have HO := hid_mk (u64_or_nat s (2 ^ b) hs (one_lt hb))
  have hw : IntKind.u64.wrap (b : Int) = b := by rw [IntKind.wrap_u64]; omega
  go_enter Try.func52, Try.ntmps52
  go_wp2_with fail
  go_ret
  exact ⟨ret_eq (by rw [← HO.out, ← HS.out]; rfl), (Below.refl _ w).alloc (Nat.le_refl _) _⟩
set_option maxHeartbeats 1000000 in
theorem fdrop (a b s : Nat) (ha : a < 64) (hb : b < 64) (hs : s < N64) (w : World) :
    Calls Try.prog 35 #[.agg #[.int .i64 a, .int .i64 b], .int .u64 s] w fun e w' => e = .returned (.int .u64 (minF s (2 ^ a) : Nat)) ∧ Below w.heap.size w w' := by
  have HS := hid_mk (shl_one64 ha)
  have HO := hid_mk (min_int hs (one_lt ha))
  have hw : IntKind.u64.wrap (a : Int) = a := by rw [IntKind.wrap_u64]; omega
  go_enter Try.func35, Try.ntmps35
  go_wp2_with fail
  go_ret
  exact ⟨ret_eq (by rw [← HO.out, ← HS.out]; rfl), (Below.refl _ w).alloc (Nat.le_refl _) _⟩
end Go.Proofs.Ytfiogaollejdbaa
