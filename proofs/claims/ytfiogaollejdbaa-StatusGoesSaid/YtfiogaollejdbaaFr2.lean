/- Feature bits of the reference, layer 6: All, Known, needs. Conditions: as each theorem names them. -/
import Derived.Test.YtfiogaollejdbaaFr1
namespace Go.Proofs.Ytfiogaollejdbaa
open Go.ChangeShapes Go.WideShapes Go.ChangeAt Go.RowKit
set_option linter.unusedVariables false
set_option maxRecDepth 100000

theorem or_int {a b c : Nat} (ha : a < N64) (hb : b < N64) (h : a ||| b = c) : bits .or .u64 (a : Int) (b : Int) = (c : Int) := by
  rw [u64_or_nat a b ha hb, h]
theorem or_intc {a b c : Nat} {x y : Int} (hx : x = (a : Int)) (hy : y = (b : Int)) (ha : a < N64) (hb : b < N64) (h : a ||| b = c) : bits .or .u64 x y = (c : Int) := by
  rw [hx, hy, u64_or_nat a b ha hb, h]
theorem and_int {a b : Nat} (ha : a < N64) (hb : b < N64) : bits .and .u64 (a : Int) (b : Int) = ((a &&& b : Nat) : Int) := u64_and_nat a b ha hb
theorem min_int {a b : Nat} (ha : a < N64) (hb : b < N64) : bits .andNot .u64 (a : Int) (b : Int) = (minF a b : Int) := u64_andNot_nat a b ha hb
theorem zero_int (a : Nat) : ((a : Int) == 0) = decide (a = 0) := by
  by_cases h : a = 0
  · simp [h]
  · simp [h]
/-- bits of a literal -/
theorem rbits_lit (L : List Nat) (n : Nat) (hL : (L.all fun x => decide (x < 64)) = true) (hl : L.length < 1000000) (hn : orF L = n) (t : TypeId) (w : World) :
    Calls Try.prog 26 #[.slice (some ⟨w.heap.size, 0, none⟩) L.length L.length] (w.alloc (.cells (L.map fun x : Nat => Value.int .i64 (x : Int)).toArray t)) fun e w' => e = .returned (.int .u64 n) ∧ Below w.heap.size w w' := by
  refine (rbits _ L (fun x hx => ?_) hl _ (ints_lit w L t)).mono ?_
  · rw [List.all_eq_true] at hL
    exact of_decide_eq_true (hL x hx)
  · rintro e w' ⟨rfl, m, rfl⟩
    exact ⟨by rw [hn], below_dn ((Below.refl _ w).alloc (Nat.le_refl _) _) m⟩
theorem below_two {w w1 w2 : World} (h1 : Below w.heap.size w w1) (h2 : Below w1.heap.size w1 w2) : Below w.heap.size w w2 := h1.trans (h2.mono h1.size)

set_option maxHeartbeats 2000000 in
theorem rall (k : Int) (w : World) :
    Calls Try.prog 17 #[.int .i64 k] w fun e w' => e = .returned (.int .u64 (allF k : Nat)) ∧ Below w.heap.size w w' := by
  have HC := hid_mk (rbits_lit [28, 29, 32, 34, 35, 40] comF (by decide) (by decide) (by decide) 3)
  by_cases h1 : k = 1
  · subst h1
    have HD := hid_mk (rbits_lit [0, 1, 5, 15, 16, 17, 18, 19, 22, 23] (orF [0, 1, 5, 15, 16, 17, 18, 19, 22, 23]) (by decide) (by decide) rfl 3)
    have HE := hid_mk (or_int (a := comF) (b := orF [0, 1, 5, 15, 16, 17, 18, 19, 22, 23]) (c := allF 1) (by decide) (by decide) (by decide))
    generalize allF 1 = c at *
    generalize comF = a at *
    generalize orF [0, 1, 5, 15, 16, 17, 18, 19, 22, 23] = b at *
    go_enter Try.func17, Try.ntmps17
    go_wp2_with fail
    refine (HC.out _).mono ?_
    rintro e w1 ⟨rfl, hb1⟩
    go_wp2_with fail
    refine (HD.out _).mono ?_
    rintro e w2 ⟨rfl, hb2⟩
    go_wp2_with fail
    go_ret
    exact ⟨ret_eq (by rw [← HE.out]; rfl), below_two hb1 hb2⟩
  · by_cases h2 : k = 2
    · subst h2
      have HD := hid_mk (rbits_lit [5, 9, 12, 13, 14] (orF [5, 9, 12, 13, 14]) (by decide) (by decide) rfl 3)
      have HE := hid_mk (or_int (a := comF) (b := orF [5, 9, 12, 13, 14]) (c := allF 2) (by decide) (by decide) (by decide))
      generalize allF 2 = c at *
      generalize comF = a at *
      generalize orF [5, 9, 12, 13, 14] = b at *
      go_enter Try.func17, Try.ntmps17
      go_wp2_with fail
      refine (HC.out _).mono ?_
      rintro e w1 ⟨rfl, hb1⟩
      go_wp2_with fail
      refine (HD.out _).mono ?_
      rintro e w2 ⟨rfl, hb2⟩
      go_wp2_with fail
      go_ret
      exact ⟨ret_eq (by rw [← HE.out]; rfl), below_two hb1 hb2⟩
    · by_cases h3 : k = 3
      · subst h3
        have HD := hid_mk (rbits_lit [0, 1, 2] (orF [0, 1, 2]) (by decide) (by decide) rfl 3)
        have HE := hid_mk (or_int (a := comF) (b := orF [0, 1, 2]) (c := allF 3) (by decide) (by decide) (by decide))
        generalize allF 3 = c at *
        generalize comF = a at *
        generalize orF [0, 1, 2] = b at *
        go_enter Try.func17, Try.ntmps17
        go_wp2_with fail
        refine (HC.out _).mono ?_
        rintro e w1 ⟨rfl, hb1⟩
        go_wp2_with fail
        refine (HD.out _).mono ?_
        rintro e w2 ⟨rfl, hb2⟩
        go_wp2_with fail
        go_ret
        exact ⟨ret_eq (by rw [← HE.out]; rfl), below_two hb1 hb2⟩
      · have e : allF k = 0 := by
          unfold allF
          rw [if_neg h1, if_neg h2, if_neg h3]
        rw [e]
        generalize comF = a at *
        go_enter Try.func17, Try.ntmps17
        go_wp2_with fail
        refine (HC.out _).mono ?_
        rintro e w1 ⟨rfl, hb1⟩
        go_wp2_with fail
        go_ret
        exact ⟨rfl, hb1⟩

set_option maxHeartbeats 2000000 in
theorem rknown (k : Int) (s : Nat) (hs : s < N64) (w : World) :
    Calls Try.prog 38 #[.int .i64 k, .int .u64 s] w fun e w' => e = .returned (.bool (knownF k s)) ∧ Below w.heap.size w w' := by
  have HA := hid_mk (rall k)
  have HM := hid_mk (min_int hs (allF_lt k))
  have HK : knownF k s = (decide (allF k ≠ 0) && decide (minF s (allF k) = 0)) := rfl
  generalize hx : allF k = a at *
  generalize minF s a = z at *
  by_cases h0 : a = 0
  · have e : knownF k s = false := by
      rw [HK, decide_eq_false (by simp [h0])]
      rfl
    rw [e]
    subst h0
    clear HK e hx HM
    go_enter Try.func38, Try.ntmps38
    go_wp2_with fail
    refine (HA.out _).mono ?_
    rintro e w1 ⟨rfl, hb1⟩
    go_wp2_with fail
    go_ret
    exact ⟨rfl, hb1⟩
  · have e : knownF k s = decide (z = 0) := by
      rw [HK, decide_eq_true h0]
      rfl
    rw [e]
    have HZ := hid_mk (zero_int z)
    have h0i : (a : Int) ≠ 0 := by omega
    clear HK e hx h0
    go_enter Try.func38, Try.ntmps38
    go_wp2_with fail
    refine (HA.out _).mono ?_
    rintro e w1 ⟨rfl, hb1⟩
    go_wp2_with fail
    refine (HA.out _).mono ?_
    rintro e w2 ⟨rfl, hb2⟩
    go_wp2_with fail
    go_ret
    refine ⟨ret_eq ?_, below_two hb1 hb2⟩
    have hz : ((a : Int) != 0) = true := by simpa using h0i
    rw [← HZ.out, ← HM.out]
    show Value.bool (((a : Int) != 0) && _) = _
    rw [hz, Bool.true_and]

/-- needs' answer -/
def nF (k b : Int) : Nat := if k = 1 then (if b = 18 ∨ b = 19 ∨ b = 22 then 2 ^ 17 else if b = 23 then 2 ^ 17 + 2 ^ 5 else 0) else 0
theorem nF_lt (k b : Int) : nF k b < N64 := by
  unfold nF
  split
  · split
    · decide
    · split <;> decide
  · decide
theorem nF_bit (k : Int) (b j : Nat) : (nF k b).testBit j = ndsF k b j := by
  unfold nF ndsF
  by_cases hk : k = 1
  · rw [if_pos hk, decide_eq_true hk, Bool.true_and]
    by_cases h1 : b = 18 ∨ b = 19 ∨ b = 22
    · rw [if_pos (by omega), one_bit, decide_eq_true (show b = 18 ∨ b = 19 ∨ b = 22 ∨ b = 23 by omega), decide_eq_false (show ¬ b = 23 by omega)]
      simp [eq_comm]
    · rw [if_neg (by omega)]
      by_cases h2 : b = 23
      · rw [if_pos (by omega), decide_eq_true (show b = 18 ∨ b = 19 ∨ b = 22 ∨ b = 23 by omega), decide_eq_true h2]
        rw [show (2 : Nat) ^ 17 + 2 ^ 5 = 2 ^ 17 ||| 2 ^ 5 by decide, Nat.testBit_or, one_bit, one_bit]
        simp [eq_comm]
      · rw [if_neg (by omega), Nat.zero_testBit, decide_eq_false (show ¬ (b = 18 ∨ b = 19 ∨ b = 22 ∨ b = 23) by omega), decide_eq_false h2]
        rfl
  · rw [if_neg hk, decide_eq_false hk, Nat.zero_testBit]
    rfl
set_option maxHeartbeats 2000000 in
theorem rneeds1 (k b : Int) (w : World) :
    Calls Try.prog 29 #[.int .i64 k, .int .i64 b] w fun e w' => e = .returned (.int .u64 (nF k b : Nat)) ∧ Below w.heap.size w w' := by
  have H1 := hid_mk (rbits_lit [17] (2 ^ 17) (by decide) (by decide) (by decide) 3)
  have H2 := hid_mk (rbits_lit [17, 5] (2 ^ 17 + 2 ^ 5) (by decide) (by decide) (by decide) 3)
  by_cases hk : k = 1
  · subst hk
    by_cases h1 : b = 18 ∨ b = 19 ∨ b = 22
    · have e : nF 1 b = 2 ^ 17 := by
        unfold nF
        rw [if_pos rfl, if_pos h1]
      rw [e]
      clear e H2
      generalize (2 : Nat) ^ 17 = a at *
      rcases h1 with rfl | rfl | rfl <;>
      · go_enter Try.func29, Try.ntmps29
        go_wp2_with fail
        refine (H1.out _).mono ?_
        rintro e w1 ⟨rfl, hb1⟩
        go_wp2_with fail
        go_ret
        exact ⟨rfl, hb1⟩
    · by_cases h2 : b = 23
      · have e : nF 1 b = 2 ^ 17 + 2 ^ 5 := by
          unfold nF
          rw [if_pos rfl, if_neg h1, if_pos h2]
        rw [e]
        subst h2
        clear e H1
        generalize (2 : Nat) ^ 17 + 2 ^ 5 = a at *
        go_enter Try.func29, Try.ntmps29
        go_wp2_with fail
        refine (H2.out _).mono ?_
        rintro e w1 ⟨rfl, hb1⟩
        go_wp2_with fail
        go_ret
        exact ⟨rfl, hb1⟩
      · have e : nF 1 b = 0 := by
          unfold nF
          rw [if_pos rfl, if_neg h1, if_neg h2]
        rw [e]
        have a1 : b ≠ 18 := by omega
        have a2 : b ≠ 19 := by omega
        have a3 : b ≠ 22 := by omega
        clear h1 e
        go_enter Try.func29, Try.ntmps29
        go_wp2
        go_ret
        exact ⟨rfl, Below.refl _ _⟩
  · have e : nF k b = 0 := by
      unfold nF
      rw [if_neg hk]
    rw [e]
    go_enter Try.func29, Try.ntmps29
    go_wp2
    go_ret
    exact ⟨rfl, Below.refl _ _⟩
end Go.Proofs.Ytfiogaollejdbaa
