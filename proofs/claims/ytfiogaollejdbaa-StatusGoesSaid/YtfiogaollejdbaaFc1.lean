/- feat's small functions: All, exists, within, isBit, Has, Known: they leave memory as it is. Conditions: as each theorem names them. -/
import Derived.Test.YtfiogaollejdbaaFr4
import Derived.Test.YtfiogaollejdbaaKit
namespace Go.Proofs.Ytfiogaollejdbaa
open Go.ChangeShapes Go.WideShapes Go.ChangeAt Go.RowKit
set_option linter.unusedVariables false
set_option maxRecDepth 100000

set_option maxHeartbeats 1000000 in
theorem fall_q (k : Int) (w : World) :
    Calls Try.prog 34 #[.int .i64 k] w fun e w' => e = .returned (.int .u64 (allF k : Nat)) ∧ w' = w := by
  by_cases h1 : k = 1
  · subst h1
    rw [show allF 1 = 1156165107747 by decide]
    go_enter Try.func34, Try.ntmps34
    go_wp2
    go_ret
    exact ⟨rfl, rfl⟩
  · by_cases h2 : k = 2
    · subst h2
      rw [show allF 2 = 1156151538208 by decide]
      go_enter Try.func34, Try.ntmps34
      go_wp2
      go_ret
      exact ⟨rfl, rfl⟩
    · by_cases h3 : k = 3
      · subst h3
        rw [show allF 3 = 1156151508999 by decide]
        go_enter Try.func34, Try.ntmps34
        go_wp2
        go_ret
        exact ⟨rfl, rfl⟩
      · have e : allF k = 0 := by
          unfold allF
          rw [if_neg h1, if_neg h2, if_neg h3]
        rw [e]
        go_enter Try.func34, Try.ntmps34
        go_wp2
        go_ret
        exact ⟨rfl, rfl⟩

theorem ne_int (a : Nat) : ((a : Int) != 0) = decide (a ≠ 0) := by
  by_cases h : a = 0
  · simp [h]
  · simp [h]
set_option maxHeartbeats 1000000 in
theorem fexists_q (k : Int) (w : World) :
    Calls Try.prog 31 #[.int .i64 k] w fun e w' => e = .returned (.bool (decide (allF k ≠ 0))) ∧ w' = w := by
  have HA := hid_mk (fall_q k)
  have HN := hid_mk (ne_int (allF k))
  generalize allF k = a at *
  go_enter Try.func31, Try.ntmps31
  go_wp2_with fail
  refine (HA.out _).mono ?_
  rintro e w1 ⟨rfl, rfl⟩
  go_wp2_with fail
  go_ret
  exact ⟨ret_eq (by rw [← HN.out]; rfl), rfl⟩

set_option maxHeartbeats 1000000 in
theorem fwithin_q (s a : Nat) (hs : s < N64) (ha : a < N64) (w : World) :
    Calls Try.prog 49 #[.int .u64 s, .int .u64 a] w fun e w' => e = .returned (.bool (decide (minF s a = 0))) ∧ w' = w := by
  have HM := hid_mk (min_int hs ha)
  have HZ := hid_mk (zero_int (minF s a))
  generalize minF s a = z at *
  go_enter Try.func49, Try.ntmps49
  go_wp2
  go_ret
  exact ⟨ret_eq (by rw [← HZ.out, ← HM.out]; rfl), rfl⟩

set_option maxHeartbeats 1000000 in
theorem fisbit_q (b : Int) (w : World) :
    Calls Try.prog 43 #[.int .i64 b] w fun e w' => e = .returned (.bool (decide (0 ≤ b) && decide (b < 64))) ∧ w' = w := by
  by_cases h0 : 0 ≤ b
  · have hd : decide (0 ≤ b) = true := decide_eq_true h0
    rw [hd, Bool.true_and]
    go_enter Try.func43, Try.ntmps43
    go_wp2
    go_ret
    exact ⟨rfl, rfl⟩
  · have hd : decide (0 ≤ b) = false := decide_eq_false h0
    rw [hd, Bool.false_and]
    go_enter Try.func43, Try.ntmps43
    go_wp2
    go_ret
    exact ⟨rfl, rfl⟩

/-- a bit of a number, shifted and masked -/
theorem bit_and1 (s n : Nat) (hs : s < N64) : (bits .and .u64 ((s : Int) / 2 ^ n) 1 == 1) = s.testBit n := by
  have e : ((2 ^ n : Nat) : Int) = (2 : Int) ^ n := by simp
  have hl : s / 2 ^ n < N64 := Nat.lt_of_le_of_lt (Nat.div_le_self _ _) hs
  rw [← e, ← Int.natCast_ediv, Nat.testBit_eq_decide_div_mod_eq]
  generalize s / 2 ^ n = z at *
  rw [show (1 : Int) = ((1 : Nat) : Int) from rfl, u64_and_nat z 1 hl (by decide), Nat.and_one_is_mod]
  by_cases h : z % 2 = 1
  · rw [h]
    rfl
  · have h0 : z % 2 = 0 := by omega
    rw [h0]
    rfl
set_option maxHeartbeats 1000000 in
theorem fhas_w (s : Nat) (hs : s < N64) (b : Int) (w : World) :
    Calls Try.prog 32 #[.int .u64 s, .int .i64 b] w fun e w' => e = .returned (.bool (hasF s b)) ∧ w' = w := by
  have HI := hid_mk (fisbit_q b)
  by_cases h0 : 0 ≤ b
  · by_cases h1 : b < 64
    · have e1 : (decide (0 ≤ b) && decide (b < 64)) = true := by
        rw [decide_eq_true h0, decide_eq_true h1]
        rfl
      rw [e1] at HI
      clear e1
      obtain ⟨n, rfl⟩ := Int.eq_ofNat_of_zero_le h0
      have hw : IntKind.u64.wrap (n : Int) = n := by rw [IntKind.wrap_u64]; omega
      go_enter Try.func32, Try.ntmps32
      go_wp2_with fail
      refine (HI.out _).mono ?_
      rintro e w1 ⟨rfl, rfl⟩
      go_wp2_with fail
      go_ret
      refine ⟨ret_eq ?_, rfl⟩
      rw [hasF_nat (by omega), ← bit_and1 s n hs]
      rfl
    · have e1 : (decide (0 ≤ b) && decide (b < 64)) = false := by
        rw [decide_eq_false h1]
        simp
      have e : hasF s b = false := by
        unfold hasF
        rw [e1]
        rfl
      rw [e]
      rw [e1] at HI
      clear e e1
      go_enter Try.func32, Try.ntmps32
      go_wp2_with fail
      refine (HI.out _).mono ?_
      rintro e w1 ⟨rfl, rfl⟩
      go_wp2_with fail
      go_ret
      exact ⟨rfl, rfl⟩
  · have e1 : (decide (0 ≤ b) && decide (b < 64)) = false := by
      rw [decide_eq_false h0]
      simp
    have e : hasF s b = false := by
      unfold hasF
      rw [e1]
      rfl
    rw [e]
    rw [e1] at HI
    clear e e1
    go_enter Try.func32, Try.ntmps32
    go_wp2_with fail
    refine (HI.out _).mono ?_
    rintro e w1 ⟨rfl, rfl⟩
    go_wp2_with fail
    go_ret
    exact ⟨rfl, rfl⟩

set_option maxHeartbeats 1000000 in
theorem fknown_q (k : Int) (s : Nat) (hs : s < N64) (w : World) :
    Calls Try.prog 46 #[.int .i64 k, .int .u64 s] w fun e w' => e = .returned (.bool (knownF k s)) ∧ w' = w := by
  have HE := hid_mk (fexists_q k)
  have HA := hid_mk (fall_q k)
  have HW := hid_mk (fwithin_q s (allF k) hs (allF_lt k))
  have HK : knownF k s = (decide (allF k ≠ 0) && decide (minF s (allF k) = 0)) := rfl
  rw [HK]
  clear HK
  generalize decide (minF s (allF k) = 0) = z at *
  generalize allF k = a at *
  by_cases h0 : a ≠ 0
  · rw [decide_eq_true h0] at HE ⊢
    rw [Bool.true_and]
    clear h0
    go_enter Try.func46, Try.ntmps46
    go_wp2_with fail
    refine (HE.out _).mono ?_
    rintro e w1 ⟨rfl, rfl⟩
    go_wp2_with fail
    refine (HA.out _).mono ?_
    rintro e w1 ⟨rfl, rfl⟩
    go_wp2_with fail
    refine (HW.out _).mono ?_
    rintro e w1 ⟨rfl, rfl⟩
    go_wp2_with fail
    go_ret
    exact ⟨rfl, rfl⟩
  · rw [decide_eq_false h0] at HE ⊢
    rw [Bool.false_and]
    clear h0
    go_enter Try.func46, Try.ntmps46
    go_wp2_with fail
    refine (HE.out _).mono ?_
    rintro e w1 ⟨rfl, rfl⟩
    go_wp2_with fail
    go_ret
    exact ⟨rfl, rfl⟩
end Go.Proofs.Ytfiogaollejdbaa
