/- Feature bits of the reference, layer 6: Needs, Closed, Accept. Conditions: as each theorem names them. -/
import Derived.Test.YtfiogaollejdbaaFr2
namespace Go.Proofs.Ytfiogaollejdbaa
open Go.ChangeShapes Go.WideShapes Go.ChangeAt Go.RowKit
set_option linter.unusedVariables false
set_option maxRecDepth 100000

/-- what Needs has gathered ahead of bit b -/
def accN (k : Int) (S : Nat) : Nat → Nat
  | 0 => 2 ^ 32
  | b + 1 => if S.testBit b = true then accN k S b ||| nF k b else accN k S b
theorem accN_lt (k : Int) (S b : Nat) : accN k S b < N64 := by
  induction b with
  | zero => exact (by decide : (2 : Nat) ^ 32 < N64)
  | succ b ih =>
    unfold accN
    split
    · exact or_lt ih (nF_lt _ _)
    · exact ih
theorem accN_bit (k : Int) (S b j : Nat) : (accN k S b).testBit j = true ↔ j = 32 ∨ ∃ i, i < b ∧ ndsF k i j = true ∧ S.testBit i = true := by
  induction b with
  | zero =>
    unfold accN
    rw [one_bit, decide_eq_true_eq]
    constructor
    · exact fun h => Or.inl h.symm
    · rintro (h | ⟨i, h, _⟩)
      · exact h.symm
      · omega
  | succ b ih =>
    unfold accN
    split
    · rename_i hs
      rw [Nat.testBit_or, Bool.or_eq_true, ih, nF_bit]
      constructor
      · rintro ((h | ⟨i, h1, h2⟩) | h)
        · exact Or.inl h
        · exact Or.inr ⟨i, by omega, h2⟩
        · exact Or.inr ⟨b, by omega, h, hs⟩
      · rintro (h | ⟨i, h1, h2, h3⟩)
        · exact Or.inl (Or.inl h)
        · by_cases e : i = b
          · subst e
            exact Or.inr h2
          · exact Or.inl (Or.inr ⟨i, by omega, h2, h3⟩)
    · rename_i hs
      rw [ih]
      constructor
      · rintro (h | ⟨i, h1, h2⟩)
        · exact Or.inl h
        · exact Or.inr ⟨i, by omega, h2⟩
      · rintro (h | ⟨i, h1, h2, h3⟩)
        · exact Or.inl h
        · by_cases e : i = b
          · subst e
            exact absurd h3 hs
          · exact Or.inr ⟨i, by omega, h2, h3⟩
theorem accN_all {k : Int} {S : Nat} (hS : S < N64) : minF (accN k S 64) S = minF (cloF k S) S := by
  refine bit_ext fun j => ?_
  rw [minF_bit hS (accN_lt _ _ _), minF_bit hS (cloF_lt hS)]
  cases hj : S.testBit j
  · have e : (accN k S 64).testBit j = (cloF k S).testBit j := by
      rw [Bool.eq_iff_iff, accN_bit, cloF_bit]
      constructor
      · rintro (h | ⟨i, _, h1, h2⟩)
        · exact Or.inr (Or.inl h)
        · exact Or.inr (Or.inr ⟨i, h1, h2⟩)
      · rintro (h | h | ⟨i, h1, h2⟩)
        · rw [hj] at h
          cases h
        · exact Or.inl h
        · exact Or.inr ⟨i, (ndsF_lt h1).1, h1, h2⟩
    rw [e]
  · simp
theorem accN_yes {k : Int} {S b : Nat} (h : S.testBit b = true) : accN k S b ||| nF k b = accN k S (b + 1) := by
  show _ = if S.testBit b = true then _ else _
  rw [if_pos h]
theorem accN_no {k : Int} {S b : Nat} (h : S.testBit b = false) : accN k S b = accN k S (b + 1) := by
  show _ = if S.testBit b = true then _ else _
  rw [if_neg (by rw [h]; decide)]

set_option maxHeartbeats 2000000 in
theorem rneeds (k : Int) (s : Nat) (hs : s < N64) (w : World) :
    Calls Try.prog 39 #[.int .i64 k, .int .u64 s] w fun e w' => e = .returned (.int .u64 (needF k s : Nat)) ∧ Below w.heap.size w w' := by
  have HK := hid_mk (rknown k s hs)
  cases hk : knownF k s
  · have e : needF k s = 0 := by
      unfold needF
      rw [hk]
      rfl
    rw [e]
    rw [hk] at HK
    clear e hk
    go_enter Try.func39, Try.ntmps39
    go_wp2_with fail
    refine (HK.out _).mono ?_
    rintro e w1 ⟨rfl, hb1⟩
    go_wp2_with fail
    go_ret
    exact ⟨rfl, hb1⟩
  · have e : needF k s = minF (accN k s 64) s := by
      unfold needF
      rw [if_pos hk, accN_all hs]
    rw [e]
    rw [hk] at HK
    clear e hk
    have HB := hid_mk (rbits_lit [32] (accN k s 0) (by decide) (by decide) (show orF [32] = 2 ^ 32 by decide) 3)
    have HH := hid_mk (fun b => rhas s hs b)
    have HN := hid_mk (fun b => rneeds1 k b)
    have HM := hid_mk (min_int (accN_lt k s 64) hs)
    have HS := hid_mk hs
    clear hs
    go_enter Try.func39, Try.ntmps39
    go_wp2_with fail
    refine (HK.out _).mono ?_
    rintro e w1 ⟨rfl, hb1⟩
    go_wp2_with fail
    refine (HB.out _).mono ?_
    rintro e w2 ⟨rfl, hb2⟩
    have HB2 := hid_mk (below_two hb1 hb2)
    clear hb1 hb2
    go_wp2_with fail
    go_loopw [5, 6] (fun u b wr => ∃ n : Nat, n ≤ 64 ∧ u = .int .u64 (accN k s n : Nat) ∧ b = .int .i64 n ∧ Hid (Below w.heap.size w wr)) (fun _ b _ => 64 - (intOf b).toNat)
    case atStart => exact ⟨0, Nat.zero_le _, rfl, rfl, HB2⟩
    case round =>
      obtain ⟨n, hn, rfl, rfl, hb⟩ := hrel
      by_cases hlt : n < 64
      · have hh := hasF_nat (s := s) hlt
        cases ht : s.testBit n
        · rw [ht] at hh
          have HT := hid_mk (accN_no (k := k) ht)
          rw [HT.out]
          clear ht
          go_wp2_with fail
          refine (HH.out _ _).mono ?_
          rintro e w3 ⟨rfl, rfl⟩
          rw [hh]
          go_wp2_with fail
          exact ⟨⟨n + 1, by omega, rfl, by simp, hb⟩, by simp [intOf]; omega⟩
        · rw [ht] at hh
          have HT := hid_mk (or_int (accN_lt k s n) (nF_lt k n) (accN_yes (k := k) ht))
          clear ht
          go_wp2_with fail
          refine (HH.out _ _).mono ?_
          rintro e w3 ⟨rfl, rfl⟩
          rw [hh]
          go_wp2_with fail
          refine (HN.out _ _).mono ?_
          rintro e w3 ⟨rfl, hb3⟩
          have HB3 := hid_mk (below_two hb.out hb3)
          go_wp2_with fail
          exact ⟨⟨n + 1, by omega, by rw [HT.out], by simp, HB3⟩, by simp [intOf]; omega⟩
      · have e : n = 64 := by omega
        subst e
        go_wp2_with fail
        go_ret
        exact ⟨ret_eq (by rw [← HM.out]; rfl), hb.out⟩

set_option maxHeartbeats 2000000 in
theorem rclosed (k : Int) (s : Nat) (hs : s < N64) (w : World) :
    Calls Try.prog 27 #[.int .i64 k, .int .u64 s] w fun e w' => e = .returned (.bool (closedF k s)) ∧ Below w.heap.size w w' := by
  have HK := hid_mk (rknown k s hs)
  have HN := hid_mk (rneeds k s hs)
  have HC : closedF k s = (knownF k s && decide (needF k s = 0)) := rfl
  rw [HC]
  cases hk : knownF k s
  · rw [Bool.false_and]
    rw [hk] at HK
    clear HC hk HN
    go_enter Try.func27, Try.ntmps27
    go_wp2_with fail
    refine (HK.out _).mono ?_
    rintro e w1 ⟨rfl, hb1⟩
    go_wp2_with fail
    go_ret
    exact ⟨rfl, hb1⟩
  · rw [Bool.true_and]
    rw [hk] at HK
    have HZ := hid_mk (zero_int (needF k s))
    clear HC hk
    generalize needF k s = z at *
    go_enter Try.func27, Try.ntmps27
    go_wp2_with fail
    refine (HK.out _).mono ?_
    rintro e w1 ⟨rfl, hb1⟩
    go_wp2_with fail
    refine (HN.out _).mono ?_
    rintro e w2 ⟨rfl, hb2⟩
    go_wp2_with fail
    go_ret
    exact ⟨ret_eq (by rw [← HZ.out]; rfl), below_two hb1 hb2⟩

set_option maxHeartbeats 2000000 in
theorem raccept (k : Int) (o s : Nat) (ho : o < N64) (hs : s < N64) (w : World) :
    Calls Try.prog 18 #[.int .i64 k, .int .u64 o, .int .u64 s] w fun e w' => e = .returned (.bool (acceptF k o s)) ∧ Below w.heap.size w w' := by
  have HK := hid_mk (rclosed k s hs)
  have HC : acceptF k o s = (closedF k s && decide (minF s o = 0)) := rfl
  rw [HC]
  cases hk : closedF k s
  · rw [Bool.false_and]
    rw [hk] at HK
    clear HC hk
    go_enter Try.func18, Try.ntmps18
    go_wp2_with fail
    refine (HK.out _).mono ?_
    rintro e w1 ⟨rfl, hb1⟩
    go_wp2_with fail
    go_ret
    exact ⟨rfl, hb1⟩
  · rw [Bool.true_and]
    rw [hk] at HK
    have HZ := hid_mk (zero_int (minF s o))
    have HM := hid_mk (min_int hs ho)
    clear HC hk
    generalize minF s o = z at *
    go_enter Try.func18, Try.ntmps18
    go_wp2_with fail
    refine (HK.out _).mono ?_
    rintro e w1 ⟨rfl, hb1⟩
    go_wp2_with fail
    go_ret
    exact ⟨ret_eq (by rw [← HZ.out, ← HM.out]; rfl), hb1⟩
end Go.Proofs.Ytfiogaollejdbaa
