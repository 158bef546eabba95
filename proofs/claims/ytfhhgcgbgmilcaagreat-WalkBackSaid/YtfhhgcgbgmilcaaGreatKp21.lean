/- Wk1 Ft0 Fr1: joined texts. Conditions: as each theorem names them. -/
import Derived.Test.YtfhhgcgbgmilcaaGreatKp14
import Derived.Test.YtfhhgcgbgmilcaaGreatKp15
import Derived.Test.YtfhhgcgbgmilcaaGreatKp18
import Derived.Test.YtfhhgcgbgmilcaaGreatKp20
import Derived.Test.YtfhhgcgbgmilcaaGreatKp01
import Derived.Test.YtfhhgcgbgmilcaaGreatRows
import Derived.ProofKit
import Derived.OwnWalk
/- The reference of layer 10: a reader in memory; stop, seg. Conditions: as each theorem names them. -/
namespace Go.Proofs.YtfhhgcgbgmilcaaGreat
open Go.ChangeShapes Go.WideShapes Go.ChangeAt Go.RowKit
set_option linter.unusedVariables false
set_option maxRecDepth 100000

theorem ownsRow_set {B n z : Nat} {w : World} {t t2 : TypeId} {v : Value} {C C2 : List Value} {db i : Nat} (h : w.ownsRow B t z v n C) (hne : t ≠ t2) (hb : BlkAt w db C2 t2) (x : Value) : (w.setCell ⟨db, i, none⟩ x).ownsRow B t z v n C := by
  refine ⟨h.1, ?_⟩
  rcases h.2 with hn | ⟨gg, cap, cur, rfl, hg, hh, rest⟩
  · exact .inl hn
  · refine .inr ⟨gg, cap, cur, rfl, hg, (Below.heap_setCell w ⟨db, i, none⟩ x gg (fun e => ?_)).trans hh, rest⟩
    have e : gg = db := e
    subst e
    have h2 : w.heap[gg]? = some (.cells C2.toArray t2 (0, 0)) := hb
    rw [hh] at h2
    injection h2 with h2
    injection h2 with _ h3
    exact hne h3
/-! ### one segment more -/
theorem grown_other {w w' : World} {o : Option Nat} (h : w.grownBy w' o) {b : Nat} (hb : b < w.heap.size) (hne : ∀ g, o = some g → g ≠ b) : w'.heap[b]? = w.heap[b]? := h.block b hb (fun e => hne b e.symm rfl)
theorem own_ty {B n z : Nat} {w : World} {v : Value} {t : TypeId} {C : List Value} (h : w.ownsRow B t z v n C) {g : Nat} (hg : v.ownBlock = some g) : ∃ cur, w.heap[g]? = some (.cells cur t (0, 0)) ∧ B ≤ g := by
  rcases h.2 with ⟨rfl, _⟩ | ⟨gg, cap, cur, rfl, h1, hh, _⟩
  · cases hg
  · cases hg
    exact ⟨cur, hh, h1⟩
theorem app_sg {B : Nat} {w : World} {v : Value} {L : List Sg} (s : Sg) {l : Nat} (h : OwnS B w v L) (hl2 : BlkAt w l (segCells [s]) 28) (hB : B ≤ w.heap.size) (hl : L.length ≤ 100000) :
    ∃ v' w', (∀ ty, (Builtin.append_ #[22, 22] ty #[v, .slice (some ⟨l, 0, none⟩) 1 1]).run Tryz.prog w = .ok v' w') ∧ OwnS B w' v' (L ++ [s]) ∧ w.grownBy w' v.ownBlock := by
  obtain ⟨i0, hi, hz0, hz1, hz2⟩ := info_parts rowSg
  have hcells : ∀ j u, (segCells [s])[j]? = some u → w.cell? ((⟨l, 0, none⟩ : Addr).add j) = some u := fun j u hu => by
    rw [show (⟨l, 0, none⟩ : Addr).add j = ⟨l, j, none⟩ from by unfold Addr.add; split <;> simp_all]
    exact (hl2.cell j).trans hu
  obtain ⟨v', w', h1, h2, h3, h4⟩ := run_append_own (P := Tryz.prog) w B 22 22 28 i0 _ 3 16 Tryz.underlying22 hi hz0 hz1 hz2 rfl (by decide) v L.length (segCells L) h ⟨l, 0, none⟩ 1 1 (segCells [s]) rfl hcells oneS_of (by simp [maxLen]; omega) (by omega) hB
  rw [← segCells_append] at h2
  refine ⟨v', w', fun ty => h1, ?_, h3⟩
  show w'.ownsRow B 28 3 _ (L ++ [s]).length (segCells (L ++ [s]))
  rw [show (L ++ [s]).length = L.length + 1 by simp]
  exact h2
/-! ### a descriptor -/
/-- a reference's memory, however it lies -/
def RefM (w : World) (rp : Nat) (R : List (Int × Int)) (M : List Int) : Prop := ∃ base lb bb cL cB aB D, IsRef w base rp lb bb cL cB aB D R M
theorem RefM.below {w w' : World} {rp : Nat} {R : List (Int × Int)} {M : List Int} (h : RefM w rp R M) (hb : Below w.heap.size w w') : RefM w' rp R M := by
  obtain ⟨base, lb, bb, cL, cB, aB, D, h⟩ := h
  exact ⟨base, lb, bb, cL, cB, aB, D, h.below hb⟩
theorem readE_is (R : List (Int × Int)) (a : Int) : readE R a 16 = 0 ∨ readE R a 16 = 5 := by
  unfold readE
  rw [if_neg (by omega), if_neg (by omega)]
  split
  · exact Or.inl rfl
  · exact Or.inr rfl
theorem readL_16 {R : List (Int × Int)} {M : List Int} {a : Int} (hok : okR (-1) 1048576 R = true) (hM : M.length = sumR R) (h : readE R a 16 = 0) : (readL R M a 16).length = 16 := by
  unfold readE at h
  rw [if_neg (by omega), if_neg (by omega)] at h
  unfold readL
  cases hl : loc R a 16 with
  | none =>
    rw [hl] at h
    cases h
  | some k =>
    have := loc_room hl
    simp
    omega
end Go.Proofs.YtfhhgcgbgmilcaaGreat

/- Sets of feature bits as natural numbers: which are known, closed, accepted; what they need; the best one. Plain facts, no program in sight. Conditions: as each lemma names them. -/
namespace Go.Proofs.YtfhhgcgbgmilcaaGreat
open Go
set_option linter.unusedVariables false
set_option maxRecDepth 100000

abbrev N64 : Nat := 18446744073709551616
/-- s without t -/
def minF (s t : Nat) : Nat := s &&& (18446744073709551615 - t)
theorem minF_bit {s t : Nat} (ht : t < N64) (hs : s < N64) (i : Nat) : (minF s t).testBit i = (s.testBit i && !t.testBit i) := by
  unfold minF
  rw [Nat.testBit_and]
  have e : 18446744073709551615 - t = 2 ^ 64 - (t + 1) := by
    have : (2 : Nat) ^ 64 = 18446744073709551616 := by decide
    omega
  rw [e, Nat.testBit_two_pow_sub_succ (by have : (2 : Nat) ^ 64 = 18446744073709551616 := by decide
                                          omega)]
  by_cases h : i < 64
  · simp [h]
  · have : s.testBit i = false := Nat.testBit_lt_two_pow (Nat.lt_of_lt_of_le hs (by
      have : (2 : Nat) ^ 64 ≤ 2 ^ i := Nat.pow_le_pow_right (by omega) (by omega)
      have e2 : (2 : Nat) ^ 64 = 18446744073709551616 := by decide
      omega))
    simp [this]
theorem minF_lt {s t : Nat} (hs : s < N64) : minF s t < N64 := Nat.lt_of_le_of_lt Nat.and_le_left hs
theorem or_lt {a b : Nat} (ha : a < N64) (hb : b < N64) : a ||| b < N64 := by
  have := Nat.or_lt_two_pow (x := a) (y := b) (n := 64) (by simpa using ha) (by simpa using hb)
  simpa using this
theorem and_lt {a : Nat} (b : Nat) (ha : a < N64) : a &&& b < N64 := Nat.lt_of_le_of_lt Nat.and_le_left ha
theorem bit_ext {a b : Nat} (h : ∀ i, a.testBit i = b.testBit i) : a = b := Nat.eq_of_testBit_eq h
theorem zero_iff {a : Nat} : a = 0 ↔ ∀ i, a.testBit i = false := by
  constructor
  · intro h i
    rw [h, Nat.zero_testBit]
  · intro h
    exact bit_ext fun i => by rw [h, Nat.zero_testBit]
/-- t is within s -/
def subF (t s : Nat) : Prop := ∀ i, t.testBit i = true → s.testBit i = true
theorem minF_zero {s t : Nat} (ht : t < N64) (hs : s < N64) : minF s t = 0 ↔ subF s t := by
  rw [zero_iff]
  constructor
  · intro h i hi
    have := h i
    rw [minF_bit ht hs, hi] at this
    simpa using this
  · intro h i
    rw [minF_bit ht hs]
    cases hi : s.testBit i
    · rfl
    · rw [h i hi]
      rfl
/-- the bit's number: 2^n -/
theorem one_bit (n i : Nat) : (2 ^ n).testBit i = decide (n = i) := Nat.testBit_two_pow ..
theorem one_lt {n : Nat} (h : n < 64) : 2 ^ n < N64 := by
  have : (2 : Nat) ^ n < 2 ^ 64 := Nat.pow_lt_pow_right (by omega) h
  have e2 : (2 : Nat) ^ 64 = 18446744073709551616 := by decide
  omega

/-! ### the kinds -/
/-- the bits of all devices -/
def comF : Nat := 2 ^ 28 + 2 ^ 29 + 2 ^ 32 + 2 ^ 34 + 2 ^ 35 + 2 ^ 40
/-- All's answer -/
def allF (k : Int) : Nat :=
  if k = 1 then comF + (2 ^ 0 + 2 ^ 1 + 2 ^ 5 + 2 ^ 15 + 2 ^ 16 + 2 ^ 17 + 2 ^ 18 + 2 ^ 19 + 2 ^ 22 + 2 ^ 23)
  else if k = 2 then comF + (2 ^ 5 + 2 ^ 9 + 2 ^ 12 + 2 ^ 13 + 2 ^ 14)
  else if k = 3 then comF + (2 ^ 0 + 2 ^ 1 + 2 ^ 2)
  else 0
theorem allF_lt (k : Int) : allF k < N64 := by
  unfold allF
  split
  · decide
  · split
    · decide
    · split
      · decide
      · decide
theorem allF_pos {k : Int} : allF k ≠ 0 ↔ k = 1 ∨ k = 2 ∨ k = 3 := by
  unfold allF
  by_cases h1 : k = 1
  · rw [if_pos h1]
    simp [h1, comF]
  · rw [if_neg h1]
    by_cases h2 : k = 2
    · rw [if_pos h2]
      simp [h2, comF]
    · rw [if_neg h2]
      by_cases h3 : k = 3
      · rw [if_pos h3]
        simp [h3, comF]
      · rw [if_neg h3]
        simp [h1, h2, h3]
theorem allF_32 {k : Int} (h : k = 1 ∨ k = 2 ∨ k = 3) : (allF k).testBit 32 = true := by
  rcases h with rfl | rfl | rfl <;> decide
/-- does bit i need bit j, of kind k? -/
def ndsF (k : Int) (i j : Nat) : Bool := decide (k = 1) && ((decide (i = 18 ∨ i = 19 ∨ i = 22 ∨ i = 23) && decide (j = 17)) || (decide (i = 23) && decide (j = 5)))
theorem ndsF_all {k : Int} {i j : Nat} (h : ndsF k i j = true) : (allF k).testBit j = true := by
  unfold ndsF at h
  simp only [Bool.and_eq_true, Bool.or_eq_true, decide_eq_true_eq] at h
  obtain ⟨rfl, h⟩ := h
  rcases h with ⟨_, rfl⟩ | ⟨_, rfl⟩ <;> decide
/-- what is needed needs nothing -/
theorem ndsF_no {k : Int} {i j m : Nat} (h : ndsF k i j = true) : ndsF k j m = false := by
  unfold ndsF at h ⊢
  simp only [Bool.and_eq_true, Bool.or_eq_true, decide_eq_true_eq] at h
  obtain ⟨rfl, h⟩ := h
  rcases h with ⟨_, rfl⟩ | ⟨_, rfl⟩ <;> simp
theorem ndsF_lt {k : Int} {i j : Nat} (h : ndsF k i j = true) : i < 64 ∧ j < 64 ∧ i ≠ 32 ∧ j ≠ 32 ∧ i ≠ j := by
  unfold ndsF at h
  simp only [Bool.and_eq_true, Bool.or_eq_true, decide_eq_true_eq] at h
  omega

/-- a closed set, as the chapter has it -/
structure Clo (k : Int) (s : Nat) : Prop where
  kind : k = 1 ∨ k = 2 ∨ k = 3
  sub : subF s (allF k)
  v1 : s.testBit 32 = true
  nds : ∀ i j, ndsF k i j = true → s.testBit i = true → s.testBit j = true
theorem Clo.or {k : Int} {a b : Nat} (ha : Clo k a) (hb : Clo k b) : Clo k (a ||| b) := by
  refine ⟨ha.kind, fun i h => ?_, ?_, fun i j h hi => ?_⟩
  · rw [Nat.testBit_or, Bool.or_eq_true] at h
    rcases h with h | h
    · exact ha.sub i h
    · exact hb.sub i h
  · rw [Nat.testBit_or, ha.v1]
    rfl
  · rw [Nat.testBit_or, Bool.or_eq_true] at hi ⊢
    rcases hi with hi | hi
    · exact Or.inl (ha.nds i j h hi)
    · exact Or.inr (hb.nds i j h hi)
theorem Clo.and {k : Int} {a b : Nat} (ha : Clo k a) (hb : Clo k b) : Clo k (a &&& b) := by
  refine ⟨ha.kind, fun i h => ?_, ?_, fun i j h hi => ?_⟩
  · rw [Nat.testBit_and, Bool.and_eq_true] at h
    exact ha.sub i h.1
  · rw [Nat.testBit_and, ha.v1, hb.v1]
    rfl
  · rw [Nat.testBit_and, Bool.and_eq_true] at hi ⊢
    exact ⟨ha.nds i j h hi.1, hb.nds i j h hi.2⟩

/-! ### the answers -/
/-- Known's answer -/
def knownF (k : Int) (s : Nat) : Bool := decide (allF k ≠ 0) && decide (minF s (allF k) = 0)
theorem knownF_iff {k : Int} {s : Nat} (hs : s < N64) : knownF k s = true ↔ (k = 1 ∨ k = 2 ∨ k = 3) ∧ subF s (allF k) := by
  unfold knownF
  rw [Bool.and_eq_true, decide_eq_true_eq, decide_eq_true_eq, allF_pos, minF_zero (allF_lt k) hs]
/-- a set with V1 and what its bits need -/
def cloF (k : Int) (s : Nat) : Nat := (s ||| 2 ^ 32) ||| if k = 1 then (if (s.testBit 18 || s.testBit 19 || s.testBit 22 || s.testBit 23) = true then 2 ^ 17 else 0) ||| (if s.testBit 23 = true then 2 ^ 5 else 0) else 0
theorem cloF_lt {k : Int} {s : Nat} (hs : s < N64) : cloF k s < N64 := by
  unfold cloF
  refine or_lt (or_lt hs (by decide)) ?_
  split
  · refine or_lt ?_ ?_
    · split <;> decide
    · split <;> decide
  · decide
theorem if_bit (b : Bool) (n j : Nat) : (if b = true then 2 ^ n else 0).testBit j = (b && decide (n = j)) := by
  cases b
  · simp
  · simp [one_bit]
theorem cloF_bit (k : Int) (s j : Nat) : (cloF k s).testBit j = true ↔ s.testBit j = true ∨ j = 32 ∨ ∃ i, ndsF k i j = true ∧ s.testBit i = true := by
  unfold cloF
  rw [Nat.testBit_or, Nat.testBit_or, one_bit, Bool.or_eq_true, Bool.or_eq_true, decide_eq_true_eq]
  by_cases hk : k = 1
  · rw [if_pos hk, Nat.testBit_or, if_bit, if_bit]
    constructor
    · rintro ((h | h) | h)
      · exact Or.inl h
      · exact Or.inr (Or.inl h.symm)
      · refine Or.inr (Or.inr ?_)
        simp only [Bool.or_eq_true, Bool.and_eq_true, decide_eq_true_eq] at h
        rcases h with ⟨((h | h) | h) | h, rfl⟩ | ⟨h, rfl⟩
        · exact ⟨18, by subst hk; decide, h⟩
        · exact ⟨19, by subst hk; decide, h⟩
        · exact ⟨22, by subst hk; decide, h⟩
        · exact ⟨23, by subst hk; decide, h⟩
        · exact ⟨23, by subst hk; decide, h⟩
    · rintro (h | h | ⟨i, h1, h2⟩)
      · exact Or.inl (Or.inl h)
      · exact Or.inl (Or.inr h.symm)
      · right
        unfold ndsF at h1
        simp only [Bool.and_eq_true, Bool.or_eq_true, decide_eq_true_eq] at h1
        simp only [Bool.or_eq_true, Bool.and_eq_true, decide_eq_true_eq]
        obtain ⟨_, ⟨h3, rfl⟩ | ⟨rfl, rfl⟩⟩ := h1
        · left
          refine ⟨?_, rfl⟩
          rcases h3 with rfl | rfl | rfl | rfl
          · exact Or.inl (Or.inl (Or.inl h2))
          · exact Or.inl (Or.inl (Or.inr h2))
          · exact Or.inl (Or.inr h2)
          · exact Or.inr h2
        · exact Or.inr ⟨h2, rfl⟩
  · rw [if_neg hk, Nat.zero_testBit]
    constructor
    · rintro ((h | h) | h)
      · exact Or.inl h
      · exact Or.inr (Or.inl h.symm)
      · cases h
    · rintro (h | h | ⟨i, h1, h2⟩)
      · exact Or.inl (Or.inl h)
      · exact Or.inl (Or.inr h.symm)
      · unfold ndsF at h1
        simp [hk] at h1
/-- Needs' answer -/
def needF (k : Int) (s : Nat) : Nat := if knownF k s = true then minF (cloF k s) s else 0
theorem needF_lt {k : Int} {s : Nat} (hs : s < N64) : needF k s < N64 := by
  unfold needF
  split
  · exact minF_lt (cloF_lt hs)
  · decide
/-- Closed's answer -/
def closedF (k : Int) (s : Nat) : Bool := knownF k s && decide (needF k s = 0)
theorem closedF_iff {k : Int} {s : Nat} (hs : s < N64) : closedF k s = true ↔ Clo k s := by
  unfold closedF
  rw [Bool.and_eq_true, decide_eq_true_eq]
  constructor
  · rintro ⟨h1, h2⟩
    have h3 := (knownF_iff hs).1 h1
    unfold needF at h2
    rw [if_pos h1, minF_zero hs (cloF_lt hs)] at h2
    exact ⟨h3.1, h3.2, h2 32 ((cloF_bit k s 32).2 (Or.inr (Or.inl rfl))), fun i j h hi => h2 j ((cloF_bit k s j).2 (Or.inr (Or.inr ⟨i, h, hi⟩)))⟩
  · intro h
    have h1 : knownF k s = true := (knownF_iff hs).2 ⟨h.kind, h.sub⟩
    refine ⟨h1, ?_⟩
    unfold needF
    rw [if_pos h1, minF_zero hs (cloF_lt hs)]
    intro j hj
    rcases (cloF_bit k s j).1 hj with h2 | rfl | ⟨i, h2, h3⟩
    · exact h2
    · exact h.v1
    · exact h.nds i j h2 h3
/-- a known set with what it needs -/
theorem or_need {k : Int} {s : Nat} (hs : s < N64) (hk : knownF k s = true) : s ||| needF k s = cloF k s := by
  unfold needF
  rw [if_pos hk]
  refine bit_ext fun i => ?_
  rw [Nat.testBit_or, minF_bit hs (cloF_lt hs)]
  cases hi : s.testBit i
  · simp
  · have := (cloF_bit k s i).2 (Or.inl hi)
    simp [this]
theorem Clo.clo {k : Int} {s : Nat} (hs : s < N64) (hk : knownF k s = true) : Clo k (cloF k s) := by
  obtain ⟨h1, h2⟩ := (knownF_iff hs).1 hk
  refine ⟨h1, fun j hj => ?_, (cloF_bit k s 32).2 (Or.inr (Or.inl rfl)), fun i j h hi => ?_⟩
  · rcases (cloF_bit k s j).1 hj with h | rfl | ⟨i, h, _⟩
    · exact h2 j h
    · exact allF_32 h1
    · exact ndsF_all h
  · rcases (cloF_bit k s i).1 hi with h3 | rfl | ⟨m, h3, _⟩
    · exact (cloF_bit k s j).2 (Or.inr (Or.inr ⟨i, h, h3⟩))
    · exact absurd rfl (ndsF_lt h).2.2.1
    · rw [ndsF_no h3] at h
      cases h
theorem needF_closed {k : Int} {s : Nat} (h : closedF k s = true) : needF k s = 0 := by
  unfold closedF at h
  rw [Bool.and_eq_true, decide_eq_true_eq] at h
  exact h.2
theorem closedF_need {k : Int} {s : Nat} (h : knownF k s = true) : closedF k s = decide (needF k s = 0) := by
  unfold closedF
  rw [h, Bool.true_and]
/-- Accept's answer -/
def acceptF (k : Int) (o s : Nat) : Bool := closedF k s && decide (minF s o = 0)
theorem acceptF_iff {k : Int} {o s : Nat} (hs : s < N64) (ho : o < N64) : acceptF k o s = true ↔ Clo k s ∧ subF s o := by
  unfold acceptF
  rw [Bool.and_eq_true, decide_eq_true_eq, closedF_iff hs, minF_zero ho hs]

/-! ### the best set -/
/-- what is offered, wished and known -/
def candF (k : Int) (o w : Nat) : Nat := (o &&& (w ||| 2 ^ 32)) &&& allF k
def bestF (k : Int) (o w : Nat) : Nat := minF (minF (candF k o w) (if k = 1 ∧ (candF k o w).testBit 17 = false then 2 ^ 18 + 2 ^ 19 + 2 ^ 22 + 2 ^ 23 else 0)) (if k = 1 ∧ (candF k o w).testBit 5 = false then 2 ^ 23 else 0)
theorem candF_lt {k : Int} {o w : Nat} (ho : o < N64) : candF k o w < N64 := and_lt _ (and_lt _ ho)
theorem bestF_lt {k : Int} {o w : Nat} (ho : o < N64) : bestF k o w < N64 := minF_lt (minF_lt (candF_lt ho))
theorem four_bit (i : Nat) : ((2 : Nat) ^ 18 + 2 ^ 19 + 2 ^ 22 + 2 ^ 23).testBit i = decide (i = 18 ∨ i = 19 ∨ i = 22 ∨ i = 23) := by
  by_cases h : i < 64
  · have key : ∀ j : Fin 64, ((2 : Nat) ^ 18 + 2 ^ 19 + 2 ^ 22 + 2 ^ 23).testBit j.val = decide (j.val = 18 ∨ j.val = 19 ∨ j.val = 22 ∨ j.val = 23) := by decide
    exact key ⟨i, h⟩
  · have h1 : ((2 : Nat) ^ 18 + 2 ^ 19 + 2 ^ 22 + 2 ^ 23).testBit i = false := Nat.testBit_lt_two_pow (Nat.lt_of_lt_of_le (by decide : _ < 2 ^ 64) (Nat.pow_le_pow_right (by omega) (by omega)))
    rw [h1]
    symm
    exact decide_eq_false (by omega)
theorem bestF_bit {k : Int} {o w : Nat} (ho : o < N64) (i : Nat) : (bestF k o w).testBit i = true ↔ (candF k o w).testBit i = true ∧ ∀ j, ndsF k i j = true → (candF k o w).testBit j = true := by
  have hc := candF_lt (k := k) (w := w) ho
  have l1 : (if k = 1 ∧ (candF k o w).testBit 17 = false then 2 ^ 18 + 2 ^ 19 + 2 ^ 22 + 2 ^ 23 else 0) < N64 := by split <;> decide
  have l2 : (if k = 1 ∧ (candF k o w).testBit 5 = false then 2 ^ 23 else 0) < N64 := by split <;> decide
  unfold bestF
  rw [minF_bit l2 (minF_lt hc), minF_bit l1 hc]
  simp only [Bool.and_eq_true]
  generalize candF k o w = c at *
  by_cases hk : k = 1
  · subst hk
    simp only [true_and]
    constructor
    · rintro ⟨⟨h1, h2⟩, h3⟩
      refine ⟨h1, fun j hj => ?_⟩
      unfold ndsF at hj
      simp only [Bool.and_eq_true, Bool.or_eq_true, decide_eq_true_eq] at hj
      rcases hj.2 with ⟨h4, rfl⟩ | ⟨rfl, rfl⟩
      · cases h5 : c.testBit 17
        · rw [if_pos h5, four_bit] at h2
          simp at h2
          omega
        · rfl
      · cases h5 : c.testBit 5
        · rw [if_pos h5, one_bit] at h3
          simp at h3
        · rfl
    · rintro ⟨h1, h2⟩
      refine ⟨⟨h1, ?_⟩, ?_⟩
      · split
        · rename_i h5
          rw [four_bit]
          simp only [Bool.not_eq_true', decide_eq_false_iff_not]
          intro h6
          have := h2 17 (by unfold ndsF; simp [h6])
          rw [h5] at this
          cases this
        · simp
      · split
        · rename_i h5
          rw [one_bit]
          simp only [Bool.not_eq_true', decide_eq_false_iff_not]
          intro h6
          have := h2 5 (by unfold ndsF; simp [← h6])
          rw [h5] at this
          cases this
        · simp
  · have e1 : ∀ b : Prop, (k = 1 ∧ b) = False := fun b => by simp [hk]
    simp only [e1, if_false, Nat.zero_testBit, Bool.not_false, and_true]
    constructor
    · intro h
      refine ⟨h, fun j hj => ?_⟩
      unfold ndsF at hj
      simp [hk] at hj
    · exact fun h => h.1
theorem candF_bit (k : Int) (o w i : Nat) : (candF k o w).testBit i = true ↔ o.testBit i = true ∧ (w.testBit i = true ∨ i = 32) ∧ (allF k).testBit i = true := by
  unfold candF
  rw [Nat.testBit_and, Nat.testBit_and, Nat.testBit_or, one_bit]
  simp only [Bool.and_eq_true, Bool.or_eq_true, decide_eq_true_eq]
  constructor
  · rintro ⟨⟨h1, h2 | h2⟩, h3⟩
    · exact ⟨h1, Or.inl h2, h3⟩
    · exact ⟨h1, Or.inr h2.symm, h3⟩
  · rintro ⟨h1, h2 | h2, h3⟩
    · exact ⟨⟨h1, Or.inl h2⟩, h3⟩
    · exact ⟨⟨h1, Or.inr h2.symm⟩, h3⟩
theorem Clo.best {k : Int} {o w : Nat} (ho : o < N64) (hk : k = 1 ∨ k = 2 ∨ k = 3) (hv : o.testBit 32 = true) : Clo k (bestF k o w) := by
  refine ⟨hk, fun i h => ((candF_bit k o w i).1 ((bestF_bit ho i).1 h).1).2.2, (bestF_bit ho 32).2 ⟨(candF_bit k o w 32).2 ⟨hv, Or.inr rfl, allF_32 hk⟩, fun j hj => absurd rfl (ndsF_lt hj).2.2.1⟩, fun i j h hi => ?_⟩
  have h1 := ((bestF_bit ho i).1 hi).2 j h
  exact (bestF_bit ho j).2 ⟨h1, fun m hm => by rw [ndsF_no h] at hm; cases hm⟩
theorem best_offer {k : Int} {o w : Nat} (ho : o < N64) : subF (bestF k o w) o := fun i h => ((candF_bit k o w i).1 ((bestF_bit ho i).1 h).1).1
theorem best_wish {k : Int} {o w : Nat} (ho : o < N64) : subF (bestF k o w) (w ||| 2 ^ 32) := fun i h => by
  rw [Nat.testBit_or, one_bit, Bool.or_eq_true, decide_eq_true_eq]
  rcases ((candF_bit k o w i).1 ((bestF_bit ho i).1 h).1).2.1 with h1 | h1
  · exact Or.inl h1
  · exact Or.inr h1.symm
/-- no accepted set that is wished for has more -/
theorem best_most {k : Int} {o w t : Nat} (ho : o < N64) (ht : Clo k t) (h1 : subF t o) (h2 : subF t (w ||| 2 ^ 32)) : subF t (bestF k o w) := by
  have hc : ∀ i, t.testBit i = true → (candF k o w).testBit i = true := fun i hi => by
    refine (candF_bit k o w i).2 ⟨h1 i hi, ?_, ht.sub i hi⟩
    have := h2 i hi
    rw [Nat.testBit_or, one_bit, Bool.or_eq_true, decide_eq_true_eq] at this
    rcases this with h | h
    · exact Or.inl h
    · exact Or.inr h.symm
  exact fun i hi => (bestF_bit ho i).2 ⟨hc i hi, fun j hj => hc j (ht.nds i j hj hi)⟩
/-- the best of the best is the same -/
theorem best_again {k : Int} {o w : Nat} (ho : o < N64) (hk : k = 1 ∨ k = 2 ∨ k = 3) (hv : o.testBit 32 = true) : bestF k (bestF k o w) w = bestF k o w := by
  have hb := bestF_lt (k := k) (w := w) ho
  refine bit_ext fun i => ?_
  have h1 := best_offer (k := k) (w := w) hb i
  have h2 := best_most (w := w) hb (Clo.best (w := w) ho hk hv) (fun i h => h) (best_wish ho) i
  cases hx : (bestF k (bestF k o w) w).testBit i
  · cases hy : (bestF k o w).testBit i
    · rfl
    · rw [h2 hy] at hx
      cases hx
  · rw [h1 hx]
end Go.Proofs.YtfhhgcgbgmilcaaGreat

/- Feature bits of the reference, layer 6: bits, a bit, Has, All. Conditions: as each theorem names them. -/
namespace Go.Proofs.YtfhhgcgbgmilcaaGreat
open Go.ChangeShapes Go.WideShapes Go.ChangeAt Go.RowKit
set_option linter.unusedVariables false
set_option maxRecDepth 100000

/-- a slice of ints, nil too, that reads as L -/
def IntsAt (w : World) (v : Value) (L : List Nat) : Prop :=
  ((∃ a c, v = .slice a 0 c ∧ (a = none → c = 0)) ∧ L = []) ∨ ∃ b o c : Nat, v = .slice (some ⟨b, o, none⟩) L.length c ∧ b < w.heap.size ∧ L.length ≤ c ∧ ∀ j, j < L.length → w.cell? ⟨b, o + j, none⟩ = some (.int .i64 (L.getD j 0 : Nat))
theorem IntsAt.below {w w' : World} {v : Value} {L : List Nat} (h : IntsAt w v L) (hb : Below w.heap.size w w') : IntsAt w' v L := by
  rcases h with h | ⟨b, o, c, h1, h2, h3, h4⟩
  · exact Or.inl h
  · have := hb.size
    exact Or.inr ⟨b, o, c, h1, by omega, h3, fun j hj => (hb.cell (p := ⟨b, o + j, none⟩) h2).trans (h4 j hj)⟩
/-- a literal of ints -/
theorem ints_lit (w : World) (L : List Nat) (t : TypeId) : IntsAt (w.alloc (.cells (L.map fun x : Nat => Value.int .i64 (x : Int)).toArray t)) (.slice (some ⟨w.heap.size, 0, none⟩) L.length L.length) L := by
  refine Or.inr ⟨w.heap.size, 0, L.length, rfl, by simp, Nat.le_refl _, fun j hj => ?_⟩
  have h := heap_alloc_new w (.cells (L.map fun x : Nat => Value.int .i64 (x : Int)).toArray t)
  rw [cellK h, Nat.zero_add]
  simp [hj, List.getD]
/-- the set of bits of a list -/
def orF (L : List Nat) : Nat := L.foldl (fun s b => s ||| 2 ^ b) 0
theorem orF_take {L : List Nat} {k : Nat} (hk : k < L.length) : orF (L.take (k + 1)) = orF (L.take k) ||| 2 ^ L.getD k 0 := by
  unfold orF
  rw [List.take_succ_eq_append_getElem hk, List.foldl_append]
  simp [List.getD, hk]
theorem orF_all (L : List Nat) : orF (L.take L.length) = orF L := by rw [List.take_length]
theorem orF_lt {L : List Nat} (h : ∀ x ∈ L, x < 64) : orF L < N64 := by
  have key : ∀ (L : List Nat) (s : Nat), s < N64 → (∀ x ∈ L, x < 64) → L.foldl (fun s b => s ||| 2 ^ b) s < N64 := by
    intro L
    induction L with
    | nil => exact fun s hs _ => hs
    | cons a L ih => exact fun s hs h => ih _ (or_lt hs (one_lt (h a (by simp)))) fun x hx => h x (by simp [hx])
  exact key L 0 (by decide) h
theorem shl_one64 {n : Nat} (h : n < 64) : IntKind.u64.wrap ((2 : Int) ^ n) = ((2 ^ n : Nat) : Int) := by
  have h1 : 2 ^ n < 18446744073709551616 := one_lt h
  rw [IntKind.wrap_u64]
  have e : ((2 ^ n : Nat) : Int) = (2 : Int) ^ n := by simp
  rw [← e]
  generalize 2 ^ n = z at *
  omega
/-- a bit of a number, as the walk finds it -/
theorem bit_tmod (s n : Nat) : (((s : Int) / 2 ^ n).tmod 2 == 1) = s.testBit n := by
  have e : ((2 ^ n : Nat) : Int) = (2 : Int) ^ n := by simp
  rw [← e, ← Int.natCast_ediv, Nat.testBit_eq_decide_div_mod_eq]
  generalize s / 2 ^ n = z
  rw [Int.tmod_eq_emod_of_nonneg (by omega)]
  by_cases h : z % 2 = 1
  · rw [decide_eq_true h]
    simp
    omega
  · rw [decide_eq_false h]
    simp
    omega

/-- Has' answer -/
def hasF (s : Nat) (b : Int) : Bool := decide (0 ≤ b) && decide (b < 64) && s.testBit b.toNat
theorem hasF_nat {s n : Nat} (h : n < 64) : hasF s n = s.testBit n := by
  unfold hasF
  rw [decide_eq_true (by omega), decide_eq_true (by omega)]
  simp
end Go.Proofs.YtfhhgcgbgmilcaaGreat
