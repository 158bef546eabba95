/- The state of a device as plain numbers: its kind, offer, guest, status; what Check, Write, Ask, Break, Init make of it. Plain facts, no program in sight. -/
import Derived.Test.YtfiogaollejdbaaFr4
namespace Go.Proofs.Ytfiogaollejdbaa
open Go
set_option linter.unusedVariables false
set_option maxRecDepth 100000

/-- kind, offer, guest, status -/
structure Dv where
  k : Int
  o : Nat
  g : Nat
  s : Nat
  deriving DecidableEq
/-- as a value -/
def dvV (d : Dv) : Value := .agg #[.int .i64 d.k, .int .u64 d.o, .int .u64 d.g, .int .u8 d.s]
structure isDv (d : Dv) : Prop where
  o : d.o < N64
  g : d.g < N64
  s : d.s < 256
/-- may a status be so? a: the guest is accepted; z: it is 0 -/
def stB (a z : Bool) (s : Nat) : Bool :=
  !s.testBit 4 && !s.testBit 5 && (!s.testBit 1 || s.testBit 0) && (!s.testBit 3 || (s.testBit 1 && a)) && (!s.testBit 2 || s.testBit 3) && (!s.testBit 6 || s.testBit 2) && (s.testBit 1 || z)
def accD (d : Dv) : Bool := acceptF d.k d.o d.g
/-- is the kind, and the offer, valid? -/
def newB (k : Int) (o : Nat) : Bool := knownF k o && o.testBit 32
/-- Check's answer -/
def chkB (d : Dv) : Bool := newB d.k d.o && stB (accD d) (decide (d.g = 0)) d.s
def schE (d : Dv) : Int := if chkB d = true then 0 else 2
def setS (c : Bool) (b s : Nat) : Nat := if c = true then s ||| b else s
def wr1 (s w : Nat) : Nat := setS (w.testBit 0) 1 s
def wr2 (s w : Nat) : Nat := setS (w.testBit 1 && (wr1 s w).testBit 0) 2 (wr1 s w)
def wr3 (a : Bool) (s w : Nat) : Nat := setS (w.testBit 3 && (wr2 s w).testBit 1 && a) 8 (wr2 s w)
def wr4 (a : Bool) (s w : Nat) : Nat := setS (w.testBit 2 && (wr3 a s w).testBit 3) 4 (wr3 a s w)
/-- the status behind a word -/
def wrS (a : Bool) (s w : Nat) : Nat := setS (w.testBit 7) 128 (wr4 a s w)
/-- Write's answer -/
def wrD (d : Dv) (w : Nat) : Dv := if chkB d = true then (if w = 0 then ⟨d.k, d.o, 0, 0⟩ else ⟨d.k, d.o, d.g, wrS (accD d) d.s w⟩) else d
/-- Ask's answer -/
def askD (d : Dv) (x : Nat) : Dv := if (chkB d && d.s.testBit 1 && !d.s.testBit 3) = true then ⟨d.k, d.o, x, d.s⟩ else d
def zeroD : Dv := ⟨0, 0, 0, 0⟩
def newD (k : Int) (o : Nat) : Dv := if newB k o = true then ⟨k, o, 0, 0⟩ else zeroD
def newE (k : Int) (o : Nat) : Int := if newB k o = true then 0 else 2
def brkE (d : Dv) : Int := if chkB d = true then (if d.s.testBit 2 = true then 0 else 8) else 2
def brkD (d : Dv) : Dv := if (chkB d && d.s.testBit 2) = true then ⟨d.k, d.o, d.g, d.s ||| 64⟩ else zeroD
def runsB (d : Dv) : Bool := chkB d && d.s.testBit 2 && !d.s.testBit 6 && !d.s.testBit 7
def fixB (d : Dv) : Bool := chkB d && d.s.testBit 3
def fixG (d : Dv) : Nat := if fixB d = true then d.g else 0
def initE (d : Dv) : Int := schE d
def initD (d : Dv) (w : Nat) : Dv := if chkB d = true then wrD (wrD (askD (wrD (wrD (wrD d 0) 1) 3) (bestF d.k d.o w)) 11) 15 else zeroD

theorem setS_lt {c : Bool} {b s : Nat} (hb : b < 256) (hs : s < 256) : setS c b s < 256 := by
  unfold setS
  split
  · exact Nat.or_lt_two_pow (n := 8) hs hb
  · exact hs
theorem wrS_lt {a : Bool} {s w : Nat} (hs : s < 256) : wrS a s w < 256 :=
  setS_lt (by decide) (setS_lt (by decide) (setS_lt (by decide) (setS_lt (by decide) (setS_lt (by decide) hs))))
theorem isDv.wr {d : Dv} (h : isDv d) (w : Nat) : isDv (wrD d w) := by
  unfold wrD
  split
  · split
    · exact ⟨h.o, by simp only; decide, by simp only; decide⟩
    · exact ⟨h.o, h.g, wrS_lt h.s⟩
  · exact h
theorem isDv.ask {d : Dv} (h : isDv d) {x : Nat} (hx : x < N64) : isDv (askD d x) := by
  unfold askD
  split
  · exact ⟨h.o, hx, h.s⟩
  · exact h
theorem isDv.zero : isDv zeroD := ⟨by decide, by decide, by decide⟩
theorem isDv.new {k : Int} {o : Nat} (h : o < N64) : isDv (newD k o) := by
  unfold newD
  split
  · exact ⟨h, by simp only; decide, by simp only; decide⟩
  · exact isDv.zero
theorem isDv.brk {d : Dv} (h : isDv d) : isDv (brkD d) := by
  unfold brkD
  split
  · exact ⟨h.o, h.g, Nat.or_lt_two_pow (n := 8) h.s (by decide)⟩
  · exact isDv.zero
theorem isDv.init {d : Dv} (h : isDv d) (w : Nat) : isDv (initD d w) := by
  unfold initD
  split
  · exact (((((h.wr 0).wr 1).wr 3).ask (bestF_lt h.o)).wr 11).wr 15
  · exact isDv.zero

/-- a word not 0 on a status that may be: what becomes of it, all at a glance -/
def wrAll (a z : Bool) (s w : Nat) : Bool :=
  let t := wrS a s w
  stB a z t && decide ((s &&& (255 - t)) = 0) && decide ((t &&& (255 - s)) &&& (255 - w) = 0) &&
  decide (wrS a t w = t) && decide (t = setS (w.testBit 7) 128 (wr4 a s w))
theorem wrAll_all : ∀ a z : Bool, ∀ s : Fin 256, stB a z s.val = true → ∀ w : Fin 256, wrAll a z s.val w.val = true := by decide +kernel
/-- the bits of the order, one by one: a status behind the first j of them -/
def bitL : List Nat := [1, 2, 8, 4, 128]
def stepS (a : Bool) (w s b : Nat) : Nat := if decide (w &&& b = 0) = true then s else wrS a s b
def stepsS (a : Bool) (w s j : Nat) : Nat := (bitL.take j).foldl (stepS a w) s
theorem steps_all : ∀ a z : Bool, ∀ s : Fin 256, stB a z s.val = true → ∀ w : Fin 256, stepsS a w.val s.val 5 = wrS a s.val w.val := by decide +kernel
theorem stepsS_succ {a : Bool} {w s j : Nat} (h : j < 5) : stepsS a w s (j + 1) = stepS a w (stepsS a w s j) (bitL.getD j 0) := by
  unfold stepsS
  rw [List.take_succ_eq_append_getElem (show j < bitL.length from h), List.foldl_append]
  simp [List.getD, show j < bitL.length from h]
/-- what a status that may be says -/
theorem stB_says : ∀ a z : Bool, ∀ s : Fin 256, stB a z s.val = true → (s.val.testBit 3 = true → a = true) ∧ (s.val.testBit 2 = true → s.val.testBit 3 = true) ∧ (s.val.testBit 1 = true → s.val.testBit 0 = true) ∧ (z = false → s.val.testBit 1 = true) ∧ ((s.val.testBit 2 && !s.val.testBit 6 && !s.val.testBit 7) = decide (s.val &&& 196 = 4)) := by decide +kernel
/-- a live one, broken -/
theorem stB_brk : ∀ a z : Bool, ∀ s : Fin 256, stB a z s.val = true → s.val.testBit 2 = true → stB a z (s.val ||| 64) = true := by decide +kernel
/-- a guest that is not fixed may be any -/
theorem stB_ask : ∀ a z a' z' : Bool, ∀ s : Fin 256, stB a z s.val = true → s.val.testBit 1 = true → s.val.testBit 3 = false → stB a' z' s.val = true := by decide +kernel

theorem wr_ok {d : Dv} {w : Nat} (h : chkB d = true) (hs : d.s < 256) (hw : w < 256) (h0 : w ≠ 0) : wrD d w = ⟨d.k, d.o, d.g, wrS (accD d) d.s w⟩ ∧ chkB ⟨d.k, d.o, d.g, wrS (accD d) d.s w⟩ = true ∧ wrAll (accD d) (decide (d.g = 0)) d.s w = true := by
  unfold chkB at h
  rw [Bool.and_eq_true] at h
  have h1 := wrAll_all (accD d) (decide (d.g = 0)) ⟨d.s, hs⟩ h.2 ⟨w, hw⟩
  refine ⟨?_, ?_, h1⟩
  · unfold wrD
    rw [if_pos (by unfold chkB; rw [h.1, h.2]; rfl), if_neg h0]
  · unfold wrAll at h1
    simp only [Bool.and_eq_true] at h1
    unfold chkB
    rw [h.1, Bool.true_and]
    exact h1.1.1.1.1
theorem wr_reset {d : Dv} (h : chkB d = true) : wrD d 0 = ⟨d.k, d.o, 0, 0⟩ ∧ chkB ⟨d.k, d.o, 0, 0⟩ = true := by
  refine ⟨?_, ?_⟩
  · unfold wrD
    rw [if_pos h, if_pos rfl]
  · unfold chkB at h ⊢
    rw [Bool.and_eq_true] at h
    rw [h.1, Bool.true_and]
    show stB (accD ⟨d.k, d.o, 0, 0⟩) true 0 = true
    generalize accD _ = a
    revert a
    decide
theorem ask_ok {d : Dv} (x : Nat) (h : chkB d = true) (hs : d.s < 256) : chkB (askD d x) = true := by
  unfold askD
  split
  · rename_i h1
    simp only [Bool.and_eq_true, Bool.not_eq_true'] at h1
    unfold chkB at h ⊢
    rw [Bool.and_eq_true] at h
    rw [h.1, Bool.true_and]
    exact stB_ask _ _ _ _ ⟨d.s, hs⟩ h.2 h1.1.2 h1.2
  · exact h
theorem brk_ok {d : Dv} (h : chkB d = true) (hs : d.s < 256) (hl : d.s.testBit 2 = true) : brkD d = ⟨d.k, d.o, d.g, d.s ||| 64⟩ ∧ brkE d = 0 ∧ chkB ⟨d.k, d.o, d.g, d.s ||| 64⟩ = true := by
  refine ⟨?_, ?_, ?_⟩
  · unfold brkD
    rw [if_pos (by rw [h, hl]; rfl)]
  · unfold brkE
    rw [if_pos h, if_pos hl]
  · unfold chkB at h ⊢
    rw [Bool.and_eq_true] at h
    rw [h.1, Bool.true_and]
    exact stB_brk _ _ ⟨d.s, hs⟩ h.2 hl
/-- what Init makes of a device that may be -/
theorem init_ok {d : Dv} (w : Nat) (h : chkB d = true) (ho : d.o < N64) : initD d w = ⟨d.k, d.o, bestF d.k d.o w, 15⟩ ∧ wrD d 0 = ⟨d.k, d.o, 0, 0⟩ ∧ wrD ⟨d.k, d.o, 0, 0⟩ 1 = ⟨d.k, d.o, 0, 1⟩ ∧ wrD ⟨d.k, d.o, 0, 1⟩ 3 = ⟨d.k, d.o, 0, 3⟩ ∧ askD ⟨d.k, d.o, 0, 3⟩ (bestF d.k d.o w) = ⟨d.k, d.o, bestF d.k d.o w, 3⟩ ∧ wrD ⟨d.k, d.o, bestF d.k d.o w, 3⟩ 11 = ⟨d.k, d.o, bestF d.k d.o w, 11⟩ ∧ wrD ⟨d.k, d.o, bestF d.k d.o w, 11⟩ 15 = ⟨d.k, d.o, bestF d.k d.o w, 15⟩ ∧ chkB ⟨d.k, d.o, bestF d.k d.o w, 15⟩ = true ∧ acceptF d.k d.o (bestF d.k d.o w) = true ∧ newB d.k d.o = true := by
  obtain ⟨e1, c1⟩ := wr_reset h
  have hn : newB d.k d.o = true := by
    unfold chkB at h
    rw [Bool.and_eq_true] at h
    exact h.1
  have hn2 := hn
  unfold newB at hn2
  rw [Bool.and_eq_true, knownF_iff ho] at hn2
  have hacc : acceptF d.k d.o (bestF d.k d.o w) = true := (acceptF_iff (bestF_lt ho) ho).2 ⟨Clo.best ho hn2.1.1 hn2.2, best_offer ho⟩
  have e2 : wrD ⟨d.k, d.o, 0, 0⟩ 1 = ⟨d.k, d.o, 0, 1⟩ := by
    rw [(wr_ok (w := 1) c1 (by simp only; decide) (by decide) (by decide)).1]
    simp only
    generalize accD _ = a
    have : wrS a 0 1 = 1 := by revert a; decide
    rw [this]
  have c2 : chkB ⟨d.k, d.o, 0, 1⟩ = true := by
    have := (wr_ok (w := 1) c1 (by simp only; decide) (by decide) (by decide)).2.1
    rw [← (wr_ok (w := 1) c1 (by simp only; decide) (by decide) (by decide)).1, e2] at this
    exact this
  have e3 : wrD ⟨d.k, d.o, 0, 1⟩ 3 = ⟨d.k, d.o, 0, 3⟩ := by
    rw [(wr_ok (w := 3) c2 (by simp only; decide) (by decide) (by decide)).1]
    simp only
    generalize accD _ = a
    have : wrS a 1 3 = 3 := by revert a; decide
    rw [this]
  have c3 : chkB ⟨d.k, d.o, 0, 3⟩ = true := by
    have := (wr_ok (w := 3) c2 (by simp only; decide) (by decide) (by decide)).2.1
    rw [← (wr_ok (w := 3) c2 (by simp only; decide) (by decide) (by decide)).1, e3] at this
    exact this
  have e4 : askD ⟨d.k, d.o, 0, 3⟩ (bestF d.k d.o w) = ⟨d.k, d.o, bestF d.k d.o w, 3⟩ := by
    unfold askD
    rw [if_pos (by rw [c3]; show (true && (3 : Nat).testBit 1 && !(3 : Nat).testBit 3) = true; decide)]
  have c4 : chkB ⟨d.k, d.o, bestF d.k d.o w, 3⟩ = true := by
    have := ask_ok (bestF d.k d.o w) c3 (by simp only; decide)
    rw [e4] at this
    exact this
  have a4 : accD ⟨d.k, d.o, bestF d.k d.o w, 3⟩ = true := hacc
  have e5 : wrD ⟨d.k, d.o, bestF d.k d.o w, 3⟩ 11 = ⟨d.k, d.o, bestF d.k d.o w, 11⟩ := by
    rw [(wr_ok (w := 11) c4 (by simp only; decide) (by decide) (by decide)).1]
    simp only
    rw [a4]
    rfl
  have c5 : chkB ⟨d.k, d.o, bestF d.k d.o w, 11⟩ = true := by
    have := (wr_ok (w := 11) c4 (by simp only; decide) (by decide) (by decide)).2.1
    rw [← (wr_ok (w := 11) c4 (by simp only; decide) (by decide) (by decide)).1, e5] at this
    exact this
  have a5 : accD ⟨d.k, d.o, bestF d.k d.o w, 11⟩ = true := hacc
  have e6 : wrD ⟨d.k, d.o, bestF d.k d.o w, 11⟩ 15 = ⟨d.k, d.o, bestF d.k d.o w, 15⟩ := by
    rw [(wr_ok (w := 15) c5 (by simp only; decide) (by decide) (by decide)).1]
    simp only
    rw [a5]
    rfl
  have c6 : chkB ⟨d.k, d.o, bestF d.k d.o w, 15⟩ = true := by
    have := (wr_ok (w := 15) c5 (by simp only; decide) (by decide) (by decide)).2.1
    rw [← (wr_ok (w := 15) c5 (by simp only; decide) (by decide) (by decide)).1, e6] at this
    exact this
  refine ⟨?_, e1, e2, e3, e4, e5, e6, c6, hacc, hn⟩
  unfold initD
  rw [if_pos h, e1, e2, e3, e4, e5, e6]
/-- behind any of the steps the state may be -/
theorem steps_ok {d : Dv} {w : Nat} (h : chkB d = true) (hs : d.s < 256) : ∀ j, j ≤ 5 → chkB ⟨d.k, d.o, d.g, stepsS (accD d) w d.s j⟩ = true ∧ stepsS (accD d) w d.s j < 256 := by
  intro j
  induction j with
  | zero => exact fun _ => ⟨h, hs⟩
  | succ j ih =>
    intro hj
    obtain ⟨h1, h2⟩ := ih (by omega)
    rw [stepsS_succ (by omega)]
    have hb : bitL.getD j 0 ≠ 0 ∧ bitL.getD j 0 < 256 := by
      have key : ∀ j : Fin 5, bitL.getD j.val 0 ≠ 0 ∧ bitL.getD j.val 0 < 256 := by decide
      exact key ⟨j, by omega⟩
    unfold stepS
    split
    · exact ⟨h1, h2⟩
    · exact ⟨(wr_ok h1 h2 hb.2 hb.1).2.1, wrS_lt h2⟩
/-- Write of a word that is not 0, on a state that may be -/
theorem wr_val {k : Int} {o g s w : Nat} (h : chkB ⟨k, o, g, s⟩ = true) (hs : s < 256) (hw : w < 256) (h0 : w ≠ 0) : wrD ⟨k, o, g, s⟩ w = ⟨k, o, g, wrS (acceptF k o g) s w⟩ := (wr_ok h hs hw h0).1
/-- a live device, its guest accepted: broken; what it does then -/
theorem live_brk {k : Int} {o g : Nat} (h : chkB ⟨k, o, g, 15⟩ = true) (ha : acceptF k o g = true) : brkD ⟨k, o, g, 15⟩ = ⟨k, o, g, 79⟩ ∧ brkE ⟨k, o, g, 15⟩ = 0 ∧ chkB ⟨k, o, g, 79⟩ = true ∧ wrD ⟨k, o, g, 79⟩ 15 = ⟨k, o, g, 79⟩ ∧ runsB ⟨k, o, g, 15⟩ = true ∧ runsB ⟨k, o, g, 79⟩ = false := by
  have hb : brkD ⟨k, o, g, 15⟩ = ⟨k, o, g, 15 ||| 64⟩ ∧ brkE ⟨k, o, g, 15⟩ = 0 ∧ chkB ⟨k, o, g, 15 ||| 64⟩ = true := brk_ok h (by simp only; decide) (by simp only; decide)
  rw [show (15 ||| 64 : Nat) = 79 by decide] at hb
  have hc : chkB ⟨k, o, g, 79⟩ = true := hb.2.2
  refine ⟨hb.1, hb.2.1, hc, ?_, ?_, ?_⟩
  · rw [wr_val hc (by decide) (by decide) (by decide), ha]
    have : wrS true 79 15 = 79 := by decide
    rw [this]
  · unfold runsB
    rw [h]
    show (true && (15 : Nat).testBit 2 && !(15 : Nat).testBit 6 && !(15 : Nat).testBit 7) = true
    decide
  · unfold runsB
    rw [hc]
    show (true && (79 : Nat).testBit 2 && !(79 : Nat).testBit 6 && !(79 : Nat).testBit 7) = false
    decide
/-- the reference's Best, for a device that may be -/
theorem best_new {k : Int} {o : Nat} (w : Nat) (h : newB k o = true) (ho : o < N64) : bestR k o w = bestF k o w ∧ bestE k o = 0 := by
  have hb : bestB k o = true := by
    unfold newB at h
    rw [Bool.and_eq_true, knownF_iff ho] at h
    unfold bestB
    rw [Bool.and_eq_true, decide_eq_true_eq]
    exact ⟨allF_pos.2 h.1.1, h.2⟩
  unfold bestR bestE
  rw [if_pos hb, if_pos hb]
  exact ⟨rfl, rfl⟩
end Go.Proofs.Ytfiogaollejdbaa
