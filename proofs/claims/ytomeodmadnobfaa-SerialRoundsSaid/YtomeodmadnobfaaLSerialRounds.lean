/-
  PROVED: dumbwaiterlaw01.SerialRounds returns true for every size, and what was in memory stays as it was. Conditions: none.
-/
import Derived.Test.YtomeodmadnobfaaRows
import Derived.Test.YtomeodmadnobfaaSer8
import Derived.WalkKit
import Derived.ProofKit
import Derived.OpenShut
import Derived.ShutString
import Derived.ChangeOld
import Derived.Below
import Derived.Carry
import Derived.Lib.SmallJoins
import Derived.Deep.RegionHeld3
import Derived.Deep.QuietTactic
import Derived.BigQuiet
import Derived.Maps.OwnSet
import Derived.Maps.Views
import Derived.WalkSpells
import Derived.OwnWalk
namespace Go.Proofs.Ytomeodmadnobfaa.serialRounds
open Go.ChangeShapes Go.WideShapes Go.ChangeAt Go.RowKit
set_option linter.unusedVariables false


open Go.Maps

/-! ### plain facts on a round -/
def pw (k s : Int) : Bool := decide (k < s) || decide (k = 2 * s)
theorem pw_in {k s : Int} (h : k < 2 * s) : pw k s = decide (k < s) := by
  unfold pw
  rw [show decide (k = 2 * s) = false from by simp; omega]
  simp
theorem pw_end {s : Int} : pw (2 * s) s = true := by
  unfold pw
  simp
theorem mod_lo {k s : Int} (h0 : 0 ≤ k) (h1 : k < s) : k % s = k := Int.emod_eq_of_lt h0 h1
theorem mod_hi {k s : Int} (h0 : s ≤ k) (h1 : k < 2 * s) : k % s = k - s := by
  have e : k = (k - s) + s * 1 := by omega
  rw [e, Int.add_mul_emod_self_left, Int.emod_eq_of_lt (by omega) (by omega)]
  omega
theorem mod_end {s : Int} : (2 * s) % s = 0 := by
  rw [Int.mul_comm]
  exact Int.mul_emod_right s 2
theorem step_A {k s : Int} (hs : 1 ≤ s) (h0 : 0 ≤ k) (h1 : k < 2 * s) : goA (k % s) 1 s = (k + 1) % s := by
  unfold goA
  by_cases c : k < s
  · rw [mod_lo h0 c]
    by_cases c2 : k + 1 < s
    · rw [if_pos c2, mod_lo (by omega) c2]
    · rw [if_neg c2, mod_hi (by omega) (by omega)]
  · rw [mod_hi (by omega) h1]
    by_cases c2 : k - s + 1 < s
    · rw [if_pos c2, mod_hi (by omega) (by omega)]
      omega
    · rw [if_neg c2, show k + 1 = 2 * s from by omega, mod_end]
      omega
theorem step_W {k s : Int} (hs : 1 ≤ s) (h0 : 0 ≤ k) (h1 : k < 2 * s) : goW (k % s) 1 s (decide (k < s)) = pw (k + 1) s := by
  unfold goW pw
  by_cases c : k < s
  · rw [mod_lo h0 c]
    by_cases c2 : k + 1 < s
    · rw [if_pos c2]
      simp [c, c2]
    · rw [if_neg c2]
      simp [c, c2]
      omega
  · rw [mod_hi (by omega) h1]
    by_cases c2 : k - s + 1 < s
    · rw [if_pos c2]
      simp [c]
      omega
    · rw [if_neg c2]
      simp [c]
      omega
theorem btw_k {k s : Int} (hs : 1 ≤ s) (h0 : 0 ≤ k) (h1 : k < 2 * s) : btw 0 (k % s) s true (decide (k < s)) = k := by
  unfold btw btw1
  by_cases c : k < s
  · rw [mod_lo h0 c]
    simp [c]
    omega
  · rw [mod_hi (by omega) h1]
    simp [c]
    omega
theorem word_inj {i j s : Int} (hs : 1 ≤ s) (hs2 : s ≤ 32768) (i0 : 0 ≤ i) (i1 : i < 2 * s) (j0 : 0 ≤ j) (j1 : j < 2 * s) (h : wordI (i % s) (decide (i < s)) = wordI (j % s) (decide (j < s))) : i = j := by
  unfold wordI at h
  by_cases ci : i < s
  · rw [mod_lo i0 ci] at h
    by_cases cj : j < s
    · rw [mod_lo j0 cj] at h
      simp [ci, cj] at h
      omega
    · rw [mod_hi (by omega) j1] at h
      simp [ci, cj] at h
      omega
  · rw [mod_hi (by omega) i1] at h
    by_cases cj : j < s
    · rw [mod_lo j0 cj] at h
      simp [ci, cj] at h
      omega
    · rw [mod_hi (by omega) j1] at h
      simp [ci, cj] at h
      omega
theorem word_wf (a : Int) (b : Bool) : (Lit.int .u16 (wordI a b)).wf = true := by
  have : 0 ≤ wordI a b ∧ wordI a b < 65536 := by
    unfold wordI
    cases b <;> simp <;> omega
  simp [Lit.wf, IntKind.min, IntKind.max, IntKind.signed, IntKind.bits]
  omega

/-! ### the map -/
theorem klaw : Keyed Try.prog 28 := int_keyed Try.underlying28
theorem zeroB (w : World) : (zeroValue 4).run Try.prog w = .ok (.bool false) w := by kernel_rfl
theorem key_ok (x : Int) (h : (Lit.int .u16 x).wf = true) : keyOf Try.prog 28 (.int .u16 x) = some (.int .u16 x) := keyOf_int_mk Try.underlying28 h
abbrev owns (w : World) (b n : Nat) (D : DataW Unit) : Prop := w.ownsMap Try.prog 28 (plainElem Try.prog 4) b n D
theorem owns_below {w w' : World} {b n : Nat} {D : DataW Unit} (h : owns w b n D) (hb : Below w.heap.size w w') : owns w' b n D := by
  have hlt := World.ownsMap.lt h
  obtain ⟨es, clock, h1, F, hs, hD⟩ := h
  exact ⟨es, clock, (hb.block b hlt).trans h1, F, hs, hD⟩
theorem owns_set {w : World} {b n : Nat} {D : DataW Unit} (h : owns w b n D) {a : Addr} (ha : b ≠ a.block) (u : Value) : owns (w.setCell a u) b n D := World.ownsMap.setCell h ha u
/-- a lookup of a word that is not there -/
theorem look_no {w : World} {b n : Nat} {D : DataW Unit} (h : owns w b n D) (x : Int) (hx : (Lit.int .u16 x).wf = true) (hD : D.atKey (.int .u16 x) (.lit (.bool false)) = .lit (.bool false)) :
    (Instr.lookup 49 (.map (some b)) (.int .u16 x) false).run Try.prog w = .ok (.bool false) w := by
  obtain ⟨v, ps, hrun, hv⟩ := World.ownsMap.lookup h klaw Try.underlying49 (zeroB w) (plainElem_bool Try.underlying4 false) (key_ok x hx)
  rw [hD] at hv
  have hvb : v = .bool false := by
    unfold plainElem at hv
    rw [Try.underlying4] at hv
    split at hv
    · simp at hv
      rw [hv.1]
    · split at hv <;> simp at hv
    · split at hv <;> simp at hv
    · simp at hv
  rw [hrun, hvb]

/-- what holds at the head of round k: where the position is, and which words are in the map -/
structure Inv (w0 : World) (pb mb : Nat) (s k : Int) (wr : World) : Prop where
  below : Below w0.heap.size w0 wr
  pbig : w0.heap.size ≤ pb
  mbig : w0.heap.size ≤ mb
  ne : pb ≠ mb
  plt : pb < wr.heap.size
  cell0 : wr.cell? ⟨pb, 0, none⟩ = some (.int .i64 (k % s))
  cell1 : wr.cell? ⟨pb, 1, none⟩ = some (.bool (pw k s))
  froz0 : wr.frozen? ⟨pb, 0, none⟩ = false
  froz1 : wr.frozen? ⟨pb, 1, none⟩ = false
  map : ∃ (n : Nat) (D : DataW Unit), owns wr mb n D ∧ (n : Int) ≤ k ∧ ∀ j : Int, k ≤ j → j < 2 * s → D.atKey (.int .u16 (wordI (j % s) (decide (j < s)))) (.lit (.bool false)) = .lit (.bool false)

theorem inv_start {w u2 : World} {s : Int} (hs : 1 ≤ s) (hb : Below w.heap.size w u2) :
    Inv w u2.heap.size (u2.heap.size + 1) s 0 ((u2.alloc (.cells #[.int .i64 0, .bool true] 23)).alloc (.map #[] 0)) where
  below := (hb.alloc hb.size _).alloc (by simp; have := hb.size; omega) _
  pbig := hb.size
  mbig := by
    have := hb.size
    omega
  ne := by omega
  plt := by simp; omega
  cell0 := by simp [go_sem]
  cell1 := by
    rw [pw_in (by omega), show decide ((0 : Int) < s) = true from by simp; omega]
    simp [go_sem]
  froz0 := by simp [go_sem]
  froz1 := by simp [go_sem]
  map := ⟨0, .map [], by
    have h := World.ownsMap_made (H := Unit) (u2.alloc (.cells #[.int .i64 0, .bool true] 23)) Try.prog 28 (plainElem Try.prog 4)
    simp at h
    exact h, by omega, fun j _ _ => rfl⟩

theorem keepS {B : Nat} {u w w' : World} {x y : Value} (hB : B < u.heap.size) (h : Below u.heap.size u w ∧ w.cell? ⟨B, 0, none⟩ = some x ∧ w.cell? ⟨B, 1, none⟩ = some y) (hb : Below w.heap.size w w') :
    Below u.heap.size u w' ∧ w'.cell? ⟨B, 0, none⟩ = some x ∧ w'.cell? ⟨B, 1, none⟩ = some y := by
  obtain ⟨h1, h2, h3⟩ := h
  have hz := h1.size
  exact ⟨h1.trans (hb.mono hz), (hb.cell (p := ⟨B, 0, none⟩) (Nat.lt_of_lt_of_le hB hz)).trans h2, (hb.cell (p := ⟨B, 1, none⟩) (Nat.lt_of_lt_of_le hB hz)).trans h3⟩

theorem between_k (k s : Int) (w : World) (hs : 1 ≤ s) (hs2 : s ≤ 32768) (h0 : 0 ≤ k) (h1 : k < 2 * s) :
    Calls Try.prog 29 #[.agg #[.int .i64 0, .bool true], .agg #[.int .i64 (k % s), .bool (decide (k < s))], .int .i64 s] w fun e w' => e = .returned (.tuple #[.int .i64 k, .int .i64 0]) ∧ Below w.heap.size w w' := by
  have h := between_yes 0 (k % s) s true (decide (k < s)) w hs hs2 (by omega) (by omega) (Int.emod_nonneg k (by omega)) (Int.emod_lt_of_pos k (by omega))
  rw [btw_k hs h0 h1] at h
  exact h
theorem go_k (k s : Int) (w : World) (hs : 1 ≤ s) (hs2 : s ≤ 32768) (h0 : 0 ≤ k) (h1 : k < 2 * s) :
    Calls Try.prog 10 #[.agg #[.int .i64 (k % s), .bool (decide (k < s))], .int .i64 1, .int .i64 s] w fun e w' => e = .returned (.tuple #[.agg #[.int .i64 ((k + 1) % s), .bool (pw (k + 1) s)], .int .i64 0]) ∧ Below w.heap.size w w' := by
  have h := go_any (k % s) 1 s (decide (k < s)) w hs hs2 (Int.emod_nonneg k (by omega)) (Int.emod_lt_of_pos k (by omega)) (by omega) (by omega)
  rw [step_A hs h0 h1, step_W hs h0 h1] at h
  exact h

/-- old memory through a round, up to the map's store -/
theorem down3 {w wr X1 X2 X3 : World} {pb mb nq : Nat} {s k : Int} (I : Inv w pb mb s k wr) (hB : Below wr.heap.size wr X1) (hb3 : Below X1.heap.size X1 X2) (hg : (X2.drewN nq).grownBy X3 (some mb)) : Below w.heap.size w X3 := by
  have q0 := I.below.size
  have q1 := hB.size
  have q2 := hb3.size
  have h2 : Below w.heap.size w (X2.drewN nq) := (I.below.trans (hB.mono q0)).trans ((hb3.mono (Nat.le_trans q0 q1)).trans ⟨rfl, rfl, rfl, Nat.le_refl _, fun _ _ => rfl⟩)
  exact h2.grown hg (by simp; omega) (fun j hj => by cases hj; exact I.mbig)
theorem block3 {w wr X1 X2 X3 : World} {pb mb nq : Nat} {s k : Int} (I : Inv w pb mb s k wr) (hB : Below wr.heap.size wr X1) (hb3 : Below X1.heap.size X1 X2) (hg : (X2.drewN nq).grownBy X3 (some mb)) : X3.heap[pb]? = wr.heap[pb]? := by
  have q1 := hB.size
  have q2 := hb3.size
  have hp := I.plt
  have e1 := hB.block pb hp
  have e2 := hb3.block pb (by omega)
  have e3 : X3.heap[pb]? = X2.heap[pb]? := hg.block pb (by simp; omega) (fun e => I.ne (by cases e; rfl))
  rw [e3, e2, e1]
theorem inv_next {w wr X1 X2 X3 X4 : World} {pb mb nq n : Nat} {s k : Int} {D : DataW Unit} (I : Inv w pb mb s k wr) (hs : 1 ≤ s) (hs2 : s ≤ 32768) (h0 : 0 ≤ k) (hk : k < 2 * s) (hB : Below wr.heap.size wr X1) (hb3 : Below X1.heap.size X1 X2) (hg : (X2.drewN nq).grownBy X3 (some mb))
    (hb5 : Below X3.heap.size X3 X4) (own : owns X3 mb (n + 1) (D.put (.int .u16 (wordI (k % s) (decide (k < s)))) (.lit (.bool true)))) (hn : (n : Int) ≤ k)
    (hD : ∀ j : Int, k ≤ j → j < 2 * s → D.atKey (.int .u16 (wordI (j % s) (decide (j < s)))) (.lit (.bool false)) = .lit (.bool false)) :
    Inv w pb mb s (k + 1) ((X4.setCell ⟨pb, 0, none⟩ (.int .i64 ((k + 1) % s))).setCell ⟨pb, 1, none⟩ (.bool (pw (k + 1) s))) := by
  have q0 := I.below.size
  have q1 := hB.size
  have q2 := hb3.size
  have q3 : X2.heap.size ≤ X3.heap.size := hg.size
  have q4 := hb5.size
  have hp := I.plt
  have B3 := block3 I hB hb3 hg
  have B4 : X4.heap[pb]? = wr.heap[pb]? := (hb5.block pb (by omega)).trans B3
  have c0 := World.cell?_of_block (w := wr) (w' := X4) (a := ⟨pb, 0, none⟩) B4
  have c1 := World.cell?_of_block (w := wr) (w' := X4) (a := ⟨pb, 1, none⟩) B4
  have f0 := World.frozen?_of_block (w := wr) (w' := X4) (a := ⟨pb, 0, none⟩) B4
  have f1 := World.frozen?_of_block (w := wr) (w' := X4) (a := ⟨pb, 1, none⟩) B4
  rw [I.cell0] at c0
  rw [I.cell1] at c1
  rw [I.froz0] at f0
  rw [I.froz1] at f1
  have hne := I.ne
  exact {
    below := (((down3 I hB hb3 hg).trans (hb5.mono (by omega))).setCell I.pbig _).setCell I.pbig _
    pbig := I.pbig
    mbig := I.mbig
    ne := I.ne
    plt := by simp; omega
    cell0 := by simp [go_sem, c0]
    cell1 := by simp [go_sem, c1]
    froz0 := by simp [f0]
    froz1 := by simp [f1]
    map := ⟨n + 1, _, owns_set (owns_set (owns_below own hb5) (fun e => hne e.symm) _) (fun e => hne e.symm) _, by omega, fun j hj1 hj2 => by
      rw [atKey_put_other (fun e => by
        have e' : wordI (j % s) (decide (j < s)) = wordI (k % s) (decide (k < s)) := by simpa using e
        have := word_inj hs hs2 (by omega) hj2 h0 hk e'
        omega)]
      exact hD j (by omega) hj2⟩ }

theorem walk (a0 : Int) (w0 : (Lit.int .i64 a0).wf = true) (w : World) :
    Calls Try.prog 9 #[.int .i64 a0] w fun e w' => e = .returned (.bool true) ∧ Below w.heap.size w w' := by
  clear w0
  have hmm := @run_makeMap Try.prog
  go_enter Try.func9, Try.ntmps9
  go_wp2_with fail
  refine (lives_any _).mono ?_
  rintro e W1 ⟨rfl, hb1⟩
  have z1 := hb1.size
  go_wp2_with fail
  refine (pick_at _ _ _ (by omega) (by omega)).mono ?_
  rintro e w' ⟨z, ⟨hz0, hz1, hzx⟩, rfl, rfl⟩
  clear hzx
  go_wp2_with fail
  refine (start_any _).mono ?_
  rintro e W2 ⟨rfl, hb2⟩
  have z2 := hb2.size
  go_wp2_with fail
  have I0 := inv_start (s := 1 + z) (by omega) (hb1.trans (hb2.mono z1))
  go_loopw [5] (fun i wr => ∃ k : Int, 0 ≤ k ∧ k ≤ 2 * (1 + z) ∧ i = .int .i64 k ∧ Inv w W2.heap.size (W2.heap.size + 1) (1 + z) k wr) (fun i _ => (2 * (1 + z) - intOf i).toNat)
  case atStart => exact ⟨0, by omega, by omega, rfl, I0⟩
  case round =>
    clear I0 hmm
    obtain ⟨k, hk0, hk1, rfl, I⟩ := hrel
    have hpb := I.plt
    by_cases hk : k < 2 * (1 + z)
    · have c0 := I.cell0
      have c1 := I.cell1
      rw [pw_in hk] at c1
      go_wp2_with fail
      go_region_held3 (fun w' => Below wr.heap.size wr w' ∧ w'.cell? ⟨W2.heap.size, 0, none⟩ = some (.int .i64 (k % (1 + z))) ∧ w'.cell? ⟨W2.heap.size, 1, none⟩ = some (.bool (decide (k < 1 + z))))
        (first | exact ⟨(Below.refl _ _).drew, c0, c1⟩ | exact keepS hpb (by assumption) (by assumption) | assumption)
        (first | (go_at_call 14; refine (start_any _).mono ?_; rintro e w' ⟨rfl, hb⟩) | (go_at_call 29; refine (between_k k (1 + z) _ (by omega) (by omega) hk0 hk).mono ?_; rintro e w' ⟨rfl, hb⟩))
      obtain ⟨hB, r0, r1⟩ : Below wr.heap.size wr w' ∧ w'.cell? ⟨W2.heap.size, 0, none⟩ = some (.int .i64 (k % (1 + z))) ∧ w'.cell? ⟨W2.heap.size, 1, none⟩ = some (.bool (decide (k < 1 + z))) := by assumption
      clear hb c0 c1
      obtain ⟨X1, rfl⟩ : ∃ X1, X1 = w' := ⟨_, rfl⟩
      obtain ⟨n, D, hown, hn, hD⟩ := I.map
      have own1 := owns_below hown hB
      have q1 := hB.size
      go_wp2_with fail
      refine (word_any _ _ _).mono ?_
      rintro e X2 ⟨rfl, hb3⟩
      have own2 := owns_below own1 hb3
      have q2 := hb3.size
      have s0 := (hb3.cell (p := ⟨W2.heap.size, 0, none⟩) (Nat.lt_of_lt_of_le hpb q1)).trans r0
      have s1 := (hb3.cell (p := ⟨W2.heap.size, 1, none⟩) (Nat.lt_of_lt_of_le hpb q1)).trans r1
      have hlook : ∀ m : Nat, (Instr.lookup 49 (.map (some (W2.heap.size + 1))) (.int .u16 (wordI (k % (1 + z)) (decide (k < 1 + z)))) false).run Try.prog (X2.drewN m) = .ok (.bool false) (X2.drewN m) :=
        fun m => look_no (w := X2.drewN m) own2 _ (word_wf _ _) (hD k (by omega) hk)
      clear r0 r1
      go_wp2_with fail
      go_quiet (fail)
      clear hlook
      have own3 : owns (X2.drewN nq) (W2.heap.size + 1) n D := own2
      have hnm : n < maxLen := by
        unfold maxLen
        omega
      go_wp2_with (at_mapUpdate; refine wpList_mapUpdate_own _ rfl _ _ _ 49 rfl 28 4 klaw Try.underlying49 _ (W2.heap.size + 1) n _ rfl own3 hnm _ _ _ rfl rfl (key_ok _ (word_wf _ _)) _ [] (plainElem_bool Try.underlying4 true) ?_)
      intro X3 own4 hg
      have B3 := block3 I hB hb3 hg
      have c0 := (World.cell?_of_block (w := wr) (w' := X3) (a := ⟨W2.heap.size, 0, none⟩) B3).trans I.cell0
      have c1 := (World.cell?_of_block (w := wr) (w' := X3) (a := ⟨W2.heap.size, 1, none⟩) B3).trans I.cell1
      rw [pw_in hk] at c1
      clear own1 own2 own3 hown s0 s1
      go_wp2_with fail
      refine (go_k k (1 + z) _ (by omega) (by omega) hk0 hk).mono ?_
      rintro e X4 ⟨rfl, hb5⟩
      have q3 : X2.heap.size ≤ X3.heap.size := hg.size
      have q4 := hb5.size
      have B4 : X4.heap[W2.heap.size]? = wr.heap[W2.heap.size]? := (hb5.block W2.heap.size (by omega)).trans B3
      have d0 := (World.cell?_of_block (w := wr) (w' := X4) (a := ⟨W2.heap.size, 0, none⟩) B4).trans I.cell0
      have d1 := (World.cell?_of_block (w := wr) (w' := X4) (a := ⟨W2.heap.size, 1, none⟩) B4).trans I.cell1
      have f0 := (World.frozen?_of_block (w := wr) (w' := X4) (a := ⟨W2.heap.size, 0, none⟩) B4).trans I.froz0
      have f1 := (World.frozen?_of_block (w := wr) (w' := X4) (a := ⟨W2.heap.size, 1, none⟩) B4).trans I.froz1
      have I2 := inv_next I (by omega) (by omega) hk0 hk hB hb3 hg hb5 own4 hn hD
      have HI : Hid (Inv w W2.heap.size (W2.heap.size + 1) (1 + z) (k + 1) ((X4.setCell ⟨W2.heap.size, 0, none⟩ (.int .i64 ((k + 1) % (1 + z)))).setCell ⟨W2.heap.size, 1, none⟩ (.bool (pw (k + 1) (1 + z))))) := I2
      clear I2 I B3 B4 c0 c1 own4 hg hD hB hb3 hb5
      go_wp2
      go_roundw
      case rel => exact ⟨k + 1, by omega, by omega, by go_num, HI.out⟩
      case measure =>
        simp [intOf]
        omega
    · have hke : k = 2 * (1 + z) := by omega
      subst hke
      have c0 := I.cell0
      have c1 := I.cell1
      rw [mod_end] at c0
      rw [pw_end] at c1
      have B := I.below
      have Bz := I.pbig
      clear hk0 hk1 hk I
      go_wp2_with fail
      go_region_held3 (fun w' => Below wr.heap.size wr w' ∧ w'.cell? ⟨W2.heap.size, 0, none⟩ = some (.int .i64 0) ∧ w'.cell? ⟨W2.heap.size, 1, none⟩ = some (.bool true))
        (first | exact ⟨(Below.refl _ _).drew, c0, c1⟩ | exact keepS hpb (by assumption) (by assumption) | assumption)
        (first | (go_at_call 14; refine (start_any _).mono ?_; rintro e w' ⟨rfl, hb⟩))
      obtain ⟨hB, r0, r1⟩ : Below wr.heap.size wr w' ∧ w'.cell? ⟨W2.heap.size, 0, none⟩ = some (.int .i64 0) ∧ w'.cell? ⟨W2.heap.size, 1, none⟩ = some (.bool true) := by assumption
      clear hb
      go_wp2_with fail
      go_ret
      exact ⟨rfl, B.trans (hB.mono B.size)⟩

/-! ### the row's frame -/
theorem own : ownKnob Try.prog.godebug = none := by kernel_rfl
theorem laidOut : laidOutB Try.prog = true := by kernel_rfl

set_option maxRecDepth 100000 in
theorem lifted (os : Os) (started : os.Started) (H : Type) (enc : TypeId × Value → H) :
    ReturnsInHanded {} Try.checked os 9 .any (Rows.serialRoundsSpec.pre6 enc Try.prog Try.f9 Rows.serialRoundsRow.domain false) (Rows.serialRoundsSpec.post enc Try.prog Try.f9 false true false false) := by
  refine returnsInHanded_of_change (C := Try.checked) own started (by kernel_rfl) Try.func9
    (ChangeSpec.witness6 (enc := enc) (C := Try.checked) false ⟨#[], #[.int .i64 0], []⟩ 8 (by kernel_rfl) (by kernel_rfl) (by kernel_rfl) (by kernel_rfl)) ?_
  intro W base args ds gs before hval0 hW hcnd _
  have hval : ∀ (j : Nat) t v, Try.f9.params[j]? = some t → args[j]? = some v → Value.okWide Try.prog W .any base t v := hval0
  have hW' := hW
  obtain ⟨p, q, hA0, hV, rfl, hfz, hnd⟩ := hW
  have hA : DataW.TrodAll enc Try.prog W 0 (fun _ => true) true Try.f9.params.toList args.toList ds p := hA0
  rw [Try.params9] at hA hval
  obtain ⟨v0, vs0, d0, ds0, p0, q0, hargs, rfl, rfl, h0, r0⟩ := trodAll_cons hA
  obtain ⟨rfl, rfl, rfl⟩ := trodAll_nil r0
  obtain rfl : args = #[v0] := by cases args; simp_all
  obtain ⟨rfl, rfl⟩ := trodVars_none hV
  have k0 := h0
  have lt0 : ∀ x ∈ p0, x.block < W.heap.size := by
    obtain ⟨m, hm⟩ := k0
    exact DataW.trod_lt m _ _ _ hm
  obtain ⟨a0, rfl, rfl, rfl, w0⟩ := open_int Try.underlying3 (hval 0 3 v0 rfl rfl) h0
  clear hA0 hval0
  refine (walk a0 w0 W).mono fun e W' ⟨he, bel⟩ => ?_
  subst he
  exact ⟨_, rfl, _, _, _, [], _, [], hW', trodAll_mk1 (shut_bool Try.underlying4 _), (trodAll_cons_mk (Below.trod laidOut (by kernel_rfl) (of_decide_eq_true (by kernel_rfl)) k0 bel lt0) trodAll_mk0), rfl, bel.frame _, fun h => by cases h⟩

theorem over : Rows.serialRoundsRow.holds Try.pinned (OpenSpec.ofChange Rows.serialRoundsSpec) :=
  OpenClaim.holds_of_wide 9 Try.f9 rfl rfl rfl rfl rfl rfl rfl ⟨rfl, rfl, rfl, rfl, rfl⟩ rfl rfl rfl rfl rfl (by kernel_rfl) Try.func9 (by kernel_rfl)
    (of_decide_eq_true (by kernel_rfl)) (by unfold Func.isWrapper; first | (rw [if_pos (by decide +kernel)]; kernel_rfl) | (rw [if_neg (by decide +kernel)]; exact ⟨rfl, rfl⟩))
    (fun os started H enc _ => lifted os started H enc)

/-- THE STATEMENT -/
theorem serialRounds_holds : Rows.SerialRoundsSaid := over
#print axioms serialRounds_holds
end Go.Proofs.Ytomeodmadnobfaa.serialRounds
