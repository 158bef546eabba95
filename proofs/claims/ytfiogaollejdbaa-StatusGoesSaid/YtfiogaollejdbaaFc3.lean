/- feat.settle: with add, with drop. Conditions: as each theorem names them. Written by mkfc.py. -/
import Derived.Test.YtfiogaollejdbaaFc2
namespace Go.Proofs.Ytfiogaollejdbaa
open Go.ChangeShapes Go.WideShapes Go.ChangeAt Go.RowKit
set_option linter.unusedVariables false
set_option maxRecDepth 100000

/-- a pass that changed something is followed by one more -/
def msz (z : Nat) (u : Value) : Nat := if intOf u = (z : Int) then 0 else 1
theorem msz_lt {z x y : Nat} (h : x = z) (h2 : ¬ y = z) : msz z (.int .u64 x) < msz z (.int .u64 y) := by
  have e1 : msz z (.int .u64 x) = 0 := by
    unfold msz
    rw [if_pos (by rw [h]; rfl)]
  have e2 : msz z (.int .u64 y) = 1 := by
    unfold msz
    exact if_neg (fun e : (y : Int) = (z : Int) => h2 (by omega))
  rw [e1, e2]
  decide

set_option maxHeartbeats 4000000 in
theorem fsettle_add_net (s : Nat) (hs : s < N64) (w : World) :
    Calls Try.prog 33 #[.int .i64 1, .int .u64 s, .func (.func 52) #[] #[]] w fun e w' => e = .returned (.int .u64 (runF addF ruleL s : Nat)) ∧ Below w.heap.size w w' := by
  have H2 := hid_mk (show runF addF ruleL (runF addF ruleL s) = runF addF ruleL s from runA_two 1 s)
  have HL := hid_mk (show runF addF ruleL s < N64 from runA_lt hs (fun r h => h))
  have HS := hid_mk hs
  have hL : ∃ z, z = runF addF ruleL s := ⟨_, rfl⟩
  obtain ⟨z, hz⟩ := hL
  rw [← hz] at H2 HL ⊢
  have HZ := hid_mk hz
  clear hz hs
  go_enter Try.func33, Try.ntmps33
  go_wp2_with fail
  refine (frules_net _).mono ?_
  rintro e w1 ⟨rfl, hb1, hR⟩
  have HR := hid_mk hR
  have HB1 := hid_mk hb1
  generalize hbb : w.heap.size = bb at *
  clear hR hb1
  go_wp2_with fail
  go_loopw [1, 8, 10] (fun u b r wr => ∃ s1 : Nat, u = .int .u64 s1 ∧ Hid (s1 = s ∨ s1 = z) ∧ Hid (Below w1.heap.size w1 wr)) (fun u _ _ _ => msz z u)
  case atStart => exact ⟨s, rfl, hid_mk (Or.inl rfl), hid_mk (Below.refl _ _)⟩
  case round =>
    obtain ⟨s1, rfl, hs1, hb⟩ := hrel
    have HS1 : Hid (s1 < N64 ∧ z = runF addF ruleL s1) := by
      refine hid_mk ?_
      rcases hs1.out with rfl | rfl
      · exact ⟨HS.out, HZ.out⟩
      · exact ⟨HL.out, H2.out.symm⟩
    go_wp2_with fail
    obtain ⟨wo, hwo⟩ : ∃ wo : World, wo = wr := ⟨_, rfl⟩
    go_loopw [1, 10, 16] (fun u r i wr => ∃ (q x : Nat), q ≤ 5 ∧ x < N64 ∧ x = runF addF (ruleL.take q) s1 ∧ u = .int .u64 x ∧ i = .int .i64 q ∧ Below w1.heap.size w1 wr) (fun _ _ i _ => 5 - (intOf i).toNat)
    case atStart => exact ⟨0, s1, by omega, HS1.out.1, rfl, rfl, rfl, by subst hwo; exact hb.out⟩
    case round =>
      obtain ⟨q, x, hq, hx, hxr, rfl, rfl, hbq⟩ := hrel
      have hr := HR.out.below hbq
      obtain rfl | rfl | rfl | rfl | rfl | rfl : q = 0 ∨ q = 1 ∨ q = 2 ∨ q = 3 ∨ q = 4 ∨ q = 5 := by omega
      · -- rule 0
        have HB := hid_mk (fun w => fbroken 18 17 x (by decide) (by decide) hx w)
        have HC := hid_mk (fun w => fadd 18 17 x (by decide) (by decide) hx w)
        have k0 := hr.c0
        have k1 := hr.c1
        have hlt := hr.lt
        have HRun := hid_mk (runF_succ addF ruleL s1 0 (by decide))
        rw [show ruleL.getD 0 (0, 0) = (18, 17) by decide] at HRun
        have HX := hid_mk hxr
        have HQ := hid_mk hbq
        have HXL := hid_mk hx
        cases hbr : brF (18, 17) x
        · rw [hbr] at HB
          have HE : Hid (x = runF addF (ruleL.take 1) s1) := by
            refine hid_mk ?_
            rw [HRun.out, ← HX.out]
            unfold addF
            rw [hbr]
            rfl
          clear hbr HRun hxr hr hbq hx
          go_wp2_with fail
          refine (HB.out _).mono ?_
          rintro e w3 ⟨rfl, hb3⟩
          have HB3 := hid_mk (below_two ((Below.refl _ wr).alloc (Nat.le_refl _) _) hb3)
          go_wp2_with fail
          go_roundw
          case rel => exact ⟨1, x, by omega, HXL.out, HE.out, rfl, rfl, below_two HQ.out HB3.out⟩
          case measure => simp [intOf]
        · rw [hbr] at HB
          have HE : Hid (x ||| 2 ^ 17 = runF addF (ruleL.take 1) s1) := by
            refine hid_mk ?_
            rw [HRun.out, ← HX.out]
            unfold addF
            rw [hbr]
            rfl
          have HN := hid_mk (show x ||| 2 ^ 17 < N64 from or_lt hx (one_lt (n := 17) (by decide)))
          clear hbr HRun hxr hr hbq hx
          generalize x ||| 2 ^ 17 = y at *
          go_wp2_with fail
          refine (HB.out _).mono ?_
          rintro e w3 ⟨rfl, hb3⟩
          have HB3 := hid_mk (below_two ((Below.refl _ wr).alloc (Nat.le_refl _) _) hb3)
          have g0 := (hb3.cell (p := ⟨wr.heap.size, 0, none⟩) (by go_simp)).trans (show _ = some (Value.int .i64 18) by go_simp)
          have g1 := (hb3.cell (p := ⟨wr.heap.size, 1, none⟩) (by go_simp)).trans (show _ = some (Value.int .i64 17) by go_simp)
          have g2 : wr.heap.size < w3.heap.size := Nat.lt_of_lt_of_le (by simp) hb3.size
          clear hb3
          go_wp2_with fail
          refine (HC.out _).mono ?_
          rintro e w4 ⟨rfl, hb4⟩
          have HB4 := hid_mk (below_two HB3.out hb4)
          go_wp2_with fail
          go_roundw
          case rel => exact ⟨1, y, by omega, HN.out, HE.out, rfl, rfl, below_two HQ.out HB4.out⟩
          case measure => simp [intOf]
      · -- rule 1
        have HB := hid_mk (fun w => fbroken 19 17 x (by decide) (by decide) hx w)
        have HC := hid_mk (fun w => fadd 19 17 x (by decide) (by decide) hx w)
        have k0 := hr.c2
        have k1 := hr.c3
        have hlt := hr.lt
        have HRun := hid_mk (runF_succ addF ruleL s1 1 (by decide))
        rw [show ruleL.getD 1 (0, 0) = (19, 17) by decide] at HRun
        have HX := hid_mk hxr
        have HQ := hid_mk hbq
        have HXL := hid_mk hx
        cases hbr : brF (19, 17) x
        · rw [hbr] at HB
          have HE : Hid (x = runF addF (ruleL.take 2) s1) := by
            refine hid_mk ?_
            rw [HRun.out, ← HX.out]
            unfold addF
            rw [hbr]
            rfl
          clear hbr HRun hxr hr hbq hx
          go_wp2_with fail
          refine (HB.out _).mono ?_
          rintro e w3 ⟨rfl, hb3⟩
          have HB3 := hid_mk (below_two ((Below.refl _ wr).alloc (Nat.le_refl _) _) hb3)
          go_wp2_with fail
          go_roundw
          case rel => exact ⟨2, x, by omega, HXL.out, HE.out, rfl, rfl, below_two HQ.out HB3.out⟩
          case measure => simp [intOf]
        · rw [hbr] at HB
          have HE : Hid (x ||| 2 ^ 17 = runF addF (ruleL.take 2) s1) := by
            refine hid_mk ?_
            rw [HRun.out, ← HX.out]
            unfold addF
            rw [hbr]
            rfl
          have HN := hid_mk (show x ||| 2 ^ 17 < N64 from or_lt hx (one_lt (n := 17) (by decide)))
          clear hbr HRun hxr hr hbq hx
          generalize x ||| 2 ^ 17 = y at *
          go_wp2_with fail
          refine (HB.out _).mono ?_
          rintro e w3 ⟨rfl, hb3⟩
          have HB3 := hid_mk (below_two ((Below.refl _ wr).alloc (Nat.le_refl _) _) hb3)
          have g0 := (hb3.cell (p := ⟨wr.heap.size, 0, none⟩) (by go_simp)).trans (show _ = some (Value.int .i64 19) by go_simp)
          have g1 := (hb3.cell (p := ⟨wr.heap.size, 1, none⟩) (by go_simp)).trans (show _ = some (Value.int .i64 17) by go_simp)
          have g2 : wr.heap.size < w3.heap.size := Nat.lt_of_lt_of_le (by simp) hb3.size
          clear hb3
          go_wp2_with fail
          refine (HC.out _).mono ?_
          rintro e w4 ⟨rfl, hb4⟩
          have HB4 := hid_mk (below_two HB3.out hb4)
          go_wp2_with fail
          go_roundw
          case rel => exact ⟨2, y, by omega, HN.out, HE.out, rfl, rfl, below_two HQ.out HB4.out⟩
          case measure => simp [intOf]
      · -- rule 2
        have HB := hid_mk (fun w => fbroken 22 17 x (by decide) (by decide) hx w)
        have HC := hid_mk (fun w => fadd 22 17 x (by decide) (by decide) hx w)
        have k0 := hr.c4
        have k1 := hr.c5
        have hlt := hr.lt
        have HRun := hid_mk (runF_succ addF ruleL s1 2 (by decide))
        rw [show ruleL.getD 2 (0, 0) = (22, 17) by decide] at HRun
        have HX := hid_mk hxr
        have HQ := hid_mk hbq
        have HXL := hid_mk hx
        cases hbr : brF (22, 17) x
        · rw [hbr] at HB
          have HE : Hid (x = runF addF (ruleL.take 3) s1) := by
            refine hid_mk ?_
            rw [HRun.out, ← HX.out]
            unfold addF
            rw [hbr]
            rfl
          clear hbr HRun hxr hr hbq hx
          go_wp2_with fail
          refine (HB.out _).mono ?_
          rintro e w3 ⟨rfl, hb3⟩
          have HB3 := hid_mk (below_two ((Below.refl _ wr).alloc (Nat.le_refl _) _) hb3)
          go_wp2_with fail
          go_roundw
          case rel => exact ⟨3, x, by omega, HXL.out, HE.out, rfl, rfl, below_two HQ.out HB3.out⟩
          case measure => simp [intOf]
        · rw [hbr] at HB
          have HE : Hid (x ||| 2 ^ 17 = runF addF (ruleL.take 3) s1) := by
            refine hid_mk ?_
            rw [HRun.out, ← HX.out]
            unfold addF
            rw [hbr]
            rfl
          have HN := hid_mk (show x ||| 2 ^ 17 < N64 from or_lt hx (one_lt (n := 17) (by decide)))
          clear hbr HRun hxr hr hbq hx
          generalize x ||| 2 ^ 17 = y at *
          go_wp2_with fail
          refine (HB.out _).mono ?_
          rintro e w3 ⟨rfl, hb3⟩
          have HB3 := hid_mk (below_two ((Below.refl _ wr).alloc (Nat.le_refl _) _) hb3)
          have g0 := (hb3.cell (p := ⟨wr.heap.size, 0, none⟩) (by go_simp)).trans (show _ = some (Value.int .i64 22) by go_simp)
          have g1 := (hb3.cell (p := ⟨wr.heap.size, 1, none⟩) (by go_simp)).trans (show _ = some (Value.int .i64 17) by go_simp)
          have g2 : wr.heap.size < w3.heap.size := Nat.lt_of_lt_of_le (by simp) hb3.size
          clear hb3
          go_wp2_with fail
          refine (HC.out _).mono ?_
          rintro e w4 ⟨rfl, hb4⟩
          have HB4 := hid_mk (below_two HB3.out hb4)
          go_wp2_with fail
          go_roundw
          case rel => exact ⟨3, y, by omega, HN.out, HE.out, rfl, rfl, below_two HQ.out HB4.out⟩
          case measure => simp [intOf]
      · -- rule 3
        have HB := hid_mk (fun w => fbroken 23 17 x (by decide) (by decide) hx w)
        have HC := hid_mk (fun w => fadd 23 17 x (by decide) (by decide) hx w)
        have k0 := hr.c6
        have k1 := hr.c7
        have hlt := hr.lt
        have HRun := hid_mk (runF_succ addF ruleL s1 3 (by decide))
        rw [show ruleL.getD 3 (0, 0) = (23, 17) by decide] at HRun
        have HX := hid_mk hxr
        have HQ := hid_mk hbq
        have HXL := hid_mk hx
        cases hbr : brF (23, 17) x
        · rw [hbr] at HB
          have HE : Hid (x = runF addF (ruleL.take 4) s1) := by
            refine hid_mk ?_
            rw [HRun.out, ← HX.out]
            unfold addF
            rw [hbr]
            rfl
          clear hbr HRun hxr hr hbq hx
          go_wp2_with fail
          refine (HB.out _).mono ?_
          rintro e w3 ⟨rfl, hb3⟩
          have HB3 := hid_mk (below_two ((Below.refl _ wr).alloc (Nat.le_refl _) _) hb3)
          go_wp2_with fail
          go_roundw
          case rel => exact ⟨4, x, by omega, HXL.out, HE.out, rfl, rfl, below_two HQ.out HB3.out⟩
          case measure => simp [intOf]
        · rw [hbr] at HB
          have HE : Hid (x ||| 2 ^ 17 = runF addF (ruleL.take 4) s1) := by
            refine hid_mk ?_
            rw [HRun.out, ← HX.out]
            unfold addF
            rw [hbr]
            rfl
          have HN := hid_mk (show x ||| 2 ^ 17 < N64 from or_lt hx (one_lt (n := 17) (by decide)))
          clear hbr HRun hxr hr hbq hx
          generalize x ||| 2 ^ 17 = y at *
          go_wp2_with fail
          refine (HB.out _).mono ?_
          rintro e w3 ⟨rfl, hb3⟩
          have HB3 := hid_mk (below_two ((Below.refl _ wr).alloc (Nat.le_refl _) _) hb3)
          have g0 := (hb3.cell (p := ⟨wr.heap.size, 0, none⟩) (by go_simp)).trans (show _ = some (Value.int .i64 23) by go_simp)
          have g1 := (hb3.cell (p := ⟨wr.heap.size, 1, none⟩) (by go_simp)).trans (show _ = some (Value.int .i64 17) by go_simp)
          have g2 : wr.heap.size < w3.heap.size := Nat.lt_of_lt_of_le (by simp) hb3.size
          clear hb3
          go_wp2_with fail
          refine (HC.out _).mono ?_
          rintro e w4 ⟨rfl, hb4⟩
          have HB4 := hid_mk (below_two HB3.out hb4)
          go_wp2_with fail
          go_roundw
          case rel => exact ⟨4, y, by omega, HN.out, HE.out, rfl, rfl, below_two HQ.out HB4.out⟩
          case measure => simp [intOf]
      · -- rule 4
        have HB := hid_mk (fun w => fbroken 23 5 x (by decide) (by decide) hx w)
        have HC := hid_mk (fun w => fadd 23 5 x (by decide) (by decide) hx w)
        have k0 := hr.c8
        have k1 := hr.c9
        have hlt := hr.lt
        have HRun := hid_mk (runF_succ addF ruleL s1 4 (by decide))
        rw [show ruleL.getD 4 (0, 0) = (23, 5) by decide] at HRun
        have HX := hid_mk hxr
        have HQ := hid_mk hbq
        have HXL := hid_mk hx
        cases hbr : brF (23, 5) x
        · rw [hbr] at HB
          have HE : Hid (x = runF addF (ruleL.take 5) s1) := by
            refine hid_mk ?_
            rw [HRun.out, ← HX.out]
            unfold addF
            rw [hbr]
            rfl
          clear hbr HRun hxr hr hbq hx
          go_wp2_with fail
          refine (HB.out _).mono ?_
          rintro e w3 ⟨rfl, hb3⟩
          have HB3 := hid_mk (below_two ((Below.refl _ wr).alloc (Nat.le_refl _) _) hb3)
          go_wp2_with fail
          go_roundw
          case rel => exact ⟨5, x, by omega, HXL.out, HE.out, rfl, rfl, below_two HQ.out HB3.out⟩
          case measure => simp [intOf]
        · rw [hbr] at HB
          have HE : Hid (x ||| 2 ^ 5 = runF addF (ruleL.take 5) s1) := by
            refine hid_mk ?_
            rw [HRun.out, ← HX.out]
            unfold addF
            rw [hbr]
            rfl
          have HN := hid_mk (show x ||| 2 ^ 5 < N64 from or_lt hx (one_lt (n := 5) (by decide)))
          clear hbr HRun hxr hr hbq hx
          generalize x ||| 2 ^ 5 = y at *
          go_wp2_with fail
          refine (HB.out _).mono ?_
          rintro e w3 ⟨rfl, hb3⟩
          have HB3 := hid_mk (below_two ((Below.refl _ wr).alloc (Nat.le_refl _) _) hb3)
          have g0 := (hb3.cell (p := ⟨wr.heap.size, 0, none⟩) (by go_simp)).trans (show _ = some (Value.int .i64 23) by go_simp)
          have g1 := (hb3.cell (p := ⟨wr.heap.size, 1, none⟩) (by go_simp)).trans (show _ = some (Value.int .i64 5) by go_simp)
          have g2 : wr.heap.size < w3.heap.size := Nat.lt_of_lt_of_le (by simp) hb3.size
          clear hb3
          go_wp2_with fail
          refine (HC.out _).mono ?_
          rintro e w4 ⟨rfl, hb4⟩
          have HB4 := hid_mk (below_two HB3.out hb4)
          go_wp2_with fail
          go_roundw
          case rel => exact ⟨5, y, by omega, HN.out, HE.out, rfl, rfl, below_two HQ.out HB4.out⟩
          case measure => simp [intOf]
      · -- the end of a pass
        have HX : Hid (x = z) := hid_mk (by rw [hxr, HS1.out.2]; rfl)
        have HQ := hid_mk hbq
        clear hxr hr hbq hx
        by_cases he : x = s1
        · have hd : ((x : Int) == (s1 : Int)) = true := by simp [he]
          have HXE := hid_mk he
          clear he
          go_wp2_with fail
          go_ret
          exact ⟨ret_eq (by rw [← HX.out]; rfl), by have h := HB1.out; rw [← hbb] at h; exact below_two h HQ.out⟩
        · have hd : ((x : Int) == (s1 : Int)) = false := by simp; omega
          have HXE := hid_mk he
          clear he
          go_wp2_with fail
          go_roundw
          case rel => exact ⟨x, rfl, hid_mk (Or.inr HX.out), hid_mk HQ.out⟩
          case measure =>
            have h1 := HX.out
            have h2 := HXE.out
            have h3 : ¬ s1 = z := by omega
            exact msz_lt h1 h3
set_option maxHeartbeats 1000000 in
theorem fsettle_add_not (k : Int) (hk : ¬ k = 1) (s : Nat) (w : World) :
    Calls Try.prog 33 #[.int .i64 k, .int .u64 s, .func (.func 52) #[] #[]] w fun e w' => e = .returned (.int .u64 (s : Nat)) ∧ Below w.heap.size w w' := by
  go_enter Try.func33, Try.ntmps33
  go_wp2_with fail
  refine (frules_not k hk _).mono ?_
  rintro e w1 ⟨rfl, rfl⟩
  go_wp2_with fail
  go_loopw [1, 8] (fun u b wr => u = .int .u64 s ∧ wr = w1) (fun _ _ _ => 0)
  case atStart => exact ⟨rfl, rfl⟩
  case round =>
    obtain ⟨rfl, rfl⟩ := hrel
    go_wp2_with fail
    go_loopw [1, 16] (fun u i wr2 => u = .int .u64 s ∧ i = .int .i64 0 ∧ wr2 = wr) (fun _ _ _ => 0)
    case atStart => exact ⟨rfl, rfl, rfl⟩
    case round =>
      obtain ⟨rfl, rfl, rfl⟩ := hrel
      go_wp2_with fail
      go_ret
      exact ⟨rfl, Below.refl _ _⟩
theorem fsettle_add (k : Int) (s : Nat) (hs : s < N64) (w : World) :
    Calls Try.prog 33 #[.int .i64 k, .int .u64 s, .func (.func 52) #[] #[]] w fun e w' => e = .returned (.int .u64 (runF addF (ruleK k) s : Nat)) ∧ Below w.heap.size w w' := by
  by_cases hk : k = 1
  · subst hk
    exact fsettle_add_net s hs w
  · unfold ruleK
    rw [if_neg hk]
    exact fsettle_add_not k hk s w

set_option maxHeartbeats 4000000 in
theorem fsettle_drop_net (s : Nat) (hs : s < N64) (w : World) :
    Calls Try.prog 33 #[.int .i64 1, .int .u64 s, .func (.func 35) #[] #[]] w fun e w' => e = .returned (.int .u64 (runF dropF ruleL s : Nat)) ∧ Below w.heap.size w w' := by
  have H2 := hid_mk (show runF dropF ruleL (runF dropF ruleL s) = runF dropF ruleL s from runD_two 1 s hs)
  have HL := hid_mk (show runF dropF ruleL s < N64 from runD_lt hs)
  have HS := hid_mk hs
  have hL : ∃ z, z = runF dropF ruleL s := ⟨_, rfl⟩
  obtain ⟨z, hz⟩ := hL
  rw [← hz] at H2 HL ⊢
  have HZ := hid_mk hz
  clear hz hs
  go_enter Try.func33, Try.ntmps33
  go_wp2_with fail
  refine (frules_net _).mono ?_
  rintro e w1 ⟨rfl, hb1, hR⟩
  have HR := hid_mk hR
  have HB1 := hid_mk hb1
  generalize hbb : w.heap.size = bb at *
  clear hR hb1
  go_wp2_with fail
  go_loopw [1, 8, 10] (fun u b r wr => ∃ s1 : Nat, u = .int .u64 s1 ∧ Hid (s1 = s ∨ s1 = z) ∧ Hid (Below w1.heap.size w1 wr)) (fun u _ _ _ => msz z u)
  case atStart => exact ⟨s, rfl, hid_mk (Or.inl rfl), hid_mk (Below.refl _ _)⟩
  case round =>
    obtain ⟨s1, rfl, hs1, hb⟩ := hrel
    have HS1 : Hid (s1 < N64 ∧ z = runF dropF ruleL s1) := by
      refine hid_mk ?_
      rcases hs1.out with rfl | rfl
      · exact ⟨HS.out, HZ.out⟩
      · exact ⟨HL.out, H2.out.symm⟩
    go_wp2_with fail
    obtain ⟨wo, hwo⟩ : ∃ wo : World, wo = wr := ⟨_, rfl⟩
    go_loopw [1, 10, 16] (fun u r i wr => ∃ (q x : Nat), q ≤ 5 ∧ x < N64 ∧ x = runF dropF (ruleL.take q) s1 ∧ u = .int .u64 x ∧ i = .int .i64 q ∧ Below w1.heap.size w1 wr) (fun _ _ i _ => 5 - (intOf i).toNat)
    case atStart => exact ⟨0, s1, by omega, HS1.out.1, rfl, rfl, rfl, by subst hwo; exact hb.out⟩
    case round =>
      obtain ⟨q, x, hq, hx, hxr, rfl, rfl, hbq⟩ := hrel
      have hr := HR.out.below hbq
      obtain rfl | rfl | rfl | rfl | rfl | rfl : q = 0 ∨ q = 1 ∨ q = 2 ∨ q = 3 ∨ q = 4 ∨ q = 5 := by omega
      · -- rule 0
        have HB := hid_mk (fun w => fbroken 18 17 x (by decide) (by decide) hx w)
        have HC := hid_mk (fun w => fdrop 18 17 x (by decide) (by decide) hx w)
        have k0 := hr.c0
        have k1 := hr.c1
        have hlt := hr.lt
        have HRun := hid_mk (runF_succ dropF ruleL s1 0 (by decide))
        rw [show ruleL.getD 0 (0, 0) = (18, 17) by decide] at HRun
        have HX := hid_mk hxr
        have HQ := hid_mk hbq
        have HXL := hid_mk hx
        cases hbr : brF (18, 17) x
        · rw [hbr] at HB
          have HE : Hid (x = runF dropF (ruleL.take 1) s1) := by
            refine hid_mk ?_
            rw [HRun.out, ← HX.out]
            unfold dropF
            rw [hbr]
            rfl
          clear hbr HRun hxr hr hbq hx
          go_wp2_with fail
          refine (HB.out _).mono ?_
          rintro e w3 ⟨rfl, hb3⟩
          have HB3 := hid_mk (below_two ((Below.refl _ wr).alloc (Nat.le_refl _) _) hb3)
          go_wp2_with fail
          go_roundw
          case rel => exact ⟨1, x, by omega, HXL.out, HE.out, rfl, rfl, below_two HQ.out HB3.out⟩
          case measure => simp [intOf]
        · rw [hbr] at HB
          have HE : Hid (minF x (2 ^ 18) = runF dropF (ruleL.take 1) s1) := by
            refine hid_mk ?_
            rw [HRun.out, ← HX.out]
            unfold dropF
            rw [hbr]
            rfl
          have HN := hid_mk (show minF x (2 ^ 18) < N64 from minF_lt hx)
          clear hbr HRun hxr hr hbq hx
          generalize minF x (2 ^ 18) = y at *
          go_wp2_with fail
          refine (HB.out _).mono ?_
          rintro e w3 ⟨rfl, hb3⟩
          have HB3 := hid_mk (below_two ((Below.refl _ wr).alloc (Nat.le_refl _) _) hb3)
          have g0 := (hb3.cell (p := ⟨wr.heap.size, 0, none⟩) (by go_simp)).trans (show _ = some (Value.int .i64 18) by go_simp)
          have g1 := (hb3.cell (p := ⟨wr.heap.size, 1, none⟩) (by go_simp)).trans (show _ = some (Value.int .i64 17) by go_simp)
          have g2 : wr.heap.size < w3.heap.size := Nat.lt_of_lt_of_le (by simp) hb3.size
          clear hb3
          go_wp2_with fail
          refine (HC.out _).mono ?_
          rintro e w4 ⟨rfl, hb4⟩
          have HB4 := hid_mk (below_two HB3.out hb4)
          go_wp2_with fail
          go_roundw
          case rel => exact ⟨1, y, by omega, HN.out, HE.out, rfl, rfl, below_two HQ.out HB4.out⟩
          case measure => simp [intOf]
      · -- rule 1
        have HB := hid_mk (fun w => fbroken 19 17 x (by decide) (by decide) hx w)
        have HC := hid_mk (fun w => fdrop 19 17 x (by decide) (by decide) hx w)
        have k0 := hr.c2
        have k1 := hr.c3
        have hlt := hr.lt
        have HRun := hid_mk (runF_succ dropF ruleL s1 1 (by decide))
        rw [show ruleL.getD 1 (0, 0) = (19, 17) by decide] at HRun
        have HX := hid_mk hxr
        have HQ := hid_mk hbq
        have HXL := hid_mk hx
        cases hbr : brF (19, 17) x
        · rw [hbr] at HB
          have HE : Hid (x = runF dropF (ruleL.take 2) s1) := by
            refine hid_mk ?_
            rw [HRun.out, ← HX.out]
            unfold dropF
            rw [hbr]
            rfl
          clear hbr HRun hxr hr hbq hx
          go_wp2_with fail
          refine (HB.out _).mono ?_
          rintro e w3 ⟨rfl, hb3⟩
          have HB3 := hid_mk (below_two ((Below.refl _ wr).alloc (Nat.le_refl _) _) hb3)
          go_wp2_with fail
          go_roundw
          case rel => exact ⟨2, x, by omega, HXL.out, HE.out, rfl, rfl, below_two HQ.out HB3.out⟩
          case measure => simp [intOf]
        · rw [hbr] at HB
          have HE : Hid (minF x (2 ^ 19) = runF dropF (ruleL.take 2) s1) := by
            refine hid_mk ?_
            rw [HRun.out, ← HX.out]
            unfold dropF
            rw [hbr]
            rfl
          have HN := hid_mk (show minF x (2 ^ 19) < N64 from minF_lt hx)
          clear hbr HRun hxr hr hbq hx
          generalize minF x (2 ^ 19) = y at *
          go_wp2_with fail
          refine (HB.out _).mono ?_
          rintro e w3 ⟨rfl, hb3⟩
          have HB3 := hid_mk (below_two ((Below.refl _ wr).alloc (Nat.le_refl _) _) hb3)
          have g0 := (hb3.cell (p := ⟨wr.heap.size, 0, none⟩) (by go_simp)).trans (show _ = some (Value.int .i64 19) by go_simp)
          have g1 := (hb3.cell (p := ⟨wr.heap.size, 1, none⟩) (by go_simp)).trans (show _ = some (Value.int .i64 17) by go_simp)
          have g2 : wr.heap.size < w3.heap.size := Nat.lt_of_lt_of_le (by simp) hb3.size
          clear hb3
          go_wp2_with fail
          refine (HC.out _).mono ?_
          rintro e w4 ⟨rfl, hb4⟩
          have HB4 := hid_mk (below_two HB3.out hb4)
          go_wp2_with fail
          go_roundw
          case rel => exact ⟨2, y, by omega, HN.out, HE.out, rfl, rfl, below_two HQ.out HB4.out⟩
          case measure => simp [intOf]
      · -- rule 2
        have HB := hid_mk (fun w => fbroken 22 17 x (by decide) (by decide) hx w)
        have HC := hid_mk (fun w => fdrop 22 17 x (by decide) (by decide) hx w)
        have k0 := hr.c4
        have k1 := hr.c5
        have hlt := hr.lt
        have HRun := hid_mk (runF_succ dropF ruleL s1 2 (by decide))
        rw [show ruleL.getD 2 (0, 0) = (22, 17) by decide] at HRun
        have HX := hid_mk hxr
        have HQ := hid_mk hbq
        have HXL := hid_mk hx
        cases hbr : brF (22, 17) x
        · rw [hbr] at HB
          have HE : Hid (x = runF dropF (ruleL.take 3) s1) := by
            refine hid_mk ?_
            rw [HRun.out, ← HX.out]
            unfold dropF
            rw [hbr]
            rfl
          clear hbr HRun hxr hr hbq hx
          go_wp2_with fail
          refine (HB.out _).mono ?_
          rintro e w3 ⟨rfl, hb3⟩
          have HB3 := hid_mk (below_two ((Below.refl _ wr).alloc (Nat.le_refl _) _) hb3)
          go_wp2_with fail
          go_roundw
          case rel => exact ⟨3, x, by omega, HXL.out, HE.out, rfl, rfl, below_two HQ.out HB3.out⟩
          case measure => simp [intOf]
        · rw [hbr] at HB
          have HE : Hid (minF x (2 ^ 22) = runF dropF (ruleL.take 3) s1) := by
            refine hid_mk ?_
            rw [HRun.out, ← HX.out]
            unfold dropF
            rw [hbr]
            rfl
          have HN := hid_mk (show minF x (2 ^ 22) < N64 from minF_lt hx)
          clear hbr HRun hxr hr hbq hx
          generalize minF x (2 ^ 22) = y at *
          go_wp2_with fail
          refine (HB.out _).mono ?_
          rintro e w3 ⟨rfl, hb3⟩
          have HB3 := hid_mk (below_two ((Below.refl _ wr).alloc (Nat.le_refl _) _) hb3)
          have g0 := (hb3.cell (p := ⟨wr.heap.size, 0, none⟩) (by go_simp)).trans (show _ = some (Value.int .i64 22) by go_simp)
          have g1 := (hb3.cell (p := ⟨wr.heap.size, 1, none⟩) (by go_simp)).trans (show _ = some (Value.int .i64 17) by go_simp)
          have g2 : wr.heap.size < w3.heap.size := Nat.lt_of_lt_of_le (by simp) hb3.size
          clear hb3
          go_wp2_with fail
          refine (HC.out _).mono ?_
          rintro e w4 ⟨rfl, hb4⟩
          have HB4 := hid_mk (below_two HB3.out hb4)
          go_wp2_with fail
          go_roundw
          case rel => exact ⟨3, y, by omega, HN.out, HE.out, rfl, rfl, below_two HQ.out HB4.out⟩
          case measure => simp [intOf]
      · -- rule 3
        have HB := hid_mk (fun w => fbroken 23 17 x (by decide) (by decide) hx w)
        have HC := hid_mk (fun w => fdrop 23 17 x (by decide) (by decide) hx w)
        have k0 := hr.c6
        have k1 := hr.c7
        have hlt := hr.lt
        have HRun := hid_mk (runF_succ dropF ruleL s1 3 (by decide))
        rw [show ruleL.getD 3 (0, 0) = (23, 17) by decide] at HRun
        have HX := hid_mk hxr
        have HQ := hid_mk hbq
        have HXL := hid_mk hx
        cases hbr : brF (23, 17) x
        · rw [hbr] at HB
          have HE : Hid (x = runF dropF (ruleL.take 4) s1) := by
            refine hid_mk ?_
            rw [HRun.out, ← HX.out]
            unfold dropF
            rw [hbr]
            rfl
          clear hbr HRun hxr hr hbq hx
          go_wp2_with fail
          refine (HB.out _).mono ?_
          rintro e w3 ⟨rfl, hb3⟩
          have HB3 := hid_mk (below_two ((Below.refl _ wr).alloc (Nat.le_refl _) _) hb3)
          go_wp2_with fail
          go_roundw
          case rel => exact ⟨4, x, by omega, HXL.out, HE.out, rfl, rfl, below_two HQ.out HB3.out⟩
          case measure => simp [intOf]
        · rw [hbr] at HB
          have HE : Hid (minF x (2 ^ 23) = runF dropF (ruleL.take 4) s1) := by
            refine hid_mk ?_
            rw [HRun.out, ← HX.out]
            unfold dropF
            rw [hbr]
            rfl
          have HN := hid_mk (show minF x (2 ^ 23) < N64 from minF_lt hx)
          clear hbr HRun hxr hr hbq hx
          generalize minF x (2 ^ 23) = y at *
          go_wp2_with fail
          refine (HB.out _).mono ?_
          rintro e w3 ⟨rfl, hb3⟩
          have HB3 := hid_mk (below_two ((Below.refl _ wr).alloc (Nat.le_refl _) _) hb3)
          have g0 := (hb3.cell (p := ⟨wr.heap.size, 0, none⟩) (by go_simp)).trans (show _ = some (Value.int .i64 23) by go_simp)
          have g1 := (hb3.cell (p := ⟨wr.heap.size, 1, none⟩) (by go_simp)).trans (show _ = some (Value.int .i64 17) by go_simp)
          have g2 : wr.heap.size < w3.heap.size := Nat.lt_of_lt_of_le (by simp) hb3.size
          clear hb3
          go_wp2_with fail
          refine (HC.out _).mono ?_
          rintro e w4 ⟨rfl, hb4⟩
          have HB4 := hid_mk (below_two HB3.out hb4)
          go_wp2_with fail
          go_roundw
          case rel => exact ⟨4, y, by omega, HN.out, HE.out, rfl, rfl, below_two HQ.out HB4.out⟩
          case measure => simp [intOf]
      · -- rule 4
        have HB := hid_mk (fun w => fbroken 23 5 x (by decide) (by decide) hx w)
        have HC := hid_mk (fun w => fdrop 23 5 x (by decide) (by decide) hx w)
        have k0 := hr.c8
        have k1 := hr.c9
        have hlt := hr.lt
        have HRun := hid_mk (runF_succ dropF ruleL s1 4 (by decide))
        rw [show ruleL.getD 4 (0, 0) = (23, 5) by decide] at HRun
        have HX := hid_mk hxr
        have HQ := hid_mk hbq
        have HXL := hid_mk hx
        cases hbr : brF (23, 5) x
        · rw [hbr] at HB
          have HE : Hid (x = runF dropF (ruleL.take 5) s1) := by
            refine hid_mk ?_
            rw [HRun.out, ← HX.out]
            unfold dropF
            rw [hbr]
            rfl
          clear hbr HRun hxr hr hbq hx
          go_wp2_with fail
          refine (HB.out _).mono ?_
          rintro e w3 ⟨rfl, hb3⟩
          have HB3 := hid_mk (below_two ((Below.refl _ wr).alloc (Nat.le_refl _) _) hb3)
          go_wp2_with fail
          go_roundw
          case rel => exact ⟨5, x, by omega, HXL.out, HE.out, rfl, rfl, below_two HQ.out HB3.out⟩
          case measure => simp [intOf]
        · rw [hbr] at HB
          have HE : Hid (minF x (2 ^ 23) = runF dropF (ruleL.take 5) s1) := by
            refine hid_mk ?_
            rw [HRun.out, ← HX.out]
            unfold dropF
            rw [hbr]
            rfl
          have HN := hid_mk (show minF x (2 ^ 23) < N64 from minF_lt hx)
          clear hbr HRun hxr hr hbq hx
          generalize minF x (2 ^ 23) = y at *
          go_wp2_with fail
          refine (HB.out _).mono ?_
          rintro e w3 ⟨rfl, hb3⟩
          have HB3 := hid_mk (below_two ((Below.refl _ wr).alloc (Nat.le_refl _) _) hb3)
          have g0 := (hb3.cell (p := ⟨wr.heap.size, 0, none⟩) (by go_simp)).trans (show _ = some (Value.int .i64 23) by go_simp)
          have g1 := (hb3.cell (p := ⟨wr.heap.size, 1, none⟩) (by go_simp)).trans (show _ = some (Value.int .i64 5) by go_simp)
          have g2 : wr.heap.size < w3.heap.size := Nat.lt_of_lt_of_le (by simp) hb3.size
          clear hb3
          go_wp2_with fail
          refine (HC.out _).mono ?_
          rintro e w4 ⟨rfl, hb4⟩
          have HB4 := hid_mk (below_two HB3.out hb4)
          go_wp2_with fail
          go_roundw
          case rel => exact ⟨5, y, by omega, HN.out, HE.out, rfl, rfl, below_two HQ.out HB4.out⟩
          case measure => simp [intOf]
      · -- the end of a pass
        have HX : Hid (x = z) := hid_mk (by rw [hxr, HS1.out.2]; rfl)
        have HQ := hid_mk hbq
        clear hxr hr hbq hx
        by_cases he : x = s1
        · have hd : ((x : Int) == (s1 : Int)) = true := by simp [he]
          have HXE := hid_mk he
          clear he
          go_wp2_with fail
          go_ret
          exact ⟨ret_eq (by rw [← HX.out]; rfl), by have h := HB1.out; rw [← hbb] at h; exact below_two h HQ.out⟩
        · have hd : ((x : Int) == (s1 : Int)) = false := by simp; omega
          have HXE := hid_mk he
          clear he
          go_wp2_with fail
          go_roundw
          case rel => exact ⟨x, rfl, hid_mk (Or.inr HX.out), hid_mk HQ.out⟩
          case measure =>
            have h1 := HX.out
            have h2 := HXE.out
            have h3 : ¬ s1 = z := by omega
            exact msz_lt h1 h3
set_option maxHeartbeats 1000000 in
theorem fsettle_drop_not (k : Int) (hk : ¬ k = 1) (s : Nat) (w : World) :
    Calls Try.prog 33 #[.int .i64 k, .int .u64 s, .func (.func 35) #[] #[]] w fun e w' => e = .returned (.int .u64 (s : Nat)) ∧ Below w.heap.size w w' := by
  go_enter Try.func33, Try.ntmps33
  go_wp2_with fail
  refine (frules_not k hk _).mono ?_
  rintro e w1 ⟨rfl, rfl⟩
  go_wp2_with fail
  go_loopw [1, 8] (fun u b wr => u = .int .u64 s ∧ wr = w1) (fun _ _ _ => 0)
  case atStart => exact ⟨rfl, rfl⟩
  case round =>
    obtain ⟨rfl, rfl⟩ := hrel
    go_wp2_with fail
    go_loopw [1, 16] (fun u i wr2 => u = .int .u64 s ∧ i = .int .i64 0 ∧ wr2 = wr) (fun _ _ _ => 0)
    case atStart => exact ⟨rfl, rfl, rfl⟩
    case round =>
      obtain ⟨rfl, rfl, rfl⟩ := hrel
      go_wp2_with fail
      go_ret
      exact ⟨rfl, Below.refl _ _⟩
theorem fsettle_drop (k : Int) (s : Nat) (hs : s < N64) (w : World) :
    Calls Try.prog 33 #[.int .i64 k, .int .u64 s, .func (.func 35) #[] #[]] w fun e w' => e = .returned (.int .u64 (runF dropF (ruleK k) s : Nat)) ∧ Below w.heap.size w w' := by
  by_cases hk : k = 1
  · subst hk
    exact fsettle_drop_net s hs w
  · unfold ruleK
    rw [if_neg hk]
    exact fsettle_drop_not k hk s w
end Go.Proofs.Ytfiogaollejdbaa
