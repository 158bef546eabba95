/- Gm5 Gm6: joined texts. Conditions: as each theorem names them. -/
import Derived.Test.YteolnghnlfeakaaKp05
import Derived.Deep.RegionHeld3
import Derived.Laws.MakeOwn
/- Contracts of gmem's Check, total, New and Regions. Conditions: as each theorem names them. -/
namespace Go.Proofs.Yteolnghnlfeakaa
open Go.ChangeShapes Go.WideShapes Go.ChangeAt Go.RowKit
set_option linter.unusedVariables false

/-- a slice of regions, nil too, that reads as L -/
def RegsAt (w : World) (v : Value) (L : List (Int × Int)) : Prop :=
  ((∃ a c, v = .slice a 0 c ∧ (a = none → c = 0)) ∧ L = []) ∨ ∃ b o c : Nat, v = .slice (some ⟨b, o, none⟩) L.length c ∧ b < w.heap.size ∧ L.length ≤ c ∧ ∀ j, j < L.length → w.cell? ⟨b, o + j * 2, none⟩ = some (.int .u64 (at_ L j).1) ∧ w.cell? ⟨b, o + j * 2 + 1, none⟩ = some (.int .u64 (at_ L j).2)
theorem RegsAt.below {w w' : World} {v : Value} {L : List (Int × Int)} (h : RegsAt w v L) (hb : Below w.heap.size w w') : RegsAt w' v L := by
  rcases h with h | ⟨b, o, c, h1, h2, h3, h4⟩
  · exact Or.inl h
  · have := hb.size
    exact Or.inr ⟨b, o, c, h1, by omega, h3, fun j hj => ⟨(hb.cell (p := ⟨b, o + j * 2, none⟩) h2).trans (h4 j hj).1, (hb.cell (p := ⟨b, o + j * 2 + 1, none⟩) h2).trans (h4 j hj).2⟩⟩
/-- words of 64 bits -/
def isRegs (L : List (Int × Int)) : Prop := ∀ r ∈ L, U64 r.1 ∧ U64 r.2
theorem isRegs_at {L : List (Int × Int)} (h : isRegs L) (i : Nat) : U64 (at_ L i).1 ∧ U64 (at_ L i).2 := by
  by_cases hi : i < L.length
  · have e : at_ L i = L[i] := by simp [at_, List.getD, hi]
    rw [e]
    exact h _ (List.getElem_mem hi)
  · have e : at_ L i = (0, 0) := by simp [at_, List.getD, hi]
    rw [e]
    simp [U64]

/-! ## total -/
theorem sumR_take_succ (L : List (Int × Int)) (k : Nat) (h : k < L.length) : sumR (L.take (k + 1)) = sumR (L.take k) + (at_ L k).2.toNat := off_step L k h
theorem total_any (v : Value) (L : List (Int × Int)) (w : World) (hv : RegsAt w v L) (hu : isRegs L) (hs : sumR L ≤ 1048576) (h16 : L.length ≤ 16) :
    Calls Try.prog 36 #[v] w fun e w' => e = .returned (.int .u64 (sumR L : Nat)) ∧ Below w.heap.size w w' := by
  rcases hv with ⟨⟨va, vc, rfl, _⟩, rfl⟩ | ⟨b, o, c, rfl, hb1, hb2, hb3⟩
  · go_enter Try.func36, Try.ntmps36
    go_wp2
    go_loop [3, 8] (fun n i => n = .int .u64 0 ∧ i = .int .i64 0) (fun _ i => 0)
    case atStart => exact ⟨rfl, rfl⟩
    case round =>
      obtain ⟨rfl, rfl⟩ := hrel
      go_wp2
      go_ret
      exact ⟨rfl, Below.refl _ _⟩
  · have HC := hid_mk hb3
    have HU := hid_mk hu
    have HS := hid_mk hs
    clear hb3 hu hs
    go_enter Try.func36, Try.ntmps36
    go_wp2
    go_loopw [3, 5, 8] (fun n _ i wr => ∃ k : Nat, k ≤ L.length ∧ i = .int .i64 k ∧ n = .int .u64 (sumR (L.take k) : Nat) ∧ Below w.heap.size w wr) (fun _ _ i _ => L.length - (intOf i).toNat)
    case atStart => exact ⟨0, Nat.zero_le _, rfl, rfl, Below.refl _ _⟩
    case round =>
      obtain ⟨k, hk, rfl, rfl, hbel⟩ := hrel
      by_cases hlt : k < L.length
      · have hc := HC.out k hlt
        have c0 := (hbel.cell (p := ⟨b, o + k * 2, none⟩) hb1).trans hc.1
        have c1 := (hbel.cell (p := ⟨b, o + k * 2 + 1, none⟩) hb1).trans hc.2
        have hst := sumR_take_succ L k hlt
        have hle : sumR (L.take (k + 1)) ≤ sumR L := off_le L (k + 1)
        have h0 := (isRegs_at HU.out k).2.1
        have hsum := HS.out
        have HST := hid_mk hst
        have hz := hbel.size
        have hbz : b < wr.heap.size := by omega
        have hw1 : IntKind.u64.wrap (((sumR (L.take k) : Nat) : Int) + (at_ L k).2) = ((sumR (L.take (k + 1)) : Nat) : Int) := by
          rw [IntKind.wrap_u64]
          omega
        have HW := hid_mk hw1
        clear hst hle hc hsum hw1 h0 hz
        generalize (at_ L k).1 = x at *
        generalize (at_ L k).2 = y at *
        go_wp2
        go_roundw
        case rel => exact ⟨k + 1, by omega, by go_num, by rw [HW.out], by repeat (first | exact hbel | (refine Below.setCell ?_ hbel.size _) | (refine Below.alloc ?_ hbel.size _))⟩
        case measure => simp [intOf]; omega
      · obtain rfl : k = L.length := by omega
        go_wp2
        go_ret
        exact ⟨ret_eq (by rw [List.take_of_length_le (Nat.le_refl _)]; rfl), hbel⟩

/-! ## Check -/
/-- what Check has seen when it comes to region k with so much room -/
structure ChkInv (L : List (Int × Int)) (k : Nat) (R : Int) : Prop where
  r0 : 0 ≤ R
  r1 : R ≤ 1048576
  same : okR (-1) 1048576 L = okR (if k = 0 then -1 else lastI (at_ L (k - 1)).1 (at_ L (k - 1)).2) R (L.drop k)
theorem ChkInv.start (L : List (Int × Int)) : ChkInv L 0 1048576 := ⟨by omega, by omega, rfl⟩
theorem drop_cons (L : List (Int × Int)) (k : Nat) (h : k < L.length) : L.drop k = at_ L k :: L.drop (k + 1) := by
  rw [List.drop_eq_getElem_cons h]
  simp [at_, List.getD, h]
theorem ChkInv.stop {L : List (Int × Int)} {k : Nat} {R : Int} (h : ChkInv L k R) (hk : k < L.length) (hu : isRegs L) (hc : (at_ L k).2 = 0 ∨ R < (at_ L k).2 ∨ lastI (at_ L k).1 (at_ L k).2 < (at_ L k).1 ∨ (k ≠ 0 ∧ (at_ L k).1 ≤ lastI (at_ L (k - 1)).1 (at_ L (k - 1)).2)) : okR (-1) 1048576 L = false := by
  rw [h.same, drop_cons L k hk]
  refine okR_cons_false ?_
  have hr0 := h.r0
  have hr1 := h.r1
  rintro ⟨h1, h2, h3, h4⟩
  have hw := lastI_ok (isRegs_at hu k).1.1 h1 h3
  rcases hc with hc | hc | hc | hc
  · omega
  · omega
  · omega
  · rw [if_neg hc.1] at h4
    omega
theorem ChkInv.next {L : List (Int × Int)} {k : Nat} {R : Int} (h : ChkInv L k R) (hk : k < L.length) (hu : isRegs L) (h1 : (at_ L k).2 ≠ 0) (h2 : (at_ L k).2 ≤ R) (h3 : (at_ L k).1 ≤ lastI (at_ L k).1 (at_ L k).2) (h4 : k = 0 ∨ lastI (at_ L (k - 1)).1 (at_ L (k - 1)).2 < (at_ L k).1) : ChkInv L (k + 1) (R - (at_ L k).2) := by
  have hU := isRegs_at hu k
  have hr0 := h.r0
  have hr1 := h.r1
  have hend : (at_ L k).1 + (at_ L k).2 ≤ 18446744073709551616 := by
    rcases Int.lt_or_le 18446744073709551616 ((at_ L k).1 + (at_ L k).2) with hgt | hle
    · have e : lastI (at_ L k).1 (at_ L k).2 = (at_ L k).1 + (at_ L k).2 - 1 - 18446744073709551616 := by
        unfold lastI
        rw [IntKind.wrap_u64, IntKind.wrap_u64]
        omega
      omega
    · exact hle
  have hw := lastI_ok hU.1.1 (show 1 ≤ (at_ L k).2 by omega) hend
  refine ⟨by omega, by omega, ?_⟩
  rw [h.same, drop_cons L k hk, if_neg (show ¬ k + 1 = 0 by omega), okR_cons_true ⟨by omega, h2, hend, ?_⟩]
  · rw [Nat.add_sub_cancel, hw]
  · by_cases hz : k = 0
    · rw [if_pos hz]
      omega
    · rw [if_neg hz]
      omega
theorem ChkInv.done {L : List (Int × Int)} {R : Int} (h : ChkInv L L.length R) : okR (-1) 1048576 L = true := by
  rw [h.same, List.drop_length]
  rfl
def chkE (L : List (Int × Int)) : Int := if L.length ≤ 16 ∧ okR (-1) 1048576 L = true then 0 else 2

/-- what a drawn region may rely on stays so behind a call that leaves old memory alone -/
theorem keep2 {u w w' : World} {b o o' : Nat} {x y : Value} (h : Below u.heap.size u w ∧ w.cell? ⟨b, o, none⟩ = some x ∧ w.cell? ⟨b, o', none⟩ = some y ∧ b < w.heap.size) (hb : Below w.heap.size w w') :
    Below u.heap.size u w' ∧ w'.cell? ⟨b, o, none⟩ = some x ∧ w'.cell? ⟨b, o', none⟩ = some y ∧ b < w'.heap.size :=
  ⟨h.1.trans (hb.mono h.1.size), (hb.cell (p := ⟨b, o, none⟩) h.2.2.2).trans h.2.1, (hb.cell (p := ⟨b, o', none⟩) h.2.2.2).trans h.2.2.1, Nat.lt_of_lt_of_le h.2.2.2 hb.size⟩

theorem keep4 {u w w' : World} {b o1 o2 d o3 o4 : Nat} {x y z t : Value} (h : Below u.heap.size u w ∧ (w.cell? ⟨b, o1, none⟩ = some x ∧ w.cell? ⟨b, o2, none⟩ = some y ∧ b < w.heap.size) ∧ w.cell? ⟨d, o3, none⟩ = some z ∧ w.cell? ⟨d, o4, none⟩ = some t ∧ d < w.heap.size) (hb : Below w.heap.size w w') :
    Below u.heap.size u w' ∧ (w'.cell? ⟨b, o1, none⟩ = some x ∧ w'.cell? ⟨b, o2, none⟩ = some y ∧ b < w'.heap.size) ∧ w'.cell? ⟨d, o3, none⟩ = some z ∧ w'.cell? ⟨d, o4, none⟩ = some t ∧ d < w'.heap.size :=
  ⟨h.1.trans (hb.mono h.1.size), ⟨(hb.cell (p := ⟨b, o1, none⟩) h.2.1.2.2).trans h.2.1.1, (hb.cell (p := ⟨b, o2, none⟩) h.2.1.2.2).trans h.2.1.2.1, Nat.lt_of_lt_of_le h.2.1.2.2 hb.size⟩, (hb.cell (p := ⟨d, o3, none⟩) h.2.2.2.2).trans h.2.2.1, (hb.cell (p := ⟨d, o4, none⟩) h.2.2.2.2).trans h.2.2.2.1, Nat.lt_of_lt_of_le h.2.2.2.2 hb.size⟩

set_option maxHeartbeats 4000000 in
theorem check_any (v : Value) (L : List (Int × Int)) (w : World) (hv : RegsAt w v L) (hu : isRegs L) (hm : L.length ≤ 4611686018427387904) :
    Calls Try.prog 35 #[v] w fun e w' => e = .returned (.int .i64 (chkE L)) ∧ Below w.heap.size w w' := by
  rcases hv with ⟨⟨va, vc, rfl, _⟩, rfl⟩ | ⟨b, o, c, rfl, hb1, hb2, hb3⟩
  · go_enter Try.func35, Try.ntmps35
    go_wp2
    go_loop [3, 11] (fun n i => n = .int .u64 1048576 ∧ i = .int .i64 0) (fun _ i => 0)
    case atStart => exact ⟨rfl, rfl⟩
    case round =>
      obtain ⟨rfl, rfl⟩ := hrel
      go_wp2
      go_ret
      exact ⟨rfl, Below.refl _ _⟩
  · by_cases h16 : 16 < L.length
    · have h16i : (16 : Int) < (L.length : Int) := by omega
      go_enter Try.func35, Try.ntmps35
      go_wp2
      go_ret
      refine ⟨ret_eq ?_, Below.refl _ _⟩
      unfold chkE
      rw [if_neg (by omega)]
      rfl
    · have HC := hid_mk hb3
      have HU := hid_mk hu
      have HM := hid_mk hm
      have h16i : (L.length : Int) ≤ 16 := by omega
      clear hb3 hu hm
      go_enter Try.func35, Try.ntmps35
      go_wp2
      go_loopw [3, 4, 5, 11] (fun n _ _ i wr => ∃ (k : Nat) (R : Int), k ≤ L.length ∧ i = .int .i64 k ∧ n = .int .u64 R ∧ ChkInv L k R ∧ Below w.heap.size w wr) (fun _ _ _ i _ => L.length - (intOf i).toNat)
      case atStart => exact ⟨0, 1048576, Nat.zero_le _, rfl, rfl, ChkInv.start L, Below.refl _ _⟩
      case round =>
        obtain ⟨k, R, hk, rfl, rfl, hinv, hbel⟩ := hrel
        by_cases hlt : k < L.length
        · have hc := HC.out k hlt
          have c0 := (hbel.cell (p := ⟨b, o + k * 2, none⟩) hb1).trans hc.1
          have c1 := (hbel.cell (p := ⟨b, o + k * 2 + 1, none⟩) hb1).trans hc.2
          have hz := hbel.size
          have hbz : b < wr.heap.size := by omega
          have HK := hid_mk (fun h => hinv.stop hlt HU.out h)
          have HN := hid_mk (fun h1 h2 h3 h4 => hinv.next hlt HU.out h1 h2 h3 h4)
          have hr0 := hinv.r0
          have hr1 := hinv.r1
          have hx := (isRegs_at HU.out k).1
          have hy := (isRegs_at HU.out k).2
          clear hc hinv
          generalize (at_ L k).1 = x at *
          generalize (at_ L k).2 = y at *
          have hN : wr.heap.size < (wr.alloc (.cells #[.int .u64 x, .int .u64 y] 28)).heap.size := by simp
          have hB0 : Below wr.heap.size wr (wr.alloc (.cells #[.int .u64 x, .int .u64 y] 28)) := (Below.refl _ _).alloc (Nat.le_refl _) _
          have hS0 : Below wr.heap.size wr (wr.alloc (.cells #[.int .u64 x, .int .u64 y] 28)) ∧ (wr.alloc (.cells #[.int .u64 x, .int .u64 y] 28)).cell? ⟨wr.heap.size, 0, none⟩ = some (.int .u64 x) ∧ (wr.alloc (.cells #[.int .u64 x, .int .u64 y] 28)).cell? ⟨wr.heap.size, 1, none⟩ = some (.int .u64 y) ∧ wr.heap.size < (wr.alloc (.cells #[.int .u64 x, .int .u64 y] 28)).heap.size := ⟨hB0, by go_simp, by go_simp, hN⟩
          have HS0 := hid_mk hS0
          have HB0 := hid_mk hB0
          clear hN hB0 hS0
          by_cases y0 : y = 0
          · subst y0
            have hfin : chkE L = 2 := by
              unfold chkE
              rw [if_neg (by rw [HK.out (Or.inl rfl)]; simp)]
            have HF := hid_mk hfin
            clear hfin
            go_wp2_with fail
            go_quiet (fail)
            go_wp2_with fail
            go_ret
            exact ⟨ret_eq (by rw [HF.out]; rfl), hbel.trans (below_dn (HB0.out.mono hbel.size) _)⟩
          · have hyb : (y == 0) = false := by simp; exact y0
            by_cases yR : R < y
            · have hfin : chkE L = 2 := by
                unfold chkE
                rw [if_neg (by rw [HK.out (Or.inr (Or.inl yR))]; simp)]
              have HF := hid_mk hfin
              have hd : decide (R < y) = true := by simp; exact yR
              clear hfin
              go_wp2_with fail
              go_quiet (fail)
              go_wp2_with fail
              go_ret
              exact ⟨ret_eq (by rw [HF.out]; rfl), hbel.trans (below_dn (HB0.out.mono hbel.size) _)⟩
            · have hd : decide (R < y) = false := by simp; omega
              by_cases hl : lastI x y < x
              · have hfin : chkE L = 2 := by
                  unfold chkE
                  rw [if_neg (by rw [HK.out (Or.inr (Or.inr (Or.inl hl)))]; simp)]
                have HF := hid_mk hfin
                have hd2 : decide (lastI x y < x) = true := by simp; exact hl
                clear hfin
                go_wp2_with fail
                go_region_held3 (fun w' => Below wr.heap.size wr w' ∧ w'.cell? ⟨wr.heap.size, 0, none⟩ = some (.int .u64 x) ∧ w'.cell? ⟨wr.heap.size, 1, none⟩ = some (.int .u64 y) ∧ wr.heap.size < w'.heap.size)
                  (first | exact ⟨HS0.out.1.drew, HS0.out.2⟩ | exact keep2 (by assumption) (by assumption) | assumption)
                  (first | (go_at_call 37; refine (last_any _ _ _).mono ?_; rintro e w' ⟨rfl, hb⟩))
                obtain ⟨hB, hp0, hp1, hps⟩ : Below wr.heap.size wr w' ∧ w'.cell? ⟨wr.heap.size, 0, none⟩ = some (.int .u64 x) ∧ w'.cell? ⟨wr.heap.size, 1, none⟩ = some (.int .u64 y) ∧ wr.heap.size < w'.heap.size := by assumption
                go_wp2_with fail
                go_ret
                exact ⟨ret_eq (by rw [HF.out]; rfl), hbel.trans (hB.mono hbel.size)⟩
              · have hd2 : decide (lastI x y < x) = false := by simp; omega
                go_wp2_with fail
                go_region_held3 (fun w' => Below wr.heap.size wr w' ∧ w'.cell? ⟨wr.heap.size, 0, none⟩ = some (.int .u64 x) ∧ w'.cell? ⟨wr.heap.size, 1, none⟩ = some (.int .u64 y) ∧ wr.heap.size < w'.heap.size)
                  (first | exact ⟨HS0.out.1.drew, HS0.out.2⟩ | exact keep2 (by assumption) (by assumption) | assumption)
                  (first | (go_at_call 37; refine (last_any _ _ _).mono ?_; rintro e w' ⟨rfl, hb⟩))
                obtain ⟨hB, hp0, hp1, hps⟩ : Below wr.heap.size wr w' ∧ w'.cell? ⟨wr.heap.size, 0, none⟩ = some (.int .u64 x) ∧ w'.cell? ⟨wr.heap.size, 1, none⟩ = some (.int .u64 y) ∧ wr.heap.size < w'.heap.size := by assumption
                obtain ⟨u1, rfl⟩ : ∃ u1, u1 = w' := ⟨_, rfl⟩
                clear hb
                rcases Nat.eq_zero_or_pos k with hk0 | hkp
                · subst hk0
                  have hnx := HN.out y0 (by omega) (by omega) (Or.inl rfl)
                  have HX := hid_mk hnx
                  have hw : IntKind.u64.wrap (R - y) = R - y := by rw [IntKind.wrap_u64]; omega
                  clear hnx
                  go_wp2_with fail
                  go_quiet (fail)
                  go_wp2_with fail
                  go_roundw
                  case rel => exact ⟨1, R - y, by omega, by go_num, rfl, HX.out, (hbel.trans (hB.mono hbel.size)).trans (below_dn (Below.refl _ _) _)⟩
                  case measure => simp [intOf]; omega
                · obtain ⟨q, rfl⟩ : ∃ q, k = q + 1 := ⟨k - 1, by omega⟩
                  have hcp := HC.out q (by omega)
                  have c2 := (hB.cell (p := ⟨b, o + q * 2, none⟩) hbz).trans ((hbel.cell (p := ⟨b, o + q * 2, none⟩) hb1).trans hcp.1)
                  have c3 := (hB.cell (p := ⟨b, o + q * 2 + 1, none⟩) hbz).trans ((hbel.cell (p := ⟨b, o + q * 2 + 1, none⟩) hb1).trans hcp.2)
                  clear hcp
                  simp only [Nat.add_sub_cancel] at HK HN
                  generalize (at_ L q).1 = x2 at *
                  generalize (at_ L q).2 = y2 at *
                  have hgt : decide ((0 : Int) < (q : Int) + 1) = true := by simp
                  have hi1 : IntKind.i64.wrap ((q : Int) + 1 - 1) = (q : Int) := by rw [show (q : Int) + 1 - 1 = q from by omega]; exact IntWalk.i64_in _ (by omega)
                  have hi4 : IntKind.i64.wrap (q : Int) = (q : Int) := IntWalk.i64_in _ (by omega)
                  have hi2 : (0 : Int) ≤ (q : Int) := by omega
                  have hi3 : (q : Int) < (L.length : Int) := by omega
                  have hbu : b < u1.heap.size := by omega
                  by_cases hpl : x ≤ lastI x2 y2
                  · have hfin : chkE L = 2 := by
                      unfold chkE
                      rw [if_neg (by rw [HK.out (Or.inr (Or.inr (Or.inr ⟨by omega, hpl⟩)))]; simp)]
                    have HF := hid_mk hfin
                    have hd3 : decide (x ≤ lastI x2 y2) = true := by simp; exact hpl
                    clear hfin
                    go_wp2_with fail
                    go_region_held3 (fun w' => Below wr.heap.size wr w' ∧ (w'.cell? ⟨wr.heap.size, 0, none⟩ = some (.int .u64 x) ∧ w'.cell? ⟨wr.heap.size, 1, none⟩ = some (.int .u64 y) ∧ wr.heap.size < w'.heap.size) ∧ w'.cell? ⟨b, o + q * 2, none⟩ = some (.int .u64 x2) ∧ w'.cell? ⟨b, o + q * 2 + 1, none⟩ = some (.int .u64 y2) ∧ b < w'.heap.size)
                      (first | exact ⟨hB.drew, ⟨hp0, hp1, hps⟩, c2, c3, hbu⟩ | exact keep4 (by assumption) (by assumption) | assumption)
                      (first | (go_at_call 37; refine (last_any _ _ _).mono ?_; rintro e w' ⟨rfl, hb⟩))
                    obtain ⟨hB2, ⟨hq0, hq1, hqs⟩, -⟩ : Below wr.heap.size wr w' ∧ (w'.cell? ⟨wr.heap.size, 0, none⟩ = some (.int .u64 x) ∧ w'.cell? ⟨wr.heap.size, 1, none⟩ = some (.int .u64 y) ∧ wr.heap.size < w'.heap.size) ∧ w'.cell? ⟨b, o + q * 2, none⟩ = some (.int .u64 x2) ∧ w'.cell? ⟨b, o + q * 2 + 1, none⟩ = some (.int .u64 y2) ∧ b < w'.heap.size := by assumption
                    go_wp2_with fail
                    go_ret
                    exact ⟨ret_eq (by rw [HF.out]; rfl), hbel.trans (hB2.mono hbel.size)⟩
                  · have hd3 : decide (x ≤ lastI x2 y2) = false := by simp; omega
                    have hnx := HN.out y0 (by omega) (by omega) (Or.inr (by omega))
                    have HX := hid_mk hnx
                    have hw : IntKind.u64.wrap (R - y) = R - y := by rw [IntKind.wrap_u64]; omega
                    clear hnx
                    go_wp2_with fail
                    go_region_held3 (fun w' => Below wr.heap.size wr w' ∧ (w'.cell? ⟨wr.heap.size, 0, none⟩ = some (.int .u64 x) ∧ w'.cell? ⟨wr.heap.size, 1, none⟩ = some (.int .u64 y) ∧ wr.heap.size < w'.heap.size) ∧ w'.cell? ⟨b, o + q * 2, none⟩ = some (.int .u64 x2) ∧ w'.cell? ⟨b, o + q * 2 + 1, none⟩ = some (.int .u64 y2) ∧ b < w'.heap.size)
                      (first | exact ⟨hB.drew, ⟨hp0, hp1, hps⟩, c2, c3, hbu⟩ | exact keep4 (by assumption) (by assumption) | assumption)
                      (first | (go_at_call 37; refine (last_any _ _ _).mono ?_; rintro e w' ⟨rfl, hb⟩))
                    obtain ⟨hB2, ⟨hq0, hq1, hqs⟩, -⟩ : Below wr.heap.size wr w' ∧ (w'.cell? ⟨wr.heap.size, 0, none⟩ = some (.int .u64 x) ∧ w'.cell? ⟨wr.heap.size, 1, none⟩ = some (.int .u64 y) ∧ wr.heap.size < w'.heap.size) ∧ w'.cell? ⟨b, o + q * 2, none⟩ = some (.int .u64 x2) ∧ w'.cell? ⟨b, o + q * 2 + 1, none⟩ = some (.int .u64 y2) ∧ b < w'.heap.size := by assumption
                    clear hp0 hp1 c2 c3
                    go_wp2_with fail
                    go_roundw
                    case rel => exact ⟨q + 1 + 1, R - y, by omega, by go_num, rfl, HX.out, hbel.trans (hB2.mono hbel.size)⟩
                    case measure => simp [intOf]; omega
        · obtain rfl : k = L.length := by omega
          have hd := hinv.done
          have HD := hid_mk hd
          clear hd hinv
          go_wp2_with fail
          go_ret
          refine ⟨ret_eq ?_, hbel⟩
          unfold chkE
          rw [if_pos ⟨by omega, HD.out⟩]
          rfl
end Go.Proofs.Yteolnghnlfeakaa

/- Contracts of gmem's Regions and New. Conditions: as each theorem names them. -/
namespace Go.Proofs.Yteolnghnlfeakaa
open Go.ChangeShapes Go.WideShapes Go.ChangeAt Go.RowKit
set_option linter.unusedVariables false
set_option maxRecDepth 100000

/-- regions as a block's cells -/
def regCells : List (Int × Int) → List Value
  | [] => []
  | r :: l => .int .u64 r.1 :: .int .u64 r.2 :: regCells l
theorem regCells_length : ∀ l : List (Int × Int), (regCells l).length = l.length * 2
  | [] => rfl
  | r :: l => by
    simp only [regCells, List.length_cons, regCells_length l]
    omega
theorem regCells_at : ∀ (l : List (Int × Int)) (i : Nat), i < l.length → (regCells l)[i * 2]? = some (.int .u64 (at_ l i).1) ∧ (regCells l)[i * 2 + 1]? = some (.int .u64 (at_ l i).2)
  | [], i, h => by simp at h
  | r :: l, 0, _ => by simp [regCells, at_]
  | r :: l, i + 1, h => by
    have := regCells_at l i (by simpa using h)
    have e : (i + 1) * 2 = i * 2 + 1 + 1 := by omega
    rw [at_succ, e]
    simpa [regCells] using this
theorem regCells_set : ∀ (l : List (Int × Int)) (i : Nat) (x y : Int), ((regCells l).set (i * 2) (.int .u64 x)).set (i * 2 + 1) (.int .u64 y) = regCells (l.set i (x, y))
  | [], i, x, y => by simp [regCells]
  | r :: l, 0, x, y => by simp [regCells]
  | r :: l, i + 1, x, y => by
    have := regCells_set l i x y
    have e : (i + 1) * 2 = i * 2 + 1 + 1 := by omega
    rw [e]
    simpa [regCells] using this
theorem regsAt_row {w : World} {g c : Nat} {L : List (Int × Int)} {t : TypeId} {fr : Nat × Nat} {cs : List Value} (h : w.heap[g]? = some (.cells (regCells L ++ cs).toArray t fr)) (hc : L.length ≤ c) : RegsAt w (.slice (some ⟨g, 0, none⟩) L.length c) L := by
  refine Or.inr ⟨g, 0, c, rfl, lt_blk h, hc, fun j hj => ?_⟩
  have h1 := regCells_at L j hj
  have hl := regCells_length L
  refine ⟨?_, ?_⟩
  · rw [Nat.zero_add, cellK h, List.getElem?_append_left (by omega)]
    exact h1.1
  · rw [Nat.zero_add, cellK h, List.getElem?_append_left (by omega)]
    exact h1.2
theorem setR (w : World) (g i : Nat) (X : List (Int × Int)) (x y : Int) (t : TypeId) (hg : w.heap[g]? = some (.cells (regCells X).toArray t (0, 0))) :
    (w.setCell ⟨g, i * 2, none⟩ (.int .u64 x)).setCell ⟨g, i * 2 + 1, none⟩ (.int .u64 y) = w.setRow g (regCells (X.set i (x, y))).toArray := by
  have h1 := setCell_eq_setRow w g (i * 2) _ t (0, 0) (.int .u64 x) hg
  have h2 : (w.setCell ⟨g, i * 2, none⟩ (.int .u64 x)).heap[g]? = some (.cells ((regCells X).set (i * 2) (.int .u64 x)).toArray t (0, 0)) := by
    rw [heap_setCell_same w g (i * 2) _ t _ hg]
    simp
  rw [setCell_eq_setRow _ g (i * 2 + 1) _ t (0, 0) _ h2, h1, setRow_setRow]
  simp [regCells_set]

/-- make([]api.Region, n) -/
theorem rowReg : (Try.prog.info? 28).map (fun i => (i.zero, i.size, i.bytes)) = some (some (.agg #[.int .u64 0, .int .u64 0]), 2, 16) := by kernel_rfl
theorem regCells_zero : ∀ n : Nat, regCells (List.replicate n (0, 0)) = List.replicate (n * 2) (.int .u64 0)
  | 0 => rfl
  | n + 1 => by
    rw [List.replicate_succ, regCells, regCells_zero n, show (n + 1) * 2 = n * 2 + 1 + 1 from by omega, List.replicate_succ, List.replicate_succ]
theorem makeR (w : World) (n : Nat) (h : n ≤ 1000000) :
    (Instr.makeSlice 29 (.int .i64 (n : Int)) (.int .i64 (n : Int))).run Try.prog w = .ok (.slice (some ⟨w.heap.size, 0, none⟩) n n) (w.alloc (.cells (regCells (List.replicate n (0, 0))).toArray 28)) := by
  obtain ⟨i0, hi, hz0, hz1, hz2⟩ := info_parts rowReg
  have hr := run_make (P := Try.prog) w 29 28 i0 _ Try.underlying29 hi hz0 .i64 .i64 n n (by omega) (Int.le_refl _) (by rw [hz2]; omega) (by omega)
  rw [hr]
  simp only [Int.toNat_natCast, hz1]
  congr 3
  rw [regCells_zero]
  apply Array.ext'
  rw [show (Value.agg #[.int .u64 0, .int .u64 0]).cells = #[.int .u64 0, .int .u64 0] from rfl]
  apply List.ext_getElem
  · simp [madeCells]
  · intro i h1 h2
    simp [madeCells]
    rcases Nat.mod_two_eq_zero_or_one i with e | e
    · rw [e]; rfl
    · rw [e]; rfl

/-! ## Regions -/
theorem take_set (L : List (Int × Int)) (k : Nat) (h : k < L.length) : (L.take k ++ List.replicate (L.length - k) (0, 0)).set k ((at_ L k).1, (at_ L k).2) = L.take (k + 1) ++ List.replicate (L.length - (k + 1)) (0, 0) := by
  have e1 : (L.take k).length = k := by simp; omega
  rw [List.set_append_right _ _ (by omega), e1, Nat.sub_self, show L.length - k = (L.length - (k + 1)) + 1 from by omega, List.replicate_succ, List.set_cons_zero, List.take_succ_eq_append_getElem h, List.append_assoc]
  simp [at_, List.getD, h]
end Go.Proofs.Yteolnghnlfeakaa
