/- Pg12 Rf1: joined texts. Conditions: as each theorem names them. -/
import Derived.Test.YteolnghnlfeakaaKp14
import Derived.Test.YteolnghnlfeakaaKp13
import Derived.Test.YteolnghnlfeakaaKp07
import Derived.BigQuiet
/- The statements' common examples of layer 5: lives. Conditions: none. -/
namespace Go.Proofs.Yteolnghnlfeakaa
open Go.ChangeShapes Go.WideShapes Go.ChangeAt Go.RowKit
set_option linter.unusedVariables false
set_option maxRecDepth 100000

/-- a literal of segments -/
theorem segs_lit (w : World) (L : List Sg) (t : TypeId) : SegsAt (w.alloc (.cells (segCells L).toArray t)) (.slice (some ⟨w.heap.size, 0, none⟩) L.length L.length) L := by
  refine Or.inr ⟨w.heap.size, 0, L.length, rfl, by simp, Nat.le_refl _, fun j hj => ?_⟩
  have h := heap_alloc_new w (.cells (segCells L).toArray t)
  obtain ⟨h0, h1, h2⟩ := segCells_at L j hj
  refine ⟨?_, ?_, ?_⟩
  · rw [cellK h, Nat.zero_add]
    exact h0
  · rw [cellK h, Nat.zero_add]
    exact h1
  · rw [cellK h, Nat.zero_add]
    exact h2
theorem isSgs_mk {L : List Sg} (h : (L.all fun s => decide (0 ≤ s.a ∧ s.a < 18446744073709551616 ∧ 0 ≤ s.n ∧ s.n < 4294967296)) = true) : isSgs L := fun s hs => by
  rw [List.all_eq_true] at h
  have := of_decide_eq_true (h s hs)
  exact ⟨⟨this.1, this.2.1⟩, this.2.2⟩

set_option maxHeartbeats 1000000 in
theorem lives5_any (w : World) : Calls Try.prog 13 #[] w fun e w' => e = .returned (.bool true) ∧ Below w.heap.size w w' := by
  have HCut := hid_mk (fun u v (h : SegsAt u v [⟨10, 4, false⟩, ⟨50, 6, false⟩]) => pcut v 2 5 _ u h (isSgs_mk (by decide)) (by decide) (by decide))
  have e1 : cutE [⟨10, 4, false⟩, ⟨50, 6, false⟩] 2 5 = [⟨12, 2, false⟩, ⟨50, 3, false⟩] := sameS_iff.1 (by decide +kernel)
  rw [e1] at HCut
  have HSame := hid_mk (fun u v v2 (h : SegsAt u v [⟨12, 2, false⟩, ⟨50, 3, false⟩]) (h2 : SegsAt u v2 [⟨12, 2, false⟩, ⟨50, 3, false⟩]) => ksame_any v v2 _ _ u h h2 (by decide))
  have HChk := hid_mk (fun u v (h : SegsAt u v [⟨1, 1, true⟩, ⟨5, 1, false⟩]) => pcheck v _ u h (isSgs_mk (by decide)))
  have e2 : segE [⟨1, 1, true⟩, ⟨5, 1, false⟩] = 2 := by decide +kernel
  have e3 : sameS [⟨12, 2, false⟩, ⟨50, 3, false⟩] [⟨12, 2, false⟩, ⟨50, 3, false⟩] = true := sameS_self _
  rw [e2] at HChk
  rw [e3] at HSame
  clear e1 e2 e3
  go_enter Try.func13, Try.ntmps13
  go_wp2_with fail
  refine (HCut.out _ _ (segs_lit w [⟨10, 4, false⟩, ⟨50, 6, false⟩] 32)).mono ?_
  rintro e w1 ⟨v1, rfl, ho1, hb⟩
  have HB1 := hid_mk (((Below.refl w.heap.size w).alloc (Nat.le_refl _) _).trans (hb.mono (by simp)))
  have HO1 := hid_mk ho1.at
  clear hb ho1
  go_wp2_with fail
  refine (HSame.out _ _ _ (HO1.out.below ((Below.refl _ _).alloc (Nat.le_refl _) _)) (segs_lit w1 [⟨12, 2, false⟩, ⟨50, 3, false⟩] 32)).mono ?_
  rintro e w2 ⟨rfl, m, hm⟩
  have HB2 := hid_mk (show Below w.heap.size w w2 from hm ▸ below_dn (HB1.out.alloc HB1.out.size _) m)
  clear hm
  go_wp2_with fail
  refine (HChk.out _ _ (segs_lit w2 [⟨1, 1, true⟩, ⟨5, 1, false⟩] 32)).mono ?_
  rintro e w3 ⟨rfl, hb⟩
  have HB3 := hid_mk (below_then (HB2.out.alloc HB2.out.size _) hb)
  clear hb
  go_wp2_with fail
  go_ret
  exact ⟨rfl, HB3.out⟩
end Go.Proofs.Yteolnghnlfeakaa

/- The reference of layer 2: Check says the same as the program's. Conditions: the words are 64 bits. -/
namespace Go.Proofs.Yteolnghnlfeakaa
open Go.ChangeShapes Go.WideShapes Go.ChangeAt Go.RowKit
set_option linter.unusedVariables false

/-- what the reference's Check has seen when it comes to region k with so many bytes -/
structure RChk (L : List (Int × Int)) (k : Nat) (S : Int) : Prop where
  lo : 0 ≤ S
  hi : S ≤ 1048576 * (k : Int)
  inv : ChkInv L k (1048576 - S) ∨ (okR (-1) 1048576 L = false ∧ 1048576 < S)
theorem RChk.start (L : List (Int × Int)) : RChk L 0 0 := ⟨by omega, by omega, Or.inl (ChkInv.start L)⟩
theorem RChk.stop {L : List (Int × Int)} {k : Nat} {S : Int} (h : RChk L k S) (hk : k < L.length) (hu : isRegs L) (hc : (at_ L k).2 = 0 ∨ 1048576 < (at_ L k).2 ∨ lastI (at_ L k).1 (at_ L k).2 < (at_ L k).1 ∨ (k ≠ 0 ∧ (at_ L k).1 ≤ lastI (at_ L (k - 1)).1 (at_ L (k - 1)).2)) : chkE L = 2 := by
  have : okR (-1) 1048576 L = false := by
    rcases h.inv with hi | hi
    · have h0 := h.lo
      exact hi.stop hk hu (by rcases hc with hc | hc | hc | hc; exact Or.inl hc; exact Or.inr (Or.inl (by omega)); exact Or.inr (Or.inr (Or.inl hc)); exact Or.inr (Or.inr (Or.inr hc)))
    · exact hi.1
  unfold chkE
  rw [if_neg (by rw [this]; simp)]
theorem RChk.next {L : List (Int × Int)} {k : Nat} {S : Int} (h : RChk L k S) (hk : k < L.length) (hu : isRegs L) (h1 : (at_ L k).2 ≠ 0) (h2 : (at_ L k).2 ≤ 1048576) (h3 : (at_ L k).1 ≤ lastI (at_ L k).1 (at_ L k).2) (h4 : k = 0 ∨ lastI (at_ L (k - 1)).1 (at_ L (k - 1)).2 < (at_ L k).1) : RChk L (k + 1) (S + (at_ L k).2) := by
  have h0 := h.lo
  have hh := h.hi
  have hU := isRegs_at hu k
  refine ⟨by omega, by omega, ?_⟩
  rcases h.inv with hi | hi
  · by_cases hr : (at_ L k).2 ≤ 1048576 - S
    · left
      have := hi.next hk hu h1 hr h3 h4
      rw [show 1048576 - (S + (at_ L k).2) = 1048576 - S - (at_ L k).2 from by omega]
      exact this
    · exact Or.inr ⟨hi.stop hk hu (Or.inr (Or.inl (by omega))), by omega⟩
  · exact Or.inr ⟨hi.1, by omega⟩
theorem RChk.done {L : List (Int × Int)} {S : Int} (h : RChk L L.length S) (h16 : L.length ≤ 16) : chkE L = if 1048576 < S then 2 else 0 := by
  unfold chkE
  rcases h.inv with hi | hi
  · have := hi.r0
    rw [if_pos ⟨h16, hi.done⟩, if_neg (by omega)]
  · rw [if_neg (by rw [hi.1]; simp), if_pos hi.2]

set_option maxRecDepth 100000 in
set_option maxHeartbeats 4000000 in
theorem rcheck_any (v : Value) (L : List (Int × Int)) (w : World) (hv : RegsAt w v L) (hu : isRegs L) (hm : L.length ≤ 4611686018427387904) :
    Calls Try.prog 46 #[v] w fun e w' => e = .returned (.int .i64 (chkE L)) ∧ ∃ m, w' = w.drewN m := by
  rcases hv with ⟨⟨va, vc, rfl, _⟩, rfl⟩ | ⟨b, o, c, rfl, hb1, hb2, hb3⟩
  · go_enter Try.func46, Try.ntmps46
    go_wp2
    go_loop [3, 4] (fun n i => n = .int .u64 0 ∧ i = .int .i64 0) (fun _ i => 0)
    case atStart => exact ⟨rfl, rfl⟩
    case round =>
      obtain ⟨rfl, rfl⟩ := hrel
      go_wp2
      go_ret
      exact ⟨rfl, 0, rfl⟩
  · by_cases h16 : 16 < L.length
    · have h16i : (16 : Int) < (L.length : Int) := by omega
      go_enter Try.func46, Try.ntmps46
      go_wp2
      go_ret
      refine ⟨ret_eq ?_, 0, rfl⟩
      unfold chkE
      rw [if_neg (by omega)]
      rfl
    · have HC := hid_mk hb3
      have HU := hid_mk hu
      have h16i : (L.length : Int) ≤ 16 := by omega
      clear hb3 hu hm
      go_enter Try.func46, Try.ntmps46
      go_wp2
      go_loopw [3, 4] (fun n i wr => ∃ (k m : Nat) (S : Int), k ≤ L.length ∧ i = .int .i64 k ∧ n = .int .u64 S ∧ wr = w.drewN m ∧ Hid (RChk L k S)) (fun _ i _ => L.length - (intOf i).toNat)
      case atStart => exact ⟨0, 0, 0, Nat.zero_le _, rfl, rfl, rfl, hid_mk (RChk.start L)⟩
      case round =>
        obtain ⟨k, m, S, hk, rfl, rfl, rfl, hinv⟩ := hrel
        by_cases hlt : k < L.length
        · have hc := HC.out k hlt
          obtain ⟨c0, c1⟩ := hc
          have HK := hid_mk (fun h => hinv.out.stop hlt HU.out h)
          have HN := hid_mk (fun h1 h2 h3 h4 => hinv.out.next hlt HU.out h1 h2 h3 h4)
          have hr0 := hinv.out.lo
          have hr1 := hinv.out.hi
          obtain ⟨hx, hy⟩ := isRegs_at HU.out k
          clear hinv
          generalize (at_ L k).1 = x at *
          generalize (at_ L k).2 = y at *
          by_cases y0 : y = 0
          · subst y0
            have HF := hid_mk (HK.out (Or.inl rfl))
            go_wp2_with fail
            go_quiet (fail)
            go_wp2_with fail
            go_ret
            exact ⟨ret_eq (by rw [HF.out]; rfl), _, drewN_drewN _ _ _⟩
          · have hyb : (y == 0) = false := by simp; exact y0
            by_cases yR : 1048576 < y
            · have HF := hid_mk (HK.out (Or.inr (Or.inl yR)))
              have hd : decide (1048576 < y) = true := by simp; exact yR
              go_wp2_with fail
              go_quiet (fail)
              go_wp2_with fail
              go_ret
              exact ⟨ret_eq (by rw [HF.out]; rfl), _, drewN_drewN _ _ _⟩
            · have hd : decide (1048576 < y) = false := by simp; omega
              have hw2 : IntKind.u64.wrap (y - 1) = y - 1 := by rw [IntKind.wrap_u64]; omega
              have hll : lastI x y = IntKind.u64.wrap (x + (y - 1)) := by unfold lastI; rw [hw2]
              by_cases hl : lastI x y < x
              · have HF := hid_mk (HK.out (Or.inr (Or.inr (Or.inl hl))))
                have hd2 : decide (IntKind.u64.wrap (x + (y - 1)) < x) = true := by rw [← hll]; simp; exact hl
                clear hl hll
                go_wp2_with fail
                go_quiet (fail)
                go_wp2_with fail
                go_ret
                exact ⟨ret_eq (by rw [HF.out]; rfl), _, drewN_drewN _ _ _⟩
              · have hd2 : decide (IntKind.u64.wrap (x + (y - 1)) < x) = false := by rw [← hll]; simp; exact Int.not_lt.1 hl
                have hw : IntKind.u64.wrap (S + y) = S + y := by rw [IntKind.wrap_u64]; omega
                have HL := hid_mk (Int.not_lt.1 hl)
                clear hl hll hr0 hr1
                go_wp2_with fail
                go_quiet (fail)
                clear hd hd2 hyb
                rcases Nat.eq_zero_or_pos k with hk0 | hkp
                · subst hk0
                  have HX := hid_mk (HN.out y0 (by omega) HL.out (Or.inl rfl))
                  go_wp2_with fail
                  go_quiet (fail)
                  clear hw hw2 hx hy y0 yR
                  go_wp2_with fail
                  go_roundw
                  case rel => exact ⟨1, _, S + y, by omega, by go_num, rfl, rfl, hid_mk HX.out⟩
                  case measure => simp [intOf]; omega
                · obtain ⟨q, rfl⟩ : ∃ q, k = q + 1 := ⟨k - 1, by omega⟩
                  obtain ⟨c2, c3⟩ := HC.out q (by omega)
                  simp only [Nat.add_sub_cancel] at HK HN
                  generalize (at_ L q).1 = x2 at *
                  generalize (at_ L q).2 = y2 at *
                  have hgt : decide ((0 : Int) < (q : Int) + 1) = true := by simp
                  have hi1 : IntKind.i64.wrap ((q : Int) + 1 - 1) = (q : Int) := by rw [show (q : Int) + 1 - 1 = q from by omega]; exact IntWalk.i64_in _ (by omega)
                  have hi4 : IntKind.i64.wrap (q : Int) = (q : Int) := IntWalk.i64_in _ (by omega)
                  have hi2 : (0 : Int) ≤ (q : Int) := by omega
                  have hi3 : (q : Int) < (L.length : Int) := by omega
                  by_cases hpl : x ≤ lastI x2 y2
                  · have HF := hid_mk (HK.out (Or.inr (Or.inr (Or.inr ⟨by omega, hpl⟩))))
                    have hd3 : decide (x ≤ IntKind.u64.wrap (x2 + IntKind.u64.wrap (y2 - 1))) = true := by simp; exact hpl
                    clear hpl
                    go_wp2_with fail
                    go_quiet (fail)
                    go_wp2_with fail
                    go_ret
                    exact ⟨ret_eq (by rw [HF.out]; rfl), _, drewN_drewN _ _ _⟩
                  · have HX := hid_mk (HN.out y0 (by omega) HL.out (Or.inr (by omega)))
                    have hd3 : decide (x ≤ IntKind.u64.wrap (x2 + IntKind.u64.wrap (y2 - 1))) = false := by simp; exact Int.not_le.1 hpl
                    clear hpl
                    go_wp2_with fail
                    go_quiet (fail)
                    clear hw hw2 hx hy y0 yR hd3 hgt
                    go_wp2_with fail
                    go_roundw
                    case rel => exact ⟨q + 1 + 1, _, S + y, by omega, by go_num, rfl, rfl, hid_mk HX.out⟩
                    case measure => simp [intOf]; omega
        · obtain rfl : k = L.length := by omega
          have HD := hid_mk (hinv.out.done (by omega))
          have hs := hinv.out.lo
          clear hinv
          by_cases hS : 1048576 < S
          · have HD2 := hid_mk (HD.out.trans (if_pos hS))
            have hd : decide (1048576 < S) = true := by simp; exact hS
            go_wp2_with fail
            go_ret
            exact ⟨ret_eq (by rw [HD2.out]; rfl), m, rfl⟩
          · have HD2 := hid_mk (HD.out.trans (if_neg hS))
            have hd : decide (1048576 < S) = false := by simp; omega
            go_wp2_with fail
            go_ret
            exact ⟨ret_eq (by rw [HD2.out]; rfl), m, rfl⟩
end Go.Proofs.Yteolnghnlfeakaa
