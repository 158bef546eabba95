/- Pg1 Pg3: joined texts. Conditions: as each theorem names them. -/
import Derived.Test.YteolnghnlfeakaaKp11
/- Package seg's sum, inSpace, Check. Conditions: as each theorem names them. -/
namespace Go.Proofs.Yteolnghnlfeakaa
open Go.ChangeShapes Go.WideShapes Go.ChangeAt Go.RowKit
set_option linter.unusedVariables false
set_option maxRecDepth 100000

theorem sumS_le : ∀ {L : List Sg}, isSgs L → sumS L ≤ 4294967296 * (L.length : Int)
  | [], _ => by simp [sumS]
  | s :: l, h => by
    obtain ⟨h1, h2⟩ := isSgs_cons h
    have := sumS_le h2
    have hn := h1.2.2
    simp only [sumS, List.length_cons]
    omega
theorem sumS_take_le {L : List Sg} (h : isSgs L) (k : Nat) (hk : k ≤ L.length) : 0 ≤ sumS (L.take k) ∧ sumS (L.take k) ≤ 4294967296 * (k : Int) := by
  have h1 := isSgs_take h k
  refine ⟨sumS_nonneg h1, ?_⟩
  have := sumS_le h1
  rw [List.length_take] at this
  omega

set_option maxHeartbeats 1000000 in
theorem psum (v : Value) (L : List Sg) (w : World) (hv : SegsAt w v L) (hu : isSgs L) (hl : L.length ≤ 1000) :
    Calls Try.prog 38 #[v] w fun e w' => e = .returned (.int .u64 (sumS L)) ∧ Below w.heap.size w w' := by
  rcases hv with ⟨⟨va, vc, rfl, _⟩, rfl⟩ | ⟨b, o, c, rfl, hb1, hb2, hb3⟩
  · go_enter Try.func38, Try.ntmps38
    go_wp2
    go_loop [3, 8] (fun n i => n = .int .u64 0 ∧ i = .int .i64 0) (fun _ i => 0)
    case atStart => exact ⟨rfl, rfl⟩
    case round =>
      obtain ⟨rfl, rfl⟩ := hrel
      go_wp2
      go_ret
      exact ⟨rfl, Below.refl _ _⟩
  · have HC := hid_mk hb3
    have HU := hid_mk hu
    have hli : (L.length : Int) ≤ 1000 := by omega
    clear hb3 hu
    go_enter Try.func38, Try.ntmps38
    go_wp2
    go_loopw [3, 5, 8] (fun n p i wr => ∃ k : Nat, k ≤ L.length ∧ i = .int .i64 k ∧ n = .int .u64 (sumS (L.take k)) ∧ Hid (Below w.heap.size w wr)) (fun _ _ i _ => L.length - (intOf i).toNat)
    case atStart => exact ⟨0, Nat.zero_le _, rfl, rfl, hid_mk (Below.refl _ _)⟩
    case round =>
      obtain ⟨k, hk, rfl, rfl, hbel⟩ := hrel
      by_cases hlt : k < L.length
      · obtain ⟨c0, c1, c2⟩ := HC.out k hlt
        obtain ⟨_, hy0, hy1⟩ := sat_is HU.out k
        have d0 := (hbel.out.cell (p := ⟨b, o + k * 3, none⟩) hb1).trans c0
        have d1 := (hbel.out.cell (p := ⟨b, o + k * 3 + 1, none⟩) hb1).trans c1
        have d2 := (hbel.out.cell (p := ⟨b, o + k * 3 + 2, none⟩) hb1).trans c2
        have hbw : b < wr.heap.size := Nat.lt_of_lt_of_le hb1 hbel.out.size
        have hst := sumS_take hlt
        have hle := sumS_take_le HU.out k hk
        have hyw : IntKind.u64.wrap (sat L k).n = (sat L k).n := by rw [IntKind.wrap_u64]; omega
        have hw : IntKind.u64.wrap (sumS (L.take k) + (sat L k).n) = sumS (L.take (k + 1)) := by rw [IntKind.wrap_u64]; omega
        have HB := hid_mk (Below.alloc hbel.out hbel.out.size (.cells #[.int .u64 (sat L k).a, .int .u32 (sat L k).n, .bool (sat L k).t] 32))
        clear c0 c1 c2 hst hle hbel
        generalize (sat L k).a = x at *
        generalize (sat L k).n = y at *
        generalize (sat L k).t = z at *
        go_wp2_with fail
        go_roundw
        case rel => exact ⟨k + 1, by omega, by go_num, rfl, HB⟩
        case measure => simp [intOf]; omega
      · obtain rfl : k = L.length := by omega
        rw [List.take_length]
        go_wp2_with fail
        go_ret
        exact ⟨rfl, hbel.out⟩

/-- does a segment have bytes, none beyond 2^64? -/
def spB (a n : Int) : Bool := decide (1 ≤ n ∧ a + n ≤ 18446744073709551616)
theorem spB_yes {a n : Int} (h0 : 0 < n) (h : a + n ≤ 18446744073709551616) : spB a n = true := by
  unfold spB
  exact decide_eq_true ⟨by omega, h⟩
theorem spB_big {a n : Int} (h : 18446744073709551616 < a + n) : spB a n = false := by
  unfold spB
  exact decide_eq_false (by omega)
theorem spB_none {a n : Int} (h : ¬ 0 < n) : spB a n = false := by
  unfold spB
  exact decide_eq_false (by omega)
theorem pspace (a n : Int) (t : Bool) (w : World) (ha : U64 a) (hn0 : 0 ≤ n) (hn1 : n < 4294967296) :
    Calls Try.prog 44 #[.agg #[.int .u64 a, .int .u32 n, .bool t]] w fun e w' => e = .returned (.bool (spB a n)) ∧ Below w.heap.size w w' := by
  obtain ⟨a0, a1⟩ := ha
  by_cases h0 : 0 < n
  · have hw : IntKind.u32.wrap (n - 1) = n - 1 := by rw [IntKind.wrap_u32]; omega
    have hw2 : IntKind.u64.wrap (n - 1) = n - 1 := by rw [IntKind.wrap_u64]; omega
    by_cases hl : 18446744073709551616 < a + n
    · have hd : decide (a ≤ IntKind.u64.wrap (a + (n - 1))) = false := by
        simp only [decide_eq_false_iff_not]
        rw [IntKind.wrap_u64]
        omega
      rw [spB_big hl]
      clear hl
      go_enter Try.func44, Try.ntmps44
      go_wp2
      go_ret
      exact ⟨rfl, (Below.refl _ _).alloc (Nat.le_refl _) _⟩
    · have hd : decide (a ≤ IntKind.u64.wrap (a + (n - 1))) = true := by
        simp only [decide_eq_true_eq]
        rw [IntKind.wrap_u64]
        omega
      rw [spB_yes h0 (by omega)]
      clear hl
      go_enter Try.func44, Try.ntmps44
      go_wp2
      go_ret
      exact ⟨rfl, (Below.refl _ _).alloc (Nat.le_refl _) _⟩
  · obtain rfl : n = 0 := by omega
    rw [spB_none h0]
    clear h0 hn0 hn1
    go_enter Try.func44, Try.ntmps44
    go_wp2
    go_ret
    exact ⟨rfl, (Below.refl _ _).alloc (Nat.le_refl _) _⟩

theorem sgC_big {L : List Sg} (hu : isSgs L) (h : 4294967296 ≤ sumS L) : sgC false 0 L = 2 := by
  rcases sgC_is L false 0 with h0 | h0
  · have := ((sgC_ok hu).1 h0).2
    omega
  · exact h0

set_option maxHeartbeats 4000000 in
theorem pcheck (v : Value) (L : List Sg) (w : World) (hv : SegsAt w v L) (hu : isSgs L) :
    Calls Try.prog 14 #[v] w fun e w' => e = .returned (.int .i64 (segE L)) ∧ Below w.heap.size w w' := by
  by_cases h64 : 64 < L.length
  · obtain ⟨va, vc, rfl⟩ := hv.len
    have h64i : (64 : Int) < (L.length : Int) := by omega
    have e1 : segE L = 3 := by
      unfold segE
      rw [if_pos h64]
    rw [e1]
    clear e1
    go_enter Try.func14, Try.ntmps14
    go_wp2
    go_ret
    exact ⟨rfl, Below.refl _ _⟩
  · have e64 : segE L = sgC false 0 L := by
      unfold segE
      rw [if_neg h64]
    rw [e64]
    have HS := hid_mk (psum v L w hv hu (by omega))
    have h64i : (L.length : Int) ≤ 64 := by omega
    by_cases hS : 4294967296 ≤ sumS L
    · obtain ⟨va, vc, rfl⟩ := hv.len
      rw [sgC_big hu hS]
      have hd : decide (4294967296 ≤ sumS L) = true := by simp; exact hS
      clear e64 hS hu hv
      go_enter Try.func14, Try.ntmps14
      go_wp2_with fail
      refine HS.out.mono ?_
      rintro e w1 ⟨rfl, hb⟩
      have HB := hid_mk hb
      clear hb
      go_wp2_with fail
      go_ret
      exact ⟨rfl, HB.out⟩
    · have hd : decide (4294967296 ≤ sumS L) = false := by simp; omega
      rcases hv with ⟨⟨va, vc, rfl, _⟩, rfl⟩ | ⟨b, o, c, rfl, hb1, hb2, hb3⟩
      · clear e64 hS hu
        go_enter Try.func14, Try.ntmps14
        go_wp2_with fail
        refine HS.out.mono ?_
        rintro e w1 ⟨rfl, hb⟩
        have HB := hid_mk hb
        clear hb
        go_wp2_with fail
        go_loop [3, 14] (fun n i => n = .bool false ∧ i = .int .i64 0) (fun _ i => 0)
        case atStart => exact ⟨rfl, rfl⟩
        case round =>
          obtain ⟨rfl, rfl⟩ := hrel
          go_wp2
          go_ret
          exact ⟨rfl, HB.out⟩
      · have HC := hid_mk hb3
        have HU := hid_mk hu
        have HT := hid_mk hS
        have hdone : SgInv L L.length (sumS L) → sgC false 0 L = 0 := fun h => by
          rw [h.done, if_neg hS]
        have HD := hid_mk hdone
        clear hb3 hu e64 hS hdone
        go_enter Try.func14, Try.ntmps14
        go_wp2_with fail
        refine HS.out.mono ?_
        rintro e w1 ⟨rfl, hb⟩
        have HB := hid_mk hb
        clear hb
        go_wp2_with fail
        clear hd
        go_loopw [3, 5, 14] (fun n p i wr => ∃ (k : Nat) (q : Bool), k ≤ L.length ∧ i = .int .i64 k ∧ n = .bool q ∧ Hid (q = prevT L k ∧ SgInv L k (sumS (L.take k))) ∧ Hid (Below w.heap.size w wr)) (fun _ _ i _ => L.length - (intOf i).toNat)
        case atStart => exact ⟨0, false, Nat.zero_le _, rfl, rfl, hid_mk ⟨rfl, SgInv.start L⟩, HB⟩
        case round =>
          obtain ⟨k, q, hk, rfl, rfl, hinv, hbel⟩ := hrel
          by_cases hlt : k < L.length
          · obtain ⟨c0, c1, c2⟩ := HC.out k hlt
            obtain ⟨hx, hy0, hy1⟩ := sat_is HU.out k
            have d0 := (hbel.out.cell (p := ⟨b, o + k * 3, none⟩) hb1).trans c0
            have d1 := (hbel.out.cell (p := ⟨b, o + k * 3 + 1, none⟩) hb1).trans c1
            have d2 := (hbel.out.cell (p := ⟨b, o + k * 3 + 2, none⟩) hb1).trans c2
            have hbw : b < wr.heap.size := Nat.lt_of_lt_of_le hb1 hbel.out.size
            have HK := hid_mk (fun h => hinv.out.2.stop hlt h)
            have HN := hid_mk (fun h => hinv.out.2.next hlt HU.out h)
            have HQ := hid_mk hinv.out.1
            have hst := sumS_take hlt
            have HST := hid_mk hst
            have hpt : prevT L (k + 1) = (sat L k).t := by simp [prevT]
            have HPT := hid_mk hpt
            have HB1 := hid_mk (Below.alloc hbel.out hbel.out.size (.cells #[.int .u64 (sat L k).a, .int .u32 (sat L k).n, .bool (sat L k).t] 32))
            clear c0 c1 c2 hst hpt hbel hinv
            have HSP := hid_mk (fun u => pspace (sat L k).a (sat L k).n (sat L k).t u hx hy0 hy1)
            generalize (sat L k).a = x at *
            generalize (sat L k).n = y at *
            generalize (sat L k).t = z at *
            by_cases hsp : spB x y = true
            · have hsp' := hsp
              unfold spB at hsp'
              obtain ⟨sp1, sp2⟩ := of_decide_eq_true hsp'
              have HNN : Hid (¬ (prevT L k = true ∧ z = false) → SgInv L (k + 1) (sumS (L.take (k + 1)))) := fun h => by
                rw [HST.out]
                exact HN.out (by
                  rintro (h1 | h1 | h1)
                  · omega
                  · omega
                  · exact h h1)
              rw [hsp] at HSP
              clear sp1 sp2 hsp hsp' hx hy0 hy1
              cases q
              · have HX := hid_mk (HNN.out (by rw [← HQ.out]; simp))
                go_wp2_with fail
                refine (HSP.out _).mono ?_
                rintro e w2 ⟨rfl, hb2⟩
                have HB2 := hid_mk (below_then HB1.out hb2)
                obtain ⟨bc, bf⟩ := bcell hb2
                have hz2 := hb2.size
                rw [sizeA] at hz2
                simp only [sizeA] at bc bf
                clear hb2
                go_wp2_with fail
                go_roundw
                case rel => exact ⟨k + 1, z, by omega, by go_num, rfl, hid_mk ⟨HPT.out.symm, HX.out⟩, HB2⟩
                case measure => simp [intOf]; omega
              · cases z
                · have HF := hid_mk (HK.out (Or.inr (Or.inr ⟨HQ.out.symm, rfl⟩)))
                  go_wp2_with fail
                  refine (HSP.out _).mono ?_
                  rintro e w2 ⟨rfl, hb2⟩
                  have HB2 := hid_mk (below_then HB1.out hb2)
                  obtain ⟨bc, bf⟩ := bcell hb2
                  have hz2 := hb2.size
                  rw [sizeA] at hz2
                  simp only [sizeA] at bc bf
                  clear hb2
                  go_wp2_with fail
                  go_ret
                  exact ⟨ret_eq (by rw [HF.out]; rfl), HB2.out⟩
                · have HX := hid_mk (HNN.out (by simp))
                  go_wp2_with fail
                  refine (HSP.out _).mono ?_
                  rintro e w2 ⟨rfl, hb2⟩
                  have HB2 := hid_mk (below_then HB1.out hb2)
                  obtain ⟨bc, bf⟩ := bcell hb2
                  have hz2 := hb2.size
                  rw [sizeA] at hz2
                  simp only [sizeA] at bc bf
                  clear hb2
                  go_wp2_with fail
                  go_roundw
                  case rel => exact ⟨k + 1, true, by omega, by go_num, rfl, hid_mk ⟨HPT.out.symm, HX.out⟩, HB2⟩
                  case measure => simp [intOf]; omega
            · have hsp2 : spB x y = false := by simpa using hsp
              have HF : Hid (sgC false 0 L = 2) := HK.out (by
                unfold spB at hsp2
                have := of_decide_eq_false hsp2
                omega)
              rw [hsp2] at HSP
              clear hsp hsp2 hx hy0 hy1
              go_wp2_with fail
              refine (HSP.out _).mono ?_
              rintro e w2 ⟨rfl, hb2⟩
              have HB2 := hid_mk (below_then HB1.out hb2)
              clear hb2
              go_wp2_with fail
              go_ret
              exact ⟨ret_eq (by rw [HF.out]; rfl), HB2.out⟩
          · obtain rfl : k = L.length := by omega
            have hi := hinv.out.2
            rw [List.take_length] at hi
            have HF := hid_mk (HD.out hi)
            clear hi hinv
            go_wp2_with fail
            go_ret
            exact ⟨ret_eq (by rw [HF.out]; rfl), hbel.out⟩
end Go.Proofs.Yteolnghnlfeakaa

/- Package seg's Part, Total. Conditions: as each theorem names them. -/
namespace Go.Proofs.Yteolnghnlfeakaa
open Go.ChangeShapes Go.WideShapes Go.ChangeAt Go.RowKit
set_option linter.unusedVariables false
set_option maxRecDepth 100000

theorem partE_len {t : Bool} {L : List Sg} : (partE t L).length ≤ 64 := by
  unfold partE
  by_cases h : segE L = 0
  · rw [if_pos h]
    have h2 : L.length ≤ 64 := by
      unfold segE at h
      by_cases h3 : 64 < L.length
      · rw [if_pos h3] at h
        cases h
      · omega
    have := partS_le t L
    omega
  · rw [if_neg h]
    simp
theorem partE_is {t : Bool} {L : List Sg} (hu : isSgs L) : isSgs (partE t L) := by
  unfold partE
  split
  · intro s hs
    exact hu s (List.mem_filter.1 hs).1
  · intro s hs
    cases hs
theorem sumS_part (t : Bool) : ∀ L : List Sg, sumS (partS t L) = totS t L
  | [] => rfl
  | s :: l => by
    have ih := sumS_part t l
    by_cases h : s.t = t
    · rw [partS_yes h]
      simp only [sumS, totS, ih]
      rw [if_pos h]
    · rw [partS_no h]
      simp only [totS, ih]
      rw [if_neg h]
      omega
theorem sumS_partE (t : Bool) (L : List Sg) : sumS (partE t L) = totE t L := by
  unfold partE totE
  by_cases h : segE L = 0
  · rw [if_pos h, if_pos h, sumS_part]
  · rw [if_neg h, if_neg h]
    rfl

set_option maxHeartbeats 1000000 in
theorem ppart (v : Value) (t : Bool) (L : List Sg) (w : World) (hv : SegsAt w v L) (hu : isSgs L) :
    Calls Try.prog 24 #[v, .bool t] w fun e w' => ∃ v', e = .returned v' ∧ OwnS w.heap.size w' v' (partE t L) ∧ Below w.heap.size w w' := by
  have HCk := hid_mk (pcheck v L w hv hu)
  by_cases hE : segE L = 0
  · have e1 : partE t L = partS t L := by
      unfold partE
      rw [if_pos hE]
    rw [e1]
    obtain ⟨o1, _, _⟩ := (segE_ok hu).1 hE
    rw [hE] at HCk
    clear e1 hE
    rcases hv with ⟨⟨va, vc, rfl, _⟩, rfl⟩ | ⟨b, o, c, rfl, hb1, hb2, hb3⟩
    · clear hu o1
      have e2 : partS t [] = [] := rfl
      rw [e2]
      clear e2
      go_enter Try.func24, Try.ntmps24
      go_wp2_with fail
      refine HCk.out.mono ?_
      rintro e w1 ⟨rfl, hb⟩
      have HB := hid_mk hb
      clear hb
      go_wp2_with fail
      go_loop [5, 13] (fun a i => a = .slice none 0 0 ∧ i = .int .i64 0) (fun _ i => 0)
      case atStart => exact ⟨rfl, rfl⟩
      case round =>
        obtain ⟨rfl, rfl⟩ := hrel
        go_wp2
        go_ret
        exact ⟨_, rfl, World.ownsRow_nil _ _ _ _, HB.out⟩
    · have HC := hid_mk hb3
      have h64i : (L.length : Int) ≤ 64 := by omega
      have HT : Hid (L.length ≤ 64) := o1
      clear hb3 hu o1
      go_enter Try.func24, Try.ntmps24
      go_wp2_with fail
      refine HCk.out.mono ?_
      rintro e w1 ⟨rfl, hb⟩
      have HB := hid_mk hb
      clear hb
      go_wp2_with fail
      go_loopw [5, 7, 13] (fun a p i wr => ∃ (k : Nat) (vo : Value), k ≤ L.length ∧ i = .int .i64 k ∧ vo = a ∧ Hid (OwnS w.heap.size wr vo (partS t (L.take k))) ∧ Hid (Below w.heap.size w wr)) (fun _ _ i _ => L.length - (intOf i).toNat)
      case atStart => exact ⟨0, _, Nat.zero_le _, rfl, rfl, hid_mk (World.ownsRow_nil _ _ _ _), HB⟩
      case round =>
        obtain ⟨k, vo, hk, rfl, rfl, hown, hbel⟩ := hrel
        by_cases hlt : k < L.length
        · obtain ⟨c0, c1, c2⟩ := HC.out k hlt
          have hst := partS_step (t := t) hlt
          have hle := partS_le t (L.take k)
          rw [List.length_take] at hle
          have d0 := (hbel.out.cell (p := ⟨b, o + k * 3, none⟩) hb1).trans c0
          have d1 := (hbel.out.cell (p := ⟨b, o + k * 3 + 1, none⟩) hb1).trans c1
          have d2 := (hbel.out.cell (p := ⟨b, o + k * 3 + 2, none⟩) hb1).trans c2
          have hbw : b < wr.heap.size := Nat.lt_of_lt_of_le hb1 hbel.out.size
          have HB1 := hid_mk (Below.alloc hbel.out hbel.out.size (.cells #[.int .u64 (sat L k).a, .int .u32 (sat L k).n, .bool (sat L k).t] 32))
          have HO1 := hid_mk (World.ownsRow.alloc hown.out (.cells #[.int .u64 (sat L k).a, .int .u32 (sat L k).n, .bool (sat L k).t] 32))
          have hsz := HB1.out.size
          clear c0 c1 c2 hbel hown
          by_cases ht : (sat L k).t = t
          · rw [if_pos ht] at hst
            obtain ⟨g, cap, w3, hrun, ho3, hb3⟩ := app_seg (sat L k) HO1.out hsz (by have := HT.out; omega)
            rw [sizeA] at hrun
            have HR := hid_mk hrun
            have HO3 := hid_mk ho3
            have HB3 := hid_mk (HB1.out.trans hb3)
            have HST := hid_mk hst
            have htb : ((sat L k).t == t) = true := by simp [ht]
            clear hrun ho3 hb3 hst ht hsz hle
            generalize (partS t (L.take k)).length = q at *
            go_wp2_with (at_builtin; refine wpList_append_run (v := vo) (u := .slice (some ⟨wr.heap.size + 1, 0, none⟩) 1 1) (v' := .slice (some ⟨g, 0, none⟩) (q + 1) cap) (w' := w3) rfl (.tmp 21) (.tmp 23) 33 rfl (by first | rfl | go_simp) (by first | rfl | go_simp) (HR.out _) ?_)
            go_roundw
            case rel => exact ⟨k + 1, _, by omega, by go_num, rfl, by rw [HST.out]; exact HO3, HB3⟩
            case measure => simp [intOf]; omega
          · rw [if_neg ht, List.append_nil] at hst
            have HST := hid_mk hst
            have htb : ((sat L k).t == t) = false := by simp [ht]
            clear hst ht hle hsz
            go_wp2_with fail
            go_roundw
            case rel => exact ⟨k + 1, _, by omega, by go_num, rfl, by rw [HST.out]; exact HO1, HB1⟩
            case measure => simp [intOf]; omega
        · obtain rfl : k = L.length := by omega
          rw [List.take_length] at hown
          go_wp2_with fail
          go_ret
          exact ⟨_, rfl, hown.out, hbel.out⟩
  · have e1 : partE t L = [] := by
      unfold partE
      rw [if_neg hE]
    rw [e1]
    have hE2 : (segE L != 0) = true := by simp [hE]
    obtain ⟨va, vc, rfl⟩ := hv.len
    clear e1 hE hu hv
    generalize segE L = x at *
    go_enter Try.func24, Try.ntmps24
    go_wp2_with fail
    refine HCk.out.mono ?_
    rintro e w1 ⟨rfl, hb⟩
    have HB := hid_mk hb
    clear hb
    go_wp2_with fail
    go_ret
    exact ⟨_, rfl, World.ownsRow_nil _ _ _ _, HB.out⟩

theorem ptotal (v : Value) (L : List Sg) (w : World) (hv : SegsAt w v L) (hu : isSgs L) :
    Calls Try.prog 9 #[v] w fun e w' => e = .returned (.tuple #[.int .u64 (totE false L), .int .u64 (totE true L)]) ∧ Below w.heap.size w w' := by
  have HP1 := hid_mk (ppart v false L w hv hu)
  have HV := hid_mk hv
  have HU := hid_mk hu
  rw [← sumS_partE, ← sumS_partE]
  obtain ⟨va, vc, rfl⟩ := hv.len
  clear hv hu
  go_enter Try.func9, Try.ntmps9
  go_wp2_with fail
  refine HP1.out.mono ?_
  rintro e w1 ⟨v1, rfl, ho1, hb⟩
  have HO1 := hid_mk ho1
  have HB1 := hid_mk hb
  clear hb ho1
  go_wp2_with fail
  refine (psum _ _ _ HO1.out.at (partE_is HU.out) (Nat.le_trans partE_len (by decide))).mono ?_
  rintro e w2 ⟨rfl, hb⟩
  have HB2 := hid_mk (below_then HB1.out hb)
  clear hb
  go_wp2_with fail
  refine (ppart _ true L _ (HV.out.below HB2.out) HU.out).mono ?_
  rintro e w3 ⟨v2, rfl, ho2, hb⟩
  have HO2 := hid_mk ho2
  have HB3 := hid_mk (below_then HB2.out hb)
  clear hb ho2
  go_wp2_with fail
  refine (psum _ _ _ HO2.out.at (partE_is HU.out) (Nat.le_trans partE_len (by decide))).mono ?_
  rintro e w4 ⟨rfl, hb⟩
  have HB4 := hid_mk (below_then HB3.out hb)
  clear hb
  go_wp2_with fail
  go_ret2
  exact ⟨rfl, HB4.out⟩
end Go.Proofs.Yteolnghnlfeakaa
