/- Package seg's Part, Total. Conditions: as each theorem names them. -/
import Derived.Test.YteolnghnlfeakaaPg1
namespace Go.Proofs.Yteolnghnlfeakaa
open Go.ChangeShapes Go.WideShapes Go.ChangeAt Go.RowKit
set_option linter.unusedVariables false
set_option maxRecDepth 100000

theorem partE_len {t : Bool} {L : List Sg} : (partE t L).length ≤ 64 := by
  unfold partE
  by_cases h : segE L = 0
  · rw [if_pos h]
    have h2 : L.length ≤ 64 := by
      unfold segE at h
      by_cases h3 : 64 < L.length
      · rw [if_pos h3] at h
        cases h
      · omega
    have := partS_le t L
    omega
  · rw [if_neg h]
    simp
theorem partE_is {t : Bool} {L : List Sg} (hu : isSgs L) : isSgs (partE t L) := by
  unfold partE
  split
  · intro s hs
    exact hu s (List.mem_filter.1 hs).1
  · intro s hs
    cases hs
theorem sumS_part (t : Bool) : ∀ L : List Sg, sumS (partS t L) = totS t L
  | [] => rfl
  | s :: l => by
    have ih := sumS_part t l
    by_cases h : s.t = t
    · rw [partS_yes h]
      simp only [sumS, totS, ih]
      rw [if_pos h]
    · rw [partS_no h]
      simp only [totS, ih]
      rw [if_neg h]
      omega
theorem sumS_partE (t : Bool) (L : List Sg) : sumS (partE t L) = totE t L := by
  unfold partE totE
  by_cases h : segE L = 0
  · rw [if_pos h, if_pos h, sumS_part]
  · rw [if_neg h, if_neg h]
    rfl

set_option maxHeartbeats 1000000 in
theorem ppart (v : Value) (t : Bool) (L : List Sg) (w : World) (hv : SegsAt w v L) (hu : isSgs L) :
    Calls Try.prog 24 #[v, .bool t] w fun e w' => ∃ v', e = .returned v' ∧ OwnS w.heap.size w' v' (partE t L) ∧ Below w.heap.size w w' := by
  have HCk := hid_mk (pcheck v L w hv hu)
  by_cases hE : segE L = 0
  · have e1 : partE t L = partS t L := by
      unfold partE
      rw [if_pos hE]
    rw [e1]
    obtain ⟨o1, _, _⟩ := (segE_ok hu).1 hE
    rw [hE] at HCk
    clear e1 hE
    rcases hv with ⟨⟨va, vc, rfl, _⟩, rfl⟩ | ⟨b, o, c, rfl, hb1, hb2, hb3⟩
    · clear hu o1
      have e2 : partS t [] = [] := rfl
      rw [e2]
      clear e2
      go_enter Try.func24, Try.ntmps24
      go_wp2_with fail
      refine HCk.out.mono ?_
      rintro e w1 ⟨rfl, hb⟩
      have HB := hid_mk hb
      clear hb
      go_wp2_with fail
      go_loop [5, 13] (fun a i => a = .slice none 0 0 ∧ i = .int .i64 0) (fun _ i => 0)
      case atStart => exact ⟨rfl, rfl⟩
      case round =>
        obtain ⟨rfl, rfl⟩ := hrel
        go_wp2
        go_ret
        exact ⟨_, rfl, World.ownsRow_nil _ _ _ _, HB.out⟩
    · have HC := hid_mk hb3
      have h64i : (L.length : Int) ≤ 64 := by omega
      have HT : Hid (L.length ≤ 64) := o1
      clear hb3 hu o1
      go_enter Try.func24, Try.ntmps24
      go_wp2_with fail
      refine HCk.out.mono ?_
      rintro e w1 ⟨rfl, hb⟩
      have HB := hid_mk hb
      clear hb
      go_wp2_with fail
      go_loopw [5, 7, 13] (fun a p i wr => ∃ (k : Nat) (vo : Value), k ≤ L.length ∧ i = .int .i64 k ∧ vo = a ∧ Hid (OwnS w.heap.size wr vo (partS t (L.take k))) ∧ Hid (Below w.heap.size w wr)) (fun _ _ i _ => L.length - (intOf i).toNat)
      case atStart => exact ⟨0, _, Nat.zero_le _, rfl, rfl, hid_mk (World.ownsRow_nil _ _ _ _), HB⟩
      case round =>
        obtain ⟨k, vo, hk, rfl, rfl, hown, hbel⟩ := hrel
        by_cases hlt : k < L.length
        · obtain ⟨c0, c1, c2⟩ := HC.out k hlt
          have hst := partS_step (t := t) hlt
          have hle := partS_le t (L.take k)
          rw [List.length_take] at hle
          have d0 := (hbel.out.cell (p := ⟨b, o + k * 3, none⟩) hb1).trans c0
          have d1 := (hbel.out.cell (p := ⟨b, o + k * 3 + 1, none⟩) hb1).trans c1
          have d2 := (hbel.out.cell (p := ⟨b, o + k * 3 + 2, none⟩) hb1).trans c2
          have hbw : b < wr.heap.size := Nat.lt_of_lt_of_le hb1 hbel.out.size
          have HB1 := hid_mk (Below.alloc hbel.out hbel.out.size (.cells #[.int .u64 (sat L k).a, .int .u32 (sat L k).n, .bool (sat L k).t] 32))
          have HO1 := hid_mk (World.ownsRow.alloc hown.out (.cells #[.int .u64 (sat L k).a, .int .u32 (sat L k).n, .bool (sat L k).t] 32))
          have hsz := HB1.out.size
          clear c0 c1 c2 hbel hown
          by_cases ht : (sat L k).t = t
          · rw [if_pos ht] at hst
            obtain ⟨g, cap, w3, hrun, ho3, hb3⟩ := app_seg (sat L k) HO1.out hsz (by have := HT.out; omega)
            rw [sizeA] at hrun
            have HR := hid_mk hrun
            have HO3 := hid_mk ho3
            have HB3 := hid_mk (HB1.out.trans hb3)
            have HST := hid_mk hst
            have htb : ((sat L k).t == t) = true := by simp [ht]
            clear hrun ho3 hb3 hst ht hsz hle
            generalize (partS t (L.take k)).length = q at *
            go_wp2_with (at_builtin; refine wpList_append_run (v := vo) (u := .slice (some ⟨wr.heap.size + 1, 0, none⟩) 1 1) (v' := .slice (some ⟨g, 0, none⟩) (q + 1) cap) (w' := w3) rfl (.tmp 21) (.tmp 23) 33 rfl (by first | rfl | go_simp) (by first | rfl | go_simp) (HR.out _) ?_)
            go_roundw
            case rel => exact ⟨k + 1, _, by omega, by go_num, rfl, by rw [HST.out]; exact HO3, HB3⟩
            case measure => simp [intOf]; omega
          · rw [if_neg ht, List.append_nil] at hst
            have HST := hid_mk hst
            have htb : ((sat L k).t == t) = false := by simp [ht]
            clear hst ht hle hsz
            go_wp2_with fail
            go_roundw
            case rel => exact ⟨k + 1, _, by omega, by go_num, rfl, by rw [HST.out]; exact HO1, HB1⟩
            case measure => simp [intOf]; omega
        · obtain rfl : k = L.length := by omega
          rw [List.take_length] at hown
          go_wp2_with fail
          go_ret
          exact ⟨_, rfl, hown.out, hbel.out⟩
  · have e1 : partE t L = [] := by
      unfold partE
      rw [if_neg hE]
    rw [e1]
    have hE2 : (segE L != 0) = true := by simp [hE]
    obtain ⟨va, vc, rfl⟩ := hv.len
    clear e1 hE hu hv
    generalize segE L = x at *
    go_enter Try.func24, Try.ntmps24
    go_wp2_with fail
    refine HCk.out.mono ?_
    rintro e w1 ⟨rfl, hb⟩
    have HB := hid_mk hb
    clear hb
    go_wp2_with fail
    go_ret
    exact ⟨_, rfl, World.ownsRow_nil _ _ _ _, HB.out⟩

theorem ptotal (v : Value) (L : List Sg) (w : World) (hv : SegsAt w v L) (hu : isSgs L) :
    Calls Try.prog 9 #[v] w fun e w' => e = .returned (.tuple #[.int .u64 (totE false L), .int .u64 (totE true L)]) ∧ Below w.heap.size w w' := by
  have HP1 := hid_mk (ppart v false L w hv hu)
  have HV := hid_mk hv
  have HU := hid_mk hu
  rw [← sumS_partE, ← sumS_partE]
  obtain ⟨va, vc, rfl⟩ := hv.len
  clear hv hu
  go_enter Try.func9, Try.ntmps9
  go_wp2_with fail
  refine HP1.out.mono ?_
  rintro e w1 ⟨v1, rfl, ho1, hb⟩
  have HO1 := hid_mk ho1
  have HB1 := hid_mk hb
  clear hb ho1
  go_wp2_with fail
  refine (psum _ _ _ HO1.out.at (partE_is HU.out) (Nat.le_trans partE_len (by decide))).mono ?_
  rintro e w2 ⟨rfl, hb⟩
  have HB2 := hid_mk (below_then HB1.out hb)
  clear hb
  go_wp2_with fail
  refine (ppart _ true L _ (HV.out.below HB2.out) HU.out).mono ?_
  rintro e w3 ⟨v2, rfl, ho2, hb⟩
  have HO2 := hid_mk ho2
  have HB3 := hid_mk (below_then HB2.out hb)
  clear hb ho2
  go_wp2_with fail
  refine (psum _ _ _ HO2.out.at (partE_is HU.out) (Nat.le_trans partE_len (by decide))).mono ?_
  rintro e w4 ⟨rfl, hb⟩
  have HB4 := hid_mk (below_then HB3.out hb)
  clear hb
  go_wp2_with fail
  go_ret2
  exact ⟨rfl, HB4.out⟩
end Go.Proofs.Yteolnghnlfeakaa
