/- Package seg's Gather, Same; law05.lives. Conditions: as each theorem names them. -/
import Derived.Test.YteolnghnlfeakaaPg10
import Derived.Test.YteolnghnlfeakaaSg7
namespace Go.Proofs.Yteolnghnlfeakaa
open Go.ChangeShapes Go.WideShapes Go.ChangeAt Go.RowKit
set_option linter.unusedVariables false
set_option maxRecDepth 100000

theorem pgat_nil (v : Value) (w : World) :
    Calls Try.prog 12 #[.pointer none, v] w fun e w' => e = .returned (.tuple #[.slice none 0 0, .int .i64 1]) ∧ w = w' := by
  go_enter Try.func12, Try.ntmps12
  go_wp2_with (go_at_call 41; refine (pusable_nil _ _).mono ?_; rintro e w' ⟨rfl, rfl⟩)
  go_ret2
  exact ⟨rfl, rfl⟩

set_option maxHeartbeats 1000000 in
theorem pgat (v : Value) (L : List Sg) (p ib qb : Nat) (R : List (Int × Int)) (M : List Int) (w : World) (hv : SegsAt w v L) (hu : isSgs L) (hm : IsMem w p ib qb R M) :
    Calls Try.prog 12 #[.pointer (some ⟨p, 0, none⟩), v] w fun e w' => ∃ v', e = .returned (.tuple #[v', .int .i64 (inE R L)]) ∧ NewBytes w.heap.size w' v' (gatL R M L) ∧ Below w.heap.size w w' := by
  have HUs := hid_mk (pusable v L p ib qb R M w hv hu hm)
  have HV := hid_mk hv
  have HU := hid_mk hu
  have HM := hid_mk hm
  obtain ⟨va, vc, rfl⟩ := hv.len
  by_cases hE : segE L = 0
  · rw [inE_ok hE]
    rw [hE] at HUs
    obtain ⟨o1, o2, o3⟩ := (segE_ok hu).1 hE
    have hgl : gatL R M L = if exE R L = 0 then gatS R M L else [] := by
      unfold gatL
      rw [inE_ok hE]
    have hpt : ∀ t, partE t L = partS t L := fun t => by
      unfold partE
      rw [if_pos hE]
    have HP := hid_mk (fun t u (h : SegsAt u (.slice va L.length vc) L) => ppart _ t L u h hu)
    simp only [hpt] at HP
    have h2 := allIn_two (R := R) o2
    have HL : Hid (∀ t, (partS t L).length ≤ 64) := fun t => Nat.le_trans (partS_le t L) o1
    have HSm : Hid (sumS (partS false L) < 4294967296) := by
      show _ < _
      rw [sumS_part]
      have h1 := totS_sum L
      have h3 := totS_nonneg true hu
      omega
    have HOk : Hid (okS false (partS false L)) := okS_part false o2 (by simp)
    have HFl := hid_mk (gatS_flat R M L)
    clear hv hu hm hE o1 o2 o3 hpt
    cases h1 : allIn R (partS true L)
    · rw [h1, Bool.false_and] at h2
      have e5 := exE_no h2
      rw [e5] at hgl ⊢
      rw [if_neg (by decide)] at hgl
      rw [hgl]
      have HX := hid_mk (exE_no h1)
      clear h1 h2 hgl e5
      go_enter Try.func12, Try.ntmps12
      go_wp2_with fail
      refine HUs.out.mono ?_
      rintro e w1 ⟨rfl, hb⟩
      have HB1 := hid_mk hb
      clear hb
      go_wp2_with fail
      refine (HP.out true _ (HV.out.below HB1.out)).mono ?_
      rintro e w2 ⟨v2, rfl, ho2, hb⟩
      have HB2 := hid_mk (below_then HB1.out hb)
      have HO2 := hid_mk ho2.at
      clear hb ho2
      go_wp2_with fail
      refine (pexist _ _ p ib qb R M _ HO2.out (partS_is HU.out) (Nat.le_trans (HL.out true) (by decide)) (HM.out.below HB2.out)).mono ?_
      rw [HX.out]
      rintro e w3 ⟨rfl, hb⟩
      have HB3 := hid_mk (below_then HB2.out hb)
      clear hb
      go_wp2_with fail
      go_ret2
      exact ⟨_, rfl, Or.inl ⟨rfl, rfl⟩, HB3.out⟩
    · rw [h1, Bool.true_and] at h2
      have hex : exE R L = exE R (partS false L) := by
        unfold exE
        rw [h2]
      have hga : gatL R M L = asL R M (partS false L) := by
        rw [hgl, hex]
        unfold asL exE
        by_cases h3 : allIn R (partS false L) = true
        · rw [if_pos h3, if_pos h3, if_pos rfl, HFl.out]
        · rw [if_neg h3, if_neg h3, if_neg (by decide)]
      rw [hex, hga]
      have HX := hid_mk (exE_yes h1)
      clear h1 h2 hgl hex hga
      go_enter Try.func12, Try.ntmps12
      go_wp2_with fail
      refine HUs.out.mono ?_
      rintro e w1 ⟨rfl, hb⟩
      have HB1 := hid_mk hb
      clear hb
      go_wp2_with fail
      refine (HP.out true _ (HV.out.below HB1.out)).mono ?_
      rintro e w2 ⟨v2, rfl, ho2, hb⟩
      have HB2 := hid_mk (below_then HB1.out hb)
      have HO2 := hid_mk ho2.at
      clear hb ho2
      go_wp2_with fail
      refine (pexist _ _ p ib qb R M _ HO2.out (partS_is HU.out) (Nat.le_trans (HL.out true) (by decide)) (HM.out.below HB2.out)).mono ?_
      rw [HX.out]
      rintro e w3 ⟨rfl, hb⟩
      have HB3 := hid_mk (below_then HB2.out hb)
      clear hb
      go_wp2_with fail
      refine (HP.out false _ (HV.out.below HB3.out)).mono ?_
      rintro e w4 ⟨v4, rfl, ho4, hb⟩
      have HB4 := hid_mk (below_then HB3.out hb)
      have HO4 := hid_mk ho4.at
      clear hb ho4
      go_wp2_with fail
      refine (passemble _ _ false p ib qb R M _ HO4.out (partS_is HU.out) HOk.out (HL.out false) HSm.out (HM.out.below HB4.out)).mono ?_
      unfold AsEnd
      rintro e w5 ⟨v5, rfl, hn5, hb⟩
      have HB5 := hid_mk (below_then HB4.out hb)
      have HN5 := hid_mk (newBytes_mono hn5 HB4.out.size)
      clear hb hn5
      go_wp2_with fail
      go_ret2
      exact ⟨_, rfl, HN5.out, HB5.out⟩
  · rw [inE_bad hE]
    have hgl : gatL R M L = [] := by
      unfold gatL
      rw [inE_bad hE, if_neg hE]
    rw [hgl]
    have hE2 : (segE L != 0) = true := by simp [hE]
    clear hv hu hm hE hgl
    generalize segE L = x at *
    go_enter Try.func12, Try.ntmps12
    go_wp2_with fail
    refine HUs.out.mono ?_
    rintro e w1 ⟨rfl, hb⟩
    have HB1 := hid_mk hb
    clear hb
    go_wp2_with fail
    go_ret2
    exact ⟨_, rfl, Or.inl ⟨rfl, rfl⟩, HB1.out⟩

set_option maxHeartbeats 1000000 in
theorem pequal (v1 v2 : Value) (L O : List Sg) (w : World) (h1 : SegsAt w v1 L) (h2 : SegsAt w v2 O) (hl : L.length ≤ 1000) :
    Calls Try.prog 45 #[v1, v2] w fun e w' => e = .returned (.bool (sameS L O)) ∧ ∃ m, w' = w.drewN m := by
  by_cases hn : L.length = O.length
  · rcases h1 with ⟨⟨va, vc, rfl, _⟩, rfl⟩ | ⟨b, o, c, rfl, hb1, hb2, hb3⟩
    · have hO : O = [] := List.length_eq_zero_iff.1 hn.symm
      subst hO
      obtain ⟨vb, vd, rfl⟩ := h2.len
      go_enter Try.func45, Try.ntmps45
      go_wp2
      go_loop [5, 13] (fun _ i => i = .int .i64 0) (fun _ i => 0)
      case atStart => rfl
      case round =>
        obtain rfl := hrel
        go_wp2
        go_ret
        exact ⟨rfl, 0, rfl⟩
    · rcases h2 with ⟨⟨va, vc, rfl, _⟩, rfl⟩ | ⟨b2, o2, c2, rfl, hd1, hd2, hd3⟩
      · have hL : L = [] := List.length_eq_zero_iff.1 hn
        subst hL
        go_enter Try.func45, Try.ntmps45
        go_wp2
        go_loop [5, 13] (fun _ i => i = .int .i64 0) (fun _ i => 0)
        case atStart => rfl
        case round =>
          obtain rfl := hrel
          go_wp2
          go_ret
          exact ⟨rfl, 0, rfl⟩
      · have HC := hid_mk hb3
        have HD := hid_mk hd3
        have hmx : (L.length : Int) ≤ 1000 := by omega
        have hne : ((O.length : Int) != (O.length : Int)) = false := by simp
        have HN := hid_mk hn
        have hni : (L.length : Int) = (O.length : Int) := by omega
        have hmo : (O.length : Int) ≤ 1000 := by omega
        rw [hn] at hb2 ⊢
        clear hb3 hd3 hn
        go_enter Try.func45, Try.ntmps45
        go_wp2
        go_loopw [5, 13] (fun _ i wr => ∃ (k m : Nat), k ≤ O.length ∧ i = .int .i64 k ∧ wr = w.drewN m ∧ Hid (sameS L O = sameS (L.drop k) (O.drop k))) (fun _ i _ => O.length - (intOf i).toNat)
        case atStart => exact ⟨0, 0, Nat.zero_le _, rfl, rfl, rfl⟩
        case round =>
          obtain ⟨k, m, hk, rfl, rfl, heq⟩ := hrel
          by_cases hlt : k < O.length
          · obtain ⟨p0, p1, p2⟩ := HC.out k (by have := HN.out; omega)
            obtain ⟨q0, q1, q2⟩ := HD.out k hlt
            have hst := sameS_step (L := L) (O := O) (k := k) (by have := HN.out; omega) hlt
            have hq := neqSg (sat L k).a (sat L k).n (sat O k).a (sat O k).n (sat L k).t (sat O k).t
            rw [show ((sat L k).a == (sat O k).a && ((sat L k).n == (sat O k).n && (sat L k).t == (sat O k).t)) = sgB (sat L k) (sat O k) from rfl] at hq
            have hni2 : (k : Int) < (L.length : Int) := by omega
            cases hs : sgB (sat L k) (sat O k)
            · rw [hs] at hst hq
              have HF : Hid (false = sameS L O) := by
                show false = sameS L O
                rw [heq.out, hst]
                rfl
              clear hst heq hs hni
              generalize sat L k = s1 at *
              generalize sat O k = s2 at *
              go_wp2_with fail
              go_quiet (fail)
              go_wp2_with fail
              go_ret
              exact ⟨ret_eq (congrArg Value.bool HF.out), _, drewN_drewN _ _ _⟩
            · rw [hs] at hst hq
              have HX : Hid (sameS L O = sameS (L.drop (k + 1)) (O.drop (k + 1))) := by
                show sameS L O = _
                rw [heq.out, hst]
                rfl
              clear hst heq hs hni
              generalize sat L k = s1 at *
              generalize sat O k = s2 at *
              go_wp2_with fail
              go_quiet (fail)
              go_wp2_with fail
              go_roundw
              case rel => exact ⟨k + 1, _, by omega, by go_num, rfl, HX⟩
              case measure => simp [intOf]; omega
          · obtain rfl : k = O.length := by omega
            have HF : Hid (true = sameS L O) := by
              show true = sameS L O
              rw [heq.out, List.drop_length, List.drop_of_length_le (by have := HN.out; omega)]
              rfl
            go_wp2_with fail
            go_ret
            exact ⟨ret_eq (congrArg Value.bool HF.out), m, rfl⟩
  · obtain ⟨va, vc, rfl⟩ := h1.len
    obtain ⟨vb, vd, rfl⟩ := h2.len
    have HF : Hid (false = sameS L O) := (sameS_len hn).symm
    have hni : ((L.length : Int) != (O.length : Int)) = true := by
      simp
      omega
    clear h1 h2
    go_enter Try.func45, Try.ntmps45
    go_wp2
    go_ret
    exact ⟨ret_eq (congrArg Value.bool HF.out), 0, rfl⟩
theorem psame (v1 v2 : Value) (L O : List Sg) (w : World) (h1 : SegsAt w v1 L) (h2 : SegsAt w v2 O) (hl : L.length ≤ 1000) :
    Calls Try.prog 16 #[v1, v2] w fun e w' => e = .returned (.bool (sameS L O)) ∧ ∃ m, w' = w.drewN m := by
  have HE := hid_mk (pequal v1 v2 L O w h1 h2 hl)
  obtain ⟨va, vc, rfl⟩ := h1.len
  obtain ⟨vb, vd, rfl⟩ := h2.len
  clear h1 h2
  go_enter Try.func16, Try.ntmps16
  go_wp2_with fail
  refine HE.out.mono ?_
  rintro e w' ⟨rfl, m, rfl⟩
  go_wp2_with fail
  go_ret
  exact ⟨rfl, m, rfl⟩
end Go.Proofs.Yteolnghnlfeakaa
