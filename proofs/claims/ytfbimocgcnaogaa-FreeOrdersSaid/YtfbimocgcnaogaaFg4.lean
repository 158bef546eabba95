/- Package free's Check, Count, Is, Same. Conditions: as each theorem names them. -/
import Derived.Test.YtfbimocgcnaogaaFg3
namespace Go.Proofs.Ytfbimocgcnaogaa
open Go.ChangeShapes Go.WideShapes Go.ChangeAt Go.RowKit
set_option linter.unusedVariables false
set_option maxRecDepth 100000

set_option maxHeartbeats 1000000 in
theorem frcheck (S : Int) (v : Value) (L : List Int) (w : World) (hv : IntsZ w v L) (hS : I64 S) (hl : L.length ≤ 100000) :
    Calls Try.prog 13 #[frV S v] w fun e w' => e = .returned (.int .i64 (chkLE S L)) ∧ Below w.heap.size w w' := by
  have HM := hid_mk (fun u (hu : IntsZ u v L) => pmarks S v L u hu hl)
  have HV := hid_mk hv
  obtain ⟨va, vc, rfl⟩ := hv.len
  unfold frV at *
  have HB0 := hid_mk (below_box w (.cells #[.int .i64 S, .slice va L.length vc] 24))
  clear hv hl hS
  generalize chkLE S L = z at *
  go_enter Try.func13, Try.ntmps13
  go_wp2_with fail
  refine (HM.out _ (HV.out.below HB0.out)).mono ?_
  rintro e w1 ⟨a, n, c, rfl, hb, _⟩
  have HB1 := hid_mk (below_then HB0.out hb)
  clear hb
  go_wp2_with fail
  go_ret
  exact ⟨rfl, HB1.out⟩

set_option maxHeartbeats 1000000 in
theorem frcount (S : Int) (v : Value) (L : List Int) (w : World) (hv : IntsZ w v L) (hS : I64 S) (hl : L.length ≤ 100000) :
    Calls Try.prog 11 #[frV S v] w fun e w' => e = .returned (.int .i64 (cntL S L)) ∧ Below w.heap.size w w' := by
  have HC := hid_mk (fun u (hu : IntsZ u v L) => frcheck S v L u hu hS hl)
  unfold chkLE at HC
  unfold cntL
  have HV := hid_mk hv
  obtain ⟨va, vc, rfl⟩ := hv.len
  unfold frV at *
  have HB0 := hid_mk (below_box w (.cells #[.int .i64 S, .slice va L.length vc] 24))
  have HX := hid_mk (blk_new w [.int .i64 S, .slice va L.length vc] 24)
  clear hv hl hS
  cases hc : chkL S L
  · rw [hc, if_neg (by decide)] at HC
    rw [if_neg (by decide)]
    clear hc
    go_enter Try.func11, Try.ntmps11
    go_wp2_with fail
    refine (HC.out _ (HV.out.below HB0.out)).mono ?_
    rintro e w1 ⟨rfl, hb⟩
    have HB1 := hid_mk (below_then HB0.out hb)
    clear hb
    go_wp2_with fail
    go_ret
    exact ⟨rfl, HB1.out⟩
  · rw [hc, if_pos rfl] at HC
    rw [if_pos rfl]
    clear hc
    go_enter Try.func11, Try.ntmps11
    go_wp2_with fail
    refine (HC.out _ (HV.out.below HB0.out)).mono ?_
    rintro e w1 ⟨rfl, hb⟩
    have HB1 := hid_mk (below_then HB0.out hb)
    obtain ⟨x0, x1, x2, _⟩ := blk2 (HX.out.below hb)
    clear hb
    go_wp2_with fail
    go_ret
    exact ⟨rfl, HB1.out⟩

theorem inB_out {S : Int} {L : List Int} {n : Int} (h : chkL S L = true) (hn : okI S n = false) : inB L n = false := by
  obtain ⟨_, _, h3, _⟩ := chkL_iff.1 h
  unfold inB
  refine decide_eq_false (fun hm => ?_)
  rw [okI_iff.2 (h3 n hm)] at hn
  cases hn
set_option maxHeartbeats 2000000 in
theorem fris (S : Int) (v : Value) (L : List Int) (n : Int) (w : World) (hv : IntsZ w v L) (hS : I64 S) (hn : I64 n) (hl : L.length ≤ 100000) :
    Calls Try.prog 12 #[frV S v, .int .i64 n] w fun e w' => e = .returned (.bool (isL S L n)) ∧ Below w.heap.size w w' := by
  have HM := hid_mk (fun u (hu : IntsZ u v L) => pmarks S v L u hu hl)
  unfold chkLE at HM
  have HV := hid_mk hv
  obtain ⟨va, vc, rfl⟩ := hv.len
  unfold frV at *
  have HB0 := hid_mk (below_box w (.cells #[.int .i64 S, .slice va L.length vc] 24))
  have HX := hid_mk (blk_new w [.int .i64 S, .slice va L.length vc] 24)
  have HO := hid_mk (fun u => pisnum n S u)
  clear hv hl hS
  cases hc : chkL S L
  · have HE : Hid (isL S L n = false) := hid_mk (by unfold isL; rw [hc]; rfl)
    rw [hc, if_neg (by decide)] at HM
    clear hc
    go_enter Try.func12, Try.ntmps12
    go_wp2_with fail
    refine (HM.out _ (HV.out.below HB0.out)).mono ?_
    rintro e w1 ⟨a, n1, c, rfl, hb, _⟩
    have HB1 := hid_mk (below_then HB0.out hb)
    clear hb
    go_wp2_with fail
    go_ret
    exact ⟨ret_eq (by rw [HE.out]; rfl), HB1.out⟩
  obtain ⟨hs0, _⟩ := chkL_iff.1 hc
  rw [hc, if_pos rfl] at HM
  cases ho : okI S n
  · have HE : Hid (isL S L n = false) := hid_mk (by unfold isL; rw [hc, inB_out hc ho]; rfl)
    rw [ho] at HO
    clear hc ho
    go_enter Try.func12, Try.ntmps12
    go_wp2_with fail
    refine (HM.out _ (HV.out.below HB0.out)).mono ?_
    rintro e w1 ⟨a, n1, c, rfl, hb, _⟩
    have HB1 := hid_mk (below_then HB0.out hb)
    obtain ⟨x0, x1, x2, _⟩ := blk2 (HX.out.below hb)
    clear hb
    go_wp2_with fail
    refine (HO.out _).mono ?_
    rintro e w2 ⟨rfl, rfl⟩
    go_wp2_with fail
    go_ret
    exact ⟨ret_eq (by rw [HE.out]; rfl), HB1.out⟩
  have HE : Hid (isL S L n = inB L n) := hid_mk (by unfold isL; rw [hc]; rfl)
  rw [ho] at HO
  obtain ⟨hn0, hn1⟩ := okI_iff.1 ho
  obtain ⟨x, rfl⟩ := Int.eq_ofNat_of_zero_le hn0
  have hK : x < 64 * ((S.toNat + 63) / 64) ∧ (S.toNat + 63) / 64 ≤ 1000 := by omega
  obtain ⟨K, hKe⟩ : ∃ K, (S.toNat + 63) / 64 = K := ⟨_, rfl⟩
  unfold BmOf at HM
  rw [hKe] at HM hK
  have HP := hid_mk (fun u b (h : Bm u b K (fun y => inB L (y : Int))) => phas b K x _ u h hK.1 hK.2)
  clear hc ho hn0 hn1 hK hKe hn
  go_enter Try.func12, Try.ntmps12
  go_wp2_with fail
  refine (HM.out _ (HV.out.below HB0.out)).mono ?_
  rintro e w1 ⟨a, n1, c, rfl, hb, hm⟩
  have HB1 := hid_mk (below_then HB0.out hb)
  obtain ⟨x0, x1, x2, _⟩ := blk2 (HX.out.below hb)
  obtain ⟨b, he, _, hm2⟩ := hm trivial
  cases he
  have HM1 := hid_mk hm2
  clear hb hm hm2
  go_wp2_with fail
  refine (HO.out _).mono ?_
  rintro e w2 ⟨rfl, rfl⟩
  go_wp2_with fail
  refine (HP.out _ _ HM1.out).mono ?_
  rintro e w3 ⟨rfl, rfl⟩
  go_wp2_with fail
  go_ret
  exact ⟨ret_eq (by rw [HE.out]; rfl), HB1.out⟩

set_option maxHeartbeats 2000000 in
theorem pequalI (v u : Value) (L M : List Int) (w : World) (hv : IntsZ w v L) (hu : IntsZ w u M) (hl : L.length ≤ 1000000) :
    Calls Try.prog 29 #[v, u] w fun e w' => e = .returned (.bool (sameL L M)) ∧ Below w.heap.size w w' := by
  obtain ⟨va, vc, rfl⟩ := hv.len
  obtain ⟨ua, uc, rfl⟩ := hu.len
  by_cases hne : L.length = M.length
  · have hC : ∀ k, k < L.length → ∃ b o b2 o2, va = some ⟨b, o, none⟩ ∧ ua = some ⟨b2, o2, none⟩ ∧ w.cell? ⟨b, o + k, none⟩ = some (.int .i64 (L.getD k 0)) ∧ w.cell? ⟨b2, o2 + k, none⟩ = some (.int .i64 (M.getD k 0)) := fun k hk => by
      rcases hv with ⟨_, rfl⟩ | ⟨b, o, c, he, h1, h2, h3⟩
      · simp at hk
      · rcases hu with ⟨_, rfl⟩ | ⟨b2, o2, c2, he2, g1, g2, g3⟩
        · rw [hne] at hk
          simp at hk
        · cases he
          cases he2
          exact ⟨b, o, b2, o2, rfl, rfl, h3 k hk, g3 k (by omega)⟩
    have HC := hid_mk hC
    have HL := hid_mk hl
    have hnb : ((L.length : Int) != (M.length : Int)) = false := by simp [hne]
    have HN := hid_mk hne
    clear hv hu hC hl hne
    go_enter Try.func29, Try.ntmps29
    go_wp2
    go_loopw [5, 13] (fun _ i wr => ∃ k n : Nat, k ≤ L.length ∧ i = .int .i64 k ∧ wr = w.drewN n ∧ Hid (L.take k = M.take k)) (fun _ i _ => L.length - (intOf i).toNat)
    case atStart => exact ⟨0, 0, Nat.zero_le _, rfl, rfl, hid_mk rfl⟩
    case round =>
      obtain ⟨k, n, hk, rfl, rfl, hno⟩ := hrel
      clear hnb
      by_cases hlt : k < L.length
      · obtain ⟨b, o, b2, o2, hva, hua, c0, c1⟩ := HC.out k hlt
        subst hva
        subst hua
        have hki : (k : Int) < (L.length : Int) := by omega
        have hkm : (k : Int) < (M.length : Int) := by
          have := HN.out
          omega
        have hk6 : (k : Int) < 1000000 := by
          have := HL.out
          omega
        have HS := hid_mk (fun h => same_next hlt (by have := HN.out; omega) h hno.out)
        have HO := hid_mk (fun h => sameL_no (L := L) (M := M) hlt (by have := HN.out; omega) h)
        generalize L.getD k 0 = x at *
        generalize M.getD k 0 = y at *
        have hb := bne_dec x y
        by_cases he : x = y
        · rw [decide_eq_true he] at hb
          have HE := hid_mk (HS.out he)
          clear he HS HO
          simp only [Bool.not_true] at hb
          go_wp2
          go_quiet (fail)
          go_wp2
          go_roundw
          case rel => exact ⟨k + 1, _, by omega, by simp, rfl, HE⟩
          case measure => simp [intOf]; omega
        · rw [decide_eq_false he] at hb
          have HE := hid_mk (HO.out he)
          clear he HS HO
          simp only [Bool.not_false] at hb
          go_wp2
          go_quiet (fail)
          go_wp2
          go_ret
          exact ⟨ret_eq (by rw [HE.out]; rfl), below_dn (below_drewN _ _) _⟩
      · obtain rfl : k = L.length := by omega
        have HE : Hid (sameL L M = true) := hid_mk (by
          have h := hno.out
          have hn := HN.out
          rw [List.take_length, hn, List.take_length] at h
          unfold sameL
          exact decide_eq_true h)
        go_wp2
        go_ret
        exact ⟨ret_eq (by rw [HE.out]; rfl), below_drewN _ _⟩
  · have hnb : ((L.length : Int) != (M.length : Int)) = true := by
      simp
      omega
    have HE : Hid (sameL L M = false) := hid_mk (by
      unfold sameL
      refine decide_eq_false (fun e => hne (by rw [e])))
    clear hv hu
    go_enter Try.func29, Try.ntmps29
    go_wp2
    go_ret
    exact ⟨ret_eq (by rw [HE.out]; rfl), Below.refl _ _⟩

set_option maxHeartbeats 1000000 in
theorem frsame (S T : Int) (v u : Value) (L M : List Int) (w : World) (hv : IntsZ w v L) (hu : IntsZ w u M) (hl : L.length ≤ 100000) :
    Calls Try.prog 14 #[frV S v, frV T u] w fun e w' => e = .returned (.bool (sameF S L T M)) ∧ Below w.heap.size w w' := by
  have HQ := hid_mk (fun u1 (h1 : IntsZ u1 v L) (h2 : IntsZ u1 u M) => pequalI v u L M u1 h1 h2 (by omega))
  have HV := hid_mk hv
  have HU := hid_mk hu
  obtain ⟨va, vc, rfl⟩ := hv.len
  obtain ⟨ua, uc, rfl⟩ := hu.len
  unfold frV sameF at *
  have HB0 : Hid (Below w.heap.size w ((w.alloc (.cells #[.int .i64 S, .slice va L.length vc] 24)).alloc (.cells #[.int .i64 T, .slice ua M.length uc] 24))) := hid_mk ((below_box w _).alloc (by simp) _)
  clear hv hu hl
  generalize sameL L M = z at *
  have hb := beq_dec S T
  by_cases hST : S = T
  · rw [decide_eq_true hST] at hb ⊢
    rw [Bool.true_and]
    clear hST
    go_enter Try.func14, Try.ntmps14
    go_wp2_with fail
    refine (HQ.out _ (HV.out.below HB0.out) (HU.out.below HB0.out)).mono ?_
    rintro e w1 ⟨rfl, hb1⟩
    have HB1 := hid_mk (below_then HB0.out hb1)
    clear hb1
    go_wp2_with fail
    go_ret
    exact ⟨rfl, HB1.out⟩
  · rw [decide_eq_false hST] at hb ⊢
    rw [Bool.false_and]
    clear hST
    go_enter Try.func14, Try.ntmps14
    go_wp2_with fail
    go_ret
    exact ⟨rfl, HB0.out⟩
end Go.Proofs.Ytfbimocgcnaogaa
