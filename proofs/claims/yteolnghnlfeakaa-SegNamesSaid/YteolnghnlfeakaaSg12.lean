/- Plain facts of what is read and written through lists of segments. No program in sight. Conditions: as each lemma names them. -/
import Derived.Test.YteolnghnlfeakaaSg10
namespace Go.Proofs.Yteolnghnlfeakaa
open Go.ChangeShapes Go.WideShapes Go.ChangeAt Go.RowKit
set_option linter.unusedVariables false
set_option maxRecDepth 100000

theorem loc_split {R : List (Int × Int)} (hR : okR (-1) 1048576 R = true) {a f g : Int} {k : Nat} (h : loc R a (f + g) = some k) (hf : 1 ≤ f) (hg : 1 ≤ g) : loc R a f = some k ∧ loc R (a + f) g = some (k + f.toNat) := by
  obtain ⟨i, hi, h1, h2, h3, rfl⟩ := loc_some h
  refine ⟨loc_mk hR hi h1 (by omega) hf, ?_⟩
  rw [loc_mk hR hi (by omega) (by omega) hg]
  congr 1
  omega
theorem readL_zero (R : List (Int × Int)) (M : List Int) (a n : Int) (h : n < 1) : readL R M a n = [] := by
  unfold readL
  rw [loc_empty R a n h]
theorem readL_some {R : List (Int × Int)} {M : List Int} {a n : Int} {k : Nat} (h : loc R a n = some k) : readL R M a n = (M.drop k).take n.toNat := by
  unfold readL
  rw [h]
theorem readL_split {R : List (Int × Int)} (hR : okR (-1) 1048576 R = true) (M : List Int) {a f g : Int} (h : (loc R a (f + g)).isSome = true) (hf : 0 ≤ f) (hg : 0 ≤ g) : readL R M a (f + g) = readL R M a f ++ readL R M (a + f) g := by
  obtain ⟨k, hk⟩ := Option.isSome_iff_exists.1 h
  by_cases f0 : f = 0
  · subst f0
    rw [readL_zero R M a 0 (by omega), List.nil_append, Int.zero_add, Int.add_zero]
  · by_cases g0 : g = 0
    · subst g0
      rw [readL_zero R M _ 0 (by omega), List.append_nil, Int.add_zero]
    · obtain ⟨e1, e2⟩ := loc_split hR hk (by omega) (by omega)
      rw [readL_some hk, readL_some e1, readL_some e2]
      have e3 : (f + g).toNat = f.toNat + g.toNat := by omega
      rw [e3, List.take_add, List.drop_drop]
theorem readL_length {R : List (Int × Int)} {M : List Int} (hM : M.length = sumR R) {a n : Int} (h : (loc R a n).isSome = true) (hn : 0 ≤ n) : ((readL R M a n).length : Int) = n := by
  obtain ⟨k, hk⟩ := Option.isSome_iff_exists.1 h
  have := loc_room hk hn
  rw [readL_some hk, List.length_take, List.length_drop]
  omega
theorem allIn_cons {R : List (Int × Int)} {s : Sg} {l : List Sg} (h : allIn R (s :: l) = true) : (loc R s.a s.n).isSome = true ∧ allIn R l = true := by
  simpa [allIn] using h
theorem gatS_length {R : List (Int × Int)} {M : List Int} (hM : M.length = sumR R) : ∀ {L : List Sg}, isSgs L → allIn R L = true → ((gatS R M L).length : Int) = totS false L
  | [], _, _ => rfl
  | s :: l, h, ha => by
    obtain ⟨h1, h2⟩ := isSgs_cons h
    obtain ⟨a1, a2⟩ := allIn_cons ha
    have ih := gatS_length hM h2 a2
    have hr := readL_length hM a1 h1.2.1
    simp only [gatS, totS, List.length_append]
    cases s.t
    · simp
      omega
    · simp
      omega
/-- a cut of segments that exist exists -/
theorem allIn_cut {R : List (Int × Int)} (hR : okR (-1) 1048576 R = true) : ∀ (L : List Sg) (f n : Int), isSgs L → allIn R L = true → 0 ≤ f → 0 ≤ n → allIn R (cutS L f n) = true
  | [], f, n, h, ha, hf, hn => rfl
  | s :: l, f, n, h, ha, hf, hn => by
    obtain ⟨h1, h2⟩ := isSgs_cons h
    obtain ⟨a1, a2⟩ := allIn_cons ha
    have h3 := h1.2.1
    by_cases hs : s.n ≤ f
    · rw [cutS_le hs]
      exact allIn_cut hR l _ _ h2 a2 (by omega) hn
    · by_cases hk : 0 < min (s.n - f) n
      · rw [cutS_some (by omega) rfl hk]
        have ih := allIn_cut hR l 0 (n - min (s.n - f) n) h2 a2 (by omega) (by omega)
        have e : (loc R (s.a + f) (min (s.n - f) n)).isSome = true := by
          obtain ⟨k, hk1⟩ := Option.isSome_iff_exists.1 a1
          obtain ⟨i, hi, q1, q2, q3, _⟩ := loc_some hk1
          rw [loc_mk hR hi (by omega) (by omega) (by omega)]
          rfl
        unfold allIn at ih ⊢
        simp only [List.all_cons, e, ih, Bool.and_self]
      · rw [cutS_none (by omega) rfl (by omega)]
        exact allIn_cut hR l 0 _ h2 a2 (by omega) (by omega)
/-- gathered in two halves -/
theorem gat_two {R : List (Int × Int)} (hR : okR (-1) 1048576 R = true) (M : List Int) : ∀ (L : List Sg) (f n : Int) (p : Bool), isSgs L → okS p L → allIn R L = true → 0 ≤ f → sumS L - f ≤ n → 0 ≤ n → gatS R M (cutS L 0 f) ++ gatS R M (cutS L f n) = gatS R M L
  | [], f, n, p, h, ho, ha, hf, hn, hn0 => rfl
  | s :: l, f, n, p, h, ho, ha, hf, hn, hn0 => by
    obtain ⟨h1, h2⟩ := isSgs_cons h
    obtain ⟨⟨o1, o2, o3⟩, o4⟩ := ho
    obtain ⟨a1, a2⟩ := allIn_cons ha
    have h4 := sumS_nonneg h2
    simp only [sumS] at hn
    by_cases hs : s.n ≤ f
    · have ih := gat_two hR M l (f - s.n) n s.t h2 o4 a2 (by omega) (by omega) hn0
      rw [cutS_some (k := s.n) (by omega) (by omega) (by omega), cutS_le hs]
      simp only [gatS, Int.add_zero, List.append_assoc]
      rw [ih]
    · rw [cutS_some (s := s) (f := f) (k := s.n - f) (by omega) (by omega) (by omega), cutS_all l _ _ h2 o4 (by omega)]
      by_cases hf0 : f = 0
      · subst hf0
        rw [cutS_zero _ 0 0 (by omega)]
        simp only [gatS, List.nil_append, Int.add_zero, Int.sub_zero]
      · rw [cutS_some (k := f) (by omega) (by omega) (by omega), cutS_zero _ _ _ (by omega)]
        simp only [gatS, Int.add_zero, List.append_nil]
        cases ht : s.t
        · have e := readL_split hR M (a := s.a) (f := f) (g := s.n - f) (by rw [show f + (s.n - f) = s.n from by omega]; exact a1) hf (by omega)
          rw [show f + (s.n - f) = s.n from by omega] at e
          simp only [Bool.false_eq_true, if_false]
          rw [e, List.append_assoc]
        · simp
theorem writeM_nil (R : List (Int × Int)) (M : List Int) (a : Int) : writeM R M a [] = M := by
  unfold writeM
  rw [loc_empty R a _ (by simp)]
theorem scatS_nil (R : List (Int × Int)) (M : List Int) : ∀ L : List Sg, scatS R M [] L = M
  | [] => rfl
  | s :: l => by
    have ih := scatS_nil R M l
    unfold scatS
    rw [List.take_nil, List.drop_nil, writeM_nil, ih]
    split <;> rfl
theorem part_sum (t : Bool) : ∀ L : List Sg, totS t (partS t L) = totS t L ∧ totS (!t) (partS t L) = 0
  | [] => ⟨rfl, rfl⟩
  | s :: l => by
    obtain ⟨i1, i2⟩ := part_sum t l
    by_cases h : s.t = t
    · rw [partS_yes h]
      simp only [totS, i1, i2, h]
      cases t <;> simp
    · rw [partS_no h]
      simp only [totS, i1, i2, if_neg h]
      exact ⟨by omega, trivial⟩
end Go.Proofs.Yteolnghnlfeakaa
