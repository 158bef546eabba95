/- Sg1 Sg2: joined texts. Conditions: as each theorem names them. -/
import Derived.Test.YteolnghnlfeakaaKp08
import Derived.BigQuiet
/- Plain facts of cuts and parts of lists of segments. No program in sight. Conditions: as each lemma names them. -/
namespace Go.Proofs.Yteolnghnlfeakaa
open Go.ChangeShapes Go.WideShapes Go.ChangeAt Go.RowKit
set_option linter.unusedVariables false
set_option maxRecDepth 100000

theorem cutS_le {s : Sg} {l : List Sg} {f n : Int} (h : s.n ≤ f) : cutS (s :: l) f n = cutS l (f - s.n) n := by
  show (if s.n ≤ f then _ else _) = _
  rw [if_pos h]
theorem cutS_gt {s : Sg} {l : List Sg} {f n : Int} (h : f < s.n) : cutS (s :: l) f n = (if 0 < min (s.n - f) n then [⟨s.a + f, min (s.n - f) n, s.t⟩] else []) ++ cutS l 0 (n - min (s.n - f) n) := by
  show (if s.n ≤ f then _ else _) = _
  rw [if_neg (by omega)]
theorem cutS_some {s : Sg} {l : List Sg} {f n k : Int} (h : f < s.n) (hk : min (s.n - f) n = k) (h0 : 0 < k) : cutS (s :: l) f n = ⟨s.a + f, k, s.t⟩ :: cutS l 0 (n - k) := by
  rw [cutS_gt h, hk, if_pos h0]
  rfl
theorem cutS_none {s : Sg} {l : List Sg} {f n k : Int} (h : f < s.n) (hk : min (s.n - f) n = k) (h0 : k ≤ 0) : cutS (s :: l) f n = cutS l 0 (n - k) := by
  rw [cutS_gt h, hk, if_neg (by omega)]
  rfl
theorem cutS_zero : ∀ (L : List Sg) (f n : Int), n ≤ 0 → cutS L f n = []
  | [], _, _, _ => rfl
  | s :: l, f, n, h => by
    by_cases hf : s.n ≤ f
    · rw [cutS_le hf]
      exact cutS_zero l _ _ h
    · rw [cutS_none (by omega) rfl (by omega)]
      exact cutS_zero l _ _ (by omega)
theorem sumS_cut : ∀ (L : List Sg) (f n : Int), isSgs L → 0 ≤ f → 0 ≤ n → sumS (cutS L f n) = if f < sumS L then min n (sumS L - f) else 0
  | [], f, n, h, hf, hn => by
    have e : sumS [] = 0 := rfl
    rw [show cutS [] f n = [] from rfl, e, if_neg (by omega)]
  | s :: l, f, n, h, hf, hn => by
    obtain ⟨h1, h2⟩ := isSgs_cons h
    have h3 := h1.2.1
    have h4 := sumS_nonneg h2
    have e : sumS (s :: l) = s.n + sumS l := rfl
    rw [e]
    by_cases hs : s.n ≤ f
    · rw [cutS_le hs, sumS_cut l _ _ h2 (by omega) hn]
      by_cases hq : f < s.n + sumS l
      · rw [if_pos (by omega), if_pos hq]
        omega
      · rw [if_neg (by omega), if_neg hq]
    · have ih := sumS_cut l 0 (n - min (s.n - f) n) h2 (by omega) (by omega)
      have ih2 : sumS (cutS l 0 (n - min (s.n - f) n)) = min (n - min (s.n - f) n) (sumS l) := by
        rw [ih]
        by_cases hq : 0 < sumS l
        · rw [if_pos hq]
          omega
        · rw [if_neg hq]
          omega
      by_cases hk : 0 < min (s.n - f) n
      · rw [cutS_some (by omega) rfl hk]
        show min (s.n - f) n + sumS (cutS l 0 (n - min (s.n - f) n)) = _
        rw [ih2, if_pos (by omega)]
        omega
      · rw [cutS_none (by omega) rfl (by omega), ih2]
        rw [if_pos (by omega)]
        omega
theorem cutS_is : ∀ (L : List Sg) (f n : Int) (p : Bool), isSgs L → okS p L → 0 ≤ f → 0 ≤ n → isSgs (cutS L f n)
  | [], f, n, p, h, ho, hf, hn => fun s hs => by cases hs
  | s :: l, f, n, p, h, ho, hf, hn => by
    obtain ⟨h1, h2⟩ := isSgs_cons h
    obtain ⟨⟨o1, o2, o3⟩, o4⟩ := ho
    by_cases hs : s.n ≤ f
    · rw [cutS_le hs]
      exact cutS_is l _ _ _ h2 o4 (by omega) hn
    · have ih := cutS_is l 0 (n - min (s.n - f) n) s.t h2 o4 (by omega) (by omega)
      obtain ⟨⟨q1, q2⟩, q3, q4⟩ := h1
      by_cases hk : 0 < min (s.n - f) n
      · rw [cutS_some (by omega) rfl hk]
        intro x hx
        rcases List.mem_cons.1 hx with rfl | hx
        · exact ⟨⟨by simp only []; omega, by simp only []; omega⟩, by simp only []; omega, by simp only []; omega⟩
        · exact ih x hx
      · rw [cutS_none (by omega) rfl (by omega)]
        exact ih
theorem okS_weak : ∀ {L : List Sg} {p q : Bool}, okS q L → (p = true → q = true) → okS p L
  | [], p, q, h, hp => True.intro
  | s :: l, p, q, h, hp => ⟨⟨h.1.1, h.1.2.1, fun e => h.1.2.2 (hp e)⟩, h.2⟩
theorem okS_cut : ∀ (L : List Sg) (f n : Int) (p : Bool), okS p L → 0 ≤ f → 0 ≤ n → okS p (cutS L f n)
  | [], f, n, p, ho, hf, hn => True.intro
  | s :: l, f, n, p, ho, hf, hn => by
    obtain ⟨⟨o1, o2, o3⟩, o4⟩ := ho
    by_cases hs : s.n ≤ f
    · rw [cutS_le hs]
      exact okS_cut l _ _ _ (okS_weak o4 o3) (by omega) hn
    · by_cases hk : 0 < min (s.n - f) n
      · rw [cutS_some (by omega) rfl hk]
        exact ⟨⟨by simp only []; omega, by simp only []; omega, o3⟩, okS_cut l _ _ _ o4 (by omega) (by omega)⟩
      · rw [cutS_none (by omega) rfl (by omega)]
        exact okS_cut l _ _ _ (okS_weak o4 o3) (by omega) (by omega)
theorem cutS_all : ∀ (L : List Sg) (n : Int) (p : Bool), isSgs L → okS p L → sumS L ≤ n → cutS L 0 n = L
  | [], n, p, h, ho, hn => rfl
  | s :: l, n, p, h, ho, hn => by
    obtain ⟨h1, h2⟩ := isSgs_cons h
    obtain ⟨⟨o1, o2, o3⟩, o4⟩ := ho
    have h4 := sumS_nonneg h2
    simp only [sumS] at hn
    rw [cutS_some (k := s.n) (by omega) (by omega) (by omega), cutS_all l _ _ h2 o4 (by omega), Int.add_zero]
/-- a cut of a cut -/
theorem cutS_cut : ∀ (L : List Sg) (f n m k : Int) (p : Bool), isSgs L → okS p L → 0 ≤ f → 0 ≤ n → 0 ≤ m → 0 ≤ k → cutS (cutS L f n) m k = cutS L (f + m) (min k (n - m))
  | [], f, n, m, k, p, h, ho, hf, hn, hm, hk => rfl
  | s :: l, f, n, m, k, p, h, ho, hf, hn, hm, hk => by
    obtain ⟨h1, h2⟩ := isSgs_cons h
    obtain ⟨⟨o1, o2, o3⟩, o4⟩ := ho
    by_cases hn0 : n = 0
    · subst hn0
      rw [cutS_zero _ f 0 (by omega), cutS_zero _ (f + m) _ (by omega)]
      rfl
    · by_cases hs : s.n ≤ f
      · rw [cutS_le hs, cutS_le (f := f + m) (by omega), cutS_cut l (f - s.n) n m k s.t h2 o4 (by omega) hn hm hk, show f - s.n + m = f + m - s.n from by omega]
      · obtain ⟨k1, e1⟩ : ∃ k1, min (s.n - f) n = k1 := ⟨_, rfl⟩
        rw [cutS_some (by omega) e1 (by omega)]
        by_cases hm1 : k1 ≤ m
        · rw [cutS_le (s := ⟨s.a + f, k1, s.t⟩) hm1, cutS_cut l 0 (n - k1) (m - k1) k s.t h2 o4 (by omega) (by omega) (by omega) hk]
          by_cases hk1 : k1 = s.n - f
          · rw [cutS_le (f := f + m) (by omega)]
            congr 1 <;> omega
          · rw [cutS_zero _ _ _ (by omega), cutS_zero _ _ _ (by omega)]
        · obtain ⟨k2, e2⟩ : ∃ k2, min (k1 - m) k = k2 := ⟨_, rfl⟩
          have e3 : min (s.n - (f + m)) (min k (n - m)) = k2 := by omega
          have hr : cutS l 0 (min (k - k2) (n - k1 - 0)) = cutS l 0 (min k (n - m) - k2) := by
            by_cases hz : min (k - k2) (n - k1 - 0) ≤ 0
            · rw [cutS_zero _ _ _ hz, cutS_zero _ _ _ (by omega)]
            · congr 1
              omega
          have ih := cutS_cut l 0 (n - k1) 0 (k - k2) s.t h2 o4 (by omega) (by omega) (by omega) (by omega)
          rw [Int.add_zero] at ih
          by_cases hk2 : 0 < k2
          · rw [cutS_some (s := ⟨s.a + f, k1, s.t⟩) (by simp only []; omega) e2 hk2, cutS_some (s := s) (by omega) e3 hk2, ih, hr]
            simp only [List.cons.injEq, Sg.mk.injEq, and_true]
            omega
          · rw [cutS_none (s := ⟨s.a + f, k1, s.t⟩) (by simp only []; omega) e2 (by omega), cutS_none (s := s) (by omega) e3 (by omega), ih, hr]
theorem totS_two : ∀ (L : List Sg) (f n : Int) (t p : Bool), isSgs L → okS p L → 0 ≤ f → sumS L - f ≤ n → 0 ≤ n → totS t (cutS L 0 f) + totS t (cutS L f n) = totS t L
  | [], f, n, t, p, h, ho, hf, hn, hn0 => rfl
  | s :: l, f, n, t, p, h, ho, hf, hn, hn0 => by
    obtain ⟨h1, h2⟩ := isSgs_cons h
    obtain ⟨⟨o1, o2, o3⟩, o4⟩ := ho
    have h4 := sumS_nonneg h2
    simp only [sumS] at hn
    by_cases hs : s.n ≤ f
    · have ih := totS_two l (f - s.n) n t s.t h2 o4 (by omega) (by omega) hn0
      rw [cutS_some (k := s.n) (by omega) (by omega) (by omega), cutS_le hs]
      simp only [totS]
      omega
    · rw [cutS_some (s := s) (f := f) (k := s.n - f) (by omega) (by omega) (by omega), cutS_all l _ _ h2 o4 (by omega)]
      by_cases hf0 : f = 0
      · subst hf0
        rw [cutS_zero _ 0 0 (by omega)]
        simp only [totS]
        split <;> omega
      · rw [cutS_some (k := f) (by omega) (by omega) (by omega), cutS_zero _ _ _ (by omega)]
        simp only [totS]
        split <;> omega
theorem totS_sum : ∀ (L : List Sg), totS false L + totS true L = sumS L
  | [] => rfl
  | s :: l => by
    have := totS_sum l
    simp only [totS, sumS]
    cases s.t <;> simp <;> omega
theorem totS_nonneg : ∀ {L : List Sg} (t : Bool), isSgs L → 0 ≤ totS t L
  | [], t, _ => by simp [totS]
  | s :: l, t, h => by
    obtain ⟨h1, h2⟩ := isSgs_cons h
    have := totS_nonneg t h2
    have hn := h1.2.1
    simp only [totS]
    split <;> omega
theorem partS_yes {s : Sg} {l : List Sg} {t : Bool} (h : s.t = t) : partS t (s :: l) = s :: partS t l := by
  unfold partS
  rw [List.filter_cons_of_pos (by simp [h])]
theorem partS_no {s : Sg} {l : List Sg} {t : Bool} (h : s.t ≠ t) : partS t (s :: l) = partS t l := by
  unfold partS
  rw [List.filter_cons_of_neg (by simp [h])]
theorem part_all : ∀ {L : List Sg}, okS true L → partS true L = L ∧ partS false L = []
  | [], _ => ⟨rfl, rfl⟩
  | s :: l, h => by
    have ht := h.1.2.2 rfl
    have h2 := h.2
    rw [ht] at h2
    have ih := part_all h2
    rw [partS_yes ht, partS_no (by rw [ht]; decide), ih.1, ih.2]
    exact ⟨rfl, rfl⟩
theorem part_two : ∀ {L : List Sg}, okS false L → partS false L ++ partS true L = L
  | [], _ => rfl
  | s :: l, h => by
    have h2 := h.2
    cases ht : s.t
    · rw [ht] at h2
      have ih := part_two h2
      rw [partS_yes ht, partS_no (by rw [ht]; decide), List.cons_append, ih]
    · rw [ht] at h2
      have ih := part_all h2
      rw [partS_yes ht, partS_no (by rw [ht]; decide), ih.1, ih.2]
      rfl
end Go.Proofs.Yteolnghnlfeakaa

/- The reference's Check of layer 5. Conditions: as each theorem names them. -/
namespace Go.Proofs.Yteolnghnlfeakaa
open Go.ChangeShapes Go.WideShapes Go.ChangeAt Go.RowKit
set_option linter.unusedVariables false
set_option maxRecDepth 100000

def prevT (L : List Sg) (k : Nat) : Bool := if k = 0 then false else (sat L (k - 1)).t
/-- what Check has seen when it comes to segment k with so many bytes -/
structure SgInv (L : List Sg) (k : Nat) (S : Int) : Prop where
  lo : 0 ≤ S
  hi : S ≤ 4294967296 * (k : Int)
  eq : sgC false 0 L = sgC (prevT L k) S (L.drop k)
theorem SgInv.start (L : List Sg) : SgInv L 0 0 := ⟨by omega, by omega, rfl⟩
theorem SgInv.stop {L : List Sg} {k : Nat} {S : Int} (h : SgInv L k S) (hk : k < L.length) (hc : (sat L k).n = 0 ∨ 18446744073709551616 < (sat L k).a + (sat L k).n ∨ (prevT L k = true ∧ (sat L k).t = false)) : sgC false 0 L = 2 := by
  rw [h.eq, drop_sat hk]
  show (if _ then _ else _) = _
  rw [if_pos hc]
theorem SgInv.next {L : List Sg} {k : Nat} {S : Int} (h : SgInv L k S) (hk : k < L.length) (hu : isSgs L) (hc : ¬ ((sat L k).n = 0 ∨ 18446744073709551616 < (sat L k).a + (sat L k).n ∨ (prevT L k = true ∧ (sat L k).t = false))) : SgInv L (k + 1) (S + (sat L k).n) := by
  have h0 := h.lo
  have h1 := h.hi
  obtain ⟨_, h2, h3⟩ := sat_is hu k
  refine ⟨by omega, by omega, ?_⟩
  have e : sgC (prevT L k) S (sat L k :: L.drop (k + 1)) = if (sat L k).n = 0 ∨ 18446744073709551616 < (sat L k).a + (sat L k).n ∨ (prevT L k = true ∧ (sat L k).t = false) then 2 else sgC (sat L k).t (S + (sat L k).n) (L.drop (k + 1)) := rfl
  rw [h.eq, drop_sat hk, e, if_neg hc]
  have e2 : prevT L (k + 1) = (sat L k).t := by simp [prevT]
  rw [e2]
theorem SgInv.done {L : List Sg} {S : Int} (h : SgInv L L.length S) : sgC false 0 L = if 4294967296 ≤ S then 2 else 0 := by
  rw [h.eq, List.drop_length]
  rfl

set_option maxHeartbeats 4000000 in
theorem rsegchk (v : Value) (L : List Sg) (w : World) (hv : SegsAt w v L) (hu : isSgs L) :
    Calls Try.prog 21 #[v] w fun e w' => e = .returned (.int .i64 (segE L)) ∧ ∃ m, w' = w.drewN m := by
  rcases hv with ⟨⟨va, vc, rfl, _⟩, rfl⟩ | ⟨b, o, c, rfl, hb1, hb2, hb3⟩
  · go_enter Try.func21, Try.ntmps21
    go_wp2
    go_loop [3, 4] (fun n i => n = .int .u64 0 ∧ i = .int .i64 0) (fun _ i => 0)
    case atStart => exact ⟨rfl, rfl⟩
    case round =>
      obtain ⟨rfl, rfl⟩ := hrel
      go_wp2
      go_ret
      exact ⟨rfl, 0, rfl⟩
  · by_cases h64 : 64 < L.length
    · have h64i : (64 : Int) < (L.length : Int) := by omega
      go_enter Try.func21, Try.ntmps21
      go_wp2
      go_ret
      refine ⟨ret_eq ?_, 0, rfl⟩
      unfold segE
      rw [if_pos h64]
      rfl
    · have HC := hid_mk hb3
      have HU := hid_mk hu
      have h64i : (L.length : Int) ≤ 64 := by omega
      have e64 : segE L = sgC false 0 L := by
        unfold segE
        rw [if_neg h64]
      rw [e64]
      clear hb3 hu e64
      go_enter Try.func21, Try.ntmps21
      go_wp2
      go_loopw [3, 4] (fun n i wr => ∃ (k m : Nat) (S : Int), k ≤ L.length ∧ i = .int .i64 k ∧ n = .int .u64 S ∧ wr = w.drewN m ∧ Hid (SgInv L k S)) (fun _ i _ => L.length - (intOf i).toNat)
      case atStart => exact ⟨0, 0, 0, Nat.zero_le _, rfl, rfl, rfl, hid_mk (SgInv.start L)⟩
      case round =>
        obtain ⟨k, m, S, hk, rfl, rfl, rfl, hinv⟩ := hrel
        by_cases hlt : k < L.length
        · have hc := HC.out k hlt
          obtain ⟨c0, c1, c2⟩ := hc
          have HK := hid_mk (fun h => hinv.out.stop hlt h)
          have HN := hid_mk (fun h => hinv.out.next hlt HU.out h)
          have hr0 := hinv.out.lo
          have hr1 := hinv.out.hi
          obtain ⟨hx, hy0, hy1⟩ := sat_is HU.out k
          have hpt : prevT L k = if k = 0 then false else (sat L (k - 1)).t := rfl
          clear hinv
          generalize (sat L k).a = x at *
          generalize (sat L k).n = y at *
          generalize (sat L k).t = z at *
          have hyw : IntKind.u64.wrap y = y := by rw [IntKind.wrap_u64]; omega
          by_cases y0 : y = 0
          · subst y0
            have HF := hid_mk (HK.out (Or.inl rfl))
            clear hr0 hr1 hpt
            go_wp2_with fail
            go_quiet (fail)
            go_wp2_with fail
            go_ret
            exact ⟨ret_eq (by rw [HF.out]; rfl), _, drewN_drewN _ _ _⟩
          · have hyb : (y == 0) = false := by simp; exact y0
            have hw2 : IntKind.u64.wrap (y - 1) = y - 1 := by rw [IntKind.wrap_u64]; omega
            by_cases hl : 18446744073709551616 < x + y
            · have HF := hid_mk (HK.out (Or.inr (Or.inl hl)))
              have hd2 : decide (IntKind.u64.wrap (x + (y - 1)) < x) = true := by
                simp only [decide_eq_true_eq]
                rw [IntKind.wrap_u64]
                omega
              clear hl hr0 hr1 hpt
              go_wp2_with fail
              go_quiet (fail)
              go_wp2_with fail
              go_ret
              exact ⟨ret_eq (by rw [HF.out]; rfl), _, drewN_drewN _ _ _⟩
            · have hd2 : decide (IntKind.u64.wrap (x + (y - 1)) < x) = false := by
                simp only [decide_eq_false_iff_not]
                rw [IntKind.wrap_u64]
                omega
              have hw : IntKind.u64.wrap (S + y) = S + y := by rw [IntKind.wrap_u64]; omega
              have HL := hid_mk hl
              have HY := hid_mk y0
              clear hl hr0 hr1
              rcases Nat.eq_zero_or_pos k with hk0 | hkp
              · subst hk0
                simp only [Nat.zero_mul, Nat.add_zero] at c0 c1 c2
                have HX := hid_mk (HN.out (by
                  rintro (h | h | h)
                  · exact HY.out h
                  · exact HL.out h
                  · rw [hpt] at h
                    simp at h))
                clear hpt
                go_wp2_with fail
                go_quiet (fail)
                clear hd2 hyb hx hy0 hy1 y0 hw2
                go_wp2_with fail
                go_roundw
                case rel => exact ⟨1, _, S + y, by omega, by go_num, rfl, rfl, hid_mk HX.out⟩
                case measure => simp [intOf]; omega
              · obtain ⟨q, rfl⟩ : ∃ q, k = q + 1 := ⟨k - 1, by omega⟩
                obtain ⟨_, _, c5⟩ := HC.out q (by omega)
                rw [if_neg (by omega), Nat.add_sub_cancel] at hpt
                generalize (sat L q).t = pz at *
                have hgt : decide ((0 : Int) < (q : Int) + 1) = true := by simp
                have hi1 : IntKind.i64.wrap ((q : Int) + 1 - 1) = (q : Int) := by rw [show (q : Int) + 1 - 1 = q from by omega]; exact IntWalk.i64_in _ (by omega)
                have hi4 : IntKind.i64.wrap (q : Int) = (q : Int) := IntWalk.i64_in _ (by omega)
                have hi2 : (0 : Int) ≤ (q : Int) := by omega
                have hi3 : (q : Int) < (L.length : Int) := by omega
                cases pz
                · have HX := hid_mk (HN.out (by
                    rintro (h | h | h)
                    · exact HY.out h
                    · exact HL.out h
                    · rw [hpt] at h
                      simp at h))
                  clear hpt
                  go_wp2_with fail
                  go_quiet (fail)
                  clear hd2 hyb hx hy0 hy1 y0 hw2 hgt
                  go_wp2_with fail
                  go_roundw
                  case rel => exact ⟨q + 1 + 1, _, S + y, by omega, by go_num, rfl, rfl, hid_mk HX.out⟩
                  case measure => simp [intOf]; omega
                · cases z
                  · have HF := hid_mk (HK.out (Or.inr (Or.inr ⟨hpt, rfl⟩)))
                    clear hpt
                    go_wp2_with fail
                    go_quiet (fail)
                    go_wp2_with fail
                    go_ret
                    exact ⟨ret_eq (by rw [HF.out]; rfl), _, drewN_drewN _ _ _⟩
                  · have HX := hid_mk (HN.out (by
                      rintro (h | h | h)
                      · exact HY.out h
                      · exact HL.out h
                      · simp at h))
                    clear hpt
                    go_wp2_with fail
                    go_quiet (fail)
                    clear hd2 hyb hx hy0 hy1 y0 hw2 hgt
                    go_wp2_with fail
                    go_roundw
                    case rel => exact ⟨q + 1 + 1, _, S + y, by omega, by go_num, rfl, rfl, hid_mk HX.out⟩
                    case measure => simp [intOf]; omega
        · obtain rfl : k = L.length := by omega
          have HD := hid_mk hinv.out.done
          have hs := hinv.out.lo
          clear hinv
          by_cases hS : 4294967296 ≤ S
          · have HD2 := hid_mk (HD.out.trans (if_pos hS))
            have hd : decide (4294967296 ≤ S) = true := by simp; exact hS
            go_wp2_with fail
            go_ret
            exact ⟨ret_eq (by rw [HD2.out]; rfl), m, rfl⟩
          · have HD2 := hid_mk (HD.out.trans (if_neg hS))
            have hd : decide (4294967296 ≤ S) = false := by simp; omega
            go_wp2_with fail
            go_ret
            exact ⟨ret_eq (by rw [HD2.out]; rfl), m, rfl⟩
end Go.Proofs.Yteolnghnlfeakaa
