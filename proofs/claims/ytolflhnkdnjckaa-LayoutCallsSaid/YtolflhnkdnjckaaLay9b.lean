/- The reference's Place of layer 4 in one piece. Conditions: as each theorem names them. -/
import Derived.Test.YtolflhnkdnjckaaLay9
namespace Go.Proofs.Ytolflhnkdnjckaa
open Go.ChangeShapes Go.WideShapes Go.ChangeAt Go.RowKit
set_option linter.unusedVariables false
set_option maxRecDepth 100000

theorem ne_t {x : Int} (h : x ≠ 0) : (x != 0) = true := by simp [h]
theorem ne_f {x : Int} (h : x = 0) : (x != 0) = false := by simp [h]
theorem alE_is (x t : Int) : alE x t = 0 ∨ alE x t = 2 := by
  unfold alE
  split
  · exact Or.inl rfl
  · exact Or.inr rfl
theorem chkR_is (pk : Bool) (n d g c : Int) : chkR pk n d g c = 0 ∨ chkR pk n d g c = 2 := by
  unfold chkR
  split
  · exact Or.inl rfl
  · exact Or.inr rfl
theorem alV_U64 {x t : Int} (hx : U64 x) (hp : powB t = true) (ht : 1 ≤ t) : U64 (alV x t) := by
  by_cases h : x + t ≤ 18446744073709551616
  · rw [(alV_num hp h).1]
    have h1 := Int.mul_ediv_add_emod (x + t - 1) t
    have h2 := Int.emod_nonneg (x + t - 1) (show t ≠ 0 by omega)
    have h3 := Int.emod_lt_of_pos (x + t - 1) (show 0 < t by omega)
    exact ⟨by omega, by omega⟩
  · rw [(alV_far hp (by omega)).1]
    decide
theorem wrap_U64 (x : Int) : U64 (IntKind.u64.wrap x) := by
  rw [IntKind.wrap_u64]
  exact ⟨by omega, by omega⟩

/-- the reference's conditions, one by one, against plOk -/
theorem rpl_math {pk : Bool} {n b : Int} (hs : szB pk n = true) (hb : U64 b) {a1 e1 a2 e2 a3 e3 ck : Int}
    (d1 : a1 = alV b 16) (d2 : e1 = alE b 16) (d3 : a2 = alV (IntKind.u64.wrap (a1 + pD pk n)) (uG pk)) (d4 : e2 = alE (IntKind.u64.wrap (a1 + pD pk n)) (uG pk)) (d5 : a3 = alV (IntKind.u64.wrap (a2 + pG pk n)) 4) (d6 : e3 = alE (IntKind.u64.wrap (a2 + pG pk n)) 4) (d7 : ck = chkR pk n a1 a2 a3) :
    ((e1 = 0 ∧ e2 = 0 ∧ e3 = 0 ∧ ¬ IntKind.u64.wrap (a1 + pD pk n) < a1 ∧ ¬ IntKind.u64.wrap (a2 + pG pk n) < a2 ∧ ¬ IntKind.u64.wrap (a3 + IntKind.u64.wrap (pC pk n - 1)) < a3 ∧ ck = 0) ∧ plOk pk n b = true ∧ a1 = alV b 16 ∧ a2 = alV b 16 + 16 * n ∧ a3 = alV b 16 + cO pk n ∧ IntKind.u64.wrap (IntKind.u64.wrap (a3 + pC pk n) - b) = alV b 16 - b + totL pk n) ∨
    (¬ (e1 = 0 ∧ e2 = 0 ∧ e3 = 0 ∧ ¬ IntKind.u64.wrap (a1 + pD pk n) < a1 ∧ ¬ IntKind.u64.wrap (a2 + pG pk n) < a2 ∧ ¬ IntKind.u64.wrap (a3 + IntKind.u64.wrap (pC pk n - 1)) < a3 ∧ ck = 0) ∧ plOk pk n b = false) := by
  obtain ⟨t1, t2, t3, t4, t5, t6, t7, t8⟩ := tot_rng hs
  obtain ⟨r1, r2, r3⟩ := part_rng hs
  have hu := uG_is pk
  have hpu : powB (uG pk) = true := by
    rcases hu with h | h <;> rw [h] <;> decide
  have hb0 := hb.1
  by_cases h0 : b + 16 ≤ 18446744073709551616
  · obtain ⟨hA, hE⟩ := alV_num powB16 h0
    have ha : alOk b 16 = true := by rw [alOk_num powB16, decide_eq_true h0]
    have hA16 : a1 % 16 = 0 := by omega
    have hAb : b ≤ a1 ∧ a1 < b + 16 := by omega
    have hAt : a1 + 16 ≤ 18446744073709551616 := by omega
    have hpl : plOk pk n b = decide (a1 + totL pk n ≤ 18446744073709551616) := by
      unfold plOk
      rw [hs, ha, d1]
      rfl
    have hno : 18446744073709551616 < a1 + totL pk n → plOk pk n b = false := fun h => by
      rw [hpl]
      exact decide_eq_false (by omega)
    have he1 : e1 = 0 := by omega
    clear hA hE
    by_cases h1 : a1 + pD pk n < 18446744073709551616
    · have w1 : IntKind.u64.wrap (a1 + pD pk n) = a1 + 16 * n := by
        rw [IntKind.wrap_u64]
        omega
      rw [w1] at d3 d4
      have hX : a1 + 16 * n + uG pk ≤ 18446744073709551616 := by
        rcases hu with h | h <;> omega
      have hXv := alV_num hpu hX
      have ea2 : a2 = a1 + 16 * n := by
        rw [d3, hXv.1]
        rcases hu with h | h <;> rw [h] <;> omega
      by_cases h2 : a2 + pG pk n < 18446744073709551616
      · have w2 : IntKind.u64.wrap (a2 + pG pk n) = a2 + pG pk n := by
          rw [IntKind.wrap_u64]
          omega
        rw [w2] at d5 d6
        by_cases h3 : a2 + pG pk n + 4 ≤ 18446744073709551616
        · have hYv := alV_num powB4 h3
          have ea3 : a3 = a1 + cO pk n := by
            rw [d5, hYv.1, ea2]
            omega
          by_cases h4 : a3 + pC pk n ≤ 18446744073709551616
          · left
            have hc0 : ck = 0 := by
              rw [d7]
              unfold chkR okRg
              rw [hs]
              have : okL a1 (pD pk n) a2 (pG pk n) a3 (pC pk n) (uG pk) = true := by
                unfold okL
                refine decide_eq_true ⟨⟨hA16, by omega⟩, ⟨?_, by omega, Or.inr (by omega)⟩, by omega, h4, Or.inr (by omega), Or.inr (by omega)⟩
                rcases hu with h | h <;> rw [h] <;> omega
              rw [this]
              rfl
            have w3 : IntKind.u64.wrap (a3 + IntKind.u64.wrap (pC pk n - 1)) = a3 + pC pk n - 1 := lst_in ⟨by omega, by omega⟩ (by omega) h4
            refine ⟨⟨he1, by omega, by omega, by omega, by omega, by omega, hc0⟩, ?_, d1, by omega, by omega, ?_⟩
            · rw [hpl]
              exact decide_eq_true (by omega)
            · rw [IntKind.wrap_u64, IntKind.wrap_u64]
              omega
          · right
            have w3 := lst_over (a := a3) (m := pC pk n) ⟨by omega, by omega⟩ (by omega) (by omega) (by omega)
            exact ⟨fun h => h.2.2.2.2.2.1 w3, hno (by omega)⟩
        · right
          have hYf := alV_far (x := a2 + pG pk n) powB4 (by omega)
          exact ⟨fun h => by omega, hno (by omega)⟩
      · right
        refine ⟨fun h => h.2.2.2.2.1 ?_, hno (by omega)⟩
        rw [IntKind.wrap_u64]
        omega
    · right
      refine ⟨fun h => h.2.2.2.1 ?_, hno (by omega)⟩
      rw [IntKind.wrap_u64]
      omega
  · right
    obtain ⟨hA, hE⟩ := alV_far (x := b) powB16 (by omega)
    have ha : alOk b 16 = false := by rw [alOk_num powB16, decide_eq_false h0]
    refine ⟨fun h => by omega, ?_⟩
    unfold plOk
    rw [ha]
    simp

theorem rplace_lay (pk : Bool) (n b : Int) (w : World) (hb : U64 b) :
    Calls Try.prog 21 #[.bool pk, .int .i64 n, .int .u64 b] w fun e w' => e = plR pk n b ∧ Below w.heap.size w w' := by
  cases hs : szB pk n
  · have HN := hid_mk (pl_no (pk := pk) (n := n) (b := b) (by simp [plOk, hs]))
    have HP := rparts_any pk n 0 0 0
    rw [show pD pk n = 0 from by simp [pD, hs]] at HP
    have HP' := hid_mk HP
    clear HP hs hb
    go_enter Try.func21, Try.ntmps21
    go_wp2_with fail
    refine (HP'.out _).mono ?_
    rintro e w1 ⟨rfl, hb1⟩
    have B1 := hid_mk (below_new2 hb1)
    have z1 := hb1.size
    simp at z1
    have q0 : w.heap.size < w1.heap.size := by omega
    have c0 := hb1.cell (p := ⟨w.heap.size, 0, none⟩) (by first | (simp; done) | (simp; omega))
    have f0 := hb1.frozen (p := ⟨w.heap.size, 0, none⟩) (by first | (simp; done) | (simp; omega))
    simp [go_sem] at c0 f0
    have c1 := hb1.cell (p := ⟨w.heap.size, 1, none⟩) (by first | (simp; done) | (simp; omega))
    have f1 := hb1.frozen (p := ⟨w.heap.size, 1, none⟩) (by first | (simp; done) | (simp; omega))
    simp [go_sem] at c1 f1
    have c2 := hb1.cell (p := ⟨w.heap.size, 2, none⟩) (by first | (simp; done) | (simp; omega))
    have f2 := hb1.frozen (p := ⟨w.heap.size, 2, none⟩) (by first | (simp; done) | (simp; omega))
    simp [go_sem] at c2 f2
    have c3 := hb1.cell (p := ⟨w.heap.size, 3, none⟩) (by first | (simp; done) | (simp; omega))
    have f3 := hb1.frozen (p := ⟨w.heap.size, 3, none⟩) (by first | (simp; done) | (simp; omega))
    simp [go_sem] at c3 f3
    have c4 := hb1.cell (p := ⟨w.heap.size, 4, none⟩) (by first | (simp; done) | (simp; omega))
    have f4 := hb1.frozen (p := ⟨w.heap.size, 4, none⟩) (by first | (simp; done) | (simp; omega))
    simp [go_sem] at c4 f4
    clear hb1
    go_wp2_with fail
    refine bodyPost_ret (v := .tuple #[rV false 0 0 0 0, .int .u64 0, .int .i64 2]) ?_ rfl ⟨HN.out, ?_⟩
    · simp [results, Try.results21, go_sem, c0, c1, c2, c3, c4]
    · repeat (refine Below.setCell ?_ (by simp only []; omega) _)
      exact B1.out
  · obtain ⟨t1, t2, t3, t4, t5, t6, t7, t8⟩ := tot_rng hs
    obtain ⟨r1, r2, r3⟩ := part_rng hs
    have hu := uG_is pk
    have hpu : powB (uG pk) = true := by
      rcases hu with h | h <;> rw [h] <;> decide
    have huu : U64 (uG pk) := by
      rcases hu with h | h <;> rw [h] <;> decide
    have HP := rparts_any pk n 0 0 0
    have H1 := fun w => ralign_any b 16 w hb (by decide)
    have H2 := fun w => ralign_any (IntKind.u64.wrap (alV b 16 + pD pk n)) (uG pk) w (wrap_U64 _) huu
    have H3 := fun w => ralign_any (IntKind.u64.wrap (alV (IntKind.u64.wrap (alV b 16 + pD pk n)) (uG pk) + pG pk n)) 4 w (wrap_U64 _) (by decide)
    have u1 := alV_U64 hb powB16 (by decide)
    have u2 := alV_U64 (wrap_U64 (alV b 16 + pD pk n)) hpu (by omega)
    have u3 := alV_U64 (wrap_U64 (alV (IntKind.u64.wrap (alV b 16 + pD pk n)) (uG pk) + pG pk n)) powB4 (by decide)
    have HC := fun w => rcheck_lay pk n _ _ _ w u1 u2 u3
    have HM := rpl_math hs hb (a1 := alV b 16) rfl rfl rfl rfl rfl rfl rfl
    have hD0 : ¬ pD pk n = 0 := by omega
    have key : ∀ a1 e1 a2 e2 a3 e3 ck : Int,
        ((e1 = 0 ∧ e2 = 0 ∧ e3 = 0 ∧ ¬ IntKind.u64.wrap (a1 + pD pk n) < a1 ∧ ¬ IntKind.u64.wrap (a2 + pG pk n) < a2 ∧ ¬ IntKind.u64.wrap (a3 + IntKind.u64.wrap (pC pk n - 1)) < a3 ∧ ck = 0) ∧ plOk pk n b = true ∧ a1 = alV b 16 ∧ a2 = alV b 16 + 16 * n ∧ a3 = alV b 16 + cO pk n ∧ IntKind.u64.wrap (IntKind.u64.wrap (a3 + pC pk n) - b) = alV b 16 - b + totL pk n) ∨
        (¬ (e1 = 0 ∧ e2 = 0 ∧ e3 = 0 ∧ ¬ IntKind.u64.wrap (a1 + pD pk n) < a1 ∧ ¬ IntKind.u64.wrap (a2 + pG pk n) < a2 ∧ ¬ IntKind.u64.wrap (a3 + IntKind.u64.wrap (pC pk n - 1)) < a3 ∧ ck = 0) ∧ plOk pk n b = false) →
        (∀ w, Calls Try.prog 41 #[.int .u64 b, .int .u64 16] w fun e w' => e = .returned (.tuple #[.int .u64 a1, .int .i64 e1]) ∧ w = w') →
        (∀ w, Calls Try.prog 41 #[.int .u64 (IntKind.u64.wrap (a1 + pD pk n)), .int .u64 (uG pk)] w fun e w' => e = .returned (.tuple #[.int .u64 a2, .int .i64 e2]) ∧ w = w') →
        (∀ w, Calls Try.prog 41 #[.int .u64 (IntKind.u64.wrap (a2 + pG pk n)), .int .u64 4] w fun e w' => e = .returned (.tuple #[.int .u64 a3, .int .i64 e3]) ∧ w = w') →
        (∀ w, Calls Try.prog 18 #[rV pk n a1 a2 a3] w fun e w' => e = .returned (.int .i64 ck) ∧ Below w.heap.size w w') →
        Calls Try.prog 21 #[.bool pk, .int .i64 n, .int .u64 b] w fun e w' => e = plR pk n b ∧ Below w.heap.size w w' := by
      clear HM HC H1 H2 H3 u1 u2 u3
      intro a1 e1 a2 e2 a3 e3 ck HM H1 H2 H3 HC
      rcases HM with ⟨⟨g0, g1, g2, g3, g4, g5, g6⟩, hk, k1, k2, k3, k4⟩ | ⟨hn, hk⟩
      · rw [← pl_yes hk, ← k4, ← k3, ← k2, ← k1]
        cases pk
        · exact rplace_false_7 n b _ _ _ a1 e1 a2 e2 a3 e3 ck w hD0 (ne_f g0) (ne_f g1) (ne_f g2) (decide_eq_false g3) (decide_eq_false g4) (decide_eq_false g5) (ne_f g6) HP H1 H2 H3 HC
        · exact rplace_true_7 n b _ _ _ a1 e1 a2 e2 a3 e3 ck w hD0 (ne_f g0) (ne_f g1) (ne_f g2) (decide_eq_false g3) (decide_eq_false g4) (decide_eq_false g5) (ne_f g6) HP H1 H2 H3 HC
      · rw [← pl_no hk]
        by_cases g0 : e1 = 0
        · by_cases g1 : e2 = 0
          · by_cases g2 : e3 = 0
            · by_cases g3 : IntKind.u64.wrap (a1 + pD pk n) < a1
              · cases pk
                · exact rplace_false_3 n b _ _ _ a1 e1 a2 e2 a3 e3 ck w hD0 (ne_f g0) (ne_f g1) (ne_f g2) (decide_eq_true g3) HP H1 H2 H3 HC
                · exact rplace_true_3 n b _ _ _ a1 e1 a2 e2 a3 e3 ck w hD0 (ne_f g0) (ne_f g1) (ne_f g2) (decide_eq_true g3) HP H1 H2 H3 HC
              · by_cases g4 : IntKind.u64.wrap (a2 + pG pk n) < a2
                · cases pk
                  · exact rplace_false_4 n b _ _ _ a1 e1 a2 e2 a3 e3 ck w hD0 (ne_f g0) (ne_f g1) (ne_f g2) (decide_eq_false g3) (decide_eq_true g4) HP H1 H2 H3 HC
                  · exact rplace_true_4 n b _ _ _ a1 e1 a2 e2 a3 e3 ck w hD0 (ne_f g0) (ne_f g1) (ne_f g2) (decide_eq_false g3) (decide_eq_true g4) HP H1 H2 H3 HC
                · by_cases g5 : IntKind.u64.wrap (a3 + IntKind.u64.wrap (pC pk n - 1)) < a3
                  · cases pk
                    · exact rplace_false_5 n b _ _ _ a1 e1 a2 e2 a3 e3 ck w hD0 (ne_f g0) (ne_f g1) (ne_f g2) (decide_eq_false g3) (decide_eq_false g4) (decide_eq_true g5) HP H1 H2 H3 HC
                    · exact rplace_true_5 n b _ _ _ a1 e1 a2 e2 a3 e3 ck w hD0 (ne_f g0) (ne_f g1) (ne_f g2) (decide_eq_false g3) (decide_eq_false g4) (decide_eq_true g5) HP H1 H2 H3 HC
                  · have g6 : ck ≠ 0 := fun h => hn ⟨g0, g1, g2, g3, g4, g5, h⟩
                    cases pk
                    · exact rplace_false_6 n b _ _ _ a1 e1 a2 e2 a3 e3 ck w hD0 (ne_f g0) (ne_f g1) (ne_f g2) (decide_eq_false g3) (decide_eq_false g4) (decide_eq_false g5) (ne_t g6) HP H1 H2 H3 HC
                    · exact rplace_true_6 n b _ _ _ a1 e1 a2 e2 a3 e3 ck w hD0 (ne_f g0) (ne_f g1) (ne_f g2) (decide_eq_false g3) (decide_eq_false g4) (decide_eq_false g5) (ne_t g6) HP H1 H2 H3 HC
            · cases pk
              · exact rplace_false_2 n b _ _ _ a1 e1 a2 e2 a3 e3 ck w hD0 (ne_f g0) (ne_f g1) (ne_t g2) HP H1 H2 H3 HC
              · exact rplace_true_2 n b _ _ _ a1 e1 a2 e2 a3 e3 ck w hD0 (ne_f g0) (ne_f g1) (ne_t g2) HP H1 H2 H3 HC
          · cases pk
            · exact rplace_false_1 n b _ _ _ a1 e1 a2 e2 a3 e3 ck w hD0 (ne_f g0) (ne_t g1) HP H1 H2 H3 HC
            · exact rplace_true_1 n b _ _ _ a1 e1 a2 e2 a3 e3 ck w hD0 (ne_f g0) (ne_t g1) HP H1 H2 H3 HC
        · cases pk
          · exact rplace_false_0 n b _ _ _ a1 e1 a2 e2 a3 e3 ck w hD0 (ne_t g0) HP H1 H2 H3 HC
          · exact rplace_true_0 n b _ _ _ a1 e1 a2 e2 a3 e3 ck w hD0 (ne_t g0) HP H1 H2 H3 HC
    exact key _ _ _ _ _ _ _ HM H1 H2 H3 HC
end Go.Proofs.Ytolflhnkdnjckaa
