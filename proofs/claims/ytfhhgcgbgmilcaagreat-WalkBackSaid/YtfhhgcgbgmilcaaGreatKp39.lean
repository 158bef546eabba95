/- Lay9b Wl1 Wl2: joined texts. Conditions: as each theorem names them. -/
import Derived.Test.YtfhhgcgbgmilcaaGreatKp38
import Derived.Test.YtfhhgcgbgmilcaaGreatKp32
import Derived.Test.YtfhhgcgbgmilcaaGreatKp36
import Derived.Test.YtfhhgcgbgmilcaaGreatKp37
import Derived.Test.YtfhhgcgbgmilcaaGreatKp17
import Derived.Test.YtfhhgcgbgmilcaaGreatKp08
/- The reference's Place of layer 4 in one piece. Conditions: as each theorem names them. -/
namespace Go.Proofs.YtfhhgcgbgmilcaaGreat
open Go.ChangeShapes Go.WideShapes Go.ChangeAt Go.RowKit
set_option linter.unusedVariables false
set_option maxRecDepth 100000

theorem ne_t {x : Int} (h : x ≠ 0) : (x != 0) = true := by simp [h]
theorem ne_f {x : Int} (h : x = 0) : (x != 0) = false := by simp [h]
theorem alE_is (x t : Int) : alE x t = 0 ∨ alE x t = 2 := by
  unfold alE
  split
  · exact Or.inl rfl
  · exact Or.inr rfl
theorem chkR_is (pk : Bool) (n d g c : Int) : chkR pk n d g c = 0 ∨ chkR pk n d g c = 2 := by
  unfold chkR
  split
  · exact Or.inl rfl
  · exact Or.inr rfl
theorem alV_U64 {x t : Int} (hx : U64 x) (hp : powB t = true) (ht : 1 ≤ t) : U64 (alV x t) := by
  by_cases h : x + t ≤ 18446744073709551616
  · rw [(alV_num hp h).1]
    have h1 := Int.mul_ediv_add_emod (x + t - 1) t
    have h2 := Int.emod_nonneg (x + t - 1) (show t ≠ 0 by omega)
    have h3 := Int.emod_lt_of_pos (x + t - 1) (show 0 < t by omega)
    exact ⟨by omega, by omega⟩
  · rw [(alV_far hp (by omega)).1]
    decide
theorem wrap_U64 (x : Int) : U64 (IntKind.u64.wrap x) := by
  rw [IntKind.wrap_u64]
  exact ⟨by omega, by omega⟩

/-- the reference's conditions, one by one, against plOk -/
theorem rpl_math {pk : Bool} {n b : Int} (hs : szB pk n = true) (hb : U64 b) {a1 e1 a2 e2 a3 e3 ck : Int}
    (d1 : a1 = alV b 16) (d2 : e1 = alE b 16) (d3 : a2 = alV (IntKind.u64.wrap (a1 + pD pk n)) (uG pk)) (d4 : e2 = alE (IntKind.u64.wrap (a1 + pD pk n)) (uG pk)) (d5 : a3 = alV (IntKind.u64.wrap (a2 + pG pk n)) 4) (d6 : e3 = alE (IntKind.u64.wrap (a2 + pG pk n)) 4) (d7 : ck = chkR pk n a1 a2 a3) :
    ((e1 = 0 ∧ e2 = 0 ∧ e3 = 0 ∧ ¬ IntKind.u64.wrap (a1 + pD pk n) < a1 ∧ ¬ IntKind.u64.wrap (a2 + pG pk n) < a2 ∧ ¬ IntKind.u64.wrap (a3 + IntKind.u64.wrap (pC pk n - 1)) < a3 ∧ ck = 0) ∧ plOk pk n b = true ∧ a1 = alV b 16 ∧ a2 = alV b 16 + 16 * n ∧ a3 = alV b 16 + cO pk n ∧ IntKind.u64.wrap (IntKind.u64.wrap (a3 + pC pk n) - b) = alV b 16 - b + totL pk n) ∨
    (¬ (e1 = 0 ∧ e2 = 0 ∧ e3 = 0 ∧ ¬ IntKind.u64.wrap (a1 + pD pk n) < a1 ∧ ¬ IntKind.u64.wrap (a2 + pG pk n) < a2 ∧ ¬ IntKind.u64.wrap (a3 + IntKind.u64.wrap (pC pk n - 1)) < a3 ∧ ck = 0) ∧ plOk pk n b = false) := by
  obtain ⟨t1, t2, t3, t4, t5, t6, t7, t8⟩ := tot_rng hs
  obtain ⟨r1, r2, r3⟩ := part_rng hs
  have hu := uG_is pk
  have hpu : powB (uG pk) = true := by
    rcases hu with h | h <;> rw [h] <;> decide
  have hb0 := hb.1
  by_cases h0 : b + 16 ≤ 18446744073709551616
  · obtain ⟨hA, hE⟩ := alV_num powB16 h0
    have ha : alOk b 16 = true := by rw [alOk_num powB16, decide_eq_true h0]
    have hA16 : a1 % 16 = 0 := by omega
    have hAb : b ≤ a1 ∧ a1 < b + 16 := by omega
    have hAt : a1 + 16 ≤ 18446744073709551616 := by omega
    have hpl : plOk pk n b = decide (a1 + totL pk n ≤ 18446744073709551616) := by
      unfold plOk
      rw [hs, ha, d1]
      rfl
    have hno : 18446744073709551616 < a1 + totL pk n → plOk pk n b = false := fun h => by
      rw [hpl]
      exact decide_eq_false (by omega)
    have he1 : e1 = 0 := by omega
    clear hA hE
    by_cases h1 : a1 + pD pk n < 18446744073709551616
    · have w1 : IntKind.u64.wrap (a1 + pD pk n) = a1 + 16 * n := by
        rw [IntKind.wrap_u64]
        omega
      rw [w1] at d3 d4
      have hX : a1 + 16 * n + uG pk ≤ 18446744073709551616 := by
        rcases hu with h | h <;> omega
      have hXv := alV_num hpu hX
      have ea2 : a2 = a1 + 16 * n := by
        rw [d3, hXv.1]
        rcases hu with h | h <;> rw [h] <;> omega
      by_cases h2 : a2 + pG pk n < 18446744073709551616
      · have w2 : IntKind.u64.wrap (a2 + pG pk n) = a2 + pG pk n := by
          rw [IntKind.wrap_u64]
          omega
        rw [w2] at d5 d6
        by_cases h3 : a2 + pG pk n + 4 ≤ 18446744073709551616
        · have hYv := alV_num powB4 h3
          have ea3 : a3 = a1 + cO pk n := by
            rw [d5, hYv.1, ea2]
            omega
          by_cases h4 : a3 + pC pk n ≤ 18446744073709551616
          · left
            have hc0 : ck = 0 := by
              rw [d7]
              unfold chkR okRg
              rw [hs]
              have : okL a1 (pD pk n) a2 (pG pk n) a3 (pC pk n) (uG pk) = true := by
                unfold okL
                refine decide_eq_true ⟨⟨hA16, by omega⟩, ⟨?_, by omega, Or.inr (by omega)⟩, by omega, h4, Or.inr (by omega), Or.inr (by omega)⟩
                rcases hu with h | h <;> rw [h] <;> omega
              rw [this]
              rfl
            have w3 : IntKind.u64.wrap (a3 + IntKind.u64.wrap (pC pk n - 1)) = a3 + pC pk n - 1 := lst_in ⟨by omega, by omega⟩ (by omega) h4
            refine ⟨⟨he1, by omega, by omega, by omega, by omega, by omega, hc0⟩, ?_, d1, by omega, by omega, ?_⟩
            · rw [hpl]
              exact decide_eq_true (by omega)
            · rw [IntKind.wrap_u64, IntKind.wrap_u64]
              omega
          · right
            have w3 := lst_over (a := a3) (m := pC pk n) ⟨by omega, by omega⟩ (by omega) (by omega) (by omega)
            exact ⟨fun h => h.2.2.2.2.2.1 w3, hno (by omega)⟩
        · right
          have hYf := alV_far (x := a2 + pG pk n) powB4 (by omega)
          exact ⟨fun h => by omega, hno (by omega)⟩
      · right
        refine ⟨fun h => h.2.2.2.2.1 ?_, hno (by omega)⟩
        rw [IntKind.wrap_u64]
        omega
    · right
      refine ⟨fun h => h.2.2.2.1 ?_, hno (by omega)⟩
      rw [IntKind.wrap_u64]
      omega
  · right
    obtain ⟨hA, hE⟩ := alV_far (x := b) powB16 (by omega)
    have ha : alOk b 16 = false := by rw [alOk_num powB16, decide_eq_false h0]
    refine ⟨fun h => by omega, ?_⟩
    unfold plOk
    rw [ha]
    simp

theorem rplace_lay (pk : Bool) (n b : Int) (w : World) (hb : U64 b) :
    Calls Tryz.prog 22 #[.bool pk, .int .i64 n, .int .u64 b] w fun e w' => e = plR pk n b ∧ Below w.heap.size w w' := by
  cases hs : szB pk n
  · have HN := hid_mk (pl_no (pk := pk) (n := n) (b := b) (by simp [plOk, hs]))
    have HP := rparts_any pk n 0 0 0
    rw [show pD pk n = 0 from by simp [pD, hs]] at HP
    have HP' := hid_mk HP
    clear HP hs hb
    go_enter Tryz.func22, Tryz.ntmps22
    go_wp2_with fail
    refine (HP'.out _).mono ?_
    rintro e w1 ⟨rfl, hb1⟩
    have B1 := hid_mk (below_new2 hb1)
    have z1 := hb1.size
    simp at z1
    have q0 : w.heap.size < w1.heap.size := by omega
    have c0 := hb1.cell (p := ⟨w.heap.size, 0, none⟩) (by first | (simp; done) | (simp; omega))
    have f0 := hb1.frozen (p := ⟨w.heap.size, 0, none⟩) (by first | (simp; done) | (simp; omega))
    simp [go_sem] at c0 f0
    have c1 := hb1.cell (p := ⟨w.heap.size, 1, none⟩) (by first | (simp; done) | (simp; omega))
    have f1 := hb1.frozen (p := ⟨w.heap.size, 1, none⟩) (by first | (simp; done) | (simp; omega))
    simp [go_sem] at c1 f1
    have c2 := hb1.cell (p := ⟨w.heap.size, 2, none⟩) (by first | (simp; done) | (simp; omega))
    have f2 := hb1.frozen (p := ⟨w.heap.size, 2, none⟩) (by first | (simp; done) | (simp; omega))
    simp [go_sem] at c2 f2
    have c3 := hb1.cell (p := ⟨w.heap.size, 3, none⟩) (by first | (simp; done) | (simp; omega))
    have f3 := hb1.frozen (p := ⟨w.heap.size, 3, none⟩) (by first | (simp; done) | (simp; omega))
    simp [go_sem] at c3 f3
    have c4 := hb1.cell (p := ⟨w.heap.size, 4, none⟩) (by first | (simp; done) | (simp; omega))
    have f4 := hb1.frozen (p := ⟨w.heap.size, 4, none⟩) (by first | (simp; done) | (simp; omega))
    simp [go_sem] at c4 f4
    clear hb1
    go_wp2_with fail
    refine bodyPost_ret (v := .tuple #[rV false 0 0 0 0, .int .u64 0, .int .i64 2]) ?_ rfl ⟨HN.out, ?_⟩
    · simp [results, Tryz.results22, go_sem, c0, c1, c2, c3, c4]
    · repeat (refine Below.setCell ?_ (by simp only []; omega) _)
      exact B1.out
  · obtain ⟨t1, t2, t3, t4, t5, t6, t7, t8⟩ := tot_rng hs
    obtain ⟨r1, r2, r3⟩ := part_rng hs
    have hu := uG_is pk
    have hpu : powB (uG pk) = true := by
      rcases hu with h | h <;> rw [h] <;> decide
    have huu : U64 (uG pk) := by
      rcases hu with h | h <;> rw [h] <;> decide
    have HP := rparts_any pk n 0 0 0
    have H1 := fun w => ralign_any b 16 w hb (by decide)
    have H2 := fun w => ralign_any (IntKind.u64.wrap (alV b 16 + pD pk n)) (uG pk) w (wrap_U64 _) huu
    have H3 := fun w => ralign_any (IntKind.u64.wrap (alV (IntKind.u64.wrap (alV b 16 + pD pk n)) (uG pk) + pG pk n)) 4 w (wrap_U64 _) (by decide)
    have u1 := alV_U64 hb powB16 (by decide)
    have u2 := alV_U64 (wrap_U64 (alV b 16 + pD pk n)) hpu (by omega)
    have u3 := alV_U64 (wrap_U64 (alV (IntKind.u64.wrap (alV b 16 + pD pk n)) (uG pk) + pG pk n)) powB4 (by decide)
    have HC := fun w => rcheck_lay pk n _ _ _ w u1 u2 u3
    have HM := rpl_math hs hb (a1 := alV b 16) rfl rfl rfl rfl rfl rfl rfl
    have hD0 : ¬ pD pk n = 0 := by omega
    have key : ∀ a1 e1 a2 e2 a3 e3 ck : Int,
        ((e1 = 0 ∧ e2 = 0 ∧ e3 = 0 ∧ ¬ IntKind.u64.wrap (a1 + pD pk n) < a1 ∧ ¬ IntKind.u64.wrap (a2 + pG pk n) < a2 ∧ ¬ IntKind.u64.wrap (a3 + IntKind.u64.wrap (pC pk n - 1)) < a3 ∧ ck = 0) ∧ plOk pk n b = true ∧ a1 = alV b 16 ∧ a2 = alV b 16 + 16 * n ∧ a3 = alV b 16 + cO pk n ∧ IntKind.u64.wrap (IntKind.u64.wrap (a3 + pC pk n) - b) = alV b 16 - b + totL pk n) ∨
        (¬ (e1 = 0 ∧ e2 = 0 ∧ e3 = 0 ∧ ¬ IntKind.u64.wrap (a1 + pD pk n) < a1 ∧ ¬ IntKind.u64.wrap (a2 + pG pk n) < a2 ∧ ¬ IntKind.u64.wrap (a3 + IntKind.u64.wrap (pC pk n - 1)) < a3 ∧ ck = 0) ∧ plOk pk n b = false) →
        (∀ w, Calls Tryz.prog 50 #[.int .u64 b, .int .u64 16] w fun e w' => e = .returned (.tuple #[.int .u64 a1, .int .i64 e1]) ∧ w = w') →
        (∀ w, Calls Tryz.prog 50 #[.int .u64 (IntKind.u64.wrap (a1 + pD pk n)), .int .u64 (uG pk)] w fun e w' => e = .returned (.tuple #[.int .u64 a2, .int .i64 e2]) ∧ w = w') →
        (∀ w, Calls Tryz.prog 50 #[.int .u64 (IntKind.u64.wrap (a2 + pG pk n)), .int .u64 4] w fun e w' => e = .returned (.tuple #[.int .u64 a3, .int .i64 e3]) ∧ w = w') →
        (∀ w, Calls Tryz.prog 51 #[rV pk n a1 a2 a3] w fun e w' => e = .returned (.int .i64 ck) ∧ Below w.heap.size w w') →
        Calls Tryz.prog 22 #[.bool pk, .int .i64 n, .int .u64 b] w fun e w' => e = plR pk n b ∧ Below w.heap.size w w' := by
      clear HM HC H1 H2 H3 u1 u2 u3
      intro a1 e1 a2 e2 a3 e3 ck HM H1 H2 H3 HC
      rcases HM with ⟨⟨g0, g1, g2, g3, g4, g5, g6⟩, hk, k1, k2, k3, k4⟩ | ⟨hn, hk⟩
      · rw [← pl_yes hk, ← k4, ← k3, ← k2, ← k1]
        cases pk
        · exact rplace_false_7 n b _ _ _ a1 e1 a2 e2 a3 e3 ck w hD0 (ne_f g0) (ne_f g1) (ne_f g2) (decide_eq_false g3) (decide_eq_false g4) (decide_eq_false g5) (ne_f g6) HP H1 H2 H3 HC
        · exact rplace_true_7 n b _ _ _ a1 e1 a2 e2 a3 e3 ck w hD0 (ne_f g0) (ne_f g1) (ne_f g2) (decide_eq_false g3) (decide_eq_false g4) (decide_eq_false g5) (ne_f g6) HP H1 H2 H3 HC
      · rw [← pl_no hk]
        by_cases g0 : e1 = 0
        · by_cases g1 : e2 = 0
          · by_cases g2 : e3 = 0
            · by_cases g3 : IntKind.u64.wrap (a1 + pD pk n) < a1
              · cases pk
                · exact rplace_false_3 n b _ _ _ a1 e1 a2 e2 a3 e3 ck w hD0 (ne_f g0) (ne_f g1) (ne_f g2) (decide_eq_true g3) HP H1 H2 H3 HC
                · exact rplace_true_3 n b _ _ _ a1 e1 a2 e2 a3 e3 ck w hD0 (ne_f g0) (ne_f g1) (ne_f g2) (decide_eq_true g3) HP H1 H2 H3 HC
              · by_cases g4 : IntKind.u64.wrap (a2 + pG pk n) < a2
                · cases pk
                  · exact rplace_false_4 n b _ _ _ a1 e1 a2 e2 a3 e3 ck w hD0 (ne_f g0) (ne_f g1) (ne_f g2) (decide_eq_false g3) (decide_eq_true g4) HP H1 H2 H3 HC
                  · exact rplace_true_4 n b _ _ _ a1 e1 a2 e2 a3 e3 ck w hD0 (ne_f g0) (ne_f g1) (ne_f g2) (decide_eq_false g3) (decide_eq_true g4) HP H1 H2 H3 HC
                · by_cases g5 : IntKind.u64.wrap (a3 + IntKind.u64.wrap (pC pk n - 1)) < a3
                  · cases pk
                    · exact rplace_false_5 n b _ _ _ a1 e1 a2 e2 a3 e3 ck w hD0 (ne_f g0) (ne_f g1) (ne_f g2) (decide_eq_false g3) (decide_eq_false g4) (decide_eq_true g5) HP H1 H2 H3 HC
                    · exact rplace_true_5 n b _ _ _ a1 e1 a2 e2 a3 e3 ck w hD0 (ne_f g0) (ne_f g1) (ne_f g2) (decide_eq_false g3) (decide_eq_false g4) (decide_eq_true g5) HP H1 H2 H3 HC
                  · have g6 : ck ≠ 0 := fun h => hn ⟨g0, g1, g2, g3, g4, g5, h⟩
                    cases pk
                    · exact rplace_false_6 n b _ _ _ a1 e1 a2 e2 a3 e3 ck w hD0 (ne_f g0) (ne_f g1) (ne_f g2) (decide_eq_false g3) (decide_eq_false g4) (decide_eq_false g5) (ne_t g6) HP H1 H2 H3 HC
                    · exact rplace_true_6 n b _ _ _ a1 e1 a2 e2 a3 e3 ck w hD0 (ne_f g0) (ne_f g1) (ne_f g2) (decide_eq_false g3) (decide_eq_false g4) (decide_eq_false g5) (ne_t g6) HP H1 H2 H3 HC
            · cases pk
              · exact rplace_false_2 n b _ _ _ a1 e1 a2 e2 a3 e3 ck w hD0 (ne_f g0) (ne_f g1) (ne_t g2) HP H1 H2 H3 HC
              · exact rplace_true_2 n b _ _ _ a1 e1 a2 e2 a3 e3 ck w hD0 (ne_f g0) (ne_f g1) (ne_t g2) HP H1 H2 H3 HC
          · cases pk
            · exact rplace_false_1 n b _ _ _ a1 e1 a2 e2 a3 e3 ck w hD0 (ne_f g0) (ne_t g1) HP H1 H2 H3 HC
            · exact rplace_true_1 n b _ _ _ a1 e1 a2 e2 a3 e3 ck w hD0 (ne_f g0) (ne_t g1) HP H1 H2 H3 HC
        · cases pk
          · exact rplace_false_0 n b _ _ _ a1 e1 a2 e2 a3 e3 ck w hD0 (ne_t g0) HP H1 H2 H3 HC
          · exact rplace_true_0 n b _ _ _ a1 e1 a2 e2 a3 e3 ck w hD0 (ne_t g0) HP H1 H2 H3 HC
    exact key _ _ _ _ _ _ _ HM H1 H2 H3 HC
end Go.Proofs.YtfhhgcgbgmilcaaGreat

/- Layer 10's two memories with descriptors laid. Conditions: as each theorem names them. -/
namespace Go.Proofs.YtfhhgcgbgmilcaaGreat
open Go.ChangeShapes Go.WideShapes Go.ChangeAt Go.RowKit
set_option linter.unusedVariables false
set_option maxRecDepth 100000

abbrev R10 : List (Int × Int) := [(0, 12000)]
/-- all blocks but those of bytes stay -/
structure Kp8 (w w' : World) : Prop where
  size : w.heap.size ≤ w'.heap.size
  blk : ∀ (b : Nat) (cs : Array Value) (t : TypeId) (z : Nat × Nat), w.heap[b]? = some (.cells cs t z) → t ≠ 5 → w'.heap[b]? = some (.cells cs t z)
theorem Kp8.trans {a b c : World} (h : Kp8 a b) (g : Kp8 b c) : Kp8 a c := ⟨Nat.le_trans h.size g.size, fun x cs t z hx h1 => g.blk x cs t z (h.blk x cs t z hx h1) h1⟩
theorem Kp8.below {w w' : World} (h : Below w.heap.size w w') : Kp8 w w' := ⟨h.size, fun b cs t z hb _ => (h.block b (lt_blk hb)).trans hb⟩
theorem Kp8.at {w w' : World} {b : Nat} {C : List Value} {t : TypeId} (h : BlkAt w b C t) (hk : Kp8 w w') (h1 : t ≠ 5) : BlkAt w' b C t := hk.blk _ _ _ _ h h1
theorem Kp8.chg {w w' : World} {S : Nat → Prop} (h : Chg S w w') (hS : ∀ b, S b → ∃ cs z, w.heap[b]? = some (.cells cs 5 z)) : Kp8 w w' := by
  refine ⟨h.size, fun b cs t z hb ht => h.keep hb (fun hs => ?_)⟩
  obtain ⟨cs2, z2, h2⟩ := hS b hs
  rw [hb] at h2
  injection h2 with h2
  injection h2 with _ h3
  exact ht h3
/-- the program's memory and the reference's, side by side: regions R, bytes M1 and M2 -/
structure LdS (w0 : World) (p ib qb rp : Nat) (R : List (Int × Int)) (M1 M2 : List Int) (u : World) : Prop where
  mem : IsMem u p ib qb R M1
  ref : ∃ base lb bb cL cB aB D, IsRef u base rp lb bb cL cB aB D R M2 ∧ (p < base ∧ ib < base ∧ qb < base) ∧ (base ≤ rp ∧ base ≤ lb ∧ base ≤ bb)
  old : Below w0.heap.size w0 u
  lo : w0.heap.size ≤ p ∧ w0.heap.size ≤ ib ∧ w0.heap.size ≤ qb
section
variable {w0 : World} {p ib qb rp : Nat} {R : List (Int × Int)} {M1 M2 : List Int} {u u' : World}
theorem LdS.below (h : LdS w0 p ib qb rp R M1 M2 u) (hb : Below u.heap.size u u') : LdS w0 p ib qb rp R M1 M2 u' := by
  obtain ⟨base, lb, bb, cL, cB, aB, D, h1, h2⟩ := h.ref
  exact ⟨h.mem.below hb, ⟨base, lb, bb, cL, cB, aB, D, h1.below hb, h2⟩, below_then h.old hb, h.lo⟩
theorem LdS.refm (h : LdS w0 p ib qb rp R M1 M2 u) : RefM u rp R M2 := by
  obtain ⟨base, lb, bb, cL, cB, aB, D, h1, h2⟩ := h.ref
  exact ⟨base, lb, bb, cL, cB, aB, D, h1⟩
theorem LdS.wr (h : LdS w0 p ib qb rp R M1 M2 u) {sb i : Nat} {C : List Value} {t : TypeId} (hb : BlkAt u sb C t) (h1 : w0.heap.size ≤ sb) (h2 : sb ≤ p) (t1 : t ≠ 132) (t2 : t ≠ 5) (t3 : t ≠ 135) (y : Value) : LdS w0 p ib qb rp R M1 M2 (u.setCell ⟨sb, i, none⟩ y) := by
  obtain ⟨base, lb, bb, cL, cB, aB, D, g1, g2, g3⟩ := h.ref
  have hc : Chg (· = sb) u (u.setCell ⟨sb, i, none⟩ y) := ⟨rfl, rfl, rfl, by simp, fun k _ hk => Below.heap_setCell u ⟨sb, i, none⟩ y k hk⟩
  have n1 : p ≠ sb := fun e => by
    have := h.mem.obj
    rw [e, show u.heap[sb]? = _ from hb] at this
    injection this with this
    injection this with _ h3
    exact t1 h3
  have n2 : ib ≠ sb := fun e => by
    have := h.mem.img
    rw [e, show u.heap[sb]? = _ from hb] at this
    injection this with this
    injection this with _ h3
    exact t2 h3
  have n3 : qb ≠ sb := fun e => by
    have := h.mem.prt
    rw [e, show u.heap[sb]? = _ from hb] at this
    injection this with this
    injection this with _ h3
    exact t3 h3
  refine ⟨h.mem.keep hc n1 n2 n3, ⟨base, lb, bb, cL, cB, aB, D, g1.keep hc (by omega) (fun _ => ⟨by omega, by omega⟩) (fun j hj => ?_), g2, g3⟩, h.old.setCell h1 _, h.lo⟩
  have := (g1.ne j hj).2.2.2
  omega
theorem LdS.write1 (h : LdS w0 p ib qb rp R M1 M2 u) (a : Int) (v : Value) (l : List Int) (ha : U64 a) (hv : BytesAt u v l) (hl : isBytes l) (hm : l.length ≤ 100000) :
    Calls Tryz.prog 9 #[.pointer (some ⟨p, 0, none⟩), .int .u64 a, v] u fun e u' => e = .returned (.int .i64 (writeE R a l)) ∧ LdS w0 p ib qb rp R (writeM R M1 a l) M2 u' ∧ Kp8 u u' ∧ Chg (· = ib) u u' := by
  refine (write_any p ib qb R M1 a v l u h.mem ha hv hl (by omega)).mono ?_
  rintro e u' ⟨rfl, h1, h2⟩
  obtain ⟨base, lb, bb, cL, cB, aB, D, g1, g2, g3⟩ := h.ref
  refine ⟨rfl, ⟨h1, ⟨base, lb, bb, cL, cB, aB, D, g1.keep h2 (by omega) (fun _ => ⟨by omega, by omega⟩) (fun j hj => ?_), g2, g3⟩, h.old.trans (h2.below h.old.size (fun k hk => by have := h.lo; omega)), h.lo⟩, Kp8.chg h2 (fun b hb => ?_), h2⟩
  · have := (g1.ne j hj).2.2.2
    omega
  · subst hb
    exact ⟨_, _, h.mem.img⟩
theorem LdS.write2 (h : LdS w0 p ib qb rp R M1 M2 u) (a : Int) (v : Value) (l : List Int) (ha : U64 a) (hv : BytesAt u v l) (hl : isBytes l) (hm : l.length ≤ 100000) :
    Calls Tryz.prog 27 #[.pointer (some ⟨rp, 0, none⟩), .int .u64 a, v] u fun e u' => e = .returned (.int .i64 (writeE R a l)) ∧ LdS w0 p ib qb rp R M1 (writeM R M2 a l) u' ∧ Kp8 u u' := by
  obtain ⟨base, lb, bb, cL, cB, aB, D, g1, g2, g3⟩ := h.ref
  refine (rwrite_any base rp lb bb cL cB aB D R M2 a v l u g1 ha hv hl (by omega)).mono ?_
  rintro e u' ⟨rfl, h1, h2⟩
  have hne : ∀ k, k < base → ¬ Pcs D R k := fun k hk => by
    rintro ⟨j, hj, rfl⟩
    have := (g1.ne j hj).2.2.2
    omega
  refine ⟨rfl, ⟨h.mem.keep h2 (hne _ g2.1) (hne _ g2.2.1) (hne _ g2.2.2), ⟨base, lb, bb, cL, cB, aB, D, h1, g2, g3⟩, h.old.trans (h2.below h.old.size (fun k hk => hne k (by have := h.lo; omega))), h.lo⟩, Kp8.chg h2 (fun b hb => ?_)⟩
  obtain ⟨j, hj, rfl⟩ := hb
  exact ⟨_, _, g1.parts j hj⟩
end
theorem NewBytes.chg {B ib : Nat} {u u' : World} {v : Value} {l : List Int} (h : NewBytes B u v l) (hc : Chg (· = ib) u u') (hB : ib < B) : NewBytes B u' v l := by
  rcases h with h | ⟨b, c, h1, h2, h3, cs, h4, h5⟩
  · exact Or.inl h
  · exact Or.inr ⟨b, c, h1, h2, h3, cs, hc.keep h4 (by omega), h5⟩
/-- the bytes behind so many spots -/
def sptD (pk : Bool) (x : Spt) : Dsc := if pk = true then x.p else x.s
def laidS (pk : Bool) (M : List Int) (x : Spt) : List Int := writeM R10 M (16 * (x.at_ % 750)) (dB (sptD pk x))
def laidM (pk : Bool) (L : List Spt) : List Int := L.foldl (laidS pk) (List.replicate 12000 0)
theorem laidM_succ {pk : Bool} {L : List Spt} {k : Nat} (h : k < L.length) : laidM pk (L.take (k + 1)) = laidS pk (laidM pk (L.take k)) (sptAt L k) := by
  unfold laidM
  rw [List.take_succ_eq_append_getElem h, List.foldl_append]
  simp [sptAt, List.getD, h]
theorem regs10 (w : World) : RegsAt (w.alloc (.cells #[.int .u64 0, .int .u64 12000] 80)) (.slice (some ⟨w.heap.size, 0, none⟩) 1 1) R10 := by
  refine Or.inr ⟨w.heap.size, 0, 1, rfl, by simp, by simp, fun j hj => ?_⟩
  obtain rfl : j = 0 := by simpa using hj
  exact ⟨(blk_new w [.int .u64 0, .int .u64 12000] 80).cell 0, (blk_new w [.int .u64 0, .int .u64 12000] 80).cell 1⟩
theorem isRegs10 : isRegs R10 := fun r hr => by
  rw [List.mem_singleton] at hr
  subst hr
  exact ⟨by decide, by decide⟩
theorem ok10 : okR (-1) 1048576 R10 = true := by decide +kernel
end Go.Proofs.YtfhhgcgbgmilcaaGreat

/- law10's laid. Conditions: as each theorem names them. -/
namespace Go.Proofs.YtfhhgcgbgmilcaaGreat
open Go.ChangeShapes Go.WideShapes Go.ChangeAt Go.RowKit
set_option linter.unusedVariables false
set_option maxRecDepth 100000

theorem cells5 {w : World} {b : Nat} {x0 x1 x2 x3 x4 : Value} {t : TypeId} (h : BlkAt w b [x0, x1, x2, x3, x4] t) : b < w.heap.size ∧ w.cell? ⟨b, 0, none⟩ = some x0 ∧ w.cell? ⟨b, 1, none⟩ = some x1 ∧ w.cell? ⟨b, 2, none⟩ = some x2 ∧ w.cell? ⟨b, 3, none⟩ = some x3 ∧ w.cell? ⟨b, 4, none⟩ = some x4 ∧ w.frozen? ⟨b, 0, none⟩ = false ∧ w.frozen? ⟨b, 1, none⟩ = false ∧ w.frozen? ⟨b, 2, none⟩ = false ∧ w.frozen? ⟨b, 3, none⟩ = false ∧ w.frozen? ⟨b, 4, none⟩ = false := ⟨h.lt, h.cell 0, h.cell 1, h.cell 2, h.cell 3, h.cell 4, h.free 0, h.free 1, h.free 2, h.free 3, h.free 4⟩
theorem new10 (u : World) (b : Nat) (hb : b = u.heap.size) :
    Calls Tryz.prog 23 #[.slice (some ⟨b, 0, none⟩) 1 1] (u.alloc (.cells #[.int .u64 0, .int .u64 12000] 80)) fun e w' => ∃ p ib qb, e = .returned (.tuple #[.pointer (some ⟨p, 0, none⟩), .int .i64 0]) ∧ IsMem w' p ib qb R10 (List.replicate 12000 0) ∧ (u.heap.size ≤ p ∧ u.heap.size ≤ ib ∧ u.heap.size ≤ qb) ∧ Below u.heap.size u w' := by
  subst hb
  refine (new_any _ R10 _ (regs10 u) isRegs10 (by decide) ok10 (by decide)).mono ?_
  rintro e w' ⟨p, ib, qb, rfl, h1, h2, h3⟩
  have hz : (u.alloc (.cells #[.int .u64 0, .int .u64 12000] 80)).heap.size = u.heap.size + 1 := by simp
  rw [hz] at h2
  exact ⟨p, ib, qb, rfl, h1, by omega, below_then (below_box _ _) h3⟩
theorem rnew10 (u : World) (b : Nat) (hb : b = u.heap.size) :
    Calls Tryz.prog 26 #[.slice (some ⟨b, 0, none⟩) 1 1] (u.alloc (.cells #[.int .u64 0, .int .u64 12000] 80)) fun e w' => ∃ rp base lb bb cL cB aB D, e = .returned (.tuple #[.pointer (some ⟨rp, 0, none⟩), .int .i64 0]) ∧ u.heap.size ≤ base ∧ (base ≤ rp ∧ base ≤ lb ∧ base ≤ bb) ∧ IsRef w' base rp lb bb cL cB aB D R10 (List.replicate 12000 0) ∧ Below u.heap.size u w' := by
  subst hb
  refine (rnew_any _ R10 _ (regs10 u) isRegs10 ok10 (by decide) (by decide +kernel) (fun j hj => by
    obtain rfl : j = 0 := by simpa using hj
    decide)).mono ?_
  rintro e w' ⟨rp, lb, bb, cL, cB, aB, D, rfl, ⟨h1, h2, h3⟩, h4, h5⟩
  have hz : (u.alloc (.cells #[.int .u64 0, .int .u64 12000] 80)).heap.size = u.heap.size + 1 := by simp
  exact ⟨rp, _, lb, bb, cL, cB, aB, D, rfl, by omega, ⟨h1, h2, h3 (by decide)⟩, h4, below_then (below_box _ _) h5⟩
set_option maxHeartbeats 1000000 in
theorem laid10f (n : Int) (v : Value) (L : List Spt) (w : World) (hv : SpotsAt w v L) (hs : isSpts L) (hl : L.length ≤ 100) (hok : plOk false n 0 = true) :
    Calls Tryz.prog 6 #[.int .i64 n, .bool false, v] w fun e w' => ∃ p ib qb rp, e = .returned (.tuple #[.pointer (some ⟨p, 0, none⟩), .pointer (some ⟨rp, 0, none⟩), rV false n (alV 0 16) (alV 0 16 + 16 * n) (alV 0 16 + cO false n), .bool true]) ∧ LdS w p ib qb rp R10 (laidM false L) (laidM false L) w' := by
  have HPl := hid_mk (fun u => rplace_lay false n 0 u (by decide))
  rw [← pl_yes hok] at HPl
  have HV := hid_mk hv
  have HSp := hid_mk hs
  have HL := hid_mk hl
  have hli : (L.length : Int) ≤ 100 := by omega
  obtain ⟨va, vc, rfl⟩ := hv.len
  have HN1 := hid_mk (fun u b (hb : b = u.heap.size) => new10 u b hb)
  have HN2 := hid_mk (fun u b (hb : b = u.heap.size) => rnew10 u b hb)
  generalize alV 0 16 = A at *
  generalize cO false n = O at *
  generalize A - 0 + totL false n = T at *
  have HB0 := hid_mk (below_box w (.cells #[.bool false, .int .i64 0, .int .u64 0, .int .u64 0, .int .u64 0] 32))
  have HX0 := hid_mk (blk_new w [.bool false, .int .i64 0, .int .u64 0, .int .u64 0, .int .u64 0] 32)
  clear hv hs hl hok
  go_enter Tryz.func6, Tryz.ntmps6
  go_wp2_with fail
  refine (HPl.out _).mono ?_
  rintro e w1 ⟨rfl, hb⟩
  have HB1 := hid_mk (below_then HB0.out hb)
  have HX1 := hid_mk (HX0.out.below hb)
  clear hb
  go_wp2_with fail
  refine (HN1.out _ _ (by simp)).mono ?_
  rintro e w2 ⟨p, ib, qb, rfl, hm, ⟨l1, l2, l3⟩, hb⟩
  have hbx := below_box w1 (.cells #[.bool false, .int .i64 n, .int .u64 A, .int .u64 (A + 16 * n), .int .u64 (A + O)] 32)
  have HB2 := hid_mk (below_then HB1.out (below_then hbx hb))
  have HX2 := hid_mk (HX1.out.below (below_then hbx hb))
  have HY2 := hid_mk ((blk_new w1 [.bool false, .int .i64 n, .int .u64 A, .int .u64 (A + 16 * n), .int .u64 (A + O)] 32).below hb)
  have HM := hid_mk hm
  have HLo : Hid (w.heap.size ≤ p ∧ w.heap.size ≤ ib ∧ w.heap.size ≤ qb) := hid_mk (by
    have := HB1.out.size
    have := hbx.size
    omega)
  clear hm l1 l2 l3 hb hbx
  go_wp2_with fail
  refine (HN2.out _ _ rfl).mono ?_
  rintro e w3 ⟨rp, base, lb, bb, cL, cB, aB, D, rfl, hlb, hlo, href, hb⟩
  have HB3 := hid_mk (below_then HB2.out hb)
  have HX3 := hid_mk (HX2.out.below hb)
  have HY3 := hid_mk (HY2.out.below hb)
  have HD3 : Hid (LdS w p ib qb rp R10 (List.replicate 12000 0) (List.replicate 12000 0) w3) := hid_mk ⟨HM.out.below hb, ⟨base, lb, bb, cL, cB, aB, D, href, by
    have h1 := lt_blk HM.out.obj
    have h2 := lt_blk HM.out.img
    have h3 := lt_blk HM.out.prt
    omega, hlo⟩, HB3.out, HLo.out⟩
  clear hlb hlo href hb
  obtain ⟨gb, hgb⟩ : ∃ gb, w1.heap.size = gb := ⟨_, rfl⟩
  have HGB : Hid (w.heap.size < gb) := hid_mk (by rw [← hgb]; exact HX1.out.lt)
  have HGP : Hid (w.heap.size ≤ p) := hid_mk HLo.out.1
  rw [hgb] at HY3 ⊢
  go_wp2_with fail
  go_loopw [17, 18, 19] (fun i _ _ wr => ∃ k : Nat, k ≤ L.length ∧ i = .int .i64 k ∧ Hid (LdS w p ib qb rp R10 (laidM false (L.take k)) (laidM false (L.take k)) wr) ∧ Hid (BlkAt wr w.heap.size [.bool false, .int .i64 0, .int .u64 0, .int .u64 0, .int .u64 0] 32) ∧ Hid (BlkAt wr gb [.bool false, .int .i64 n, .int .u64 A, .int .u64 (A + 16 * n), .int .u64 (A + O)] 32)) (fun i _ _ _ => L.length - (intOf i).toNat)
  case atStart => exact ⟨0, Nat.zero_le _, rfl, HD3, HX3, HY3⟩
  case round =>
    obtain ⟨k, hk, rfl, hld, hx0, hy0⟩ := hrel
    by_cases hlt : k < L.length
    · obtain ⟨g, o, hga, hg1, hg2⟩ : ∃ g o, va = some ⟨g, o, none⟩ ∧ g < wr.heap.size ∧ at9 wr g (o + k * 9) (sptAt L k) := by
        rcases HV.out.below hld.out.old with ⟨_, e⟩ | ⟨g, o, c, he, h1, h2, h3⟩
        · rw [e] at hlt
          simp at hlt
        · cases he
          exact ⟨g, o, rfl, h1, h3 k hlt⟩
      subst hga
      have HI := hid_mk (HSp.out k hlt)
      have hki : (k : Int) < (L.length : Int) := by omega
      have HSuc := hid_mk (laidM_succ (pk := false) hlt)
      unfold laidS at HSuc
      rw [show sptD false (sptAt L k) = (sptAt L k).s from rfl] at HSuc
      have HBy := hid_mk (rbytes_any (sptAt L k).s wr HI.out.s)
      have HPk := hid_mk (fun u => pick_any (sptAt L k).at_ 750 u (by decide) (by decide))
      have hmod : 0 ≤ (sptAt L k).at_ % 750 ∧ (sptAt L k).at_ % 750 < 750 := by omega
      obtain ⟨c0, ⟨c1, c2, c3, c4⟩, c5, c6, c7, c8⟩ := hg2
      obtain ⟨t, ht⟩ : ∃ t, (sptAt L k).at_ % 750 = t := ⟨_, rfl⟩
      rw [ht] at HPk HSuc hmod
      obtain ⟨hm0, hm1⟩ := hmod
      have hw1 : IntKind.i64.wrap (16 * t) = 16 * t := IntWalk.i64_in _ (by omega)
      have hw2 : IntKind.u64.wrap (16 * t) = 16 * t := by rw [IntKind.wrap_u64]; omega
      have HU : Hid (U64 (16 * t)) := hid_mk (by omega)
      obtain ⟨M, hM⟩ : ∃ M, laidM false (L.take k) = M := ⟨_, rfl⟩
      rw [hM] at hld HSuc
      have HGx := hid_mk (show g < w.heap.size ∨ True from Or.inr trivial)
      clear hM ht
      go_wp2_with fail
      refine HBy.out.mono ?_
      rintro e w4 ⟨bv0, rfl, hob0, hb⟩
      have HNB4 := hid_mk (newBytes_of hob0)
      have HD4 := hid_mk (hld.out.below hb)
      have HX4 := hid_mk (hx0.out.below hb)
      have HY4 := hid_mk (hy0.out.below hb)
      replace c0 := (hb.cell (p := ⟨g, _, none⟩) hg1).trans c0
      replace c5 := (hb.cell (p := ⟨g, _, none⟩) hg1).trans c5
      replace c6 := (hb.cell (p := ⟨g, _, none⟩) hg1).trans c6
      replace c7 := (hb.cell (p := ⟨g, _, none⟩) hg1).trans c7
      replace c8 := (hb.cell (p := ⟨g, _, none⟩) hg1).trans c8
      have hg4 := Nat.lt_of_lt_of_le hg1 hb.size
      have hibw : ib < wr.heap.size := lt_blk hld.out.mem.img
      have hsz4 := hb.size
      clear hob0 hb c1 c2 c3 c4
      go_wp2_with fail
      have HNB := HNB4
      have HD5 := HD4
      have HX5 := HX4
      have HY5 := HY4
      refine (HPk.out _).mono ?_
      rintro e w6 ⟨rfl, rfl⟩
      go_wp2_with fail
      refine (HD5.out.write1 (16 * t) _ _ HU.out HNB.out.at (dB_bytes _) (by rw [dB_length]; omega)).mono ?_
      rintro e w7 ⟨rfl, hd7, hk7, hc7⟩
      have HNB7 := hid_mk (HNB.out.chg hc7 (by omega))
      have HD7 := hid_mk hd7
      have HX7 := hid_mk (hk7.at HX5.out (by decide))
      have HY7 := hid_mk (hk7.at HY5.out (by decide))
      clear hd7 hk7 hc7
      go_wp2_with fail
      refine (HD7.out.write2 (16 * t) _ _ HU.out HNB7.out.at (dB_bytes _) (by rw [dB_length]; omega)).mono ?_
      rintro e w8 ⟨rfl, hd8, hk8⟩
      have HD8 := hid_mk hd8
      have HX8 := hid_mk (hk8.at HX7.out (by decide))
      have HY8 := hid_mk (hk8.at HY7.out (by decide))
      clear hd8 hk8
      go_wp2_with fail
      go_roundw
      case rel => exact ⟨k + 1, by omega, by simp, by rw [HSuc.out]; exact HD8, HX8, HY8⟩
      case measure => simp [intOf]; omega
    · obtain rfl : k = L.length := by omega
      have HDf := hld
      rw [List.take_length] at HDf
      obtain ⟨x0, x1, x2, x3, x4, x5, f1, f2, f3, f4, f5⟩ := cells5 hx0.out
      obtain ⟨y0, y1, y2, y3, y4, y5, _⟩ := cells5 hy0.out
      have HBig := hid_mk hx0.out
      obtain ⟨sb, hsb⟩ : ∃ sb, w.heap.size = sb := ⟨_, rfl⟩
      have HSb := hid_mk hsb
      rw [hsb] at x0 x1 x2 x3 x4 x5 f1 f2 f3 f4 f5 ⊢
      have hne1 : sb < gb := by have := HGB.out; omega
      have hne2 : gb ≠ sb := by omega
      have hne3 : sb ≠ gb := by omega
      clear hsb
      go_wp2_with fail
      go_region
      go_wp2_with fail
      rw [HSb.out] at HBig
      refine bodyPost_ret (v := .tuple #[.pointer (some ⟨p, 0, none⟩), .pointer (some ⟨rp, 0, none⟩), rV false n A (A + 16 * n) (A + O), .bool true]) (by simp [results, Tryz.results6, go_sem, x1, x2, x3, x4, x5]) rfl ⟨p, ib, qb, rp, rfl, ?_⟩
      have g1 : w.heap.size ≤ sb := by rw [HSb.out]; exact Nat.le_refl _
      have g2 : sb ≤ p := by rw [← HSb.out]; exact HGP.out
      exact (((((HDf.out.wr HBig.out g1 g2 (by decide) (by decide) (by decide) _).wr (HBig.out.set 0 _) g1 g2 (by decide) (by decide) (by decide) _).wr ((HBig.out.set 0 _).set 1 _) g1 g2 (by decide) (by decide) (by decide) _).wr (((HBig.out.set 0 _).set 1 _).set 2 _) g1 g2 (by decide) (by decide) (by decide) _).wr ((((HBig.out.set 0 _).set 1 _).set 2 _).set 3 _) g1 g2 (by decide) (by decide) (by decide) _).below (Below.refl _ _).drew
set_option maxHeartbeats 1000000 in
theorem laid10t (n : Int) (v : Value) (L : List Spt) (w : World) (hv : SpotsAt w v L) (hs : isSpts L) (hl : L.length ≤ 100) (hok : plOk true n 0 = true) :
    Calls Tryz.prog 6 #[.int .i64 n, .bool true, v] w fun e w' => ∃ p ib qb rp, e = .returned (.tuple #[.pointer (some ⟨p, 0, none⟩), .pointer (some ⟨rp, 0, none⟩), rV true n (alV 0 16) (alV 0 16 + 16 * n) (alV 0 16 + cO true n), .bool true]) ∧ LdS w p ib qb rp R10 (laidM true L) (laidM true L) w' := by
  have HPl := hid_mk (fun u => rplace_lay true n 0 u (by decide))
  rw [← pl_yes hok] at HPl
  have HV := hid_mk hv
  have HSp := hid_mk hs
  have HL := hid_mk hl
  have hli : (L.length : Int) ≤ 100 := by omega
  obtain ⟨va, vc, rfl⟩ := hv.len
  have HN1 := hid_mk (fun u b (hb : b = u.heap.size) => new10 u b hb)
  have HN2 := hid_mk (fun u b (hb : b = u.heap.size) => rnew10 u b hb)
  generalize alV 0 16 = A at *
  generalize cO true n = O at *
  generalize A - 0 + totL true n = T at *
  have HB0 := hid_mk (below_box w (.cells #[.bool false, .int .i64 0, .int .u64 0, .int .u64 0, .int .u64 0] 32))
  have HX0 := hid_mk (blk_new w [.bool false, .int .i64 0, .int .u64 0, .int .u64 0, .int .u64 0] 32)
  clear hv hs hl hok
  go_enter Tryz.func6, Tryz.ntmps6
  go_wp2_with fail
  refine (HPl.out _).mono ?_
  rintro e w1 ⟨rfl, hb⟩
  have HB1 := hid_mk (below_then HB0.out hb)
  have HX1 := hid_mk (HX0.out.below hb)
  clear hb
  go_wp2_with fail
  refine (HN1.out _ _ (by simp)).mono ?_
  rintro e w2 ⟨p, ib, qb, rfl, hm, ⟨l1, l2, l3⟩, hb⟩
  have hbx := below_box w1 (.cells #[.bool true, .int .i64 n, .int .u64 A, .int .u64 (A + 16 * n), .int .u64 (A + O)] 32)
  have HB2 := hid_mk (below_then HB1.out (below_then hbx hb))
  have HX2 := hid_mk (HX1.out.below (below_then hbx hb))
  have HY2 := hid_mk ((blk_new w1 [.bool true, .int .i64 n, .int .u64 A, .int .u64 (A + 16 * n), .int .u64 (A + O)] 32).below hb)
  have HM := hid_mk hm
  have HLo : Hid (w.heap.size ≤ p ∧ w.heap.size ≤ ib ∧ w.heap.size ≤ qb) := hid_mk (by
    have := HB1.out.size
    have := hbx.size
    omega)
  clear hm l1 l2 l3 hb hbx
  go_wp2_with fail
  refine (HN2.out _ _ rfl).mono ?_
  rintro e w3 ⟨rp, base, lb, bb, cL, cB, aB, D, rfl, hlb, hlo, href, hb⟩
  have HB3 := hid_mk (below_then HB2.out hb)
  have HX3 := hid_mk (HX2.out.below hb)
  have HY3 := hid_mk (HY2.out.below hb)
  have HD3 : Hid (LdS w p ib qb rp R10 (List.replicate 12000 0) (List.replicate 12000 0) w3) := hid_mk ⟨HM.out.below hb, ⟨base, lb, bb, cL, cB, aB, D, href, by
    have h1 := lt_blk HM.out.obj
    have h2 := lt_blk HM.out.img
    have h3 := lt_blk HM.out.prt
    omega, hlo⟩, HB3.out, HLo.out⟩
  clear hlb hlo href hb
  obtain ⟨gb, hgb⟩ : ∃ gb, w1.heap.size = gb := ⟨_, rfl⟩
  have HGB : Hid (w.heap.size < gb) := hid_mk (by rw [← hgb]; exact HX1.out.lt)
  have HGP : Hid (w.heap.size ≤ p) := hid_mk HLo.out.1
  rw [hgb] at HY3 ⊢
  go_wp2_with fail
  go_loopw [17, 18, 19] (fun i _ _ wr => ∃ k : Nat, k ≤ L.length ∧ i = .int .i64 k ∧ Hid (LdS w p ib qb rp R10 (laidM true (L.take k)) (laidM true (L.take k)) wr) ∧ Hid (BlkAt wr w.heap.size [.bool false, .int .i64 0, .int .u64 0, .int .u64 0, .int .u64 0] 32) ∧ Hid (BlkAt wr gb [.bool true, .int .i64 n, .int .u64 A, .int .u64 (A + 16 * n), .int .u64 (A + O)] 32)) (fun i _ _ _ => L.length - (intOf i).toNat)
  case atStart => exact ⟨0, Nat.zero_le _, rfl, HD3, HX3, HY3⟩
  case round =>
    obtain ⟨k, hk, rfl, hld, hx0, hy0⟩ := hrel
    by_cases hlt : k < L.length
    · obtain ⟨g, o, hga, hg1, hg2⟩ : ∃ g o, va = some ⟨g, o, none⟩ ∧ g < wr.heap.size ∧ at9 wr g (o + k * 9) (sptAt L k) := by
        rcases HV.out.below hld.out.old with ⟨_, e⟩ | ⟨g, o, c, he, h1, h2, h3⟩
        · rw [e] at hlt
          simp at hlt
        · cases he
          exact ⟨g, o, rfl, h1, h3 k hlt⟩
      subst hga
      have HI := hid_mk (HSp.out k hlt)
      have hki : (k : Int) < (L.length : Int) := by omega
      have HSuc := hid_mk (laidM_succ (pk := true) hlt)
      unfold laidS at HSuc
      rw [show sptD true (sptAt L k) = (sptAt L k).p from rfl] at HSuc
      have HBy := hid_mk (rbytes_any (sptAt L k).s wr HI.out.s)
      have HPk := hid_mk (fun u => pick_any (sptAt L k).at_ 750 u (by decide) (by decide))
      have hmod : 0 ≤ (sptAt L k).at_ % 750 ∧ (sptAt L k).at_ % 750 < 750 := by omega
      obtain ⟨c0, ⟨c1, c2, c3, c4⟩, c5, c6, c7, c8⟩ := hg2
      obtain ⟨t, ht⟩ : ∃ t, (sptAt L k).at_ % 750 = t := ⟨_, rfl⟩
      rw [ht] at HPk HSuc hmod
      obtain ⟨hm0, hm1⟩ := hmod
      have hw1 : IntKind.i64.wrap (16 * t) = 16 * t := IntWalk.i64_in _ (by omega)
      have hw2 : IntKind.u64.wrap (16 * t) = 16 * t := by rw [IntKind.wrap_u64]; omega
      have HU : Hid (U64 (16 * t)) := hid_mk (by omega)
      obtain ⟨M, hM⟩ : ∃ M, laidM true (L.take k) = M := ⟨_, rfl⟩
      rw [hM] at hld HSuc
      have HGx := hid_mk (show g < w.heap.size ∨ True from Or.inr trivial)
      clear hM ht
      go_wp2_with fail
      refine HBy.out.mono ?_
      rintro e w4 ⟨bv0, rfl, hob0, hb⟩
      have HNB4 := hid_mk (newBytes_of hob0)
      have HD4 := hid_mk (hld.out.below hb)
      have HX4 := hid_mk (hx0.out.below hb)
      have HY4 := hid_mk (hy0.out.below hb)
      replace c0 := (hb.cell (p := ⟨g, _, none⟩) hg1).trans c0
      replace c5 := (hb.cell (p := ⟨g, _, none⟩) hg1).trans c5
      replace c6 := (hb.cell (p := ⟨g, _, none⟩) hg1).trans c6
      replace c7 := (hb.cell (p := ⟨g, _, none⟩) hg1).trans c7
      replace c8 := (hb.cell (p := ⟨g, _, none⟩) hg1).trans c8
      have hg4 := Nat.lt_of_lt_of_le hg1 hb.size
      have hibw : ib < wr.heap.size := lt_blk hld.out.mem.img
      have hsz4 := hb.size
      clear hob0 hb c1 c2 c3 c4
      go_wp2_with fail
      refine (rpbytes_any (sptAt L k).p _ HI.out.p).mono ?_
      rintro e w5 ⟨bv, rfl, hob, hb⟩
      have HNB := hid_mk (newBytes_of hob)
      have HD5 := hid_mk (HD4.out.below hb)
      have HX5 := hid_mk (HX4.out.below hb)
      have HY5 := hid_mk (HY4.out.below hb)
      have hsz := hb.size
      replace c0 := (hb.cell (p := ⟨g, _, none⟩) hg4).trans c0
      have hg5 := Nat.lt_of_lt_of_le hg4 hb.size
      clear hob hb
      go_wp2_with fail
      refine (HPk.out _).mono ?_
      rintro e w6 ⟨rfl, rfl⟩
      go_wp2_with fail
      refine (HD5.out.write1 (16 * t) _ _ HU.out HNB.out.at (dB_bytes _) (by rw [dB_length]; omega)).mono ?_
      rintro e w7 ⟨rfl, hd7, hk7, hc7⟩
      have HNB7 := hid_mk (HNB.out.chg hc7 (by omega))
      have HD7 := hid_mk hd7
      have HX7 := hid_mk (hk7.at HX5.out (by decide))
      have HY7 := hid_mk (hk7.at HY5.out (by decide))
      clear hd7 hk7 hc7
      go_wp2_with fail
      refine (HD7.out.write2 (16 * t) _ _ HU.out HNB7.out.at (dB_bytes _) (by rw [dB_length]; omega)).mono ?_
      rintro e w8 ⟨rfl, hd8, hk8⟩
      have HD8 := hid_mk hd8
      have HX8 := hid_mk (hk8.at HX7.out (by decide))
      have HY8 := hid_mk (hk8.at HY7.out (by decide))
      clear hd8 hk8
      go_wp2_with fail
      go_roundw
      case rel => exact ⟨k + 1, by omega, by simp, by rw [HSuc.out]; exact HD8, HX8, HY8⟩
      case measure => simp [intOf]; omega
    · obtain rfl : k = L.length := by omega
      have HDf := hld
      rw [List.take_length] at HDf
      obtain ⟨x0, x1, x2, x3, x4, x5, f1, f2, f3, f4, f5⟩ := cells5 hx0.out
      obtain ⟨y0, y1, y2, y3, y4, y5, _⟩ := cells5 hy0.out
      have HBig := hid_mk hx0.out
      obtain ⟨sb, hsb⟩ : ∃ sb, w.heap.size = sb := ⟨_, rfl⟩
      have HSb := hid_mk hsb
      rw [hsb] at x0 x1 x2 x3 x4 x5 f1 f2 f3 f4 f5 ⊢
      have hne1 : sb < gb := by have := HGB.out; omega
      have hne2 : gb ≠ sb := by omega
      have hne3 : sb ≠ gb := by omega
      clear hsb
      go_wp2_with fail
      go_region
      go_wp2_with fail
      rw [HSb.out] at HBig
      refine bodyPost_ret (v := .tuple #[.pointer (some ⟨p, 0, none⟩), .pointer (some ⟨rp, 0, none⟩), rV true n A (A + 16 * n) (A + O), .bool true]) (by simp [results, Tryz.results6, go_sem, x1, x2, x3, x4, x5]) rfl ⟨p, ib, qb, rp, rfl, ?_⟩
      have g1 : w.heap.size ≤ sb := by rw [HSb.out]; exact Nat.le_refl _
      have g2 : sb ≤ p := by rw [← HSb.out]; exact HGP.out
      exact (((((HDf.out.wr HBig.out g1 g2 (by decide) (by decide) (by decide) _).wr (HBig.out.set 0 _) g1 g2 (by decide) (by decide) (by decide) _).wr ((HBig.out.set 0 _).set 1 _) g1 g2 (by decide) (by decide) (by decide) _).wr (((HBig.out.set 0 _).set 1 _).set 2 _) g1 g2 (by decide) (by decide) (by decide) _).wr ((((HBig.out.set 0 _).set 1 _).set 2 _).set 3 _) g1 g2 (by decide) (by decide) (by decide) _).below (Below.refl _ _).drew
theorem laid10 (n : Int) (pk : Bool) (v : Value) (L : List Spt) (w : World) (hv : SpotsAt w v L) (hs : isSpts L) (hl : L.length ≤ 100) (hok : plOk pk n 0 = true) :
    Calls Tryz.prog 6 #[.int .i64 n, .bool pk, v] w fun e w' => ∃ p ib qb rp, e = .returned (.tuple #[.pointer (some ⟨p, 0, none⟩), .pointer (some ⟨rp, 0, none⟩), rV pk n (alV 0 16) (alV 0 16 + 16 * n) (alV 0 16 + cO pk n), .bool true]) ∧ LdS w p ib qb rp R10 (laidM pk L) (laidM pk L) w' := by
  cases pk
  · exact laid10f n v L w hv hs hl hok
  · exact laid10t n v L w hv hs hl hok
end Go.Proofs.YtfhhgcgbgmilcaaGreat
