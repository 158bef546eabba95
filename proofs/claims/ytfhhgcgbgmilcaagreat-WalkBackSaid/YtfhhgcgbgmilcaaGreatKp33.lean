/- Ww12 Ww5 Ww6: joined texts. Conditions: as each theorem names them. -/
import Derived.Test.YtfhhgcgbgmilcaaGreatKp32
import Derived.Test.YtfhhgcgbgmilcaaGreatKp31
/- What package walk follows in a packed ring is the chain of the document. No program in sight. -/
namespace Go.Proofs.YtfhhgcgbgmilcaaGreat
open Go
set_option linter.unusedVariables false
set_option maxRecDepth 100000

/-- the same, but for how many were read -/
structure Eqv (s : Cs) (x : Wst) : Prop where
  S : s.S = x.S
  e : s.e = x.e
structure EqP (s : Cs) (p : Pst) : Prop where
  x : Eqv s p.x
  i : s.id = p.id
  c : s.c = p.c
theorem Eqv.stop {s : Cs} {x : Wst} (h : Eqv s x) (he : s.e = 0) (E : Int) : Eqv (s.stop E) (wstop E x) := by
  unfold wstop
  rw [if_pos (h.e ▸ he)]
  exact ⟨h.S, rfl⟩
theorem stop_ic (s : Cs) (E : Int) : (s.stop E).id = s.id ∧ (s.stop E).c = s.c := ⟨rfl, rfl⟩
/-- a packed table: what it leaves alone -/
theorem each_ic (R : List (Int × Int)) (M : List Int) (a n : Int) (D : List Int → Int → Lk) : ∀ (f : Nat) (seen : List Int) (k : Int) (s : Cs), (eachF R M a n D stE f seen k s).id = s.id ∧ (eachF R M a n D stE f seen k s).c = s.c
  | 0, seen, k, s => ⟨rfl, rfl⟩
  | f + 1, seen, k, s => by
    have hs : ∀ d, (stE d s.one).id = s.id ∧ (stE d s.one).c = s.c := fun d => by
      unfold stE
      split <;> exact ⟨rfl, rfl⟩
    rw [eachF_succ]
    split
    · exact ⟨rfl, rfl⟩
    · split
      · split
        · have ih := each_ic R M a n D f (seen ++ [k]) (gtD R M a n D k).nx (stE (gtD R M a n D k) s.one)
          exact ⟨ih.1.trans (hs _).1, ih.2.trans (hs _).2⟩
        · exact hs _
      · exact ⟨rfl, rfl⟩
theorem each_en (R : List (Int × Int)) (M : List Int) (a : Int) (n : Nat) (hn : n ≤ 64) (hr : ∀ i : Nat, i < n → readE R (a + 16 * (i : Int)) 16 = 0) :
    ∀ (r i f : Nat) (seen : List Int) (s : Cs) (x : Wst), i + r = n → 1 ≤ r → r ≤ f → (∀ j ∈ seen, j < (i : Int)) → s.e = 0 → Eqv s x → Eqv (eachF R M a n (dEn n) stE f seen i s) (wpe R M a r i x)
  | 0, i, f, seen, s, x, h1, h2, h3, h4, he, hx => by omega
  | r + 1, i, f, seen, s, x, h1, h2, h3, h4, he, hx => by
    obtain ⟨f, rfl⟩ : ∃ g, f = g + 1 := ⟨f - 1, by omega⟩
    have hin : inB seen (i : Int) = false := by
      unfold inB
      exact decide_eq_false (fun h => by have := h4 _ h; omega)
    have ho : okI (n : Int) (i : Int) = true := okI_iff.2 ⟨by omega, by omega⟩
    have hg : gtE R a n i = 0 := by rw [gtE_yes ho]; exact hr i (by omega)
    rw [eachF_succ, hin, if_neg (show ¬ (false = true) by decide), if_pos hg, gtD_yes hg, wpe_succ]
    obtain ⟨d, hd⟩ : ∃ d, dEn n (readL R M (a + 16 * (i : Int)) 16) i = d := ⟨_, rfl⟩
    have f1 : d.t = flB (dR (readL R M (a + 16 * (i : Int)) 16)).n 4 := by rw [← hd]; rfl
    have f2 : d.m = decide ((i : Int) + 1 < n) := by rw [← hd]; rfl
    have f3 : d.nx = goA i 1 n := by rw [← hd]; rfl
    have f4 : d.s = ⟨(dR (readL R M (a + 16 * (i : Int)) 16)).a, (dR (readL R M (a + 16 * (i : Int)) 16)).l, flB (dR (readL R M (a + 16 * (i : Int)) 16)).n 2⟩ := by rw [← hd]; rfl
    rw [hd, ← f1]
    have he1 : s.one.e = 0 := he
    cases ht : d.t
    · have hst : stE d s.one = s.one.seg d.s := by
        unfold stE
        rw [if_neg (by rw [ht]; decide)]
      have ge : (s.one.seg d.s).e = 0 := he
      have hq : Eqv (s.one.seg d.s) (wseg (dR (readL R M (a + 16 * (i : Int)) 16)).a (dR (readL R M (a + 16 * (i : Int)) 16)).l (dR (readL R M (a + 16 * (i : Int)) 16)).n x) := ⟨by
        show s.S ++ [d.s] = x.S ++ _
        rw [hx.S, f4], hx.e⟩
      rw [hst, ge, if_neg (show ¬ (false = true) by decide)]
      by_cases hm : (i : Int) + 1 < n
      · have hm1 : d.m = true := by rw [f2]; exact decide_eq_true hm
        have hgo : goA i 1 n = ((i + 1 : Nat) : Int) := by
          unfold goA
          rw [if_pos hm]
          omega
        rw [hm1, if_pos (show (true && decide ((0 : Int) = 0)) = true by decide), f3, hgo]
        exact each_en R M a n hn hr r (i + 1) f _ _ _ (by omega) (by omega) (by omega) (fun j hj => by
          rcases List.mem_append.1 hj with hj | hj
          · have := h4 j hj
            omega
          · rw [List.mem_singleton] at hj
            omega) ge hq
      · have hm1 : d.m = false := by rw [f2]; exact decide_eq_false hm
        obtain rfl : r = 0 := by omega
        rw [hm1, if_neg (show ¬ (false && decide ((0 : Int) = 0)) = true by decide)]
        exact hq
    · have hst : stE d s.one = s.one.stop 4 := by
        unfold stE
        rw [if_pos ht]
      rw [hst, if_neg (show ¬ ((d.m && decide ((s.one.stop 4).e = 0)) = true) by simp [Cs.stop]), if_pos rfl]
      have h0 : Eqv s.one x := ⟨hx.S, hx.e⟩
      exact h0.stop he 4
/-- the numbers of a way around the ring -/
def posn (p0 n : Int) (j : Nat) : Int := (p0 + j) % n
theorem posn_next {p0 n : Int} (hn : 1 ≤ n) (j : Nat) : goA (posn p0 n j) 1 n = posn p0 n (j + 1) := by
  have h0 := Int.emod_nonneg (p0 + (j : Int)) (show n ≠ 0 by omega)
  have h1 := Int.emod_lt_of_pos (p0 + (j : Int)) (show 0 < n by omega)
  have e : posn p0 n (j + 1) = (posn p0 n j + 1) % n := by
    unfold posn
    rw [show p0 + ((j + 1 : Nat) : Int) = (p0 + j) + 1 from by omega, Int.emod_add_emod]
  rw [e]
  unfold goA posn at *
  by_cases h : (p0 + (j : Int)) % n + 1 < n
  · rw [if_pos h, Int.emod_eq_of_lt (by omega) h]
  · rw [if_neg h]
    have : (p0 + (j : Int)) % n + 1 = n := by omega
    rw [this]
    simp
theorem posn_rng {p0 n : Int} (hn : 1 ≤ n) (j : Nat) : 0 ≤ posn p0 n j ∧ posn p0 n j < n := ⟨Int.emod_nonneg _ (by omega), Int.emod_lt_of_pos _ (by omega)⟩
theorem posn_seen {p0 n : Int} (hn : 1 ≤ n) (c : Nat) (hc : (c : Int) ≤ n) : inB ((List.range c).map (posn p0 n)) (posn p0 n c) = decide ((c : Int) = n) := by
  unfold inB
  by_cases h : (c : Int) = n
  · rw [decide_eq_true h, decide_eq_true_eq, List.mem_map]
    refine ⟨0, List.mem_range.2 (by omega), ?_⟩
    unfold posn
    rw [h]
    simp
  · rw [decide_eq_false h, decide_eq_false_iff_not, List.mem_map]
    rintro ⟨j, hj, e⟩
    have hj := List.mem_range.1 hj
    unfold posn at e
    have hd : n ∣ ((p0 + (c : Int)) - (p0 + (j : Int))) := Int.dvd_of_emod_eq_zero (Int.emod_eq_emod_iff_emod_sub_eq_zero.1 e.symm)
    have := Int.le_of_dvd (by omega) hd
    omega
theorem each_pk (R : List (Int × Int)) (M : List Int) (a n p0 : Int) (table : Bool) (hok : okR (-1) 1048576 R = true) (hn1 : 1 ≤ n) (hn2 : n ≤ 32768) :
    ∀ (f : Nat) (s : Cs) (p : Pst), (s.c : Int) ≤ n → s.e = 0 → EqP s p → EqP (eachF R M a n (dPk n) (st3 R M table true) f ((List.range s.c).map (posn p0 n)) (posn p0 n s.c) s) (wpk R M a n table f (posn p0 n s.c) p)
  | 0, s, p, hc, he, hp => hp
  | f + 1, s, p, hc, he, hp => by
    have hr := posn_rng (p0 := p0) hn1 s.c
    have ho : okI n (posn p0 n s.c) = true := okI_iff.2 hr
    rw [eachF_succ, wpk_succ, posn_seen hn1 _ hc, ← hp.c]
    by_cases hcn : (s.c : Int) = n
    · rw [decide_eq_true hcn, if_pos rfl, if_pos hcn]
      exact ⟨hp.x.stop he 4, hp.i, rfl⟩
    · rw [decide_eq_false hcn, if_neg (show ¬ (false = true) by decide), if_neg hcn]
      rcases gt_dsc (R := R) (M := M) (a := a) ho with ⟨g1, g2⟩ | ⟨g1, g2⟩
      · rw [if_pos g1, g2, gtD_yes g1]
        simp only
        obtain ⟨d, hd⟩ : ∃ d, dPk n (readL R M (a + 16 * posn p0 n s.c) 16) (posn p0 n s.c) = d := ⟨_, rfl⟩
        obtain ⟨q, hq⟩ : ∃ q, dR (readL R M (a + 16 * posn p0 n s.c) 16) = q := ⟨_, rfl⟩
        have f1 : d.t = flB q.n 4 := by rw [← hd, ← hq]; rfl
        have f2 : d.m = flB q.n 1 := by rw [← hd, ← hq]; rfl
        have f3 : d.nx = posn p0 n (s.c + 1) := by rw [← posn_next hn1, ← hd]; rfl
        have f4 : d.s = ⟨q.a, q.l, flB q.n 2⟩ := by rw [← hd, ← hq]; rfl
        have f5 : d.id = q.f := by rw [← hd, ← hq]; rfl
        rw [hd, hq, ← f1, ← f2]
        have he1 : s.one.e = 0 := he
        cases ht : d.t
        · have hst : st3 R M table true d s.one = (s.one.ring d.id).seg d.s := by
            unfold st3
            rw [if_pos ht]
          have ge : ((s.one.ring d.id).seg d.s).e = 0 := he
          have hq2 : EqP ((s.one.ring d.id).seg d.s) ⟨wseg q.a q.l q.n p.x, q.f, s.c + 1⟩ := ⟨⟨by
            show s.S ++ [d.s] = p.x.S ++ _
            rw [hp.x.S, f4], hp.x.e⟩, f5, rfl⟩
          rw [hst, ge, if_neg (show ¬ (false = true) by decide)]
          cases hm : d.m
          · rw [if_neg (show ¬ (false && decide ((0 : Int) = 0)) = true by decide), if_neg (show ¬ (false = true) by decide)]
            exact hq2
          · rw [if_pos (show (true && decide ((0 : Int) = 0)) = true by decide), if_pos rfl, f3, posn_next hn1]
            have ih := each_pk R M a n p0 table hok hn1 hn2 f ((s.one.ring d.id).seg d.s) ⟨wseg q.a q.l q.n p.x, q.f, s.c + 1⟩ (by show ((s.c + 1 : Nat) : Int) ≤ n; omega) ge hq2
            have e1 : ((s.one.ring d.id).seg d.s).c = s.c + 1 := rfl
            rw [e1, List.range_succ, List.map_append] at ih
            exact ih
        · have hx1 : Eqv s.one p.x := ⟨hp.x.S, hp.x.e⟩
          have hx2 : Eqv (s.one.ring d.id) p.x := ⟨hp.x.S, hp.x.e⟩
          have hst : (st3 R M table true d s.one).id = q.f ∧ (st3 R M table true d s.one).c = s.c + 1 ∧ Eqv (st3 R M table true d s.one) (if (!table || (decide (1 < s.c + 1) || d.m)) = true then wstop 4 p.x else wptb R M q.a q.l p.x) ∧ (d.m = true → (st3 R M table true d s.one).e ≠ 0) := by
            have hcc : ((!table || d.m) || (true && decide (1 < s.one.c + 1))) = (!table || (decide (1 < s.c + 1) || d.m)) := by
              show ((!table || d.m) || (true && decide (1 < s.c + 1))) = _
              cases table <;> cases d.m <;> simp
            unfold st3
            rw [if_neg (by rw [ht]; decide), hcc]
            by_cases hb : (!table || (decide (1 < s.c + 1) || d.m)) = true
            · rw [if_pos hb, if_pos hb]
              exact ⟨f5, rfl, hx2.stop he 4, fun _ e => by cases e⟩
            · rw [if_neg hb, if_neg hb]
              have hdm : d.m = false := by
                cases hm : d.m
                · rfl
                · rw [hm] at hb
                  simp at hb
              unfold wptb
              have g1 : d.s.a = q.a := by rw [f4]
              have g2 : d.s.n = q.l := by rw [f4]
              rw [g1, g2]
              by_cases hz : wenE R q.a q.l = 0
              · rw [if_pos hz, if_pos hz, if_pos rfl]
                have hc1 := each_ic R M q.a (q.l / 16) (dEn (q.l / 16)) ((q.l / 16).toNat + 1) [] 0 (s.one.ring d.id)
                refine ⟨hc1.1.trans f5, hc1.2, ?_, fun e => by rw [hdm] at e; cases e⟩
                have hw : 1 ≤ q.l / 16 ∧ q.l / 16 ≤ 64 := by
                  rcases wenE_cases R q.a q.l with ⟨_, h1, h2, h3, h4⟩ | ⟨e, _⟩ | ⟨e, _⟩
                  · have h5 : 1 ≤ q.l := by
                      cases e : loc R q.a q.l with
                      | none => rw [e] at h4; cases h4
                      | some k =>
                        obtain ⟨i, hi, y1, y2, y3, y4⟩ := loc_some e
                        exact y3
                    omega
                  · rw [e] at hz
                    cases hz
                  · rw [e] at hz
                    cases hz
                obtain ⟨m, hm⟩ := Int.eq_ofNat_of_zero_le (show 0 ≤ q.l / 16 by omega)
                have hsub := fun (i : Nat) (hi : i < m) => read_sub hok hz i (by omega)
                rw [hm, Int.toNat_natCast]
                exact each_en R M q.a m (by omega) hsub m 0 (m + 1) [] (s.one.ring d.id) p.x (by omega) (by omega) (by omega) (fun j hj => by cases hj) he hx2
              · rw [if_neg hz, if_neg hz]
                exact ⟨f5, rfl, hx2.stop he _, fun e => by rw [hdm] at e; cases e⟩
          rw [if_pos rfl]
          have hno : ¬ (d.m && decide ((st3 R M table true d s.one).e = 0)) = true := fun h => by
            rw [Bool.and_eq_true, decide_eq_true_eq] at h
            exact hst.2.2.2 h.1 h.2
          rw [if_neg hno]
          exact ⟨hst.2.2.1, hst.1, hst.2.1⟩
      · rw [g1, if_neg (show ¬ (5 : Int) = 0 by decide), g2]
        exact ⟨hp.x.stop he 5, hp.i, rfl⟩
theorem foll_packed (R : List (Int × Int)) (M : List Int) (n d p : Int) (tables : Bool) (hok : okR (-1) 1048576 R = true) (hn1 : 1 ≤ n) (hn2 : n ≤ 32768) (hp0 : 0 ≤ p) (hp1 : p < n) : EqP (follF R M true n d p tables) (wpkS R M d n p tables) := by
  unfold follF wpkS
  rw [if_pos rfl]
  have h := each_pk R M d n p tables hok hn1 hn2 (n.toNat + 1) ⟨[], 0, 0, 0, 0⟩ ⟨⟨[], 0, 0⟩, 0, 0⟩ (by show ((0 : Nat) : Int) ≤ n; omega) rfl ⟨⟨rfl, rfl⟩, rfl, rfl⟩
  have e : posn p n 0 = p := by
    unfold posn
    rw [show p + ((0 : Nat) : Int) = p from by omega, Int.emod_eq_of_lt hp0 hp1]
  rw [show (⟨[], 0, 0, 0, 0⟩ : Cs).c = 0 from rfl, e] at h
  exact h
end Go.Proofs.YtfhhgcgbgmilcaaGreat

/- walk's state in memory: a chain, an error; what stays. Conditions: as each theorem names them. -/
namespace Go.Proofs.YtfhhgcgbgmilcaaGreat
open Go.ChangeShapes Go.WideShapes Go.ChangeAt Go.RowKit
set_option linter.unusedVariables false
set_option maxRecDepth 100000

/-- an object that a walk may write -/
def Wr (o : Obj) : Prop := ∃ cs t z, o = .cells cs t z ∧ (t = 28 ∨ t = 98 ∨ t = 38)
theorem not_wr {cs : Array Value} {t : TypeId} {z : Nat × Nat} (h1 : t ≠ 28) (h2 : t ≠ 98) (h3 : t ≠ 38) : ¬ Wr (.cells cs t z) := by
  rintro ⟨cs', t', z', e, h⟩
  injection e with _ e _
  subst e
  rcases h with h | h | h
  · exact h1 h
  · exact h2 h
  · exact h3 h
theorem not_wr_map {es : Array MapEntry} {c : Nat} : ¬ Wr (.map es c) := by
  rintro ⟨cs', t', z', e, h⟩
  cases e
/-- all blocks but those of segments, chains and errors stay -/
structure Kc (w w' : World) : Prop where
  size : w.heap.size ≤ w'.heap.size
  blk : ∀ (b : Nat) (o : Obj), w.heap[b]? = some o → ¬ Wr o → w'.heap[b]? = some o
theorem Kc.refl (w : World) : Kc w w := ⟨Nat.le_refl _, fun _ _ h _ => h⟩
theorem Kc.trans {a b c : World} (h : Kc a b) (g : Kc b c) : Kc a c := ⟨Nat.le_trans h.size g.size, fun x o hx h1 => g.blk x o (h.blk x o hx h1) h1⟩
theorem Kc.below {w w' : World} (h : Below w.heap.size w w') : Kc w w' := ⟨h.size, fun b o hb _ => (h.block b (lt_blk hb)).trans hb⟩
theorem Kc.at {w w' : World} {b : Nat} {C : List Value} {t : TypeId} (hk : Kc w w') (h : BlkAt w b C t) (h1 : t ≠ 28) (h2 : t ≠ 98) (h3 : t ≠ 38) : BlkAt w' b C t := hk.blk _ _ h (not_wr h1 h2 h3)
theorem Kc.chg {w w1 w' : World} (h : Kc w w1) {S : Nat → Prop} (hc : Chg S w1 w') (hS : ∀ b, b < w.heap.size → ¬ S b) : Kc w w' :=
  ⟨Nat.le_trans h.size hc.size, fun b o hb hw => (hc.block b (Nat.lt_of_lt_of_le (lt_blk hb) h.size) (hS b (lt_blk hb))).trans (h.blk b o hb hw)⟩

/-- the chain and the error in memory -/
structure StC (B : Nat) (w : World) (cb eb : Nat) (s : Cs) : Prop where
  cB : B ≤ cb
  eB : B ≤ eb
  row : ∃ v, BlkAt w cb [v, .int .i64 (s.n : Int), .int .i64 (s.c : Int), .int .i64 s.id] 98 ∧ OwnS B w v s.S
  er : BlkAt w eb [.int .i64 s.e] 38
  sg : isSgs s.S
theorem StC.below {B : Nat} {w w' : World} {cb eb : Nat} {s : Cs} (h : StC B w cb eb s) (hb : Below w.heap.size w w') : StC B w' cb eb s := by
  obtain ⟨h1, h2, ⟨v, h3, h4⟩, h5, h6⟩ := h
  exact ⟨h1, h2, ⟨v, h3.below hb, ownsRow_below h4 hb⟩, h5.below hb, h6⟩
structure Lc (w0 w : World) (cb eb : Nat) (s : Cs) (w' : World) : Prop where
  st : StC w0.heap.size w' cb eb s
  old : Below w0.heap.size w0 w'
  kc : Kc w w'
theorem Lc.refl {w0 w : World} {cb eb : Nat} {s : Cs} (h : StC w0.heap.size w cb eb s) (ho : Below w0.heap.size w0 w) : Lc w0 w cb eb s w := ⟨h, ho, Kc.refl _⟩
theorem Lc.below {w0 w w1 w' : World} {cb eb : Nat} {s : Cs} (h : Lc w0 w cb eb s w1) (hb : Below w1.heap.size w1 w') : Lc w0 w cb eb s w' := ⟨h.st.below hb, below_then h.old hb, h.kc.trans (Kc.below hb)⟩
theorem Lc.pre {w0 w w1 w' : World} {cb eb : Nat} {s : Cs} (h : Lc w0 w1 cb eb s w') (hk : Kc w w1) : Lc w0 w cb eb s w' := ⟨h.st, h.old, hk.trans h.kc⟩
theorem blk_ne {w : World} {a b : Nat} {C D : List Value} {t u : TypeId} (h : BlkAt w a C t) (g : BlkAt w b D u) (hne : t ≠ u) : a ≠ b := by
  intro e
  subst e
  have h : w.heap[a]? = _ := h
  rw [show w.heap[a]? = _ from g] at h
  injection h with h
  injection h with _ h
  exact hne h.symm
theorem Kc.set {w : World} {db i : Nat} {C : List Value} {t : TypeId} (hb : BlkAt w db C t) (ht : t = 98 ∨ t = 38) (x : Value) : Kc w (w.setCell ⟨db, i, none⟩ x) := by
  refine ⟨by simp, fun b o h1 h2 => (Below.heap_setCell w ⟨db, i, none⟩ x b (fun e => ?_)).trans h1⟩
  have e : b = db := e
  subst e
  have h4 : w.heap[b]? = some (.cells C.toArray t (0, 0)) := hb
  rw [h1] at h4
  injection h4 with h4
  exact h2 ⟨_, _, _, h4, Or.inr ht⟩
theorem Lc.wrE {w0 w w1 : World} {cb eb : Nat} {s : Cs} (h : Lc w0 w cb eb s w1) (E : Int) : Lc w0 w cb eb (s.stop E) (w1.setCell ⟨eb, 0, none⟩ (.int .i64 E)) := by
  obtain ⟨⟨h1, h2, ⟨v, h3, h4⟩, h5, h6⟩, ho, hk⟩ := h
  exact ⟨⟨h1, h2, ⟨v, h3.other (blk_ne h3 h5 (by decide)) _, ownsRow_set h4 (by decide) h5 _⟩, h5.set 0 _, h6⟩, ho.setCell h2 _, hk.trans (Kc.set h5 (Or.inr rfl) _)⟩
theorem Lc.wrN {w0 w w1 : World} {cb eb : Nat} {s : Cs} (h : Lc w0 w cb eb s w1) (k : Nat) : Lc w0 w cb eb ⟨s.S, k, s.c, s.id, s.e⟩ (w1.setCell ⟨cb, 1, none⟩ (.int .i64 (k : Int))) := by
  obtain ⟨⟨h1, h2, ⟨v, h3, h4⟩, h5, h6⟩, ho, hk⟩ := h
  exact ⟨⟨h1, h2, ⟨v, h3.set 1 _, ownsRow_set h4 (by decide) h3 _⟩, h5.other (blk_ne h5 h3 (by decide)) _, h6⟩, ho.setCell h1 _, hk.trans (Kc.set h3 (Or.inl rfl) _)⟩
theorem Lc.wrC {w0 w w1 : World} {cb eb : Nat} {s : Cs} (h : Lc w0 w cb eb s w1) (k : Nat) : Lc w0 w cb eb ⟨s.S, s.n, k, s.id, s.e⟩ (w1.setCell ⟨cb, 2, none⟩ (.int .i64 (k : Int))) := by
  obtain ⟨⟨h1, h2, ⟨v, h3, h4⟩, h5, h6⟩, ho, hk⟩ := h
  exact ⟨⟨h1, h2, ⟨v, h3.set 2 _, ownsRow_set h4 (by decide) h3 _⟩, h5.other (blk_ne h5 h3 (by decide)) _, h6⟩, ho.setCell h1 _, hk.trans (Kc.set h3 (Or.inl rfl) _)⟩
theorem Lc.wrI {w0 w w1 : World} {cb eb : Nat} {s : Cs} (h : Lc w0 w cb eb s w1) (i : Int) : Lc w0 w cb eb ⟨s.S, s.n, s.c, i, s.e⟩ (w1.setCell ⟨cb, 3, none⟩ (.int .i64 i)) := by
  obtain ⟨⟨h1, h2, ⟨v, h3, h4⟩, h5, h6⟩, ho, hk⟩ := h
  exact ⟨⟨h1, h2, ⟨v, h3.set 3 _, ownsRow_set h4 (by decide) h3 _⟩, h5.other (blk_ne h5 h3 (by decide)) _, h6⟩, ho.setCell h1 _, hk.trans (Kc.set h3 (Or.inl rfl) _)⟩
/-- the cells -/
theorem StC.cels {B : Nat} {w : World} {cb eb : Nat} {s : Cs} (h : StC B w cb eb s) : (cb < w.heap.size ∧ eb < w.heap.size) ∧ w.cell? ⟨cb, 1, none⟩ = some (.int .i64 (s.n : Int)) ∧ w.cell? ⟨cb, 2, none⟩ = some (.int .i64 (s.c : Int)) ∧ w.cell? ⟨cb, 3, none⟩ = some (.int .i64 s.id) ∧ w.cell? ⟨eb, 0, none⟩ = some (.int .i64 s.e) ∧ w.frozen? ⟨cb, 1, none⟩ = false ∧ w.frozen? ⟨cb, 2, none⟩ = false ∧ w.frozen? ⟨cb, 3, none⟩ = false ∧ w.frozen? ⟨eb, 0, none⟩ = false := by
  obtain ⟨h1, h2, ⟨v, h3, h4⟩, h5, h6⟩ := h
  exact ⟨⟨h3.lt, h5.lt⟩, h3.cell 1, h3.cell 2, h3.cell 3, h5.cell 0, h3.free 1, h3.free 2, h3.free 3, h5.free 0⟩
/-- one segment more -/
theorem Lc.more {w0 w w1 : World} {cb eb : Nat} {s : Cs} (h : Lc w0 w cb eb s w1) (g : Sg) (hg : isSg g) (hl : s.S.length ≤ 100000) :
    ∃ va vc na nc w2, cb < w1.heap.size ∧ w1.cell? ⟨cb, 0, none⟩ = some (.slice va s.S.length vc) ∧ (∀ ty, (Builtin.append_ #[22, 22] ty #[.slice va s.S.length vc, .slice (some ⟨w1.heap.size, 0, none⟩) 1 1]).run Tryz.prog (w1.alloc (.cells (segCells [g]).toArray 28)) = .ok (.slice na (s.S.length + 1) nc) w2) ∧ cb < w2.heap.size ∧ w2.cell? ⟨cb, 0, none⟩ = some (.slice va s.S.length vc) ∧ w2.frozen? ⟨cb, 0, none⟩ = false ∧ Lc w0 w cb eb (s.seg g) (w2.setCell ⟨cb, 0, none⟩ (.slice na (s.S.length + 1) nc)) := by
  obtain ⟨⟨h1, h2, ⟨v, h3, h4⟩, h5, h6⟩, ho, hk⟩ := h
  have hb := below_box w1 (.cells (segCells [g]).toArray 28)
  obtain ⟨v', w', g1, g2, g3⟩ := app_sg g (ownsRow_below h4 hb) (blk_new w1 _ 28) (Nat.le_trans ho.size hb.size) hl
  have hty := fun g (hg : v.ownBlock = some g) => own_ty (ownsRow_below h4 hb) hg
  have hkeep : ∀ (b : Nat) (C : List Value) (t : TypeId), BlkAt w1 b C t → t ≠ 28 → BlkAt w' b C t := fun b C t hx hne => (grown_other g3 (by have := hx.lt; simp; omega) (fun g hg e => by
    subst e
    obtain ⟨cur, hc, _⟩ := hty g hg
    have h3 := hx.below hb
    have h3 : (w1.alloc (.cells (segCells [_]).toArray 28)).heap[g]? = _ := h3
    rw [hc] at h3
    injection h3 with h3
    injection h3 with _ h4
    exact hne h4.symm)).trans (hx.below hb)
  have hX := hkeep _ _ _ h3 (by decide)
  have hE := hkeep _ _ _ h5 (by decide)
  have hO : Below w0.heap.size w0 w' := (ho.trans (hb.mono ho.size)).grown g3 (Nat.le_trans ho.size hb.size) (fun g hg => by
    obtain ⟨cur, _, h4⟩ := hty g hg
    exact h4)
  have hK : Kc w1 w' := (Kc.below hb).trans ⟨g3.size, fun b o hbb hw => (grown_other g3 (lt_blk hbb) (fun g hg e => by
    subst e
    obtain ⟨cur, hc, _⟩ := hty g hg
    rw [hc] at hbb
    injection hbb with h3
    exact hw ⟨_, _, _, h3.symm, Or.inl rfl⟩)).trans hbb⟩
  obtain ⟨va, vc, rfl⟩ := h4.at.len
  obtain ⟨na, nc, hnv⟩ := g2.at.len
  rw [show (s.S ++ [g]).length = s.S.length + 1 from by simp] at hnv
  subst hnv
  refine ⟨va, vc, na, nc, w', h3.lt, h3.cell 0, fun ty => g1 ty, hX.lt, hX.cell 0, hX.free 0, ⟨⟨h1, h2, ⟨_, hX.set 0 _, ownsRow_set g2 (by decide) hX _⟩, hE.other (blk_ne hE hX (by decide)) _, ?_⟩, hO.setCell h1 _, (hk.trans hK).trans (Kc.set hX (Or.inl rfl) _)⟩⟩
  intro x hx
  rcases List.mem_append.1 hx with hx | hx
  · exact h6 x hx
  · rw [List.mem_singleton] at hx
    subst hx
    exact hg
end Go.Proofs.YtfhhgcgbgmilcaaGreat

/- walk's closures: an entry of a table. Conditions: as each theorem names them. -/
namespace Go.Proofs.YtfhhgcgbgmilcaaGreat
open Go.ChangeShapes Go.WideShapes Go.ChangeAt Go.RowKit
set_option linter.unusedVariables false
set_option maxRecDepth 100000

set_option maxHeartbeats 1000000 in
theorem ventry (w0 : World) (cb eb : Nat) (d : Lk) (s : Cs) (w : World) (h : StC w0.heap.size w cb eb s) (ho : Below w0.heap.size w0 w) (hd : isLk d) (hl : s.S.length ≤ 100000) :
    Calls Tryz.prog 69 #[lkV d, .pointer (some ⟨eb, 0, none⟩), .pointer (some ⟨cb, 0, none⟩)] w fun e w' => e = .returned (.tuple #[]) ∧ Lc w0 w cb eb (stE d s) w' := by
  have hbx := below_box w (.cells #[.int .u64 d.s.a, .int .u32 d.s.n, .bool d.s.t, .bool d.t, .int .i64 d.id, .int .i64 d.nx, .bool d.m] 157)
  have H1 := (Lc.refl h ho).below hbx
  have hds := hd.s
  obtain ⟨⟨hc0, he0⟩, _, _, _, ce, _, _, _, fe⟩ := h.cels
  unfold stE
  unfold lkV
  obtain ⟨⟨a, n, t⟩, tb, id, nx, m⟩ := d
  simp only at *
  cases tb
  · rw [if_neg (by decide)]
    obtain ⟨va, vc, na, nc, w2, j1, j2, j3, j4, j5, j6, j7⟩ := H1.more ⟨a, n, t⟩ hds hl
    have HR := hid_mk j3
    have HJ := hid_mk j7
    clear h ho hd hds H1 j3 j7 hbx
    rw [sizeA] at HR
    have k2 : w.cell? ⟨cb, 0, none⟩ = some (.slice va s.S.length vc) := by
      rw [← j2]
      exact ((below_box w _).cell (p := ⟨cb, 0, none⟩) hc0).symm
    clear j2
    go_enter Tryz.func69, Tryz.ntmps69
    go_wp2_with (at_builtin; refine wpList_append_run (v := .slice va s.S.length vc) (u := .slice (some ⟨w.heap.size + 1, 0, none⟩) 1 1) (v' := .slice na (s.S.length + 1) nc) (w' := w2) rfl _ _ 22 rfl (by first | rfl | go_simp) (by first | rfl | go_simp) (HR.out _) ?_)
    go_end0
    exact ⟨rfl, HJ.out⟩
  · rw [if_pos rfl]
    have HE := hid_mk (((Lc.refl h ho).wrE 4).below (below_box _ (.cells #[.int .u64 a, .int .u32 n, .bool t, .bool true, .int .i64 id, .int .i64 nx, .bool m] 157)))
    clear h ho hd hds H1 hbx
    go_enter Tryz.func69, Tryz.ntmps69
    go_wp2_with fail
    exact bodyPost_ret (results_none rfl _ _ _) rfl ⟨rfl, HE.out⟩
end Go.Proofs.YtfhhgcgbgmilcaaGreat
