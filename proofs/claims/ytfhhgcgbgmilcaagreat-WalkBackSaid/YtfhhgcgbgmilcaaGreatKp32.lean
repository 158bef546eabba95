/- Wk11 Wk12 Ww11: joined texts. Conditions: as each theorem names them. -/
import Derived.Test.YtfhhgcgbgmilcaaGreatKp31
import Derived.Test.YtfhhgcgbgmilcaaGreatKp12
import Derived.Test.YtfhhgcgbgmilcaaGreatKp29
import Derived.Deep.CutBlock
/- The reference of layer 10: where Packed's loop stands. Conditions: as each theorem names them. -/
namespace Go.Proofs.YtfhhgcgbgmilcaaGreat
open Go.ChangeShapes Go.WideShapes Go.ChangeAt Go.RowKit
set_option linter.unusedVariables false
set_option maxRecDepth 100000

theorem ne_of_ty {w : World} {a b : Nat} {C D : List Value} {t u : TypeId} (h : BlkAt w a C t) (g : BlkAt w b D u) (hne : t ≠ u) : a ≠ b := fun e => by
  subst e
  have h : w.heap[a]? = _ := h
  rw [show w.heap[a]? = _ from g] at h
  injection h with h
  injection h with _ h
  exact hne h.symm
section
variable {w0 : World} {rp : Nat} {R : List (Int × Int)} {M : List Int} {xb gb pb tb sb : Nat} {G : List Value} {p : Int} {b : Bool} {id : Int} {c : Nat} {x : Wst} {u u' : World}
end
theorem wpk_succ (R : List (Int × Int)) (M : List Int) (d n : Int) (table : Bool) (f : Nat) (p : Int) (s : Pst) : wpk R M d n table (f + 1) p s = if (s.c : Int) = n then ⟨wstop 4 s.x, s.id, s.c⟩ else match dscAt R M (d + 16 * p) with
      | none => ⟨wstop 5 s.x, s.id, s.c⟩
      | some q => if flB q.n 4 = true then ⟨if (!table || (decide (1 < s.c + 1) || flB q.n 1)) = true then wstop 4 s.x else wptb R M q.a q.l s.x, q.f, s.c + 1⟩ else if flB q.n 1 = true then wpk R M d n table f (goA p 1 n) ⟨wseg q.a q.l q.n s.x, q.f, s.c + 1⟩ else ⟨wseg q.a q.l q.n s.x, q.f, s.c + 1⟩ := by
  conv => lhs; unfold wpk
  rfl
theorem wpe_grw {R : List (Int × Int)} {M : List Int} (hok : okR (-1) 1048576 R = true) (hM : M.length = sumR R) (hB : isBytes M) (a : Int) : ∀ (r i : Nat) (x : Wst), (∀ j : Nat, i ≤ j → j < i + r → readE R (a + 16 * (j : Int)) 16 = 0) → (isSgs x.S → isSgs (wpe R M a r i x).S) ∧ x.S.length ≤ (wpe R M a r i x).S.length ∧ (wpe R M a r i x).S.length ≤ x.S.length + r
  | 0, _, x, _ => ⟨fun h => h, Nat.le_refl _, Nat.le_refl _⟩
  | r + 1, i, x, h => by
    rw [wpe_succ]
    split
    · obtain ⟨h1, _⟩ := wstop_S 4 x
      rw [h1]
      exact ⟨fun h => h, Nat.le_refl _, by omega⟩
    · have hd := dR_is (readL_bytes hB) (readL_16 hok hM (h i (Nat.le_refl _) (by omega)))
      obtain ⟨g1, g2, g3⟩ := wpe_grw hok hM hB a r (i + 1) (wseg (dR (readL R M (a + 16 * (i : Int)) 16)).a (dR (readL R M (a + 16 * (i : Int)) 16)).l (dR (readL R M (a + 16 * (i : Int)) 16)).n x) (fun j h1 h2 => h j (by omega) (by omega))
      have hl := (wseg_len (dR (readL R M (a + 16 * (i : Int)) 16)).a (dR (readL R M (a + 16 * (i : Int)) 16)).l (dR (readL R M (a + 16 * (i : Int)) 16)).n x).1
      refine ⟨fun h => g1 (fun s hs => ?_), by omega, by omega⟩
      rcases List.mem_append.1 hs with hs | hs
      · exact h s hs
      · rw [List.mem_singleton] at hs
        subst hs
        exact ⟨hd.a, hd.l⟩
theorem wptb_grw {R : List (Int × Int)} {M : List Int} (hok : okR (-1) 1048576 R = true) (hM : M.length = sumR R) (hB : isBytes M) (a l : Int) (x : Wst) : (isSgs x.S → isSgs (wptb R M a l x).S) ∧ x.S.length ≤ (wptb R M a l x).S.length ∧ (wptb R M a l x).S.length ≤ x.S.length + 64 := by
  unfold wptb
  by_cases h : wenE R a l = 0
  · rw [if_pos h]
    have hl : l / 16 ≤ 64 := by
      rcases wenE_cases R a l with ⟨_, _, _, h3, _⟩ | ⟨e, _⟩ | ⟨e, _⟩
      · exact h3
      · rw [e] at h
        cases h
      · rw [e] at h
        cases h
    obtain ⟨g1, g2, g3⟩ := wpe_grw hok hM hB a (l / 16).toNat 0 x (fun j _ h2 => read_sub hok h j (by omega))
    exact ⟨g1, g2, by omega⟩
  · rw [if_neg h]
    obtain ⟨h1, _⟩ := wstop_S (wenE R a l) x
    rw [h1]
    exact ⟨fun h => h, Nat.le_refl _, by omega⟩
theorem wpk_grw {R : List (Int × Int)} {M : List Int} (hok : okR (-1) 1048576 R = true) (hM : M.length = sumR R) (hB : isBytes M) (d n : Int) (table : Bool) : ∀ (f : Nat) (p : Int) (s : Pst), (isSgs s.x.S → isSgs (wpk R M d n table f p s).x.S) ∧ (wpk R M d n table f p s).x.S.length ≤ s.x.S.length + f + 64
  | 0, _, s => ⟨fun h => h, by show s.x.S.length ≤ _; omega⟩
  | f + 1, p, s => by
    rw [wpk_succ]
    split
    · obtain ⟨h1, _⟩ := wstop_S 4 s.x
      simp only [h1]
      exact ⟨fun h => h, by omega⟩
    cases hd : dscAt R M (d + 16 * p) with
    | none =>
      obtain ⟨h1, _⟩ := wstop_S 5 s.x
      simp only [h1]
      exact ⟨fun h => h, by omega⟩
    | some q =>
      have hi := dsc_is hok hM hB hd
      have hsg : isSgs s.x.S → isSgs (wseg q.a q.l q.n s.x).S := fun h t ht => by
        rcases List.mem_append.1 ht with ht | ht
        · exact h t ht
        · rw [List.mem_singleton] at ht
          subst ht
          exact ⟨hi.a, hi.l⟩
      have hln := (wseg_len q.a q.l q.n s.x).1
      simp only
      split
      · split
        · obtain ⟨h1, _⟩ := wstop_S 4 s.x
          simp only [h1]
          exact ⟨fun h => h, by omega⟩
        · obtain ⟨g1, g2, g3⟩ := wptb_grw hok hM hB q.a q.l s.x
          exact ⟨g1, by simp only; omega⟩
      · split
        · obtain ⟨g1, g2⟩ := wpk_grw hok hM hB d n table f (goA p 1 n) ⟨wseg q.a q.l q.n s.x, q.f, s.c + 1⟩
          exact ⟨fun h => g1 (hsg h), by simp only at g2; omega⟩
        · exact ⟨hsg, by simp only; omega⟩
/-- Packed's answers -/
def wpE (R : List (Int × Int)) (M : List Int) (pk : Bool) (n d g c p : Int) (table : Bool) : Int := if wrfE pk true n d g c = 0 then (if okP p n = true then wndE R (wpkX n (wpkS R M d n p table)) else 2) else wrfE pk true n d g c
def wpL (R : List (Int × Int)) (M : List Int) (pk : Bool) (n d g c p : Int) (table : Bool) : List Sg := if wpE R M pk n d g c p table = 0 then (wpkX n (wpkS R M d n p table)).S else []
def wpI (R : List (Int × Int)) (M : List Int) (pk : Bool) (n d g c p : Int) (table : Bool) : Int := if wpE R M pk n d g c p table = 0 then (wpkS R M d n p table).id else 0
def wpC (R : List (Int × Int)) (M : List Int) (pk : Bool) (n d g c p : Int) (table : Bool) : Nat := if wpE R M pk n d g c p table = 0 then (wpkS R M d n p table).c else 0
end Go.Proofs.YtfhhgcgbgmilcaaGreat

/- The reference of layer 10: Packed. Conditions: as each theorem names them. -/
namespace Go.Proofs.YtfhhgcgbgmilcaaGreat
open Go.ChangeShapes Go.WideShapes Go.ChangeAt Go.RowKit
set_option linter.unusedVariables false
set_option maxRecDepth 100000

theorem okP_of {p n : Int} (h1 : 1 ≤ n) (h2 : n ≤ 32768) (h3 : 0 ≤ p) (h4 : p < n) : okP p n = true := by
  unfold okP
  exact decide_eq_true ⟨h1, h2, h3, h4⟩
theorem goA1 {p n : Int} (h3 : 0 ≤ p) (h4 : p < n) : 0 ≤ goA p 1 n ∧ goA p 1 n < n := by
  unfold goA
  split <;> omega
end Go.Proofs.YtfhhgcgbgmilcaaGreat

/- What package walk follows is the chain of the document. No program in sight. -/
namespace Go.Proofs.YtfhhgcgbgmilcaaGreat
open Go
set_option linter.unusedVariables false
set_option maxRecDepth 100000

def prS (s : Cs) : Wst := ⟨s.S, s.n, s.e⟩
theorem gt_dsc {R : List (Int × Int)} {M : List Int} {a n k : Int} (h : okI n k = true) : (gtE R a n k = 0 ∧ dscAt R M (a + 16 * k) = some (dR (readL R M (a + 16 * k) 16))) ∨ (gtE R a n k = 5 ∧ dscAt R M (a + 16 * k) = none) := by
  rw [gtE_yes h]
  unfold dscAt
  rcases readE_is R (a + 16 * k) with e | e
  · left
    rw [e]
    exact ⟨rfl, if_pos rfl⟩
  · right
    rw [e]
    exact ⟨rfl, if_neg (by decide)⟩
/-- a split chain, or table -/
theorem each_split (R : List (Int × Int)) (M : List Int) (a n : Int) (inner table : Bool) (tab : Int → Int → Wst → Wst) (step : Lk → Cs → Cs)
    (h1 : ∀ d s, s.e = 0 → d.t = false → prS (step d s) = ⟨s.S ++ [d.s], s.n, 0⟩)
    (h2 : ∀ d s, s.e = 0 → d.t = true → prS (step d s) = if (inner || (!table || d.m)) = true then wstop 4 (prS s) else tab d.s.a d.s.n (prS s)) :
    ∀ (f : Nat) (seen : List Int) (k : Int) (s : Cs), s.e = 0 → prS (eachF R M a n dSp step f seen k s) = wch R M a n inner table tab f seen k (prS s)
  | 0, seen, k, s, he => rfl
  | f + 1, seen, k, s, he => by
    have ih := each_split R M a n inner table tab step h1 h2 f
    have hx : (prS s).e = 0 := he
    have hst : ∀ E, prS (s.stop E) = wstop E (prS s) := fun E => by
      unfold wstop
      rw [if_pos hx]
      rfl
    rw [eachF_succ, wch_succ]
    by_cases hs : inB seen k = true
    · rw [if_pos hs, if_pos hs, hst]
    · rw [if_neg hs, if_neg hs]
      cases ho : okI n k
      · rw [gtE_no ho, if_neg (show ¬ (4 : Int) = 0 by decide), hst, if_pos rfl]
      · rw [if_neg (show ¬ (true = false) by decide)]
        rcases gt_dsc (R := R) (M := M) (a := a) ho with ⟨g1, g2⟩ | ⟨g1, g2⟩
        · rw [g1, if_pos rfl, g2]
          have hd : gtD R M a n dSp k = dSp (readL R M (a + 16 * k) 16) k := gtD_yes g1
          rw [hd]
          simp only
          have hone : prS s.one = wone (prS s) := rfl
          have he1 : s.one.e = 0 := he
          obtain ⟨d, hdd⟩ : ∃ d, dSp (readL R M (a + 16 * k) 16) k = d := ⟨_, rfl⟩
          have f1 : d.t = flB (dR (readL R M (a + 16 * k) 16)).f 4 := by rw [← hdd]; rfl
          have f2 : d.m = flB (dR (readL R M (a + 16 * k) 16)).f 1 := by rw [← hdd]; rfl
          have f3 : d.nx = (dR (readL R M (a + 16 * k) 16)).n := by rw [← hdd]; rfl
          have f4 : d.s = ⟨(dR (readL R M (a + 16 * k) 16)).a, (dR (readL R M (a + 16 * k) 16)).l, flB (dR (readL R M (a + 16 * k) 16)).f 2⟩ := by rw [← hdd]; rfl
          rw [hdd, ← f1, ← f2, ← f3]
          cases ht : d.t
          · have g := h1 d s.one he1 ht
            have ge : (step d s.one).e = 0 := congrArg Wst.e g
            rw [decide_eq_true ge, Bool.and_true, if_neg (show ¬ (false = true) by decide)]
            have hw : prS (step d s.one) = wseg (dR (readL R M (a + 16 * k) 16)).a (dR (readL R M (a + 16 * k) 16)).l (dR (readL R M (a + 16 * k) 16)).f (wone (prS s)) := by
              rw [g, f4]
              show Wst.mk _ _ 0 = Wst.mk _ _ s.e
              rw [he]
              rfl
            rw [← hw]
            cases hm : d.m
            · rw [if_neg (by decide), if_neg (by decide)]
            · rw [if_pos rfl, if_pos rfl]
              exact ih _ _ _ ge
          · have g := h2 d s.one he1 ht
            rw [if_pos rfl]
            have f5 : (dR (readL R M (a + 16 * k) 16)).a = d.s.a := by rw [f4]
            have f6 : (dR (readL R M (a + 16 * k) 16)).l = d.s.n := by rw [f4]
            rw [f5, f6]
            cases hm : d.m
            · rw [hm, hone] at g
              rw [Bool.false_and, if_neg (show ¬ (false = true) by decide), g]
            · rw [hm, if_pos (by simp), hone] at g
              have ge : (step d s.one).e = 4 := by
                have : (prS (step d s.one)).e = (wstop 4 (wone (prS s))).e := by rw [g]
                show (prS (step d s.one)).e = 4
                rw [this]
                unfold wstop
                rw [if_pos (show (wone (prS s)).e = 0 from he)]
              rw [ge, if_neg (by simp), g, if_pos (by simp)]
        · rw [g1, if_neg (show ¬ (5 : Int) = 0 by decide), g2, hst]
theorem foll_split (R : List (Int × Int)) (M : List Int) (n d head : Int) (tables : Bool) : prS (follF R M false n d head tables) = wspl R M d n head tables := by
  unfold follF wspl
  rw [if_neg (by decide)]
  refine each_split R M d n false tables (wtab R M) (st3 R M tables false) (fun d s he ht => ?_) (fun d s he ht => ?_) _ _ _ _ rfl
  · unfold st3
    rw [if_pos ht]
    show Wst.mk _ _ s.e = _
    rw [he]
    rfl
  · unfold st3
    rw [if_neg (by rw [ht]; decide), Bool.false_and, Bool.or_false, Bool.false_or]
    have hx : (prS s).e = 0 := he
    by_cases hc : (!tables || d.m) = true
    · rw [if_pos hc, if_pos hc]
      unfold wstop
      rw [if_pos hx]
      rfl
    · rw [if_neg hc, if_neg hc]
      unfold wtab
      by_cases hz : wenE R d.s.a d.s.n = 0
      · rw [if_pos hz, if_pos hz, if_neg (by decide)]
        refine (each_split R M d.s.a (d.s.n / 16) true true (fun _ _ x => x) stE (fun d s he ht => ?_) (fun d s he ht => ?_) ((d.s.n / 16).toNat + 1) [] 0 (s.ring d.id) he).trans rfl
        · unfold stE
          rw [if_neg (by rw [ht]; decide)]
          show Wst.mk _ _ s.e = _
          rw [he]
          rfl
        · unfold stE
          rw [if_pos ht, Bool.true_or, if_pos rfl]
          unfold wstop
          rw [if_pos (show (prS s).e = 0 from he)]
          rfl
      · rw [if_neg hz, if_neg hz]
        unfold wstop
        rw [if_pos hx]
        rfl
/-- a chain that was read has a segment -/
def NeS (s : Cs) : Prop := s.e = 0 → s.S ≠ []
theorem gt_ne {R : List (Int × Int)} {a n k : Int} (s : Cs) (h : gtE R a n k ≠ 0) : NeS (s.stop (gtE R a n k)) := fun e => absurd e h
theorem each_ne (R : List (Int × Int)) (M : List Int) (a n : Int) (D : List Int → Int → Lk) (step : Lk → Cs → Cs) (h : ∀ d s, NeS (step d s)) : ∀ (f : Nat) (seen : List Int) (k : Int) (s : Cs), NeS s ∨ 0 < f → NeS (eachF R M a n D step f seen k s)
  | 0, seen, k, s, hs => by
    rcases hs with hs | hs
    · exact hs
    · omega
  | f + 1, seen, k, s, _ => by
    rw [eachF_succ]
    by_cases h1 : inB seen k = true
    · rw [if_pos h1]
      exact fun e => by cases e
    · rw [if_neg h1]
      by_cases h2 : gtE R a n k = 0
      · rw [if_pos h2]
        split
        · exact each_ne R M a n D step h f _ _ _ (Or.inl (h _ _))
        · exact h _ _
      · rw [if_neg h2]
        exact gt_ne s h2
theorem ne_stE (d : Lk) (s : Cs) : NeS (stE d s) := by
  unfold stE
  split
  · exact fun e => by cases e
  · exact fun _ => by simp [Cs.seg]
theorem ne_st3 (R : List (Int × Int)) (M : List Int) (tables pk : Bool) (d : Lk) (s : Cs) : NeS (st3 R M tables pk d s) := by
  unfold st3
  split
  · exact fun _ => by simp [Cs.seg]
  · split
    · exact fun e => by cases e
    · split
      · exact each_ne R M _ _ _ stE ne_stE _ _ _ _ (Or.inr (by omega))
      · rename_i h
        exact fun e => absurd e h
theorem foll_ne (R : List (Int × Int)) (M : List Int) (pk : Bool) (n d head : Int) (tables : Bool) : NeS (follF R M pk n d head tables) := each_ne R M _ _ _ _ (ne_st3 R M tables pk) _ _ _ _ (Or.inr (by omega))
end Go.Proofs.YtfhhgcgbgmilcaaGreat
