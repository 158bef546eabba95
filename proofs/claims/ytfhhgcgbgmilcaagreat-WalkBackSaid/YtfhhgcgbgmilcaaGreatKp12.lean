/- Ser9 Bd0 Sg1: joined texts. Conditions: as each theorem names them. -/
import Derived.Test.YtfhhgcgbgmilcaaGreatKp11
import Derived.Test.YtfhhgcgbgmilcaaGreatKp01
import Derived.Test.YtfhhgcgbgmilcaaGreatKp06
import Derived.Test.YtfhhgcgbgmilcaaGreatKp08
/- Contracts of serial's functions for every input, each in one piece, and of the reference's: the same plain answers. Conditions: words fit 16 bits. -/
namespace Go.Proofs.YtfhhgcgbgmilcaaGreat
open Go.ChangeShapes Go.WideShapes Go.ChangeAt Go.RowKit
set_option linter.unusedVariables false

def okP (p n : Int) : Bool := decide (1 ≤ n ∧ n ≤ 32768 ∧ 0 ≤ p ∧ p < n)
def okM (d n : Int) : Bool := decide (0 ≤ d ∧ d ≤ n)
theorem okP_t {p n : Int} (h : okP p n = true) : 1 ≤ n ∧ n ≤ 32768 ∧ 0 ≤ p ∧ p < n := by simpa [okP] using h
theorem okP_f {p n : Int} (h : okP p n = false) : n < 1 ∨ 32768 < n ∨ p < 0 ∨ n ≤ p := by
  simp [okP] at h
  omega
theorem okM_t {d n : Int} (h : okM d n = true) : 0 ≤ d ∧ d ≤ n := by simpa [okM] using h
theorem okM_f {d n : Int} (h : okM d n = false) : d < 0 ∨ n < d := by
  simp [okM] at h
  omega

def chkI (p n : Int) : Int := if okP p n = true then 0 else 2
theorem check_all (p n : Int) (b : Bool) (w : World) :
    Calls Tryz.prog 45 #[.agg #[.int .i64 p, .bool b], .int .i64 n] w fun e w' => e = .returned (.int .i64 (chkI p n)) ∧ Below w.heap.size w w' := by
  cases h : okP p n
  · have e1 : chkI p n = 2 := by
      unfold chkI
      rw [h]
      rfl
    rw [e1]
    exact check_no p n b w (okP_f h)
  · have e1 : chkI p n = 0 := by
      unfold chkI
      rw [h]
      rfl
    rw [e1]
    obtain ⟨h1, h2, h3, h4⟩ := okP_t h
    exact check_yes p n b w h1 h2 h3 h4

def okG (p d n : Int) : Bool := okP p n && okM d n
def gA (p d n : Int) : Int := if okG p d n = true then goA p d n else 0
def gW (p d n : Int) (b : Bool) : Bool := if okG p d n = true then goW p d n b else false
def gE (p d n : Int) : Int := if okG p d n = true then 0 else 2
theorem go_all (p d n : Int) (b : Bool) (w : World) :
    Calls Tryz.prog 82 #[.agg #[.int .i64 p, .bool b], .int .i64 d, .int .i64 n] w fun e w' => e = .returned (.tuple #[.agg #[.int .i64 (gA p d n), .bool (gW p d n b)], .int .i64 (gE p d n)]) ∧ Below w.heap.size w w' := by
  unfold gA gW gE okG
  cases h : okP p n
  · exact go_no p d n b w (Or.inl (okP_f h))
  · cases hm : okM d n
    · exact go_no p d n b w (Or.inr (okM_f hm))
    · obtain ⟨h1, h2, h3, h4⟩ := okP_t h
      obtain ⟨h5, h6⟩ := okM_t hm
      exact go_any p d n b w h1 h2 h3 h4 h5 h6

def okSz (n : Int) : Bool := decide (1 ≤ n ∧ n ≤ 32768)
theorem okSz_t {n : Int} (h : okSz n = true) : 1 ≤ n ∧ n ≤ 32768 := by simpa [okSz] using h
theorem okSz_f {n : Int} (h : okSz n = false) : n < 1 ∨ 32768 < n := by
  simp [okSz] at h
  omega
def rdOk (x n : Int) : Bool := okSz n && decide (x % 32768 < n)
def rdA (x n : Int) : Int := if rdOk x n = true then x % 32768 else 0
def rdW (x n : Int) : Bool := if rdOk x n = true then decide (32768 ≤ x) else false
def rdpE (x n : Int) : Int := if okSz n = true then (if rdOk x n = true then 0 else 4) else 2
def naOk (ea na d n : Int) : Bool := okP ea n && (okP na n && okM d n)
def naB (ea na d n : Int) (eb nb : Bool) : Bool := if naOk ea na d n = true then needAtB ea na d n eb nb else false
def naE (ea na d n : Int) : Int := if naOk ea na d n = true then 0 else 2
def bwOk (ea na n : Int) : Bool := okP ea n && okP na n
def bwV (ea na n : Int) (eb nb : Bool) : Int := if bwOk ea na n = true then btw ea na n eb nb else 0
def bwE (ea na n : Int) : Int := if bwOk ea na n = true then 0 else 2
end Go.Proofs.YtfhhgcgbgmilcaaGreat

/- Buffers built of segments: what may, Needs, Split, Packed, their tables and single descriptors answer. Plain facts, no program in sight. -/
namespace Go.Proofs.YtfhhgcgbgmilcaaGreat
open Go
set_option linter.unusedVariables false
set_option maxRecDepth 100000

/-- a descriptor and where it goes -/
structure Pt where
  i : Int
  d : Dsc
def zPt : Pt := ⟨0, ⟨0, 0, 0, 0⟩⟩
def ptat (L : List Pt) (k : Nat) : Pt := L.getD k zPt
/-- the flags of a segment's descriptor -/
def flgN (t nx : Bool) : Nat := (if t then 2 else 0) ||| (if nx then 1 else 0)
theorem flgN_lt (t nx : Bool) : flgN t nx < 65536 := by cases t <;> cases nx <;> decide
/-- may a buffer be built? -/
def mayE (L : List Sg) : Int := if segE L = 0 then (if L.length = 0 then 2 else 0) else segE L
def neeN (L : List Sg) (t : Bool) : Int := if mayE L = 0 then (if t then 1 else (L.length : Int)) else 0
def nxB (L : List Sg) (k : Nat) : Bool := decide (k + 1 < L.length)
/-- Split -/
def splD (I : List Int) (L : List Sg) (k : Nat) : Pt := ⟨I.getD k 0, ⟨(sat L k).a, (sat L k).n, (flgN (sat L k).t (nxB L k) : Nat), if nxB L k = true then I.getD (k + 1) 0 else 0⟩⟩
def splL (I : List Int) (L : List Sg) : List Pt := (List.range L.length).map (splD I L)
def idsB (I : List Int) (L : List Sg) : Bool := decide (I.length = L.length) && okT 32768 I I.length
def splE (I : List Int) (L : List Sg) : Int := if mayE L = 0 then (if idsB I L = true then 0 else 2) else mayE L
def splR (I : List Int) (L : List Sg) : List Pt := if splE I L = 0 then splL I L else []
/-- SplitTable -/
def numI (n : Nat) : List Int := (List.range n).map (fun i : Nat => (i : Int))
def stbL (L : List Sg) : List Dsc := (splL (numI L.length) L).map Pt.d
def stbB (L : List Sg) : List Int := if mayE L = 0 then tabB (stbL L) else []
/-- SplitOne -/
def oneB (id n : Int) : Bool := okI 32768 id && (decide (1 ≤ n) && decide (n ≤ 64))
def oneE (id n : Int) : Int := if oneB id n = true then 0 else 2
def oneP (id at_ n : Int) : Pt := if oneB id n = true then ⟨id, ⟨at_, 16 * n, 4, 0⟩⟩ else zPt
/-- Packed -/
def pckD (p n : Int) (b : Bool) (id : Int) (L : List Sg) (k : Nat) : Pt := ⟨goA p k n, ⟨(sat L k).a, (sat L k).n, id, (markN (flgN (sat L k).t (nxB L k)) (goW p k n b) false : Nat)⟩⟩
def pckL (p n : Int) (b : Bool) (id : Int) (L : List Sg) : List Pt := (List.range L.length).map (pckD p n b id L)
def pckB (p n id : Int) (L : List Sg) : Bool := okP p n && (okI n id && decide ((L.length : Int) ≤ n))
def pckE (p n id : Int) (L : List Sg) : Int := if mayE L = 0 then (if pckB p n id L = true then 0 else 2) else mayE L
def pckR (p n : Int) (b : Bool) (id : Int) (L : List Sg) : List Pt := if pckE p n id L = 0 then pckL p n b id L else []
/-- PackedTable -/
def ptbD (L : List Sg) (k : Nat) : Dsc := ⟨(sat L k).a, (sat L k).n, 0, (flgN (sat L k).t false : Nat)⟩
def ptbL (L : List Sg) : List Dsc := (List.range L.length).map (ptbD L)
def ptbB (L : List Sg) : List Int := if mayE L = 0 then tabB (ptbL L) else []
/-- PackedOne -/
def ponB (p n id m : Int) : Bool := okP p n && (okI n id && (decide (1 ≤ m) && decide (m ≤ 64)))
def ponE (p n id m : Int) : Int := if ponB p n id m = true then 0 else 2
def ponP (p n : Int) (b : Bool) (id at_ m : Int) : Pt := if ponB p n id m = true then ⟨p, ⟨at_, 16 * m, id, (markN 4 b false : Nat)⟩⟩ else zPt

theorem mayE_ok {L : List Sg} (h : mayE L = 0) : segE L = 0 ∧ 0 < L.length := by
  unfold mayE at h
  by_cases h1 : segE L = 0
  · rw [if_pos h1] at h
    by_cases h2 : L.length = 0
    · rw [if_pos h2] at h
      cases h
    · exact ⟨h1, by omega⟩
  · rw [if_neg h1] at h
    exact absurd h h1
theorem splL_len (I : List Int) (L : List Sg) : (splL I L).length = L.length := by simp [splL]
theorem splL_at {I : List Int} {L : List Sg} {k : Nat} (h : k < L.length) : ptat (splL I L) k = splD I L k := by simp [ptat, splL, List.getD, h]
theorem splL_take {I : List Int} {L : List Sg} {k : Nat} (h : k < L.length) : (splL I L).take (k + 1) = (splL I L).take k ++ [splD I L k] := by
  rw [List.take_succ_eq_append_getElem (by rw [splL_len]; exact h)]
  simp [splL]
theorem pckL_len (p n : Int) (b : Bool) (id : Int) (L : List Sg) : (pckL p n b id L).length = L.length := by simp [pckL]
theorem pckL_at {p n : Int} {b : Bool} {id : Int} {L : List Sg} {k : Nat} (h : k < L.length) : ptat (pckL p n b id L) k = pckD p n b id L k := by simp [ptat, pckL, List.getD, h]
theorem pckL_take {p n : Int} {b : Bool} {id : Int} {L : List Sg} {k : Nat} (h : k < L.length) : (pckL p n b id L).take (k + 1) = (pckL p n b id L).take k ++ [pckD p n b id L k] := by
  rw [List.take_succ_eq_append_getElem (by rw [pckL_len]; exact h)]
  simp [pckL]
theorem ptbL_len (L : List Sg) : (ptbL L).length = L.length := by simp [ptbL]
theorem ptbL_take {L : List Sg} {k : Nat} (h : k < L.length) : (ptbL L).take (k + 1) = (ptbL L).take k ++ [ptbD L k] := by
  rw [List.take_succ_eq_append_getElem (by rw [ptbL_len]; exact h)]
  simp [ptbL]
theorem stbL_len (L : List Sg) : (stbL L).length = L.length := by simp [stbL, splL_len]
/-- two lists of puts: the same? -/
def ptB (x y : Pt) : Bool := x.i == y.i && (x.d.a == y.d.a && (x.d.l == y.d.l && (x.d.f == y.d.f && x.d.n == y.d.n)))
theorem ptB_iff {x y : Pt} : ptB x y = true ↔ x = y := by
  obtain ⟨i, a, l, f, n⟩ := x
  obtain ⟨i', a', l', f', n'⟩ := y
  simp [ptB]
def sameP : List Pt → List Pt → Bool
  | [], [] => true
  | s :: l, t :: o => ptB s t && sameP l o
  | [], _ :: _ => false
  | _ :: _, [] => false
theorem sameP_iff : ∀ {L O : List Pt}, sameP L O = true ↔ L = O
  | [], [] => by simp [sameP]
  | s :: l, t :: o => by simp only [sameP, Bool.and_eq_true, ptB_iff, sameP_iff (L := l) (O := o), List.cons.injEq]
  | [], _ :: _ => by simp [sameP]
  | _ :: _, [] => by simp [sameP]
theorem sameP_self (L : List Pt) : sameP L L = true := sameP_iff.2 rfl
theorem sameP_len {L O : List Pt} (h : L.length ≠ O.length) : sameP L O = false := by
  cases hc : sameP L O
  · rfl
  · exact absurd (congrArg List.length (sameP_iff.1 hc)) h
theorem drop_pt {L : List Pt} {k : Nat} (h : k < L.length) : L.drop k = ptat L k :: L.drop (k + 1) := by
  rw [List.drop_eq_getElem_cons h]
  simp [ptat, List.getD, h]
theorem sameP_step {L O : List Pt} {k : Nat} (hk : k < L.length) (ho : k < O.length) : sameP (L.drop k) (O.drop k) = (ptB (ptat L k) (ptat O k) && sameP (L.drop (k + 1)) (O.drop (k + 1))) := by
  rw [drop_pt hk, drop_pt ho]
  rfl
end Go.Proofs.YtfhhgcgbgmilcaaGreat

/- Plain facts of cuts and parts of lists of segments. No program in sight. Conditions: as each lemma names them. -/
namespace Go.Proofs.YtfhhgcgbgmilcaaGreat
open Go.ChangeShapes Go.WideShapes Go.ChangeAt Go.RowKit
set_option linter.unusedVariables false
set_option maxRecDepth 100000

theorem cutS_le {s : Sg} {l : List Sg} {f n : Int} (h : s.n ≤ f) : cutS (s :: l) f n = cutS l (f - s.n) n := by
  show (if s.n ≤ f then _ else _) = _
  rw [if_pos h]
theorem cutS_gt {s : Sg} {l : List Sg} {f n : Int} (h : f < s.n) : cutS (s :: l) f n = (if 0 < min (s.n - f) n then [⟨s.a + f, min (s.n - f) n, s.t⟩] else []) ++ cutS l 0 (n - min (s.n - f) n) := by
  show (if s.n ≤ f then _ else _) = _
  rw [if_neg (by omega)]
theorem cutS_some {s : Sg} {l : List Sg} {f n k : Int} (h : f < s.n) (hk : min (s.n - f) n = k) (h0 : 0 < k) : cutS (s :: l) f n = ⟨s.a + f, k, s.t⟩ :: cutS l 0 (n - k) := by
  rw [cutS_gt h, hk, if_pos h0]
  rfl
theorem cutS_none {s : Sg} {l : List Sg} {f n k : Int} (h : f < s.n) (hk : min (s.n - f) n = k) (h0 : k ≤ 0) : cutS (s :: l) f n = cutS l 0 (n - k) := by
  rw [cutS_gt h, hk, if_neg (by omega)]
  rfl
theorem cutS_zero : ∀ (L : List Sg) (f n : Int), n ≤ 0 → cutS L f n = []
  | [], _, _, _ => rfl
  | s :: l, f, n, h => by
    by_cases hf : s.n ≤ f
    · rw [cutS_le hf]
      exact cutS_zero l _ _ h
    · rw [cutS_none (by omega) rfl (by omega)]
      exact cutS_zero l _ _ (by omega)
theorem sumS_cut : ∀ (L : List Sg) (f n : Int), isSgs L → 0 ≤ f → 0 ≤ n → sumS (cutS L f n) = if f < sumS L then min n (sumS L - f) else 0
  | [], f, n, h, hf, hn => by
    have e : sumS [] = 0 := rfl
    rw [show cutS [] f n = [] from rfl, e, if_neg (by omega)]
  | s :: l, f, n, h, hf, hn => by
    obtain ⟨h1, h2⟩ := isSgs_cons h
    have h3 := h1.2.1
    have h4 := sumS_nonneg h2
    have e : sumS (s :: l) = s.n + sumS l := rfl
    rw [e]
    by_cases hs : s.n ≤ f
    · rw [cutS_le hs, sumS_cut l _ _ h2 (by omega) hn]
      by_cases hq : f < s.n + sumS l
      · rw [if_pos (by omega), if_pos hq]
        omega
      · rw [if_neg (by omega), if_neg hq]
    · have ih := sumS_cut l 0 (n - min (s.n - f) n) h2 (by omega) (by omega)
      have ih2 : sumS (cutS l 0 (n - min (s.n - f) n)) = min (n - min (s.n - f) n) (sumS l) := by
        rw [ih]
        by_cases hq : 0 < sumS l
        · rw [if_pos hq]
          omega
        · rw [if_neg hq]
          omega
      by_cases hk : 0 < min (s.n - f) n
      · rw [cutS_some (by omega) rfl hk]
        show min (s.n - f) n + sumS (cutS l 0 (n - min (s.n - f) n)) = _
        rw [ih2, if_pos (by omega)]
        omega
      · rw [cutS_none (by omega) rfl (by omega), ih2]
        rw [if_pos (by omega)]
        omega
theorem cutS_is : ∀ (L : List Sg) (f n : Int) (p : Bool), isSgs L → okS p L → 0 ≤ f → 0 ≤ n → isSgs (cutS L f n)
  | [], f, n, p, h, ho, hf, hn => fun s hs => by cases hs
  | s :: l, f, n, p, h, ho, hf, hn => by
    obtain ⟨h1, h2⟩ := isSgs_cons h
    obtain ⟨⟨o1, o2, o3⟩, o4⟩ := ho
    by_cases hs : s.n ≤ f
    · rw [cutS_le hs]
      exact cutS_is l _ _ _ h2 o4 (by omega) hn
    · have ih := cutS_is l 0 (n - min (s.n - f) n) s.t h2 o4 (by omega) (by omega)
      obtain ⟨⟨q1, q2⟩, q3, q4⟩ := h1
      by_cases hk : 0 < min (s.n - f) n
      · rw [cutS_some (by omega) rfl hk]
        intro x hx
        rcases List.mem_cons.1 hx with rfl | hx
        · exact ⟨⟨by simp only []; omega, by simp only []; omega⟩, by simp only []; omega, by simp only []; omega⟩
        · exact ih x hx
      · rw [cutS_none (by omega) rfl (by omega)]
        exact ih
theorem okS_weak : ∀ {L : List Sg} {p q : Bool}, okS q L → (p = true → q = true) → okS p L
  | [], p, q, h, hp => True.intro
  | s :: l, p, q, h, hp => ⟨⟨h.1.1, h.1.2.1, fun e => h.1.2.2 (hp e)⟩, h.2⟩
theorem okS_cut : ∀ (L : List Sg) (f n : Int) (p : Bool), okS p L → 0 ≤ f → 0 ≤ n → okS p (cutS L f n)
  | [], f, n, p, ho, hf, hn => True.intro
  | s :: l, f, n, p, ho, hf, hn => by
    obtain ⟨⟨o1, o2, o3⟩, o4⟩ := ho
    by_cases hs : s.n ≤ f
    · rw [cutS_le hs]
      exact okS_cut l _ _ _ (okS_weak o4 o3) (by omega) hn
    · by_cases hk : 0 < min (s.n - f) n
      · rw [cutS_some (by omega) rfl hk]
        exact ⟨⟨by simp only []; omega, by simp only []; omega, o3⟩, okS_cut l _ _ _ o4 (by omega) (by omega)⟩
      · rw [cutS_none (by omega) rfl (by omega)]
        exact okS_cut l _ _ _ (okS_weak o4 o3) (by omega) (by omega)
theorem cutS_all : ∀ (L : List Sg) (n : Int) (p : Bool), isSgs L → okS p L → sumS L ≤ n → cutS L 0 n = L
  | [], n, p, h, ho, hn => rfl
  | s :: l, n, p, h, ho, hn => by
    obtain ⟨h1, h2⟩ := isSgs_cons h
    obtain ⟨⟨o1, o2, o3⟩, o4⟩ := ho
    have h4 := sumS_nonneg h2
    simp only [sumS] at hn
    rw [cutS_some (k := s.n) (by omega) (by omega) (by omega), cutS_all l _ _ h2 o4 (by omega), Int.add_zero]
/-- a cut of a cut -/
theorem cutS_cut : ∀ (L : List Sg) (f n m k : Int) (p : Bool), isSgs L → okS p L → 0 ≤ f → 0 ≤ n → 0 ≤ m → 0 ≤ k → cutS (cutS L f n) m k = cutS L (f + m) (min k (n - m))
  | [], f, n, m, k, p, h, ho, hf, hn, hm, hk => rfl
  | s :: l, f, n, m, k, p, h, ho, hf, hn, hm, hk => by
    obtain ⟨h1, h2⟩ := isSgs_cons h
    obtain ⟨⟨o1, o2, o3⟩, o4⟩ := ho
    by_cases hn0 : n = 0
    · subst hn0
      rw [cutS_zero _ f 0 (by omega), cutS_zero _ (f + m) _ (by omega)]
      rfl
    · by_cases hs : s.n ≤ f
      · rw [cutS_le hs, cutS_le (f := f + m) (by omega), cutS_cut l (f - s.n) n m k s.t h2 o4 (by omega) hn hm hk, show f - s.n + m = f + m - s.n from by omega]
      · obtain ⟨k1, e1⟩ : ∃ k1, min (s.n - f) n = k1 := ⟨_, rfl⟩
        rw [cutS_some (by omega) e1 (by omega)]
        by_cases hm1 : k1 ≤ m
        · rw [cutS_le (s := ⟨s.a + f, k1, s.t⟩) hm1, cutS_cut l 0 (n - k1) (m - k1) k s.t h2 o4 (by omega) (by omega) (by omega) hk]
          by_cases hk1 : k1 = s.n - f
          · rw [cutS_le (f := f + m) (by omega)]
            congr 1 <;> omega
          · rw [cutS_zero _ _ _ (by omega), cutS_zero _ _ _ (by omega)]
        · obtain ⟨k2, e2⟩ : ∃ k2, min (k1 - m) k = k2 := ⟨_, rfl⟩
          have e3 : min (s.n - (f + m)) (min k (n - m)) = k2 := by omega
          have hr : cutS l 0 (min (k - k2) (n - k1 - 0)) = cutS l 0 (min k (n - m) - k2) := by
            by_cases hz : min (k - k2) (n - k1 - 0) ≤ 0
            · rw [cutS_zero _ _ _ hz, cutS_zero _ _ _ (by omega)]
            · congr 1
              omega
          have ih := cutS_cut l 0 (n - k1) 0 (k - k2) s.t h2 o4 (by omega) (by omega) (by omega) (by omega)
          rw [Int.add_zero] at ih
          by_cases hk2 : 0 < k2
          · rw [cutS_some (s := ⟨s.a + f, k1, s.t⟩) (by simp only []; omega) e2 hk2, cutS_some (s := s) (by omega) e3 hk2, ih, hr]
            simp only [List.cons.injEq, Sg.mk.injEq, and_true]
            omega
          · rw [cutS_none (s := ⟨s.a + f, k1, s.t⟩) (by simp only []; omega) e2 (by omega), cutS_none (s := s) (by omega) e3 (by omega), ih, hr]
theorem totS_two : ∀ (L : List Sg) (f n : Int) (t p : Bool), isSgs L → okS p L → 0 ≤ f → sumS L - f ≤ n → 0 ≤ n → totS t (cutS L 0 f) + totS t (cutS L f n) = totS t L
  | [], f, n, t, p, h, ho, hf, hn, hn0 => rfl
  | s :: l, f, n, t, p, h, ho, hf, hn, hn0 => by
    obtain ⟨h1, h2⟩ := isSgs_cons h
    obtain ⟨⟨o1, o2, o3⟩, o4⟩ := ho
    have h4 := sumS_nonneg h2
    simp only [sumS] at hn
    by_cases hs : s.n ≤ f
    · have ih := totS_two l (f - s.n) n t s.t h2 o4 (by omega) (by omega) hn0
      rw [cutS_some (k := s.n) (by omega) (by omega) (by omega), cutS_le hs]
      simp only [totS]
      omega
    · rw [cutS_some (s := s) (f := f) (k := s.n - f) (by omega) (by omega) (by omega), cutS_all l _ _ h2 o4 (by omega)]
      by_cases hf0 : f = 0
      · subst hf0
        rw [cutS_zero _ 0 0 (by omega)]
        simp only [totS]
        split <;> omega
      · rw [cutS_some (k := f) (by omega) (by omega) (by omega), cutS_zero _ _ _ (by omega)]
        simp only [totS]
        split <;> omega
theorem totS_sum : ∀ (L : List Sg), totS false L + totS true L = sumS L
  | [] => rfl
  | s :: l => by
    have := totS_sum l
    simp only [totS, sumS]
    cases s.t <;> simp <;> omega
theorem totS_nonneg : ∀ {L : List Sg} (t : Bool), isSgs L → 0 ≤ totS t L
  | [], t, _ => by simp [totS]
  | s :: l, t, h => by
    obtain ⟨h1, h2⟩ := isSgs_cons h
    have := totS_nonneg t h2
    have hn := h1.2.1
    simp only [totS]
    split <;> omega
theorem partS_yes {s : Sg} {l : List Sg} {t : Bool} (h : s.t = t) : partS t (s :: l) = s :: partS t l := by
  unfold partS
  rw [List.filter_cons_of_pos (by simp [h])]
theorem partS_no {s : Sg} {l : List Sg} {t : Bool} (h : s.t ≠ t) : partS t (s :: l) = partS t l := by
  unfold partS
  rw [List.filter_cons_of_neg (by simp [h])]
theorem part_all : ∀ {L : List Sg}, okS true L → partS true L = L ∧ partS false L = []
  | [], _ => ⟨rfl, rfl⟩
  | s :: l, h => by
    have ht := h.1.2.2 rfl
    have h2 := h.2
    rw [ht] at h2
    have ih := part_all h2
    rw [partS_yes ht, partS_no (by rw [ht]; decide), ih.1, ih.2]
    exact ⟨rfl, rfl⟩
theorem part_two : ∀ {L : List Sg}, okS false L → partS false L ++ partS true L = L
  | [], _ => rfl
  | s :: l, h => by
    have h2 := h.2
    cases ht : s.t
    · rw [ht] at h2
      have ih := part_two h2
      rw [partS_yes ht, partS_no (by rw [ht]; decide), List.cons_append, ih]
    · rw [ht] at h2
      have ih := part_all h2
      rw [partS_yes ht, partS_no (by rw [ht]; decide), ih.1, ih.2]
      rfl
end Go.Proofs.YtfhhgcgbgmilcaaGreat
