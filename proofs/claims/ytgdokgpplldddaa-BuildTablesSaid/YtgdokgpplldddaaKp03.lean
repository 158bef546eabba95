/- Reg Gm1: joined texts. Conditions: as each theorem names them. -/
import Derived.Test.YtgdokgpplldddaaKp02
import Derived.Test.YtgdokgpplldddaaKp01
import Derived.Test.YtgdokgpplldddaaRows
import Derived.WalkKit
import Derived.ProofKit
import Derived.OpenShut
import Derived.Below
import Derived.Deep.DeepCutAuto
import Derived.Outline
import Derived.Shelf.Abstract
import Derived.LaidEqlPtr
import Derived.Deep.QuietTactic
import Derived.BigQuiet
/- Plain lists of regions: which are valid, and where a range of bytes lies in them. No program in sight. Each lemma names its own bounds. -/
namespace Go.Proofs.Ytgdokgpplldddaa
open Go
set_option linter.unusedVariables false

/-- are these regions valid, behind address prev, with so much room? (At, Len) -/
def okR (prev room : Int) : List (Int × Int) → Bool
  | [] => true
  | r :: l => decide (1 ≤ r.2 ∧ r.2 ≤ room ∧ r.1 + r.2 ≤ 18446744073709551616 ∧ prev < r.1) && okR (r.1 + r.2 - 1) (room - r.2) l
theorem okR_cons {prev room : Int} {r : Int × Int} {l : List (Int × Int)} : okR prev room (r :: l) = true ↔ (1 ≤ r.2 ∧ r.2 ≤ room ∧ r.1 + r.2 ≤ 18446744073709551616 ∧ prev < r.1) ∧ okR (r.1 + r.2 - 1) (room - r.2) l = true := by
  simp [okR]
theorem okR_cons_false {prev room : Int} {r : Int × Int} {l : List (Int × Int)} (h : ¬ (1 ≤ r.2 ∧ r.2 ≤ room ∧ r.1 + r.2 ≤ 18446744073709551616 ∧ prev < r.1)) : okR prev room (r :: l) = false := by
  unfold okR
  rw [decide_eq_false h]
  rfl
theorem okR_cons_true {prev room : Int} {r : Int × Int} {l : List (Int × Int)} (h : 1 ≤ r.2 ∧ r.2 ≤ room ∧ r.1 + r.2 ≤ 18446744073709551616 ∧ prev < r.1) : okR prev room (r :: l) = okR (r.1 + r.2 - 1) (room - r.2) l := by
  rw [okR, decide_eq_true h]
  rfl

/-- how many bytes they have -/
def sumR : List (Int × Int) → Nat
  | [] => 0
  | r :: l => r.2.toNat + sumR l
theorem sumR_append (a b : List (Int × Int)) : sumR (a ++ b) = sumR a + sumR b := by
  induction a with
  | nil => simp [sumR]
  | cons r l ih =>
    simp only [List.cons_append, sumR, ih]
    omega
theorem okR_sum {l : List (Int × Int)} : ∀ {prev room : Int}, okR prev room l = true → (sumR l : Int) ≤ room ∨ l = [] := by
  induction l with
  | nil => intro _ _ _; exact Or.inr rfl
  | cons r l ih =>
    intro prev room h
    have h1 := okR_cons.1 h
    left
    rcases ih h1.2 with h2 | h2
    · simp only [sumR]
      omega
    · subst h2
      simp only [sumR]
      omega
theorem okR_len {l : List (Int × Int)} : ∀ {prev room : Int}, okR prev room l = true → l.length ≤ sumR l := by
  induction l with
  | nil => intro _ _ _; exact Nat.zero_le _
  | cons r l ih =>
    intro prev room h
    have h1 := okR_cons.1 h
    have := ih h1.2
    simp only [sumR, List.length_cons]
    omega

/-- region i -/
def at_ (l : List (Int × Int)) (i : Nat) : Int × Int := l.getD i (0, 0)
theorem at_zero (r : Int × Int) (l : List (Int × Int)) : at_ (r :: l) 0 = r := rfl
theorem at_succ (r : Int × Int) (l : List (Int × Int)) (i : Nat) : at_ (r :: l) (i + 1) = at_ l i := by simp [at_]
/-- the bytes ahead of region i -/
def off (l : List (Int × Int)) (i : Nat) : Nat := sumR (l.take i)
theorem off_zero (l : List (Int × Int)) : off l 0 = 0 := by simp [off, sumR]
theorem off_succ_cons (r : Int × Int) (l : List (Int × Int)) (i : Nat) : off (r :: l) (i + 1) = r.2.toNat + off l i := by simp [off, sumR]
theorem off_step (l : List (Int × Int)) (i : Nat) (h : i < l.length) : off l (i + 1) = off l i + (at_ l i).2.toNat := by
  induction l generalizing i with
  | nil => simp at h
  | cons r l ih =>
    cases i with
    | zero => simp [off, sumR, at_]
    | succ i =>
      rw [off_succ_cons, off_succ_cons, at_succ, ih i (by simpa using h)]
      omega
theorem off_all (l : List (Int × Int)) : off l l.length = sumR l := by simp [off]
theorem off_le (l : List (Int × Int)) (i : Nat) : off l i ≤ sumR l := by
  have h := sumR_append (l.take i) (l.drop i)
  rw [List.take_append_drop] at h
  unfold off
  omega
theorem off_room (l : List (Int × Int)) (i : Nat) (h : i < l.length) : off l i + (at_ l i).2.toNat ≤ sumR l := by
  rw [← off_step l i h]
  exact off_le l (i + 1)

/-- what validity says of region i -/
theorem okR_at {l : List (Int × Int)} : ∀ {prev room : Int}, okR prev room l = true → ∀ i, i < l.length → 1 ≤ (at_ l i).2 ∧ (at_ l i).2 ≤ room ∧ (at_ l i).1 + (at_ l i).2 ≤ 18446744073709551616 ∧ prev < (at_ l i).1 := by
  induction l with
  | nil => intro _ _ _ i hi; simp at hi
  | cons r l ih =>
    intro prev room h i hi
    have h1 := okR_cons.1 h
    cases i with
    | zero => exact h1.1
    | succ i =>
      have := ih h1.2 i (by simpa using hi)
      rw [at_succ]
      omega
theorem okR_step {l : List (Int × Int)} : ∀ {prev room : Int}, okR prev room l = true → ∀ i, i + 1 < l.length → (at_ l i).1 + (at_ l i).2 ≤ (at_ l (i + 1)).1 := by
  induction l with
  | nil => intro _ _ _ i hi; simp at hi
  | cons r l ih =>
    intro prev room h i hi
    have h1 := okR_cons.1 h
    cases i with
    | zero =>
      have := okR_at h1.2 0 (by simpa using hi)
      rw [at_zero, at_succ]
      omega
    | succ i =>
      have := ih h1.2 i (by simpa using hi)
      rw [at_succ, at_succ]
      exact this
theorem okR_lt {l : List (Int × Int)} {prev room : Int} (h : okR prev room l = true) (i : Nat) : ∀ (d : Nat), i + d + 1 < l.length → (at_ l i).1 + (at_ l i).2 ≤ (at_ l (i + d + 1)).1
  | 0, hd => okR_step h i hd
  | d + 1, hd => by
    have h1 := okR_lt h i d (by omega)
    have h2 := okR_step h (i + d + 1) hd
    have h3 := okR_at h (i + d + 1) (by omega)
    have e : i + (d + 1) + 1 = i + d + 1 + 1 := by omega
    rw [e]
    omega
theorem okR_mono {l : List (Int × Int)} {prev room : Int} (h : okR prev room l = true) {i j : Nat} (hij : i < j) (hj : j < l.length) : (at_ l i).1 + (at_ l i).2 ≤ (at_ l j).1 := by
  have := okR_lt h i (j - i - 1) (by omega)
  have e : i + (j - i - 1) + 1 = j := by omega
  rw [e] at this
  exact this

/-- where a range of n bytes at an address lies in the image; none if it does not exist -/
def loc (l : List (Int × Int)) (a n : Int) : Option Nat :=
  match l with
  | [] => none
  | r :: t => if r.1 ≤ a ∧ a < r.1 + r.2 ∧ 1 ≤ n ∧ n ≤ r.1 + r.2 - a then some (a - r.1).toNat else (loc t a n).map (r.2.toNat + ·)
theorem loc_some {l : List (Int × Int)} {a n : Int} {k : Nat} (h : loc l a n = some k) : ∃ i, i < l.length ∧ (at_ l i).1 ≤ a ∧ a + n ≤ (at_ l i).1 + (at_ l i).2 ∧ 1 ≤ n ∧ k = off l i + (a - (at_ l i).1).toNat := by
  induction l generalizing k with
  | nil => simp [loc] at h
  | cons r t ih =>
    simp only [loc] at h
    split at h
    · rename_i hc
      injection h with h
      exact ⟨0, by simp, by rw [at_zero]; omega, by rw [at_zero]; omega, by omega, by rw [off_zero, at_zero]; omega⟩
    · cases hl : loc t a n with
      | none => rw [hl] at h; simp at h
      | some k' =>
        rw [hl] at h
        simp at h
        obtain ⟨i, h1, h2, h3, h4, h5⟩ := ih hl
        refine ⟨i + 1, by simpa using h1, by rw [at_succ]; exact h2, by rw [at_succ]; exact h3, h4, ?_⟩
        rw [off_succ_cons, at_succ]
        omega
theorem loc_none {l : List (Int × Int)} {a n : Int} (h : loc l a n = none) : ∀ i, i < l.length → ¬ ((at_ l i).1 ≤ a ∧ a + n ≤ (at_ l i).1 + (at_ l i).2 ∧ 1 ≤ n) := by
  induction l with
  | nil => intro i hi; simp at hi
  | cons r t ih =>
    simp only [loc] at h
    split at h
    · cases h
    · rename_i hc
      have h' : loc t a n = none := by simpa using h
      intro i hi
      cases i with
      | zero => rw [at_zero]; omega
      | succ i => rw [at_succ]; exact ih h' i (by simpa using hi)
theorem loc_mk {l : List (Int × Int)} {prev room : Int} (hok : okR prev room l = true) {a n : Int} {i : Nat} (hi : i < l.length) (h1 : (at_ l i).1 ≤ a) (h2 : a + n ≤ (at_ l i).1 + (at_ l i).2) (h3 : 1 ≤ n) : loc l a n = some (off l i + (a - (at_ l i).1).toNat) := by
  cases h : loc l a n with
  | none => exact (loc_none h i hi ⟨h1, h2, h3⟩).elim
  | some k =>
    obtain ⟨j, g1, g2, g3, g4, g5⟩ := loc_some h
    have hij : i = j := by
      rcases Nat.lt_trichotomy i j with hlt | heq | hgt
      · have := okR_mono hok hlt g1
        omega
      · exact heq
      · have := okR_mono hok hgt hi
        omega
    subst hij
    rw [g5]
theorem loc_no {l : List (Int × Int)} {a n : Int} (h : ∀ i, i < l.length → ¬ ((at_ l i).1 ≤ a ∧ a + n ≤ (at_ l i).1 + (at_ l i).2 ∧ 1 ≤ n)) : loc l a n = none := by
  cases hl : loc l a n with
  | none => rfl
  | some k =>
    obtain ⟨j, g1, g2, g3, g4, _⟩ := loc_some hl
    exact (h j g1 ⟨g2, g3, g4⟩).elim
theorem loc_room {l : List (Int × Int)} {a n : Int} {k : Nat} (h : loc l a n = some k) (hn : 0 ≤ n) : k + n.toNat ≤ sumR l := by
  obtain ⟨i, h1, h2, h3, h4, h5⟩ := loc_some h
  have := off_room l i h1
  omega

/-- what a search over the ends finds: the first region whose end is not ahead of the address -/
structure Found (l : List (Int × Int)) (a : Int) (i : Nat) : Prop where
  le : i ≤ l.length
  before : ∀ j, j < i → (at_ l j).1 + (at_ l j).2 - 1 < a
  here : i < l.length → a ≤ (at_ l i).1 + (at_ l i).2 - 1
theorem Found.nowhere {l : List (Int × Int)} {a n : Int} (h : Found l a l.length) : loc l a n = none :=
  loc_no fun i hi hc => by
    have := h.before i hi
    omega
theorem Found.ahead {l : List (Int × Int)} {prev room : Int} (hok : okR prev room l = true) {a n : Int} {i : Nat} (h : Found l a i) (hi : i < l.length) (ha : a < (at_ l i).1) : loc l a n = none :=
  loc_no fun j hj hc => by
    rcases Nat.lt_trichotomy j i with hlt | heq | hgt
    · have := h.before j hlt
      omega
    · subst heq
      omega
    · have := okR_mono hok hgt hj
      have := okR_at hok i hi
      omega
theorem Found.short {l : List (Int × Int)} {prev room : Int} (hok : okR prev room l = true) {a n : Int} {i : Nat} (h : Found l a i) (hi : i < l.length) (hn : n < 1 ∨ (at_ l i).1 + (at_ l i).2 < a + n) : loc l a n = none :=
  loc_no fun j hj hc => by
    have h2 := h.here hi
    rcases Nat.lt_trichotomy j i with hlt | heq | hgt
    · have := h.before j hlt
      omega
    · subst heq
      omega
    · have := okR_mono hok hgt hj
      have := okR_at hok i hi
      omega

end Go.Proofs.Ytgdokgpplldddaa

/- Contracts of package gmem's small functions. Conditions: as each theorem names them. -/
namespace Go.Proofs.Ytgdokgpplldddaa
open Go.ChangeShapes Go.WideShapes Go.ChangeAt Go.RowKit
set_option linter.unusedVariables false

/-- the memory's own block -/
abbrev memCells (p ib qb n k : Nat) : List Value := [.pointer (some ⟨p, 0, none⟩), .slice (some ⟨ib, 0, none⟩) n n, .slice (some ⟨qb, 0, none⟩) k k]
/-- the regions, as the memory keeps them -/
def partCells (ib : Nat) : Nat → List (Int × Int) → List Value
  | _, [] => []
  | o, r :: l => .int .u64 r.1 :: .int .u64 (r.1 + r.2 - 1) :: .slice (some ⟨ib, o, none⟩) r.2.toNat r.2.toNat :: partCells ib (o + r.2.toNat) l
theorem partCells_length (ib : Nat) : ∀ (o : Nat) (l : List (Int × Int)), (partCells ib o l).length = 3 * l.length
  | _, [] => rfl
  | o, r :: l => by
    simp only [partCells, List.length_cons, partCells_length ib _ l]
    omega
theorem partCells_at (ib : Nat) : ∀ (o : Nat) (l : List (Int × Int)) (i : Nat), i < l.length → (partCells ib o l)[i * 3]? = some (.int .u64 (at_ l i).1) ∧ (partCells ib o l)[i * 3 + 1]? = some (.int .u64 ((at_ l i).1 + (at_ l i).2 - 1)) ∧ (partCells ib o l)[i * 3 + 2]? = some (.slice (some ⟨ib, o + off l i, none⟩) (at_ l i).2.toNat (at_ l i).2.toNat)
  | _, [], i, h => by simp at h
  | o, r :: l, 0, _ => by simp [partCells, at_, off, sumR]
  | o, r :: l, i + 1, h => by
    have := partCells_at ib (o + r.2.toNat) l i (by simpa using h)
    have e : (i + 1) * 3 = i * 3 + 1 + 1 + 1 := by omega
    rw [at_succ, off_succ_cons, ← Nat.add_assoc, e]
    simpa [partCells] using this

/-! ## last -/
def lastI (a n : Int) : Int := IntKind.u64.wrap (a + IntKind.u64.wrap (n - 1))
theorem lastI_ok {a n : Int} (h0 : 0 ≤ a) (h1 : 1 ≤ n) (h2 : a + n ≤ 18446744073709551616) : lastI a n = a + n - 1 := by
  unfold lastI
  rw [IntKind.wrap_u64, IntKind.wrap_u64]
  omega
/-! ## made -/
theorem drewN_drewN (w : World) (a b : Nat) : (w.drewN a).drewN b = w.drewN (a + b) := by
  show ({ w with drawn := w.drawn + a + b } : World) = { w with drawn := w.drawn + (a + b) }
  rw [Nat.add_assoc]
/-! ## decode -/
/-! ## the search over the ends -/
/-! ## sort.Search -/
end Go.Proofs.Ytgdokgpplldddaa
