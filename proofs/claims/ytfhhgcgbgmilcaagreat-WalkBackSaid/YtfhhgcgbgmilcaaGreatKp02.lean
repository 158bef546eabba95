/- Le Reg Gm1: joined texts. Conditions: as each theorem names them. -/
import Derived.Test.YtfhhgcgbgmilcaaGreatKp01
import Derived.Test.YtfhhgcgbgmilcaaGreatRows
import Derived.WalkKit
import Derived.ProofKit
import Derived.OpenShut
import Derived.Below
import Derived.Deep.DeepCutAuto
import Derived.Outline
import Derived.Shelf.Abstract
import Derived.LaidEqlPtr
import Derived.Deep.QuietTactic
import Derived.BigQuiet
/- Plain lists of bytes: their little-endian word, and back. No program in sight. Each lemma names its own bounds. -/
namespace Go.Proofs.YtfhhgcgbgmilcaaGreat
open Go
set_option linter.unusedVariables false

/-- are these bytes? -/
def isBytes (l : List Int) : Prop := ∀ x ∈ l, 0 ≤ x ∧ x < 256
theorem isBytes_nil : isBytes [] := fun x h => by cases h
theorem isBytes_cons {x : Int} {l : List Int} (h : isBytes (x :: l)) : (0 ≤ x ∧ x < 256) ∧ isBytes l :=
  ⟨h x (by simp), fun y hy => h y (by simp [hy])⟩
theorem isBytes_mk {x : Int} {l : List Int} (h0 : 0 ≤ x) (h1 : x < 256) (h : isBytes l) : isBytes (x :: l) := by
  intro y hy
  rcases List.mem_cons.1 hy with rfl | hy
  · exact ⟨h0, h1⟩
  · exact h y hy
theorem isBytes_take {l : List Int} (h : isBytes l) (n : Nat) : isBytes (l.take n) := fun x hx => h x (List.mem_of_mem_take hx)
theorem isBytes_drop {l : List Int} (h : isBytes l) (n : Nat) : isBytes (l.drop n) := fun x hx => h x (List.mem_of_mem_drop hx)
theorem isBytes_append {a b : List Int} (ha : isBytes a) (hb : isBytes b) : isBytes (a ++ b) := by
  intro x hx
  rcases List.mem_append.1 hx with h | h
  · exact ha x h
  · exact hb x h
theorem isBytes_left {a b : List Int} (h : isBytes (a ++ b)) : isBytes a := fun x hx => h x (List.mem_append.2 (Or.inl hx))
theorem isBytes_right {a b : List Int} (h : isBytes (a ++ b)) : isBytes b := fun x hx => h x (List.mem_append.2 (Or.inr hx))
theorem isBytes_zero (n : Nat) : isBytes (List.replicate n 0) := by
  intro x hx
  have := (List.mem_replicate.1 hx).2
  omega
theorem isBytes_at {l : List Int} (h : isBytes l) (i : Nat) : 0 ≤ l.getD i 0 ∧ l.getD i 0 < 256 := by
  by_cases hi : i < l.length
  · have e : l.getD i 0 = l[i] := by simp [List.getD, hi]
    rw [e]
    exact h _ (List.getElem_mem hi)
  · have e : l.getD i 0 = 0 := by simp [List.getD, hi]
    omega

/-- the little-endian word of bytes -/
def le : List Int → Int
  | [] => 0
  | x :: r => x + 256 * le r
/-- the low bytes of a word -/
def leB : Nat → Int → List Int
  | 0, _ => []
  | n + 1, v => v % 256 :: leB n (v / 256)

theorem leB_length : ∀ (n : Nat) (v : Int), (leB n v).length = n
  | 0, _ => rfl
  | n + 1, v => by simp [leB, leB_length n]
theorem leB_bytes : ∀ (n : Nat) (v : Int), isBytes (leB n v)
  | 0, _ => isBytes_nil
  | n + 1, v => isBytes_mk (by omega) (by omega) (leB_bytes n _)
theorem le_lo : ∀ {l : List Int}, isBytes l → 0 ≤ le l
  | [], _ => by simp [le]
  | x :: r, h => by
    have h1 := isBytes_cons h
    have h2 := le_lo h1.2
    simp only [le]
    omega
theorem le_hi : ∀ {l : List Int}, isBytes l → le l < pow2 (8 * l.length)
  | [], _ => by simp [le, pow2]
  | x :: r, h => by
    have h1 := isBytes_cons h
    have h2 := le_hi h1.2
    have e : pow2 (8 * (x :: r).length) = 256 * pow2 (8 * r.length) := by
      rw [pow2_split (j := 8) (by simp; omega)]
      have : 8 * (x :: r).length - 8 = 8 * r.length := by simp; omega
      rw [this]
      rfl
    rw [e]
    simp only [le]
    omega
theorem le_append (a b : List Int) : le (a ++ b) = le a + pow2 (8 * a.length) * le b := by
  induction a with
  | nil => simp [le, pow2]
  | cons x r ih =>
    have e : pow2 (8 * (x :: r).length) = 256 * pow2 (8 * r.length) := by
      rw [pow2_split (j := 8) (by simp; omega)]
      have : 8 * (x :: r).length - 8 = 8 * r.length := by simp; omega
      rw [this]
      rfl
    rw [e]
    simp only [List.cons_append, le, ih]
    rw [Int.mul_add, Int.mul_assoc]
    omega
theorem le_leB : ∀ (n : Nat) (v : Int), 0 ≤ v → v < pow2 (8 * n) → le (leB n v) = v
  | 0, v, h0, h1 => by
    simp [pow2] at h1
    simp [leB, le]
    omega
  | n + 1, v, h0, h1 => by
    have e : pow2 (8 * (n + 1)) = 256 * pow2 (8 * n) := by
      rw [pow2_split (j := 8) (by omega)]
      have : 8 * (n + 1) - 8 = 8 * n := by omega
      rw [this]
      rfl
    rw [e] at h1
    have := le_leB n (v / 256) (by omega) (by omega)
    simp only [leB, le, this]
    omega
theorem leB_le : ∀ {l : List Int}, isBytes l → leB l.length (le l) = l
  | [], _ => rfl
  | x :: r, h => by
    have h1 := isBytes_cons h
    have := leB_le h1.2
    simp only [List.length_cons, leB, le]
    have e1 : (x + 256 * le r) % 256 = x := by omega
    have e2 : (x + 256 * le r) / 256 = le r := by omega
    rw [e1, e2, this]
theorem leB_mod : ∀ (n : Nat) (v : Int), leB n (v % pow2 (8 * n)) = leB n v
  | 0, _ => rfl
  | n + 1, v => by
    have e : pow2 (8 * (n + 1)) = 256 * pow2 (8 * n) := by
      rw [pow2_split (j := 8) (by omega)]
      have : 8 * (n + 1) - 8 = 8 * n := by omega
      rw [this]
      rfl
    have hp := pow2_pos (8 * n)
    have e1 : v % pow2 (8 * (n + 1)) % 256 = v % 256 := by
      rw [e]
      exact Int.emod_emod_of_dvd _ ⟨_, rfl⟩
    have e2 : v % pow2 (8 * (n + 1)) / 256 = (v / 256) % pow2 (8 * n) := by
      rw [e]
      have h1 := Int.mul_ediv_add_emod v (256 * pow2 (8 * n))
      have h2 := Int.mul_ediv_add_emod (v / 256) (pow2 (8 * n))
      have h3 : v / 256 / pow2 (8 * n) = v / (256 * pow2 (8 * n)) := Int.ediv_ediv_of_nonneg (by omega)
      rw [h3] at h2
      rw [Int.mul_assoc] at h1
      omega
    simp only [leB, e1, e2, leB_mod n]
/-- byte i of a word -/
theorem leB_getD : ∀ (n i : Nat) (v : Int), i < n → (leB n v).getD i 0 = v / pow2 (8 * i) % 256
  | 0, _, _, h => by omega
  | n + 1, 0, v, _ => by simp [leB, pow2]
  | n + 1, i + 1, v, h => by
    have e : pow2 (8 * (i + 1)) = 256 * pow2 (8 * i) := by
      rw [pow2_split (j := 8) (by omega)]
      have : 8 * (i + 1) - 8 = 8 * i := by omega
      rw [this]
      rfl
    have := leB_getD n i (v / 256) (by omega)
    rw [e, ← Int.ediv_ediv_of_nonneg (by omega)]
    simpa [leB] using this
/-- beyond its highest bit a word has zeros -/
theorem leB_above (n i : Nat) (v : Int) (h0 : 0 ≤ v) (h1 : v < pow2 (8 * i)) (hi : i ≤ n) : leB n v = leB i v ++ List.replicate (n - i) 0 := by
  induction i generalizing n v with
  | zero =>
    have hv : v = 0 := by
      simp [pow2] at h1
      omega
    subst hv
    simp only [leB, List.nil_append, Nat.sub_zero]
    clear h0 h1 hi
    induction n with
    | zero => rfl
    | succ n ih => simp [leB, ih, List.replicate_succ]
  | succ i ih =>
    obtain ⟨m, rfl⟩ : ∃ m, n = m + 1 := ⟨n - 1, by omega⟩
    have e : pow2 (8 * (i + 1)) = 256 * pow2 (8 * i) := by
      rw [pow2_split (j := 8) (by omega)]
      have : 8 * (i + 1) - 8 = 8 * i := by omega
      rw [this]
      rfl
    rw [e] at h1
    have := ih m (v / 256) (by omega) (by omega) (by omega)
    simp only [leB, this]
    have e3 : m + 1 - (i + 1) = m - i := by omega
    rw [e3]
    rfl
theorem leB_take (n i : Nat) (v : Int) (hi : i ≤ n) : (leB n v).take i = leB i v := by
  induction i generalizing n v with
  | zero => simp [leB]
  | succ i ih =>
    obtain ⟨m, rfl⟩ : ∃ m, n = m + 1 := ⟨n - 1, by omega⟩
    simp [leB, ih m (v / 256) (by omega)]
theorem leB_snoc (i : Nat) (v : Int) : leB (i + 1) v = leB i v ++ [v / pow2 (8 * i) % 256] := by
  have h := List.take_append_getElem (l := leB (i + 1) v) (i := i) (by simp [leB_length])
  rw [leB_take (i + 1) i v (by omega)] at h
  have h2 := leB_getD (i + 1) i v (by omega)
  have h3 : (leB (i + 1) v)[i]'(by simp [leB_length]) = (leB (i + 1) v).getD i 0 := by
    simp [List.getD, leB_length]
  rw [h3, h2] at h
  rw [h, List.take_of_length_le (by simp [leB_length])]

/-- one byte laid above the others, by the code's own operations -/
theorem u64_or_above (a b : Int) (k : Nat) (hk : k < 64) (h0 : 0 ≤ a) (h1 : a < pow2 k) (h2 : 0 ≤ b) (h3 : pow2 k * b < 18446744073709551616) :
    bits .or .u64 a (pow2 k * b) = a + pow2 k * b := by
  have hp := pow2_pos k
  have hpl : pow2 k < 18446744073709551616 := pow2_lt (k := 64) hk
  have hb0 : 0 ≤ pow2 k * b := Int.mul_nonneg (by omega) h2
  rw [u64_or a (pow2 k * b) h0 (by omega) hb0 h3]
  have e : (pow2 k * b).toNat = 2 ^ k * b.toNat := by
    unfold pow2
    obtain ⟨m, rfl⟩ := Int.eq_ofNat_of_zero_le h2
    have : ((2 ^ k : Nat) : Int) * (m : Int) = ((2 ^ k * m : Nat) : Int) := by simp
    rw [this]
    rfl
  have h := Nat.two_pow_add_eq_or_of_lt (i := k) (b := a.toNat) (by unfold pow2 at h1; omega) b.toNat
  rw [e, Nat.or_comm, ← h]
  have : ((2 ^ k * b.toNat : Nat) : Int) = pow2 k * b := by
    rw [← e]
    omega
  omega

/-- a byte shifted up, by the code's own operations -/
def shl64 (x : Int) (n : Nat) : Int := IntKind.u64.wrap (x * 2 ^ min n 64)
theorem two_pow_int (n : Nat) : (2 : Int) ^ n = pow2 n := by
  unfold pow2
  simp
theorem byte_shl (x : Int) (i : Nat) (hi : i < 8) (h0 : 0 ≤ x) (h1 : x < 256) : IntKind.u64.wrap (x * 2 ^ min (8 * i) 64) = pow2 (8 * i) * x ∧ pow2 (8 * i) * x < 18446744073709551616 := by
  have e1 : min (8 * i) 64 = 8 * i := by omega
  have e2 : pow2 64 = pow2 (8 * i) * pow2 (64 - 8 * i) := pow2_split (by omega)
  have e3 : pow2 64 = 18446744073709551616 := by decide
  have e4 : (256 : Int) ≤ pow2 (64 - 8 * i) := by
    have : pow2 8 ≤ pow2 (64 - 8 * i) := pow2_le (by omega)
    have e : pow2 8 = 256 := by decide
    omega
  have hp := pow2_pos (8 * i)
  have h5 : pow2 (8 * i) * x < 18446744073709551616 := by
    rw [← e3, e2]
    exact Int.mul_lt_mul_of_pos_left (by omega) (by omega)
  refine ⟨?_, h5⟩
  rw [e1, two_pow_int, Int.mul_comm, IntKind.wrap_u64]
  exact Int.emod_eq_of_lt (Int.mul_nonneg (by omega) h0) h5

theorem take_snoc_getD (l : List Int) (i : Nat) (h : i < l.length) : l.take (i + 1) = l.take i ++ [l.getD i 0] := by
  rw [List.take_succ_eq_append_getElem h]
  simp [List.getD, h]
/-- one round of 'decode' -/
theorem le_step (l : List Int) (hl : isBytes l) (i : Nat) (hi : i < l.length) (h8 : l.length ≤ 8) :
    bits .or .u64 (le (l.take i)) (IntKind.u64.wrap (l.getD i 0 * 2 ^ min (8 * i) 64)) = le (l.take (i + 1)) := by
  have hb := isBytes_at hl i
  have ht := isBytes_take hl i
  have e1 := byte_shl (l.getD i 0) i (by omega) hb.1 hb.2
  have hlen : (l.take i).length = i := by simp; omega
  have hhi := le_hi ht
  rw [hlen] at hhi
  rw [e1.1, u64_or_above _ _ (8 * i) (by omega) (le_lo ht) hhi hb.1 e1.2, take_snoc_getD l i hi, le_append, hlen]
  simp [le]

/-- a word cut to its low bytes -/
theorem le_take (l : List Int) (hl : isBytes l) (k : Nat) (hk : k ≤ l.length) : le (l.take k) = le l % pow2 (8 * k) := by
  have h := le_append (l.take k) (l.drop k)
  rw [List.take_append_drop] at h
  have hlen : (l.take k).length = k := by simp; omega
  rw [hlen] at h
  have h0 := le_lo (isBytes_take hl k)
  have h1 := le_hi (isBytes_take hl k)
  rw [hlen] at h1
  rw [h, Int.add_mul_emod_self_left, Int.emod_eq_of_lt h0 h1]

theorem leL_step (l : List Int) (u : Nat) (h : u < l.length) : le (l.drop u) = 256 * le (l.drop (u + 1)) + l.getD u 0 := by
  rw [List.drop_eq_getElem_cons h]
  simp only [le]
  have e : l[u] = l.getD u 0 := by simp [List.getD, h]
  rw [e]
  omega
theorem le_bd {l : List Int} (hb : isBytes l) (u : Nat) (h8 : l.length ≤ 8) (hu : u < l.length) : 0 ≤ le (l.drop (u + 1)) ∧ le (l.drop (u + 1)) ≤ 72057594037927935 := by
  have h0 := isBytes_drop hb (u + 1)
  have h1 := le_hi h0
  have h2 : pow2 (8 * (l.drop (u + 1)).length) ≤ pow2 56 := pow2_le (by simp; omega)
  have h3 : pow2 56 = 72057594037927936 := by decide
  exact ⟨le_lo h0, by omega⟩
end Go.Proofs.YtfhhgcgbgmilcaaGreat

/- Plain lists of regions: which are valid, and where a range of bytes lies in them. No program in sight. Each lemma names its own bounds. -/
namespace Go.Proofs.YtfhhgcgbgmilcaaGreat
open Go
set_option linter.unusedVariables false

/-- are these regions valid, behind address prev, with so much room? (At, Len) -/
def okR (prev room : Int) : List (Int × Int) → Bool
  | [] => true
  | r :: l => decide (1 ≤ r.2 ∧ r.2 ≤ room ∧ r.1 + r.2 ≤ 18446744073709551616 ∧ prev < r.1) && okR (r.1 + r.2 - 1) (room - r.2) l
theorem okR_cons {prev room : Int} {r : Int × Int} {l : List (Int × Int)} : okR prev room (r :: l) = true ↔ (1 ≤ r.2 ∧ r.2 ≤ room ∧ r.1 + r.2 ≤ 18446744073709551616 ∧ prev < r.1) ∧ okR (r.1 + r.2 - 1) (room - r.2) l = true := by
  simp [okR]
theorem okR_cons_false {prev room : Int} {r : Int × Int} {l : List (Int × Int)} (h : ¬ (1 ≤ r.2 ∧ r.2 ≤ room ∧ r.1 + r.2 ≤ 18446744073709551616 ∧ prev < r.1)) : okR prev room (r :: l) = false := by
  unfold okR
  rw [decide_eq_false h]
  rfl
theorem okR_cons_true {prev room : Int} {r : Int × Int} {l : List (Int × Int)} (h : 1 ≤ r.2 ∧ r.2 ≤ room ∧ r.1 + r.2 ≤ 18446744073709551616 ∧ prev < r.1) : okR prev room (r :: l) = okR (r.1 + r.2 - 1) (room - r.2) l := by
  rw [okR, decide_eq_true h]
  rfl

/-- how many bytes they have -/
def sumR : List (Int × Int) → Nat
  | [] => 0
  | r :: l => r.2.toNat + sumR l
theorem sumR_append (a b : List (Int × Int)) : sumR (a ++ b) = sumR a + sumR b := by
  induction a with
  | nil => simp [sumR]
  | cons r l ih =>
    simp only [List.cons_append, sumR, ih]
    omega
theorem okR_sum {l : List (Int × Int)} : ∀ {prev room : Int}, okR prev room l = true → (sumR l : Int) ≤ room ∨ l = [] := by
  induction l with
  | nil => intro _ _ _; exact Or.inr rfl
  | cons r l ih =>
    intro prev room h
    have h1 := okR_cons.1 h
    left
    rcases ih h1.2 with h2 | h2
    · simp only [sumR]
      omega
    · subst h2
      simp only [sumR]
      omega
theorem okR_len {l : List (Int × Int)} : ∀ {prev room : Int}, okR prev room l = true → l.length ≤ sumR l := by
  induction l with
  | nil => intro _ _ _; exact Nat.zero_le _
  | cons r l ih =>
    intro prev room h
    have h1 := okR_cons.1 h
    have := ih h1.2
    simp only [sumR, List.length_cons]
    omega

/-- region i -/
def at_ (l : List (Int × Int)) (i : Nat) : Int × Int := l.getD i (0, 0)
theorem at_zero (r : Int × Int) (l : List (Int × Int)) : at_ (r :: l) 0 = r := rfl
theorem at_succ (r : Int × Int) (l : List (Int × Int)) (i : Nat) : at_ (r :: l) (i + 1) = at_ l i := by simp [at_]
/-- the bytes ahead of region i -/
def off (l : List (Int × Int)) (i : Nat) : Nat := sumR (l.take i)
theorem off_zero (l : List (Int × Int)) : off l 0 = 0 := by simp [off, sumR]
theorem off_succ_cons (r : Int × Int) (l : List (Int × Int)) (i : Nat) : off (r :: l) (i + 1) = r.2.toNat + off l i := by simp [off, sumR]
theorem off_step (l : List (Int × Int)) (i : Nat) (h : i < l.length) : off l (i + 1) = off l i + (at_ l i).2.toNat := by
  induction l generalizing i with
  | nil => simp at h
  | cons r l ih =>
    cases i with
    | zero => simp [off, sumR, at_]
    | succ i =>
      rw [off_succ_cons, off_succ_cons, at_succ, ih i (by simpa using h)]
      omega
theorem off_all (l : List (Int × Int)) : off l l.length = sumR l := by simp [off]
theorem off_le (l : List (Int × Int)) (i : Nat) : off l i ≤ sumR l := by
  have h := sumR_append (l.take i) (l.drop i)
  rw [List.take_append_drop] at h
  unfold off
  omega
theorem off_room (l : List (Int × Int)) (i : Nat) (h : i < l.length) : off l i + (at_ l i).2.toNat ≤ sumR l := by
  rw [← off_step l i h]
  exact off_le l (i + 1)

/-- what validity says of region i -/
theorem okR_at {l : List (Int × Int)} : ∀ {prev room : Int}, okR prev room l = true → ∀ i, i < l.length → 1 ≤ (at_ l i).2 ∧ (at_ l i).2 ≤ room ∧ (at_ l i).1 + (at_ l i).2 ≤ 18446744073709551616 ∧ prev < (at_ l i).1 := by
  induction l with
  | nil => intro _ _ _ i hi; simp at hi
  | cons r l ih =>
    intro prev room h i hi
    have h1 := okR_cons.1 h
    cases i with
    | zero => exact h1.1
    | succ i =>
      have := ih h1.2 i (by simpa using hi)
      rw [at_succ]
      omega
theorem okR_step {l : List (Int × Int)} : ∀ {prev room : Int}, okR prev room l = true → ∀ i, i + 1 < l.length → (at_ l i).1 + (at_ l i).2 ≤ (at_ l (i + 1)).1 := by
  induction l with
  | nil => intro _ _ _ i hi; simp at hi
  | cons r l ih =>
    intro prev room h i hi
    have h1 := okR_cons.1 h
    cases i with
    | zero =>
      have := okR_at h1.2 0 (by simpa using hi)
      rw [at_zero, at_succ]
      omega
    | succ i =>
      have := ih h1.2 i (by simpa using hi)
      rw [at_succ, at_succ]
      exact this
theorem okR_lt {l : List (Int × Int)} {prev room : Int} (h : okR prev room l = true) (i : Nat) : ∀ (d : Nat), i + d + 1 < l.length → (at_ l i).1 + (at_ l i).2 ≤ (at_ l (i + d + 1)).1
  | 0, hd => okR_step h i hd
  | d + 1, hd => by
    have h1 := okR_lt h i d (by omega)
    have h2 := okR_step h (i + d + 1) hd
    have h3 := okR_at h (i + d + 1) (by omega)
    have e : i + (d + 1) + 1 = i + d + 1 + 1 := by omega
    rw [e]
    omega
theorem okR_mono {l : List (Int × Int)} {prev room : Int} (h : okR prev room l = true) {i j : Nat} (hij : i < j) (hj : j < l.length) : (at_ l i).1 + (at_ l i).2 ≤ (at_ l j).1 := by
  have := okR_lt h i (j - i - 1) (by omega)
  have e : i + (j - i - 1) + 1 = j := by omega
  rw [e] at this
  exact this

/-- where a range of n bytes at an address lies in the image; none if it does not exist -/
def loc (l : List (Int × Int)) (a n : Int) : Option Nat :=
  match l with
  | [] => none
  | r :: t => if r.1 ≤ a ∧ a < r.1 + r.2 ∧ 1 ≤ n ∧ n ≤ r.1 + r.2 - a then some (a - r.1).toNat else (loc t a n).map (r.2.toNat + ·)
theorem loc_some {l : List (Int × Int)} {a n : Int} {k : Nat} (h : loc l a n = some k) : ∃ i, i < l.length ∧ (at_ l i).1 ≤ a ∧ a + n ≤ (at_ l i).1 + (at_ l i).2 ∧ 1 ≤ n ∧ k = off l i + (a - (at_ l i).1).toNat := by
  induction l generalizing k with
  | nil => simp [loc] at h
  | cons r t ih =>
    simp only [loc] at h
    split at h
    · rename_i hc
      injection h with h
      exact ⟨0, by simp, by rw [at_zero]; omega, by rw [at_zero]; omega, by omega, by rw [off_zero, at_zero]; omega⟩
    · cases hl : loc t a n with
      | none => rw [hl] at h; simp at h
      | some k' =>
        rw [hl] at h
        simp at h
        obtain ⟨i, h1, h2, h3, h4, h5⟩ := ih hl
        refine ⟨i + 1, by simpa using h1, by rw [at_succ]; exact h2, by rw [at_succ]; exact h3, h4, ?_⟩
        rw [off_succ_cons, at_succ]
        omega
theorem loc_none {l : List (Int × Int)} {a n : Int} (h : loc l a n = none) : ∀ i, i < l.length → ¬ ((at_ l i).1 ≤ a ∧ a + n ≤ (at_ l i).1 + (at_ l i).2 ∧ 1 ≤ n) := by
  induction l with
  | nil => intro i hi; simp at hi
  | cons r t ih =>
    simp only [loc] at h
    split at h
    · cases h
    · rename_i hc
      have h' : loc t a n = none := by simpa using h
      intro i hi
      cases i with
      | zero => rw [at_zero]; omega
      | succ i => rw [at_succ]; exact ih h' i (by simpa using hi)
theorem loc_mk {l : List (Int × Int)} {prev room : Int} (hok : okR prev room l = true) {a n : Int} {i : Nat} (hi : i < l.length) (h1 : (at_ l i).1 ≤ a) (h2 : a + n ≤ (at_ l i).1 + (at_ l i).2) (h3 : 1 ≤ n) : loc l a n = some (off l i + (a - (at_ l i).1).toNat) := by
  cases h : loc l a n with
  | none => exact (loc_none h i hi ⟨h1, h2, h3⟩).elim
  | some k =>
    obtain ⟨j, g1, g2, g3, g4, g5⟩ := loc_some h
    have hij : i = j := by
      rcases Nat.lt_trichotomy i j with hlt | heq | hgt
      · have := okR_mono hok hlt g1
        omega
      · exact heq
      · have := okR_mono hok hgt hi
        omega
    subst hij
    rw [g5]
theorem loc_no {l : List (Int × Int)} {a n : Int} (h : ∀ i, i < l.length → ¬ ((at_ l i).1 ≤ a ∧ a + n ≤ (at_ l i).1 + (at_ l i).2 ∧ 1 ≤ n)) : loc l a n = none := by
  cases hl : loc l a n with
  | none => rfl
  | some k =>
    obtain ⟨j, g1, g2, g3, g4, _⟩ := loc_some hl
    exact (h j g1 ⟨g2, g3, g4⟩).elim
theorem loc_room {l : List (Int × Int)} {a n : Int} {k : Nat} (h : loc l a n = some k) (hn : 0 ≤ n) : k + n.toNat ≤ sumR l := by
  obtain ⟨i, h1, h2, h3, h4, h5⟩ := loc_some h
  have := off_room l i h1
  omega

/-- what a search over the ends finds: the first region whose end is not ahead of the address -/
structure Found (l : List (Int × Int)) (a : Int) (i : Nat) : Prop where
  le : i ≤ l.length
  before : ∀ j, j < i → (at_ l j).1 + (at_ l j).2 - 1 < a
  here : i < l.length → a ≤ (at_ l i).1 + (at_ l i).2 - 1
theorem Found.nowhere {l : List (Int × Int)} {a n : Int} (h : Found l a l.length) : loc l a n = none :=
  loc_no fun i hi hc => by
    have := h.before i hi
    omega
theorem Found.ahead {l : List (Int × Int)} {prev room : Int} (hok : okR prev room l = true) {a n : Int} {i : Nat} (h : Found l a i) (hi : i < l.length) (ha : a < (at_ l i).1) : loc l a n = none :=
  loc_no fun j hj hc => by
    rcases Nat.lt_trichotomy j i with hlt | heq | hgt
    · have := h.before j hlt
      omega
    · subst heq
      omega
    · have := okR_mono hok hgt hj
      have := okR_at hok i hi
      omega
theorem Found.short {l : List (Int × Int)} {prev room : Int} (hok : okR prev room l = true) {a n : Int} {i : Nat} (h : Found l a i) (hi : i < l.length) (hn : n < 1 ∨ (at_ l i).1 + (at_ l i).2 < a + n) : loc l a n = none :=
  loc_no fun j hj hc => by
    have h2 := h.here hi
    rcases Nat.lt_trichotomy j i with hlt | heq | hgt
    · have := h.before j hlt
      omega
    · subst heq
      omega
    · have := okR_mono hok hgt hj
      have := okR_at hok i hi
      omega

end Go.Proofs.YtfhhgcgbgmilcaaGreat

/- Contracts of package gmem's small functions. Conditions: as each theorem names them. -/
namespace Go.Proofs.YtfhhgcgbgmilcaaGreat
open Go.ChangeShapes Go.WideShapes Go.ChangeAt Go.RowKit
set_option linter.unusedVariables false

/-- the memory's own block -/
abbrev memCells (p ib qb n k : Nat) : List Value := [.pointer (some ⟨p, 0, none⟩), .slice (some ⟨ib, 0, none⟩) n n, .slice (some ⟨qb, 0, none⟩) k k]
/-- the regions, as the memory keeps them -/
def partCells (ib : Nat) : Nat → List (Int × Int) → List Value
  | _, [] => []
  | o, r :: l => .int .u64 r.1 :: .int .u64 (r.1 + r.2 - 1) :: .slice (some ⟨ib, o, none⟩) r.2.toNat r.2.toNat :: partCells ib (o + r.2.toNat) l
theorem partCells_length (ib : Nat) : ∀ (o : Nat) (l : List (Int × Int)), (partCells ib o l).length = 3 * l.length
  | _, [] => rfl
  | o, r :: l => by
    simp only [partCells, List.length_cons, partCells_length ib _ l]
    omega
theorem partCells_at (ib : Nat) : ∀ (o : Nat) (l : List (Int × Int)) (i : Nat), i < l.length → (partCells ib o l)[i * 3]? = some (.int .u64 (at_ l i).1) ∧ (partCells ib o l)[i * 3 + 1]? = some (.int .u64 ((at_ l i).1 + (at_ l i).2 - 1)) ∧ (partCells ib o l)[i * 3 + 2]? = some (.slice (some ⟨ib, o + off l i, none⟩) (at_ l i).2.toNat (at_ l i).2.toNat)
  | _, [], i, h => by simp at h
  | o, r :: l, 0, _ => by simp [partCells, at_, off, sumR]
  | o, r :: l, i + 1, h => by
    have := partCells_at ib (o + r.2.toNat) l i (by simpa using h)
    have e : (i + 1) * 3 = i * 3 + 1 + 1 + 1 := by omega
    rw [at_succ, off_succ_cons, ← Nat.add_assoc, e]
    simpa [partCells] using this

/-- A memory with regions L and bytes M: its object p, its image ib, its parts qb. -/
structure IsMem (w : World) (p ib qb : Nat) (L : List (Int × Int)) (M : List Int) : Prop where
  obj : w.heap[p]? = some (.cells (memCells p ib qb M.length L.length).toArray 132 (0, 0))
  img : w.heap[ib]? = some (.cells (M.map (Value.int .u8)).toArray 5 (0, 0))
  prt : w.heap[qb]? = some (.cells (partCells ib 0 L).toArray 135 (0, 0))
  ok : okR (-1) 1048576 L = true
  n16 : L.length ≤ 16
  len : M.length = sumR L
  rng : isBytes M
  ne1 : p ≠ ib
  ne2 : p ≠ qb
  ne3 : ib ≠ qb

theorem IsMem.keep {w w' : World} {p ib qb : Nat} {L : List (Int × Int)} {M : List Int} (h : IsMem w p ib qb L M) {S : Nat → Prop} (hc : Chg S w w') (h1 : ¬ S p) (h2 : ¬ S ib) (h3 : ¬ S qb) : IsMem w' p ib qb L M :=
  ⟨hc.keep h.obj h1, hc.keep h.img h2, hc.keep h.prt h3, h.ok, h.n16, h.len, h.rng, h.ne1, h.ne2, h.ne3⟩
theorem IsMem.below {w w' : World} {p ib qb : Nat} {L : List (Int × Int)} {M : List Int} (h : IsMem w p ib qb L M) (hb : Below w.heap.size w w') : IsMem w' p ib qb L M :=
  h.keep (S := fun _ => False) (Chg.of_below hb) (fun h => h) (fun h => h) (fun h => h)
theorem IsMem.sum {w : World} {p ib qb : Nat} {L : List (Int × Int)} {M : List Int} (h : IsMem w p ib qb L M) : M.length ≤ 1048576 := by
  rw [h.len]
  rcases okR_sum h.ok with h1 | h1
  · omega
  · rw [h1]
    simp [sumR]
theorem IsMem.drewN {w : World} {p ib qb : Nat} {L : List (Int × Int)} {M : List Int} (h : IsMem w p ib qb L M) (n : Nat) : IsMem (w.drewN n) p ib qb L M := h.below (below_drewN w n)

/-! ## last -/
def lastI (a n : Int) : Int := IntKind.u64.wrap (a + IntKind.u64.wrap (n - 1))
theorem lastI_ok {a n : Int} (h0 : 0 ≤ a) (h1 : 1 ≤ n) (h2 : a + n ≤ 18446744073709551616) : lastI a n = a + n - 1 := by
  unfold lastI
  rw [IntKind.wrap_u64, IntKind.wrap_u64]
  omega
theorem last_any (a n : Int) (w : World) :
    Calls Tryz.prog 54 #[.agg #[.int .u64 a, .int .u64 n]] w fun e w' => e = .returned (.int .u64 (lastI a n)) ∧ Below w.heap.size w w' := by
  go_enter Tryz.func54, Tryz.ntmps54
  go_wp2
  go_ret
  exact ⟨rfl, (Below.refl _ _).alloc (Nat.le_refl _) _⟩

/-! ## made -/
theorem drewN_drewN (w : World) (a b : Nat) : (w.drewN a).drewN b = w.drewN (a + b) := by
  show ({ w with drawn := w.drawn + a + b } : World) = { w with drawn := w.drawn + (a + b) }
  rw [Nat.add_assoc]
theorem infoMem : (Tryz.prog.info? 132).isSome = true := by kernel_rfl
theorem made_nil (w : World) : Calls Tryz.prog 30 #[.pointer none] w fun e w' => e = .returned (.bool false) ∧ w = w' := by
  go_enter Tryz.func30, Tryz.ntmps30
  go_wp2
  go_ret
  exact ⟨rfl, rfl⟩
theorem made_yes (p : Nat) (w : World) (h : w.cell? ⟨p, 0, none⟩ = some (.pointer (some ⟨p, 0, none⟩))) : Calls Tryz.prog 30 #[.pointer (some ⟨p, 0, none⟩)] w fun e w' => e = .returned (.bool true) ∧ w = w' := by
  obtain ⟨j, hj⟩ := Option.isSome_iff_exists.1 infoMem
  have heq : ∀ w : World, (binOp .eql 29 (.pointer (some ⟨p, 0, none⟩)) (.pointer (some ⟨p, 0, none⟩))).run Tryz.prog w = .ok (.bool true) w := fun w => run_eql_ptr_same w _ Tryz.underlying29 hj
  go_enter Tryz.func30, Tryz.ntmps30
  go_wp2
  go_ret
  exact ⟨rfl, rfl⟩

/-! ## decode -/
/-! ## the search over the ends -/
theorem end_any (p ib qb pb ab : Nat) (L : List (Int × Int)) (M : List Int) (a : Int) (k : Nat) (w : World) (h : IsMem w p ib qb L M) (hp : w.cell? ⟨pb, 0, none⟩ = some (.pointer (some ⟨p, 0, none⟩))) (ha : w.cell? ⟨ab, 0, none⟩ = some (.int .u64 a)) (hk : k < L.length) :
    Calls Tryz.prog 64 #[.int .i64 k, .pointer (some ⟨pb, 0, none⟩), .pointer (some ⟨ab, 0, none⟩)] w fun e w' => e = .returned (.bool (decide (a ≤ (at_ L k).1 + (at_ L k).2 - 1))) ∧ ∃ n, w' = w.drewN n := by
  have hq := partCells_at ib 0 L k hk
  have hc := (cellK h.prt (k * 3 + 1)).trans hq.2.1
  have ho := (cellK h.obj 2)
  have hn := h.n16
  simp at ho
  clear h hq
  have hkz : (k : Int) < (L.length : Int) := by omega
  generalize (at_ L k).1 + (at_ L k).2 - 1 = y at hc ⊢
  go_enter Tryz.func64, Tryz.ntmps64
  go_wp2
  go_quiet (fail)
  go_wp2
  go_ret
  exact ⟨rfl, _, rfl⟩

/-! ## sort.Search -/
/-- a search for the first place at which p holds, p once true staying so: any closure that answers p and turns nothing -/
theorem search_any (g : Nat) (cb : Array Value) (n : Nat) (q : Nat → Bool) (w : World) (eg : ∀ args w, (callFunc g args).run Tryz.prog w = .ok (.enter g args) w) (hsz : n < 4611686018427387904)
    (hf : ∀ (m i : Nat), i < n → Calls Tryz.prog g (#[.int .i64 i] ++ cb) (w.drewN m) fun e w' => e = .returned (.bool (q i)) ∧ ∃ k, w' = (w.drewN m).drewN k)
    (hmono : ∀ a b, a ≤ b → b < n → q a = true → q b = true) :
    Calls Tryz.prog 63 #[.int .i64 n, .func (.func g) #[] cb] w fun e w' => ∃ r : Nat, e = .returned (.int .i64 r) ∧ (r ≤ n ∧ (∀ t, t < r → q t = false) ∧ (r < n → q r = true)) ∧ ∃ k, w' = w.drewN k := by
  have HF : Aside _ := hf
  have HM : Aside _ := hmono
  clear hf hmono
  go_enter Tryz.func63, Tryz.ntmps63
  go_wp2
  go_loopg [5, 6] n (fun kx s5 s6 wr => ∃ (lo hi m : Nat), s5 = .int .i64 lo ∧ s6 = .int .i64 hi ∧ lo ≤ hi ∧ hi ≤ n ∧ hi - lo ≤ kx ∧ wr = w.drewN m ∧
    Aside ((∀ t, t < lo → q t = false) ∧ (∀ t, hi ≤ t → t < n → q t = true)))
  case atStart => exact ⟨0, n, 0, rfl, rfl, Nat.zero_le _, Nat.le_refl _, by omega, rfl, (⟨fun t ht => absurd ht (Nat.not_lt_zero _), fun t h1 h2 => by omega⟩ : (∀ t, t < 0 → q t = false) ∧ (∀ t, n ≤ t → t < n → q t = true))⟩
  case round =>
    obtain ⟨lo, hi, m, rfl, rfl, hlh, hin, hg, rfl, I⟩ := hrel
    by_cases hlt : lo < hi
    · have hc := HF.out m ((lo + hi) / 2) (by omega)
      rw [show (((lo + hi) / 2 : Nat) : Int) = ((lo : Int) + (hi : Int)) / 2 by omega] at hc
      cases hp : q ((lo + hi) / 2) <;> rw [hp] at hc
      · have HP : Aside (q ((lo + hi) / 2) = false) := hp
        clear hp
        go_wp2_with (go_at_fn g; refine hc.mono ?_; rintro e w' ⟨rfl, nq, rfl⟩)
        go_roundg (hi - ((lo + hi) / 2 + 1))
        case measure => omega
        case rel =>
          have I2 : Aside ((∀ t, t < (lo + hi) / 2 + 1 → q t = false) ∧ (∀ t, hi ≤ t → t < n → q t = true)) := ⟨fun t ht => (by
            cases h : q t with
            | false => rfl
            | true => have := HM.out t ((lo + hi) / 2) (by omega) (by omega) h; rw [HP.out] at this; cases this), I.out.2⟩
          exact ⟨(lo + hi) / 2 + 1, hi, m + nq, by rw [show ((lo : Int) + (hi : Int)) / 2 + 1 = (((lo + hi) / 2 + 1 : Nat) : Int) by omega], rfl, by omega, hin, Nat.le_refl _, rfl, I2⟩
      · have HP : Aside (q ((lo + hi) / 2) = true) := hp
        clear hp
        go_wp2_with (go_at_fn g; refine hc.mono ?_; rintro e w' ⟨rfl, nq, rfl⟩)
        go_roundg ((lo + hi) / 2 - lo)
        case measure => omega
        case rel =>
          have I2 : Aside ((∀ t, t < lo → q t = false) ∧ (∀ t, (lo + hi) / 2 ≤ t → t < n → q t = true)) := ⟨I.out.1, fun t ht htn => HM.out ((lo + hi) / 2) t ht htn HP.out⟩
          exact ⟨lo, (lo + hi) / 2, m + nq, rfl, by rw [show ((lo : Int) + (hi : Int)) / 2 = (((lo + hi) / 2 : Nat) : Int) by omega], by omega, by omega, Nat.le_refl _, rfl, I2⟩
    · obtain rfl : hi = lo := by omega
      go_wp2
      go_ret
      exact ⟨hi, rfl, ⟨hin, I.out.1, fun h => I.out.2 hi (Nat.le_refl _) h⟩, m, rfl⟩
end Go.Proofs.YtfhhgcgbgmilcaaGreat
