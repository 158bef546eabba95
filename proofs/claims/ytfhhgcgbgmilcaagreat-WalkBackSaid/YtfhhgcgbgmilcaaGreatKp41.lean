/- We0 We1 We2: joined texts. Conditions: as each theorem names them. -/
import Derived.Test.YtfhhgcgbgmilcaaGreatKp40
/- Layer 10, plain facts: how much a walk reads, what its answers are. No program in sight. -/
namespace Go.Proofs.YtfhhgcgbgmilcaaGreat
open Go
set_option linter.unusedVariables false
set_option maxRecDepth 100000

theorem wstop_e {e : Int} (x : Wst) (he : e ≠ 0) : (wstop e x).e ≠ 0 := by
  unfold wstop
  by_cases h : x.e = 0
  · rw [if_pos h]
    exact he
  · rw [if_neg h]
    exact h
/-- a walk reads no fewer descriptors than it finds segments, and at most so many -/
structure Rds (x y : Wst) (m : Nat) : Prop where
  up : x.n ≤ y.n
  le : y.n ≤ x.n + m
  sg : x.S.length ≤ x.n → y.S.length ≤ y.n
theorem Rds.refl (x : Wst) (m : Nat) : Rds x x m := ⟨Nat.le_refl _, by omega, fun h => h⟩
theorem Rds.stop (e : Int) (x : Wst) (m : Nat) : Rds x (wstop e x) m := by
  obtain ⟨h1, h2⟩ := wstop_S e x
  exact ⟨by rw [h2]; exact Nat.le_refl _, by rw [h2]; omega, fun h => by rw [h1, h2]; exact h⟩
theorem Rds.mono {x y : Wst} {m k : Nat} (h : Rds x y m) (hk : m ≤ k) : Rds x y k := ⟨h.up, by have := h.le; omega, h.sg⟩
theorem Rds.trans {x y z : Wst} {m k : Nat} (h : Rds x y m) (g : Rds y z k) : Rds x z (m + k) := ⟨Nat.le_trans h.up g.up, by have := h.le; have := g.le; omega, fun q => g.sg (h.sg q)⟩
theorem Rds.one (x : Wst) : Rds x (wone x) 1 := ⟨by simp [wone], by simp [wone], fun h => by simp [wone]; omega⟩
theorem Rds.seg (a l f : Int) (x : Wst) : Rds x (wseg a l f (wone x)) 1 := ⟨by simp [wseg, wone], by simp [wseg, wone], fun h => by simp [wseg, wone]; omega⟩
theorem wch_rds {R : List (Int × Int)} {M : List Int} (at_ size : Int) (hs : 0 ≤ size) (inner table : Bool) (tab : Int → Int → Wst → Wst) (q : Nat) (ht : ∀ a l x, Rds x (tab a l x) q) :
    ∀ (f : Nat) (seen : List Int) (k : Int) (x : Wst), SeenOK size seen → Rds x (wch R M at_ size inner table tab f seen k x) (size.toNat - seen.length + q)
  | 0, _, _, x, _ => Rds.refl x _
  | f + 1, seen, k, x, ho => by
    rw [wch_succ]
    split
    · exact Rds.stop _ _ _
    rename_i h1
    split
    · exact Rds.stop _ _ _
    rename_i h2
    have hn := ho.snoc (k := k) (by simpa using h1) (by simpa using h2)
    have hl := hn.len hs
    rw [List.length_append, List.length_singleton] at hl
    cases hd : dscAt R M (at_ + 16 * k) with
    | none => exact Rds.stop _ _ _
    | some d =>
      simp only
      split
      · split
        · exact ((Rds.one x).trans (Rds.stop 4 _ 0)).mono (by omega)
        · exact ((Rds.one x).trans (ht _ _ _)).mono (by omega)
      · split
        · refine ((Rds.seg d.a d.l d.f x).trans (wch_rds at_ size hs inner table tab q ht f _ _ _ hn)).mono ?_
          rw [List.length_append, List.length_singleton]
          omega
        · exact (Rds.seg d.a d.l d.f x).mono (by omega)
theorem wenE_le {R : List (Int × Int)} {a l : Int} (h : wenE R a l = 0) : l / 16 ≤ 64 := by
  rcases wenE_cases R a l with ⟨_, _, _, h3, _⟩ | ⟨e, _⟩ | ⟨e, _⟩
  · exact h3
  · rw [e] at h
    cases h
  · rw [e] at h
    cases h
theorem wtab_rds {R : List (Int × Int)} {M : List Int} (a l : Int) (x : Wst) : Rds x (wtab R M a l x) 64 := by
  unfold wtab
  by_cases h : wenE R a l = 0
  · rw [if_pos h]
    have hle := wenE_le h
    by_cases hl : 0 ≤ l
    · exact (wch_rds a (l / 16) (by omega) true true _ 0 (fun _ _ x => Rds.refl x 0) _ [] 0 x (SeenOK.nil _)).mono (by simp; omega)
    · rw [wch_succ]
      split
      · exact Rds.stop _ _ _
      split
      · exact Rds.stop _ _ _
      · rename_i h2
        have := okI_iff.1 (show okI (l / 16) 0 = true by simpa using h2)
        omega
  · rw [if_neg h]
    exact Rds.stop _ _ _
theorem wspl_rds (R : List (Int × Int)) (M : List Int) (d n head : Int) (hn : 0 ≤ n) (table : Bool) : (wspl R M d n head table).n ≤ n.toNat + 64 ∧ (wspl R M d n head table).S.length ≤ (wspl R M d n head table).n := by
  have h := wch_rds (R := R) (M := M) d n hn false table (wtab R M) 64 (fun a l x => wtab_rds a l x) (n.toNat + 1) [] head ⟨[], 0, 0⟩ (SeenOK.nil _)
  have h1 := h.le
  have h2 := h.sg (by simp)
  unfold wspl
  simp at h1
  exact ⟨by omega, h2⟩
/-- an answer and its buffer: a valid one that exists, or an error and none -/
theorem wnd_good {R : List (Int × Int)} {x : Wst} (h : wndE R x = 0) : x.e = 0 ∧ mayE x.S = 0 ∧ inE R x.S = 0 := by
  unfold wndE at h
  by_cases h1 : x.e = 0
  · rw [if_pos h1] at h
    by_cases h2 : mayE x.S = 0
    · rw [if_pos h2] at h
      exact ⟨h1, h2, h⟩
    · rw [if_neg h2] at h
      omega
  · rw [if_neg h1] at h
    exact absurd h h1
theorem nee_of {E : Int} {L : List Sg} (h0 : E = 0 → mayE L = 0) (h1 : E ≠ 0 → L = []) : neeN L true = if E = 0 then 1 else 0 := by
  by_cases h : E = 0
  · rw [if_pos h]
    unfold neeN
    rw [if_pos (h0 h)]
    rfl
  · rw [if_neg h, h1 h]
    rfl
theorem in_has {R : List (Int × Int)} {L : List Sg} (h : inE R L = 0) : ∀ i, i < L.length → (loc R (sat L i).a (sat L i).n).isSome = true := by
  intro i hi
  unfold inE at h
  split at h
  · split at h
    · rename_i h2
      unfold allIn at h2
      rw [List.all_eq_true] at h2
      refine h2 _ ?_
      unfold sat
      rw [List.getD_eq_getElem?_getD, List.getElem?_eq_getElem hi]
      exact List.getElem_mem hi
    · omega
  · exact absurd h (by assumption)
structure Good (R : List (Int × Int)) (E : Int) (L : List Sg) : Prop where
  nee : neeN L true = if E = 0 then 1 else 0
  has : ∀ i, i < L.length → (loc R (sat L i).a (sat L i).n).isSome = true
  len : L.length ≤ 64
theorem good_of {R : List (Int × Int)} {E : Int} {L : List Sg} (h0 : E = 0 → mayE L = 0 ∧ inE R L = 0) (h1 : E ≠ 0 → L = []) : Good R E L := by
  refine ⟨nee_of (fun h => (h0 h).1) h1, ?_, ?_⟩
  · by_cases h : E = 0
    · exact in_has (h0 h).2
    · rw [h1 h]
      intro i hi
      simp at hi
  · by_cases h : E = 0
    · exact mayE_len (h0 h).1
    · rw [h1 h]
      simp
theorem ws_good (R : List (Int × Int)) (M : List Int) (pk : Bool) (n d g c head : Int) (table : Bool) : Good R (wsE R M pk n d g c head table) (wsL R M pk n d g c head table) := by
  refine good_of (fun h => ?_) (fun h => ?_)
  · unfold wsE at h
    unfold wsL
    split at h
    · rename_i h2
      rw [if_pos h2]
      unfold wndL
      rw [if_pos h]
      exact (wnd_good h).2
    · exact absurd h (by assumption)
  · unfold wsE at h
    unfold wsL
    split at h
    · rename_i h2
      rw [if_pos h2]
      unfold wndL
      rw [if_neg h]
    · rename_i h2
      rw [if_neg h2]
theorem ws_reads (R : List (Int × Int)) (M : List Int) (pk : Bool) (n d g c head : Int) (hn : 0 ≤ n) (table : Bool) : (wsN R M pk n d g c head table : Int) ≤ n + 64 ∧ (wsE R M pk n d g c head table = 0 → 1 ≤ wsN R M pk n d g c head table) := by
  obtain ⟨h1, h2⟩ := wspl_rds R M d n head hn table
  unfold wsE wsN
  split
  · refine ⟨by omega, fun h => ?_⟩
    have := (mayE_ok (wnd_good h).2.1).2
    omega
  · exact ⟨by simp; omega, fun h => absurd h (by assumption)⟩
theorem wp_good (R : List (Int × Int)) (M : List Int) (pk : Bool) (n d g c p : Int) (table : Bool) : Good R (wpE R M pk n d g c p table) (wpL R M pk n d g c p table) := by
  refine good_of (fun h => ?_) (fun h => ?_)
  · unfold wpL
    rw [if_pos h]
    unfold wpE at h
    split at h
    · split at h
      · exact (wnd_good h).2
      · omega
    · exact absurd h (by assumption)
  · unfold wpL
    rw [if_neg h]
/-- how far a packed walk counts, and what its ID is -/
theorem wpk_cid {R : List (Int × Int)} {M : List Int} (hok : okR (-1) 1048576 R = true) (hM : M.length = sumR R) (hB : isBytes M) (d n : Int) (table : Bool) : ∀ (f : Nat) (p : Int) (s : Pst), (s.c : Int) ≤ n → 0 ≤ s.id → s.c ≤ (wpk R M d n table f p s).c ∧ ((wpk R M d n table f p s).c : Int) ≤ n ∧ 0 ≤ (wpk R M d n table f p s).id ∧ (1 ≤ f → (s.c : Int) = n ∨ (wpk R M d n table f p s).x.e ≠ 0 ∨ s.c + 1 ≤ (wpk R M d n table f p s).c)
  | 0, _, s, h1, h2 => ⟨Nat.le_refl _, h1, h2, fun h => by omega⟩
  | f + 1, p, s, h1, h2 => by
    rw [wpk_succ]
    split
    · exact ⟨Nat.le_refl _, h1, h2, fun _ => .inl (by assumption)⟩
    cases hd : dscAt R M (d + 16 * p) with
    | none => exact ⟨Nat.le_refl _, h1, h2, fun _ => .inr (.inl (wstop_e _ (by decide)))⟩
    | some q =>
      have hi := dsc_is hok hM hB hd
      have hf := hi.f
      simp only
      split
      · exact ⟨by simp only; omega, by simp only; omega, hf.1, fun _ => .inr (.inr (by simp only; omega))⟩
      · split
        · obtain ⟨g1, g2, g3, _⟩ := wpk_cid hok hM hB d n table f (goA p 1 n) ⟨wseg q.a q.l q.n s.x, q.f, s.c + 1⟩ (by simp only; omega) hf.1
          simp only at g1
          exact ⟨by omega, g2, g3, fun _ => .inr (.inr (by omega))⟩
        · exact ⟨by simp only; omega, by simp only; omega, hf.1, fun _ => .inr (.inr (by simp only; omega))⟩
theorem wp_cid {R : List (Int × Int)} {M : List Int} (hok : okR (-1) 1048576 R = true) (hM : M.length = sumR R) (hB : isBytes M) (pk : Bool) (n d g c p : Int) (table : Bool) (hn : 1 ≤ n) (h : wpE R M pk n d g c p table = 0) : 0 ≤ wpI R M pk n d g c p table ∧ wpI R M pk n d g c p table < n ∧ 1 ≤ wpC R M pk n d g c p table ∧ (wpC R M pk n d g c p table : Int) ≤ n := by
  unfold wpI wpC
  rw [if_pos h, if_pos h]
  unfold wpE at h
  split at h
  · split at h
    · obtain ⟨h1, h2, h3, h4⟩ := wpk_cid hok hM hB d n table (n.toNat + 1) p ⟨⟨[], 0, 0⟩, 0, 0⟩ (by simp; omega) (by simp)
      have h5 := (wnd_good h).1
      unfold wpkX at h5
      change ((wpkS R M d n p table).c : Int) ≤ n at h2
      change 0 ≤ (wpkS R M d n p table).id at h3
      have h4 := h4 (by omega)
      change ((0 : Nat) : Int) = n ∨ (wpkS R M d n p table).x.e ≠ 0 ∨ 0 + 1 ≤ (wpkS R M d n p table).c at h4
      by_cases hid : n ≤ (wpkS R M d n p table).id
      · rw [if_pos hid] at h5
        exact absurd h5 (wstop_e _ (by decide))
      · rw [if_neg hid] at h5
        exact ⟨h3, by omega, by omega, h2⟩
    · omega
  · exact absurd h (by assumption)
end Go.Proofs.YtfhhgcgbgmilcaaGreat

/- Layer 10, plain facts: one region of 12,000 bytes; a way through a ring. No program in sight. -/
namespace Go.Proofs.YtfhhgcgbgmilcaaGreat
open Go
set_option linter.unusedVariables false
set_option maxRecDepth 100000

theorem getD_ext {a b : List Int} (hl : a.length = b.length) (h : ∀ i, i < a.length → a.getD i 0 = b.getD i 0) : a = b := by
  refine List.ext_getElem hl (fun i h1 h2 => ?_)
  have := h i h1
  rw [List.getD_eq_getElem?_getD, List.getD_eq_getElem?_getD, List.getElem?_eq_getElem h1, List.getElem?_eq_getElem h2] at this
  exact this
theorem row_getD (M : List Int) (a n i : Nat) (hi : i < n) : ((M.drop a).take n).getD i 0 = M.getD (a + i) 0 := by
  simp [List.getD_eq_getElem?_getD, hi, List.getElem?_drop]
/-- what is read where nothing was put -/
theorem put_other {M : List Int} {k a n : Nat} {l : List Int} (h : k + l.length ≤ M.length) (hd : a + n ≤ k ∨ k + l.length ≤ a) : ((put M k l).drop a).take n = (M.drop a).take n := by
  refine getD_ext (by simp [put_length M k l h]) (fun i hi => ?_)
  have hi2 : i < n := by
    rw [List.length_take] at hi
    omega
  rw [row_getD _ _ _ _ hi2, row_getD _ _ _ _ hi2, put_getD M k l h, if_neg (by omega)]
theorem put_same {M : List Int} {k : Nat} {l : List Int} (h : k + l.length ≤ M.length) : ((put M k l).drop k).take l.length = l := by
  have hl : ((put M k l).drop k).take l.length = l := by
    refine getD_ext (by simp [put_length M k l h]; omega) (fun i hi => ?_)
    have hi2 : i < l.length := by
      rw [List.length_take] at hi
      omega
    rw [row_getD _ _ _ _ hi2, put_getD M k l h, if_pos (by omega), show k + i - k = i by omega]
  exact hl
theorem loc10 {a : Nat} {n : Int} (h1 : 1 ≤ n) (h2 : (a : Int) + n ≤ 12000) : loc R10 (a : Int) n = some a := by
  unfold loc
  rw [if_pos ⟨by simp, by simp; omega, h1, by simp; omega⟩]
  simp
theorem write10 {M : List Int} {a : Nat} {l : List Int} (h1 : 1 ≤ l.length) (h2 : a + l.length ≤ 12000) : writeM R10 M (a : Int) l = put M a l := by
  unfold writeM
  rw [loc10 (by omega) (by omega)]
theorem read10 {M : List Int} {a : Nat} (h : a + 16 ≤ 12000) : readE R10 (a : Int) 16 = 0 ∧ readL R10 M (a : Int) 16 = (M.drop a).take 16 := by
  unfold readE readL
  rw [loc10 (by omega) (by omega)]
  exact ⟨by simp, rfl⟩
theorem dscAt10 {M : List Int} {a : Nat} {d : Dsc} (h : a + 16 ≤ 12000) (hd : isDsc d) (hm : (M.drop a).take 16 = dB d) : dscAt R10 M (a : Int) = some d := by
  unfold dscAt
  obtain ⟨h1, h2⟩ := read10 (M := M) h
  rw [if_pos h1, h2, hm, dR_dB hd]

/-! ### a way -/
def wy (h s n i : Nat) : Nat := (h + i * s) % n
theorem odd_cop (q : Nat) : Nat.Coprime 2 (2 * q + 1) := by
  rw [Nat.Coprime, Nat.gcd_rec, show (2 * q + 1) % 2 = 1 by omega]
  rfl
theorem wy_lt {h s n i : Nat} (hn : 0 < n) : wy h s n i < n := Nat.mod_lt _ hn
theorem wy_le {t q h i j : Nat} (hi : i < 2 ^ t) (hji : j ≤ i) (he : wy h (2 * q + 1) (2 ^ t) i = wy h (2 * q + 1) (2 ^ t) j) : i = j := by
  unfold wy at he
  have h1 := Nat.sub_mod_eq_zero_of_mod_eq he
  rw [show h + i * (2 * q + 1) - (h + j * (2 * q + 1)) = (i - j) * (2 * q + 1) by rw [Nat.sub_mul]; omega] at h1
  have h2 := ((odd_cop q).pow_left t).dvd_of_dvd_mul_right (Nat.dvd_of_mod_eq_zero h1)
  have h3 : i - j = 0 := Nat.eq_zero_of_dvd_of_lt h2 (by omega)
  omega
theorem wy_inj {t q h i j : Nat} (hi : i < 2 ^ t) (hj : j < 2 ^ t) (he : wy h (2 * q + 1) (2 ^ t) i = wy h (2 * q + 1) (2 ^ t) j) : i = j := by
  by_cases h1 : j ≤ i
  · exact wy_le hi h1 he
  · exact (wy_le hj (by omega) he.symm).symm

/-! ### a chain along a way -/
section
variable (Z : List Int) (W : Nat → Nat) (m b : Nat) (o : Bool)
/-- the descriptor at the i-th place of the way; o: it leads back -/
def onD (i : Nat) : Dsc := ⟨8000 + (i : Int), 1, if i + 1 < m ∨ o = true then 1 else 0, if i + 1 < m then (W (i + 1) : Int) else (W b : Int)⟩
def onM : Nat → List Int
  | 0 => Z
  | k + 1 => put (onM k) (16 * W k) (dB (onD W m b o k))
def sgO (k : Nat) : List Sg := (List.range k).map fun (i : Nat) => ⟨8000 + (i : Int), 1, false⟩
end
theorem sgO_len (k : Nat) : (sgO k).length = k := by simp [sgO]
theorem sgO_succ (k : Nat) : sgO (k + 1) = sgO k ++ [⟨8000 + (k : Int), 1, false⟩] := by simp [sgO, List.range_succ]
theorem sgO_at {k i : Nat} (h : i < k) : sat (sgO k) i = ⟨8000 + (i : Int), 1, false⟩ := by simp [sat, sgO, List.getD_eq_getElem?_getD, h]
theorem sgO_ok : ∀ m : Fin 65, 1 ≤ m.val → mayE (sgO m.val) = 0 ∧ inE R10 (sgO m.val) = 0 := by decide +kernel
section
variable {Z : List Int} {W : Nat → Nat} {m b n : Nat} {o : Bool}
theorem onD_is (hW : ∀ i, W i < n) (hn : n ≤ 64) {i : Nat} (hi : i ≤ 64) : isDsc (onD W m b o i) := by
  have h1 := hW (i + 1)
  have h2 := hW b
  refine ⟨?_, ?_, ?_, ?_⟩
  · unfold onD; constructor <;> simp only <;> omega
  · unfold onD; constructor <;> simp only <;> omega
  · unfold onD; constructor <;> simp only <;> split <;> omega
  · unfold onD; constructor <;> simp only <;> split <;> omega
theorem onM_length (hZ : Z.length = 12000) (hW : ∀ i, W i < n) (hn : n ≤ 64) : ∀ k, (onM Z W m b o k).length = 12000
  | 0 => hZ
  | k + 1 => by
    have := hW k
    have hl := dB_length (onD W m b o k)
    rw [onM, put_length _ _ _ (by rw [onM_length hZ hW hn k, hl]; omega), onM_length hZ hW hn k]
theorem onM_at (hZ : Z.length = 12000) (hW : ∀ i, W i < n) (hn : n ≤ 64) (hj : ∀ i j, i < m → j < m → W i = W j → i = j) : ∀ (k : Nat), k ≤ m → ∀ i, i < k → ((onM Z W m b o k).drop (16 * W i)).take 16 = dB (onD W m b o i)
  | 0, _, i, hi => by omega
  | k + 1, hk, i, hi => by
    have h1 := hW k
    have h2 := hW i
    have hl := dB_length (onD W m b o k)
    have hM := onM_length (m := m) (b := b) (o := o) hZ hW hn k
    rw [onM]
    by_cases e : i = k
    · subst e
      have := put_same (M := onM Z W m b o i) (k := 16 * W i) (l := dB (onD W m b o i)) (by rw [hM, hl]; omega)
      rwa [hl] at this
    · have hne : W i ≠ W k := fun q => e (hj i k (by omega) (by omega) q)
      rw [put_other (by rw [hM, hl]; omega) (by rw [hl]; omega)]
      exact onM_at hZ hW hn hj k (by omega) i (by omega)
theorem onM_desc (hZ : Z.length = 12000) (hW : ∀ i, W i < n) (hn : n ≤ 64) (hm : m ≤ n) (hj : ∀ i j, i < m → j < m → W i = W j → i = j) {i : Nat} (hi : i < m) : dscAt R10 (onM Z W m b o m) (0 + 16 * (W i : Int)) = some (onD W m b o i) := by
  have h2 := hW i
  have := dscAt10 (a := 16 * W i) (by omega) (onD_is (o := o) (m := m) (b := b) hW hn (by omega)) (onM_at (b := b) (o := o) hZ hW hn hj m (Nat.le_refl _) i hi)
  rw [← this]
  congr 1
  push_cast
  omega
def wyI (W : Nat → Nat) (k : Nat) : List Int := (List.range k).map fun (i : Nat) => (W i : Int)
theorem wyI_succ (W : Nat → Nat) (k : Nat) : wyI W (k + 1) = wyI W k ++ [(W k : Int)] := by simp [wyI, List.range_succ]
theorem wyI_not (hj : ∀ i j, i < m → j < m → W i = W j → i = j) {k : Nat} (hk : k < m) : inB (wyI W k) (W k : Int) = false := by
  unfold inB wyI
  refine decide_eq_false fun h => ?_
  obtain ⟨i, h1, h2⟩ := List.mem_map.1 h
  have h1 := List.mem_range.1 h1
  have := hj i k (by omega) hk (by omega)
  omega
theorem wyI_in {k i : Nat} (h : i < k) : inB (wyI W k) (W i : Int) = true := by
  unfold inB wyI
  exact decide_eq_true (List.mem_map.2 ⟨i, List.mem_range.2 h, rfl⟩)
theorem once_chain (hZ : Z.length = 12000) (hW : ∀ i, W i < n) (hn : n ≤ 64) (hm : m ≤ n) (hb : b < m) (hj : ∀ i j, i < m → j < m → W i = W j → i = j) (table : Bool) (tab : Int → Int → Wst → Wst) :
    ∀ (r i f : Nat), i + r + 1 = m → r + 2 ≤ f → wch R10 (onM Z W m b o m) 0 (n : Int) false table tab f (wyI W i) (W i : Int) ⟨sgO i, i, 0⟩ = if o = true then wstop 4 ⟨sgO m, m, 0⟩ else ⟨sgO m, m, 0⟩
  | r, i, f, hi, hf => by
    obtain ⟨g, rfl⟩ : ∃ g, f = g + 1 := ⟨f - 1, by omega⟩
    have h1 := hW i
    have hk : okI (n : Int) (W i : Int) = true := okI_iff.2 ⟨by omega, by omega⟩
    rw [wch_succ, if_neg (by rw [wyI_not hj (show i < m by omega)]; decide), if_neg (by rw [hk]; decide), onM_desc (b := b) (o := o) hZ hW hn hm hj (show i < m by omega)]
    simp only
    have hs : wseg (onD W m b o i).a (onD W m b o i).l (onD W m b o i).f (wone ⟨sgO i, i, 0⟩) = ⟨sgO (i + 1), i + 1, 0⟩ := by
      unfold wseg wone
      rw [sgO_succ]
      have : flB (onD W m b o i).f 2 = false := by
        unfold onD
        simp only
        split <;> decide
      rw [this]
      rfl
    have h4 : flB (onD W m b o i).f 4 = false := by
      unfold onD
      simp only
      split <;> decide
    rw [if_neg (by rw [h4]; decide), hs]
    by_cases hl : i + 1 < m
    · obtain ⟨r', rfl⟩ : ∃ r', r = r' + 1 := ⟨r - 1, by omega⟩
      have hf1 : (onD W m b o i).f = 1 := by
        unfold onD
        simp only
        rw [if_pos (.inl hl)]
      have hnx : (onD W m b o i).n = (W (i + 1) : Int) := by
        unfold onD
        simp only
        rw [if_pos hl]
      rw [if_pos (by rw [hf1]; decide), hnx, ← wyI_succ]
      exact once_chain hZ hW hn hm hb hj table tab r' (i + 1) g (by omega) (by omega)
    · obtain rfl : i + 1 = m := by omega
      cases o
      · have hf1 : (onD W (i + 1) b false i).f = 0 := by
          unfold onD
          simp only
          rw [if_neg (by simp)]
        rw [if_neg (by rw [hf1]; decide), if_neg (by decide)]
      · have hf1 : (onD W (i + 1) b true i).f = 1 := by
          unfold onD
          simp only
          rw [if_pos (.inr (by decide))]
        have hnx : (onD W (i + 1) b true i).n = (W b : Int) := by
          unfold onD
          simp only
          rw [if_neg (by omega)]
        obtain ⟨g', rfl⟩ : ∃ g', g = g' + 1 := ⟨g - 1, by omega⟩
        rw [if_pos (by rw [hf1]; decide), hnx, ← wyI_succ, wch_succ, if_pos (wyI_in hb), if_pos rfl]
termination_by r => r
end
theorem once_walk {Z : List Int} {W : Nat → Nat} {m b n : Nat} {o : Bool} (hZ : Z.length = 12000) (hW : ∀ i, W i < n) (hn : n ≤ 64) (hm : m ≤ n) (hb : b < m) (hj : ∀ i j, i < m → j < m → W i = W j → i = j) (g c : Int) (hr : wrfE false false (n : Int) 0 g c = 0) :
    wsE R10 (onM Z W m b o m) false (n : Int) 0 g c (W 0 : Int) true = (if o = true then 4 else 0) ∧ wsL R10 (onM Z W m b o m) false (n : Int) 0 g c (W 0 : Int) true = (if o = true then [] else sgO m) ∧ wsN R10 (onM Z W m b o m) false (n : Int) 0 g c (W 0 : Int) true = m := by
  have h := once_chain (o := o) hZ hW hn hm hb hj true (wtab R10 (onM Z W m b o m)) (m - 1) 0 ((n : Int).toNat + 1) (by omega) (by simp; omega)
  replace h : wspl R10 (onM Z W m b o m) 0 (n : Int) (W 0 : Int) true = if o = true then wstop 4 ⟨sgO m, m, 0⟩ else ⟨sgO m, m, 0⟩ := h
  obtain ⟨h1, h2⟩ := sgO_ok ⟨m, by omega⟩ (by simp; omega)
  simp only at h1 h2
  unfold wsE wsL wsN wndL wndE
  rw [if_pos hr, if_pos hr, if_pos hr, h]
  cases o
  · simp [h1, h2]
  · simp [wstop]
end Go.Proofs.YtfhhgcgbgmilcaaGreat

/- Layer 10, plain facts: a chain, a table, a packed chain, a packed table that hold a buffer are walked back to it. No program in sight. -/
namespace Go.Proofs.YtfhhgcgbgmilcaaGreat
open Go
set_option linter.unusedVariables false
set_option maxRecDepth 100000

section
variable {R : List (Int × Int)} {M : List Int} {at_ : Int} {n m : Nat} {W : Nat → Nat} {D : Nat → Dsc} {L : List Sg}
/-- descriptors that lead along a way and hold a buffer, in a ring or a table -/
theorem back_chain (hL : L.length = m) (hd : ∀ i, i < m → dscAt R M (at_ + 16 * (W i : Int)) = some (D i)) (h4 : ∀ i, i < m → flB (D i).f 4 = false) (h1 : ∀ i, i < m → flB (D i).f 1 = decide (i + 1 < m)) (hn : ∀ i, i + 1 < m → (D i).n = (W (i + 1) : Int)) (hs : ∀ i, i < m → (⟨(D i).a, (D i).l, flB (D i).f 2⟩ : Sg) = sat L i) (hW : ∀ i, i < m → W i < n) (hj : ∀ i j, i < m → j < m → W i = W j → i = j) (inner table : Bool) (tab : Int → Int → Wst → Wst) :
    ∀ (r i f : Nat) (x : Wst), i + r + 1 = m → r + 1 ≤ f → wch R M at_ (n : Int) inner table tab f (wyI W i) (W i : Int) x = ⟨x.S ++ L.drop i, x.n + (r + 1), x.e⟩
  | r, i, f, x, hi, hf => by
    obtain ⟨g, rfl⟩ : ∃ g, f = g + 1 := ⟨f - 1, by omega⟩
    have hlt := hW i (by omega)
    have hk : okI (n : Int) (W i : Int) = true := okI_iff.2 ⟨by omega, by omega⟩
    rw [wch_succ, if_neg (by rw [wyI_not hj (show i < m by omega)]; decide), if_neg (by rw [hk]; decide), hd i (by omega)]
    simp only
    rw [if_neg (by rw [h4 i (by omega)]; decide), h1 i (by omega), drop_sat (show i < L.length by omega), ← hs i (by omega)]
    by_cases hl : i + 1 < m
    · obtain ⟨r', rfl⟩ : ∃ r', r = r' + 1 := ⟨r - 1, by omega⟩
      rw [if_pos (decide_eq_true hl), hn i hl, ← wyI_succ, back_chain hL hd h4 h1 hn hs hW hj inner table tab r' (i + 1) g _ (by omega) (by omega)]
      simp [wseg, wone]
      omega
    · obtain rfl : r = 0 := by omega
      rw [if_neg (by simp; omega), show L.drop (i + 1) = [] by rw [List.drop_eq_nil_iff]; omega]
      rfl
termination_by r => r
/-- a packed table -/
theorem back_ptab (hL : L.length = m) (hd : ∀ i, i < m → dR (readL R M (at_ + 16 * (i : Int)) 16) = D i) (h4 : ∀ i, i < m → flB (D i).n 4 = false) (hs : ∀ i, i < m → (⟨(D i).a, (D i).l, flB (D i).n 2⟩ : Sg) = sat L i) :
    ∀ (r i : Nat) (x : Wst), i + r = m → wpe R M at_ r i x = ⟨x.S ++ L.drop i, x.n, x.e⟩
  | 0, i, x, hi => by
    rw [show L.drop i = [] by rw [List.drop_eq_nil_iff]; omega, List.append_nil]
    rfl
  | r + 1, i, x, hi => by
    rw [wpe_succ, hd i (by omega), if_neg (by rw [h4 i (by omega)]; decide), back_ptab hL hd h4 hs r (i + 1) _ (by omega), drop_sat (show i < L.length by omega), ← hs i (by omega)]
    simp [wseg]
theorem goA_step {p n : Int} {i : Nat} (h0 : 0 ≤ p) (h1 : p < n) (hi : (i : Int) + 1 ≤ n) : goA (goA p i n) 1 n = goA p (i + 1 : Nat) n := by
  unfold goA
  split <;> split <;> split <;> omega
/-- a packed chain -/
theorem back_packed {p : Int} {N : Int} {id : Int} {table : Bool} (h0 : 0 ≤ p) (hp : p < N) (hL : L.length = m) (hm : (m : Int) ≤ N) (hd : ∀ i, i < m → dscAt R M (at_ + 16 * goA p (i : Nat) N) = some (D i)) (h4 : ∀ i, i < m → flB (D i).n 4 = false) (h1 : ∀ i, i < m → flB (D i).n 1 = decide (i + 1 < m)) (hid : ∀ i, i < m → (D i).f = id) (hs : ∀ i, i < m → (⟨(D i).a, (D i).l, flB (D i).n 2⟩ : Sg) = sat L i) :
    ∀ (r i f : Nat) (x : Wst) (id0 : Int), i + r + 1 = m → r + 1 ≤ f → wpk R M at_ N table f (goA p (i : Nat) N) ⟨x, id0, i⟩ = ⟨⟨x.S ++ L.drop i, x.n, x.e⟩, id, m⟩
  | r, i, f, x, id0, hi, hf => by
    obtain ⟨g, rfl⟩ : ∃ g, f = g + 1 := ⟨f - 1, by omega⟩
    rw [wpk_succ, if_neg (by simp only; omega), hd i (by omega)]
    simp only
    rw [if_neg (by rw [h4 i (by omega)]; decide), h1 i (by omega), hid i (by omega), drop_sat (show i < L.length by omega), ← hs i (by omega)]
    by_cases hl : i + 1 < m
    · obtain ⟨r', rfl⟩ : ∃ r', r = r' + 1 := ⟨r - 1, by omega⟩
      rw [if_pos (decide_eq_true hl), goA_step h0 hp (by omega), back_packed h0 hp hL hm hd h4 h1 hid hs r' (i + 1) g _ _ (by omega) (by omega)]
      simp [wseg]
    · obtain rfl : r = 0 := by omega
      rw [if_neg (by simp; omega), show L.drop (i + 1) = [] by rw [List.drop_eq_nil_iff]; omega]
      obtain rfl : i + 1 = m := by omega
      rfl
termination_by r => r
end
end Go.Proofs.YtfhhgcgbgmilcaaGreat
