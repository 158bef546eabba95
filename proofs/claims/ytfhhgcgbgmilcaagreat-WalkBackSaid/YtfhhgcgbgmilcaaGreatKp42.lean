/- We3 We4 We5: joined texts. Conditions: as each theorem names them. -/
import Derived.Test.YtfhhgcgbgmilcaaGreatKp41
/- Layer 10, plain facts: what was built and written is walked back. No program in sight. -/
namespace Go.Proofs.YtfhhgcgbgmilcaaGreat
open Go
set_option linter.unusedVariables false
set_option maxRecDepth 100000

/-- descriptors written one after the other, k of them -/
def wrM (Z : List Int) (A : Nat → Nat) (D : Nat → Dsc) : Nat → List Int
  | 0 => Z
  | k + 1 => put (wrM Z A D k) (A k) (dB (D k))
section
variable {Z : List Int} {A : Nat → Nat} {D : Nat → Dsc} {m : Nat}
theorem wrM_length (hZ : Z.length = 12000) (hA : ∀ i, i < m → A i + 16 ≤ 12000) : ∀ k, k ≤ m → (wrM Z A D k).length = 12000
  | 0, _ => hZ
  | k + 1, hk => by
    have := hA k (by omega)
    have hl := dB_length (D k)
    have hM := wrM_length hZ hA k (by omega)
    rw [wrM, put_length _ _ _ (by rw [hM, hl]; omega), hM]
theorem wrM_at (hZ : Z.length = 12000) (hA : ∀ i, i < m → A i + 16 ≤ 12000) (hj : ∀ i j, i < m → j < m → i ≠ j → A i + 16 ≤ A j ∨ A j + 16 ≤ A i) : ∀ k, k ≤ m → ∀ i, i < k → ((wrM Z A D k).drop (A i)).take 16 = dB (D i)
  | 0, _, i, hi => by omega
  | k + 1, hk, i, hi => by
    have h1 := hA k (by omega)
    have hl := dB_length (D k)
    have hM := wrM_length (D := D) hZ hA k (by omega)
    rw [wrM]
    by_cases e : i = k
    · subst e
      have := put_same (M := wrM Z A D i) (k := A i) (l := dB (D i)) (by rw [hM, hl]; omega)
      rwa [hl] at this
    · rw [put_other (by rw [hM, hl]; omega) (by rw [hl]; exact hj i k (by omega) (by omega) e)]
      exact wrM_at hZ hA hj k (by omega) i (by omega)
end
/-- a part of what was put -/
theorem put_part {M : List Int} {k i n : Nat} {l : List Int} (h : k + l.length ≤ M.length) (hi : i + n ≤ l.length) : ((put M k l).drop (k + i)).take n = (l.drop i).take n := by
  refine getD_ext (by simp [put_length M k l h]; omega) (fun j hj => ?_)
  have hj2 : j < n := by
    rw [List.length_take] at hj
    omega
  rw [row_getD _ _ _ _ hj2, row_getD _ _ _ _ hj2, put_getD M k l h, if_pos (by omega), show k + i + j - k = i + j by omega]
theorem okS_pos : ∀ {L : List Sg} {p : Bool}, okS p L → ∀ s ∈ L, 1 ≤ s.n
  | [], _, _, s, hs => by cases hs
  | x :: l, _, h, s, hs => by
    rcases List.mem_cons.1 hs with rfl | hs
    · exact h.1.1
    · exact okS_pos h.2 s hs
/-- a buffer behind the rings exists -/
theorem in_back {L : List Sg} (hs : isSgs L) (hm : mayE L = 0) (hr : ∀ i, i < L.length → (sat L i).a + (sat L i).n ≤ 12000) : inE R10 L = 0 := by
  obtain ⟨h1, h2⟩ := mayE_ok hm
  have h3 := ((segE_ok hs).1 h1).2.1
  unfold inE
  rw [if_pos h1, if_pos]
  unfold allIn
  rw [List.all_eq_true]
  intro s hmem
  obtain ⟨i, hi, rfl⟩ := List.getElem_of_mem hmem
  have e : sat L i = L[i] := by simp [sat, List.getD, hi]
  have ha := hs _ hmem
  have hb := hr i hi
  rw [e] at hb
  have hpos := okS_pos h3 _ (List.getElem_mem hi)
  obtain ⟨a, hae⟩ := Int.eq_ofNat_of_zero_le ha.1.1
  rw [hae] at hb ⊢
  rw [loc10 hpos hb]
  rfl
section
variable {M : List Int} {n m : Nat} {W : Nat → Nat} {D : Nat → Dsc} {L : List Sg} {g c : Int}
/-- a split chain -/
theorem back_split (hL : L.length = m) (h0 : 0 < m) (hmn : m ≤ n) (hd : ∀ i, i < m → dscAt R10 M (0 + 16 * (W i : Int)) = some (D i)) (h4 : ∀ i, i < m → flB (D i).f 4 = false) (h1 : ∀ i, i < m → flB (D i).f 1 = decide (i + 1 < m)) (hn : ∀ i, i + 1 < m → (D i).n = (W (i + 1) : Int)) (hs : ∀ i, i < m → (⟨(D i).a, (D i).l, flB (D i).f 2⟩ : Sg) = sat L i) (hW : ∀ i, i < m → W i < n) (hj : ∀ i j, i < m → j < m → W i = W j → i = j) (hm : mayE L = 0) (hi : inE R10 L = 0) (hr : wrfE false false (n : Int) 0 g c = 0) (table : Bool) :
    wsE R10 M false (n : Int) 0 g c (W 0 : Int) table = 0 ∧ wsL R10 M false (n : Int) 0 g c (W 0 : Int) table = L ∧ wsN R10 M false (n : Int) 0 g c (W 0 : Int) table = m := by
  have h := back_chain hL hd h4 h1 hn hs hW hj false table (wtab R10 M) (m - 1) 0 ((n : Int).toNat + 1) ⟨[], 0, 0⟩ (by omega) (by omega)
  replace h : wspl R10 M 0 (n : Int) (W 0 : Int) table = ⟨L, m, 0⟩ := by
    refine Eq.trans h ?_
    simp
    omega
  unfold wsE wsL wsN wndL wndE
  rw [if_pos hr, if_pos hr, if_pos hr, h]
  simp [hm, hi]
/-- a split table -/
theorem back_table {id : Nat} (hL : L.length = m) (h0 : 0 < m) (h64 : m ≤ 64) (hid : id < n) (hone : dscAt R10 M (0 + 16 * (id : Int)) = some ⟨2800, 16 * (m : Int), 4, 0⟩) (hd : ∀ i, i < m → dscAt R10 M (2800 + 16 * (i : Int)) = some (D i)) (h4 : ∀ i, i < m → flB (D i).f 4 = false) (h1 : ∀ i, i < m → flB (D i).f 1 = decide (i + 1 < m)) (hn : ∀ i, i + 1 < m → (D i).n = ((i + 1 : Nat) : Int)) (hs : ∀ i, i < m → (⟨(D i).a, (D i).l, flB (D i).f 2⟩ : Sg) = sat L i) (hm : mayE L = 0) (hi : inE R10 L = 0) (hr : wrfE false false (n : Int) 0 g c = 0) :
    (wsE R10 M false (n : Int) 0 g c (id : Int) true = 0 ∧ wsL R10 M false (n : Int) 0 g c (id : Int) true = L ∧ wsN R10 M false (n : Int) 0 g c (id : Int) true = 1 + m) ∧ wsE R10 M false (n : Int) 0 g c (id : Int) false = 4 ∧ wsL R10 M false (n : Int) 0 g c (id : Int) false = [] := by
  have hk : okI (n : Int) (id : Int) = true := okI_iff.2 ⟨by omega, by omega⟩
  have hwen : wenE R10 2800 (16 * (m : Int)) = 0 := by
    unfold wenE
    rw [if_neg (by omega)]
    have := loc10 (a := 2800) (n := 16 * (m : Int)) (by omega) (by omega)
    rw [show ((2800 : Nat) : Int) = 2800 from rfl] at this
    rw [this]
    rfl
  have ht : ∀ x : Wst, wtab R10 M 2800 (16 * (m : Int)) x = ⟨x.S ++ L, x.n + m, x.e⟩ := fun x => by
    unfold wtab
    rw [if_pos hwen, show 16 * (m : Int) / 16 = (m : Int) by omega]
    have h := back_chain (W := fun i => i) hL hd h4 h1 hn hs (fun i h => h) (fun i j _ _ h => h) true true (fun _ _ x => x) (m - 1) 0 ((m : Int).toNat + 1) x (by omega) (by omega)
    refine Eq.trans h ?_
    simp
    omega
  have hu : ∀ table : Bool, wspl R10 M 0 (n : Int) (id : Int) table = if table = true then ⟨L, 1 + m, 0⟩ else wstop 4 ⟨[], 1, 0⟩ := fun table => by
    unfold wspl
    rw [wch_succ, if_neg (by simp [inB]), if_neg (by rw [hk]; decide), hone]
    simp only
    rw [if_pos (by decide)]
    cases table
    · rw [if_pos (by decide)]
      rfl
    · rw [if_neg (by decide), ht]
      simp [wone]
  unfold wsE wsL wsN wndL wndE
  rw [if_pos hr, if_pos hr, if_pos hr, if_pos hr, if_pos hr, hu, hu]
  simp [hm, hi, wstop]
end
end Go.Proofs.YtfhhgcgbgmilcaaGreat

/- Layer 10, plain facts: what was built packed is walked back. No program in sight. -/
namespace Go.Proofs.YtfhhgcgbgmilcaaGreat
open Go
set_option linter.unusedVariables false
set_option maxRecDepth 100000

theorem goA_zero {p n : Int} (h0 : 0 ≤ p) (h1 : p < n) : goA p ((0 : Nat) : Int) n = p := by
  unfold goA
  split <;> omega
section
variable {M : List Int} {n m : Nat} {D : Nat → Dsc} {L : List Sg} {g c p id : Int}
theorem wpL_of {table : Bool} {s : Pst} (hs : wpkS R10 M 0 (n : Int) p table = s) (hp : okP p n = true) (hr : wrfE true true (n : Int) 0 g c = 0) : wpE R10 M true (n : Int) 0 g c p table = wndE R10 (wpkX n s) ∧ wpL R10 M true (n : Int) 0 g c p table = (if wndE R10 (wpkX n s) = 0 then (wpkX n s).S else []) ∧ wpI R10 M true (n : Int) 0 g c p table = (if wndE R10 (wpkX n s) = 0 then s.id else 0) ∧ wpC R10 M true (n : Int) 0 g c p table = (if wndE R10 (wpkX n s) = 0 then s.c else 0) := by
  have he : wpE R10 M true (n : Int) 0 g c p table = wndE R10 (wpkX n s) := by
    unfold wpE
    rw [if_pos hr, if_pos hp, hs]
  refine ⟨he, ?_, ?_, ?_⟩
  · unfold wpL
    rw [he, hs]
  · unfold wpI
    rw [he, hs]
  · unfold wpC
    rw [he, hs]
theorem wnd_ok {x : Wst} {L : List Sg} (hx : x.S = L) (he : x.e = 0) (hm : mayE L = 0) (hi : inE R10 L = 0) : wndE R10 x = 0 := by
  unfold wndE
  rw [hx, if_pos he, if_pos hm, hi]
/-- a packed chain -/
theorem back_pk (hL : L.length = m) (h0 : 0 < m) (hmn : m ≤ n) (hp0 : 0 ≤ p) (hp1 : p < n) (hpp : okP p n = true) (hid1 : id < n) (hd : ∀ i, i < m → dscAt R10 M (0 + 16 * goA p (i : Nat) n) = some (D i)) (h4 : ∀ i, i < m → flB (D i).n 4 = false) (h1 : ∀ i, i < m → flB (D i).n 1 = decide (i + 1 < m)) (hid : ∀ i, i < m → (D i).f = id) (hs : ∀ i, i < m → (⟨(D i).a, (D i).l, flB (D i).n 2⟩ : Sg) = sat L i) (hm : mayE L = 0) (hi : inE R10 L = 0) (hr : wrfE true true (n : Int) 0 g c = 0) (table : Bool) :
    wpE R10 M true (n : Int) 0 g c p table = 0 ∧ wpL R10 M true (n : Int) 0 g c p table = L ∧ wpI R10 M true (n : Int) 0 g c p table = id ∧ wpC R10 M true (n : Int) 0 g c p table = m := by
  have h := back_packed (table := table) hp0 hp1 hL (by omega) hd h4 h1 hid hs (m - 1) 0 ((n : Int).toNat + 1) ⟨[], 0, 0⟩ 0 (by omega) (by omega)
  rw [goA_zero hp0 hp1] at h
  replace h : wpkS R10 M 0 (n : Int) p table = ⟨⟨L, 0, 0⟩, id, m⟩ := Eq.trans h (by simp)
  have hx : wpkX (n : Int) ⟨⟨L, 0, 0⟩, id, m⟩ = ⟨L, 0, 0⟩ := by
    unfold wpkX
    rw [if_neg (by simp only; omega)]
  obtain ⟨e1, e2, e3, e4⟩ := wpL_of h hpp hr
  have hw : wndE R10 (wpkX (n : Int) ⟨⟨L, 0, 0⟩, id, m⟩) = 0 := by
    rw [hx]
    exact wnd_ok rfl rfl hm hi
  rw [if_pos hw] at e2 e3 e4
  rw [hx] at e2
  exact ⟨e1.trans hw, e2, e3, e4⟩
/-- a packed table -/
theorem back_pt {f : Int} (hL : L.length = m) (h0 : 0 < m) (h64 : m ≤ 64) (hp0 : 0 ≤ p) (hp1 : p < n) (hpp : okP p n = true) (hid1 : id < n) (hone : dscAt R10 M (0 + 16 * p) = some ⟨2800, 16 * (m : Int), id, f⟩) (hf4 : flB f 4 = true) (hf1 : flB f 1 = false) (hd : ∀ i, i < m → dR (readL R10 M (2800 + 16 * (i : Int)) 16) = D i) (h4 : ∀ i, i < m → flB (D i).n 4 = false) (hs : ∀ i, i < m → (⟨(D i).a, (D i).l, flB (D i).n 2⟩ : Sg) = sat L i) (hm : mayE L = 0) (hi : inE R10 L = 0) (hr : wrfE true true (n : Int) 0 g c = 0) :
    (wpE R10 M true (n : Int) 0 g c p true = 0 ∧ wpL R10 M true (n : Int) 0 g c p true = L ∧ wpI R10 M true (n : Int) 0 g c p true = id ∧ wpC R10 M true (n : Int) 0 g c p true = 1) ∧ wpE R10 M true (n : Int) 0 g c p false = 4 := by
  have hwen : wenE R10 2800 (16 * (m : Int)) = 0 := by
    unfold wenE
    rw [if_neg (by omega)]
    have := loc10 (a := 2800) (n := 16 * (m : Int)) (by omega) (by omega)
    rw [show ((2800 : Nat) : Int) = 2800 from rfl] at this
    rw [this]
    rfl
  have ht : wptb R10 M 2800 (16 * (m : Int)) ⟨[], 0, 0⟩ = ⟨L, 0, 0⟩ := by
    unfold wptb
    rw [if_pos hwen, show 16 * (m : Int) / 16 = (m : Int) by omega]
    exact (back_ptab hL hd h4 hs m 0 ⟨[], 0, 0⟩ (by omega)).trans (by simp)
  have hu : ∀ table : Bool, wpkS R10 M 0 (n : Int) p table = ⟨if table = true then ⟨L, 0, 0⟩ else wstop 4 ⟨[], 0, 0⟩, id, 1⟩ := fun table => by
    unfold wpkS
    rw [wpk_succ, if_neg (by simp only; omega), hone]
    simp only
    rw [if_pos hf4, hf1, ht]
    cases table
    · rw [if_pos (by decide)]
      rfl
    · rw [if_neg (by decide)]
      rfl
  constructor
  · obtain ⟨e1, e2, e3, e4⟩ := wpL_of (hu true) hpp hr
    have hx : wpkX (n : Int) ⟨if true = true then ⟨L, 0, 0⟩ else wstop 4 ⟨[], 0, 0⟩, id, 1⟩ = ⟨L, 0, 0⟩ := by
      unfold wpkX
      rw [if_neg (by simp only; omega)]
      rfl
    have hw : wndE R10 (wpkX (n : Int) ⟨if true = true then ⟨L, 0, 0⟩ else wstop 4 ⟨[], 0, 0⟩, id, 1⟩) = 0 := by
      rw [hx]
      exact wnd_ok rfl rfl hm hi
    rw [if_pos hw] at e2 e3 e4
    rw [hx] at e2
    exact ⟨e1.trans hw, e2, e3, e4⟩
  · obtain ⟨e1, _⟩ := wpL_of (hu false) hpp hr
    rw [e1]
    unfold wpkX
    rw [if_neg (by simp only; omega)]
    rfl
end
end Go.Proofs.YtfhhgcgbgmilcaaGreat

/- Layer 10, plain facts: what build gives is what is walked back. No program in sight. -/
namespace Go.Proofs.YtfhhgcgbgmilcaaGreat
open Go
set_option linter.unusedVariables false
set_option maxRecDepth 100000

theorem flB_flg (t nx : Bool) : flB (flgN t nx : Nat) 4 = false ∧ flB (flgN t nx : Nat) 1 = nx ∧ flB (flgN t nx : Nat) 2 = t := by cases t <;> cases nx <;> decide +kernel
theorem flB_mark (t nx wr : Bool) : flB (markN (flgN t nx) wr false : Nat) 4 = false ∧ flB (markN (flgN t nx) wr false : Nat) 1 = nx ∧ flB (markN (flgN t nx) wr false : Nat) 2 = t := by cases t <;> cases nx <;> cases wr <;> decide +kernel
theorem flB_mark4 (wr : Bool) : flB (markN 4 wr false : Nat) 4 = true ∧ flB (markN 4 wr false : Nat) 1 = false := by cases wr <;> decide +kernel
theorem markNf_lt (t nx wr : Bool) : markN (flgN t nx) wr false < 65536 := by cases t <;> cases nx <;> cases wr <;> decide +kernel
theorem markN4_lt (wr : Bool) : markN 4 wr false < 65536 := by cases wr <;> decide +kernel
theorem wyI_at {W : Nat → Nat} {m k : Nat} (h : k < m) : (wyI W m).getD k 0 = (W k : Int) := by simp [wyI, List.getD, h]
theorem nxB_dec {L : List Sg} {m : Nat} (hL : L.length = m) (k : Nat) : nxB L k = decide (k + 1 < m) := by
  unfold nxB
  rw [hL]
section
variable {Z : List Int} {L : List Sg} {m : Nat} {W : Nat → Nat} {g c : Int}
theorem sp_dsc (hs : isSgs L) (hL : L.length = m) (hW : ∀ i, i < m → W i < 65536) {k : Nat} (hk : k < m) : isDsc (splD (wyI W m) L k).d := by
  obtain ⟨⟨a1, a2⟩, n1, n2⟩ := sat_is hs k
  have hf := flgN_lt (sat L k).t (nxB L k)
  refine ⟨⟨a1, a2⟩, ⟨n1, n2⟩, ?_, ?_⟩
  · unfold splD
    simp only
    omega
  · unfold splD
    simp only
    by_cases h : nxB L k = true
    · rw [if_pos h]
      rw [nxB_dec hL] at h
      have hw := hW (k + 1) (of_decide_eq_true h)
      rw [wyI_at (of_decide_eq_true h)]
      omega
    · rw [if_neg h]
      omega
theorem sp_next (hL : L.length = m) {k : Nat} (h : k + 1 < m) : (splD (wyI W m) L k).d.n = (W (k + 1) : Int) := by
  unfold splD
  simp only
  rw [if_pos (by rw [nxB_dec hL]; exact decide_eq_true h), wyI_at h]
theorem sp_flags (hL : L.length = m) (k : Nat) : flB (splD (wyI W m) L k).d.f 4 = false ∧ flB (splD (wyI W m) L k).d.f 1 = decide (k + 1 < m) ∧ (⟨(splD (wyI W m) L k).d.a, (splD (wyI W m) L k).d.l, flB (splD (wyI W m) L k).d.f 2⟩ : Sg) = sat L k := by
  obtain ⟨h1, h2, h3⟩ := flB_flg (sat L k).t (nxB L k)
  unfold splD
  simp only
  rw [h1, h2, h3]
  exact ⟨rfl, nxB_dec hL k, rfl⟩
/-- the split chain as it was written -/
theorem wb_split (hZ : Z.length = 12000) (hs : isSgs L) (hL : L.length = m) (h64 : m ≤ 64) (hm : mayE L = 0) (hi : inE R10 L = 0) (hW : ∀ i, W i < 64) (hj : ∀ i j, i < m → j < m → W i = W j → i = j) (hr : wrfE false false ((64 : Nat) : Int) 0 g c = 0) (table : Bool) :
    wsE R10 (wrM Z (fun k => 16 * W k) (fun k => (splD (wyI W m) L k).d) m) false ((64 : Nat) : Int) 0 g c (W 0 : Int) table = 0 ∧ wsL R10 (wrM Z (fun k => 16 * W k) (fun k => (splD (wyI W m) L k).d) m) false ((64 : Nat) : Int) 0 g c (W 0 : Int) table = L := by
  have hA : ∀ i, i < m → (fun k => 16 * W k) i + 16 ≤ 12000 := fun i _ => by
    have := hW i
    show 16 * W i + 16 ≤ 12000
    omega
  have hd : ∀ i, i < m → dscAt R10 (wrM Z (fun k => 16 * W k) (fun k => (splD (wyI W m) L k).d) m) (0 + 16 * (W i : Int)) = some (splD (wyI W m) L i).d := fun i h => by
    have h1 := wrM_at (D := fun k => (splD (wyI W m) L k).d) hZ hA (fun i j h1 h2 hne => by
      have : W i ≠ W j := fun e => hne (hj i j h1 h2 e)
      show 16 * W i + 16 ≤ 16 * W j ∨ 16 * W j + 16 ≤ 16 * W i
      omega) m (Nat.le_refl _) i h
    rw [show (0 : Int) + 16 * (W i : Int) = ((16 * W i : Nat) : Int) by push_cast; omega]
    exact dscAt10 (hA i h) (sp_dsc hs hL (fun i _ => by have := hW i; omega) h) h1
  have h := back_split (M := wrM Z (fun k => 16 * W k) (fun k => (splD (wyI W m) L k).d) m) (n := 64) hL (by have := (mayE_ok hm).2; omega) h64 hd (fun i _ => (sp_flags hL i).1) (fun i _ => (sp_flags hL i).2.1) (fun i h => sp_next hL h) (fun i _ => (sp_flags hL i).2.2) (fun i _ => hW i) hj hm hi hr table
  exact ⟨h.1, h.2.1⟩
theorem numI_wyI (m : Nat) : numI m = wyI (fun i => i) m := rfl
theorem stbL_at (hL : L.length = m) {k : Nat} (h : k < m) : dat (stbL L) k = (splD (wyI (fun i => i) m) L k).d := by
  unfold dat stbL splL
  rw [hL, numI_wyI]
  simp [List.getD, h]
/-- the split table as it was written, and the one descriptor -/
theorem wb_table (hZ : Z.length = 12000) (hs : isSgs L) (hL : L.length = m) (h64 : m ≤ 64) (hm : mayE L = 0) (hi : inE R10 L = 0) {id : Nat} (hid : id < 64) (hr : wrfE false false ((64 : Nat) : Int) 0 g c = 0) :
    (wsE R10 (put (put Z 2800 (stbB L)) (16 * id) (dB ⟨2800, 16 * (m : Int), 4, 0⟩)) false ((64 : Nat) : Int) 0 g c (id : Int) true = 0 ∧ wsL R10 (put (put Z 2800 (stbB L)) (16 * id) (dB ⟨2800, 16 * (m : Int), 4, 0⟩)) false ((64 : Nat) : Int) 0 g c (id : Int) true = L ∧ wsN R10 (put (put Z 2800 (stbB L)) (16 * id) (dB ⟨2800, 16 * (m : Int), 4, 0⟩)) false ((64 : Nat) : Int) 0 g c (id : Int) true = 1 + m) ∧ wsE R10 (put (put Z 2800 (stbB L)) (16 * id) (dB ⟨2800, 16 * (m : Int), 4, 0⟩)) false ((64 : Nat) : Int) 0 g c (id : Int) false = 4 ∧ wsL R10 (put (put Z 2800 (stbB L)) (16 * id) (dB ⟨2800, 16 * (m : Int), 4, 0⟩)) false ((64 : Nat) : Int) 0 g c (id : Int) false = [] := by
  have h0 := (mayE_ok hm).2
  have eB : stbB L = tabB (stbL L) := by
    unfold stbB
    rw [if_pos hm]
  have hlen : (tabB (stbL L)).length = 16 * m := by rw [tabB_length, stbL_len, hL]
  have hone : isDsc ⟨2800, 16 * (m : Int), 4, 0⟩ := ⟨by constructor <;> simp only <;> omega, by constructor <;> simp only <;> omega, by constructor <;> simp only <;> omega, by constructor <;> simp only <;> omega⟩
  have hl1 := dB_length ⟨2800, 16 * (m : Int), 4, 0⟩
  have hM1 : (put Z 2800 (stbB L)).length = 12000 := by rw [eB, put_length _ _ _ (by rw [hZ, hlen]; omega), hZ]
  refine back_table (D := fun k => (splD (wyI (fun i => i) m) L k).d) hL (by omega) h64 hid ?_ (fun i h => ?_) (fun i _ => (sp_flags hL i).1) (fun i _ => (sp_flags hL i).2.1) (fun i h => sp_next hL h) (fun i _ => (sp_flags hL i).2.2) hm hi hr
  · rw [show (0 : Int) + 16 * (id : Int) = ((16 * id : Nat) : Int) by push_cast; omega]
    refine dscAt10 (by omega) hone ?_
    have := put_same (M := put Z 2800 (stbB L)) (k := 16 * id) (l := dB ⟨2800, 16 * (m : Int), 4, 0⟩) (by rw [hM1, hl1]; omega)
    rwa [hl1] at this
  · rw [show (2800 : Int) + 16 * (i : Int) = ((2800 + 16 * i : Nat) : Int) by push_cast; omega]
    refine dscAt10 (by omega) (sp_dsc (W := fun i => i) hs hL (fun i hi => by show i < 65536; omega) h) ?_
    rw [put_other (by rw [hM1, hl1]; omega) (by rw [hl1]; omega), eB, put_part (by rw [hZ, hlen]; omega) (by rw [hlen]; omega)]
    have hp := tabB_part (stbL L) i (by rw [stbL_len]; omega)
    rw [stbL_at hL h] at hp
    exact hp
end
end Go.Proofs.YtfhhgcgbgmilcaaGreat
