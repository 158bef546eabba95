/- What LayoutApart needs. -/
import Derived.Test.YtolflhnkdnjckaaLay15
import Derived.BigQuiet
import Derived.Deep.DeepCutAuto
import Derived.Deep.RegionHeld3
namespace Go.Proofs.Ytolflhnkdnjckaa
open Go.ChangeShapes Go.WideShapes Go.ChangeAt Go.RowKit
set_option linter.unusedVariables false
set_option maxRecDepth 100000

def spB (v : Int) : Bool := decide (1 < v) && decide (v < 10)
theorem split_any (v : Int) (w : World) : Calls Try.prog 26 #[.int .i64 v] w fun e w' => e = .returned (.bool (spB v)) ∧ w = w' := by
  by_cases h1 : 1 < v
  · have e : spB v = decide (v < 10) := by simp [spB, h1]
    rw [e]
    go_enter Try.func26, Try.ntmps26
    go_wp2
    go_ret
    exact ⟨rfl, rfl⟩
  · have e : spB v = false := by simp [spB, h1]
    rw [e]
    have h1' : v ≤ 1 := by omega
    go_enter Try.func26, Try.ntmps26
    go_wp2
    go_ret
    exact ⟨rfl, rfl⟩

/-! ### two elements of valid rings -/
def exB (pk : Bool) (x : Int) : Bool := x == 1 || (spB x != pk)
theorem whE_ex {pk : Bool} {n d g c x i : Int} (hk : okRg pk n d g c = true) (h1 : 1 ≤ x) (h2 : x ≤ 11) (hi0 : 0 ≤ i) (hi1 : i < n) (hm : (x = 1 ∨ x = 4 ∨ x = 8) ∨ i = 0) : whOk pk n d g c x i = exB pk x := by
  have hs := szB_rng (ok_parts hk).1
  unfold whOk
  rw [hk]
  have hx : isEl x := by
    unfold isEl
    omega
  rcases hx with rfl | rfl | rfl | rfl | rfl | rfl | rfl | rfl | rfl | rfl | rfl <;> cases pk <;> simp [elP, exB, spB] <;> omega
theorem elOff_lt {pk : Bool} {n d g c x y i j : Int} (hn : 1 ≤ n) (hx : isEl x) (hy : isEl y) (hxy : x < y) (hi0 : 0 ≤ i) (hi : i < (elP pk n d g c x).2.2) (hj0 : 0 ≤ j) (hj : j < (elP pk n d g c y).2.2) :
    (elB pk 0 1 2 x = elB pk 0 1 2 y → elOff n x i + (elP pk n d g c x).2.1 ≤ elOff n y j) := by
  rcases hx with rfl | rfl | rfl | rfl | rfl | rfl | rfl | rfl | rfl | rfl | rfl <;> cases pk <;> simp [elP] at hi <;> (rcases hy with rfl | rfl | rfl | rfl | rfl | rfl | rfl | rfl | rfl | rfl | rfl <;> simp [elP] at hj <;> simp [elP, elB, elOff] <;> omega)
theorem elB_3 (pk : Bool) (x : Int) : elB pk 0 1 2 x = 0 ∨ elB pk 0 1 2 x = 1 ∨ elB pk 0 1 2 x = 2 := by
  unfold elB
  repeat' split
  all_goals omega
theorem elB_of (pk : Bool) (d g c x : Int) : (elB pk 0 1 2 x = 0 ∧ elB pk d g c x = d) ∨ (elB pk 0 1 2 x = 1 ∧ elB pk d g c x = g) ∨ (elB pk 0 1 2 x = 2 ∧ elB pk d g c x = c) := by
  unfold elB
  repeat' split
  all_goals omega
theorem stride {pk : Bool} {n d g c x i j : Int} (hx : isEl x) (hi0 : 0 ≤ i) (hi : i < (elP pk n d g c x).2.2) (hj0 : 0 ≤ j) (hj : j < (elP pk n d g c x).2.2) (h : i < j) : elOff n x i + (elP pk n d g c x).2.1 ≤ elOff n x j := by
  rcases hx with rfl | rfl | rfl | rfl | rfl | rfl | rfl | rfl | rfl | rfl | rfl <;> cases pk <;> simp [elP] at hi <;> simp [elP] at hj <;> simp [elP, elOff] <;> omega
theorem two_apart {pk : Bool} {n d g c x y i j : Int} (hd : U64 d) (hg : U64 g) (hc : U64 c) (h1 : whOk pk n d g c x i = true) (h2 : whOk pk n d g c y j = true) :
    (whA pk n d g c x i + (elP pk n d g c x).2.1 ≤ whA pk n d g c y j ∨ whA pk n d g c y j + (elP pk n d g c y).2.1 ≤ whA pk n d g c x i) ↔ ¬ (x = y ∧ i = j) := by
  obtain ⟨a1, a2, a3, a4, a5⟩ := whA_eq h1 hd hg hc
  obtain ⟨b1, b2, b3, b4, b5⟩ := whA_eq h2 hd hg hc
  obtain ⟨hk, hi0, hi, hx⟩ := wh_parts h1
  obtain ⟨_, hj0, hj, hy⟩ := wh_parts h2
  obtain ⟨hs, hl⟩ := ok_parts hk
  obtain ⟨⟨_, l1⟩, ⟨_, l2, l4⟩, _, l3, l5, l6⟩ := okL_t hl
  have hn := (szB_rng hs).1
  constructor
  · rintro h ⟨rfl, rfl⟩
    omega
  · intro h
    by_cases hp : elB pk 0 1 2 x = elB pk 0 1 2 y
    · have he : elB pk d g c x = elB pk d g c y := by
        rcases elB_of pk d g c x with q | q | q <;> rcases elB_of pk d g c y with r | r | r <;> omega
      rcases Int.lt_trichotomy x y with hxy | hxy | hxy
      · have := elOff_lt (pk := pk) (d := d) (g := g) (c := c) hn hx hy hxy hi0 hi hj0 hj hp
        omega
      · subst hxy
        rcases Int.lt_trichotomy i j with hij | hij | hij
        · have := stride (pk := pk) (d := d) (g := g) (c := c) hx hi0 hi hj0 hj hij
          omega
        · exact absurd ⟨rfl, hij⟩ h
        · have := stride (pk := pk) (d := d) (g := g) (c := c) hx hj0 hj hi0 hi hij
          omega
      · have := elOff_lt (pk := pk) (d := d) (g := g) (c := c) hn hy hx hxy hj0 hj hi0 hi hp.symm
        omega
    · have e1 := elB_of pk (pD pk n) (pG pk n) (pC pk n) x
      have e2 := elB_of pk (pD pk n) (pG pk n) (pC pk n) y
      rcases elB_of pk d g c x with q | q | q <;> rcases elB_of pk d g c y with r | r | r <;> omega
theorem in_over {pk : Bool} {n d g c x i v : Int} (hd : U64 d) (hg : U64 g) (hc : U64 c) (h1 : whOk pk n d g c x i = true) (hv0 : whA pk n d g c x i ≤ v) (hv1 : v < whA pk n d g c x i + (elP pk n d g c x).2.1) : ovB pk n d g c v 1 = true := by
  obtain ⟨a1, a2, a3, a4, a5⟩ := whA_eq h1 hd hg hc
  obtain ⟨hk, hi0, hi, hx⟩ := wh_parts h1
  obtain ⟨hs, hl⟩ := ok_parts hk
  obtain ⟨r1, r2, r3⟩ := part_rng hs
  unfold ovB
  rw [hk]
  have e1 := elB_of pk (pD pk n) (pG pk n) (pC pk n) x
  rcases elB_of pk d g c x with q | q | q
  · rw [(cmB_iff (a := v) (n := 1) (b := d) (m := pD pk n) (by omega) (by omega)).2 (by omega)]
    rfl
  · rw [(cmB_iff (a := v) (n := 1) (b := g) (m := pG pk n) (by omega) (by omega)).2 (by omega)]
    simp
  · rw [(cmB_iff (a := v) (n := 1) (b := c) (m := pC pk n) (by omega) (by omega)).2 (by omega)]
    simp

/-! ### rings that lie in a box -/
structure RG (w wx : World) (p : Nat) (pk : Bool) (n d g c : Int) : Prop where
  b : Below w.heap.size w wx
  q : p < wx.heap.size
  c0 : wx.cell? ⟨p, 0, none⟩ = some (.bool pk)
  c1 : wx.cell? ⟨p, 1, none⟩ = some (.int .i64 n)
  c2 : wx.cell? ⟨p, 2, none⟩ = some (.int .u64 d)
  c3 : wx.cell? ⟨p, 3, none⟩ = some (.int .u64 g)
  c4 : wx.cell? ⟨p, 4, none⟩ = some (.int .u64 c)
theorem RG.below {w wx wy : World} {p : Nat} {pk : Bool} {n d g c : Int} (h : RG w wx p pk n d g c) (hb : Below wx.heap.size wx wy) : RG w wy p pk n d g c :=
  have hc := fun k => hb.cell (p := ⟨p, k, none⟩) h.q
  ⟨below_then h.b hb, Nat.lt_of_lt_of_le h.q hb.size, (hc 0).trans h.c0, (hc 1).trans h.c1, (hc 2).trans h.c2, (hc 3).trans h.c3, (hc 4).trans h.c4⟩
theorem RG.dn {w wx : World} {p : Nat} {pk : Bool} {n d g c : Int} (h : RG w wx p pk n d g c) (k : Nat) : RG w (wx.drewN k) p pk n d g c := h.below (below_drewN wx k)
theorem RG.drew {w wx : World} {p : Nat} {pk : Bool} {n d g c : Int} (h : RG w wx p pk n d g c) : RG w wx.drew p pk n d g c := h.below (Below.refl _ _).drew

theorem RG.conj {w wx : World} {p : Nat} {pk : Bool} {n d g c : Int} (h : RG w wx p pk n d g c) : Below w.heap.size w wx ∧ (wx.cell? ⟨p, 0, none⟩ = some (.bool pk) ∧ wx.cell? ⟨p, 1, none⟩ = some (.int .i64 n) ∧ wx.cell? ⟨p, 2, none⟩ = some (.int .u64 d) ∧ wx.cell? ⟨p, 3, none⟩ = some (.int .u64 g) ∧ wx.cell? ⟨p, 4, none⟩ = some (.int .u64 c)) ∧ p < wx.heap.size :=
  ⟨h.b, ⟨h.c0, h.c1, h.c2, h.c3, h.c4⟩, h.q⟩
theorem RG.ofc {w wx : World} {p : Nat} {pk : Bool} {n d g c : Int} (h : Below w.heap.size w wx ∧ (wx.cell? ⟨p, 0, none⟩ = some (.bool pk) ∧ wx.cell? ⟨p, 1, none⟩ = some (.int .i64 n) ∧ wx.cell? ⟨p, 2, none⟩ = some (.int .u64 d) ∧ wx.cell? ⟨p, 3, none⟩ = some (.int .u64 g) ∧ wx.cell? ⟨p, 4, none⟩ = some (.int .u64 c)) ∧ p < wx.heap.size) : RG w wx p pk n d g c :=
  ⟨h.1, h.2.2, h.2.1.1, h.2.1.2.1, h.2.1.2.2.1, h.2.1.2.2.2.1, h.2.1.2.2.2.2⟩
theorem RG.keep {w wx wy : World} {p : Nat} {pk : Bool} {n d g c : Int} (h : Below w.heap.size w wx ∧ (wx.cell? ⟨p, 0, none⟩ = some (.bool pk) ∧ wx.cell? ⟨p, 1, none⟩ = some (.int .i64 n) ∧ wx.cell? ⟨p, 2, none⟩ = some (.int .u64 d) ∧ wx.cell? ⟨p, 3, none⟩ = some (.int .u64 g) ∧ wx.cell? ⟨p, 4, none⟩ = some (.int .u64 c)) ∧ p < wx.heap.size) (hb : Below wx.heap.size wx wy) : Below w.heap.size w wy ∧ (wy.cell? ⟨p, 0, none⟩ = some (.bool pk) ∧ wy.cell? ⟨p, 1, none⟩ = some (.int .i64 n) ∧ wy.cell? ⟨p, 2, none⟩ = some (.int .u64 d) ∧ wy.cell? ⟨p, 3, none⟩ = some (.int .u64 g) ∧ wy.cell? ⟨p, 4, none⟩ = some (.int .u64 c)) ∧ p < wy.heap.size :=
  ((RG.ofc h).below hb).conj

/-- has this kind of element no index? -/
def nmB (v : Int) : Bool := (v != 1) && ((v != 4) && (v != 8))
theorem nmB_f {v : Int} (h : nmB v = false) : v = 1 ∨ v = 4 ∨ v = 8 := by
  unfold nmB at h
  by_cases h1 : v = 1
  · exact Or.inl h1
  · by_cases h4 : v = 4
    · exact Or.inr (Or.inl h4)
    · by_cases h8 : v = 8
      · exact Or.inr (Or.inr h8)
      · simp [h1, h4, h8] at h
end Go.Proofs.Ytolflhnkdnjckaa
