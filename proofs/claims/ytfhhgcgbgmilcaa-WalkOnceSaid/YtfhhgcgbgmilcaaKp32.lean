/- Wk11 Wk12 Ww11: joined texts. Conditions: as each theorem names them. -/
import Derived.Test.YtfhhgcgbgmilcaaKp31
import Derived.Test.YtfhhgcgbgmilcaaKp12
import Derived.Test.YtfhhgcgbgmilcaaKp29
import Derived.Deep.CutBlock
/- The reference of layer 10: where Packed's loop stands. Conditions: as each theorem names them. -/
namespace Go.Proofs.Ytfhhgcgbgmilcaa
open Go.ChangeShapes Go.WideShapes Go.ChangeAt Go.RowKit
set_option linter.unusedVariables false
set_option maxRecDepth 100000

theorem ne_of_ty {w : World} {a b : Nat} {C D : List Value} {t u : TypeId} (h : BlkAt w a C t) (g : BlkAt w b D u) (hne : t ≠ u) : a ≠ b := fun e => by
  subst e
  have h : w.heap[a]? = _ := h
  rw [show w.heap[a]? = _ from g] at h
  injection h with h
  injection h with _ h
  exact hne h.symm
theorem Rd.wr {w0 w : World} {rp xb : Nat} {R : List (Int × Int)} {M : List Int} {x : Wst} {g i : Nat} {C : List Value} {t : TypeId} (h : Rd w0 rp R M xb x w) (hb : BlkAt w g C t) (h1 : w0.heap.size ≤ g) (ht : t ≠ 106) (ht2 : 53 ≠ t) (v : Value) : Rd w0 rp R M xb x (w.setCell ⟨g, i, none⟩ v) := by
  obtain ⟨⟨hB, u, g1, g2⟩, ho, hm, a1, a2, a3⟩ := h
  exact ⟨⟨hB, u, g1.other (ne_of_ty g1 hb (fun e => ht e.symm)) v, ownsRow_set g2 ht2 hb v⟩, ho.setCell h1 _, hm, a1, a2, a3⟩
theorem rd_new2 {w0 w : World} {rp : Nat} {R : List (Int × Int)} {M : List Int} (hm : RefM w0 rp R M) (ho : Below w0.heap.size w0 w) (hok : okR (-1) 1048576 R = true) (hM : M.length = sumR R) (hB : isBytes M) : Rd w0 rp R M w.heap.size ⟨[], 0, 0⟩ (w.alloc (.cells #[.pointer (some ⟨rp, 0, none⟩), .slice none 0 0, .int .i64 0, .int .i64 0] 106)) :=
  ⟨⟨ho.size, _, blk_new w [.pointer (some ⟨rp, 0, none⟩), .slice none 0 0, .int .i64 0, .int .i64 0] _, World.ownsRow_nil _ _ _ _⟩, below_then ho (below_box _ _), hm, hok, hM, hB⟩
structure PkS (w0 : World) (rp : Nat) (R : List (Int × Int)) (M : List Int) (xb gb pb tb sb : Nat) (G : List Value) (p : Int) (b : Bool) (id : Int) (c : Nat) (x : Wst) (u : World) : Prop where
  rd : Rd w0 rp R M xb x u
  gx : BlkAt u gb G 24
  px : BlkAt u pb [.int .i64 p, .bool b] 42
  tx : BlkAt u tb [.int .i64 id, .int .i64 (c : Int), .slice none 0 0] 38
  sx : BlkAt u sb [.int .i64 0, .int .i64 0, .slice none 0 0] 38
  ne : tb ≠ sb
  gp : w0.heap.size ≤ pb
  gt : w0.heap.size ≤ tb
  gs : w0.heap.size ≤ sb
section
variable {w0 : World} {rp : Nat} {R : List (Int × Int)} {M : List Int} {xb gb pb tb sb : Nat} {G : List Value} {p : Int} {b : Bool} {id : Int} {c : Nat} {x : Wst} {u u' : World}
theorem PkS.below (h : PkS w0 rp R M xb gb pb tb sb G p b id c x u) (hb : Below u.heap.size u u') : PkS w0 rp R M xb gb pb tb sb G p b id c x u' :=
  ⟨h.rd.below hb, h.gx.below hb, h.px.below hb, h.tx.below hb, h.sx.below hb, h.ne, h.gp, h.gt, h.gs⟩
theorem PkS.lf {y : Wst} (h : PkS w0 rp R M xb gb pb tb sb G p b id c x u) (hl : Lf w0 u xb (.pointer (some ⟨rp, 0, none⟩)) y u') : PkS w0 rp R M xb gb pb tb sb G p b id c y u' :=
  ⟨h.rd.lf hl, hl.kp.at h.gx (by decide) (by decide), hl.kp.at h.px (by decide) (by decide), hl.kp.at h.tx (by decide) (by decide), hl.kp.at h.sx (by decide) (by decide), h.ne, h.gp, h.gt, h.gs⟩
theorem PkS.setId (h : PkS w0 rp R M xb gb pb tb sb G p b id c x u) (y : Int) : PkS w0 rp R M xb gb pb tb sb G p b y c x (u.setCell ⟨tb, 0, none⟩ (.int .i64 y)) :=
  ⟨h.rd.wr h.tx h.gt (by decide) (by decide) _, h.gx.other (ne_of_ty h.gx h.tx (by decide)) _, h.px.other (ne_of_ty h.px h.tx (by decide)) _, h.tx.set 0 _, h.sx.other (fun e => h.ne e.symm) _, h.ne, h.gp, h.gt, h.gs⟩
theorem PkS.setC (h : PkS w0 rp R M xb gb pb tb sb G p b id c x u) (k : Nat) : PkS w0 rp R M xb gb pb tb sb G p b id k x (u.setCell ⟨tb, 1, none⟩ (.int .i64 (k : Int))) :=
  ⟨h.rd.wr h.tx h.gt (by decide) (by decide) _, h.gx.other (ne_of_ty h.gx h.tx (by decide)) _, h.px.other (ne_of_ty h.px h.tx (by decide)) _, h.tx.set 1 _, h.sx.other (fun e => h.ne e.symm) _, h.ne, h.gp, h.gt, h.gs⟩
theorem PkS.setP (h : PkS w0 rp R M xb gb pb tb sb G p b id c x u) (q : Int) (t : Bool) : PkS w0 rp R M xb gb pb tb sb G q t id c x ((u.setCell ⟨pb, 0, none⟩ (.int .i64 q)).setCell ⟨pb, 1, none⟩ (.bool t)) :=
  ⟨(h.rd.wr h.px h.gp (by decide) (by decide) _).wr (h.px.set 0 _) h.gp (by decide) (by decide) _, (h.gx.other (ne_of_ty h.gx h.px (by decide)) _).other (ne_of_ty h.gx h.px (by decide)) _, (h.px.set 0 _).set 1 _, (h.tx.other (ne_of_ty h.tx h.px (by decide)) _).other (ne_of_ty h.tx h.px (by decide)) _, (h.sx.other (ne_of_ty h.sx h.px (by decide)) _).other (ne_of_ty h.sx h.px (by decide)) _, h.ne, h.gp, h.gt, h.gs⟩
/-- the cells that the loop's round looks at -/
theorem PkS.cells (h : PkS w0 rp R M xb gb pb tb sb G p b id c x u) : (tb < u.heap.size ∧ u.cell? ⟨tb, 0, none⟩ = some (.int .i64 id) ∧ u.cell? ⟨tb, 1, none⟩ = some (.int .i64 (c : Int)) ∧ u.cell? ⟨tb, 2, none⟩ = some (.slice none 0 0) ∧ u.frozen? ⟨tb, 0, none⟩ = false ∧ u.frozen? ⟨tb, 1, none⟩ = false ∧ u.frozen? ⟨tb, 2, none⟩ = false) ∧ (pb < u.heap.size ∧ u.cell? ⟨pb, 0, none⟩ = some (.int .i64 p) ∧ u.cell? ⟨pb, 1, none⟩ = some (.bool b) ∧ u.frozen? ⟨pb, 0, none⟩ = false ∧ u.frozen? ⟨pb, 1, none⟩ = false) ∧ (gb < u.heap.size ∧ ∀ i, u.cell? ⟨gb, i, none⟩ = G[i]?) :=
  ⟨⟨h.tx.lt, h.tx.cell 0, h.tx.cell 1, h.tx.cell 2, h.tx.free 0, h.tx.free 1, h.tx.free 2⟩, ⟨h.px.lt, h.px.cell 0, h.px.cell 1, h.px.free 0, h.px.free 1⟩, h.gx.lt, fun i => h.gx.cell i⟩
end
theorem wpk_succ (R : List (Int × Int)) (M : List Int) (d n : Int) (table : Bool) (f : Nat) (p : Int) (s : Pst) : wpk R M d n table (f + 1) p s = if (s.c : Int) = n then ⟨wstop 4 s.x, s.id, s.c⟩ else match dscAt R M (d + 16 * p) with
      | none => ⟨wstop 5 s.x, s.id, s.c⟩
      | some q => if flB q.n 4 = true then ⟨if (!table || (decide (1 < s.c + 1) || flB q.n 1)) = true then wstop 4 s.x else wptb R M q.a q.l s.x, q.f, s.c + 1⟩ else if flB q.n 1 = true then wpk R M d n table f (goA p 1 n) ⟨wseg q.a q.l q.n s.x, q.f, s.c + 1⟩ else ⟨wseg q.a q.l q.n s.x, q.f, s.c + 1⟩ := by
  conv => lhs; unfold wpk
  rfl
theorem wpe_grw {R : List (Int × Int)} {M : List Int} (hok : okR (-1) 1048576 R = true) (hM : M.length = sumR R) (hB : isBytes M) (a : Int) : ∀ (r i : Nat) (x : Wst), (∀ j : Nat, i ≤ j → j < i + r → readE R (a + 16 * (j : Int)) 16 = 0) → (isSgs x.S → isSgs (wpe R M a r i x).S) ∧ x.S.length ≤ (wpe R M a r i x).S.length ∧ (wpe R M a r i x).S.length ≤ x.S.length + r
  | 0, _, x, _ => ⟨fun h => h, Nat.le_refl _, Nat.le_refl _⟩
  | r + 1, i, x, h => by
    rw [wpe_succ]
    split
    · obtain ⟨h1, _⟩ := wstop_S 4 x
      rw [h1]
      exact ⟨fun h => h, Nat.le_refl _, by omega⟩
    · have hd := dR_is (readL_bytes hB) (readL_16 hok hM (h i (Nat.le_refl _) (by omega)))
      obtain ⟨g1, g2, g3⟩ := wpe_grw hok hM hB a r (i + 1) (wseg (dR (readL R M (a + 16 * (i : Int)) 16)).a (dR (readL R M (a + 16 * (i : Int)) 16)).l (dR (readL R M (a + 16 * (i : Int)) 16)).n x) (fun j h1 h2 => h j (by omega) (by omega))
      have hl := (wseg_len (dR (readL R M (a + 16 * (i : Int)) 16)).a (dR (readL R M (a + 16 * (i : Int)) 16)).l (dR (readL R M (a + 16 * (i : Int)) 16)).n x).1
      refine ⟨fun h => g1 (fun s hs => ?_), by omega, by omega⟩
      rcases List.mem_append.1 hs with hs | hs
      · exact h s hs
      · rw [List.mem_singleton] at hs
        subst hs
        exact ⟨hd.a, hd.l⟩
theorem wptb_grw {R : List (Int × Int)} {M : List Int} (hok : okR (-1) 1048576 R = true) (hM : M.length = sumR R) (hB : isBytes M) (a l : Int) (x : Wst) : (isSgs x.S → isSgs (wptb R M a l x).S) ∧ x.S.length ≤ (wptb R M a l x).S.length ∧ (wptb R M a l x).S.length ≤ x.S.length + 64 := by
  unfold wptb
  by_cases h : wenE R a l = 0
  · rw [if_pos h]
    have hl : l / 16 ≤ 64 := by
      rcases wenE_cases R a l with ⟨_, _, _, h3, _⟩ | ⟨e, _⟩ | ⟨e, _⟩
      · exact h3
      · rw [e] at h
        cases h
      · rw [e] at h
        cases h
    obtain ⟨g1, g2, g3⟩ := wpe_grw hok hM hB a (l / 16).toNat 0 x (fun j _ h2 => read_sub hok h j (by omega))
    exact ⟨g1, g2, by omega⟩
  · rw [if_neg h]
    obtain ⟨h1, _⟩ := wstop_S (wenE R a l) x
    rw [h1]
    exact ⟨fun h => h, Nat.le_refl _, by omega⟩
theorem wpk_grw {R : List (Int × Int)} {M : List Int} (hok : okR (-1) 1048576 R = true) (hM : M.length = sumR R) (hB : isBytes M) (d n : Int) (table : Bool) : ∀ (f : Nat) (p : Int) (s : Pst), (isSgs s.x.S → isSgs (wpk R M d n table f p s).x.S) ∧ (wpk R M d n table f p s).x.S.length ≤ s.x.S.length + f + 64
  | 0, _, s => ⟨fun h => h, by show s.x.S.length ≤ _; omega⟩
  | f + 1, p, s => by
    rw [wpk_succ]
    split
    · obtain ⟨h1, _⟩ := wstop_S 4 s.x
      simp only [h1]
      exact ⟨fun h => h, by omega⟩
    cases hd : dscAt R M (d + 16 * p) with
    | none =>
      obtain ⟨h1, _⟩ := wstop_S 5 s.x
      simp only [h1]
      exact ⟨fun h => h, by omega⟩
    | some q =>
      have hi := dsc_is hok hM hB hd
      have hsg : isSgs s.x.S → isSgs (wseg q.a q.l q.n s.x).S := fun h t ht => by
        rcases List.mem_append.1 ht with ht | ht
        · exact h t ht
        · rw [List.mem_singleton] at ht
          subst ht
          exact ⟨hi.a, hi.l⟩
      have hln := (wseg_len q.a q.l q.n s.x).1
      simp only
      split
      · split
        · obtain ⟨h1, _⟩ := wstop_S 4 s.x
          simp only [h1]
          exact ⟨fun h => h, by omega⟩
        · obtain ⟨g1, g2, g3⟩ := wptb_grw hok hM hB q.a q.l s.x
          exact ⟨g1, by simp only; omega⟩
      · split
        · obtain ⟨g1, g2⟩ := wpk_grw hok hM hB d n table f (goA p 1 n) ⟨wseg q.a q.l q.n s.x, q.f, s.c + 1⟩
          exact ⟨fun h => g1 (hsg h), by simp only at g2; omega⟩
        · exact ⟨hsg, by simp only; omega⟩
/-- Packed's answers -/
def wpE (R : List (Int × Int)) (M : List Int) (pk : Bool) (n d g c p : Int) (table : Bool) : Int := if wrfE pk true n d g c = 0 then (if okP p n = true then wndE R (wpkX n (wpkS R M d n p table)) else 2) else wrfE pk true n d g c
def wpL (R : List (Int × Int)) (M : List Int) (pk : Bool) (n d g c p : Int) (table : Bool) : List Sg := if wpE R M pk n d g c p table = 0 then (wpkX n (wpkS R M d n p table)).S else []
def wpI (R : List (Int × Int)) (M : List Int) (pk : Bool) (n d g c p : Int) (table : Bool) : Int := if wpE R M pk n d g c p table = 0 then (wpkS R M d n p table).id else 0
def wpC (R : List (Int × Int)) (M : List Int) (pk : Bool) (n d g c p : Int) (table : Bool) : Nat := if wpE R M pk n d g c p table = 0 then (wpkS R M d n p table).c else 0
end Go.Proofs.Ytfhhgcgbgmilcaa

/- The reference of layer 10: Packed. Conditions: as each theorem names them. -/
namespace Go.Proofs.Ytfhhgcgbgmilcaa
open Go.ChangeShapes Go.WideShapes Go.ChangeAt Go.RowKit
set_option linter.unusedVariables false
set_option maxRecDepth 100000

theorem okP_of {p n : Int} (h1 : 1 ≤ n) (h2 : n ≤ 32768) (h3 : 0 ≤ p) (h4 : p < n) : okP p n = true := by
  unfold okP
  exact decide_eq_true ⟨h1, h2, h3, h4⟩
theorem goA1 {p n : Int} (h3 : 0 ≤ p) (h4 : p < n) : 0 ≤ goA p 1 n ∧ goA p 1 n < n := by
  unfold goA
  split <;> omega
set_option maxHeartbeats 8000000 in
theorem rpacked10 (rp : Nat) (R : List (Int × Int)) (M : List Int) (pk : Bool) (n d g c p : Int) (b table : Bool) (w : World) (hm : RefM w rp R M) (hd : U64 d) (hg : U64 g) (hc : U64 c) :
    Calls Try.prog 20 #[.pointer (some ⟨rp, 0, none⟩), rV pk n d g c, .agg #[.int .i64 p, .bool b], .bool table] w fun e w' => ∃ v, e = .returned (.tuple #[.agg #[.int .i64 (wpI R M pk n d g c p table), .int .i64 (wpC R M pk n d g c p table : Nat), v], .int .i64 (wpE R M pk n d g c p table)]) ∧ SegsAt w' v (wpL R M pk n d g c p table) ∧ Below w.heap.size w w' := by
  obtain ⟨base, lb, bb, cL, cB, aB, D, hmi⟩ := hm
  have HP := hid_mk (fun u => rrefuse rp pk n d g c true u hd hg hc)
  have HM : Hid (RefM w rp R M) := hid_mk ⟨base, lb, bb, cL, cB, aB, D, hmi⟩
  have HOk := hid_mk hmi.ok
  have HLn := hid_mk hmi.len
  have HBy := hid_mk hmi.rng
  have HK := hid_mk (fun u => rcheck_all p n b u)
  obtain ⟨W0, hW0⟩ : ∃ W0, W0 = ((w.alloc (.cells #[.bool pk, .int .i64 n, .int .u64 d, .int .u64 g, .int .u64 c] 24)).alloc (.cells #[.int .i64 p, .bool b] 42)).alloc (.cells #[.int .i64 0, .int .i64 0, .slice none 0 0] 38) := ⟨_, rfl⟩
  have HB : Hid (Below w.heap.size w W0) := hid_mk (by rw [hW0]; exact ((below_box w _).alloc (by simp) _).alloc (by simp <;> omega) _)
  have HG : Hid (BlkAt W0 w.heap.size [.bool pk, .int .i64 n, .int .u64 d, .int .u64 g, .int .u64 c] 24) := hid_mk (by rw [hW0]; exact ((blk_new w _ _).below (below_box _ _)).below (below_box _ _))
  have HPx : Hid (BlkAt W0 (w.heap.size + 1) [.int .i64 p, .bool b] 42) := hid_mk (by
    rw [hW0]
    have := (blk_new (w.alloc (.cells #[.bool pk, .int .i64 n, .int .u64 d, .int .u64 g, .int .u64 c] 24)) [.int .i64 p, .bool b] 42).below (below_box _ (.cells #[.int .i64 0, .int .i64 0, .slice none 0 0] 38))
    simpa using this)
  have HS : Hid (BlkAt W0 (w.heap.size + 1 + 1) [.int .i64 0, .int .i64 0, .slice none 0 0] 38) := hid_mk (by
    rw [hW0]
    have := blk_new ((w.alloc (.cells #[.bool pk, .int .i64 n, .int .u64 d, .int .u64 g, .int .u64 c] 24)).alloc (.cells #[.int .i64 p, .bool b] 42)) [.int .i64 0, .int .i64 0, .slice none 0 0] 38
    simpa using this)
  have HW := hid_mk hW0
  have HD := hid_mk hd
  clear hmi hd hg hc hW0
  by_cases hz : wrfE pk true n d g c = 0
  · rw [hz] at HP
    have hpk := wrfE_pk hz
    subst hpk
    obtain ⟨n1, n2, n3⟩ := rg_ok hz
    have HN := hid_mk (show 1 ≤ n ∧ n ≤ 32768 ∧ d + 16 * n ≤ 18446744073709551616 from ⟨n1, n2, n3⟩)
    by_cases hok : okP p n = true
    · have hE : wpE R M true n d g c p table = wndE R (wpkX n (wpkS R M d n p table)) := by
        unfold wpE
        rw [if_pos hz, if_pos hok]
      unfold wpI wpC wpL
      rw [hE]
      rw [show chkI p n = 0 from if_pos hok] at HK
      obtain ⟨_, _, p1, p2⟩ := okP_t hok
      have HPr := hid_mk (show 0 ≤ p ∧ p < n from ⟨p1, p2⟩)
      obtain ⟨FIN, hFIN⟩ : ∃ F, F = wpkS R M d n p table := ⟨_, rfl⟩
      rw [← hFIN]
      have HFI := hid_mk hFIN
      obtain ⟨XF, hXF⟩ : ∃ X, X = wpkX n FIN := ⟨_, rfl⟩
      rw [← hXF]
      obtain ⟨E, hE2⟩ : ∃ E, wndE R XF = E := ⟨_, rfl⟩
      rw [hE2]
      have HXF := hid_mk hXF
      have HE := hid_mk hE2
      clear hz n1 n2 n3 hok hE p1 p2 hFIN hXF hE2
      go_enter Try.func20, Try.ntmps20
      go_wp2_with fail
      rw [← HW.out]
      refine (HP.out _).mono ?_
      rintro e w1 ⟨rfl, hb⟩
      have HB1 := hid_mk (below_then HB.out hb)
      have HG1 := hid_mk (HG.out.below hb)
      have HPx1 := hid_mk (HPx.out.below hb)
      have HS1 := hid_mk (HS.out.below hb)
      have x0 : w1.cell? ⟨w.heap.size, 1, none⟩ = some (.int .i64 n) := HG1.out.cell 1
      have x1 := HG1.out.lt
      have x2 : w1.cell? ⟨w.heap.size + 1, 0, none⟩ = some (.int .i64 p) := HPx1.out.cell 0
      have x3 : w1.cell? ⟨w.heap.size + 1, 1, none⟩ = some (.bool b) := HPx1.out.cell 1
      have x4 := HPx1.out.lt
      clear hb
      go_wp2_with fail
      refine (HK.out _).mono ?_
      rintro e w2 ⟨rfl, hb⟩
      have HB2 := hid_mk (below_then HB1.out hb)
      have HG2 := hid_mk (HG1.out.below hb)
      have HPx2 := hid_mk (HPx1.out.below hb)
      have HS2 := hid_mk (HS1.out.below hb)
      clear hb x0 x1 x2 x3 x4
      obtain ⟨pb, hpb⟩ : ∃ pb, w.heap.size + 1 = pb := ⟨_, rfl⟩
      obtain ⟨sb, hsb⟩ : ∃ sb, pb + 1 = sb := ⟨_, rfl⟩
      rw [hpb] at HPx2
      rw [hpb, hsb] at HS2
      rw [hpb]
      rw [hsb]
      obtain ⟨xb, hxb⟩ : ∃ xb, w2.heap.size = xb := ⟨_, rfl⟩
      have HR := rd_new2 (w := w2) HM.out HB2.out HOk.out HLn.out HBy.out
      have HPS : Hid (PkS w rp R M xb w.heap.size pb (xb + 1) sb [.bool true, .int .i64 n, .int .u64 d, .int .u64 g, .int .u64 c] p b 0 0 ⟨[], 0, 0⟩ ((w2.alloc (.cells #[.pointer (some ⟨rp, 0, none⟩), .slice none 0 0, .int .i64 0, .int .i64 0] 106)).alloc (.cells #[.int .i64 0, .int .i64 0, .slice none 0 0] 38))) := hid_mk (by
        have hs2 := HS2.out.lt
        have hsz := HB2.out.size
        rw [← hxb]
        refine ⟨HR.below (below_box _ _), (HG2.out.below (below_box _ _)).below (below_box _ _), (HPx2.out.below (below_box _ _)).below (below_box _ _), ?_, (HS2.out.below (below_box _ _)).below (below_box _ _), by omega, by omega, by omega, by omega⟩
        have := blk_new (w2.alloc (.cells #[.pointer (some ⟨rp, 0, none⟩), .slice none 0 0, .int .i64 0, .int .i64 0] 106)) [.int .i64 0, .int .i64 0, .slice none 0 0] 38
        simpa using this)
      clear HR HB1 HG1 HPx1 HS1 HG2 HPx2 HS2
      go_upto_block 0 with fail
      go_cut [13] (fun _ wx => ∃ (P : Int) (B : Bool), Hid (PkS w rp R M xb w.heap.size pb (xb + 1) sb [.bool true, .int .i64 n, .int .u64 d, .int .u64 g, .int .u64 c] P B FIN.id FIN.c FIN.x wx))
      case first =>
        as_aux_lemma =>
        go_wp2_with fail
        go_loopg [13, 14, 15, 16] (n.toNat + 1) (fun gk _ _ _ _ wr => ∃ (P : Int) (B : Bool) (I : Int) (C : Nat) (x : Wst), C + gk = n.toNat + 1 ∧ Hid ((C : Int) ≤ n) ∧ Hid (0 ≤ P ∧ P < n) ∧ Hid (PkS w rp R M xb w.heap.size pb (xb + 1) sb [.bool true, .int .i64 n, .int .u64 d, .int .u64 g, .int .u64 c] P B I C x wr) ∧ Hid (x.S.length = C) ∧ Hid (FIN = wpk R M d n table gk P ⟨x, I, C⟩))
        case atStart => exact ⟨p, b, 0, 0, ⟨[], 0, 0⟩, by simp, hid_mk (by have := HN.out; omega), HPr, HPS, hid_mk rfl, HFI⟩
        case round =>
          obtain ⟨P, B, I, C, x, hk, hC, hP, hps, hxl, hfin⟩ := hrel
          obtain ⟨f, rfl⟩ : ∃ f, gk = f + 1 := ⟨gk - 1, by have := hC.out; have := HN.out; omega⟩
          rw [wpk_succ] at hfin
          obtain ⟨⟨t0, t1, t2, t3, t4, t5, t6⟩, ⟨p0, p1, p2, p3, p4⟩, g0, hG⟩ := hps.out.cells
          have y1 : wr.cell? ⟨w.heap.size, 1, none⟩ = some (.int .i64 n) := hG 1
          have y2 : wr.cell? ⟨w.heap.size, 2, none⟩ = some (.int .u64 d) := hG 2
          clear hG
          have HCn := hC
          by_cases hcn : (C : Int) = n
          · rw [if_pos hcn] at hfin
            have b1 : ((C : Int) == n) = true := by simp [hcn]
            have HS4 := hid_mk (rstopW hps.out.rd 4)
            clear hcn
            go_wp2_with fail
            refine HS4.out.mono ?_
            rintro e w3 ⟨rfl, hl⟩
            have HL := hid_mk hl
            clear hl
            go_wp2_with fail
            go_meet
            exact ⟨P, B, hid_mk (by rw [hfin.out]; exact hps.out.lf HL.out)⟩
          · rw [if_neg hcn] at hfin
            have b1 : ((C : Int) == n) = false := beq_false_of_ne hcn
            have hPb : 0 ≤ P ∧ P < 32768 := by have := hP.out; have := HN.out; omega
            have hAd : U64 (d + 16 * P) := by have := hP.out; have := HN.out; have := HD.out; omega
            have hw1 : IntKind.u64.wrap P = P := by rw [IntKind.wrap_u64]; omega
            have hw2 : IntKind.u64.wrap (16 * P) = 16 * P := by rw [IntKind.wrap_u64]; omega
            have hw3 : IntKind.u64.wrap (d + 16 * P) = d + 16 * P := by rw [IntKind.wrap_u64]; omega
            have HRd := hid_mk (rread16 hps.out.rd (d + 16 * P) hAd wr (Below.refl _ _))
            clear hcn hPb hAd
            cases hd : dscAt R M (d + 16 * P) with
            | none =>
              rw [hd] at hfin
              simp only at hfin
              have hE : readE R (d + 16 * P) 16 = 5 := by
                rcases readE_is R (d + 16 * P) with e | e
                · unfold dscAt at hd
                  rw [if_pos e] at hd
                  cases hd
                · exact e
              rw [hE] at HRd
              clear hd hE
              go_wp2_with fail
              refine HRd.out.mono ?_
              rintro e w3 ⟨v, rfl, ⟨hv, _⟩, hb⟩
              have HPS3 := hid_mk (hps.out.below hb)
              clear hv hb t0 t1 t2 t3 t4 t5 t6 p0 p1 p2 p3 p4 g0 y1 y2
              go_wp2_with fail
              refine (rstopW HPS3.out.rd 5).mono ?_
              rintro e w4 ⟨rfl, hl⟩
              have HL := hid_mk hl
              clear hl
              go_wp2_with fail
              go_meet
              exact ⟨P, B, hid_mk (by rw [hfin.out]; exact HPS3.out.lf HL.out)⟩
            | some q =>
              rw [hd] at hfin
              simp only at hfin
              have hE : readE R (d + 16 * P) 16 = 0 ∧ dR (readL R M (d + 16 * P) 16) = q := by
                unfold dscAt at hd
                by_cases e : readE R (d + 16 * P) 16 = 0
                · rw [if_pos e] at hd
                  exact ⟨e, Option.some.inj hd⟩
                · rw [if_neg e] at hd
                  cases hd
              have HDI := hid_mk (dsc_is HOk.out HLn.out HBy.out hd)
              obtain ⟨hE, hq⟩ := hE
              have hl16 := readL_16 HOk.out HLn.out hE
              have HPd := hid_mk (fun v u (hu : BytesAt u v (readL R M (d + 16 * P) 16)) => rpread_any v (readL R M (d + 16 * P) 16) u hu (readL_bytes HBy.out) (by omega))
              rw [(rd_yes hl16).1, (rd_yes hl16).2, hq] at HPd
              rw [hE] at HRd
              have HGo := hid_mk (fun u => rgo_any P 1 n B u (by have := HN.out; omega) (by have := HN.out; omega) (by have := hP.out; omega) (by have := hP.out; omega) (by omega) (by have := HN.out; omega))
              have HP2 := hid_mk (goA1 hP.out.1 hP.out.2)
              have hf4 : (bits .and .u16 q.n 4 != 0) = flB q.n 4 := flB_and 4 HDI.out.n (by decide)
              have hf1 : (bits .and .u16 q.n 1 != 0) = flB q.n 1 := flB_and 1 HDI.out.n (by decide)
              have hwq : IntKind.i64.wrap q.f = q.f := IntWalk.i64_in _ (by have := HDI.out.f; omega)
              have hqf := HDI.out.f
              have hC32 : (C : Int) < 32768 := by
                have h1 := hC.out
                have h2 := HN.out
                have h3 : (C : Int) ≠ n := fun e => by rw [e] at b1; simp at b1
                omega
              have HC2 : Hid (((C + 1 : Nat) : Int) ≤ n) := hid_mk (by
                have h1 := hC.out
                have h3 : (C : Int) ≠ n := fun e => by rw [e] at b1; simp at b1
                omega)
              clear hd hE hq hl16
              go_wp2_with fail
              refine HRd.out.mono ?_
              rintro e w3 ⟨v, rfl, ⟨hv, _⟩, hb⟩
              have HV := hid_mk hv
              have HPS3 := hid_mk (hps.out.below hb)
              clear hv hb t0 t1 t2 t3 t4 t5 t6 p0 p1 p2 p3 p4 g0 y1 y2 hw1 hw2 hw3
              go_wp2_with fail
              refine (HPd.out _ _ HV.out).mono ?_
              rintro e w4 ⟨rfl, hb⟩
              have HPS4 := hid_mk ((HPS3.out.below hb).below (below_box w4 (.cells #[.int .u64 q.a, .int .u32 q.l, .int .u16 q.f, .int .u16 q.n] 99)))
              have HBX := hid_mk (blk_new w4 [.int .u64 q.a, .int .u32 q.l, .int .u16 q.f, .int .u16 q.n] 99)
              clear hb
              obtain ⟨⟨t0, t1, t2, t3, t4, t5, t6⟩, ⟨p0, p1, p2, p3, p4⟩, g0, hG⟩ := HPS4.out.cells
              have y1 : (w4.alloc (.cells #[.int .u64 q.a, .int .u32 q.l, .int .u16 q.f, .int .u16 q.n] 99)).cell? ⟨w.heap.size, 1, none⟩ = some (.int .i64 n) := hG 1
              have hn1 := ne_of_ty HPS4.out.px HPS4.out.tx (by decide)
              have hn2 := ne_of_ty HPS4.out.gx HPS4.out.tx (by decide)
              have hn3 := ne_of_ty HBX.out HPS4.out.tx (by decide)
              have hn4 := ne_of_ty HBX.out HPS4.out.px (by decide)
              have hdl := HBX.out.lt
              obtain ⟨w5, hw5⟩ : ∃ w5, w5 = w4.alloc (.cells #[.int .u64 q.a, .int .u32 q.l, .int .u16 q.f, .int .u16 q.n] 99) := ⟨_, rfl⟩
              obtain ⟨db, hdb⟩ : ∃ db, w4.heap.size = db := ⟨_, rfl⟩
              obtain ⟨_, d0, d1, d2, d3, _⟩ := cells4 HBX.out
              rw [← hw5] at t0 t1 t2 t3 t4 t5 t6 p0 p1 p2 p3 p4 g0 y1 HPS4 HBX hdl d0 d1 d2 d3
              rw [hdb] at HBX hn3 hn4 hdl d0 d1 d2 d3
              have HW5 := hid_mk hw5
              have HDB := hid_mk hdb
              clear hG hw5 hdb
              go_upto_region 14 with fail
              rw [← HW5.out, HDB.out]
              have hC0 : ((C + 1 : Nat) : Int) = (C : Int) + 1 := by omega
              go_wp2_with fail
              refine (HGo.out _).mono ?_
              rintro e w6 ⟨rfl, hb⟩
              have HPS6 := hid_mk (((HPS4.out.setId q.f).setC (C + 1)).below (by rw [hC0]; exact hb))
              have HBX6 := hid_mk (((HBX.out.other hn3 (.int .i64 q.f)).other hn3 (.int .i64 ((C : Int) + 1))).below hb)
              clear hb hC0 t0 t1 t2 t3 t4 t5 t6 p0 p1 p2 p3 p4 g0 y1 d0 d1 d2 d3 hdl
              obtain ⟨⟨t0, t1, t2, t3, t4, t5, t6⟩, ⟨p0, p1, p2, p3, p4⟩, g0, hG⟩ := HPS6.out.cells
              have hdl := HBX6.out.lt
              obtain ⟨_, d0, d1, d2, d3, _⟩ := cells4 HBX6.out
              have HPS7 := hid_mk (HPS6.out.setP (goA P 1 n) (goW P 1 n B))
              have hCc : ((C + 1 : Nat) : Int) = (C : Int) + 1 := by omega
              rw [hCc] at t2
              clear hG hCc
              cases h4 : flB q.n 4
              · rw [h4, if_neg (by decide)] at hfin
                go_wp2_with fail
                refine (rsegW HPS7.out.rd q.a q.l q.n HDI.out.n (by have := hxl.out; omega)).mono ?_
                rintro e w8 ⟨rfl, hl⟩
                have HPS8 := hid_mk (HPS7.out.lf hl)
                have HBX8 := hid_mk (hl.kp.at ((HBX6.out.other hn4 (.int .i64 (goA P 1 n))).other hn4 (.bool (goW P 1 n B))) (by decide) (by decide))
                clear hl d0 d1 d2 d3 hdl
                have hdl := HBX8.out.lt
                obtain ⟨_, d0, d1, d2, d3, _⟩ := cells4 HBX8.out
                cases h1 : flB q.n 1
                · rw [h1, if_neg (by decide)] at hfin
                  have hf0 : (bits .and .u16 q.n 1 == 0) = true := by
                    rw [h1] at hf1
                    simpa using hf1
                  go_wp2_with fail
                  go_meet
                  exact ⟨_, _, hid_mk (by rw [hfin.out]; exact HPS8.out)⟩
                · rw [h1, if_pos rfl] at hfin
                  have hf0 : (bits .and .u16 q.n 1 == 0) = false := by
                    rw [h1] at hf1
                    simpa using hf1
                  go_wp2_with fail
                  go_roundg f
                  case measure => omega
                  case rel => exact ⟨goA P 1 n, goW P 1 n B, q.f, C + 1, wseg q.a q.l q.n x, by omega, HC2, HP2, HPS8, hid_mk (by rw [(wseg_len _ _ _ _).1, hxl.out]), hfin⟩
              · rw [h4, if_pos rfl] at hfin
                by_cases ht : table = true
                · by_cases h5 : 1 < C + 1
                  · have b5 : decide ((1 : Int) < (C : Int) + 1) = true := decide_eq_true (by omega)
                    rw [ht, decide_eq_true h5, if_pos (by simp)] at hfin
                    have hnt : (!table) = false := by rw [ht]; rfl
                    clear h5 ht
                    go_wp2_with fail
                    refine (rstopW HPS7.out.rd 4).mono ?_
                    rintro e w8 ⟨rfl, hl⟩
                    have HL := hid_mk hl
                    clear hl
                    go_wp2_with fail
                    go_meet
                    exact ⟨_, _, hid_mk (by rw [hfin.out]; exact HPS7.out.lf HL.out)⟩
                  · have b5 : decide ((1 : Int) < (C : Int) + 1) = false := decide_eq_false (by omega)
                    rw [ht, decide_eq_false h5] at hfin
                    have hnt : (!table) = false := by rw [ht]; rfl
                    clear h5 ht
                    cases h1 : flB q.n 1
                    · rw [h1, if_neg (by decide)] at hfin
                      go_wp2_with fail
                      refine (rptab10 w rp xb R M q.a q.l x _ HPS7.out.rd HDI.out.a HDI.out.l.1 HDI.out.l.2 (by have := hxl.out; omega)).mono ?_
                      rintro e w8 ⟨rfl, hl⟩
                      have HL := hid_mk hl
                      clear hl
                      go_wp2_with fail
                      go_meet
                      exact ⟨_, _, hid_mk (by rw [hfin.out]; exact HPS7.out.lf HL.out)⟩
                    · rw [h1, if_pos (by decide)] at hfin
                      go_wp2_with fail
                      refine (rstopW HPS7.out.rd 4).mono ?_
                      rintro e w8 ⟨rfl, hl⟩
                      have HL := hid_mk hl
                      clear hl
                      go_wp2_with fail
                      go_meet
                      exact ⟨_, _, hid_mk (by rw [hfin.out]; exact HPS7.out.lf HL.out)⟩
                · replace ht : table = false := by simpa using ht
                  rw [ht, if_pos (by simp)] at hfin
                  have hnt : (!table) = true := by rw [ht]; rfl
                  clear ht
                  go_wp2_with fail
                  refine (rstopW HPS7.out.rd 4).mono ?_
                  rintro e w8 ⟨rfl, hl⟩
                  have HL := hid_mk hl
                  clear hl
                  go_wp2_with fail
                  go_meet
                  exact ⟨_, _, hid_mk (by rw [hfin.out]; exact HPS7.out.lf HL.out)⟩
      case rest =>
        obtain ⟨P, B, hps⟩ := hcut
        have HGr := hid_mk (wpk_grw HOk.out HLn.out HBy.out d n table (n.toNat + 1) p ⟨⟨[], 0, 0⟩, 0, 0⟩)
        rw [show wpk R M d n table (n.toNat + 1) p ⟨⟨[], 0, 0⟩, 0, 0⟩ = FIN from HFI.out.symm] at HGr
        have HXS : Hid (isSgs XF.S ∧ XF.S.length ≤ 100000) := hid_mk (by
          have h1 := HGr.out.1 (fun s hs => by cases hs)
          have h2 : FIN.x.S.length ≤ 0 + (n.toNat + 1) + 64 := HGr.out.2
          have h3 := HN.out
          rw [HXF.out]
          unfold wpkX
          split
          · rw [(wstop_S 4 FIN.x).1]
            exact ⟨h1, by omega⟩
          · exact ⟨h1, by omega⟩)
        have HRend := hid_mk (fun (u : World) (hu : Rd w rp R M xb XF u) => rend w rp xb R M XF u hu HXS.out.1 HXS.out.2)
        unfold wndL at HRend
        rw [HE.out] at HRend
        obtain ⟨⟨t0, t1, t2, t3, t4, t5, t6⟩, _, g0, hG⟩ := hps.out.cells
        have y1 : wc.cell? ⟨w.heap.size, 1, none⟩ = some (.int .i64 n) := hG 1
        clear hG
        by_cases hge : n ≤ FIN.id
        · have b1 : decide (n ≤ FIN.id) = true := decide_eq_true hge
          have hX : XF = wstop 4 FIN.x := by
            rw [HXF.out]
            unfold wpkX
            rw [if_pos hge]
          have HX := hid_mk hX
          clear hge hX
          go_wp2_with fail
          refine (rstopW hps.out.rd 4).mono ?_
          rintro e w5 ⟨rfl, hl⟩
          have HPSx := hid_mk (hps.out.lf hl)
          rw [← HX.out] at HPSx
          clear hl t0 t1 t2 t3 t4 t5 t6 g0 y1
          go_wp2_with fail
          refine (HRend.out _ HPSx.out.rd).mono ?_
          rintro e w6 ⟨v, rfl, hv, hb, hk⟩
          have HTX := hid_mk (Kp.at HPSx.out.tx hk (by decide) (by decide))
          have HSX := hid_mk (Kp.at HPSx.out.sx hk (by decide) (by decide))
          have HV := hid_mk hv
          have HBf := hid_mk hb
          obtain ⟨va, vl, vc, rfl⟩ : ∃ a l c, v = .slice a l c := by
            obtain ⟨a, c, e⟩ := hv.at.len
            exact ⟨a, _, c, e⟩
          have hne := HPSx.out.ne
          have t0 := HTX.out.lt
          have t1 : w6.cell? ⟨xb + 1, 0, none⟩ = some (.int .i64 FIN.id) := HTX.out.cell 0
          have t2 : w6.cell? ⟨xb + 1, 1, none⟩ = some (.int .i64 (FIN.c : Int)) := HTX.out.cell 1
          have t3 : w6.cell? ⟨xb + 1, 2, none⟩ = some (.slice none 0 0) := HTX.out.cell 2
          have t4 := HTX.out.free 2
          have s0 := HSX.out.lt
          have s1 : w6.cell? ⟨sb, 0, none⟩ = some (.int .i64 0) := HSX.out.cell 0
          have s2 : w6.cell? ⟨sb, 1, none⟩ = some (.int .i64 0) := HSX.out.cell 1
          have s3 : w6.cell? ⟨sb, 2, none⟩ = some (.slice none 0 0) := HSX.out.cell 2
          have s4 := HSX.out.free 0
          have s5 := HSX.out.free 1
          have s6 := HSX.out.free 2
          have hne2 : sb ≠ xb + 1 := fun e => hne e.symm
          have HGT := hid_mk HPSx.out.gt
          have HGS := hid_mk HPSx.out.gs
          have HSX2 : Hid (∀ y, BlkAt (w6.setCell ⟨xb + 1, 2, none⟩ y) sb [.int .i64 0, .int .i64 0, .slice none 0 0] 38) := hid_mk (fun y => HSX.out.other hne2 y)
          clear hv hb hk
          by_cases hz : E = 0
          · rw [if_pos hz] at HV
            have b3 : (E != 0) = false := by rw [hz]; rfl
            have HZ := hid_mk hz
            clear hz
            go_wp2_with fail
            refine bodyPost_ret (v := .tuple #[.agg #[.int .i64 FIN.id, .int .i64 (FIN.c : Int), .slice va vl vc], .int .i64 0]) (by simp [results, Try.results20, go_sem, s1, s2, s3]) rfl ⟨.slice va vl vc, rfl, ?_, ?_⟩
            · have h1 := ownsRow_set (i := 2) HV.out (by decide) HTX.out (.slice va vl vc)
              have h2 := ownsRow_set (i := 0) h1 (by decide) (HSX2.out _) (.int .i64 FIN.id)
              have h3 := ownsRow_set (i := 1) h2 (by decide) ((HSX2.out _).set 0 _) (.int .i64 (FIN.c : Int))
              have h4 := ownsRow_set (i := 2) h3 (by decide) (((HSX2.out _).set 0 _).set 1 _) (.slice va vl vc)
              exact (OwnS.at h4)
            · exact (((HBf.out.setCell HGT.out _).setCell HGS.out _).setCell HGS.out _).setCell HGS.out _
          · have b3 : (E != 0) = true := by simp; exact hz
            have HZ := hid_mk hz
            clear hz
            go_wp2_with fail
            refine bodyPost_ret (v := .tuple #[.agg #[.int .i64 0, .int .i64 0, .slice none 0 0], .int .i64 E]) (by simp [results, Try.results20, go_sem, s1, s2, s3]) rfl ⟨.slice none 0 0, rfl, SegsAt_nil _, ?_⟩
            exact (((HBf.out.setCell HGT.out _).setCell HGS.out _).setCell HGS.out _).setCell HGS.out _
        · have b1 : decide (n ≤ FIN.id) = false := decide_eq_false hge
          have hX : XF = FIN.x := by
            rw [HXF.out]
            unfold wpkX
            rw [if_neg hge]
          have HX := hid_mk hX
          have HPSx := hps
          rw [← HX.out] at HPSx
          clear hge hX
          go_wp2_with fail
          clear t0 t1 t2 t3 t4 t5 t6 g0 y1
          refine (HRend.out _ HPSx.out.rd).mono ?_
          rintro e w6 ⟨v, rfl, hv, hb, hk⟩
          have HTX := hid_mk (Kp.at HPSx.out.tx hk (by decide) (by decide))
          have HSX := hid_mk (Kp.at HPSx.out.sx hk (by decide) (by decide))
          have HV := hid_mk hv
          have HBf := hid_mk hb
          obtain ⟨va, vl, vc, rfl⟩ : ∃ a l c, v = .slice a l c := by
            obtain ⟨a, c, e⟩ := hv.at.len
            exact ⟨a, _, c, e⟩
          have hne := HPSx.out.ne
          have t0 := HTX.out.lt
          have t1 : w6.cell? ⟨xb + 1, 0, none⟩ = some (.int .i64 FIN.id) := HTX.out.cell 0
          have t2 : w6.cell? ⟨xb + 1, 1, none⟩ = some (.int .i64 (FIN.c : Int)) := HTX.out.cell 1
          have t3 : w6.cell? ⟨xb + 1, 2, none⟩ = some (.slice none 0 0) := HTX.out.cell 2
          have t4 := HTX.out.free 2
          have s0 := HSX.out.lt
          have s1 : w6.cell? ⟨sb, 0, none⟩ = some (.int .i64 0) := HSX.out.cell 0
          have s2 : w6.cell? ⟨sb, 1, none⟩ = some (.int .i64 0) := HSX.out.cell 1
          have s3 : w6.cell? ⟨sb, 2, none⟩ = some (.slice none 0 0) := HSX.out.cell 2
          have s4 := HSX.out.free 0
          have s5 := HSX.out.free 1
          have s6 := HSX.out.free 2
          have hne2 : sb ≠ xb + 1 := fun e => hne e.symm
          have HGT := hid_mk HPSx.out.gt
          have HGS := hid_mk HPSx.out.gs
          have HSX2 : Hid (∀ y, BlkAt (w6.setCell ⟨xb + 1, 2, none⟩ y) sb [.int .i64 0, .int .i64 0, .slice none 0 0] 38) := hid_mk (fun y => HSX.out.other hne2 y)
          clear hv hb hk
          by_cases hz : E = 0
          · rw [if_pos hz] at HV
            have b3 : (E != 0) = false := by rw [hz]; rfl
            have HZ := hid_mk hz
            clear hz
            go_wp2_with fail
            refine bodyPost_ret (v := .tuple #[.agg #[.int .i64 FIN.id, .int .i64 (FIN.c : Int), .slice va vl vc], .int .i64 0]) (by simp [results, Try.results20, go_sem, s1, s2, s3]) rfl ⟨.slice va vl vc, rfl, ?_, ?_⟩
            · have h1 := ownsRow_set (i := 2) HV.out (by decide) HTX.out (.slice va vl vc)
              have h2 := ownsRow_set (i := 0) h1 (by decide) (HSX2.out _) (.int .i64 FIN.id)
              have h3 := ownsRow_set (i := 1) h2 (by decide) ((HSX2.out _).set 0 _) (.int .i64 (FIN.c : Int))
              have h4 := ownsRow_set (i := 2) h3 (by decide) (((HSX2.out _).set 0 _).set 1 _) (.slice va vl vc)
              exact (OwnS.at h4)
            · exact (((HBf.out.setCell HGT.out _).setCell HGS.out _).setCell HGS.out _).setCell HGS.out _
          · have b3 : (E != 0) = true := by simp; exact hz
            have HZ := hid_mk hz
            clear hz
            go_wp2_with fail
            refine bodyPost_ret (v := .tuple #[.agg #[.int .i64 0, .int .i64 0, .slice none 0 0], .int .i64 E]) (by simp [results, Try.results20, go_sem, s1, s2, s3]) rfl ⟨.slice none 0 0, rfl, SegsAt_nil _, ?_⟩
            exact (((HBf.out.setCell HGT.out _).setCell HGS.out _).setCell HGS.out _).setCell HGS.out _
    · have hE : wpE R M true n d g c p table = 2 := by
        unfold wpE
        rw [if_pos hz, if_neg hok]
      unfold wpI wpC wpL
      rw [hE, if_neg (by decide), if_neg (by decide), if_neg (by decide)]
      rw [show chkI p n = 2 from if_neg hok] at HK
      clear hz n1 n2 n3 hok hE
      go_enter Try.func20, Try.ntmps20
      go_wp2_with fail
      rw [← HW.out]
      refine (HP.out _).mono ?_
      rintro e w1 ⟨rfl, hb⟩
      have HB1 := hid_mk (below_then HB.out hb)
      have HG1 := hid_mk (HG.out.below hb)
      have HPx1 := hid_mk (HPx.out.below hb)
      have HS1 := hid_mk (HS.out.below hb)
      have x0 : w1.cell? ⟨w.heap.size, 1, none⟩ = some (.int .i64 n) := HG1.out.cell 1
      have x1 := HG1.out.lt
      have x2 : w1.cell? ⟨w.heap.size + 1, 0, none⟩ = some (.int .i64 p) := HPx1.out.cell 0
      have x3 : w1.cell? ⟨w.heap.size + 1, 1, none⟩ = some (.bool b) := HPx1.out.cell 1
      have x4 := HPx1.out.lt
      clear hb
      go_wp2_with fail
      refine (HK.out _).mono ?_
      rintro e w2 ⟨rfl, hb⟩
      have HB2 := hid_mk (below_then HB1.out hb)
      have HS2 := hid_mk (HS1.out.below hb)
      clear hb x0 x1 x2 x3 x4
      obtain ⟨sb, hsb⟩ : ∃ sb, w.heap.size + 1 + 1 = sb := ⟨_, rfl⟩
      rw [hsb] at HS2 ⊢
      have s0 := HS2.out.lt
      have s1 : w2.cell? ⟨sb, 0, none⟩ = some (.int .i64 0) := HS2.out.cell 0
      have s2 : w2.cell? ⟨sb, 1, none⟩ = some (.int .i64 0) := HS2.out.cell 1
      have s3 : w2.cell? ⟨sb, 2, none⟩ = some (.slice none 0 0) := HS2.out.cell 2
      have s4 := HS2.out.free 0
      have s5 := HS2.out.free 1
      have s6 := HS2.out.free 2
      have HGS : Hid (w.heap.size ≤ sb) := hid_mk (by omega)
      clear hsb
      go_wp2_with fail
      refine bodyPost_ret (v := .tuple #[.agg #[.int .i64 0, .int .i64 0, .slice none 0 0], .int .i64 2]) (by simp [results, Try.results20, go_sem, s1, s2, s3]) rfl ⟨.slice none 0 0, rfl, SegsAt_nil _, ?_⟩
      exact ((HB2.out.setCell HGS.out _).setCell HGS.out _).setCell HGS.out _
  · have hE : wpE R M pk n d g c p table = wrfE pk true n d g c := by
      unfold wpE
      rw [if_neg hz]
    unfold wpI wpC wpL
    rw [hE, if_neg hz, if_neg hz, if_neg hz]
    have b1 : (wrfE pk true n d g c != 0) = true := by simp; exact hz
    have b2 : (wrfE pk true n d g c == 0) = false := beq_false_of_ne hz
    generalize wrfE pk true n d g c = z at *
    clear hz hE
    go_enter Try.func20, Try.ntmps20
    go_wp2_with fail
    rw [← HW.out]
    refine (HP.out _).mono ?_
    rintro e w1 ⟨rfl, hb⟩
    have HB1 := hid_mk (below_then HB.out hb)
    have HS1 := hid_mk (HS.out.below hb)
    clear hb
    obtain ⟨sb, hsb⟩ : ∃ sb, w.heap.size + 1 + 1 = sb := ⟨_, rfl⟩
    rw [hsb] at HS1 ⊢
    have s0 := HS1.out.lt
    have s1 : w1.cell? ⟨sb, 0, none⟩ = some (.int .i64 0) := HS1.out.cell 0
    have s2 : w1.cell? ⟨sb, 1, none⟩ = some (.int .i64 0) := HS1.out.cell 1
    have s3 : w1.cell? ⟨sb, 2, none⟩ = some (.slice none 0 0) := HS1.out.cell 2
    have s4 := HS1.out.free 0
    have s5 := HS1.out.free 1
    have s6 := HS1.out.free 2
    have HGS : Hid (w.heap.size ≤ sb) := hid_mk (by omega)
    clear hsb
    go_wp2_with fail
    refine bodyPost_ret (v := .tuple #[.agg #[.int .i64 0, .int .i64 0, .slice none 0 0], .int .i64 z]) (by simp [results, Try.results20, go_sem, s1, s2, s3]) rfl ⟨.slice none 0 0, rfl, SegsAt_nil _, ?_⟩
    exact ((HB1.out.setCell HGS.out _).setCell HGS.out _).setCell HGS.out _
end Go.Proofs.Ytfhhgcgbgmilcaa

/- What package walk follows is the chain of the document. No program in sight. -/
namespace Go.Proofs.Ytfhhgcgbgmilcaa
open Go
set_option linter.unusedVariables false
set_option maxRecDepth 100000

def prS (s : Cs) : Wst := ⟨s.S, s.n, s.e⟩
theorem gt_dsc {R : List (Int × Int)} {M : List Int} {a n k : Int} (h : okI n k = true) : (gtE R a n k = 0 ∧ dscAt R M (a + 16 * k) = some (dR (readL R M (a + 16 * k) 16))) ∨ (gtE R a n k = 5 ∧ dscAt R M (a + 16 * k) = none) := by
  rw [gtE_yes h]
  unfold dscAt
  rcases readE_is R (a + 16 * k) with e | e
  · left
    rw [e]
    exact ⟨rfl, if_pos rfl⟩
  · right
    rw [e]
    exact ⟨rfl, if_neg (by decide)⟩
/-- a split chain, or table -/
theorem each_split (R : List (Int × Int)) (M : List Int) (a n : Int) (inner table : Bool) (tab : Int → Int → Wst → Wst) (step : Lk → Cs → Cs)
    (h1 : ∀ d s, s.e = 0 → d.t = false → prS (step d s) = ⟨s.S ++ [d.s], s.n, 0⟩)
    (h2 : ∀ d s, s.e = 0 → d.t = true → prS (step d s) = if (inner || (!table || d.m)) = true then wstop 4 (prS s) else tab d.s.a d.s.n (prS s)) :
    ∀ (f : Nat) (seen : List Int) (k : Int) (s : Cs), s.e = 0 → prS (eachF R M a n dSp step f seen k s) = wch R M a n inner table tab f seen k (prS s)
  | 0, seen, k, s, he => rfl
  | f + 1, seen, k, s, he => by
    have ih := each_split R M a n inner table tab step h1 h2 f
    have hx : (prS s).e = 0 := he
    have hst : ∀ E, prS (s.stop E) = wstop E (prS s) := fun E => by
      unfold wstop
      rw [if_pos hx]
      rfl
    rw [eachF_succ, wch_succ]
    by_cases hs : inB seen k = true
    · rw [if_pos hs, if_pos hs, hst]
    · rw [if_neg hs, if_neg hs]
      cases ho : okI n k
      · rw [gtE_no ho, if_neg (show ¬ (4 : Int) = 0 by decide), hst, if_pos rfl]
      · rw [if_neg (show ¬ (true = false) by decide)]
        rcases gt_dsc (R := R) (M := M) (a := a) ho with ⟨g1, g2⟩ | ⟨g1, g2⟩
        · rw [g1, if_pos rfl, g2]
          have hd : gtD R M a n dSp k = dSp (readL R M (a + 16 * k) 16) k := gtD_yes g1
          rw [hd]
          simp only
          have hone : prS s.one = wone (prS s) := rfl
          have he1 : s.one.e = 0 := he
          obtain ⟨d, hdd⟩ : ∃ d, dSp (readL R M (a + 16 * k) 16) k = d := ⟨_, rfl⟩
          have f1 : d.t = flB (dR (readL R M (a + 16 * k) 16)).f 4 := by rw [← hdd]; rfl
          have f2 : d.m = flB (dR (readL R M (a + 16 * k) 16)).f 1 := by rw [← hdd]; rfl
          have f3 : d.nx = (dR (readL R M (a + 16 * k) 16)).n := by rw [← hdd]; rfl
          have f4 : d.s = ⟨(dR (readL R M (a + 16 * k) 16)).a, (dR (readL R M (a + 16 * k) 16)).l, flB (dR (readL R M (a + 16 * k) 16)).f 2⟩ := by rw [← hdd]; rfl
          rw [hdd, ← f1, ← f2, ← f3]
          cases ht : d.t
          · have g := h1 d s.one he1 ht
            have ge : (step d s.one).e = 0 := congrArg Wst.e g
            rw [decide_eq_true ge, Bool.and_true, if_neg (show ¬ (false = true) by decide)]
            have hw : prS (step d s.one) = wseg (dR (readL R M (a + 16 * k) 16)).a (dR (readL R M (a + 16 * k) 16)).l (dR (readL R M (a + 16 * k) 16)).f (wone (prS s)) := by
              rw [g, f4]
              show Wst.mk _ _ 0 = Wst.mk _ _ s.e
              rw [he]
              rfl
            rw [← hw]
            cases hm : d.m
            · rw [if_neg (by decide), if_neg (by decide)]
            · rw [if_pos rfl, if_pos rfl]
              exact ih _ _ _ ge
          · have g := h2 d s.one he1 ht
            rw [if_pos rfl]
            have f5 : (dR (readL R M (a + 16 * k) 16)).a = d.s.a := by rw [f4]
            have f6 : (dR (readL R M (a + 16 * k) 16)).l = d.s.n := by rw [f4]
            rw [f5, f6]
            cases hm : d.m
            · rw [hm, hone] at g
              rw [Bool.false_and, if_neg (show ¬ (false = true) by decide), g]
            · rw [hm, if_pos (by simp), hone] at g
              have ge : (step d s.one).e = 4 := by
                have : (prS (step d s.one)).e = (wstop 4 (wone (prS s))).e := by rw [g]
                show (prS (step d s.one)).e = 4
                rw [this]
                unfold wstop
                rw [if_pos (show (wone (prS s)).e = 0 from he)]
              rw [ge, if_neg (by simp), g, if_pos (by simp)]
        · rw [g1, if_neg (show ¬ (5 : Int) = 0 by decide), g2, hst]
theorem foll_split (R : List (Int × Int)) (M : List Int) (n d head : Int) (tables : Bool) : prS (follF R M false n d head tables) = wspl R M d n head tables := by
  unfold follF wspl
  rw [if_neg (by decide)]
  refine each_split R M d n false tables (wtab R M) (st3 R M tables false) (fun d s he ht => ?_) (fun d s he ht => ?_) _ _ _ _ rfl
  · unfold st3
    rw [if_pos ht]
    show Wst.mk _ _ s.e = _
    rw [he]
    rfl
  · unfold st3
    rw [if_neg (by rw [ht]; decide), Bool.false_and, Bool.or_false, Bool.false_or]
    have hx : (prS s).e = 0 := he
    by_cases hc : (!tables || d.m) = true
    · rw [if_pos hc, if_pos hc]
      unfold wstop
      rw [if_pos hx]
      rfl
    · rw [if_neg hc, if_neg hc]
      unfold wtab
      by_cases hz : wenE R d.s.a d.s.n = 0
      · rw [if_pos hz, if_pos hz, if_neg (by decide)]
        refine (each_split R M d.s.a (d.s.n / 16) true true (fun _ _ x => x) stE (fun d s he ht => ?_) (fun d s he ht => ?_) ((d.s.n / 16).toNat + 1) [] 0 (s.ring d.id) he).trans rfl
        · unfold stE
          rw [if_neg (by rw [ht]; decide)]
          show Wst.mk _ _ s.e = _
          rw [he]
          rfl
        · unfold stE
          rw [if_pos ht, Bool.true_or, if_pos rfl]
          unfold wstop
          rw [if_pos (show (prS s).e = 0 from he)]
          rfl
      · rw [if_neg hz, if_neg hz]
        unfold wstop
        rw [if_pos hx]
        rfl
/-- a chain that was read has a segment -/
def NeS (s : Cs) : Prop := s.e = 0 → s.S ≠ []
theorem gt_ne {R : List (Int × Int)} {a n k : Int} (s : Cs) (h : gtE R a n k ≠ 0) : NeS (s.stop (gtE R a n k)) := fun e => absurd e h
theorem each_ne (R : List (Int × Int)) (M : List Int) (a n : Int) (D : List Int → Int → Lk) (step : Lk → Cs → Cs) (h : ∀ d s, NeS (step d s)) : ∀ (f : Nat) (seen : List Int) (k : Int) (s : Cs), NeS s ∨ 0 < f → NeS (eachF R M a n D step f seen k s)
  | 0, seen, k, s, hs => by
    rcases hs with hs | hs
    · exact hs
    · omega
  | f + 1, seen, k, s, _ => by
    rw [eachF_succ]
    by_cases h1 : inB seen k = true
    · rw [if_pos h1]
      exact fun e => by cases e
    · rw [if_neg h1]
      by_cases h2 : gtE R a n k = 0
      · rw [if_pos h2]
        split
        · exact each_ne R M a n D step h f _ _ _ (Or.inl (h _ _))
        · exact h _ _
      · rw [if_neg h2]
        exact gt_ne s h2
theorem ne_stE (d : Lk) (s : Cs) : NeS (stE d s) := by
  unfold stE
  split
  · exact fun e => by cases e
  · exact fun _ => by simp [Cs.seg]
theorem ne_st3 (R : List (Int × Int)) (M : List Int) (tables pk : Bool) (d : Lk) (s : Cs) : NeS (st3 R M tables pk d s) := by
  unfold st3
  split
  · exact fun _ => by simp [Cs.seg]
  · split
    · exact fun e => by cases e
    · split
      · exact each_ne R M _ _ _ stE ne_stE _ _ _ _ (Or.inr (by omega))
      · rename_i h
        exact fun e => absurd e h
theorem foll_ne (R : List (Int × Int)) (M : List Int) (pk : Bool) (n d head : Int) (tables : Bool) : NeS (follF R M pk n d head tables) := each_ne R M _ _ _ _ (ne_st3 R M tables pk) _ _ _ _ (Or.inr (by omega))
end Go.Proofs.Ytfhhgcgbgmilcaa
