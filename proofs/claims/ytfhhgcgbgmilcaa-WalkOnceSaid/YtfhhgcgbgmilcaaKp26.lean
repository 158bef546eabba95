/- Bd1 Bd2 Wk4: joined texts. Conditions: as each theorem names them. -/
import Derived.Test.YtfhhgcgbgmilcaaKp12
import Derived.Test.YtfhhgcgbgmilcaaKp24
import Derived.Test.YtfhhgcgbgmilcaaKp20
import Derived.Test.YtfhhgcgbgmilcaaKp13
import Derived.Test.YtfhhgcgbgmilcaaKp25
/- Lists of puts in memory; kit.SamePuts, kit.SamePacked. Conditions: as each theorem names them. -/
namespace Go.Proofs.Ytfhhgcgbgmilcaa
open Go.ChangeShapes Go.WideShapes Go.ChangeAt Go.RowKit
set_option linter.unusedVariables false
set_option maxRecDepth 100000

abbrev pV (x : Pt) : Value := .agg #[.int .i64 x.i, .int .u64 x.d.a, .int .u32 x.d.l, .int .u16 x.d.f, .int .u16 x.d.n]
def at5 (w : World) (b p : Nat) (x : Pt) : Prop := w.cell? ⟨b, p, none⟩ = some (.int .i64 x.i) ∧ w.cell? ⟨b, p + 1, none⟩ = some (.int .u64 x.d.a) ∧ w.cell? ⟨b, p + 2, none⟩ = some (.int .u32 x.d.l) ∧ w.cell? ⟨b, p + 3, none⟩ = some (.int .u16 x.d.f) ∧ w.cell? ⟨b, p + 4, none⟩ = some (.int .u16 x.d.n)
theorem at5.below {w w' : World} {b p : Nat} {x : Pt} (h : at5 w b p x) (hb : Below w.heap.size w w') (hlt : b < w.heap.size) : at5 w' b p x :=
  ⟨(hb.cell hlt).trans h.1, (hb.cell hlt).trans h.2.1, (hb.cell hlt).trans h.2.2.1, (hb.cell hlt).trans h.2.2.2.1, (hb.cell hlt).trans h.2.2.2.2⟩
/-- a slice of puts, nil too, that reads as L -/
def PtsAt (w : World) (v : Value) (L : List Pt) : Prop :=
  ((∃ a c, v = .slice a 0 c ∧ (a = none → c = 0)) ∧ L = []) ∨ ∃ b o c : Nat, v = .slice (some ⟨b, o, none⟩) L.length c ∧ b < w.heap.size ∧ L.length ≤ c ∧ ∀ j, j < L.length → at5 w b (o + j * 5) (ptat L j)
theorem PtsAt.below {w w' : World} {v : Value} {L : List Pt} (h : PtsAt w v L) (hb : Below w.heap.size w w') : PtsAt w' v L := by
  rcases h with h | ⟨b, o, c, h1, h2, h3, h4⟩
  · exact Or.inl h
  · have := hb.size
    exact Or.inr ⟨b, o, c, h1, by omega, h3, fun j hj => (h4 j hj).below hb h2⟩
theorem PtsAt.nil (w : World) : PtsAt w (.slice none 0 0) [] := Or.inl ⟨⟨_, _, rfl, fun _ => rfl⟩, rfl⟩
theorem PtsAt.len {w : World} {v : Value} {L : List Pt} (h : PtsAt w v L) : ∃ a c, v = .slice a L.length c := by
  rcases h with ⟨⟨a, c, rfl, _⟩, rfl⟩ | ⟨b, o, c, rfl, _⟩
  · exact ⟨a, c, rfl⟩
  · exact ⟨_, c, rfl⟩

/-- the cells of a row of puts -/
def ptCells : List Pt → List Value
  | [] => []
  | x :: L => .int .i64 x.i :: .int .u64 x.d.a :: .int .u32 x.d.l :: .int .u16 x.d.f :: .int .u16 x.d.n :: ptCells L
theorem ptCells_length : ∀ L : List Pt, (ptCells L).length = L.length * 5
  | [] => rfl
  | x :: L => by simp [ptCells, ptCells_length L]; omega
theorem ptCells_append : ∀ a b : List Pt, ptCells (a ++ b) = ptCells a ++ ptCells b
  | [], _ => rfl
  | x :: a, b => by simp [ptCells, ptCells_append a b]
theorem ptCells_at : ∀ (L : List Pt) (j : Nat), j < L.length → (ptCells L)[j * 5]? = some (.int .i64 (ptat L j).i) ∧ (ptCells L)[j * 5 + 1]? = some (.int .u64 (ptat L j).d.a) ∧ (ptCells L)[j * 5 + 2]? = some (.int .u32 (ptat L j).d.l) ∧ (ptCells L)[j * 5 + 3]? = some (.int .u16 (ptat L j).d.f) ∧ (ptCells L)[j * 5 + 4]? = some (.int .u16 (ptat L j).d.n)
  | [], j, h => by simp at h
  | x :: L, 0, h => ⟨rfl, rfl, rfl, rfl, rfl⟩
  | x :: L, j + 1, h => by
    have := ptCells_at L j (by simpa using h)
    have e : ∀ q, (ptCells (x :: L))[(j + 1) * 5 + q]? = (ptCells L)[j * 5 + q]? := fun q => by
      rw [show (j + 1) * 5 + q = (j * 5 + q) + 1 + 1 + 1 + 1 + 1 from by omega]
      rfl
    have e0 := e 0
    simp only [Nat.add_zero] at e0
    rw [e0, e 1, e 2, e 3, e 4]
    exact this
theorem oneP_of : ∀ {L : List Pt}, ∀ u ∈ ptCells L, u.oneCell' = true
  | [], u, hu => by cases hu
  | x :: L, u, hu => by
    simp only [ptCells, List.mem_cons] at hu
    rcases hu with rfl | rfl | rfl | rfl | rfl | hu
    · rfl
    · rfl
    · rfl
    · rfl
    · rfl
    · exact oneP_of u hu
theorem owns_pts {B : Nat} {w : World} {t : TypeId} {v : Value} {L : List Pt} (h : w.ownsRow B t 5 v L.length (ptCells L)) : PtsAt w v L := by
  obtain ⟨h1, h2⟩ := h
  rcases h2 with ⟨rfl, h0⟩ | ⟨g, cap, cur, rfl, hg, hh, hn, hm, hs, ht⟩
  · left
    exact ⟨⟨none, 0, rfl, fun _ => rfl⟩, List.length_eq_zero_iff.1 h0⟩
  · right
    refine ⟨g, 0, cap, rfl, lt_blk hh, hn, fun j hj => ?_⟩
    have e : cur = (ptCells L ++ cur.toList.drop (L.length * 5)).toArray := by
      rw [← ht, List.take_append_drop]
    rw [e] at hh
    have hl := ptCells_length L
    have hc := ptCells_at L j hj
    have hk : ∀ q, q < 5 → w.cell? ⟨g, j * 5 + q, none⟩ = (ptCells L)[j * 5 + q]? := fun q hq => by
      rw [cellK hh, List.getElem?_append_left (by omega)]
    simp only [at5, Nat.zero_add]
    have k0 := hk 0 (by omega)
    simp only [Nat.add_zero] at k0
    rw [k0, hk 1 (by omega), hk 2 (by omega), hk 3 (by omega), hk 4 (by omega)]
    exact hc

end Go.Proofs.Ytfhhgcgbgmilcaa

/- The reference of layer 9: may, Needs, SplitOne. Conditions: as each theorem names them. -/
namespace Go.Proofs.Ytfhhgcgbgmilcaa
open Go.ChangeShapes Go.WideShapes Go.ChangeAt Go.RowKit
set_option linter.unusedVariables false
set_option maxRecDepth 100000

theorem rmay (v : Value) (L : List Sg) (w : World) (hv : SegsAt w v L) (hu : isSgs L) (hl : L.length ≤ 1000) :
    Calls Try.prog 52 #[v] w fun e w' => e = .returned (.int .i64 (mayE L)) ∧ ∃ m, w' = w.drewN m := by
  have HC := hid_mk (rsegchk v L w hv hu)
  obtain ⟨va, vc, rfl⟩ := hv.len
  have hli : (L.length : Int) ≤ 1000 := by omega
  unfold mayE
  clear hv hu
  by_cases h1 : segE L = 0
  · rw [h1] at HC
    rw [if_pos h1]
    by_cases h2 : L.length = 0
    · rw [if_pos h2]
      rw [h2] at HC
      have hb : ((L.length : Int) == 0) = true := by simp [h2]
      clear h1
      rw [h2]
      clear hb hli h2
      go_enter Try.func52, Try.ntmps52
      go_wp2_with fail
      refine HC.out.mono ?_
      rintro e w1 ⟨rfl, m, rfl⟩
      go_wp2_with fail
      go_ret
      exact ⟨rfl, _, rfl⟩
    · rw [if_neg h2]
      have hb : ((L.length : Int) == 0) = false := beq_false_of_ne (by omega)
      clear h1 h2
      go_enter Try.func52, Try.ntmps52
      go_wp2_with fail
      refine HC.out.mono ?_
      rintro e w1 ⟨rfl, m, rfl⟩
      go_wp2_with fail
      go_ret
      exact ⟨rfl, _, rfl⟩
  · rw [if_neg h1]
    have hb : (segE L == 0) = false := beq_false_of_ne h1
    generalize segE L = z at *
    clear h1
    go_enter Try.func52, Try.ntmps52
    go_wp2_with fail
    refine HC.out.mono ?_
    rintro e w1 ⟨rfl, m, rfl⟩
    go_wp2_with fail
    go_ret
    exact ⟨rfl, _, rfl⟩

theorem rneeds (v : Value) (L : List Sg) (t : Bool) (w : World) (hv : SegsAt w v L) (hu : isSgs L) (hl : L.length ≤ 1000) :
    Calls Try.prog 24 #[v, .bool t] w fun e w' => e = .returned (.int .i64 (neeN L t)) ∧ ∃ m, w' = w.drewN m := by
  have HC := hid_mk (rmay v L w hv hu hl)
  obtain ⟨va, vc, rfl⟩ := hv.len
  unfold neeN
  clear hv hu hl
  by_cases h1 : mayE L = 0
  · rw [if_pos h1]
    rw [h1] at HC
    clear h1
    cases t
    all_goals
      go_enter Try.func24, Try.ntmps24
      go_wp2_with fail
      refine HC.out.mono ?_
      rintro e w1 ⟨rfl, m, rfl⟩
      go_wp2_with fail
      go_ret
      exact ⟨rfl, _, rfl⟩
  · rw [if_neg h1]
    have hb : (mayE L != 0) = true := by simp; exact h1
    generalize mayE L = z at *
    clear h1
    go_enter Try.func24, Try.ntmps24
    go_wp2_with fail
    refine HC.out.mono ?_
    rintro e w1 ⟨rfl, m, rfl⟩
    go_wp2_with fail
    go_ret
    exact ⟨rfl, _, rfl⟩

theorem okI_no {S x : Int} (h : okI S x = false) : x < 0 ∨ S ≤ x := by
  by_cases h0 : x < 0
  · exact Or.inl h0
  · right
    by_cases h1 : S ≤ x
    · exact h1
    · have := (okI_iff (S := S) (x := x)).2 (by omega)
      rw [h] at this
      cases this
end Go.Proofs.Ytfhhgcgbgmilcaa

/- The reference of layer 10: end. Conditions: as each theorem names them. Written by mkwk4.py. -/
namespace Go.Proofs.Ytfhhgcgbgmilcaa
open Go.ChangeShapes Go.WideShapes Go.ChangeAt Go.RowKit
set_option linter.unusedVariables false
set_option maxRecDepth 100000

theorem SegsAt_nil (w : World) : SegsAt w (.slice none 0 0) [] := Or.inl ⟨⟨_, _, rfl, fun _ => rfl⟩, rfl⟩
def SetE (xb : Nat) (W W' : World) : Prop := ∃ y, W' = W.setCell ⟨xb, 3, none⟩ y
/-- where the end's last look stands -/
structure EnS (w0 wS : World) (xb : Nat) (m v : Value) (x : Wst) (W : World) : Prop where
  blk : ∃ E, BlkAt W xb [m, v, .int .i64 (x.n : Int), E] 106
  row : OwnS w0.heap.size W v x.S
  old : Below w0.heap.size w0 W
  hB : w0.heap.size ≤ xb
  kp : Kp wS W
theorem EnS.below {w0 wS W W' : World} {xb : Nat} {m v : Value} {x : Wst} (h : EnS w0 wS xb m v x W) (hb : Below W.heap.size W W') : EnS w0 wS xb m v x W' := by
  obtain ⟨⟨E, h1⟩, h2, h3, h4, h5⟩ := h
  exact ⟨⟨E, h1.below hb⟩, ownsRow_below h2 hb, below_then h3 hb, h4, h5.trans (Kp.below hb)⟩
theorem EnS.put {w0 wS W W' : World} {xb : Nat} {m v : Value} {x : Wst} (h : EnS w0 wS xb m v x W) (hp : SetE xb W W') : EnS w0 wS xb m v x W' := by
  obtain ⟨⟨E, h1⟩, h2, h3, h4, h5⟩ := h
  obtain ⟨y, rfl⟩ := hp
  exact ⟨⟨y, h1.set 3 y⟩, ownsRow_set h2 (by decide) h1 _, h3.setCell h4 _, h4, h5.trans (Kp.set h1 _)⟩
theorem up_blkR (b : Nat) (C : List Value) (t : TypeId) : Up (fun _ W => BlkAt W b C t) := fun _ _ _ hb h => h.below hb
theorem evc (a : Act) (v : Value) : a.eval (.const v) = v := rfl
set_option maxHeartbeats 4000000 in
theorem rend (w0 : World) (rp xb : Nat) (R : List (Int × Int)) (M : List Int) (x : Wst) (w : World) (h : Rd w0 rp R M xb x w) (hs : isSgs x.S) (hl : x.S.length ≤ 100000) :
    Calls Try.prog 44 #[.pointer (some ⟨xb, 0, none⟩)] w fun e w' => ∃ v, e = .returned (.tuple #[v, .int .i64 (wndE R x)]) ∧ OwnS w0.heap.size w' v (wndL R x) ∧ Below w0.heap.size w0 w' ∧ Kp w w' := by
  have H := hid_mk h
  obtain ⟨v, x0, x1, x2, x3, x4, f1, f2, f3, hrow⟩ := h.objs
  obtain ⟨sa, sc, rfl⟩ := hrow.at.len
  have HC := hid_mk (fun u (hu : SegsAt u (.slice sa x.S.length sc) x.S) => rsegchk _ x.S u hu hs)
  have HI := hid_mk (fun u (ho : Below w0.heap.size w0 u) (hu : SegsAt u (.slice sa x.S.length sc) x.S) => by
    obtain ⟨base, lb, bb, cL, cB, aB, D, hm⟩ := h.mem.below ho
    exact rsegin _ x.S base rp lb bb cL cB aB D R M u hu hs hm)
  have HRow := hid_mk hrow
  have hli : (x.S.length : Int) ≤ 100000 := by omega
  have HL := hid_mk hl
  clear hrow h hs hl
  by_cases he : x.e = 0
  · have hb : (x.e == 0) = true := by simp [he]
    by_cases hm : mayE x.S = 0
    · obtain ⟨h1, h2⟩ := mayE_ok hm
      have b1 : ((x.S.length : Int) == 0) = false := beq_false_of_ne (by omega)
      have hE : wndE R x = inE R x.S := by
        unfold wndE
        rw [if_pos he, if_pos hm]
      have hLs : wndL R x = if inE R x.S = 0 then x.S else [] := by
        unfold wndL
        rw [hE]
      rw [hE, hLs]
      rw [he] at x4
      have HC1 := hid_mk (HC.out _ HRow.out.at)
      rw [h1] at HC1
      clear HC hE hLs hm h1 h2
      by_cases hz : inE R x.S = 0
      · rw [if_pos hz]
        go_enter Try.func44, Try.ntmps44
        go_wp2_with fail
        refine HC1.out.mono ?_
        rintro e w1 ⟨rfl, n, rfl⟩
        have HES : Hid (EnS w0 w xb (.pointer (some ⟨rp, 0, none⟩)) (.slice sa x.S.length sc) x ((w.drewN n).drew)) := hid_mk (by
          have hd := (below_drewN w n).trans (Below.refl _ (w.drewN n)).drew
          obtain ⟨hB, v, g1, g2⟩ := H.out.below hd |>.rd
          have g3 : some v = some (Value.slice sa x.S.length sc) := by
            have e1 := (hd.cell (p := ⟨xb, 1, none⟩) x0).trans x2
            have e2 : _ = some v := g1.cell 1
            rw [← e2, e1]
          cases g3
          exact ⟨⟨_, g1⟩, g2, (H.out.below hd).old, hB, Kp.below hd⟩)
        go_wp2_with fail
        refine wp_region_outl3 2 [(12, SetE xb)] [] []
            [(fun v _ => v = .pointer (some ⟨xb, 0, none⟩)),
            (fun v _ => v = .pointer (some ⟨xb, 0, none⟩)),
            (fun v _ => v = .pointer (some ⟨xb, 0, none⟩)),
            (fun v _ => v = .pointer (some ⟨xb, 0, none⟩)),
            (fun v _ => v = .pointer (some ⟨rp, 0, none⟩)),
            (fun v _ => v = .pointer (some ⟨xb, 0, none⟩)),
            (fun v _ => v = .pointer (some ⟨xb, 0, none⟩)),
            (fun v _ => v = .pointer (some ⟨xb, 1, none⟩)),
            (fun v _ => v = .slice sa x.S.length sc),
            (fun v _ => v = .int .i64 (inE R x.S)),
            (fun v _ => v = .pointer (some ⟨xb, 0, none⟩)),
            (fun v _ => v = .pointer (some ⟨xb, 3, none⟩)),
            (fun _ W => BlkAt W xb [.pointer (some ⟨rp, 0, none⟩), .slice sa x.S.length sc, .int .i64 (x.n : Int), .int .i64 (inE R x.S)] 106)]
            (EnS w0 w xb (.pointer (some ⟨rp, 0, none⟩)) (.slice sa x.S.length sc) x) (by kernel_rfl) (by kernel_rfl) (by kernel_rfl) ?_ (fun u u' hb h => h.below hb) (HES.out) ?_ ?_ ?_ ?_ ?_
        · refine And.intro (up_eq _) ?_
          refine And.intro (up_eq _) ?_
          refine And.intro (up_eq _) ?_
          refine And.intro (up_eq _) ?_
          refine And.intro (up_eq _) ?_
          refine And.intro (up_eq _) ?_
          refine And.intro (up_eq _) ?_
          refine And.intro (up_eq _) ?_
          refine And.intro (up_eq _) ?_
          refine And.intro (up_eq _) ?_
          refine And.intro (up_eq _) ?_
          refine And.intro (up_eq _) ?_
          refine And.intro (up_blkR _ _ _) ?_
          trivial
        · trivial
        · trivial
        · refine And.intro (And.intro ?_ (fun u u' hb h => h.put hb)) ?_
          · refine And.intro (fun _ _ _ => ch_eq _ _) ?_
            refine And.intro (fun _ _ _ => ch_eq _ _) ?_
            refine And.intro (fun _ _ _ => ch_eq _ _) ?_
            refine And.intro (fun _ _ _ => ch_eq _ _) ?_
            refine And.intro (fun _ _ _ => ch_eq _ _) ?_
            refine And.intro (fun _ _ _ => ch_eq _ _) ?_
            refine And.intro (fun _ _ _ => ch_eq _ _) ?_
            refine And.intro (fun _ _ _ => ch_eq _ _) ?_
            refine And.intro (fun _ _ _ => ch_eq _ _) ?_
            refine And.intro (fun _ _ _ => ch_eq _ _) ?_
            refine And.intro (fun _ _ _ => ch_eq _ _) ?_
            refine And.intro (fun _ _ _ => ch_eq _ _) ?_
            refine And.intro (fun h _ _ => absurd rfl h) ?_
            trivial
          trivial
        · refine And.intro ?_ (And.intro ?_ (And.intro ?_ (And.intro ?_ (And.intro ?_ (And.intro ?_ (And.intro ?_ (And.intro ?_ (And.intro ?_ (And.intro ?_ (And.intro ?_ (And.intro ?_ (And.intro ?_ (True.intro)))))))))))))
          · refine qstep_val (.pointer (some ⟨xb, 0, none⟩)) (by kernel_rfl) (by kernel_rfl) rfl (fun _ A1 W1 inv hnl hall => ⟨wanted_none rfl, ?_, rfl⟩)
            have h0 : A1.eval (.tmp 0) = .pointer (some ⟨xb, 0, none⟩) := (inv.base 0 (by kernel_rfl)).trans rfl
            simp only [execOp, h0, Sem.run_pure]
          · refine qstep_val (.pointer (some ⟨xb, 0, none⟩)) (by kernel_rfl) (by kernel_rfl) rfl (fun _ A1 W1 inv hnl hall => ⟨wanted_none rfl, ?_, rfl⟩)
            have h0 : A1.eval (.tmp 0) = .pointer (some ⟨xb, 0, none⟩) := (inv.base 0 (by kernel_rfl)).trans rfl
            simp only [execOp, h0, Sem.run_pure]
          · refine qstep_val (.pointer (some ⟨xb, 0, none⟩)) (by kernel_rfl) (by kernel_rfl) rfl (fun _ A1 W1 inv hnl hall => ⟨wanted_none rfl, ?_, rfl⟩)
            have h34 : A1.eval (.tmp 34) = .pointer (some ⟨xb, 0, none⟩) := inv.get hall 1 34 (by kernel_rfl) (by kernel_rfl) rfl
            simp only [execOp, h34, Sem.run_pure]
          · refine qstep_val (.pointer (some ⟨xb, 0, none⟩)) (by kernel_rfl) (by kernel_rfl) rfl (fun _ A1 W1 inv hnl hall => ⟨wanted_none rfl, ?_, rfl⟩)
            have h35 : A1.eval (.tmp 35) = .pointer (some ⟨xb, 0, none⟩) := inv.get hall 2 35 (by kernel_rfl) (by kernel_rfl) rfl
            simp only [execOp, h35]
            simp [go_sem]
          · refine qstep_val (.pointer (some ⟨rp, 0, none⟩)) (by kernel_rfl) (by kernel_rfl) rfl (fun _ A1 W1 inv hnl hall => ⟨wanted_none rfl, ?_, rfl⟩)
            have h36 : A1.eval (.tmp 36) = .pointer (some ⟨xb, 0, none⟩) := inv.get hall 3 36 (by kernel_rfl) (by kernel_rfl) rfl
            obtain ⟨E, hE⟩ := inv.s.blk
            have gg := hE.cell 0
            simp at gg
            simp only [execOp, h36]
            simp [go_sem, gg]
          · refine qstep_val (.pointer (some ⟨xb, 0, none⟩)) (by kernel_rfl) (by kernel_rfl) rfl (fun _ A1 W1 inv hnl hall => ⟨wanted_none rfl, ?_, rfl⟩)
            have h0 : A1.eval (.tmp 0) = .pointer (some ⟨xb, 0, none⟩) := (inv.base 0 (by kernel_rfl)).trans rfl
            simp only [execOp, h0, Sem.run_pure]
          · refine qstep_val (.pointer (some ⟨xb, 0, none⟩)) (by kernel_rfl) (by kernel_rfl) rfl (fun _ A1 W1 inv hnl hall => ⟨wanted_none rfl, ?_, rfl⟩)
            have h38 : A1.eval (.tmp 38) = .pointer (some ⟨xb, 0, none⟩) := inv.get hall 5 38 (by kernel_rfl) (by kernel_rfl) rfl
            simp only [execOp, h38, Sem.run_pure]
          · refine qstep_val (.pointer (some ⟨xb, 1, none⟩)) (by kernel_rfl) (by kernel_rfl) rfl (fun _ A1 W1 inv hnl hall => ⟨wanted_none rfl, ?_, rfl⟩)
            have h39 : A1.eval (.tmp 39) = .pointer (some ⟨xb, 0, none⟩) := inv.get hall 6 39 (by kernel_rfl) (by kernel_rfl) rfl
            simp only [execOp, h39]
            simp [go_sem]
          · refine qstep_val (.slice sa x.S.length sc) (by kernel_rfl) (by kernel_rfl) rfl (fun _ A1 W1 inv hnl hall => ⟨wanted_none rfl, ?_, rfl⟩)
            have h40 : A1.eval (.tmp 40) = .pointer (some ⟨xb, 1, none⟩) := inv.get hall 7 40 (by kernel_rfl) (by kernel_rfl) rfl
            obtain ⟨E, hE⟩ := inv.s.blk
            have gg := hE.cell 1
            simp at gg
            simp only [execOp, h40]
            simp [go_sem, gg]
          · refine qstep_call 72 (by kernel_rfl) _ _ (by kernel_rfl) (by kernel_rfl) rfl rfl (fun _ A1 W1 inv hnl hall => ⟨wanted_none rfl, #[.pointer (some ⟨rp, 0, none⟩), .slice sa x.S.length sc], ?_, ?_⟩)
            · have h37 : A1.eval (.tmp 37) = .pointer (some ⟨rp, 0, none⟩) := inv.get hall 4 37 (by kernel_rfl) (by kernel_rfl) rfl
              have h41 : A1.eval (.tmp 41) = .slice sa x.S.length sc := inv.get hall 8 41 (by kernel_rfl) (by kernel_rfl) rfl
              simp [h37, h41]
            · refine (HI.out _ inv.s.old inv.s.row.at).mono ?_
              rintro e u ⟨rfl, hb⟩
              exact ⟨_, rfl, rfl, hb⟩
          · refine qstep_val (.pointer (some ⟨xb, 0, none⟩)) (by kernel_rfl) (by kernel_rfl) rfl (fun _ A1 W1 inv hnl hall => ⟨wanted_none rfl, ?_, rfl⟩)
            have h33 : A1.eval (.tmp 33) = .pointer (some ⟨xb, 0, none⟩) := inv.get hall 0 33 (by kernel_rfl) (by kernel_rfl) rfl
            simp only [execOp, h33, Sem.run_pure]
          · refine qstep_val (.pointer (some ⟨xb, 3, none⟩)) (by kernel_rfl) (by kernel_rfl) rfl (fun _ A1 W1 inv hnl hall => ⟨wanted_none rfl, ?_, rfl⟩)
            have h43 : A1.eval (.tmp 43) = .pointer (some ⟨xb, 0, none⟩) := inv.get hall 10 43 (by kernel_rfl) (by kernel_rfl) rfl
            simp only [execOp, h43]
            simp [go_sem]
          · refine qstep_skip (by kernel_rfl) (by kernel_rfl) rfl (fun _ A1 W1 inv hnl hall => ⟨wanted_none rfl, ?_⟩)
            have h44 : A1.eval (.tmp 44) = .pointer (some ⟨xb, 3, none⟩) := inv.get hall 11 44 (by kernel_rfl) (by kernel_rfl) rfl
            have h42 : A1.eval (.tmp 42) = .int .i64 (inE R x.S) := inv.get hall 9 42 (by kernel_rfl) (by kernel_rfl) rfl
            obtain ⟨E, hE⟩ := inv.s.blk
            have hlt := hE.lt
            have k3 := hE.cell 3
            have f3 := hE.free 3
            simp at k3
            refine ⟨_, ?_, hE.set 3 _, ⟨_, rfl⟩⟩
            simp only [execOp, h44, h42]
            simp [go_sem, k3, f3]
        · intro listed A1 W1 inv hall
          have e33 : A1.eval (.tmp 33) = .pointer (some ⟨xb, 0, none⟩) := inv.fin 0 33 (by kernel_rfl) (hall 0 (Nat.lt_of_lt_of_eq (by decide : 0 < 13) (by kernel_rfl))) rfl
          have e34 : A1.eval (.tmp 34) = .pointer (some ⟨xb, 0, none⟩) := inv.fin 1 34 (by kernel_rfl) (hall 1 (Nat.lt_of_lt_of_eq (by decide : 1 < 13) (by kernel_rfl))) rfl
          have e35 : A1.eval (.tmp 35) = .pointer (some ⟨xb, 0, none⟩) := inv.fin 2 35 (by kernel_rfl) (hall 2 (Nat.lt_of_lt_of_eq (by decide : 2 < 13) (by kernel_rfl))) rfl
          have e36 : A1.eval (.tmp 36) = .pointer (some ⟨xb, 0, none⟩) := inv.fin 3 36 (by kernel_rfl) (hall 3 (Nat.lt_of_lt_of_eq (by decide : 3 < 13) (by kernel_rfl))) rfl
          have e37 : A1.eval (.tmp 37) = .pointer (some ⟨rp, 0, none⟩) := inv.fin 4 37 (by kernel_rfl) (hall 4 (Nat.lt_of_lt_of_eq (by decide : 4 < 13) (by kernel_rfl))) rfl
          have e38 : A1.eval (.tmp 38) = .pointer (some ⟨xb, 0, none⟩) := inv.fin 5 38 (by kernel_rfl) (hall 5 (Nat.lt_of_lt_of_eq (by decide : 5 < 13) (by kernel_rfl))) rfl
          have e39 : A1.eval (.tmp 39) = .pointer (some ⟨xb, 0, none⟩) := inv.fin 6 39 (by kernel_rfl) (hall 6 (Nat.lt_of_lt_of_eq (by decide : 6 < 13) (by kernel_rfl))) rfl
          have e40 : A1.eval (.tmp 40) = .pointer (some ⟨xb, 1, none⟩) := inv.fin 7 40 (by kernel_rfl) (hall 7 (Nat.lt_of_lt_of_eq (by decide : 7 < 13) (by kernel_rfl))) rfl
          have e41 : A1.eval (.tmp 41) = .slice sa x.S.length sc := inv.fin 8 41 (by kernel_rfl) (hall 8 (Nat.lt_of_lt_of_eq (by decide : 8 < 13) (by kernel_rfl))) rfl
          have e42 : A1.eval (.tmp 42) = .int .i64 (inE R x.S) := inv.fin 9 42 (by kernel_rfl) (hall 9 (Nat.lt_of_lt_of_eq (by decide : 9 < 13) (by kernel_rfl))) rfl
          have e43 : A1.eval (.tmp 43) = .pointer (some ⟨xb, 0, none⟩) := inv.fin 10 43 (by kernel_rfl) (hall 10 (Nat.lt_of_lt_of_eq (by decide : 10 < 13) (by kernel_rfl))) rfl
          have e44 : A1.eval (.tmp 44) = .pointer (some ⟨xb, 3, none⟩) := inv.fin 11 44 (by kernel_rfl) (hall 11 (Nat.lt_of_lt_of_eq (by decide : 11 < 13) (by kernel_rfl))) rfl
          have hst12 := inv.fin0 12 (by kernel_rfl) (hall 12 (Nat.lt_of_lt_of_eq (by decide : 12 < 13) (by kernel_rfl))) rfl
          have HF := inv.frame hall
          have HS9 := hid_mk inv.s
          simp only [putEnd, e33, e34, e35, e36, e37, e38, e39, e40, e41, e42, e43, e44, Act.put, List.setIfInBounds_toArray, List.set_cons_succ, List.set_cons_zero] at HF
          clear e33 e34 e35 e36 e37 e38 e39 e40 e41 e42 e43 e44 inv hall
          subst HF
          have HR9 := hid_mk hst12
          have HO9 := hid_mk HS9.out.old
          have HW9 := hid_mk HS9.out.row
          have HK9 := hid_mk HS9.out.kp
          clear HS9 hst12
          have hlt := HR9.out.lt
          have k3 : W1.cell? ⟨xb, 3, none⟩ = some (.int .i64 (inE R x.S)) := HR9.out.cell 3
          have k1 : W1.cell? ⟨xb, 1, none⟩ = some (.slice sa x.S.length sc) := HR9.out.cell 1
          have b3 : (inE R x.S != 0) = false := by rw [hz]; rfl
          rw [hz] at k3
          go_wp2_with fail
          go_ret2
          exact ⟨_, rfl, HW9.out, HO9.out, HK9.out⟩
      · rw [if_neg hz]
        go_enter Try.func44, Try.ntmps44
        go_wp2_with fail
        refine HC1.out.mono ?_
        rintro e w1 ⟨rfl, n, rfl⟩
        have HES : Hid (EnS w0 w xb (.pointer (some ⟨rp, 0, none⟩)) (.slice sa x.S.length sc) x ((w.drewN n).drew)) := hid_mk (by
          have hd := (below_drewN w n).trans (Below.refl _ (w.drewN n)).drew
          obtain ⟨hB, v, g1, g2⟩ := H.out.below hd |>.rd
          have g3 : some v = some (Value.slice sa x.S.length sc) := by
            have e1 := (hd.cell (p := ⟨xb, 1, none⟩) x0).trans x2
            have e2 : _ = some v := g1.cell 1
            rw [← e2, e1]
          cases g3
          exact ⟨⟨_, g1⟩, g2, (H.out.below hd).old, hB, Kp.below hd⟩)
        go_wp2_with fail
        refine wp_region_outl3 2 [(12, SetE xb)] [] []
            [(fun v _ => v = .pointer (some ⟨xb, 0, none⟩)),
            (fun v _ => v = .pointer (some ⟨xb, 0, none⟩)),
            (fun v _ => v = .pointer (some ⟨xb, 0, none⟩)),
            (fun v _ => v = .pointer (some ⟨xb, 0, none⟩)),
            (fun v _ => v = .pointer (some ⟨rp, 0, none⟩)),
            (fun v _ => v = .pointer (some ⟨xb, 0, none⟩)),
            (fun v _ => v = .pointer (some ⟨xb, 0, none⟩)),
            (fun v _ => v = .pointer (some ⟨xb, 1, none⟩)),
            (fun v _ => v = .slice sa x.S.length sc),
            (fun v _ => v = .int .i64 (inE R x.S)),
            (fun v _ => v = .pointer (some ⟨xb, 0, none⟩)),
            (fun v _ => v = .pointer (some ⟨xb, 3, none⟩)),
            (fun _ W => BlkAt W xb [.pointer (some ⟨rp, 0, none⟩), .slice sa x.S.length sc, .int .i64 (x.n : Int), .int .i64 (inE R x.S)] 106)]
            (EnS w0 w xb (.pointer (some ⟨rp, 0, none⟩)) (.slice sa x.S.length sc) x) (by kernel_rfl) (by kernel_rfl) (by kernel_rfl) ?_ (fun u u' hb h => h.below hb) (HES.out) ?_ ?_ ?_ ?_ ?_
        · refine And.intro (up_eq _) ?_
          refine And.intro (up_eq _) ?_
          refine And.intro (up_eq _) ?_
          refine And.intro (up_eq _) ?_
          refine And.intro (up_eq _) ?_
          refine And.intro (up_eq _) ?_
          refine And.intro (up_eq _) ?_
          refine And.intro (up_eq _) ?_
          refine And.intro (up_eq _) ?_
          refine And.intro (up_eq _) ?_
          refine And.intro (up_eq _) ?_
          refine And.intro (up_eq _) ?_
          refine And.intro (up_blkR _ _ _) ?_
          trivial
        · trivial
        · trivial
        · refine And.intro (And.intro ?_ (fun u u' hb h => h.put hb)) ?_
          · refine And.intro (fun _ _ _ => ch_eq _ _) ?_
            refine And.intro (fun _ _ _ => ch_eq _ _) ?_
            refine And.intro (fun _ _ _ => ch_eq _ _) ?_
            refine And.intro (fun _ _ _ => ch_eq _ _) ?_
            refine And.intro (fun _ _ _ => ch_eq _ _) ?_
            refine And.intro (fun _ _ _ => ch_eq _ _) ?_
            refine And.intro (fun _ _ _ => ch_eq _ _) ?_
            refine And.intro (fun _ _ _ => ch_eq _ _) ?_
            refine And.intro (fun _ _ _ => ch_eq _ _) ?_
            refine And.intro (fun _ _ _ => ch_eq _ _) ?_
            refine And.intro (fun _ _ _ => ch_eq _ _) ?_
            refine And.intro (fun _ _ _ => ch_eq _ _) ?_
            refine And.intro (fun h _ _ => absurd rfl h) ?_
            trivial
          trivial
        · refine And.intro ?_ (And.intro ?_ (And.intro ?_ (And.intro ?_ (And.intro ?_ (And.intro ?_ (And.intro ?_ (And.intro ?_ (And.intro ?_ (And.intro ?_ (And.intro ?_ (And.intro ?_ (And.intro ?_ (True.intro)))))))))))))
          · refine qstep_val (.pointer (some ⟨xb, 0, none⟩)) (by kernel_rfl) (by kernel_rfl) rfl (fun _ A1 W1 inv hnl hall => ⟨wanted_none rfl, ?_, rfl⟩)
            have h0 : A1.eval (.tmp 0) = .pointer (some ⟨xb, 0, none⟩) := (inv.base 0 (by kernel_rfl)).trans rfl
            simp only [execOp, h0, Sem.run_pure]
          · refine qstep_val (.pointer (some ⟨xb, 0, none⟩)) (by kernel_rfl) (by kernel_rfl) rfl (fun _ A1 W1 inv hnl hall => ⟨wanted_none rfl, ?_, rfl⟩)
            have h0 : A1.eval (.tmp 0) = .pointer (some ⟨xb, 0, none⟩) := (inv.base 0 (by kernel_rfl)).trans rfl
            simp only [execOp, h0, Sem.run_pure]
          · refine qstep_val (.pointer (some ⟨xb, 0, none⟩)) (by kernel_rfl) (by kernel_rfl) rfl (fun _ A1 W1 inv hnl hall => ⟨wanted_none rfl, ?_, rfl⟩)
            have h34 : A1.eval (.tmp 34) = .pointer (some ⟨xb, 0, none⟩) := inv.get hall 1 34 (by kernel_rfl) (by kernel_rfl) rfl
            simp only [execOp, h34, Sem.run_pure]
          · refine qstep_val (.pointer (some ⟨xb, 0, none⟩)) (by kernel_rfl) (by kernel_rfl) rfl (fun _ A1 W1 inv hnl hall => ⟨wanted_none rfl, ?_, rfl⟩)
            have h35 : A1.eval (.tmp 35) = .pointer (some ⟨xb, 0, none⟩) := inv.get hall 2 35 (by kernel_rfl) (by kernel_rfl) rfl
            simp only [execOp, h35]
            simp [go_sem]
          · refine qstep_val (.pointer (some ⟨rp, 0, none⟩)) (by kernel_rfl) (by kernel_rfl) rfl (fun _ A1 W1 inv hnl hall => ⟨wanted_none rfl, ?_, rfl⟩)
            have h36 : A1.eval (.tmp 36) = .pointer (some ⟨xb, 0, none⟩) := inv.get hall 3 36 (by kernel_rfl) (by kernel_rfl) rfl
            obtain ⟨E, hE⟩ := inv.s.blk
            have gg := hE.cell 0
            simp at gg
            simp only [execOp, h36]
            simp [go_sem, gg]
          · refine qstep_val (.pointer (some ⟨xb, 0, none⟩)) (by kernel_rfl) (by kernel_rfl) rfl (fun _ A1 W1 inv hnl hall => ⟨wanted_none rfl, ?_, rfl⟩)
            have h0 : A1.eval (.tmp 0) = .pointer (some ⟨xb, 0, none⟩) := (inv.base 0 (by kernel_rfl)).trans rfl
            simp only [execOp, h0, Sem.run_pure]
          · refine qstep_val (.pointer (some ⟨xb, 0, none⟩)) (by kernel_rfl) (by kernel_rfl) rfl (fun _ A1 W1 inv hnl hall => ⟨wanted_none rfl, ?_, rfl⟩)
            have h38 : A1.eval (.tmp 38) = .pointer (some ⟨xb, 0, none⟩) := inv.get hall 5 38 (by kernel_rfl) (by kernel_rfl) rfl
            simp only [execOp, h38, Sem.run_pure]
          · refine qstep_val (.pointer (some ⟨xb, 1, none⟩)) (by kernel_rfl) (by kernel_rfl) rfl (fun _ A1 W1 inv hnl hall => ⟨wanted_none rfl, ?_, rfl⟩)
            have h39 : A1.eval (.tmp 39) = .pointer (some ⟨xb, 0, none⟩) := inv.get hall 6 39 (by kernel_rfl) (by kernel_rfl) rfl
            simp only [execOp, h39]
            simp [go_sem]
          · refine qstep_val (.slice sa x.S.length sc) (by kernel_rfl) (by kernel_rfl) rfl (fun _ A1 W1 inv hnl hall => ⟨wanted_none rfl, ?_, rfl⟩)
            have h40 : A1.eval (.tmp 40) = .pointer (some ⟨xb, 1, none⟩) := inv.get hall 7 40 (by kernel_rfl) (by kernel_rfl) rfl
            obtain ⟨E, hE⟩ := inv.s.blk
            have gg := hE.cell 1
            simp at gg
            simp only [execOp, h40]
            simp [go_sem, gg]
          · refine qstep_call 72 (by kernel_rfl) _ _ (by kernel_rfl) (by kernel_rfl) rfl rfl (fun _ A1 W1 inv hnl hall => ⟨wanted_none rfl, #[.pointer (some ⟨rp, 0, none⟩), .slice sa x.S.length sc], ?_, ?_⟩)
            · have h37 : A1.eval (.tmp 37) = .pointer (some ⟨rp, 0, none⟩) := inv.get hall 4 37 (by kernel_rfl) (by kernel_rfl) rfl
              have h41 : A1.eval (.tmp 41) = .slice sa x.S.length sc := inv.get hall 8 41 (by kernel_rfl) (by kernel_rfl) rfl
              simp [h37, h41]
            · refine (HI.out _ inv.s.old inv.s.row.at).mono ?_
              rintro e u ⟨rfl, hb⟩
              exact ⟨_, rfl, rfl, hb⟩
          · refine qstep_val (.pointer (some ⟨xb, 0, none⟩)) (by kernel_rfl) (by kernel_rfl) rfl (fun _ A1 W1 inv hnl hall => ⟨wanted_none rfl, ?_, rfl⟩)
            have h33 : A1.eval (.tmp 33) = .pointer (some ⟨xb, 0, none⟩) := inv.get hall 0 33 (by kernel_rfl) (by kernel_rfl) rfl
            simp only [execOp, h33, Sem.run_pure]
          · refine qstep_val (.pointer (some ⟨xb, 3, none⟩)) (by kernel_rfl) (by kernel_rfl) rfl (fun _ A1 W1 inv hnl hall => ⟨wanted_none rfl, ?_, rfl⟩)
            have h43 : A1.eval (.tmp 43) = .pointer (some ⟨xb, 0, none⟩) := inv.get hall 10 43 (by kernel_rfl) (by kernel_rfl) rfl
            simp only [execOp, h43]
            simp [go_sem]
          · refine qstep_skip (by kernel_rfl) (by kernel_rfl) rfl (fun _ A1 W1 inv hnl hall => ⟨wanted_none rfl, ?_⟩)
            have h44 : A1.eval (.tmp 44) = .pointer (some ⟨xb, 3, none⟩) := inv.get hall 11 44 (by kernel_rfl) (by kernel_rfl) rfl
            have h42 : A1.eval (.tmp 42) = .int .i64 (inE R x.S) := inv.get hall 9 42 (by kernel_rfl) (by kernel_rfl) rfl
            obtain ⟨E, hE⟩ := inv.s.blk
            have hlt := hE.lt
            have k3 := hE.cell 3
            have f3 := hE.free 3
            simp at k3
            refine ⟨_, ?_, hE.set 3 _, ⟨_, rfl⟩⟩
            simp only [execOp, h44, h42]
            simp [go_sem, k3, f3]
        · intro listed A1 W1 inv hall
          have e33 : A1.eval (.tmp 33) = .pointer (some ⟨xb, 0, none⟩) := inv.fin 0 33 (by kernel_rfl) (hall 0 (Nat.lt_of_lt_of_eq (by decide : 0 < 13) (by kernel_rfl))) rfl
          have e34 : A1.eval (.tmp 34) = .pointer (some ⟨xb, 0, none⟩) := inv.fin 1 34 (by kernel_rfl) (hall 1 (Nat.lt_of_lt_of_eq (by decide : 1 < 13) (by kernel_rfl))) rfl
          have e35 : A1.eval (.tmp 35) = .pointer (some ⟨xb, 0, none⟩) := inv.fin 2 35 (by kernel_rfl) (hall 2 (Nat.lt_of_lt_of_eq (by decide : 2 < 13) (by kernel_rfl))) rfl
          have e36 : A1.eval (.tmp 36) = .pointer (some ⟨xb, 0, none⟩) := inv.fin 3 36 (by kernel_rfl) (hall 3 (Nat.lt_of_lt_of_eq (by decide : 3 < 13) (by kernel_rfl))) rfl
          have e37 : A1.eval (.tmp 37) = .pointer (some ⟨rp, 0, none⟩) := inv.fin 4 37 (by kernel_rfl) (hall 4 (Nat.lt_of_lt_of_eq (by decide : 4 < 13) (by kernel_rfl))) rfl
          have e38 : A1.eval (.tmp 38) = .pointer (some ⟨xb, 0, none⟩) := inv.fin 5 38 (by kernel_rfl) (hall 5 (Nat.lt_of_lt_of_eq (by decide : 5 < 13) (by kernel_rfl))) rfl
          have e39 : A1.eval (.tmp 39) = .pointer (some ⟨xb, 0, none⟩) := inv.fin 6 39 (by kernel_rfl) (hall 6 (Nat.lt_of_lt_of_eq (by decide : 6 < 13) (by kernel_rfl))) rfl
          have e40 : A1.eval (.tmp 40) = .pointer (some ⟨xb, 1, none⟩) := inv.fin 7 40 (by kernel_rfl) (hall 7 (Nat.lt_of_lt_of_eq (by decide : 7 < 13) (by kernel_rfl))) rfl
          have e41 : A1.eval (.tmp 41) = .slice sa x.S.length sc := inv.fin 8 41 (by kernel_rfl) (hall 8 (Nat.lt_of_lt_of_eq (by decide : 8 < 13) (by kernel_rfl))) rfl
          have e42 : A1.eval (.tmp 42) = .int .i64 (inE R x.S) := inv.fin 9 42 (by kernel_rfl) (hall 9 (Nat.lt_of_lt_of_eq (by decide : 9 < 13) (by kernel_rfl))) rfl
          have e43 : A1.eval (.tmp 43) = .pointer (some ⟨xb, 0, none⟩) := inv.fin 10 43 (by kernel_rfl) (hall 10 (Nat.lt_of_lt_of_eq (by decide : 10 < 13) (by kernel_rfl))) rfl
          have e44 : A1.eval (.tmp 44) = .pointer (some ⟨xb, 3, none⟩) := inv.fin 11 44 (by kernel_rfl) (hall 11 (Nat.lt_of_lt_of_eq (by decide : 11 < 13) (by kernel_rfl))) rfl
          have hst12 := inv.fin0 12 (by kernel_rfl) (hall 12 (Nat.lt_of_lt_of_eq (by decide : 12 < 13) (by kernel_rfl))) rfl
          have HF := inv.frame hall
          have HS9 := hid_mk inv.s
          simp only [putEnd, e33, e34, e35, e36, e37, e38, e39, e40, e41, e42, e43, e44, Act.put, List.setIfInBounds_toArray, List.set_cons_succ, List.set_cons_zero] at HF
          clear e33 e34 e35 e36 e37 e38 e39 e40 e41 e42 e43 e44 inv hall
          subst HF
          have HR9 := hid_mk hst12
          have HO9 := hid_mk HS9.out.old
          have HW9 := hid_mk HS9.out.row
          have HK9 := hid_mk HS9.out.kp
          clear HS9 hst12
          have hlt := HR9.out.lt
          have k3 : W1.cell? ⟨xb, 3, none⟩ = some (.int .i64 (inE R x.S)) := HR9.out.cell 3
          have k1 : W1.cell? ⟨xb, 1, none⟩ = some (.slice sa x.S.length sc) := HR9.out.cell 1
          have b3 : (inE R x.S != 0) = true := by simp; exact hz
          obtain ⟨z, hzz⟩ : ∃ z, inE R x.S = z := ⟨_, rfl⟩
          rw [hzz] at k3 b3
          go_wp2_with fail
          go_quiet (fail)
          go_wp2_with fail
          go_ret2
          exact ⟨_, by rw [hzz]; rfl, World.ownsRow_nil _ _ _ _, below_dn HO9.out _, HK9.out.trans (Kp.below (below_drewN _ _))⟩
    · have hE : wndE R x = 4 := by
        unfold wndE
        rw [if_pos he, if_neg hm]
      have hLs : wndL R x = [] := by
        unfold wndL
        rw [hE, if_neg (by decide)]
      rw [hE, hLs]
      rw [he] at x4
      by_cases h0 : x.S.length = 0
      · have b1 : ((x.S.length : Int) == 0) = true := by simp [h0]
        have HL1 := hid_mk (H.out.setE 4)
        clear HC hE hLs hm h0
        go_enter Try.func44, Try.ntmps44
        go_wp2_with fail
        go_quiet (fail)
        go_wp2_with fail
        go_ret2
        exact ⟨_, rfl, World.ownsRow_nil _ _ _ _, (HL1.out.below (below_drewN _ _)).old, (HL1.out.below (below_drewN _ _)).kp⟩
      · have b1 : ((x.S.length : Int) == 0) = false := beq_false_of_ne (by omega)
        have hse : segE x.S ≠ 0 := fun e => hm (by unfold mayE; rw [if_pos e, if_neg h0])
        have b2 : (segE x.S != 0) = true := by simp; exact hse
        have HC1 := hid_mk (HC.out _ HRow.out.at)
        generalize segE x.S = z at *
        clear HC hE hLs hm h0 hse
        go_enter Try.func44, Try.ntmps44
        go_wp2_with fail
        refine HC1.out.mono ?_
        rintro e w1 ⟨rfl, n, rfl⟩
        have HL1 := hid_mk (((H.out.below (below_drewN w n)).setE 4).kpre (below_drewN w n))
        go_wp2_with fail
        go_quiet (fail)
        go_wp2_with fail
        go_ret2
        exact ⟨_, rfl, World.ownsRow_nil _ _ _ _, (HL1.out.below (below_drewN _ _)).old, (HL1.out.below (below_drewN _ _)).kp⟩
  · have hE : wndE R x = x.e := by
      unfold wndE
      rw [if_neg he]
    have hLs : wndL R x = [] := by
      unfold wndL
      rw [hE, if_neg he]
    rw [hE, hLs]
    have hb : (x.e == 0) = false := beq_false_of_ne he
    have hb2 : (x.e != 0) = true := by simp; exact he
    have HO := hid_mk H.out.old
    generalize x.e = z at *
    clear hE hLs he HC HI
    go_enter Try.func44, Try.ntmps44
    go_wp2_with fail
    go_quiet (fail)
    go_wp2_with fail
    go_ret2
    exact ⟨_, rfl, World.ownsRow_nil _ _ _ _, below_dn HO.out _, Kp.below (below_drewN _ _)⟩
end Go.Proofs.Ytfhhgcgbgmilcaa
