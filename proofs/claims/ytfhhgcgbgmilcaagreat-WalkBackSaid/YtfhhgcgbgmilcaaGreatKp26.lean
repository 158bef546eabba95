/- Bd1 Bd2 Wk4: joined texts. Conditions: as each theorem names them. -/
import Derived.Test.YtfhhgcgbgmilcaaGreatKp12
import Derived.Test.YtfhhgcgbgmilcaaGreatKp24
import Derived.Test.YtfhhgcgbgmilcaaGreatKp20
import Derived.Test.YtfhhgcgbgmilcaaGreatKp13
import Derived.Test.YtfhhgcgbgmilcaaGreatKp25
/- Lists of puts in memory; kit.SamePuts, kit.SamePacked. Conditions: as each theorem names them. -/
namespace Go.Proofs.YtfhhgcgbgmilcaaGreat
open Go.ChangeShapes Go.WideShapes Go.ChangeAt Go.RowKit
set_option linter.unusedVariables false
set_option maxRecDepth 100000

abbrev pV (x : Pt) : Value := .agg #[.int .i64 x.i, .int .u64 x.d.a, .int .u32 x.d.l, .int .u16 x.d.f, .int .u16 x.d.n]
def at5 (w : World) (b p : Nat) (x : Pt) : Prop := w.cell? ⟨b, p, none⟩ = some (.int .i64 x.i) ∧ w.cell? ⟨b, p + 1, none⟩ = some (.int .u64 x.d.a) ∧ w.cell? ⟨b, p + 2, none⟩ = some (.int .u32 x.d.l) ∧ w.cell? ⟨b, p + 3, none⟩ = some (.int .u16 x.d.f) ∧ w.cell? ⟨b, p + 4, none⟩ = some (.int .u16 x.d.n)
theorem at5.below {w w' : World} {b p : Nat} {x : Pt} (h : at5 w b p x) (hb : Below w.heap.size w w') (hlt : b < w.heap.size) : at5 w' b p x :=
  ⟨(hb.cell hlt).trans h.1, (hb.cell hlt).trans h.2.1, (hb.cell hlt).trans h.2.2.1, (hb.cell hlt).trans h.2.2.2.1, (hb.cell hlt).trans h.2.2.2.2⟩
/-- a slice of puts, nil too, that reads as L -/
def PtsAt (w : World) (v : Value) (L : List Pt) : Prop :=
  ((∃ a c, v = .slice a 0 c ∧ (a = none → c = 0)) ∧ L = []) ∨ ∃ b o c : Nat, v = .slice (some ⟨b, o, none⟩) L.length c ∧ b < w.heap.size ∧ L.length ≤ c ∧ ∀ j, j < L.length → at5 w b (o + j * 5) (ptat L j)
theorem PtsAt.below {w w' : World} {v : Value} {L : List Pt} (h : PtsAt w v L) (hb : Below w.heap.size w w') : PtsAt w' v L := by
  rcases h with h | ⟨b, o, c, h1, h2, h3, h4⟩
  · exact Or.inl h
  · have := hb.size
    exact Or.inr ⟨b, o, c, h1, by omega, h3, fun j hj => (h4 j hj).below hb h2⟩
theorem PtsAt.nil (w : World) : PtsAt w (.slice none 0 0) [] := Or.inl ⟨⟨_, _, rfl, fun _ => rfl⟩, rfl⟩
theorem PtsAt.len {w : World} {v : Value} {L : List Pt} (h : PtsAt w v L) : ∃ a c, v = .slice a L.length c := by
  rcases h with ⟨⟨a, c, rfl, _⟩, rfl⟩ | ⟨b, o, c, rfl, _⟩
  · exact ⟨a, c, rfl⟩
  · exact ⟨_, c, rfl⟩

/-- the cells of a row of puts -/
def ptCells : List Pt → List Value
  | [] => []
  | x :: L => .int .i64 x.i :: .int .u64 x.d.a :: .int .u32 x.d.l :: .int .u16 x.d.f :: .int .u16 x.d.n :: ptCells L
theorem ptCells_length : ∀ L : List Pt, (ptCells L).length = L.length * 5
  | [] => rfl
  | x :: L => by simp [ptCells, ptCells_length L]; omega
theorem ptCells_append : ∀ a b : List Pt, ptCells (a ++ b) = ptCells a ++ ptCells b
  | [], _ => rfl
  | x :: a, b => by simp [ptCells, ptCells_append a b]
theorem ptCells_at : ∀ (L : List Pt) (j : Nat), j < L.length → (ptCells L)[j * 5]? = some (.int .i64 (ptat L j).i) ∧ (ptCells L)[j * 5 + 1]? = some (.int .u64 (ptat L j).d.a) ∧ (ptCells L)[j * 5 + 2]? = some (.int .u32 (ptat L j).d.l) ∧ (ptCells L)[j * 5 + 3]? = some (.int .u16 (ptat L j).d.f) ∧ (ptCells L)[j * 5 + 4]? = some (.int .u16 (ptat L j).d.n)
  | [], j, h => by simp at h
  | x :: L, 0, h => ⟨rfl, rfl, rfl, rfl, rfl⟩
  | x :: L, j + 1, h => by
    have := ptCells_at L j (by simpa using h)
    have e : ∀ q, (ptCells (x :: L))[(j + 1) * 5 + q]? = (ptCells L)[j * 5 + q]? := fun q => by
      rw [show (j + 1) * 5 + q = (j * 5 + q) + 1 + 1 + 1 + 1 + 1 from by omega]
      rfl
    have e0 := e 0
    simp only [Nat.add_zero] at e0
    rw [e0, e 1, e 2, e 3, e 4]
    exact this
theorem oneP_of : ∀ {L : List Pt}, ∀ u ∈ ptCells L, u.oneCell' = true
  | [], u, hu => by cases hu
  | x :: L, u, hu => by
    simp only [ptCells, List.mem_cons] at hu
    rcases hu with rfl | rfl | rfl | rfl | rfl | hu
    · rfl
    · rfl
    · rfl
    · rfl
    · rfl
    · exact oneP_of u hu
theorem owns_pts {B : Nat} {w : World} {t : TypeId} {v : Value} {L : List Pt} (h : w.ownsRow B t 5 v L.length (ptCells L)) : PtsAt w v L := by
  obtain ⟨h1, h2⟩ := h
  rcases h2 with ⟨rfl, h0⟩ | ⟨g, cap, cur, rfl, hg, hh, hn, hm, hs, ht⟩
  · left
    exact ⟨⟨none, 0, rfl, fun _ => rfl⟩, List.length_eq_zero_iff.1 h0⟩
  · right
    refine ⟨g, 0, cap, rfl, lt_blk hh, hn, fun j hj => ?_⟩
    have e : cur = (ptCells L ++ cur.toList.drop (L.length * 5)).toArray := by
      rw [← ht, List.take_append_drop]
    rw [e] at hh
    have hl := ptCells_length L
    have hc := ptCells_at L j hj
    have hk : ∀ q, q < 5 → w.cell? ⟨g, j * 5 + q, none⟩ = (ptCells L)[j * 5 + q]? := fun q hq => by
      rw [cellK hh, List.getElem?_append_left (by omega)]
    simp only [at5, Nat.zero_add]
    have k0 := hk 0 (by omega)
    simp only [Nat.add_zero] at k0
    rw [k0, hk 1 (by omega), hk 2 (by omega), hk 3 (by omega), hk 4 (by omega)]
    exact hc

theorem fieldsPt : Tryz.prog.underlying 46 = some (.struct (Tryz.prog.fieldsOf 46)) := by kernel_rfl
theorem stoodPt : Tryz.prog.stoodInHeld 46 = false := by kernel_rfl
theorem neqPt (x y : Pt) (w : World) : (binOp .neq 46 (pV x) (pV y)).run Tryz.prog w = .ok (.bool (!ptB x y)) w := by
  rw [run_neq_struct, run_equalIn_agg w 9999 46 _ _ fieldsPt stoodPt]
  have hf := fieldsPt
  rw [Tryz.underlying46] at hf
  simp at hf
  rw [← hf]
  simp [Op.eqFields, go_sem, Tryz.underlying3, ptB]
  by_cases h1 : x.i = y.i <;> by_cases h2 : x.d.a = y.d.a <;> by_cases h3 : x.d.l = y.d.l <;> by_cases h4 : x.d.f = y.d.f <;> by_cases h5 : x.d.n = y.d.n <;> simp [h1, h2, h3, h4, h5]
theorem eqlPt (x y : Pt) (w : World) : (binOp .eql 46 (pV x) (pV y)).run Tryz.prog w = .ok (.bool (ptB x y)) w := by
  rw [run_eql_struct, run_equalIn_agg w 9999 46 _ _ fieldsPt stoodPt]
  have hf := fieldsPt
  rw [Tryz.underlying46] at hf
  simp at hf
  rw [← hf]
  simp [Op.eqFields, go_sem, Tryz.underlying3, ptB]
  by_cases h1 : x.i = y.i <;> by_cases h2 : x.d.a = y.d.a <;> by_cases h3 : x.d.l = y.d.l <;> by_cases h4 : x.d.f = y.d.f <;> by_cases h5 : x.d.n = y.d.n <;> simp [h1, h2, h3, h4, h5]

theorem rowPt : (Tryz.prog.info? 46).map (fun i => (i.zero, i.size, i.bytes)) = some (some (pV zPt), 5, 24) := by kernel_rfl
/-- a row of the call's own -/
abbrev OwnPt (B : Nat) (w : World) (v : Value) (L : List Pt) : Prop := w.ownsRow B 46 5 v L.length (ptCells L)
theorem OwnPt.at {B : Nat} {w : World} {v : Value} {L : List Pt} (h : OwnPt B w v L) : PtsAt w v L := owns_pts h
/-- one put behind an owned row -/
theorem app_pt {B : Nat} {w : World} {v : Value} {L : List Pt} (x : Pt) {l : Nat} (h : OwnPt B w v L) (hl1 : l < w.heap.size) (hl2 : BlkAt w l (ptCells [x]) 46) (hB : B ≤ w.heap.size) (hl : L.length ≤ 1000) :
    ∃ v' w', (∀ ty, (Builtin.append_ #[37, 37] ty #[v, .slice (some ⟨l, 0, none⟩) 1 1]).run Tryz.prog w = .ok v' w') ∧ OwnPt B w' v' (L ++ [x]) ∧ w.grownBy w' v.ownBlock := by
  obtain ⟨i0, hi, hz0, hz1, hz2⟩ := info_parts rowPt
  have hcells : ∀ j u, (ptCells [x])[j]? = some u → w.cell? ((⟨l, 0, none⟩ : Addr).add j) = some u := fun j u hu => by
    rw [show (⟨l, 0, none⟩ : Addr).add j = ⟨l, j, none⟩ from by unfold Addr.add; split <;> simp_all]
    exact (hl2.cell j).trans hu
  obtain ⟨v', w', h1, h2, h3, h4⟩ := run_append_own (P := Tryz.prog) w B 37 37 46 i0 _ 5 24 Tryz.underlying37 hi hz0 hz1 hz2 rfl (by decide) v L.length (ptCells L) h ⟨l, 0, none⟩ 1 1 (ptCells [x]) rfl hcells oneP_of (by simp [maxLen]; omega) (by omega) hB
  rw [← ptCells_append] at h2
  refine ⟨v', w', fun ty => h1, ?_, h3⟩
  show w'.ownsRow B 46 5 _ (L ++ [x]).length (ptCells (L ++ [x]))
  rw [show (L ++ [x]).length = L.length + 1 by simp]
  exact h2

theorem fieldsPk : Tryz.prog.underlying 65 = some (.struct (Tryz.prog.fieldsOf 65)) := by kernel_rfl
theorem stoodPk : Tryz.prog.stoodInHeld 65 = false := by kernel_rfl
theorem neqPk (x y : Pt) (w : World) : (binOp .neq 65 (pV x) (pV y)).run Tryz.prog w = .ok (.bool (!ptB x y)) w := by
  rw [run_neq_struct, run_equalIn_agg w 9999 65 _ _ fieldsPk stoodPk]
  have hf := fieldsPk
  rw [Tryz.underlying65] at hf
  simp at hf
  rw [← hf]
  simp [Op.eqFields, go_sem, Tryz.underlying3, ptB]
  by_cases h1 : x.i = y.i <;> by_cases h2 : x.d.a = y.d.a <;> by_cases h3 : x.d.l = y.d.l <;> by_cases h4 : x.d.f = y.d.f <;> by_cases h5 : x.d.n = y.d.n <;> simp [h1, h2, h3, h4, h5]
theorem eqlPk (x y : Pt) (w : World) : (binOp .eql 65 (pV x) (pV y)).run Tryz.prog w = .ok (.bool (ptB x y)) w := by
  rw [run_eql_struct, run_equalIn_agg w 9999 65 _ _ fieldsPk stoodPk]
  have hf := fieldsPk
  rw [Tryz.underlying65] at hf
  simp at hf
  rw [← hf]
  simp [Op.eqFields, go_sem, Tryz.underlying3, ptB]
  by_cases h1 : x.i = y.i <;> by_cases h2 : x.d.a = y.d.a <;> by_cases h3 : x.d.l = y.d.l <;> by_cases h4 : x.d.f = y.d.f <;> by_cases h5 : x.d.n = y.d.n <;> simp [h1, h2, h3, h4, h5]

theorem rowPk : (Tryz.prog.info? 65).map (fun i => (i.zero, i.size, i.bytes)) = some (some (pV zPt), 5, 24) := by kernel_rfl
/-- a row of the call's own -/
abbrev OwnPk (B : Nat) (w : World) (v : Value) (L : List Pt) : Prop := w.ownsRow B 65 5 v L.length (ptCells L)
theorem OwnPk.at {B : Nat} {w : World} {v : Value} {L : List Pt} (h : OwnPk B w v L) : PtsAt w v L := owns_pts h
/-- one put behind an owned row -/
theorem app_pk {B : Nat} {w : World} {v : Value} {L : List Pt} (x : Pt) {l : Nat} (h : OwnPk B w v L) (hl1 : l < w.heap.size) (hl2 : BlkAt w l (ptCells [x]) 65) (hB : B ≤ w.heap.size) (hl : L.length ≤ 1000) :
    ∃ v' w', (∀ ty, (Builtin.append_ #[59, 59] ty #[v, .slice (some ⟨l, 0, none⟩) 1 1]).run Tryz.prog w = .ok v' w') ∧ OwnPk B w' v' (L ++ [x]) ∧ w.grownBy w' v.ownBlock := by
  obtain ⟨i0, hi, hz0, hz1, hz2⟩ := info_parts rowPk
  have hcells : ∀ j u, (ptCells [x])[j]? = some u → w.cell? ((⟨l, 0, none⟩ : Addr).add j) = some u := fun j u hu => by
    rw [show (⟨l, 0, none⟩ : Addr).add j = ⟨l, j, none⟩ from by unfold Addr.add; split <;> simp_all]
    exact (hl2.cell j).trans hu
  obtain ⟨v', w', h1, h2, h3, h4⟩ := run_append_own (P := Tryz.prog) w B 59 59 65 i0 _ 5 24 Tryz.underlying59 hi hz0 hz1 hz2 rfl (by decide) v L.length (ptCells L) h ⟨l, 0, none⟩ 1 1 (ptCells [x]) rfl hcells oneP_of (by simp [maxLen]; omega) (by omega) hB
  rw [← ptCells_append] at h2
  refine ⟨v', w', fun ty => h1, ?_, h3⟩
  show w'.ownsRow B 65 5 _ (L ++ [x]).length (ptCells (L ++ [x]))
  rw [show (L ++ [x]).length = L.length + 1 by simp]
  exact h2
end Go.Proofs.YtfhhgcgbgmilcaaGreat

/- The reference of layer 9: may, Needs, SplitOne. Conditions: as each theorem names them. -/
namespace Go.Proofs.YtfhhgcgbgmilcaaGreat
open Go.ChangeShapes Go.WideShapes Go.ChangeAt Go.RowKit
set_option linter.unusedVariables false
set_option maxRecDepth 100000

theorem okI_no {S x : Int} (h : okI S x = false) : x < 0 ∨ S ≤ x := by
  by_cases h0 : x < 0
  · exact Or.inl h0
  · right
    by_cases h1 : S ≤ x
    · exact h1
    · have := (okI_iff (S := S) (x := x)).2 (by omega)
      rw [h] at this
      cases this
end Go.Proofs.YtfhhgcgbgmilcaaGreat

/- The reference of layer 10: end. Conditions: as each theorem names them. Written by mkwk4.py. -/
namespace Go.Proofs.YtfhhgcgbgmilcaaGreat
open Go.ChangeShapes Go.WideShapes Go.ChangeAt Go.RowKit
set_option linter.unusedVariables false
set_option maxRecDepth 100000

theorem SegsAt_nil (w : World) : SegsAt w (.slice none 0 0) [] := Or.inl ⟨⟨_, _, rfl, fun _ => rfl⟩, rfl⟩
def SetE (xb : Nat) (W W' : World) : Prop := ∃ y, W' = W.setCell ⟨xb, 3, none⟩ y
theorem up_blkR (b : Nat) (C : List Value) (t : TypeId) : Up (fun _ W => BlkAt W b C t) := fun _ _ _ hb h => h.below hb
theorem evc (a : Act) (v : Value) : a.eval (.const v) = v := rfl
end Go.Proofs.YtfhhgcgbgmilcaaGreat
