/- Blk Bd1: joined texts. Conditions: as each theorem names them. -/
import Derived.Test.YtgdokgpplldddaaKp01
import Derived.Test.YtgdokgpplldddaaKp18
import Derived.Test.YtgdokgpplldddaaKp21
/- A block of a call's own, all its cells known: made, kept, written. No program in sight. -/
namespace Go.Proofs.Ytgdokgpplldddaa
open Go Go.RowKit
set_option linter.unusedVariables false

/-- block b holds the cells C, free to be written -/
abbrev BlkAt (w : World) (b : Nat) (C : List Value) (t : TypeId) : Prop := w.heap[b]? = some (.cells C.toArray t (0, 0))
theorem BlkAt.lt {w : World} {b : Nat} {C : List Value} {t : TypeId} (h : BlkAt w b C t) : b < w.heap.size := lt_blk h
theorem BlkAt.cell {w : World} {b : Nat} {C : List Value} {t : TypeId} (h : BlkAt w b C t) (i : Nat) : w.cell? ⟨b, i, none⟩ = C[i]? := cellK h i
theorem BlkAt.free {w : World} {b : Nat} {C : List Value} {t : TypeId} (h : BlkAt w b C t) (i : Nat) : w.frozen? ⟨b, i, none⟩ = false := frozenK h i
theorem blk_new (w : World) (C : List Value) (t : TypeId) : BlkAt (w.alloc (.cells C.toArray t)) w.heap.size C t := heap_alloc_new w _
theorem BlkAt.below {w w' : World} {b : Nat} {C : List Value} {t : TypeId} (h : BlkAt w b C t) (hb : Below w.heap.size w w') : BlkAt w' b C t := keepB hb h
theorem BlkAt.set {w : World} {b : Nat} {C : List Value} {t : TypeId} (h : BlkAt w b C t) (i : Nat) (x : Value) : BlkAt (w.setCell ⟨b, i, none⟩ x) b (C.set i x) t := by
  have hlt := h.lt
  have h' : w.heap[b] = .cells C.toArray t (0, 0) := by
    have h2 : w.heap[b]? = some (.cells C.toArray t (0, 0)) := h
    rw [Array.getElem?_eq_getElem hlt] at h2
    exact Option.some.inj h2
  show (w.heap.modify b _)[b]? = _
  rw [Array.getElem?_eq_getElem (by simpa using hlt), Array.getElem_modify_self, h']
  simp
theorem BlkAt.other {w : World} {b g i : Nat} {C : List Value} {t : TypeId} (h : BlkAt w b C t) (hne : b ≠ g) (x : Value) : BlkAt (w.setCell ⟨g, i, none⟩ x) b C t := by
  show (w.setCell ⟨g, i, none⟩ x).heap[b]? = _
  rw [Below.heap_setCell w ⟨g, i, none⟩ x b hne]
  exact h
theorem below_box (w : World) (x : Obj) : Below w.heap.size w (w.alloc x) := (Below.refl _ w).alloc (Nat.le_refl _) _
end Go.Proofs.Ytgdokgpplldddaa

/- Lists of puts in memory; kit.SamePuts, kit.SamePacked. Conditions: as each theorem names them. -/
namespace Go.Proofs.Ytgdokgpplldddaa
open Go.ChangeShapes Go.WideShapes Go.ChangeAt Go.RowKit
set_option linter.unusedVariables false
set_option maxRecDepth 100000

abbrev pV (x : Pt) : Value := .agg #[.int .i64 x.i, .int .u64 x.d.a, .int .u32 x.d.l, .int .u16 x.d.f, .int .u16 x.d.n]
def at5 (w : World) (b p : Nat) (x : Pt) : Prop := w.cell? ⟨b, p, none⟩ = some (.int .i64 x.i) ∧ w.cell? ⟨b, p + 1, none⟩ = some (.int .u64 x.d.a) ∧ w.cell? ⟨b, p + 2, none⟩ = some (.int .u32 x.d.l) ∧ w.cell? ⟨b, p + 3, none⟩ = some (.int .u16 x.d.f) ∧ w.cell? ⟨b, p + 4, none⟩ = some (.int .u16 x.d.n)
theorem at5.below {w w' : World} {b p : Nat} {x : Pt} (h : at5 w b p x) (hb : Below w.heap.size w w') (hlt : b < w.heap.size) : at5 w' b p x :=
  ⟨(hb.cell hlt).trans h.1, (hb.cell hlt).trans h.2.1, (hb.cell hlt).trans h.2.2.1, (hb.cell hlt).trans h.2.2.2.1, (hb.cell hlt).trans h.2.2.2.2⟩
/-- a slice of puts, nil too, that reads as L -/
def PtsAt (w : World) (v : Value) (L : List Pt) : Prop :=
  ((∃ a c, v = .slice a 0 c ∧ (a = none → c = 0)) ∧ L = []) ∨ ∃ b o c : Nat, v = .slice (some ⟨b, o, none⟩) L.length c ∧ b < w.heap.size ∧ L.length ≤ c ∧ ∀ j, j < L.length → at5 w b (o + j * 5) (ptat L j)
theorem PtsAt.below {w w' : World} {v : Value} {L : List Pt} (h : PtsAt w v L) (hb : Below w.heap.size w w') : PtsAt w' v L := by
  rcases h with h | ⟨b, o, c, h1, h2, h3, h4⟩
  · exact Or.inl h
  · have := hb.size
    exact Or.inr ⟨b, o, c, h1, by omega, h3, fun j hj => (h4 j hj).below hb h2⟩
theorem PtsAt.nil (w : World) : PtsAt w (.slice none 0 0) [] := Or.inl ⟨⟨_, _, rfl, fun _ => rfl⟩, rfl⟩
theorem PtsAt.len {w : World} {v : Value} {L : List Pt} (h : PtsAt w v L) : ∃ a c, v = .slice a L.length c := by
  rcases h with ⟨⟨a, c, rfl, _⟩, rfl⟩ | ⟨b, o, c, rfl, _⟩
  · exact ⟨a, c, rfl⟩
  · exact ⟨_, c, rfl⟩

/-- the cells of a row of puts -/
def ptCells : List Pt → List Value
  | [] => []
  | x :: L => .int .i64 x.i :: .int .u64 x.d.a :: .int .u32 x.d.l :: .int .u16 x.d.f :: .int .u16 x.d.n :: ptCells L
theorem ptCells_length : ∀ L : List Pt, (ptCells L).length = L.length * 5
  | [] => rfl
  | x :: L => by simp [ptCells, ptCells_length L]; omega
theorem ptCells_append : ∀ a b : List Pt, ptCells (a ++ b) = ptCells a ++ ptCells b
  | [], _ => rfl
  | x :: a, b => by simp [ptCells, ptCells_append a b]
theorem ptCells_at : ∀ (L : List Pt) (j : Nat), j < L.length → (ptCells L)[j * 5]? = some (.int .i64 (ptat L j).i) ∧ (ptCells L)[j * 5 + 1]? = some (.int .u64 (ptat L j).d.a) ∧ (ptCells L)[j * 5 + 2]? = some (.int .u32 (ptat L j).d.l) ∧ (ptCells L)[j * 5 + 3]? = some (.int .u16 (ptat L j).d.f) ∧ (ptCells L)[j * 5 + 4]? = some (.int .u16 (ptat L j).d.n)
  | [], j, h => by simp at h
  | x :: L, 0, h => ⟨rfl, rfl, rfl, rfl, rfl⟩
  | x :: L, j + 1, h => by
    have := ptCells_at L j (by simpa using h)
    have e : ∀ q, (ptCells (x :: L))[(j + 1) * 5 + q]? = (ptCells L)[j * 5 + q]? := fun q => by
      rw [show (j + 1) * 5 + q = (j * 5 + q) + 1 + 1 + 1 + 1 + 1 from by omega]
      rfl
    have e0 := e 0
    simp only [Nat.add_zero] at e0
    rw [e0, e 1, e 2, e 3, e 4]
    exact this
theorem oneP_of : ∀ {L : List Pt}, ∀ u ∈ ptCells L, u.oneCell' = true
  | [], u, hu => by cases hu
  | x :: L, u, hu => by
    simp only [ptCells, List.mem_cons] at hu
    rcases hu with rfl | rfl | rfl | rfl | rfl | hu
    · rfl
    · rfl
    · rfl
    · rfl
    · rfl
    · exact oneP_of u hu
theorem owns_pts {B : Nat} {w : World} {t : TypeId} {v : Value} {L : List Pt} (h : w.ownsRow B t 5 v L.length (ptCells L)) : PtsAt w v L := by
  obtain ⟨h1, h2⟩ := h
  rcases h2 with ⟨rfl, h0⟩ | ⟨g, cap, cur, rfl, hg, hh, hn, hm, hs, ht⟩
  · left
    exact ⟨⟨none, 0, rfl, fun _ => rfl⟩, List.length_eq_zero_iff.1 h0⟩
  · right
    refine ⟨g, 0, cap, rfl, lt_blk hh, hn, fun j hj => ?_⟩
    have e : cur = (ptCells L ++ cur.toList.drop (L.length * 5)).toArray := by
      rw [← ht, List.take_append_drop]
    rw [e] at hh
    have hl := ptCells_length L
    have hc := ptCells_at L j hj
    have hk : ∀ q, q < 5 → w.cell? ⟨g, j * 5 + q, none⟩ = (ptCells L)[j * 5 + q]? := fun q hq => by
      rw [cellK hh, List.getElem?_append_left (by omega)]
    simp only [at5, Nat.zero_add]
    have k0 := hk 0 (by omega)
    simp only [Nat.add_zero] at k0
    rw [k0, hk 1 (by omega), hk 2 (by omega), hk 3 (by omega), hk 4 (by omega)]
    exact hc

theorem fieldsPt : Try.prog.underlying 40 = some (.struct (Try.prog.fieldsOf 40)) := by kernel_rfl
theorem stoodPt : Try.prog.stoodInHeld 40 = false := by kernel_rfl
theorem neqPt (x y : Pt) (w : World) : (binOp .neq 40 (pV x) (pV y)).run Try.prog w = .ok (.bool (!ptB x y)) w := by
  rw [run_neq_struct, run_equalIn_agg w 9999 40 _ _ fieldsPt stoodPt]
  have hf := fieldsPt
  rw [Try.underlying40] at hf
  simp at hf
  rw [← hf]
  simp [Op.eqFields, go_sem, Try.underlying3, ptB]
  by_cases h1 : x.i = y.i <;> by_cases h2 : x.d.a = y.d.a <;> by_cases h3 : x.d.l = y.d.l <;> by_cases h4 : x.d.f = y.d.f <;> by_cases h5 : x.d.n = y.d.n <;> simp [h1, h2, h3, h4, h5]
theorem eqlPt (x y : Pt) (w : World) : (binOp .eql 40 (pV x) (pV y)).run Try.prog w = .ok (.bool (ptB x y)) w := by
  rw [run_eql_struct, run_equalIn_agg w 9999 40 _ _ fieldsPt stoodPt]
  have hf := fieldsPt
  rw [Try.underlying40] at hf
  simp at hf
  rw [← hf]
  simp [Op.eqFields, go_sem, Try.underlying3, ptB]
  by_cases h1 : x.i = y.i <;> by_cases h2 : x.d.a = y.d.a <;> by_cases h3 : x.d.l = y.d.l <;> by_cases h4 : x.d.f = y.d.f <;> by_cases h5 : x.d.n = y.d.n <;> simp [h1, h2, h3, h4, h5]

set_option maxHeartbeats 4000000 in
theorem kpts_any (v1 v2 : Value) (L O : List Pt) (w : World) (h1 : PtsAt w v1 L) (h2 : PtsAt w v2 O) (hl : L.length ≤ 1000) :
    Calls Try.prog 18 #[v1, v2] w fun e w' => e = .returned (.bool (sameP L O)) ∧ Below w.heap.size w w' := by
  by_cases hn : L.length = O.length
  · rcases h1 with ⟨⟨va, vc, rfl, _⟩, rfl⟩ | ⟨b, o, c, rfl, hb1, hb2, hb3⟩
    · have hO : O = [] := List.length_eq_zero_iff.1 hn.symm
      subst hO
      obtain ⟨vb, vd, rfl⟩ := h2.len
      go_enter Try.func18, Try.ntmps18
      go_wp2
      go_loop [5] (fun i => i = .int .i64 0) (fun i => 0)
      case atStart => rfl
      case round =>
        obtain rfl := hrel
        go_wp2
        go_ret
        exact ⟨rfl, Below.refl _ _⟩
    · rcases h2 with ⟨⟨va, vc, rfl, _⟩, rfl⟩ | ⟨b2, o2, c2, rfl, hd1, hd2, hd3⟩
      · have hL : L = [] := List.length_eq_zero_iff.1 hn
        subst hL
        go_enter Try.func18, Try.ntmps18
        go_wp2
        go_loop [5] (fun i => i = .int .i64 0) (fun i => 0)
        case atStart => rfl
        case round =>
          obtain rfl := hrel
          go_wp2
          go_ret
          exact ⟨rfl, Below.refl _ _⟩
      · have HC := hid_mk hb3
        have HD := hid_mk hd3
        have hmx : (L.length : Int) ≤ 1000 := by omega
        have hne : ((O.length : Int) != (O.length : Int)) = false := by simp
        have HN := hid_mk hn
        have hni : (L.length : Int) = (O.length : Int) := by omega
        have hmo : (O.length : Int) ≤ 1000 := by omega
        rw [hn] at hb2 ⊢
        clear hb3 hd3 hn
        go_enter Try.func18, Try.ntmps18
        go_wp2
        go_loopw [5] (fun i wr => ∃ (k m : Nat), k ≤ O.length ∧ i = .int .i64 k ∧ wr = w.drewN m ∧ Hid (sameP L O = sameP (L.drop k) (O.drop k))) (fun i _ => O.length - (intOf i).toNat)
        case atStart => exact ⟨0, 0, Nat.zero_le _, rfl, rfl, rfl⟩
        case round =>
          obtain ⟨k, m, hk, rfl, rfl, heq⟩ := hrel
          by_cases hlt : k < O.length
          · obtain ⟨p0, p1, p2, p3, p4⟩ := HC.out k (by have := HN.out; omega)
            obtain ⟨q0, q1, q2, q3, q4⟩ := HD.out k hlt
            have hst := sameP_step (L := L) (O := O) (k := k) (by have := HN.out; omega) hlt
            have hq := neqPt (ptat L k) (ptat O k)
            have hni2 : (k : Int) < (L.length : Int) := by omega
            cases hs : ptB (ptat L k) (ptat O k)
            · rw [hs] at hst hq
              have HF : Hid (false = sameP L O) := by
                show false = sameP L O
                rw [heq.out, hst]
                rfl
              clear hst heq hs hni
              generalize ptat L k = s1 at *
              generalize ptat O k = s2 at *
              go_wp2_with fail
              go_quiet (fail)
              go_wp2_with fail
              go_ret
              exact ⟨ret_eq (congrArg Value.bool HF.out), below_dn (below_drewN _ _) _⟩
            · rw [hs] at hst hq
              have HX : Hid (sameP L O = sameP (L.drop (k + 1)) (O.drop (k + 1))) := by
                show sameP L O = _
                rw [heq.out, hst]
                rfl
              clear hst heq hs hni
              generalize ptat L k = s1 at *
              generalize ptat O k = s2 at *
              go_wp2_with fail
              go_quiet (fail)
              go_wp2_with fail
              go_roundw
              case rel => exact ⟨k + 1, _, by omega, by go_num, rfl, HX⟩
              case measure => simp [intOf]; omega
          · obtain rfl : k = O.length := by omega
            have HF : Hid (true = sameP L O) := by
              show true = sameP L O
              rw [heq.out, List.drop_length, List.drop_of_length_le (by have := HN.out; omega)]
              rfl
            go_wp2_with fail
            go_ret
            exact ⟨ret_eq (congrArg Value.bool HF.out), below_drewN _ _⟩
  · obtain ⟨va, vc, rfl⟩ := h1.len
    obtain ⟨vb, vd, rfl⟩ := h2.len
    have HF : Hid (false = sameP L O) := (sameP_len hn).symm
    have hni : ((L.length : Int) != (O.length : Int)) = true := by
      simp
      omega
    clear h1 h2
    go_enter Try.func18, Try.ntmps18
    go_wp2
    go_ret
    exact ⟨ret_eq (congrArg Value.bool HF.out), Below.refl _ _⟩

theorem rowPt : (Try.prog.info? 40).map (fun i => (i.zero, i.size, i.bytes)) = some (some (pV zPt), 5, 24) := by kernel_rfl
/-- a row of the call's own -/
abbrev OwnPt (B : Nat) (w : World) (v : Value) (L : List Pt) : Prop := w.ownsRow B 40 5 v L.length (ptCells L)
theorem OwnPt.at {B : Nat} {w : World} {v : Value} {L : List Pt} (h : OwnPt B w v L) : PtsAt w v L := owns_pts h
/-- one put behind an owned row -/
theorem app_pt {B : Nat} {w : World} {v : Value} {L : List Pt} (x : Pt) {l : Nat} (h : OwnPt B w v L) (hl1 : l < w.heap.size) (hl2 : BlkAt w l (ptCells [x]) 40) (hB : B ≤ w.heap.size) (hl : L.length ≤ 1000) :
    ∃ v' w', (∀ ty, (Builtin.append_ #[22, 22] ty #[v, .slice (some ⟨l, 0, none⟩) 1 1]).run Try.prog w = .ok v' w') ∧ OwnPt B w' v' (L ++ [x]) ∧ w.grownBy w' v.ownBlock := by
  obtain ⟨i0, hi, hz0, hz1, hz2⟩ := info_parts rowPt
  have hcells : ∀ j u, (ptCells [x])[j]? = some u → w.cell? ((⟨l, 0, none⟩ : Addr).add j) = some u := fun j u hu => by
    rw [show (⟨l, 0, none⟩ : Addr).add j = ⟨l, j, none⟩ from by unfold Addr.add; split <;> simp_all]
    exact (hl2.cell j).trans hu
  obtain ⟨v', w', h1, h2, h3, h4⟩ := run_append_own (P := Try.prog) w B 22 22 40 i0 _ 5 24 Try.underlying22 hi hz0 hz1 hz2 rfl (by decide) v L.length (ptCells L) h ⟨l, 0, none⟩ 1 1 (ptCells [x]) rfl hcells oneP_of (by simp [maxLen]; omega) (by omega) hB
  rw [← ptCells_append] at h2
  refine ⟨v', w', fun ty => h1, ?_, h3⟩
  show w'.ownsRow B 40 5 _ (L ++ [x]).length (ptCells (L ++ [x]))
  rw [show (L ++ [x]).length = L.length + 1 by simp]
  exact h2

theorem fieldsPk : Try.prog.underlying 46 = some (.struct (Try.prog.fieldsOf 46)) := by kernel_rfl
theorem stoodPk : Try.prog.stoodInHeld 46 = false := by kernel_rfl
theorem neqPk (x y : Pt) (w : World) : (binOp .neq 46 (pV x) (pV y)).run Try.prog w = .ok (.bool (!ptB x y)) w := by
  rw [run_neq_struct, run_equalIn_agg w 9999 46 _ _ fieldsPk stoodPk]
  have hf := fieldsPk
  rw [Try.underlying46] at hf
  simp at hf
  rw [← hf]
  simp [Op.eqFields, go_sem, Try.underlying3, ptB]
  by_cases h1 : x.i = y.i <;> by_cases h2 : x.d.a = y.d.a <;> by_cases h3 : x.d.l = y.d.l <;> by_cases h4 : x.d.f = y.d.f <;> by_cases h5 : x.d.n = y.d.n <;> simp [h1, h2, h3, h4, h5]
theorem eqlPk (x y : Pt) (w : World) : (binOp .eql 46 (pV x) (pV y)).run Try.prog w = .ok (.bool (ptB x y)) w := by
  rw [run_eql_struct, run_equalIn_agg w 9999 46 _ _ fieldsPk stoodPk]
  have hf := fieldsPk
  rw [Try.underlying46] at hf
  simp at hf
  rw [← hf]
  simp [Op.eqFields, go_sem, Try.underlying3, ptB]
  by_cases h1 : x.i = y.i <;> by_cases h2 : x.d.a = y.d.a <;> by_cases h3 : x.d.l = y.d.l <;> by_cases h4 : x.d.f = y.d.f <;> by_cases h5 : x.d.n = y.d.n <;> simp [h1, h2, h3, h4, h5]

set_option maxHeartbeats 4000000 in
theorem kpks_any (v1 v2 : Value) (L O : List Pt) (w : World) (h1 : PtsAt w v1 L) (h2 : PtsAt w v2 O) (hl : L.length ≤ 1000) :
    Calls Try.prog 19 #[v1, v2] w fun e w' => e = .returned (.bool (sameP L O)) ∧ Below w.heap.size w w' := by
  by_cases hn : L.length = O.length
  · rcases h1 with ⟨⟨va, vc, rfl, _⟩, rfl⟩ | ⟨b, o, c, rfl, hb1, hb2, hb3⟩
    · have hO : O = [] := List.length_eq_zero_iff.1 hn.symm
      subst hO
      obtain ⟨vb, vd, rfl⟩ := h2.len
      go_enter Try.func19, Try.ntmps19
      go_wp2
      go_loop [5] (fun i => i = .int .i64 0) (fun i => 0)
      case atStart => rfl
      case round =>
        obtain rfl := hrel
        go_wp2
        go_ret
        exact ⟨rfl, Below.refl _ _⟩
    · rcases h2 with ⟨⟨va, vc, rfl, _⟩, rfl⟩ | ⟨b2, o2, c2, rfl, hd1, hd2, hd3⟩
      · have hL : L = [] := List.length_eq_zero_iff.1 hn
        subst hL
        go_enter Try.func19, Try.ntmps19
        go_wp2
        go_loop [5] (fun i => i = .int .i64 0) (fun i => 0)
        case atStart => rfl
        case round =>
          obtain rfl := hrel
          go_wp2
          go_ret
          exact ⟨rfl, Below.refl _ _⟩
      · have HC := hid_mk hb3
        have HD := hid_mk hd3
        have hmx : (L.length : Int) ≤ 1000 := by omega
        have hne : ((O.length : Int) != (O.length : Int)) = false := by simp
        have HN := hid_mk hn
        have hni : (L.length : Int) = (O.length : Int) := by omega
        have hmo : (O.length : Int) ≤ 1000 := by omega
        rw [hn] at hb2 ⊢
        clear hb3 hd3 hn
        go_enter Try.func19, Try.ntmps19
        go_wp2
        go_loopw [5] (fun i wr => ∃ (k m : Nat), k ≤ O.length ∧ i = .int .i64 k ∧ wr = w.drewN m ∧ Hid (sameP L O = sameP (L.drop k) (O.drop k))) (fun i _ => O.length - (intOf i).toNat)
        case atStart => exact ⟨0, 0, Nat.zero_le _, rfl, rfl, rfl⟩
        case round =>
          obtain ⟨k, m, hk, rfl, rfl, heq⟩ := hrel
          by_cases hlt : k < O.length
          · obtain ⟨p0, p1, p2, p3, p4⟩ := HC.out k (by have := HN.out; omega)
            obtain ⟨q0, q1, q2, q3, q4⟩ := HD.out k hlt
            have hst := sameP_step (L := L) (O := O) (k := k) (by have := HN.out; omega) hlt
            have hq := neqPk (ptat L k) (ptat O k)
            have hni2 : (k : Int) < (L.length : Int) := by omega
            cases hs : ptB (ptat L k) (ptat O k)
            · rw [hs] at hst hq
              have HF : Hid (false = sameP L O) := by
                show false = sameP L O
                rw [heq.out, hst]
                rfl
              clear hst heq hs hni
              generalize ptat L k = s1 at *
              generalize ptat O k = s2 at *
              go_wp2_with fail
              go_quiet (fail)
              go_wp2_with fail
              go_ret
              exact ⟨ret_eq (congrArg Value.bool HF.out), below_dn (below_drewN _ _) _⟩
            · rw [hs] at hst hq
              have HX : Hid (sameP L O = sameP (L.drop (k + 1)) (O.drop (k + 1))) := by
                show sameP L O = _
                rw [heq.out, hst]
                rfl
              clear hst heq hs hni
              generalize ptat L k = s1 at *
              generalize ptat O k = s2 at *
              go_wp2_with fail
              go_quiet (fail)
              go_wp2_with fail
              go_roundw
              case rel => exact ⟨k + 1, _, by omega, by go_num, rfl, HX⟩
              case measure => simp [intOf]; omega
          · obtain rfl : k = O.length := by omega
            have HF : Hid (true = sameP L O) := by
              show true = sameP L O
              rw [heq.out, List.drop_length, List.drop_of_length_le (by have := HN.out; omega)]
              rfl
            go_wp2_with fail
            go_ret
            exact ⟨ret_eq (congrArg Value.bool HF.out), below_drewN _ _⟩
  · obtain ⟨va, vc, rfl⟩ := h1.len
    obtain ⟨vb, vd, rfl⟩ := h2.len
    have HF : Hid (false = sameP L O) := (sameP_len hn).symm
    have hni : ((L.length : Int) != (O.length : Int)) = true := by
      simp
      omega
    clear h1 h2
    go_enter Try.func19, Try.ntmps19
    go_wp2
    go_ret
    exact ⟨ret_eq (congrArg Value.bool HF.out), Below.refl _ _⟩

theorem rowPk : (Try.prog.info? 46).map (fun i => (i.zero, i.size, i.bytes)) = some (some (pV zPt), 5, 24) := by kernel_rfl
/-- a row of the call's own -/
abbrev OwnPk (B : Nat) (w : World) (v : Value) (L : List Pt) : Prop := w.ownsRow B 46 5 v L.length (ptCells L)
theorem OwnPk.at {B : Nat} {w : World} {v : Value} {L : List Pt} (h : OwnPk B w v L) : PtsAt w v L := owns_pts h
/-- one put behind an owned row -/
theorem app_pk {B : Nat} {w : World} {v : Value} {L : List Pt} (x : Pt) {l : Nat} (h : OwnPk B w v L) (hl1 : l < w.heap.size) (hl2 : BlkAt w l (ptCells [x]) 46) (hB : B ≤ w.heap.size) (hl : L.length ≤ 1000) :
    ∃ v' w', (∀ ty, (Builtin.append_ #[29, 29] ty #[v, .slice (some ⟨l, 0, none⟩) 1 1]).run Try.prog w = .ok v' w') ∧ OwnPk B w' v' (L ++ [x]) ∧ w.grownBy w' v.ownBlock := by
  obtain ⟨i0, hi, hz0, hz1, hz2⟩ := info_parts rowPk
  have hcells : ∀ j u, (ptCells [x])[j]? = some u → w.cell? ((⟨l, 0, none⟩ : Addr).add j) = some u := fun j u hu => by
    rw [show (⟨l, 0, none⟩ : Addr).add j = ⟨l, j, none⟩ from by unfold Addr.add; split <;> simp_all]
    exact (hl2.cell j).trans hu
  obtain ⟨v', w', h1, h2, h3, h4⟩ := run_append_own (P := Try.prog) w B 29 29 46 i0 _ 5 24 Try.underlying29 hi hz0 hz1 hz2 rfl (by decide) v L.length (ptCells L) h ⟨l, 0, none⟩ 1 1 (ptCells [x]) rfl hcells oneP_of (by simp [maxLen]; omega) (by omega) hB
  rw [← ptCells_append] at h2
  refine ⟨v', w', fun ty => h1, ?_, h3⟩
  show w'.ownsRow B 46 5 _ (L ++ [x]).length (ptCells (L ++ [x]))
  rw [show (L ++ [x]).length = L.length + 1 by simp]
  exact h2
end Go.Proofs.Ytgdokgpplldddaa
