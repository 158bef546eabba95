/- Rd3 Rd5 Blk: joined texts. Conditions: as each theorem names them. -/
import Derived.Test.YtfhhgcgbgmilcaaKp19
import Derived.Test.YtfhhgcgbgmilcaaKp06
import Derived.Test.YtfhhgcgbgmilcaaKp01
/- The reference of layer 3: Read, ReadPacked; words and flags. Conditions: as each theorem names them. -/
namespace Go.Proofs.Ytfhhgcgbgmilcaa
open Go.ChangeShapes Go.WideShapes Go.ChangeAt Go.RowKit
set_option linter.unusedVariables false
set_option maxRecDepth 100000

theorem rdread_at (b o c : Nat) (l : List Int) (w : World) (hB : isBytes l) (hl : l.length = 16) (hb : b < w.heap.size) (hc : ∀ j, j < 16 → w.cell? ⟨b, o + j, none⟩ = some (.int .u8 (l.getD j 0))) :
    Calls Try.prog 86 #[.slice (some ⟨b, o, none⟩) 16 c] w fun e w' => e = .returned (.tuple #[dV (dR l), .int .i64 0]) ∧ Below w.heap.size w w' := by
  have hg := fun (u : World) (hu : Below w.heap.size w u) (k n : Nat) (hk : k + n ≤ 16) (h8 : n ≤ 8) (h1 : 1 ≤ n) => rget_any b o c 16 l k n u hl (fun j hj => (hu.cell (p := ⟨b, o + j, none⟩) hb).trans (hc j (by omega))) hB (by omega) h8 h1 (by omega)
  have h0 := fun u hu => hg u hu 0 8 (by omega) (by omega) (by omega)
  have h8 := fun u hu => hg u hu 8 4 (by omega) (by omega) (by omega)
  have h12 := fun u hu => hg u hu 12 2 (by omega) (by omega) (by omega)
  have h14 := fun u hu => hg u hu 14 2 (by omega) (by omega) (by omega)
  have H0 := hid_mk h0
  have H8 := hid_mk h8
  have H12 := hid_mk h12
  have H14 := hid_mk h14
  have hd := dR_is hB hl
  obtain ⟨l0, l1⟩ := hd.l
  obtain ⟨f0, f1⟩ := hd.f
  obtain ⟨n0, n1⟩ := hd.n
  have hBz : ∀ o, Below w.heap.size w (w.alloc o) := fun o => (Below.refl _ _).alloc (Nat.le_refl _) _
  have HBz := hid_mk hBz
  have e0 : (dR l).a = le ((l.drop 0).take 8) := rfl
  have e1 : (dR l).l = le ((l.drop 8).take 4) := rfl
  have e2 : (dR l).f = le ((l.drop 12).take 2) := rfl
  have e3 : (dR l).n = le ((l.drop 14).take 2) := rfl
  have hdv : dV (dR l) = .agg #[.int .u64 (le ((l.drop 0).take 8)), .int .u32 (le ((l.drop 8).take 4)), .int .u16 (le ((l.drop 12).take 2)), .int .u16 (le ((l.drop 14).take 2))] := rfl
  rw [hdv]
  rw [e1] at l0 l1
  rw [e2] at f0 f1
  rw [e3] at n0 n1
  clear hg h0 h8 h12 h14 hd hc hB hl hBz e0 e1 e2 e3 hdv
  generalize le ((l.drop 0).take 8) = x0 at *
  generalize le ((l.drop 8).take 4) = x1 at *
  generalize le ((l.drop 12).take 2) = x2 at *
  generalize le ((l.drop 14).take 2) = x3 at *
  go_enter Try.func86, Try.ntmps86
  go_wp2_with fail
  refine (H0.out _ (HBz.out _)).mono ?_
  rintro e w1 ⟨rfl, rfl⟩
  go_wp2_with fail
  refine (H8.out _ (HBz.out _)).mono ?_
  rintro e w1 ⟨rfl, rfl⟩
  go_wp2_with fail
  refine (H12.out _ (HBz.out _)).mono ?_
  rintro e w1 ⟨rfl, rfl⟩
  go_wp2_with fail
  refine (H14.out _ (HBz.out _)).mono ?_
  rintro e w1 ⟨rfl, rfl⟩
  go_wp2_with fail
  exact bodyPost_ret (v := .tuple #[.agg #[.int .u64 x0, .int .u32 x1, .int .u16 x2, .int .u16 x3], .int .i64 0]) (by simp [results, Try.results86, go_sem]) rfl ⟨rfl, (by repeat (first | exact Below.refl _ _ | (refine Below.alloc ?_ (by first | (simp; done) | (simp; omega)) _) | (refine Below.setCell ?_ (by first | (simp; done) | (simp; omega)) _)))⟩
theorem rdread_no (v : Value) (l : List Int) (w : World) (hv : BytesAt w v l) (hl : l.length ≠ 16) (hm : l.length ≤ 281474976710656) :
    Calls Try.prog 86 #[v] w fun e w' => e = .returned (.tuple #[dV ⟨0, 0, 0, 0⟩, .int .i64 4]) ∧ Below w.heap.size w w' := by
  have hlen : ∃ a c, v = .slice a l.length c := by
    rcases hv with ⟨⟨a, c, rfl, _⟩, rfl⟩ | ⟨b, o, c, rfl, _⟩
    · exact ⟨a, c, rfl⟩
    · exact ⟨_, c, rfl⟩
  obtain ⟨a, c, rfl⟩ := hlen
  have hz : ((l.length : Int) != 16) = true := by simp; omega
  clear hv hl
  go_enter Try.func86, Try.ntmps86
  go_wp2_with fail
  exact bodyPost_ret (v := .tuple #[dV ⟨0, 0, 0, 0⟩, .int .i64 4]) (by simp [results, Try.results86, go_sem]) rfl ⟨rfl, (by repeat (first | exact Below.refl _ _ | (refine Below.alloc ?_ (by first | (simp; done) | (simp; omega)) _) | (refine Below.setCell ?_ (by first | (simp; done) | (simp; omega)) _)))⟩
theorem rdread_any (v : Value) (l : List Int) (w : World) (hv : BytesAt w v l) (hB : isBytes l) (hm : l.length ≤ 281474976710656) :
    Calls Try.prog 86 #[v] w fun e w' => e = .returned (.tuple #[dV (rdD l), .int .i64 (rdE l)]) ∧ Below w.heap.size w w' := by
  by_cases h : l.length = 16
  · rw [(rd_yes h).1, (rd_yes h).2]
    rcases hv with ⟨_, rfl⟩ | ⟨b, o, c, rfl, h1, h2, h3⟩
    · simp at h
    · rw [h] at h3 ⊢
      exact rdread_at b o c l w hB h h1 h3
  · rw [(rd_no h).1, (rd_no h).2]
    exact rdread_no v l w hv h hm
theorem rpread_at (b o c : Nat) (l : List Int) (w : World) (hB : isBytes l) (hl : l.length = 16) (hb : b < w.heap.size) (hc : ∀ j, j < 16 → w.cell? ⟨b, o + j, none⟩ = some (.int .u8 (l.getD j 0))) :
    Calls Try.prog 48 #[.slice (some ⟨b, o, none⟩) 16 c] w fun e w' => e = .returned (.tuple #[dV (dR l), .int .i64 0]) ∧ Below w.heap.size w w' := by
  have hg := fun (u : World) (hu : Below w.heap.size w u) (k n : Nat) (hk : k + n ≤ 16) (h8 : n ≤ 8) (h1 : 1 ≤ n) => rget_any b o c 16 l k n u hl (fun j hj => (hu.cell (p := ⟨b, o + j, none⟩) hb).trans (hc j (by omega))) hB (by omega) h8 h1 (by omega)
  have h0 := fun u hu => hg u hu 0 8 (by omega) (by omega) (by omega)
  have h8 := fun u hu => hg u hu 8 4 (by omega) (by omega) (by omega)
  have h12 := fun u hu => hg u hu 12 2 (by omega) (by omega) (by omega)
  have h14 := fun u hu => hg u hu 14 2 (by omega) (by omega) (by omega)
  have H0 := hid_mk h0
  have H8 := hid_mk h8
  have H12 := hid_mk h12
  have H14 := hid_mk h14
  have hd := dR_is hB hl
  obtain ⟨l0, l1⟩ := hd.l
  obtain ⟨f0, f1⟩ := hd.f
  obtain ⟨n0, n1⟩ := hd.n
  have hBz : ∀ o, Below w.heap.size w (w.alloc o) := fun o => (Below.refl _ _).alloc (Nat.le_refl _) _
  have HBz := hid_mk hBz
  have e0 : (dR l).a = le ((l.drop 0).take 8) := rfl
  have e1 : (dR l).l = le ((l.drop 8).take 4) := rfl
  have e2 : (dR l).f = le ((l.drop 12).take 2) := rfl
  have e3 : (dR l).n = le ((l.drop 14).take 2) := rfl
  have hdv : dV (dR l) = .agg #[.int .u64 (le ((l.drop 0).take 8)), .int .u32 (le ((l.drop 8).take 4)), .int .u16 (le ((l.drop 12).take 2)), .int .u16 (le ((l.drop 14).take 2))] := rfl
  rw [hdv]
  rw [e1] at l0 l1
  rw [e2] at f0 f1
  rw [e3] at n0 n1
  clear hg h0 h8 h12 h14 hd hc hB hl hBz e0 e1 e2 e3 hdv
  generalize le ((l.drop 0).take 8) = x0 at *
  generalize le ((l.drop 8).take 4) = x1 at *
  generalize le ((l.drop 12).take 2) = x2 at *
  generalize le ((l.drop 14).take 2) = x3 at *
  go_enter Try.func48, Try.ntmps48
  go_wp2_with fail
  refine (H0.out _ (HBz.out _)).mono ?_
  rintro e w1 ⟨rfl, rfl⟩
  go_wp2_with fail
  refine (H8.out _ (HBz.out _)).mono ?_
  rintro e w1 ⟨rfl, rfl⟩
  go_wp2_with fail
  refine (H12.out _ (HBz.out _)).mono ?_
  rintro e w1 ⟨rfl, rfl⟩
  go_wp2_with fail
  refine (H14.out _ (HBz.out _)).mono ?_
  rintro e w1 ⟨rfl, rfl⟩
  go_wp2_with fail
  exact bodyPost_ret (v := .tuple #[.agg #[.int .u64 x0, .int .u32 x1, .int .u16 x2, .int .u16 x3], .int .i64 0]) (by simp [results, Try.results48, go_sem]) rfl ⟨rfl, (by repeat (first | exact Below.refl _ _ | (refine Below.alloc ?_ (by first | (simp; done) | (simp; omega)) _) | (refine Below.setCell ?_ (by first | (simp; done) | (simp; omega)) _)))⟩
theorem rpread_no (v : Value) (l : List Int) (w : World) (hv : BytesAt w v l) (hl : l.length ≠ 16) (hm : l.length ≤ 281474976710656) :
    Calls Try.prog 48 #[v] w fun e w' => e = .returned (.tuple #[dV ⟨0, 0, 0, 0⟩, .int .i64 4]) ∧ Below w.heap.size w w' := by
  have hlen : ∃ a c, v = .slice a l.length c := by
    rcases hv with ⟨⟨a, c, rfl, _⟩, rfl⟩ | ⟨b, o, c, rfl, _⟩
    · exact ⟨a, c, rfl⟩
    · exact ⟨_, c, rfl⟩
  obtain ⟨a, c, rfl⟩ := hlen
  have hz : ((l.length : Int) != 16) = true := by simp; omega
  clear hv hl
  go_enter Try.func48, Try.ntmps48
  go_wp2_with fail
  exact bodyPost_ret (v := .tuple #[dV ⟨0, 0, 0, 0⟩, .int .i64 4]) (by simp [results, Try.results48, go_sem]) rfl ⟨rfl, (by repeat (first | exact Below.refl _ _ | (refine Below.alloc ?_ (by first | (simp; done) | (simp; omega)) _) | (refine Below.setCell ?_ (by first | (simp; done) | (simp; omega)) _)))⟩
theorem rpread_any (v : Value) (l : List Int) (w : World) (hv : BytesAt w v l) (hB : isBytes l) (hm : l.length ≤ 281474976710656) :
    Calls Try.prog 48 #[v] w fun e w' => e = .returned (.tuple #[dV (rdD l), .int .i64 (rdE l)]) ∧ Below w.heap.size w w' := by
  by_cases h : l.length = 16
  · rw [(rd_yes h).1, (rd_yes h).2]
    rcases hv with ⟨_, rfl⟩ | ⟨b, o, c, rfl, h1, h2, h3⟩
    · simp at h
    · rw [h] at h3 ⊢
      exact rpread_at b o c l w hB h h1 h3
  · rw [(rd_no h).1, (rd_no h).2]
    exact rpread_no v l w hv h hm

/-! ## words -/
end Go.Proofs.Ytfhhgcgbgmilcaa

/- The reference of layer 3: Table, ReadTable. Conditions: as each theorem names them. -/
namespace Go.Proofs.Ytfhhgcgbgmilcaa
open Go.ChangeShapes Go.WideShapes Go.ChangeAt Go.RowKit
set_option linter.unusedVariables false
set_option maxRecDepth 100000

theorem ownsRow_below {w w' : World} {B : Nat} {e : TypeId} {size n : Nat} {v : Value} {xs : List Value} (h : w.ownsRow B e size v n xs) (hb : Below w.heap.size w w') : w'.ownsRow B e size v n xs := by
  refine ⟨h.1, ?_⟩
  rcases h.2 with h2 | ⟨g, cap, cur, h1, h2, h3, h4⟩
  · exact Or.inl h2
  · exact Or.inr ⟨g, cap, cur, h1, h2, keepB hb h3, h4⟩

/-! ## ReadTable -/
theorem dCs_append : ∀ (a b : List Dsc), dCs (a ++ b) = dCs a ++ dCs b
  | [], _ => rfl
  | d :: a, b => by simp [dCs, dCs_append a b]
theorem dCs_one : ∀ (L : List Dsc), ∀ u ∈ dCs L, u.oneCell' = true
  | [], u, h => by cases h
  | d :: L, u, h => by
    simp only [dCs, List.mem_cons] at h
    rcases h with rfl | rfl | rfl | rfl | h
    · rfl
    · rfl
    · rfl
    · rfl
    · exact dCs_one L u h
theorem descs_of {B : Nat} {w : World} {v : Value} {L : List Dsc} (h : w.ownsRow B 49 4 v L.length (dCs L)) : DescsAt w v L := by
  rcases h.2 with ⟨rfl, h0⟩ | ⟨g, cap, cur, rfl, hg, hh, hn, hm, hs, ht⟩
  · exact Or.inl ⟨⟨none, 0, rfl, fun _ => rfl⟩, List.length_eq_zero_iff.1 h0⟩
  · refine Or.inr ⟨g, 0, cap, rfl, lt_blk hh, hn, fun j hj => ?_⟩
    have hcell : ∀ i u, (dCs L)[i]? = some u → w.cell? ⟨g, i, none⟩ = some u := fun i u hu => by
      rw [cell_of_row w g i _ _ _ hh, ← hu, ← ht]
      have hi : i < L.length * 4 := by
        have := (List.getElem?_eq_some_iff.1 hu).1
        rw [dCs_length] at this
        exact this
      rw [List.getElem?_take, if_pos hi]
      simp
    obtain ⟨h0, h1, h2, h3⟩ := dCs_at L j hj
    rw [Nat.zero_add]
    exact ⟨hcell _ _ h0, hcell _ _ h1, hcell _ _ h2, hcell _ _ h3⟩

end Go.Proofs.Ytfhhgcgbgmilcaa

/- A block of a call's own, all its cells known: made, kept, written. No program in sight. -/
namespace Go.Proofs.Ytfhhgcgbgmilcaa
open Go Go.RowKit
set_option linter.unusedVariables false

/-- block b holds the cells C, free to be written -/
abbrev BlkAt (w : World) (b : Nat) (C : List Value) (t : TypeId) : Prop := w.heap[b]? = some (.cells C.toArray t (0, 0))
theorem BlkAt.lt {w : World} {b : Nat} {C : List Value} {t : TypeId} (h : BlkAt w b C t) : b < w.heap.size := lt_blk h
theorem BlkAt.cell {w : World} {b : Nat} {C : List Value} {t : TypeId} (h : BlkAt w b C t) (i : Nat) : w.cell? ⟨b, i, none⟩ = C[i]? := cellK h i
theorem BlkAt.free {w : World} {b : Nat} {C : List Value} {t : TypeId} (h : BlkAt w b C t) (i : Nat) : w.frozen? ⟨b, i, none⟩ = false := frozenK h i
theorem blk_new (w : World) (C : List Value) (t : TypeId) : BlkAt (w.alloc (.cells C.toArray t)) w.heap.size C t := heap_alloc_new w _
theorem BlkAt.below {w w' : World} {b : Nat} {C : List Value} {t : TypeId} (h : BlkAt w b C t) (hb : Below w.heap.size w w') : BlkAt w' b C t := keepB hb h
theorem BlkAt.set {w : World} {b : Nat} {C : List Value} {t : TypeId} (h : BlkAt w b C t) (i : Nat) (x : Value) : BlkAt (w.setCell ⟨b, i, none⟩ x) b (C.set i x) t := by
  have hlt := h.lt
  have h' : w.heap[b] = .cells C.toArray t (0, 0) := by
    have h2 : w.heap[b]? = some (.cells C.toArray t (0, 0)) := h
    rw [Array.getElem?_eq_getElem hlt] at h2
    exact Option.some.inj h2
  show (w.heap.modify b _)[b]? = _
  rw [Array.getElem?_eq_getElem (by simpa using hlt), Array.getElem_modify_self, h']
  simp
theorem BlkAt.other {w : World} {b g i : Nat} {C : List Value} {t : TypeId} (h : BlkAt w b C t) (hne : b ≠ g) (x : Value) : BlkAt (w.setCell ⟨g, i, none⟩ x) b C t := by
  show (w.setCell ⟨g, i, none⟩ x).heap[b]? = _
  rw [Below.heap_setCell w ⟨g, i, none⟩ x b hne]
  exact h
theorem below_box (w : World) (x : Obj) : Below w.heap.size w (w.alloc x) := (Below.refl _ w).alloc (Nat.le_refl _) _
end Go.Proofs.Ytfhhgcgbgmilcaa
