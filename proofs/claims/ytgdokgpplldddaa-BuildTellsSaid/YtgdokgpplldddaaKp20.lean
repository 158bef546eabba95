/- Sg4 Sg5: joined texts. Conditions: as each theorem names them. -/
import Derived.Test.YtgdokgpplldddaaKp19
/- Rows of segments that a call owns; kit.Segs; one segment appended. Conditions: as each theorem names them. -/
namespace Go.Proofs.Ytgdokgpplldddaa
open Go.ChangeShapes Go.WideShapes Go.ChangeAt Go.RowKit
set_option linter.unusedVariables false
set_option maxRecDepth 100000

theorem rowSg : (Try.prog.info? 63).map (fun i => (i.zero, i.size, i.bytes)) = some (some (.agg #[.int .u64 0, .int .u32 0, .bool false]), 3, 16) := by kernel_rfl
def segCells : List Sg → List Value
  | [] => []
  | s :: L => .int .u64 s.a :: .int .u32 s.n :: .bool s.t :: segCells L
theorem segCells_length : ∀ L : List Sg, (segCells L).length = L.length * 3
  | [] => rfl
  | s :: L => by simp [segCells, segCells_length L]; omega
theorem segCells_append : ∀ a b : List Sg, segCells (a ++ b) = segCells a ++ segCells b
  | [], _ => rfl
  | s :: a, b => by simp [segCells, segCells_append a b]
theorem segCells_at : ∀ (L : List Sg) (j : Nat), j < L.length → (segCells L)[j * 3]? = some (.int .u64 (sat L j).a) ∧ (segCells L)[j * 3 + 1]? = some (.int .u32 (sat L j).n) ∧ (segCells L)[j * 3 + 2]? = some (.bool (sat L j).t)
  | [], j, h => by simp at h
  | s :: L, 0, h => ⟨rfl, rfl, rfl⟩
  | s :: L, j + 1, h => by
    have := segCells_at L j (by simpa using h)
    have e : ∀ q, (segCells (s :: L))[(j + 1) * 3 + q]? = (segCells L)[j * 3 + q]? := fun q => by
      rw [show (j + 1) * 3 + q = (j * 3 + q) + 1 + 1 + 1 from by omega]
      rfl
    have e0 := e 0
    simp only [Nat.add_zero] at e0
    rw [e0, e 1, e 2]
    exact this
theorem oneS_of : ∀ {L : List Sg}, ∀ u ∈ segCells L, u.oneCell' = true
  | [], u, hu => by cases hu
  | s :: L, u, hu => by
    simp only [segCells, List.mem_cons] at hu
    rcases hu with rfl | rfl | rfl | hu
    · rfl
    · rfl
    · rfl
    · exact oneS_of u hu
/-- a row of segments of the call's own -/
abbrev OwnS (B : Nat) (w : World) (v : Value) (L : List Sg) : Prop := w.ownsRow B 63 3 v L.length (segCells L)
theorem OwnS.at {B : Nat} {w : World} {v : Value} {L : List Sg} (h : OwnS B w v L) : SegsAt w v L := by
  obtain ⟨h1, h2⟩ := h
  rcases h2 with ⟨rfl, h0⟩ | ⟨g, cap, cur, rfl, hg, hh, hn, hm, hs, ht⟩
  · left
    exact ⟨⟨none, 0, rfl, fun _ => rfl⟩, List.length_eq_zero_iff.1 h0⟩
  · right
    refine ⟨g, 0, cap, rfl, lt_blk hh, hn, fun j hj => ?_⟩
    have e : cur = (segCells L ++ cur.toList.drop (L.length * 3)).toArray := by
      rw [← ht, List.take_append_drop]
    rw [e] at hh
    have hl := segCells_length L
    have hc := segCells_at L j hj
    have hk : ∀ q, q < 3 → w.cell? ⟨g, j * 3 + q, none⟩ = (segCells L)[j * 3 + q]? := fun q hq => by
      rw [cellK hh, List.getElem?_append_left (by omega)]
    simp only [at3, Nat.zero_add]
    have k0 := hk 0 (by omega)
    simp only [Nat.add_zero] at k0
    rw [k0, hk 1 (by omega), hk 2 (by omega)]
    exact hc
theorem newsS_of {W : World} {b o : Nat} {L : List Sg} (h : ∀ j, j < L.length → at3 W b (o + j * 3) (sat L j)) : ∀ j u, (segCells L)[j]? = some u → W.cell? ((⟨b, o, none⟩ : Addr).add j) = some u := fun j u hu => by
  have hl := segCells_length L
  have hj : j < L.length * 3 := by
    have := (List.getElem?_eq_some_iff.1 hu).1
    omega
  rw [show (⟨b, o, none⟩ : Addr).add j = ⟨b, o + j, none⟩ from by unfold Addr.add; split <;> simp_all]
  have hr := segCells_at L (j / 3) (by omega)
  obtain ⟨c0, c1, c2⟩ := h (j / 3) (by omega)
  have hm : j % 3 = 0 ∨ j % 3 = 1 ∨ j % 3 = 2 := by omega
  rcases hm with hm | hm | hm
  · have e : j = j / 3 * 3 := by omega
    rw [e] at hu ⊢
    rw [c0]
    rw [hr.1] at hu
    exact hu
  · have e : j = j / 3 * 3 + 1 := by omega
    rw [e] at hu ⊢
    rw [← Nat.add_assoc, c1]
    rw [hr.2.1] at hu
    exact hu
  · have e : j = j / 3 * 3 + 2 := by omega
    rw [e] at hu ⊢
    rw [← Nat.add_assoc, c2]
    rw [hr.2.2] at hu
    exact hu

/-- append(v, s): one segment behind an owned row -/
theorem app_seg {B : Nat} {w : World} {v : Value} {L : List Sg} (s : Sg) (h : OwnS B w v L) (hB : B ≤ w.heap.size) (hl : L.length ≤ 1000) :
    ∃ g cap w', (∀ ty, (Builtin.append_ #[27, 27] ty #[v, .slice (some ⟨w.heap.size, 0, none⟩) 1 1]).run Try.prog (w.alloc (.cells #[.int .u64 s.a, .int .u32 s.n, .bool s.t] 63)) = .ok (.slice (some ⟨g, 0, none⟩) (L.length + 1) cap) w') ∧ OwnS B w' (.slice (some ⟨g, 0, none⟩) (L.length + 1) cap) (L ++ [s]) ∧ Below B w w' := by
  obtain ⟨i0, hi, hz0, hz1, hz2⟩ := info_parts rowSg
  have hown := World.ownsRow.alloc h (.cells #[.int .u64 s.a, .int .u32 s.n, .bool s.t] 63)
  have hcells : ∀ j u, (segCells [s])[j]? = some u → (w.alloc (.cells #[.int .u64 s.a, .int .u32 s.n, .bool s.t] 63)).cell? ((⟨w.heap.size, 0, none⟩ : Addr).add j) = some u := fun j u hu => by
    rw [show (⟨w.heap.size, 0, none⟩ : Addr).add j = ⟨w.heap.size, j, none⟩ from by unfold Addr.add; split <;> simp_all]
    exact (cellK (cs := segCells [s]) (t := 63) (fr := (0, 0)) (heap_alloc_new w (.cells #[.int .u64 s.a, .int .u32 s.n, .bool s.t] 63)) j).trans hu
  obtain ⟨v', w', h1, h2, h3, h4⟩ := run_append_own (P := Try.prog) (w.alloc (.cells #[.int .u64 s.a, .int .u32 s.n, .bool s.t] 63)) B 27 27 63 i0 _ 3 16 Try.underlying27 hi hz0 hz1 hz2 rfl (by decide) v L.length (segCells L) hown ⟨w.heap.size, 0, none⟩ 1 1 (segCells [s]) rfl hcells oneS_of (by simp [maxLen]; omega) (by omega) (by rw [sizeA]; omega)
  rw [← segCells_append] at h2
  have hb : Below B w w' := ((Below.refl B w).alloc hB _).trans (grown_below h3 (by rw [sizeA]; omega) (fun q hq => (World.ownsRow.lt h q hq).1))
  obtain ⟨g, cap, rfl⟩ : ∃ g cap, v' = .slice (some ⟨g, 0, none⟩) (L.length + 1) cap := by
    rcases h2.2 with ⟨_, h0⟩ | ⟨g, cap, cur, he, _⟩
    · omega
    · exact ⟨g, cap, he⟩
  refine ⟨g, cap, w', fun ty => ?_, ?_, hb⟩
  · exact h1
  · have e : (L ++ [s]).length = L.length + 1 := by simp
    show w'.ownsRow B 63 3 _ (L ++ [s]).length (segCells (L ++ [s]))
    rw [e]
    exact h2

theorem ksegs_any (v : Value) (L : List Sg) (w : World) (hv : SegsAt w v L) (hl : L.length ≤ 1000) :
    Calls Try.prog 15 #[v] w fun e w' => ∃ v', e = .returned v' ∧ OwnS w.heap.size w' v' L ∧ Below w.heap.size w w' := by
  obtain ⟨i0, hi, hz0, hz1, hz2⟩ := info_parts rowSg
  have hown := World.ownsRow_made (e := 63) (size := 3) (base := w.heap.size) w #[] 0 (Nat.le_refl _) (by simp [maxLen]) rfl
  have hbase : w.heap.size ≤ (w.alloc (.cells #[] 63)).heap.size := by rw [sizeA]; omega
  have hrun : ∃ v' w', (∀ ty, (Builtin.append_ #[27, 27] ty #[.slice (some ⟨w.heap.size, 0, none⟩) 0 0, v]).run Try.prog (w.alloc (.cells #[] 63)) = .ok v' w') ∧ OwnS w.heap.size w' v' L ∧ Below w.heap.size w w' := by
    rcases hv with ⟨⟨a, c, rfl, hac⟩, rfl⟩ | ⟨b, o, c, rfl, hb1, hb2, hb3⟩
    · cases a with
      | none =>
        exact ⟨_, _, fun ty => by rw [hac rfl]; exact run_append_owned_none _ w.heap.size 27 ty 63 i0 3 Try.underlying27 hi _ 0 [] hown, hown, (Below.refl _ _).alloc (Nat.le_refl _) _⟩
      | some a =>
        obtain ⟨v', w', h1, h2, h3, _⟩ := run_append_own (w.alloc (.cells #[] 63)) w.heap.size 27 27 63 i0 _ 3 16 Try.underlying27 hi hz0 hz1 hz2 rfl (by decide) _ 0 [] hown a 0 c [] rfl (fun j u hu => by simp at hu) (fun u hu => by cases hu) (by simp [maxLen]) (by decide) hbase
        exact ⟨v', w', fun ty => h1, h2, ((Below.refl _ _).alloc (Nat.le_refl _) _).trans (grown_below h3 hbase (fun k hk => by simp [Value.ownBlock] at hk; omega))⟩
    · have hba : Below w.heap.size w (w.alloc (.cells #[] 63)) := Below.alloc (Below.refl _ _) (Nat.le_refl _) _
      have hb3' : ∀ j, j < L.length → at3 (w.alloc (.cells #[] 63)) b (o + j * 3) (sat L j) := fun j hj => (hb3 j hj).below hba hb1
      obtain ⟨v', w', h1, h2, h3, _⟩ := run_append_own (w.alloc (.cells #[] 63)) w.heap.size 27 27 63 i0 _ 3 16 Try.underlying27 hi hz0 hz1 hz2 rfl (by decide) _ 0 [] hown ⟨b, o, none⟩ L.length c (segCells L) (segCells_length L) (newsS_of hb3') oneS_of (by simp [maxLen]; omega) (by omega) hbase
      rw [List.nil_append, Nat.zero_add] at h2
      exact ⟨v', w', fun ty => h1, h2, ((Below.refl _ _).alloc (Nat.le_refl _) _).trans (grown_below h3 hbase (fun k hk => by simp [Value.ownBlock] at hk; omega))⟩
  obtain ⟨v', w', hrun, hn, hb⟩ := hrun
  have HN := hid_mk hn
  have HB := hid_mk hb
  clear hv hl hown hbase hi hz0 hz1 hz2 hn hb
  go_enter Try.func15, Try.ntmps15
  go_wp2_with (at_builtin; refine wpList_append_run rfl _ _ _ rfl rfl rfl (hrun _) ?_)
  go_ret
  exact ⟨v', rfl, HN.out, HB.out⟩
end Go.Proofs.Ytgdokgpplldddaa

/- The reference's Part and Cut of layer 5; kit.SameSegs. Conditions: as each theorem names them. -/
namespace Go.Proofs.Ytgdokgpplldddaa
open Go.ChangeShapes Go.WideShapes Go.ChangeAt Go.RowKit
set_option linter.unusedVariables false
set_option maxRecDepth 100000

theorem partS_append (t : Bool) (a b : List Sg) : partS t (a ++ b) = partS t a ++ partS t b := by
  unfold partS
  exact List.filter_append ..
theorem partS_step {t : Bool} {L : List Sg} {k : Nat} (h : k < L.length) : partS t (L.take (k + 1)) = partS t (L.take k) ++ if (sat L k).t = t then [sat L k] else [] := by
  rw [take_sat h, partS_append]
  congr 1
  by_cases hq : (sat L k).t = t
  · rw [partS_yes hq, if_pos hq]
    rfl
  · rw [partS_no hq, if_neg hq]
    rfl
theorem partS_le (t : Bool) (L : List Sg) : (partS t L).length ≤ L.length := by
  unfold partS
  exact List.length_filter_le ..
theorem seg_pos {L : List Sg} (h : segE L ≠ 0) : 0 < L.length := by
  rcases Nat.eq_zero_or_pos L.length with q | q
  · rw [List.length_eq_zero_iff.1 q] at h
    exact absurd rfl h
  · exact q

end Go.Proofs.Ytgdokgpplldddaa
