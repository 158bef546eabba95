/- Fb Fe1 Fe2: joined texts. Conditions: as each theorem names them. -/
import Derived.Test.YtfhhgcgbgmilcaaGreatKp21
import Derived.Test.YtfhhgcgbgmilcaaGreatKp06
import Derived.Test.YtfhhgcgbgmilcaaGreatKp16
import Derived.Test.YtfhhgcgbgmilcaaGreatKp01
import Derived.Test.YtfhhgcgbgmilcaaGreatKp08
import Derived.Test.YtfhhgcgbgmilcaaGreatKp20
import Derived.Maps.OwnSet
import Derived.Maps.Views
import Derived.BigQuiet
/- Lists of ints: a parameter, an owned row; a map[int]bool as a set. Conditions: as each theorem names them. -/
namespace Go.Proofs.YtfhhgcgbgmilcaaGreat
open Go.ChangeShapes Go.WideShapes Go.ChangeAt Go.RowKit Go.Maps
set_option linter.unusedVariables false
set_option maxRecDepth 100000

/-- a slice of ints, nil too, of any sign -/
def IntsZ (w : World) (v : Value) (L : List Int) : Prop :=
  ((∃ a c, v = .slice a 0 c ∧ (a = none → c = 0)) ∧ L = []) ∨ ∃ b o c : Nat, v = .slice (some ⟨b, o, none⟩) L.length c ∧ b < w.heap.size ∧ L.length ≤ c ∧ ∀ j, j < L.length → w.cell? ⟨b, o + j, none⟩ = some (.int .i64 (L.getD j 0))
theorem IntsZ.len {w : World} {v : Value} {L : List Int} (h : IntsZ w v L) : ∃ a c, v = .slice a L.length c := by
  rcases h with ⟨⟨a, c, rfl, _⟩, rfl⟩ | ⟨b, o, c, rfl, _⟩
  · exact ⟨a, c, rfl⟩
  · exact ⟨_, c, rfl⟩
section
variable {H : Type} {enc : TypeId × Value → H} {W : World} {r : Reach} {b0 : Nat} {v : Value} {d : DataW H} {p : List MemPlace}
theorem open_intz (hval : Value.okWide Tryz.prog W r b0 35 v) (h : DataW.Trod enc Tryz.prog W 0 (fun _ => true) true 35 v d p) :
    ∃ L, IntsZ W v L ∧ L.length ≤ maxLen := by
  obtain ⟨a, len, cap, rfl⟩ := okWide_slice Tryz.underlying35 hval
  obtain ⟨fuel, hf⟩ := h
  have hc : Tryz.prog.cellsOf 3 = 1 := by kernel_rfl
  rcases open_ints Tryz.underlying35 Tryz.underlying3 hc hf with ⟨hcs, _⟩ | ⟨a', len', cap', zs, hcs, _, hle, hmax, hall, _, hcell, hwf⟩
  · simp [Value.cells] at hcs
    obtain ⟨rfl, rfl, rfl⟩ := hcs
    exact ⟨[], Or.inl ⟨⟨_, _, rfl, fun _ => rfl⟩, rfl⟩, by simp⟩
  · simp [Value.cells] at hcs
    obtain ⟨rfl, rfl, rfl⟩ := hcs
    simp only [if_true] at hall
    have hl : (zs.take len).length = len := by simp; omega
    by_cases h0 : len = 0
    · subst h0
      exact ⟨[], Or.inl ⟨⟨_, _, rfl, fun h => by cases h⟩, rfl⟩, by simp⟩
    · obtain ⟨b, off, rfl, hc2⟩ := ints_at hcell (by omega)
      refine ⟨zs.take len, Or.inr ⟨b, off, cap, by rw [hl], World.block_lt_of_cell? W _ (hc2 0 (by omega)), by omega, fun j hj => ?_⟩, by omega⟩
      rw [hc2 j (by omega)]
      congr 2
      simp only [List.getD_eq_getElem?_getD, List.getElem?_take]
      rw [if_pos (by omega)]
end

theorem klawI : Keyed Tryz.prog 3 := int_keyed Tryz.underlying3
/-- fits an int -/
abbrev I64 (x : Int) : Prop := -9223372036854775808 ≤ x ∧ x < 9223372036854775808
theorem keyI (x : Int) (h : I64 x) : keyOf Tryz.prog 3 (.int .i64 x) = some (.int .i64 x) := keyOf_int_mk Tryz.underlying3 (WalkArith.wf_i64 (by omega))
theorem zeroBoolI (w : World) : (zeroValue 4).run Tryz.prog w = .ok (.bool false) w := by kernel_rfl
/-- block mb is a map of at most n entries, and number x is in it as f says -/
def MapSetI (w : World) (mb n : Nat) (f : Int → Bool) : Prop := ∃ D : DataW Unit, w.ownsMap Tryz.prog 3 (plainElem Tryz.prog 4) mb n D ∧ ∀ x, I64 x → D.atKey (.int .i64 x) (.lit (.bool false)) = .lit (.bool (f x))
theorem MapSetI.made (w : World) : MapSetI (w.alloc (.map #[] 0)) w.heap.size 0 (fun _ => false) := ⟨_, World.ownsMap_made _ _ _ _, fun x _ => rfl⟩
theorem MapSetI.lt {w : World} {mb n : Nat} {f : Int → Bool} (h : MapSetI w mb n f) : mb < w.heap.size := by
  obtain ⟨D, h1, _⟩ := h
  exact h1.lt
theorem MapSetI.keep {w w' : World} {mb n : Nat} {f : Int → Bool} (h : MapSetI w mb n f) (hb : w'.heap[mb]? = w.heap[mb]?) : MapSetI w' mb n f := by
  obtain ⟨D, ⟨es, clock, h1, F, hs, hD⟩, hf⟩ := h
  exact ⟨D, ⟨es, clock, hb.trans h1, F, hs, hD⟩, hf⟩
theorem elem_boolI {v : Value} {b : Bool} {ps : List MemPlace} (hv : plainElem (H := Unit) Tryz.prog 4 v = some (.lit (.bool b), ps)) : v = .bool b := by
  unfold plainElem at hv
  rw [Tryz.underlying4] at hv
  split at hv
  · simp at hv
    rw [hv.1]
  · split at hv <;> simp at hv
  · split at hv <;> simp at hv
  · simp at hv
theorem rowI64 : (Tryz.prog.info? 3).map (fun i => (i.zero, i.size, i.bytes)) = some (some (.int .i64 0), 1, 8) := by kernel_rfl
/-- a row of ints of the call's own -/
abbrev OwnI (B : Nat) (w : World) (v : Value) (l : List Nat) : Prop := w.ownsRow B 3 1 v l.length (l.map fun p : Nat => Value.int .i64 (p : Int))
theorem OwnI.at {B : Nat} {w : World} {v : Value} {l : List Nat} (h : OwnI B w v l) : (l = [] ∧ v = .slice none 0 0) ∨ ∃ g c, v = .slice (some ⟨g, 0, none⟩) l.length c ∧ B ≤ g ∧ g < w.heap.size ∧ l.length ≤ c ∧ ∀ j, j < l.length → w.cell? ⟨g, j, none⟩ = some (.int .i64 (l.getD j 0 : Nat)) := by
  obtain ⟨h1, h2⟩ := h
  rcases h2 with ⟨rfl, h0⟩ | ⟨g, cap, cur, rfl, hg, hh, hcap, hm, hs, ht⟩
  · exact Or.inl ⟨List.length_eq_zero_iff.1 h0, rfl⟩
  · right
    refine ⟨g, cap, rfl, hg, lt_blk hh, hcap, fun j hj => ?_⟩
    have e : cur = ((l.map fun p : Nat => Value.int .i64 (p : Int)) ++ cur.toList.drop (l.length * 1)).toArray := by
      rw [← ht, List.take_append_drop]
    rw [e] at hh
    rw [cellK hh, List.getElem?_append_left (by simpa using hj)]
    simp [hj, List.getD]
theorem OwnI.ints {B : Nat} {w : World} {v : Value} {l : List Nat} (h : OwnI B w v l) : IntsAt w v l := by
  rcases h.at with ⟨rfl, rfl⟩ | ⟨g, c, rfl, _, h1, h2, h3⟩
  · exact Or.inl ⟨⟨_, _, rfl, fun _ => rfl⟩, rfl⟩
  · exact Or.inr ⟨g, 0, c, rfl, h1, h2, fun j hj => by rw [Nat.zero_add]; exact h3 j hj⟩
theorem OwnI.len {B : Nat} {w : World} {v : Value} {l : List Nat} (h : OwnI B w v l) : ∃ a c, v = .slice a l.length c := by
  rcases h.at with ⟨rfl, rfl⟩ | ⟨g, c, rfl, _⟩
  · exact ⟨_, _, rfl⟩
  · exact ⟨_, _, rfl⟩
theorem app_int {B : Nat} {w : World} {v : Value} {l : List Nat} (x : Nat) (h : OwnI B w v l) (hB : B ≤ w.heap.size) (hl : l.length ≤ 1000000) :
    ∃ v' w', (∀ ty, (Builtin.append_ #[35, 35] ty #[v, .slice (some ⟨w.heap.size, 0, none⟩) 1 1]).run Tryz.prog (w.alloc (.cells #[.int .i64 x] 3)) = .ok v' w') ∧ OwnI B w' v' (l ++ [x]) ∧ Below B w w' := by
  obtain ⟨i0, hi, hz0, hz1, hz2⟩ := info_parts rowI64
  have hown := World.ownsRow.alloc h (.cells #[.int .i64 x] 3)
  have hcells : ∀ j u, ([Value.int .i64 (x : Nat)])[j]? = some u → (w.alloc (.cells #[.int .i64 x] 3)).cell? ((⟨w.heap.size, 0, none⟩ : Addr).add j) = some u := fun j u hu => by
    rw [show (⟨w.heap.size, 0, none⟩ : Addr).add j = ⟨w.heap.size, j, none⟩ from by unfold Addr.add; split <;> simp_all]
    exact (cellK (cs := [Value.int .i64 (x : Nat)]) (t := 3) (fr := (0, 0)) (heap_alloc_new w (.cells #[.int .i64 x] 3)) j).trans hu
  obtain ⟨v', w', h1, h2, h3, h4⟩ := run_append_own (P := Tryz.prog) (w.alloc (.cells #[.int .i64 x] 3)) B 35 35 3 i0 _ 1 8 Tryz.underlying35 hi hz0 hz1 hz2 rfl (by decide) v l.length _ hown ⟨w.heap.size, 0, none⟩ 1 1 [Value.int .i64 (x : Nat)] rfl hcells (fun u hu => by
    have : u = Value.int .i64 (x : Nat) := by simpa using hu
    rw [this]
    rfl) (by simp [maxLen]; omega) (by omega) (by rw [sizeA]; omega)
  have hb : Below B w w' := ((Below.refl B w).alloc hB _).trans (grown_below h3 (by rw [sizeA]; omega) (fun q hq => (World.ownsRow.lt h q hq).1))
  refine ⟨v', w', fun ty => h1, ?_, hb⟩
  have e : (l ++ [x]).length = l.length + 1 := by simp
  show w'.ownsRow B 3 1 v' (l ++ [x]).length ((l ++ [x]).map fun p : Nat => Value.int .i64 (p : Int))
  rw [e, List.map_append]
  exact h2
end Go.Proofs.YtfhhgcgbgmilcaaGreat

/- Lists of ints as slices: kept, parted; a free list as a parameter. Conditions: as each theorem names them. -/
namespace Go.Proofs.YtfhhgcgbgmilcaaGreat
open Go.ChangeShapes Go.WideShapes Go.ChangeAt Go.RowKit
set_option linter.unusedVariables false
set_option maxRecDepth 100000

theorem IntsZ.below {w w' : World} {v : Value} {L : List Int} (h : IntsZ w v L) (hb : Below w.heap.size w w') : IntsZ w' v L := by
  rcases h with h | ⟨b, o, c, h1, h2, h3, h4⟩
  · exact Or.inl h
  · have := hb.size
    exact Or.inr ⟨b, o, c, h1, by omega, h3, fun j hj => (hb.cell (p := ⟨b, o + j, none⟩) h2).trans (h4 j hj)⟩
theorem IntsZ.nil (w : World) : IntsZ w (.slice none 0 0) [] := Or.inl ⟨⟨_, _, rfl, fun _ => rfl⟩, rfl⟩
theorem getD_dropI (L : List Int) (k i : Nat) : (L.drop k).getD i 0 = L.getD (k + i) 0 := by
  rw [List.getD_eq_getElem?_getD, List.getD_eq_getElem?_getD, List.getElem?_drop]
theorem getD_takeI (L : List Int) {k i : Nat} (h : i < k) : (L.take k).getD i 0 = L.getD i 0 := by
  rw [List.getD_eq_getElem?_getD, List.getD_eq_getElem?_getD, List.getElem?_take_of_lt h]
theorem IntsZ.front {w : World} {b o c : Nat} {L : List Int} (k c2 : Nat) (hk : k ≤ L.length) (h2 : b < w.heap.size) (h3 : k ≤ c2) (h4 : ∀ j, j < L.length → w.cell? ⟨b, o + j, none⟩ = some (.int .i64 (L.getD j 0))) : IntsZ w (.slice (some ⟨b, o, none⟩) k c2) (L.take k) := by
  have hl : (L.take k).length = k := by
    rw [List.length_take]
    omega
  refine Or.inr ⟨b, o, c2, by rw [hl], h2, by omega, fun j hj => ?_⟩
  rw [hl] at hj
  rw [getD_takeI L hj]
  exact h4 j (by omega)
theorem IntsZ.back {w : World} {b o c : Nat} {L : List Int} (k c2 : Nat) (hk : k ≤ L.length) (h2 : b < w.heap.size) (h3 : L.length - k ≤ c2) (h4 : ∀ j, j < L.length → w.cell? ⟨b, o + j, none⟩ = some (.int .i64 (L.getD j 0))) : IntsZ w (.slice (some ⟨b, o + k, none⟩) (L.length - k) c2) (L.drop k) := by
  have hl : (L.drop k).length = L.length - k := List.length_drop ..
  refine Or.inr ⟨b, o + k, c2, by rw [hl], h2, by omega, fun j hj => ?_⟩
  rw [hl] at hj
  rw [getD_dropI, Nat.add_assoc]
  exact h4 (k + j) (by omega)
/-- the first q, and the rest, as slices -/
theorem slicesI {w : World} {va : Option Addr} {vc : Nat} {L : List Int} (hv : IntsZ w (.slice va L.length vc) L) (q : Nat) (hq : q ≤ L.length) :
    ∃ v1 v2, (∀ u, (Instr.sliceAt 35 (.slice va L.length vc) none (some (.int .i64 (q : Int))) none).run Tryz.prog u = .ok v1 u) ∧ IntsZ w v1 (L.take q) ∧
      (∀ u, (Instr.sliceAt 35 (.slice va L.length vc) (some (.int .i64 (q : Int))) none none).run Tryz.prog u = .ok v2 u) ∧ IntsZ w v2 (L.drop q) := by
  have hqi : (q : Int) ≤ (L.length : Int) := by omega
  rcases hv with ⟨⟨a, c, he, hac⟩, rfl⟩ | ⟨b, o, c, he, h2, h3, h4⟩
  · cases he
    obtain rfl : q = 0 := by simpa using hq
    cases va with
    | none =>
      obtain rfl := hac rfl
      refine ⟨.slice none 0 0, .slice none 0 0, fun u => ?_, IntsZ.nil _, fun u => ?_, IntsZ.nil _⟩
      · simp [go_sem]
      · simp [go_sem]
    | some a =>
      refine ⟨.slice (some a) 0 vc, .slice (some a) 0 vc, fun u => ?_, Or.inl ⟨⟨_, _, rfl, fun h => by cases h⟩, rfl⟩, fun u => ?_, Or.inl ⟨⟨_, _, rfl, fun h => by cases h⟩, rfl⟩⟩
      · simp [go_sem]
      · simp [go_sem]
  · cases he
    have hci : (L.length : Int) ≤ (vc : Int) := by omega
    have hqc : (q : Int) ≤ (vc : Int) := by omega
    by_cases hvq : vc = q
    · have hql : L.length = q := by omega
      have hdr : L.drop q = [] := by rw [← hql, List.drop_length]
      refine ⟨.slice (some ⟨b, o, none⟩) q vc, .slice (some ⟨b, o, none⟩) 0 0, fun u => ?_, IntsZ.front (c := vc) q vc hq h2 (by omega) h4, fun u => ?_, Or.inl ⟨⟨_, _, rfl, fun h => by cases h⟩, hdr⟩⟩
      · simp [go_sem, hqc]
      · simp [go_sem, hvq, hql]
    · refine ⟨.slice (some ⟨b, o, none⟩) q vc, .slice (some ⟨b, o + q, none⟩) (L.length - q) (vc - q), fun u => ?_, IntsZ.front (c := vc) q vc hq h2 (by omega) h4, fun u => ?_, IntsZ.back (c := vc) q (vc - q) hq h2 (by omega) h4⟩
      · simp [go_sem, hqc]
      · simp [go_sem, hqi, hvq]
/-- a literal -/
theorem IntsZ.lit (w : World) (L : List Int) (t : TypeId) : IntsZ (w.alloc (.cells (L.map (Value.int .i64)).toArray t)) (.slice (some ⟨w.heap.size, 0, none⟩) L.length L.length) L := by
  refine Or.inr ⟨w.heap.size, 0, L.length, rfl, by rw [sizeA]; omega, Nat.le_refl _, fun j hj => ?_⟩
  rw [Nat.zero_add, cellB (heap_alloc_new w _) j hj]

/-! ### a free list -/
def frV (S : Int) (v : Value) : Value := .agg #[.int .i64 S, v]
section
variable {H : Type} {enc : TypeId × Value → H} {W : World} {r : Reach} {b0 : Nat} {v : Value} {d : DataW H} {p : List MemPlace}
theorem trod_intz {n : Nat} {y : DataW H × List MemPlace} (hf : DataW.trod enc Tryz.prog W 0 (fun _ => true) true n 35 [v] = some y) : ∃ L, IntsZ W v L ∧ L.length ≤ maxLen := by
  have hc : Tryz.prog.cellsOf 3 = 1 := by kernel_rfl
  rcases open_ints Tryz.underlying35 Tryz.underlying3 hc hf with ⟨hcs, _⟩ | ⟨a', len', cap', zs, hcs, _, hle, hmax, hall, _, hcell, hwf⟩
  · simp at hcs
    subst hcs
    exact ⟨[], IntsZ.nil _, by simp⟩
  · simp at hcs
    subst hcs
    simp only [if_true] at hall
    have hl : (zs.take len').length = len' := by simp; omega
    by_cases h0 : len' = 0
    · subst h0
      exact ⟨[], Or.inl ⟨⟨_, _, rfl, fun h => by cases h⟩, rfl⟩, by simp⟩
    · obtain ⟨b, off, rfl, hc2⟩ := ints_at hcell (by omega)
      refine ⟨zs.take len', Or.inr ⟨b, off, cap', by rw [hl], World.block_lt_of_cell? W _ (hc2 0 (by omega)), by omega, fun j hj => ?_⟩, by omega⟩
      rw [hc2 j (by omega)]
      congr 2
      simp only [List.getD_eq_getElem?_getD, List.getElem?_take]
      rw [if_pos (by omega)]
end
end Go.Proofs.YtfhhgcgbgmilcaaGreat

/- Small functions over lists of ints: the reference's in, the kit's Ints and Free. Conditions: as each theorem names them. -/
namespace Go.Proofs.YtfhhgcgbgmilcaaGreat
open Go.ChangeShapes Go.WideShapes Go.ChangeAt Go.RowKit
set_option linter.unusedVariables false
set_option maxRecDepth 100000

theorem beq_dec (x n : Int) : (x == n) = decide (x = n) := by
  by_cases h : x = n <;> simp [h]
theorem bne_dec (x n : Int) : (x != n) = !decide (x = n) := by
  by_cases h : x = n <;> simp [h]
theorem sameL_no {L M : List Int} {k : Nat} (hL : k < L.length) (hM : k < M.length) (h : ¬ L.getD k 0 = M.getD k 0) : sameL L M = false := by
  unfold sameL
  refine decide_eq_false (fun e => h ?_)
  rw [e]
theorem same_next {L M : List Int} {k : Nat} (hL : k < L.length) (hM : k < M.length) (h : L.getD k 0 = M.getD k 0) (ht : L.take k = M.take k) : L.take (k + 1) = M.take (k + 1) := by
  rw [take_succD hL, take_succD hM, ht, h]
theorem fr_box (w : World) (S : Int) (v : Value) (t : TypeId) : (w.alloc (.cells #[.int .i64 S, v] t)).cell? ⟨w.heap.size, 0, none⟩ = some (.int .i64 S) ∧ (w.alloc (.cells #[.int .i64 S, v] t)).cell? ⟨w.heap.size, 1, none⟩ = some v :=
  ⟨cellK (cs := [.int .i64 S, v]) (heap_alloc_new w _) 0, cellK (cs := [.int .i64 S, v]) (heap_alloc_new w _) 1⟩
end Go.Proofs.YtfhhgcgbgmilcaaGreat
