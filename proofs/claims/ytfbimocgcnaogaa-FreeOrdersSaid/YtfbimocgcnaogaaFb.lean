/- Lists of ints: a parameter, an owned row; a map[int]bool as a set. Conditions: as each theorem names them. -/
import Derived.Test.YtfbimocgcnaogaaFr1
import Derived.Test.YtfbimocgcnaogaaOwn
import Derived.Test.YtfbimocgcnaogaaArg
import Derived.Maps.OwnSet
import Derived.Maps.Views
namespace Go.Proofs.Ytfbimocgcnaogaa
open Go.ChangeShapes Go.WideShapes Go.ChangeAt Go.RowKit Go.Maps
set_option linter.unusedVariables false
set_option maxRecDepth 100000

/-- a slice of ints, nil too, of any sign -/
def IntsZ (w : World) (v : Value) (L : List Int) : Prop :=
  ((∃ a c, v = .slice a 0 c ∧ (a = none → c = 0)) ∧ L = []) ∨ ∃ b o c : Nat, v = .slice (some ⟨b, o, none⟩) L.length c ∧ b < w.heap.size ∧ L.length ≤ c ∧ ∀ j, j < L.length → w.cell? ⟨b, o + j, none⟩ = some (.int .i64 (L.getD j 0))
theorem IntsZ.len {w : World} {v : Value} {L : List Int} (h : IntsZ w v L) : ∃ a c, v = .slice a L.length c := by
  rcases h with ⟨⟨a, c, rfl, _⟩, rfl⟩ | ⟨b, o, c, rfl, _⟩
  · exact ⟨a, c, rfl⟩
  · exact ⟨_, c, rfl⟩
section
variable {H : Type} {enc : TypeId × Value → H} {W : World} {r : Reach} {b0 : Nat} {v : Value} {d : DataW H} {p : List MemPlace}
theorem open_intz (hval : Value.okWide Try.prog W r b0 22 v) (h : DataW.Trod enc Try.prog W 0 (fun _ => true) true 22 v d p) :
    ∃ L, IntsZ W v L ∧ L.length ≤ maxLen := by
  obtain ⟨a, len, cap, rfl⟩ := okWide_slice Try.underlying22 hval
  obtain ⟨fuel, hf⟩ := h
  have hc : Try.prog.cellsOf 3 = 1 := by kernel_rfl
  rcases open_ints Try.underlying22 Try.underlying3 hc hf with ⟨hcs, _⟩ | ⟨a', len', cap', zs, hcs, _, hle, hmax, hall, _, hcell, hwf⟩
  · simp [Value.cells] at hcs
    obtain ⟨rfl, rfl, rfl⟩ := hcs
    exact ⟨[], Or.inl ⟨⟨_, _, rfl, fun _ => rfl⟩, rfl⟩, by simp⟩
  · simp [Value.cells] at hcs
    obtain ⟨rfl, rfl, rfl⟩ := hcs
    simp only [if_true] at hall
    have hl : (zs.take len).length = len := by simp; omega
    by_cases h0 : len = 0
    · subst h0
      exact ⟨[], Or.inl ⟨⟨_, _, rfl, fun h => by cases h⟩, rfl⟩, by simp⟩
    · obtain ⟨b, off, rfl, hc2⟩ := ints_at hcell (by omega)
      refine ⟨zs.take len, Or.inr ⟨b, off, cap, by rw [hl], World.block_lt_of_cell? W _ (hc2 0 (by omega)), by omega, fun j hj => ?_⟩, by omega⟩
      rw [hc2 j (by omega)]
      congr 2
      simp only [List.getD_eq_getElem?_getD, List.getElem?_take]
      rw [if_pos (by omega)]
end

theorem klawI : Keyed Try.prog 3 := int_keyed Try.underlying3
/-- fits an int -/
abbrev I64 (x : Int) : Prop := -9223372036854775808 ≤ x ∧ x < 9223372036854775808
theorem keyI (x : Int) (h : I64 x) : keyOf Try.prog 3 (.int .i64 x) = some (.int .i64 x) := keyOf_int_mk Try.underlying3 (WalkArith.wf_i64 (by omega))
theorem zeroBoolI (w : World) : (zeroValue 4).run Try.prog w = .ok (.bool false) w := by kernel_rfl
/-- block mb is a map of at most n entries, and number x is in it as f says -/
def MapSetI (w : World) (mb n : Nat) (f : Int → Bool) : Prop := ∃ D : DataW Unit, w.ownsMap Try.prog 3 (plainElem Try.prog 4) mb n D ∧ ∀ x, I64 x → D.atKey (.int .i64 x) (.lit (.bool false)) = .lit (.bool (f x))
theorem MapSetI.made (w : World) : MapSetI (w.alloc (.map #[] 0)) w.heap.size 0 (fun _ => false) := ⟨_, World.ownsMap_made _ _ _ _, fun x _ => rfl⟩
theorem MapSetI.lt {w : World} {mb n : Nat} {f : Int → Bool} (h : MapSetI w mb n f) : mb < w.heap.size := by
  obtain ⟨D, h1, _⟩ := h
  exact h1.lt
theorem MapSetI.keep {w w' : World} {mb n : Nat} {f : Int → Bool} (h : MapSetI w mb n f) (hb : w'.heap[mb]? = w.heap[mb]?) : MapSetI w' mb n f := by
  obtain ⟨D, ⟨es, clock, h1, F, hs, hD⟩, hf⟩ := h
  exact ⟨D, ⟨es, clock, hb.trans h1, F, hs, hD⟩, hf⟩
theorem elem_boolI {v : Value} {b : Bool} {ps : List MemPlace} (hv : plainElem (H := Unit) Try.prog 4 v = some (.lit (.bool b), ps)) : v = .bool b := by
  unfold plainElem at hv
  rw [Try.underlying4] at hv
  split at hv
  · simp at hv
    rw [hv.1]
  · split at hv <;> simp at hv
  · split at hv <;> simp at hv
  · simp at hv
theorem MapSetI.lookup {w : World} {mb n : Nat} {f : Int → Bool} (h : MapSetI w mb n f) (x : Int) (hx : I64 x) : (Instr.lookup 39 (.map (some mb)) (.int .i64 x) false).run Try.prog w = .ok (.bool (f x)) w := by
  obtain ⟨D, h1, h2⟩ := h
  obtain ⟨v, ps, hrun, hv⟩ := World.ownsMap.lookup h1 klawI Try.underlying39 (zeroBoolI w) (plainElem_bool Try.underlying4 false) (keyI x hx)
  rw [h2 x hx] at hv
  rw [hrun, elem_boolI hv]
theorem MapSetI.update {w : World} {mb n : Nat} {f : Int → Bool} (h : MapSetI w mb n f) (hn : n < 1000000) (x : Int) (hx : I64 x) :
    ∃ w', (Instr.mapUpdate 39 (.map (some mb)) (.int .i64 x) (.bool true)).run Try.prog w = .ok () w' ∧ MapSetI w' mb (n + 1) (fun z => if z = x then true else f z) ∧ Chg (· = mb) w w' := by
  obtain ⟨D, h1, h2⟩ := h
  obtain ⟨w', hrun, h3, h4⟩ := h1.update (key := .int .i64 x) (val := .bool true) klawI Try.underlying39 (by simp [maxLen]; omega) (keyI x hx) (plainElem_bool Try.underlying4 true)
  refine ⟨w', hrun, ⟨_, h3, fun z hz => ?_⟩, ⟨h4.os, h4.tape, h4.output, h4.size, fun k hk hne => h4.block k hk (fun e => hne (by injection e))⟩⟩
  show _ = DataW.lit (.bool (if z = x then true else f z))
  by_cases e : z = x
  · subst e
    rw [if_pos rfl]
    exact atKey_put_same h1.isMap (by simp [WideAt.IsKeyLit]) _ _
  · rw [if_neg e, atKey_put_other (fun h => e (by injection h))]
    exact h2 z hz

theorem rowI64 : (Try.prog.info? 3).map (fun i => (i.zero, i.size, i.bytes)) = some (some (.int .i64 0), 1, 8) := by kernel_rfl
/-- a row of ints of the call's own -/
abbrev OwnI (B : Nat) (w : World) (v : Value) (l : List Nat) : Prop := w.ownsRow B 3 1 v l.length (l.map fun p : Nat => Value.int .i64 (p : Int))
theorem OwnI.at {B : Nat} {w : World} {v : Value} {l : List Nat} (h : OwnI B w v l) : (l = [] ∧ v = .slice none 0 0) ∨ ∃ g c, v = .slice (some ⟨g, 0, none⟩) l.length c ∧ B ≤ g ∧ g < w.heap.size ∧ l.length ≤ c ∧ ∀ j, j < l.length → w.cell? ⟨g, j, none⟩ = some (.int .i64 (l.getD j 0 : Nat)) := by
  obtain ⟨h1, h2⟩ := h
  rcases h2 with ⟨rfl, h0⟩ | ⟨g, cap, cur, rfl, hg, hh, hcap, hm, hs, ht⟩
  · exact Or.inl ⟨List.length_eq_zero_iff.1 h0, rfl⟩
  · right
    refine ⟨g, cap, rfl, hg, lt_blk hh, hcap, fun j hj => ?_⟩
    have e : cur = ((l.map fun p : Nat => Value.int .i64 (p : Int)) ++ cur.toList.drop (l.length * 1)).toArray := by
      rw [← ht, List.take_append_drop]
    rw [e] at hh
    rw [cellK hh, List.getElem?_append_left (by simpa using hj)]
    simp [hj, List.getD]
theorem OwnI.ints {B : Nat} {w : World} {v : Value} {l : List Nat} (h : OwnI B w v l) : IntsAt w v l := by
  rcases h.at with ⟨rfl, rfl⟩ | ⟨g, c, rfl, _, h1, h2, h3⟩
  · exact Or.inl ⟨⟨_, _, rfl, fun _ => rfl⟩, rfl⟩
  · exact Or.inr ⟨g, 0, c, rfl, h1, h2, fun j hj => by rw [Nat.zero_add]; exact h3 j hj⟩
theorem OwnI.len {B : Nat} {w : World} {v : Value} {l : List Nat} (h : OwnI B w v l) : ∃ a c, v = .slice a l.length c := by
  rcases h.at with ⟨rfl, rfl⟩ | ⟨g, c, rfl, _⟩
  · exact ⟨_, _, rfl⟩
  · exact ⟨_, _, rfl⟩
theorem app_int {B : Nat} {w : World} {v : Value} {l : List Nat} (x : Nat) (h : OwnI B w v l) (hB : B ≤ w.heap.size) (hl : l.length ≤ 1000000) :
    ∃ v' w', (∀ ty, (Builtin.append_ #[22, 22] ty #[v, .slice (some ⟨w.heap.size, 0, none⟩) 1 1]).run Try.prog (w.alloc (.cells #[.int .i64 x] 3)) = .ok v' w') ∧ OwnI B w' v' (l ++ [x]) ∧ Below B w w' := by
  obtain ⟨i0, hi, hz0, hz1, hz2⟩ := info_parts rowI64
  have hown := World.ownsRow.alloc h (.cells #[.int .i64 x] 3)
  have hcells : ∀ j u, ([Value.int .i64 (x : Nat)])[j]? = some u → (w.alloc (.cells #[.int .i64 x] 3)).cell? ((⟨w.heap.size, 0, none⟩ : Addr).add j) = some u := fun j u hu => by
    rw [show (⟨w.heap.size, 0, none⟩ : Addr).add j = ⟨w.heap.size, j, none⟩ from by unfold Addr.add; split <;> simp_all]
    exact (cellK (cs := [Value.int .i64 (x : Nat)]) (t := 3) (fr := (0, 0)) (heap_alloc_new w (.cells #[.int .i64 x] 3)) j).trans hu
  obtain ⟨v', w', h1, h2, h3, h4⟩ := run_append_own (P := Try.prog) (w.alloc (.cells #[.int .i64 x] 3)) B 22 22 3 i0 _ 1 8 Try.underlying22 hi hz0 hz1 hz2 rfl (by decide) v l.length _ hown ⟨w.heap.size, 0, none⟩ 1 1 [Value.int .i64 (x : Nat)] rfl hcells (fun u hu => by
    have : u = Value.int .i64 (x : Nat) := by simpa using hu
    rw [this]
    rfl) (by simp [maxLen]; omega) (by omega) (by rw [sizeA]; omega)
  have hb : Below B w w' := ((Below.refl B w).alloc hB _).trans (grown_below h3 (by rw [sizeA]; omega) (fun q hq => (World.ownsRow.lt h q hq).1))
  refine ⟨v', w', fun ty => h1, ?_, hb⟩
  have e : (l ++ [x]).length = l.length + 1 := by simp
  show w'.ownsRow B 3 1 v' (l ++ [x]).length ((l ++ [x]).map fun p : Nat => Value.int .i64 (p : Int))
  rw [e, List.map_append]
  exact h2
end Go.Proofs.Ytfbimocgcnaogaa
