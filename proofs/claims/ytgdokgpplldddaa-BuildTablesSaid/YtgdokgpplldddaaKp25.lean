/- Fb Pg1: joined texts. Conditions: as each theorem names them. -/
import Derived.Test.YtgdokgpplldddaaKp24
import Derived.Test.YtgdokgpplldddaaKp08
import Derived.Test.YtgdokgpplldddaaKp21
import Derived.Maps.OwnSet
import Derived.Maps.Views
/- Lists of ints: a parameter, an owned row; a map[int]bool as a set. Conditions: as each theorem names them. -/
namespace Go.Proofs.Ytgdokgpplldddaa
open Go.ChangeShapes Go.WideShapes Go.ChangeAt Go.RowKit Go.Maps
set_option linter.unusedVariables false
set_option maxRecDepth 100000

/-- a slice of ints, nil too, of any sign -/
def IntsZ (w : World) (v : Value) (L : List Int) : Prop :=
  ((∃ a c, v = .slice a 0 c ∧ (a = none → c = 0)) ∧ L = []) ∨ ∃ b o c : Nat, v = .slice (some ⟨b, o, none⟩) L.length c ∧ b < w.heap.size ∧ L.length ≤ c ∧ ∀ j, j < L.length → w.cell? ⟨b, o + j, none⟩ = some (.int .i64 (L.getD j 0))
theorem IntsZ.len {w : World} {v : Value} {L : List Int} (h : IntsZ w v L) : ∃ a c, v = .slice a L.length c := by
  rcases h with ⟨⟨a, c, rfl, _⟩, rfl⟩ | ⟨b, o, c, rfl, _⟩
  · exact ⟨a, c, rfl⟩
  · exact ⟨_, c, rfl⟩
section
variable {H : Type} {enc : TypeId × Value → H} {W : World} {r : Reach} {b0 : Nat} {v : Value} {d : DataW H} {p : List MemPlace}
theorem open_intz (hval : Value.okWide Try.prog W r b0 26 v) (h : DataW.Trod enc Try.prog W 0 (fun _ => true) true 26 v d p) :
    ∃ L, IntsZ W v L ∧ L.length ≤ maxLen := by
  obtain ⟨a, len, cap, rfl⟩ := okWide_slice Try.underlying26 hval
  obtain ⟨fuel, hf⟩ := h
  have hc : Try.prog.cellsOf 3 = 1 := by kernel_rfl
  rcases open_ints Try.underlying26 Try.underlying3 hc hf with ⟨hcs, _⟩ | ⟨a', len', cap', zs, hcs, _, hle, hmax, hall, _, hcell, hwf⟩
  · simp [Value.cells] at hcs
    obtain ⟨rfl, rfl, rfl⟩ := hcs
    exact ⟨[], Or.inl ⟨⟨_, _, rfl, fun _ => rfl⟩, rfl⟩, by simp⟩
  · simp [Value.cells] at hcs
    obtain ⟨rfl, rfl, rfl⟩ := hcs
    simp only [if_true] at hall
    have hl : (zs.take len).length = len := by simp; omega
    by_cases h0 : len = 0
    · subst h0
      exact ⟨[], Or.inl ⟨⟨_, _, rfl, fun h => by cases h⟩, rfl⟩, by simp⟩
    · obtain ⟨b, off, rfl, hc2⟩ := ints_at hcell (by omega)
      refine ⟨zs.take len, Or.inr ⟨b, off, cap, by rw [hl], World.block_lt_of_cell? W _ (hc2 0 (by omega)), by omega, fun j hj => ?_⟩, by omega⟩
      rw [hc2 j (by omega)]
      congr 2
      simp only [List.getD_eq_getElem?_getD, List.getElem?_take]
      rw [if_pos (by omega)]
end

theorem klawI : Keyed Try.prog 3 := int_keyed Try.underlying3
/-- fits an int -/
abbrev I64 (x : Int) : Prop := -9223372036854775808 ≤ x ∧ x < 9223372036854775808
theorem keyI (x : Int) (h : I64 x) : keyOf Try.prog 3 (.int .i64 x) = some (.int .i64 x) := keyOf_int_mk Try.underlying3 (WalkArith.wf_i64 (by omega))
theorem zeroBoolI (w : World) : (zeroValue 4).run Try.prog w = .ok (.bool false) w := by kernel_rfl
/-- block mb is a map of at most n entries, and number x is in it as f says -/
def MapSetI (w : World) (mb n : Nat) (f : Int → Bool) : Prop := ∃ D : DataW Unit, w.ownsMap Try.prog 3 (plainElem Try.prog 4) mb n D ∧ ∀ x, I64 x → D.atKey (.int .i64 x) (.lit (.bool false)) = .lit (.bool (f x))
theorem MapSetI.made (w : World) : MapSetI (w.alloc (.map #[] 0)) w.heap.size 0 (fun _ => false) := ⟨_, World.ownsMap_made _ _ _ _, fun x _ => rfl⟩
theorem MapSetI.lt {w : World} {mb n : Nat} {f : Int → Bool} (h : MapSetI w mb n f) : mb < w.heap.size := by
  obtain ⟨D, h1, _⟩ := h
  exact h1.lt
theorem MapSetI.keep {w w' : World} {mb n : Nat} {f : Int → Bool} (h : MapSetI w mb n f) (hb : w'.heap[mb]? = w.heap[mb]?) : MapSetI w' mb n f := by
  obtain ⟨D, ⟨es, clock, h1, F, hs, hD⟩, hf⟩ := h
  exact ⟨D, ⟨es, clock, hb.trans h1, F, hs, hD⟩, hf⟩
theorem elem_boolI {v : Value} {b : Bool} {ps : List MemPlace} (hv : plainElem (H := Unit) Try.prog 4 v = some (.lit (.bool b), ps)) : v = .bool b := by
  unfold plainElem at hv
  rw [Try.underlying4] at hv
  split at hv
  · simp at hv
    rw [hv.1]
  · split at hv <;> simp at hv
  · split at hv <;> simp at hv
  · simp at hv
theorem rowI64 : (Try.prog.info? 3).map (fun i => (i.zero, i.size, i.bytes)) = some (some (.int .i64 0), 1, 8) := by kernel_rfl
/-- a row of ints of the call's own -/
abbrev OwnI (B : Nat) (w : World) (v : Value) (l : List Nat) : Prop := w.ownsRow B 3 1 v l.length (l.map fun p : Nat => Value.int .i64 (p : Int))
theorem OwnI.at {B : Nat} {w : World} {v : Value} {l : List Nat} (h : OwnI B w v l) : (l = [] ∧ v = .slice none 0 0) ∨ ∃ g c, v = .slice (some ⟨g, 0, none⟩) l.length c ∧ B ≤ g ∧ g < w.heap.size ∧ l.length ≤ c ∧ ∀ j, j < l.length → w.cell? ⟨g, j, none⟩ = some (.int .i64 (l.getD j 0 : Nat)) := by
  obtain ⟨h1, h2⟩ := h
  rcases h2 with ⟨rfl, h0⟩ | ⟨g, cap, cur, rfl, hg, hh, hcap, hm, hs, ht⟩
  · exact Or.inl ⟨List.length_eq_zero_iff.1 h0, rfl⟩
  · right
    refine ⟨g, cap, rfl, hg, lt_blk hh, hcap, fun j hj => ?_⟩
    have e : cur = ((l.map fun p : Nat => Value.int .i64 (p : Int)) ++ cur.toList.drop (l.length * 1)).toArray := by
      rw [← ht, List.take_append_drop]
    rw [e] at hh
    rw [cellK hh, List.getElem?_append_left (by simpa using hj)]
    simp [hj, List.getD]
theorem OwnI.ints {B : Nat} {w : World} {v : Value} {l : List Nat} (h : OwnI B w v l) : IntsAt w v l := by
  rcases h.at with ⟨rfl, rfl⟩ | ⟨g, c, rfl, _, h1, h2, h3⟩
  · exact Or.inl ⟨⟨_, _, rfl, fun _ => rfl⟩, rfl⟩
  · exact Or.inr ⟨g, 0, c, rfl, h1, h2, fun j hj => by rw [Nat.zero_add]; exact h3 j hj⟩
theorem OwnI.len {B : Nat} {w : World} {v : Value} {l : List Nat} (h : OwnI B w v l) : ∃ a c, v = .slice a l.length c := by
  rcases h.at with ⟨rfl, rfl⟩ | ⟨g, c, rfl, _⟩
  · exact ⟨_, _, rfl⟩
  · exact ⟨_, _, rfl⟩
theorem app_int {B : Nat} {w : World} {v : Value} {l : List Nat} (x : Nat) (h : OwnI B w v l) (hB : B ≤ w.heap.size) (hl : l.length ≤ 1000000) :
    ∃ v' w', (∀ ty, (Builtin.append_ #[26, 26] ty #[v, .slice (some ⟨w.heap.size, 0, none⟩) 1 1]).run Try.prog (w.alloc (.cells #[.int .i64 x] 3)) = .ok v' w') ∧ OwnI B w' v' (l ++ [x]) ∧ Below B w w' := by
  obtain ⟨i0, hi, hz0, hz1, hz2⟩ := info_parts rowI64
  have hown := World.ownsRow.alloc h (.cells #[.int .i64 x] 3)
  have hcells : ∀ j u, ([Value.int .i64 (x : Nat)])[j]? = some u → (w.alloc (.cells #[.int .i64 x] 3)).cell? ((⟨w.heap.size, 0, none⟩ : Addr).add j) = some u := fun j u hu => by
    rw [show (⟨w.heap.size, 0, none⟩ : Addr).add j = ⟨w.heap.size, j, none⟩ from by unfold Addr.add; split <;> simp_all]
    exact (cellK (cs := [Value.int .i64 (x : Nat)]) (t := 3) (fr := (0, 0)) (heap_alloc_new w (.cells #[.int .i64 x] 3)) j).trans hu
  obtain ⟨v', w', h1, h2, h3, h4⟩ := run_append_own (P := Try.prog) (w.alloc (.cells #[.int .i64 x] 3)) B 26 26 3 i0 _ 1 8 Try.underlying26 hi hz0 hz1 hz2 rfl (by decide) v l.length _ hown ⟨w.heap.size, 0, none⟩ 1 1 [Value.int .i64 (x : Nat)] rfl hcells (fun u hu => by
    have : u = Value.int .i64 (x : Nat) := by simpa using hu
    rw [this]
    rfl) (by simp [maxLen]; omega) (by omega) (by rw [sizeA]; omega)
  have hb : Below B w w' := ((Below.refl B w).alloc hB _).trans (grown_below h3 (by rw [sizeA]; omega) (fun q hq => (World.ownsRow.lt h q hq).1))
  refine ⟨v', w', fun ty => h1, ?_, hb⟩
  have e : (l ++ [x]).length = l.length + 1 := by simp
  show w'.ownsRow B 3 1 v' (l ++ [x]).length ((l ++ [x]).map fun p : Nat => Value.int .i64 (p : Int))
  rw [e, List.map_append]
  exact h2
end Go.Proofs.Ytgdokgpplldddaa

/- Package seg's sum, inSpace, Check. Conditions: as each theorem names them. -/
namespace Go.Proofs.Ytgdokgpplldddaa
open Go.ChangeShapes Go.WideShapes Go.ChangeAt Go.RowKit
set_option linter.unusedVariables false
set_option maxRecDepth 100000

theorem sumS_le : ∀ {L : List Sg}, isSgs L → sumS L ≤ 4294967296 * (L.length : Int)
  | [], _ => by simp [sumS]
  | s :: l, h => by
    obtain ⟨h1, h2⟩ := isSgs_cons h
    have := sumS_le h2
    have hn := h1.2.2
    simp only [sumS, List.length_cons]
    omega
theorem sumS_take_le {L : List Sg} (h : isSgs L) (k : Nat) (hk : k ≤ L.length) : 0 ≤ sumS (L.take k) ∧ sumS (L.take k) ≤ 4294967296 * (k : Int) := by
  have h1 := isSgs_take h k
  refine ⟨sumS_nonneg h1, ?_⟩
  have := sumS_le h1
  rw [List.length_take] at this
  omega

set_option maxHeartbeats 1000000 in
theorem psum (v : Value) (L : List Sg) (w : World) (hv : SegsAt w v L) (hu : isSgs L) (hl : L.length ≤ 1000) :
    Calls Try.prog 74 #[v] w fun e w' => e = .returned (.int .u64 (sumS L)) ∧ Below w.heap.size w w' := by
  rcases hv with ⟨⟨va, vc, rfl, _⟩, rfl⟩ | ⟨b, o, c, rfl, hb1, hb2, hb3⟩
  · go_enter Try.func74, Try.ntmps74
    go_wp2
    go_loop [3, 8] (fun n i => n = .int .u64 0 ∧ i = .int .i64 0) (fun _ i => 0)
    case atStart => exact ⟨rfl, rfl⟩
    case round =>
      obtain ⟨rfl, rfl⟩ := hrel
      go_wp2
      go_ret
      exact ⟨rfl, Below.refl _ _⟩
  · have HC := hid_mk hb3
    have HU := hid_mk hu
    have hli : (L.length : Int) ≤ 1000 := by omega
    clear hb3 hu
    go_enter Try.func74, Try.ntmps74
    go_wp2
    go_loopw [3, 5, 8] (fun n p i wr => ∃ k : Nat, k ≤ L.length ∧ i = .int .i64 k ∧ n = .int .u64 (sumS (L.take k)) ∧ Hid (Below w.heap.size w wr)) (fun _ _ i _ => L.length - (intOf i).toNat)
    case atStart => exact ⟨0, Nat.zero_le _, rfl, rfl, hid_mk (Below.refl _ _)⟩
    case round =>
      obtain ⟨k, hk, rfl, rfl, hbel⟩ := hrel
      by_cases hlt : k < L.length
      · obtain ⟨c0, c1, c2⟩ := HC.out k hlt
        obtain ⟨_, hy0, hy1⟩ := sat_is HU.out k
        have d0 := (hbel.out.cell (p := ⟨b, o + k * 3, none⟩) hb1).trans c0
        have d1 := (hbel.out.cell (p := ⟨b, o + k * 3 + 1, none⟩) hb1).trans c1
        have d2 := (hbel.out.cell (p := ⟨b, o + k * 3 + 2, none⟩) hb1).trans c2
        have hbw : b < wr.heap.size := Nat.lt_of_lt_of_le hb1 hbel.out.size
        have hst := sumS_take hlt
        have hle := sumS_take_le HU.out k hk
        have hyw : IntKind.u64.wrap (sat L k).n = (sat L k).n := by rw [IntKind.wrap_u64]; omega
        have hw : IntKind.u64.wrap (sumS (L.take k) + (sat L k).n) = sumS (L.take (k + 1)) := by rw [IntKind.wrap_u64]; omega
        have HB := hid_mk (Below.alloc hbel.out hbel.out.size (.cells #[.int .u64 (sat L k).a, .int .u32 (sat L k).n, .bool (sat L k).t] 63))
        clear c0 c1 c2 hst hle hbel
        generalize (sat L k).a = x at *
        generalize (sat L k).n = y at *
        generalize (sat L k).t = z at *
        go_wp2_with fail
        go_roundw
        case rel => exact ⟨k + 1, by omega, by go_num, rfl, HB⟩
        case measure => simp [intOf]; omega
      · obtain rfl : k = L.length := by omega
        rw [List.take_length]
        go_wp2_with fail
        go_ret
        exact ⟨rfl, hbel.out⟩

/-- does a segment have bytes, none beyond 2^64? -/
def spB (a n : Int) : Bool := decide (1 ≤ n ∧ a + n ≤ 18446744073709551616)
theorem spB_yes {a n : Int} (h0 : 0 < n) (h : a + n ≤ 18446744073709551616) : spB a n = true := by
  unfold spB
  exact decide_eq_true ⟨by omega, h⟩
theorem spB_big {a n : Int} (h : 18446744073709551616 < a + n) : spB a n = false := by
  unfold spB
  exact decide_eq_false (by omega)
theorem spB_none {a n : Int} (h : ¬ 0 < n) : spB a n = false := by
  unfold spB
  exact decide_eq_false (by omega)
theorem pspace (a n : Int) (t : Bool) (w : World) (ha : U64 a) (hn0 : 0 ≤ n) (hn1 : n < 4294967296) :
    Calls Try.prog 75 #[.agg #[.int .u64 a, .int .u32 n, .bool t]] w fun e w' => e = .returned (.bool (spB a n)) ∧ Below w.heap.size w w' := by
  obtain ⟨a0, a1⟩ := ha
  by_cases h0 : 0 < n
  · have hw : IntKind.u32.wrap (n - 1) = n - 1 := by rw [IntKind.wrap_u32]; omega
    have hw2 : IntKind.u64.wrap (n - 1) = n - 1 := by rw [IntKind.wrap_u64]; omega
    by_cases hl : 18446744073709551616 < a + n
    · have hd : decide (a ≤ IntKind.u64.wrap (a + (n - 1))) = false := by
        simp only [decide_eq_false_iff_not]
        rw [IntKind.wrap_u64]
        omega
      rw [spB_big hl]
      clear hl
      go_enter Try.func75, Try.ntmps75
      go_wp2
      go_ret
      exact ⟨rfl, (Below.refl _ _).alloc (Nat.le_refl _) _⟩
    · have hd : decide (a ≤ IntKind.u64.wrap (a + (n - 1))) = true := by
        simp only [decide_eq_true_eq]
        rw [IntKind.wrap_u64]
        omega
      rw [spB_yes h0 (by omega)]
      clear hl
      go_enter Try.func75, Try.ntmps75
      go_wp2
      go_ret
      exact ⟨rfl, (Below.refl _ _).alloc (Nat.le_refl _) _⟩
  · obtain rfl : n = 0 := by omega
    rw [spB_none h0]
    clear h0 hn0 hn1
    go_enter Try.func75, Try.ntmps75
    go_wp2
    go_ret
    exact ⟨rfl, (Below.refl _ _).alloc (Nat.le_refl _) _⟩

theorem sgC_big {L : List Sg} (hu : isSgs L) (h : 4294967296 ≤ sumS L) : sgC false 0 L = 2 := by
  rcases sgC_is L false 0 with h0 | h0
  · have := ((sgC_ok hu).1 h0).2
    omega
  · exact h0

set_option maxHeartbeats 4000000 in
theorem pcheck (v : Value) (L : List Sg) (w : World) (hv : SegsAt w v L) (hu : isSgs L) :
    Calls Try.prog 56 #[v] w fun e w' => e = .returned (.int .i64 (segE L)) ∧ Below w.heap.size w w' := by
  by_cases h64 : 64 < L.length
  · obtain ⟨va, vc, rfl⟩ := hv.len
    have h64i : (64 : Int) < (L.length : Int) := by omega
    have e1 : segE L = 3 := by
      unfold segE
      rw [if_pos h64]
    rw [e1]
    clear e1
    go_enter Try.func56, Try.ntmps56
    go_wp2
    go_ret
    exact ⟨rfl, Below.refl _ _⟩
  · have e64 : segE L = sgC false 0 L := by
      unfold segE
      rw [if_neg h64]
    rw [e64]
    have HS := hid_mk (psum v L w hv hu (by omega))
    have h64i : (L.length : Int) ≤ 64 := by omega
    by_cases hS : 4294967296 ≤ sumS L
    · obtain ⟨va, vc, rfl⟩ := hv.len
      rw [sgC_big hu hS]
      have hd : decide (4294967296 ≤ sumS L) = true := by simp; exact hS
      clear e64 hS hu hv
      go_enter Try.func56, Try.ntmps56
      go_wp2_with fail
      refine HS.out.mono ?_
      rintro e w1 ⟨rfl, hb⟩
      have HB := hid_mk hb
      clear hb
      go_wp2_with fail
      go_ret
      exact ⟨rfl, HB.out⟩
    · have hd : decide (4294967296 ≤ sumS L) = false := by simp; omega
      rcases hv with ⟨⟨va, vc, rfl, _⟩, rfl⟩ | ⟨b, o, c, rfl, hb1, hb2, hb3⟩
      · clear e64 hS hu
        go_enter Try.func56, Try.ntmps56
        go_wp2_with fail
        refine HS.out.mono ?_
        rintro e w1 ⟨rfl, hb⟩
        have HB := hid_mk hb
        clear hb
        go_wp2_with fail
        go_loop [3, 14] (fun n i => n = .bool false ∧ i = .int .i64 0) (fun _ i => 0)
        case atStart => exact ⟨rfl, rfl⟩
        case round =>
          obtain ⟨rfl, rfl⟩ := hrel
          go_wp2
          go_ret
          exact ⟨rfl, HB.out⟩
      · have HC := hid_mk hb3
        have HU := hid_mk hu
        have HT := hid_mk hS
        have hdone : SgInv L L.length (sumS L) → sgC false 0 L = 0 := fun h => by
          rw [h.done, if_neg hS]
        have HD := hid_mk hdone
        clear hb3 hu e64 hS hdone
        go_enter Try.func56, Try.ntmps56
        go_wp2_with fail
        refine HS.out.mono ?_
        rintro e w1 ⟨rfl, hb⟩
        have HB := hid_mk hb
        clear hb
        go_wp2_with fail
        clear hd
        go_loopw [3, 5, 14] (fun n p i wr => ∃ (k : Nat) (q : Bool), k ≤ L.length ∧ i = .int .i64 k ∧ n = .bool q ∧ Hid (q = prevT L k ∧ SgInv L k (sumS (L.take k))) ∧ Hid (Below w.heap.size w wr)) (fun _ _ i _ => L.length - (intOf i).toNat)
        case atStart => exact ⟨0, false, Nat.zero_le _, rfl, rfl, hid_mk ⟨rfl, SgInv.start L⟩, HB⟩
        case round =>
          obtain ⟨k, q, hk, rfl, rfl, hinv, hbel⟩ := hrel
          by_cases hlt : k < L.length
          · obtain ⟨c0, c1, c2⟩ := HC.out k hlt
            obtain ⟨hx, hy0, hy1⟩ := sat_is HU.out k
            have d0 := (hbel.out.cell (p := ⟨b, o + k * 3, none⟩) hb1).trans c0
            have d1 := (hbel.out.cell (p := ⟨b, o + k * 3 + 1, none⟩) hb1).trans c1
            have d2 := (hbel.out.cell (p := ⟨b, o + k * 3 + 2, none⟩) hb1).trans c2
            have hbw : b < wr.heap.size := Nat.lt_of_lt_of_le hb1 hbel.out.size
            have HK := hid_mk (fun h => hinv.out.2.stop hlt h)
            have HN := hid_mk (fun h => hinv.out.2.next hlt HU.out h)
            have HQ := hid_mk hinv.out.1
            have hst := sumS_take hlt
            have HST := hid_mk hst
            have hpt : prevT L (k + 1) = (sat L k).t := by simp [prevT]
            have HPT := hid_mk hpt
            have HB1 := hid_mk (Below.alloc hbel.out hbel.out.size (.cells #[.int .u64 (sat L k).a, .int .u32 (sat L k).n, .bool (sat L k).t] 63))
            clear c0 c1 c2 hst hpt hbel hinv
            have HSP := hid_mk (fun u => pspace (sat L k).a (sat L k).n (sat L k).t u hx hy0 hy1)
            generalize (sat L k).a = x at *
            generalize (sat L k).n = y at *
            generalize (sat L k).t = z at *
            by_cases hsp : spB x y = true
            · have hsp' := hsp
              unfold spB at hsp'
              obtain ⟨sp1, sp2⟩ := of_decide_eq_true hsp'
              have HNN : Hid (¬ (prevT L k = true ∧ z = false) → SgInv L (k + 1) (sumS (L.take (k + 1)))) := fun h => by
                rw [HST.out]
                exact HN.out (by
                  rintro (h1 | h1 | h1)
                  · omega
                  · omega
                  · exact h h1)
              rw [hsp] at HSP
              clear sp1 sp2 hsp hsp' hx hy0 hy1
              cases q
              · have HX := hid_mk (HNN.out (by rw [← HQ.out]; simp))
                go_wp2_with fail
                refine (HSP.out _).mono ?_
                rintro e w2 ⟨rfl, hb2⟩
                have HB2 := hid_mk (below_then HB1.out hb2)
                obtain ⟨bc, bf⟩ := bcell hb2
                have hz2 := hb2.size
                rw [sizeA] at hz2
                simp only [sizeA] at bc bf
                clear hb2
                go_wp2_with fail
                go_roundw
                case rel => exact ⟨k + 1, z, by omega, by go_num, rfl, hid_mk ⟨HPT.out.symm, HX.out⟩, HB2⟩
                case measure => simp [intOf]; omega
              · cases z
                · have HF := hid_mk (HK.out (Or.inr (Or.inr ⟨HQ.out.symm, rfl⟩)))
                  go_wp2_with fail
                  refine (HSP.out _).mono ?_
                  rintro e w2 ⟨rfl, hb2⟩
                  have HB2 := hid_mk (below_then HB1.out hb2)
                  obtain ⟨bc, bf⟩ := bcell hb2
                  have hz2 := hb2.size
                  rw [sizeA] at hz2
                  simp only [sizeA] at bc bf
                  clear hb2
                  go_wp2_with fail
                  go_ret
                  exact ⟨ret_eq (by rw [HF.out]; rfl), HB2.out⟩
                · have HX := hid_mk (HNN.out (by simp))
                  go_wp2_with fail
                  refine (HSP.out _).mono ?_
                  rintro e w2 ⟨rfl, hb2⟩
                  have HB2 := hid_mk (below_then HB1.out hb2)
                  obtain ⟨bc, bf⟩ := bcell hb2
                  have hz2 := hb2.size
                  rw [sizeA] at hz2
                  simp only [sizeA] at bc bf
                  clear hb2
                  go_wp2_with fail
                  go_roundw
                  case rel => exact ⟨k + 1, true, by omega, by go_num, rfl, hid_mk ⟨HPT.out.symm, HX.out⟩, HB2⟩
                  case measure => simp [intOf]; omega
            · have hsp2 : spB x y = false := by simpa using hsp
              have HF : Hid (sgC false 0 L = 2) := HK.out (by
                unfold spB at hsp2
                have := of_decide_eq_false hsp2
                omega)
              rw [hsp2] at HSP
              clear hsp hsp2 hx hy0 hy1
              go_wp2_with fail
              refine (HSP.out _).mono ?_
              rintro e w2 ⟨rfl, hb2⟩
              have HB2 := hid_mk (below_then HB1.out hb2)
              clear hb2
              go_wp2_with fail
              go_ret
              exact ⟨ret_eq (by rw [HF.out]; rfl), HB2.out⟩
          · obtain rfl : k = L.length := by omega
            have hi := hinv.out.2
            rw [List.take_length] at hi
            have HF := hid_mk (HD.out hi)
            clear hi hinv
            go_wp2_with fail
            go_ret
            exact ⟨ret_eq (by rw [HF.out]; rfl), hbel.out⟩
end Go.Proofs.Ytgdokgpplldddaa
