/- Pm1 Pm2: joined texts. Conditions: as each theorem names them. -/
import Derived.Test.YteolnghnlfeakaaKp27
import Derived.Maps.OwnSet
import Derived.Maps.Views
/- A map used as a set of addresses; rows of 64-bit numbers; what SegScatters holds between two addresses. Conditions: as each theorem names them. -/
namespace Go.Proofs.Yteolnghnlfeakaa
open Go.ChangeShapes Go.WideShapes Go.ChangeAt Go.RowKit Go.Maps
set_option linter.unusedVariables false
set_option maxRecDepth 100000

theorem klawU : Keyed Try.prog 26 := int_keyed Try.underlying26
theorem keyU (x : Int) (h : U64 x) : keyOf Try.prog 26 (.int .u64 x) = some (.int .u64 x) := keyOf_int_mk Try.underlying26 (WalkArith.wf_u64 (by omega))
theorem zeroBool (w : World) : (zeroValue 4).run Try.prog w = .ok (.bool false) w := by kernel_rfl
/-- block mb is a map of at most n entries, and address x is in it as f says -/
def MapSet (w : World) (mb n : Nat) (f : Int → Bool) : Prop := ∃ D : DataW Unit, w.ownsMap Try.prog 26 (plainElem Try.prog 4) mb n D ∧ ∀ x, U64 x → D.atKey (.int .u64 x) (.lit (.bool false)) = .lit (.bool (f x))
theorem MapSet.made (w : World) : MapSet (w.alloc (.map #[] 0)) w.heap.size 0 (fun _ => false) := ⟨_, World.ownsMap_made _ _ _ _, fun x _ => rfl⟩
theorem MapSet.lt {w : World} {mb n : Nat} {f : Int → Bool} (h : MapSet w mb n f) : mb < w.heap.size := by
  obtain ⟨D, h1, _⟩ := h
  exact h1.lt
theorem MapSet.keep {w w' : World} {mb n : Nat} {f : Int → Bool} (h : MapSet w mb n f) (hb : w'.heap[mb]? = w.heap[mb]?) : MapSet w' mb n f := by
  obtain ⟨D, ⟨es, clock, h1, F, hs, hD⟩, hf⟩ := h
  exact ⟨D, ⟨es, clock, hb.trans h1, F, hs, hD⟩, hf⟩
theorem elem_bool {v : Value} {b : Bool} {ps : List MemPlace} (hv : plainElem (H := Unit) Try.prog 4 v = some (.lit (.bool b), ps)) : v = .bool b := by
  unfold plainElem at hv
  rw [Try.underlying4] at hv
  split at hv
  · simp at hv
    rw [hv.1]
  · split at hv <;> simp at hv
  · split at hv <;> simp at hv
  · simp at hv
theorem MapSet.lookup {w : World} {mb n : Nat} {f : Int → Bool} (h : MapSet w mb n f) (x : Int) (hx : U64 x) : (Instr.lookup 61 (.map (some mb)) (.int .u64 x) false).run Try.prog w = .ok (.bool (f x)) w := by
  obtain ⟨D, h1, h2⟩ := h
  obtain ⟨v, ps, hrun, hv⟩ := World.ownsMap.lookup h1 klawU Try.underlying61 (zeroBool w) (plainElem_bool Try.underlying4 false) (keyU x hx)
  rw [h2 x hx] at hv
  rw [hrun, elem_bool hv]
theorem MapSet.update {w : World} {mb n : Nat} {f : Int → Bool} (h : MapSet w mb n f) (hn : n < 1000000) (x : Int) (hx : U64 x) :
    ∃ w', (Instr.mapUpdate 61 (.map (some mb)) (.int .u64 x) (.bool true)).run Try.prog w = .ok () w' ∧ MapSet w' mb (n + 1) (fun z => if z = x then true else f z) ∧ Chg (· = mb) w w' := by
  obtain ⟨D, h1, h2⟩ := h
  obtain ⟨w', hrun, h3, h4⟩ := h1.update (key := .int .u64 x) (val := .bool true) klawU Try.underlying61 (by simp [maxLen]; omega) (keyU x hx) (plainElem_bool Try.underlying4 true)
  refine ⟨w', hrun, ⟨_, h3, fun z hz => ?_⟩, ⟨h4.os, h4.tape, h4.output, h4.size, fun k hk hne => h4.block k hk (fun e => hne (by injection e))⟩⟩
  show _ = DataW.lit (.bool (if z = x then true else f z))
  by_cases e : z = x
  · subst e
    rw [if_pos rfl]
    exact atKey_put_same h1.isMap (by simp [WideAt.IsKeyLit]) _ _
  · rw [if_neg e, atKey_put_other (fun h => e (by injection h))]
    exact h2 z hz

theorem rowU64 : (Try.prog.info? 26).map (fun i => (i.zero, i.size, i.bytes)) = some (some (.int .u64 0), 1, 8) := by kernel_rfl
/-- a row of 64-bit numbers of the call's own -/
abbrev OwnU (B : Nat) (w : World) (v : Value) (l : List Nat) : Prop := w.ownsRow B 26 1 v l.length (l.map fun p : Nat => Value.int .u64 (p : Int))
theorem OwnU.at {B : Nat} {w : World} {v : Value} {l : List Nat} (h : OwnU B w v l) : (l = [] ∧ v = .slice none 0 0) ∨ ∃ g c, v = .slice (some ⟨g, 0, none⟩) l.length c ∧ B ≤ g ∧ g < w.heap.size ∧ ∀ j, j < l.length → w.cell? ⟨g, j, none⟩ = some (.int .u64 (l.getD j 0 : Nat)) := by
  obtain ⟨h1, h2⟩ := h
  rcases h2 with ⟨rfl, h0⟩ | ⟨g, cap, cur, rfl, hg, hh, hcap, hm, hs, ht⟩
  · exact Or.inl ⟨List.length_eq_zero_iff.1 h0, rfl⟩
  · right
    refine ⟨g, cap, rfl, hg, lt_blk hh, fun j hj => ?_⟩
    have e : cur = ((l.map fun p : Nat => Value.int .u64 (p : Int)) ++ cur.toList.drop (l.length * 1)).toArray := by
      rw [← ht, List.take_append_drop]
    rw [e] at hh
    rw [cellK hh, List.getElem?_append_left (by simpa using hj)]
    simp [hj, List.getD]
theorem OwnU.len {B : Nat} {w : World} {v : Value} {l : List Nat} (h : OwnU B w v l) : ∃ a c, v = .slice a l.length c := by
  rcases h.at with ⟨rfl, rfl⟩ | ⟨g, c, rfl, _⟩
  · exact ⟨_, _, rfl⟩
  · exact ⟨_, _, rfl⟩
theorem app_u64 {B : Nat} {w : World} {v : Value} {l : List Nat} (x : Nat) (h : OwnU B w v l) (hB : B ≤ w.heap.size) (hl : l.length ≤ 1000000) :
    ∃ v' w', (∀ ty, (Builtin.append_ #[62, 62] ty #[v, .slice (some ⟨w.heap.size, 0, none⟩) 1 1]).run Try.prog (w.alloc (.cells #[.int .u64 x] 26)) = .ok v' w') ∧ OwnU B w' v' (l ++ [x]) ∧ Below B w w' := by
  obtain ⟨i0, hi, hz0, hz1, hz2⟩ := info_parts rowU64
  have hown := World.ownsRow.alloc h (.cells #[.int .u64 x] 26)
  have hcells : ∀ j u, ([Value.int .u64 (x : Nat)])[j]? = some u → (w.alloc (.cells #[.int .u64 x] 26)).cell? ((⟨w.heap.size, 0, none⟩ : Addr).add j) = some u := fun j u hu => by
    rw [show (⟨w.heap.size, 0, none⟩ : Addr).add j = ⟨w.heap.size, j, none⟩ from by unfold Addr.add; split <;> simp_all]
    exact (cellK (cs := [Value.int .u64 (x : Nat)]) (t := 26) (fr := (0, 0)) (heap_alloc_new w (.cells #[.int .u64 x] 26)) j).trans hu
  obtain ⟨v', w', h1, h2, h3, h4⟩ := run_append_own (P := Try.prog) (w.alloc (.cells #[.int .u64 x] 26)) B 62 62 26 i0 _ 1 8 Try.underlying62 hi hz0 hz1 hz2 rfl (by decide) v l.length _ hown ⟨w.heap.size, 0, none⟩ 1 1 [Value.int .u64 (x : Nat)] rfl hcells (fun u hu => by
    have : u = Value.int .u64 (x : Nat) := by simpa using hu
    rw [this]
    rfl) (by simp [maxLen]; omega) (by omega) (by rw [sizeA]; omega)
  have hb : Below B w w' := ((Below.refl B w).alloc hB _).trans (grown_below h3 (by rw [sizeA]; omega) (fun q hq => (World.ownsRow.lt h q hq).1))
  refine ⟨v', w', fun ty => h1, ?_, hb⟩
  have e : (l ++ [x]).length = l.length + 1 := by simp
  show w'.ownsRow B 26 1 v' (l ++ [x]).length ((l ++ [x]).map fun p : Nat => Value.int .u64 (p : Int))
  rw [e, List.map_append]
  exact h2
end Go.Proofs.Yteolnghnlfeakaa

/- What SegScatters holds while it goes through the addresses; its image; the written segments turned. Conditions: as each theorem names them. -/
namespace Go.Proofs.Yteolnghnlfeakaa
open Go.ChangeShapes Go.WideShapes Go.ChangeAt Go.RowKit
set_option linter.unusedVariables false
set_option maxRecDepth 100000

/-- all addresses, in order -/
def tkS : List Sg → List Nat
  | [] => []
  | s :: l => List.range' s.a.toNat s.n.toNat ++ tkS l
theorem tkS_append : ∀ a b : List Sg, tkS (a ++ b) = tkS a ++ tkS b
  | [], b => rfl
  | s :: a, b => by simp [tkS, tkS_append a b]
theorem plcS_append : ∀ a b : List Sg, plcS (a ++ b) = plcS a ++ plcS b
  | [], b => rfl
  | s :: a, b => by simp [plcS, plcS_append a b]
theorem plc_sub : ∀ L : List Sg, List.Sublist (plcS L) (tkS L)
  | [] => List.Sublist.refl _
  | s :: l => by
    simp only [plcS, tkS]
    refine List.Sublist.append ?_ (plc_sub l)
    split
    · exact List.Sublist.refl _
    · exact List.nil_sublist _
/-- the addresses gone through ahead of byte j of segment k -/
def tkA (L : List Sg) (k j : Nat) : List Nat := tkS (L.take k) ++ List.range' (sat L k).a.toNat j
/-- .. those that are written -/
def plA (L : List Sg) (k j : Nat) : List Nat := plcS (L.take k) ++ if (sat L k).t = true then List.range' (sat L k).a.toNat j else []
theorem tkA_zero (L : List Sg) (k : Nat) : tkA L k 0 = tkS (L.take k) := by simp [tkA]
theorem plA_zero (L : List Sg) (k : Nat) : plA L k 0 = plcS (L.take k) := by simp [plA]
theorem tkA_step (L : List Sg) (k j : Nat) : tkA L k (j + 1) = tkA L k j ++ [(sat L k).a.toNat + j] := by
  unfold tkA
  rw [List.range'_concat, List.append_assoc]
  simp
theorem plA_yes {L : List Sg} {k j : Nat} (h : (sat L k).t = true) : plA L k (j + 1) = plA L k j ++ [(sat L k).a.toNat + j] := by
  unfold plA
  rw [if_pos h, if_pos h, List.range'_concat, List.append_assoc]
  simp
theorem plA_no {L : List Sg} {k j : Nat} (h : (sat L k).t = false) : plA L k (j + 1) = plA L k j := by
  unfold plA
  rw [if_neg (by rw [h]; decide), if_neg (by rw [h]; decide)]
theorem tkA_all {L : List Sg} {k : Nat} (hk : k < L.length) : tkA L k (sat L k).n.toNat = tkA L (k + 1) 0 := by
  rw [tkA_zero, take_sat hk, tkS_append]
  simp [tkA, tkS]
theorem plA_all {L : List Sg} {k : Nat} (hk : k < L.length) : plA L k (sat L k).n.toNat = plA L (k + 1) 0 := by
  rw [plA_zero, take_sat hk, plcS_append]
  simp [plA, plcS]
theorem tkS_le : ∀ {L : List Sg}, isSgs L → ((tkS L).length : Int) = sumS L
  | [], _ => rfl
  | s :: l, h => by
    obtain ⟨h1, h2⟩ := isSgs_cons h
    have := tkS_le h2
    have := h1.2.1
    simp only [tkS, sumS, List.length_append, List.length_range']
    omega
theorem tkA_len {L : List Sg} (hu : isSgs L) {k j : Nat} (hk : k < L.length) (hj : (j : Int) ≤ (sat L k).n) : ((tkA L k j).length : Int) ≤ sumS L := by
  have h1 := tkS_le (isSgs_take hu k)
  have h2 := sumS_take hk
  have e := sumS_append (L.take (k + 1)) (L.drop (k + 1))
  rw [List.take_append_drop] at e
  have h3 := sumS_nonneg (isSgs_drop hu (k + 1))
  unfold tkA
  rw [List.length_append, List.length_range']
  omega
theorem plA_len (L : List Sg) (k j : Nat) : (plA L k j).length ≤ (tkA L k j).length := by
  unfold plA tkA
  have h := (plc_sub (L.take k)).length_le
  rw [List.length_append, List.length_append]
  split
  · omega
  · simp
    omega
theorem chg_hi {B : Nat} {w w' : World} (h : Below B w w') : Chg (fun k => B ≤ k) w w' := ⟨h.os, h.tape, h.output, h.size, fun k _ hk => h.block k (by omega)⟩
/-- bytes of a block -/
abbrev ImgAt (w : World) (g : Nat) (M : List Int) : Prop := w.heap[g]? = some (.cells (bv M) 5 (0, 0))
structure ScI (w0 W : World) (p ib qb mb g B : Nat) (M I : List Int) (T P : List Nat) (pv : Value) : Prop where
  bel : Below w0.heap.size w0 W
  mem : IsMem W p ib qb R1 M
  map : ∃ n f, MapSet W mb n f ∧ n ≤ T.length ∧ ∀ x : Nat, (x : Int) < 18446744073709551616 → (f (x : Int) = true ↔ x ∈ T)
  nod : T.Nodup
  row : OwnU B W pv P
  img : ImgAt W g I
  lo : p < B ∧ ib < B ∧ qb < B ∧ mb < B ∧ g < B ∧ w0.heap.size ≤ mb ∧ w0.heap.size ≤ B ∧ B ≤ W.heap.size
  ne : p ≠ mb ∧ ib ≠ mb ∧ qb ≠ mb ∧ g ≠ mb
/-- an address that is not there yet is put into the map -/
theorem ScI.add {w0 W W' : World} {p ib qb mb g B n x : Nat} {M I : List Int} {T P : List Nat} {pv : Value} {f : Int → Bool} (h : ScI w0 W p ib qb mb g B M I T P pv) (hx : (x : Int) < 18446744073709551616) (hf : ∀ y : Nat, (y : Int) < 18446744073709551616 → (f (y : Int) = true ↔ y ∈ T)) (hn : n ≤ T.length) (hfx : f (x : Int) = false)
    (hm : MapSet W' mb (n + 1) (fun z => if z = (x : Int) then true else f z)) (hc : Chg (· = mb) W W') : ScI w0 W' p ib qb mb g B M I (T ++ [x]) P pv := by
  obtain ⟨l1, l2, l3, l4, l5, l6, l7, l8⟩ := h.lo
  obtain ⟨n1, n2, n3, n4⟩ := h.ne
  refine ⟨hc.since h.bel (fun k hk => by omega), h.mem.keep hc n1 n2 n3, ⟨n + 1, _, hm, by simp; omega, fun y hy => ?_⟩, ?_, ?_, hc.keep h.img n4, ⟨l1, l2, l3, l4, l5, l6, l7, Nat.le_trans l8 hc.size⟩, h.ne⟩
  · by_cases e : (y : Int) = (x : Int)
    · have e2 : y = x := by omega
      subst e2
      simp
    · have e2 : y ≠ x := fun h => e (by rw [h])
      simp only [if_neg e, List.mem_append, List.mem_singleton, e2, or_false]
      exact hf y hy
  · rw [List.nodup_append]
    refine ⟨h.nod, by simp, fun a ha b hb => ?_⟩
    have hb2 : b = x := by simpa using hb
    subst hb2
    intro e
    subst e
    have := (hf a hx).2 ha
    rw [hfx] at this
    cases this
  · refine ⟨h.row.1, ?_⟩
    rcases h.row.2 with hn | ⟨gg, cap, cur, rfl, hg, hh, rest⟩
    · exact .inl hn
    · exact .inr ⟨gg, cap, cur, rfl, hg, hc.keep hh (fun e => by omega), rest⟩
/-- a written address is put behind the others -/
theorem ScI.push {w0 W W' : World} {p ib qb mb g B : Nat} {M I : List Int} {T P P' : List Nat} {pv pv' : Value} (h : ScI w0 W p ib qb mb g B M I T P pv) (hb : Below B W W') (ho : OwnU B W' pv' P') : ScI w0 W' p ib qb mb g B M I T P' pv' := by
  obtain ⟨l1, l2, l3, l4, l5, l6, l7, l8⟩ := h.lo
  have hc := chg_hi hb
  obtain ⟨n, f, h1, h2, h3⟩ := h.map
  exact ⟨h.bel.trans (hb.mono l7), h.mem.keep hc (by omega) (by omega) (by omega), ⟨n, f, h1.keep (hb.block mb l4), h2, h3⟩, h.nod, ho, (hb.block g l5).trans h.img, ⟨l1, l2, l3, l4, l5, l6, l7, Nat.le_trans l8 hb.size⟩, h.ne⟩
theorem ScI.eq {w0 W : World} {p ib qb mb g B : Nat} {M I : List Int} {T T' P P' : List Nat} {pv : Value} (h : ScI w0 W p ib qb mb g B M I T P pv) (h1 : T = T') (h2 : P = P') : ScI w0 W p ib qb mb g B M I T' P' pv := by
  subst h1 h2
  exact h
/-- a byte of the image is set -/
theorem img_set {w : World} {g i : Nat} {M : List Int} {x : Int} (h : ImgAt w g M) : ImgAt (w.setCell ⟨g, i, none⟩ (.int .u8 x)) g (M.set i x) := by
  show (w.setCell ⟨g, i, none⟩ (.int .u8 x)).heap[g]? = _
  rw [heap_setCell_same w g i _ _ _ h]
  congr 2
  unfold bv
  rw [List.map_set]
  simp
theorem img_cell {w : World} {g i : Nat} {M : List Int} (h : ImgAt w g M) (hi : i < M.length) : w.cell? ⟨g, i, none⟩ = some (.int .u8 (M.getD i 0)) ∧ w.frozen? ⟨g, i, none⟩ = false := ⟨cellB h i hi, frozenK (cs := bv M) h i⟩
def fillK (x : Int) (k n : Nat) : List Int := List.replicate k x ++ List.replicate (n - k) 0
theorem fillK_zero (x : Int) (n : Nat) : fillK x 0 n = List.replicate n 0 := by simp [fillK]
theorem fillK_all (x : Int) (n : Nat) : fillK x n n = List.replicate n x := by simp [fillK]
theorem fillK_len {x : Int} {k n : Nat} (h : k ≤ n) : (fillK x k n).length = n := by
  simp [fillK]
  omega
theorem fillK_set {x : Int} {k n : Nat} (h : k < n) : (fillK x k n).set k x = fillK x (k + 1) n := by
  unfold fillK
  rw [List.set_append_right _ _ (by simp), List.length_replicate, Nat.sub_self, show n - k = n - (k + 1) + 1 from by omega, List.replicate_succ, List.replicate_succ' ]
  simp

/-- one segment turned into one that is read -/
def rdg (s : Sg) : Sg := ⟨s.a, s.n, false⟩
theorem segCells_set : ∀ (L : List Sg) (k : Nat), k < L.length → (segCells L).set (k * 3 + 2) (.bool false) = segCells (L.set k (rdg (sat L k)))
  | [], k, h => by simp at h
  | s :: l, 0, h => rfl
  | s :: l, k + 1, h => by
    have ih := segCells_set l k (by simpa using h)
    rw [show (k + 1) * 3 + 2 = (k * 3 + 2) + 1 + 1 + 1 from by omega]
    simp only [segCells, List.set_cons_succ, ih]
    rfl
theorem own_turn {B : Nat} {w : World} {g cap k : Nat} {L : List Sg} (h : OwnS B w (.slice (some ⟨g, 0, none⟩) L.length cap) L) (hk : k < L.length) : OwnS B (w.setCell ⟨g, k * 3 + 2, none⟩ (.bool false)) (.slice (some ⟨g, 0, none⟩) L.length cap) (L.set k (rdg (sat L k))) := by
  obtain ⟨h1, h2⟩ := h
  rcases h2 with ⟨he, _⟩ | ⟨g', cap', cur, he, hg, hh, hcap, hm, hs, ht⟩
  · cases he
  · cases he
    refine ⟨by rw [segCells_length, List.length_set], Or.inr ⟨g, cap, _, by rw [List.length_set], hg, heap_setCell_same w g (k * 3 + 2) _ _ _ hh, by rw [List.length_set]; exact hcap, hm, by simpa using hs, ?_⟩⟩
    rw [← segCells_set L k hk, List.length_set, ← ht, Array.toList_setIfInBounds, List.take_set]
theorem own_cell {B : Nat} {w : World} {g cap k : Nat} {L : List Sg} (h : OwnS B w (.slice (some ⟨g, 0, none⟩) L.length cap) L) (hk : k < L.length) : w.cell? ⟨g, k * 3 + 2, none⟩ = some (.bool (sat L k).t) ∧ w.frozen? ⟨g, k * 3 + 2, none⟩ = false ∧ g < w.heap.size := by
  rcases h.blk with ⟨hL, _⟩ | ⟨g', c', he, h1, h2, h3, h4⟩
  · rw [hL] at hk
    exact absurd hk (by simp)
  · cases he
    have h5 := (h4 k hk).2.2
    rw [Nat.zero_add] at h5
    refine ⟨h5, ?_, h2⟩
    obtain ⟨_, hx⟩ := h
    rcases hx with ⟨he, _⟩ | ⟨g', cap', cur, he, hg, hh, _⟩
    · cases he
    · cases he
      exact frozenK hh _
def turnK (P : List Sg) (k : Nat) : List Sg := (P.take k).map rdg ++ P.drop k
theorem turnK_zero (P : List Sg) : turnK P 0 = P := by simp [turnK]
theorem turnK_all (P : List Sg) : turnK P P.length = P.map rdg := by simp [turnK]
theorem turnK_len (P : List Sg) (k : Nat) (h : k ≤ P.length) : (turnK P k).length = P.length := by
  simp [turnK]
  omega
theorem turnK_sat {P : List Sg} {k : Nat} (h : k < P.length) : sat (turnK P k) k = sat P k := by
  unfold turnK sat
  rw [List.getD_eq_getElem?_getD, List.getElem?_append_right (by simp; omega), List.getElem?_drop, List.getD_eq_getElem?_getD]
  simp
  congr 2
  omega
theorem turnK_set {P : List Sg} {k : Nat} (h : k < P.length) : (turnK P k).set k (rdg (sat (turnK P k) k)) = turnK P (k + 1) := by
  rw [turnK_sat h]
  unfold turnK
  rw [List.set_append_right _ _ (by simp; omega), drop_sat h, take_sat h]
  simp
  rw [show k - min k P.length = 0 from by omega]
  rfl
end Go.Proofs.Yteolnghnlfeakaa
