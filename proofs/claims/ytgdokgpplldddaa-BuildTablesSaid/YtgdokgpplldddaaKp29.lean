/- Bh4 Fe1: joined texts. Conditions: as each theorem names them. -/
import Derived.Test.YtgdokgpplldddaaKp26
import Derived.Test.YtgdokgpplldddaaKp28
import Derived.Test.YtgdokgpplldddaaKp01
import Derived.Test.YtgdokgpplldddaaKp25
import Derived.Test.YtgdokgpplldddaaKp12
import Derived.Test.YtgdokgpplldddaaKp22
/- build's parts and puts. Conditions: as each theorem names them. -/
namespace Go.Proofs.Ytgdokgpplldddaa
open Go.ChangeShapes Go.WideShapes Go.ChangeAt Go.RowKit
set_option linter.unusedVariables false
set_option maxRecDepth 100000

abbrev paV (a n : Int) (f : Nat) : Value := .agg #[.int .u64 a, .int .u32 n, .int .u16 (f : Int)]
set_option maxHeartbeats 1000000 in
theorem bsegpart (s : Sg) (nx : Bool) (w : World) : Calls Try.prog 60 #[.agg #[.int .u64 s.a, .int .u32 s.n, .bool s.t], .bool nx] w fun e w' => e = .returned (paV s.a s.n (flgN s.t nx)) ∧ Below w.heap.size w w' := by
  obtain ⟨a, n, t⟩ := s
  have HB : ∀ x y z, Below w.heap.size w (((w.alloc x).alloc y).alloc z) := fun x y z => ((below_box w x).alloc (by simp) y).alloc (by simp <;> omega) z
  have HBH := hid_mk HB
  clear HB
  cases t <;> cases nx
  all_goals
    go_enter Try.func60, Try.ntmps60
    go_wp2
    exact bodyPost_ret (v := paV a n _) (by simp [results, Try.results60, go_sem]; decide +kernel) rfl ⟨rfl, by repeat (first | exact HBH.out _ _ _ | (refine Below.setCell ?_ (by simp <;> omega) _))⟩
theorem btabpart (a n : Int) (w : World) (hn : 1 ≤ n ∧ n ≤ 64) : Calls Try.prog 41 #[.int .u64 a, .int .i64 n] w fun e w' => e = .returned (paV a (16 * n) 4) ∧ Below w.heap.size w w' := by
  obtain ⟨h1, h2⟩ := hn
  have hw : IntKind.u32.wrap (16 * n) = 16 * n := by rw [IntKind.wrap_u32]; omega
  have hw2 : IntKind.i64.wrap (16 * n) = 16 * n := IntWalk.i64_in _ (by omega)
  go_enter Try.func41, Try.ntmps41
  go_wp2
  exact bodyPost_ret (v := paV a (16 * n) 4) (by simp [results, Try.results41, go_sem]) rfl ⟨rfl, by repeat (first | exact below_box _ _ | (refine Below.setCell ?_ (by simp <;> omega) _))⟩
theorem bcont (a n : Int) (f : Nat) (c : Bool) (w : World) (hc : (bits .and .u16 (f : Int) 1 != 0) = c) : Calls Try.prog 66 #[paV a n f] w fun e w' => e = .returned (.bool c) ∧ Below w.heap.size w w' := by
  go_enter Try.func66, Try.ntmps66
  go_wp2
  go_ret
  exact ⟨rfl, below_box _ _⟩
end Go.Proofs.Ytgdokgpplldddaa

/- Lists of ints as slices: kept, parted; a free list as a parameter. Conditions: as each theorem names them. -/
namespace Go.Proofs.Ytgdokgpplldddaa
open Go.ChangeShapes Go.WideShapes Go.ChangeAt Go.RowKit
set_option linter.unusedVariables false
set_option maxRecDepth 100000

theorem IntsZ.below {w w' : World} {v : Value} {L : List Int} (h : IntsZ w v L) (hb : Below w.heap.size w w') : IntsZ w' v L := by
  rcases h with h | ⟨b, o, c, h1, h2, h3, h4⟩
  · exact Or.inl h
  · have := hb.size
    exact Or.inr ⟨b, o, c, h1, by omega, h3, fun j hj => (hb.cell (p := ⟨b, o + j, none⟩) h2).trans (h4 j hj)⟩
theorem IntsZ.nil (w : World) : IntsZ w (.slice none 0 0) [] := Or.inl ⟨⟨_, _, rfl, fun _ => rfl⟩, rfl⟩
theorem getD_dropI (L : List Int) (k i : Nat) : (L.drop k).getD i 0 = L.getD (k + i) 0 := by
  rw [List.getD_eq_getElem?_getD, List.getD_eq_getElem?_getD, List.getElem?_drop]
theorem getD_takeI (L : List Int) {k i : Nat} (h : i < k) : (L.take k).getD i 0 = L.getD i 0 := by
  rw [List.getD_eq_getElem?_getD, List.getD_eq_getElem?_getD, List.getElem?_take_of_lt h]
theorem IntsZ.front {w : World} {b o c : Nat} {L : List Int} (k c2 : Nat) (hk : k ≤ L.length) (h2 : b < w.heap.size) (h3 : k ≤ c2) (h4 : ∀ j, j < L.length → w.cell? ⟨b, o + j, none⟩ = some (.int .i64 (L.getD j 0))) : IntsZ w (.slice (some ⟨b, o, none⟩) k c2) (L.take k) := by
  have hl : (L.take k).length = k := by
    rw [List.length_take]
    omega
  refine Or.inr ⟨b, o, c2, by rw [hl], h2, by omega, fun j hj => ?_⟩
  rw [hl] at hj
  rw [getD_takeI L hj]
  exact h4 j (by omega)
theorem IntsZ.back {w : World} {b o c : Nat} {L : List Int} (k c2 : Nat) (hk : k ≤ L.length) (h2 : b < w.heap.size) (h3 : L.length - k ≤ c2) (h4 : ∀ j, j < L.length → w.cell? ⟨b, o + j, none⟩ = some (.int .i64 (L.getD j 0))) : IntsZ w (.slice (some ⟨b, o + k, none⟩) (L.length - k) c2) (L.drop k) := by
  have hl : (L.drop k).length = L.length - k := List.length_drop ..
  refine Or.inr ⟨b, o + k, c2, by rw [hl], h2, by omega, fun j hj => ?_⟩
  rw [hl] at hj
  rw [getD_dropI, Nat.add_assoc]
  exact h4 (k + j) (by omega)
/-- the first q, and the rest, as slices -/
theorem slicesI {w : World} {va : Option Addr} {vc : Nat} {L : List Int} (hv : IntsZ w (.slice va L.length vc) L) (q : Nat) (hq : q ≤ L.length) :
    ∃ v1 v2, (∀ u, (Instr.sliceAt 26 (.slice va L.length vc) none (some (.int .i64 (q : Int))) none).run Try.prog u = .ok v1 u) ∧ IntsZ w v1 (L.take q) ∧
      (∀ u, (Instr.sliceAt 26 (.slice va L.length vc) (some (.int .i64 (q : Int))) none none).run Try.prog u = .ok v2 u) ∧ IntsZ w v2 (L.drop q) := by
  have hqi : (q : Int) ≤ (L.length : Int) := by omega
  rcases hv with ⟨⟨a, c, he, hac⟩, rfl⟩ | ⟨b, o, c, he, h2, h3, h4⟩
  · cases he
    obtain rfl : q = 0 := by simpa using hq
    cases va with
    | none =>
      obtain rfl := hac rfl
      refine ⟨.slice none 0 0, .slice none 0 0, fun u => ?_, IntsZ.nil _, fun u => ?_, IntsZ.nil _⟩
      · simp [go_sem]
      · simp [go_sem]
    | some a =>
      refine ⟨.slice (some a) 0 vc, .slice (some a) 0 vc, fun u => ?_, Or.inl ⟨⟨_, _, rfl, fun h => by cases h⟩, rfl⟩, fun u => ?_, Or.inl ⟨⟨_, _, rfl, fun h => by cases h⟩, rfl⟩⟩
      · simp [go_sem]
      · simp [go_sem]
  · cases he
    have hci : (L.length : Int) ≤ (vc : Int) := by omega
    have hqc : (q : Int) ≤ (vc : Int) := by omega
    by_cases hvq : vc = q
    · have hql : L.length = q := by omega
      have hdr : L.drop q = [] := by rw [← hql, List.drop_length]
      refine ⟨.slice (some ⟨b, o, none⟩) q vc, .slice (some ⟨b, o, none⟩) 0 0, fun u => ?_, IntsZ.front (c := vc) q vc hq h2 (by omega) h4, fun u => ?_, Or.inl ⟨⟨_, _, rfl, fun h => by cases h⟩, hdr⟩⟩
      · simp [go_sem, hqc]
      · simp [go_sem, hvq, hql]
    · refine ⟨.slice (some ⟨b, o, none⟩) q vc, .slice (some ⟨b, o + q, none⟩) (L.length - q) (vc - q), fun u => ?_, IntsZ.front (c := vc) q vc hq h2 (by omega) h4, fun u => ?_, IntsZ.back (c := vc) q (vc - q) hq h2 (by omega) h4⟩
      · simp [go_sem, hqc]
      · simp [go_sem, hqi, hvq]
/-- a literal -/
theorem IntsZ.lit (w : World) (L : List Int) (t : TypeId) : IntsZ (w.alloc (.cells (L.map (Value.int .i64)).toArray t)) (.slice (some ⟨w.heap.size, 0, none⟩) L.length L.length) L := by
  refine Or.inr ⟨w.heap.size, 0, L.length, rfl, by rw [sizeA]; omega, Nat.le_refl _, fun j hj => ?_⟩
  rw [Nat.zero_add, cellB (heap_alloc_new w _) j hj]

/-! ### a free list -/
def frV (S : Int) (v : Value) : Value := .agg #[.int .i64 S, v]
section
variable {H : Type} {enc : TypeId × Value → H} {W : World} {r : Reach} {b0 : Nat} {v : Value} {d : DataW H} {p : List MemPlace}
theorem trod_intz {n : Nat} {y : DataW H × List MemPlace} (hf : DataW.trod enc Try.prog W 0 (fun _ => true) true n 26 [v] = some y) : ∃ L, IntsZ W v L ∧ L.length ≤ maxLen := by
  have hc : Try.prog.cellsOf 3 = 1 := by kernel_rfl
  rcases open_ints Try.underlying26 Try.underlying3 hc hf with ⟨hcs, _⟩ | ⟨a', len', cap', zs, hcs, _, hle, hmax, hall, _, hcell, hwf⟩
  · simp at hcs
    subst hcs
    exact ⟨[], IntsZ.nil _, by simp⟩
  · simp at hcs
    subst hcs
    simp only [if_true] at hall
    have hl : (zs.take len').length = len' := by simp; omega
    by_cases h0 : len' = 0
    · subst h0
      exact ⟨[], Or.inl ⟨⟨_, _, rfl, fun h => by cases h⟩, rfl⟩, by simp⟩
    · obtain ⟨b, off, rfl, hc2⟩ := ints_at hcell (by omega)
      refine ⟨zs.take len', Or.inr ⟨b, off, cap', by rw [hl], World.block_lt_of_cell? W _ (hc2 0 (by omega)), by omega, fun j hj => ?_⟩, by omega⟩
      rw [hc2 j (by omega)]
      congr 2
      simp only [List.getD_eq_getElem?_getD, List.getElem?_take]
      rw [if_pos (by omega)]
end
end Go.Proofs.Ytgdokgpplldddaa
