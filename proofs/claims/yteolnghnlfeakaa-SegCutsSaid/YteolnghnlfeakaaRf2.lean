/- The reference's memory of layer 2: regions, and the bytes of each in a block of its own; find, Has, Load. Conditions: as each theorem names them. -/
import Derived.Test.YteolnghnlfeakaaRf1
namespace Go.Proofs.Yteolnghnlfeakaa
open Go.ChangeShapes Go.WideShapes Go.ChangeAt Go.RowKit
set_option linter.unusedVariables false

/-- the bytes of region i -/
def part (L : List (Int × Int)) (M : List Int) (i : Nat) : List Int := (M.drop (off L i)).take (at_ L i).2.toNat
/-- block rp is a reference's memory with regions L and bytes M; piece i lies in block D i; all of it above base -/
structure IsRef (w : World) (base rp lb bb cL cB : Nat) (aB : Option Addr) (D : Nat → Nat) (L : List (Int × Int)) (M : List Int) : Prop where
  o0 : w.cell? ⟨rp, 0, none⟩ = some (.slice (some ⟨lb, 0, none⟩) L.length cL)
  o1 : w.cell? ⟨rp, 1, none⟩ = some (.slice aB L.length cB)
  aB : 0 < L.length → aB = some ⟨bb, 0, none⟩
  regs : ∀ j, j < L.length → w.cell? ⟨lb, j * 2, none⟩ = some (.int .u64 (at_ L j).1) ∧ w.cell? ⟨lb, j * 2 + 1, none⟩ = some (.int .u64 (at_ L j).2)
  rows : ∀ j, j < L.length → w.cell? ⟨bb, j, none⟩ = some (.slice (some ⟨D j, 0, none⟩) (at_ L j).2.toNat (at_ L j).2.toNat)
  parts : ∀ j, j < L.length → w.heap[D j]? = some (.cells ((part L M j).map (Value.int .u8)).toArray 5 (0, 0))
  inj : ∀ i j, i < L.length → j < L.length → D i = D j → i = j
  ne : ∀ j, j < L.length → D j ≠ rp ∧ D j ≠ lb ∧ D j ≠ bb ∧ base ≤ D j
  ok : okR (-1) 1048576 L = true
  n16 : L.length ≤ 16
  len : M.length = sumR L
  rng : isBytes M
theorem IsRef.keep {w w' : World} {base rp lb bb cL cB : Nat} {aB : Option Addr} {D : Nat → Nat} {L : List (Int × Int)} {M : List Int} (h : IsRef w base rp lb bb cL cB aB D L M) {S : Nat → Prop} (hc : Chg S w w') (h1 : ¬ S rp) (h2 : 0 < L.length → ¬ S lb ∧ ¬ S bb) (h3 : ∀ j, j < L.length → ¬ S (D j)) : IsRef w' base rp lb bb cL cB aB D L M :=
  ⟨(hc.cell (World.block_lt_of_cell? _ _ h.o0) h1).trans h.o0, (hc.cell (World.block_lt_of_cell? _ _ h.o1) h1).trans h.o1, h.aB,
   fun j hj => ⟨(hc.cell (World.block_lt_of_cell? _ _ (h.regs j hj).1) (h2 (by omega)).1).trans (h.regs j hj).1, (hc.cell (World.block_lt_of_cell? _ _ (h.regs j hj).2) (h2 (by omega)).1).trans (h.regs j hj).2⟩,
   fun j hj => (hc.cell (World.block_lt_of_cell? _ _ (h.rows j hj)) (h2 (by omega)).2).trans (h.rows j hj),
   fun j hj => hc.keep (h.parts j hj) (h3 j hj), h.inj, h.ne, h.ok, h.n16, h.len, h.rng⟩
theorem IsRef.below {w w' : World} {base rp lb bb cL cB : Nat} {aB : Option Addr} {D : Nat → Nat} {L : List (Int × Int)} {M : List Int} (h : IsRef w base rp lb bb cL cB aB D L M) (hb : Below w.heap.size w w') : IsRef w' base rp lb bb cL cB aB D L M :=
  h.keep (S := fun _ => False) (Chg.of_below hb) (fun h => h) (fun _ => ⟨fun h => h, fun h => h⟩) (fun _ _ h => h)
theorem part_len {L : List (Int × Int)} {M : List Int} (hlen : M.length = sumR L) {i : Nat} (hi : i < L.length) : (part L M i).length = (at_ L i).2.toNat := by
  have := off_room L i hi
  unfold part
  simp
  omega
theorem part_getD {L : List (Int × Int)} {M : List Int} {i k : Nat} (hk : k < (at_ L i).2.toNat) : (part L M i).getD k 0 = M.getD (off L i + k) 0 := by
  unfold part
  simp only [List.getD_eq_getElem?_getD, List.getElem?_take, List.getElem?_drop]
  rw [if_pos hk]
/-- what find answers -/
def RFound (L : List (Int × Int)) (a n x y : Int) : Prop :=
  (loc L a n = none ∧ x = -1 ∧ y = 0) ∨ ∃ i k : Nat, i < L.length ∧ loc L a n = some (off L i + k) ∧ x = (i : Int) ∧ y = (k : Int) ∧ (k : Int) + n ≤ (at_ L i).2 ∧ 1 ≤ n

set_option maxRecDepth 100000 in
set_option maxHeartbeats 4000000 in
theorem rfind_any (base rp lb bb cL cB : Nat) (aB : Option Addr) (D : Nat → Nat) (L : List (Int × Int)) (M : List Int) (a n : Int) (w : World) (h : IsRef w base rp lb bb cL cB aB D L M) (ha : U64 a) (hn : U64 n) :
    Calls Try.prog 57 #[.pointer (some ⟨rp, 0, none⟩), .int .u64 a, .int .u64 n] w fun e w' => ∃ x y : Int, e = .returned (.tuple #[.int .i64 x, .int .i64 y]) ∧ RFound L a n x y ∧ Below w.heap.size w w' := by
  have o0 := h.o0
  have hol := World.block_lt_of_cell? _ _ o0
  have h16i : (L.length : Int) ≤ 16 := by have := h.n16; omega
  have HR := hid_mk h.regs
  have HOK := hid_mk h.ok
  clear h
  go_enter Try.func57, Try.ntmps57
  go_wp2
  go_loopw [8] (fun i wr => ∃ k : Nat, k ≤ L.length ∧ i = .int .i64 k ∧ Below w.heap.size w wr ∧ Hid (∀ j, j < k → ¬ ((at_ L j).1 ≤ a ∧ a + n ≤ (at_ L j).1 + (at_ L j).2 ∧ 1 ≤ n))) (fun i _ => L.length - (intOf i).toNat)
  case atStart => exact ⟨0, Nat.zero_le _, rfl, Below.refl _ _, hid_mk (fun j hj => by omega)⟩
  case round =>
    obtain ⟨k, hk, rfl, hbel, hI⟩ := hrel
    have p0 := (hbel.cell (p := ⟨rp, 0, none⟩) hol).trans o0
    by_cases hlt : k < L.length
    · obtain ⟨q0, q1⟩ := HR.out k hlt
      have hlb := World.block_lt_of_cell? _ _ q0
      have c0 := (hbel.cell (p := ⟨lb, k * 2, none⟩) hlb).trans q0
      have c1 := (hbel.cell (p := ⟨lb, k * 2 + 1, none⟩) hlb).trans q1
      have hz := hbel.size
      have hat := okR_at HOK.out k hlt
      obtain ⟨t1, t2, t3, t4⟩ := hat
      have HMK := hid_mk (fun h1 h2 h3 => loc_mk HOK.out (a := a) (n := n) hlt h1 h2 h3)
      clear q0 q1
      generalize hx : (at_ L k).1 = x at *
      generalize hy : (at_ L k).2 = y at *
      have hNext : Hid (¬ (x ≤ a ∧ a + n ≤ x + y ∧ 1 ≤ n) → ∀ j, j < k + 1 → ¬ ((at_ L j).1 ≤ a ∧ a + n ≤ (at_ L j).1 + (at_ L j).2 ∧ 1 ≤ n)) := hid_mk (fun h j hj => by
        rcases Nat.lt_succ_iff_lt_or_eq.1 hj with h' | rfl
        · exact hI.out j h'
        · rw [hx, hy]
          exact h)
      have HY := hid_mk hy
      clear hx hy
      by_cases n0 : n < 1
      · have d1 : decide (1 ≤ n) = false := by simp; omega
        have HF := hid_mk (hNext.out (by omega))
        clear t1 t2 t3 t4
        go_wp2_with fail
        go_roundw
        case rel => exact ⟨k + 1, by omega, by go_num, by repeat (first | exact hbel | (refine Below.setCell ?_ hbel.size _) | (refine Below.alloc ?_ hbel.size _)), HF⟩
        case measure => simp [intOf]; omega
      · have d1 : decide (1 ≤ n) = true := by simp; omega
        by_cases c2 : a < x
        · have d2 : decide (x ≤ a) = false := by simp; omega
          have HF := hid_mk (hNext.out (by omega))
          clear t1 t2 t3 t4
          go_wp2_with fail
          go_roundw
          case rel => exact ⟨k + 1, by omega, by go_num, by repeat (first | exact hbel | (refine Below.setCell ?_ hbel.size _) | (refine Below.alloc ?_ hbel.size _)), HF⟩
          case measure => simp [intOf]; omega
        · have d2 : decide (x ≤ a) = true := by simp; omega
          by_cases c3 : y < n
          · have d3 : decide (n ≤ y) = false := by simp; omega
            have HF := hid_mk (hNext.out (by omega))
            clear t1 t2 t3 t4
            go_wp2_with fail
            go_roundw
            case rel => exact ⟨k + 1, by omega, by go_num, by repeat (first | exact hbel | (refine Below.setCell ?_ hbel.size _) | (refine Below.alloc ?_ hbel.size _)), HF⟩
            case measure => simp [intOf]; omega
          · have d3 : decide (n ≤ y) = true := by simp; omega
            have hw1 : IntKind.u64.wrap (a - x) = a - x := by rw [IntKind.wrap_u64]; omega
            have hw2 : IntKind.u64.wrap (y - n) = y - n := by rw [IntKind.wrap_u64]; omega
            by_cases c4 : y - n < a - x
            · have d4 : decide (a - x ≤ y - n) = false := by simp; omega
              have HF := hid_mk (hNext.out (by omega))
              clear t1 t2 t3 t4
              go_wp2_with fail
              go_roundw
              case rel => exact ⟨k + 1, by omega, by go_num, by repeat (first | exact hbel | (refine Below.setCell ?_ hbel.size _) | (refine Below.alloc ?_ hbel.size _)), HF⟩
              case measure => simp [intOf]; omega
            · have d4 : decide (a - x ≤ y - n) = true := by simp; omega
              have hw3 : IntKind.i64.wrap (a - x) = a - x := IntWalk.i64_in _ (by omega)
              have HF := hid_mk (HMK.out (by omega) (by omega) (by omega))
              have HE := hid_mk (show a - x = ((a - x).toNat : Int) ∧ ((a - x).toNat : Int) + n ≤ y ∧ 1 ≤ n by omega)
              clear t1 t2 t3 t4
              go_wp2_with fail
              go_quiet (fail)
              go_wp2_with fail
              go_ret2
              refine ⟨(k : Int), a - x, ret_eq rfl, Or.inr ⟨k, (a - x).toNat, hlt, HF.out, rfl, HE.out.1, by rw [HY.out]; exact HE.out.2.1, HE.out.2.2⟩, ?_⟩
              repeat (first | exact hbel | (refine below_dn ?_ _) | (refine Below.setCell ?_ hbel.size _) | (refine Below.alloc ?_ hbel.size _))
    · obtain rfl : k = L.length := by omega
      have HN := hid_mk (loc_no (fun i hi => hI.out i hi))
      go_wp2_with fail
      go_ret2
      exact ⟨-1, 0, rfl, Or.inl ⟨HN.out, rfl, rfl⟩, hbel⟩

theorem rhas_any (base rp lb bb cL cB : Nat) (aB : Option Addr) (D : Nat → Nat) (L : List (Int × Int)) (M : List Int) (a n : Int) (w : World) (h : IsRef w base rp lb bb cL cB aB D L M) (ha : U64 a) (hn : U64 n) :
    Calls Try.prog 47 #[.pointer (some ⟨rp, 0, none⟩), .int .u64 a, .int .u64 n] w fun e w' => e = .returned (.bool (loc L a n).isSome) ∧ Below w.heap.size w w' := by
  have hf := rfind_any base rp lb bb cL cB aB D L M a n w h ha hn
  clear h
  go_enter Try.func47, Try.ntmps47
  go_wp2_with fail
  refine hf.mono ?_
  rintro e w' ⟨x, y, rfl, hF, hb⟩
  have HB := hid_mk hb
  rcases hF with ⟨h1, rfl, rfl⟩ | ⟨i, k, hi, h1, rfl, rfl, _, _⟩
  · have H1 := hid_mk h1
    clear h1 hb
    go_wp2_with fail
    go_ret
    exact ⟨ret_eq (by rw [H1.out]; rfl), HB.out⟩
  · have H1 := hid_mk h1
    have hd : decide ((0 : Int) ≤ (i : Int)) = true := by simp
    clear h1 hb
    go_wp2_with fail
    go_ret
    exact ⟨ret_eq (by rw [H1.out]; rfl), HB.out⟩
end Go.Proofs.Yteolnghnlfeakaa
