/- Rf2 Sg8: joined texts. Conditions: as each theorem names them. -/
import Derived.Test.YteolnghnlfeakaaKp15
import Derived.Test.YteolnghnlfeakaaKp13
import Derived.Deep.RegionHeld3
/- The reference's memory of layer 2: regions, and the bytes of each in a block of its own; find, Has, Load. Conditions: as each theorem names them. -/
namespace Go.Proofs.Yteolnghnlfeakaa
open Go.ChangeShapes Go.WideShapes Go.ChangeAt Go.RowKit
set_option linter.unusedVariables false

/-- the bytes of region i -/
def part (L : List (Int × Int)) (M : List Int) (i : Nat) : List Int := (M.drop (off L i)).take (at_ L i).2.toNat
/-- block rp is a reference's memory with regions L and bytes M; piece i lies in block D i; all of it above base -/
structure IsRef (w : World) (base rp lb bb cL cB : Nat) (aB : Option Addr) (D : Nat → Nat) (L : List (Int × Int)) (M : List Int) : Prop where
  o0 : w.cell? ⟨rp, 0, none⟩ = some (.slice (some ⟨lb, 0, none⟩) L.length cL)
  o1 : w.cell? ⟨rp, 1, none⟩ = some (.slice aB L.length cB)
  aB : 0 < L.length → aB = some ⟨bb, 0, none⟩
  regs : ∀ j, j < L.length → w.cell? ⟨lb, j * 2, none⟩ = some (.int .u64 (at_ L j).1) ∧ w.cell? ⟨lb, j * 2 + 1, none⟩ = some (.int .u64 (at_ L j).2)
  rows : ∀ j, j < L.length → w.cell? ⟨bb, j, none⟩ = some (.slice (some ⟨D j, 0, none⟩) (at_ L j).2.toNat (at_ L j).2.toNat)
  parts : ∀ j, j < L.length → w.heap[D j]? = some (.cells ((part L M j).map (Value.int .u8)).toArray 5 (0, 0))
  inj : ∀ i j, i < L.length → j < L.length → D i = D j → i = j
  ne : ∀ j, j < L.length → D j ≠ rp ∧ D j ≠ lb ∧ D j ≠ bb ∧ base ≤ D j
  ok : okR (-1) 1048576 L = true
  n16 : L.length ≤ 16
  len : M.length = sumR L
  rng : isBytes M
theorem IsRef.keep {w w' : World} {base rp lb bb cL cB : Nat} {aB : Option Addr} {D : Nat → Nat} {L : List (Int × Int)} {M : List Int} (h : IsRef w base rp lb bb cL cB aB D L M) {S : Nat → Prop} (hc : Chg S w w') (h1 : ¬ S rp) (h2 : 0 < L.length → ¬ S lb ∧ ¬ S bb) (h3 : ∀ j, j < L.length → ¬ S (D j)) : IsRef w' base rp lb bb cL cB aB D L M :=
  ⟨(hc.cell (World.block_lt_of_cell? _ _ h.o0) h1).trans h.o0, (hc.cell (World.block_lt_of_cell? _ _ h.o1) h1).trans h.o1, h.aB,
   fun j hj => ⟨(hc.cell (World.block_lt_of_cell? _ _ (h.regs j hj).1) (h2 (by omega)).1).trans (h.regs j hj).1, (hc.cell (World.block_lt_of_cell? _ _ (h.regs j hj).2) (h2 (by omega)).1).trans (h.regs j hj).2⟩,
   fun j hj => (hc.cell (World.block_lt_of_cell? _ _ (h.rows j hj)) (h2 (by omega)).2).trans (h.rows j hj),
   fun j hj => hc.keep (h.parts j hj) (h3 j hj), h.inj, h.ne, h.ok, h.n16, h.len, h.rng⟩
theorem IsRef.below {w w' : World} {base rp lb bb cL cB : Nat} {aB : Option Addr} {D : Nat → Nat} {L : List (Int × Int)} {M : List Int} (h : IsRef w base rp lb bb cL cB aB D L M) (hb : Below w.heap.size w w') : IsRef w' base rp lb bb cL cB aB D L M :=
  h.keep (S := fun _ => False) (Chg.of_below hb) (fun h => h) (fun _ => ⟨fun h => h, fun h => h⟩) (fun _ _ h => h)
theorem part_len {L : List (Int × Int)} {M : List Int} (hlen : M.length = sumR L) {i : Nat} (hi : i < L.length) : (part L M i).length = (at_ L i).2.toNat := by
  have := off_room L i hi
  unfold part
  simp
  omega
theorem part_getD {L : List (Int × Int)} {M : List Int} {i k : Nat} (hk : k < (at_ L i).2.toNat) : (part L M i).getD k 0 = M.getD (off L i + k) 0 := by
  unfold part
  simp only [List.getD_eq_getElem?_getD, List.getElem?_take, List.getElem?_drop]
  rw [if_pos hk]
/-- what find answers -/
def RFound (L : List (Int × Int)) (a n x y : Int) : Prop :=
  (loc L a n = none ∧ x = -1 ∧ y = 0) ∨ ∃ i k : Nat, i < L.length ∧ loc L a n = some (off L i + k) ∧ x = (i : Int) ∧ y = (k : Int) ∧ (k : Int) + n ≤ (at_ L i).2 ∧ 1 ≤ n

set_option maxRecDepth 100000 in
set_option maxHeartbeats 4000000 in
theorem rfind_any (base rp lb bb cL cB : Nat) (aB : Option Addr) (D : Nat → Nat) (L : List (Int × Int)) (M : List Int) (a n : Int) (w : World) (h : IsRef w base rp lb bb cL cB aB D L M) (ha : U64 a) (hn : U64 n) :
    Calls Try.prog 57 #[.pointer (some ⟨rp, 0, none⟩), .int .u64 a, .int .u64 n] w fun e w' => ∃ x y : Int, e = .returned (.tuple #[.int .i64 x, .int .i64 y]) ∧ RFound L a n x y ∧ Below w.heap.size w w' := by
  have o0 := h.o0
  have hol := World.block_lt_of_cell? _ _ o0
  have h16i : (L.length : Int) ≤ 16 := by have := h.n16; omega
  have HR := hid_mk h.regs
  have HOK := hid_mk h.ok
  clear h
  go_enter Try.func57, Try.ntmps57
  go_wp2
  go_loopw [8] (fun i wr => ∃ k : Nat, k ≤ L.length ∧ i = .int .i64 k ∧ Below w.heap.size w wr ∧ Hid (∀ j, j < k → ¬ ((at_ L j).1 ≤ a ∧ a + n ≤ (at_ L j).1 + (at_ L j).2 ∧ 1 ≤ n))) (fun i _ => L.length - (intOf i).toNat)
  case atStart => exact ⟨0, Nat.zero_le _, rfl, Below.refl _ _, hid_mk (fun j hj => by omega)⟩
  case round =>
    obtain ⟨k, hk, rfl, hbel, hI⟩ := hrel
    have p0 := (hbel.cell (p := ⟨rp, 0, none⟩) hol).trans o0
    by_cases hlt : k < L.length
    · obtain ⟨q0, q1⟩ := HR.out k hlt
      have hlb := World.block_lt_of_cell? _ _ q0
      have c0 := (hbel.cell (p := ⟨lb, k * 2, none⟩) hlb).trans q0
      have c1 := (hbel.cell (p := ⟨lb, k * 2 + 1, none⟩) hlb).trans q1
      have hz := hbel.size
      have hat := okR_at HOK.out k hlt
      obtain ⟨t1, t2, t3, t4⟩ := hat
      have HMK := hid_mk (fun h1 h2 h3 => loc_mk HOK.out (a := a) (n := n) hlt h1 h2 h3)
      clear q0 q1
      generalize hx : (at_ L k).1 = x at *
      generalize hy : (at_ L k).2 = y at *
      have hNext : Hid (¬ (x ≤ a ∧ a + n ≤ x + y ∧ 1 ≤ n) → ∀ j, j < k + 1 → ¬ ((at_ L j).1 ≤ a ∧ a + n ≤ (at_ L j).1 + (at_ L j).2 ∧ 1 ≤ n)) := hid_mk (fun h j hj => by
        rcases Nat.lt_succ_iff_lt_or_eq.1 hj with h' | rfl
        · exact hI.out j h'
        · rw [hx, hy]
          exact h)
      have HY := hid_mk hy
      clear hx hy
      by_cases n0 : n < 1
      · have d1 : decide (1 ≤ n) = false := by simp; omega
        have HF := hid_mk (hNext.out (by omega))
        clear t1 t2 t3 t4
        go_wp2_with fail
        go_roundw
        case rel => exact ⟨k + 1, by omega, by go_num, by repeat (first | exact hbel | (refine Below.setCell ?_ hbel.size _) | (refine Below.alloc ?_ hbel.size _)), HF⟩
        case measure => simp [intOf]; omega
      · have d1 : decide (1 ≤ n) = true := by simp; omega
        by_cases c2 : a < x
        · have d2 : decide (x ≤ a) = false := by simp; omega
          have HF := hid_mk (hNext.out (by omega))
          clear t1 t2 t3 t4
          go_wp2_with fail
          go_roundw
          case rel => exact ⟨k + 1, by omega, by go_num, by repeat (first | exact hbel | (refine Below.setCell ?_ hbel.size _) | (refine Below.alloc ?_ hbel.size _)), HF⟩
          case measure => simp [intOf]; omega
        · have d2 : decide (x ≤ a) = true := by simp; omega
          by_cases c3 : y < n
          · have d3 : decide (n ≤ y) = false := by simp; omega
            have HF := hid_mk (hNext.out (by omega))
            clear t1 t2 t3 t4
            go_wp2_with fail
            go_roundw
            case rel => exact ⟨k + 1, by omega, by go_num, by repeat (first | exact hbel | (refine Below.setCell ?_ hbel.size _) | (refine Below.alloc ?_ hbel.size _)), HF⟩
            case measure => simp [intOf]; omega
          · have d3 : decide (n ≤ y) = true := by simp; omega
            have hw1 : IntKind.u64.wrap (a - x) = a - x := by rw [IntKind.wrap_u64]; omega
            have hw2 : IntKind.u64.wrap (y - n) = y - n := by rw [IntKind.wrap_u64]; omega
            by_cases c4 : y - n < a - x
            · have d4 : decide (a - x ≤ y - n) = false := by simp; omega
              have HF := hid_mk (hNext.out (by omega))
              clear t1 t2 t3 t4
              go_wp2_with fail
              go_roundw
              case rel => exact ⟨k + 1, by omega, by go_num, by repeat (first | exact hbel | (refine Below.setCell ?_ hbel.size _) | (refine Below.alloc ?_ hbel.size _)), HF⟩
              case measure => simp [intOf]; omega
            · have d4 : decide (a - x ≤ y - n) = true := by simp; omega
              have hw3 : IntKind.i64.wrap (a - x) = a - x := IntWalk.i64_in _ (by omega)
              have HF := hid_mk (HMK.out (by omega) (by omega) (by omega))
              have HE := hid_mk (show a - x = ((a - x).toNat : Int) ∧ ((a - x).toNat : Int) + n ≤ y ∧ 1 ≤ n by omega)
              clear t1 t2 t3 t4
              go_wp2_with fail
              go_quiet (fail)
              go_wp2_with fail
              go_ret2
              refine ⟨(k : Int), a - x, ret_eq rfl, Or.inr ⟨k, (a - x).toNat, hlt, HF.out, rfl, HE.out.1, by rw [HY.out]; exact HE.out.2.1, HE.out.2.2⟩, ?_⟩
              repeat (first | exact hbel | (refine below_dn ?_ _) | (refine Below.setCell ?_ hbel.size _) | (refine Below.alloc ?_ hbel.size _))
    · obtain rfl : k = L.length := by omega
      have HN := hid_mk (loc_no (fun i hi => hI.out i hi))
      go_wp2_with fail
      go_ret2
      exact ⟨-1, 0, rfl, Or.inl ⟨HN.out, rfl, rfl⟩, hbel⟩

theorem rhas_any (base rp lb bb cL cB : Nat) (aB : Option Addr) (D : Nat → Nat) (L : List (Int × Int)) (M : List Int) (a n : Int) (w : World) (h : IsRef w base rp lb bb cL cB aB D L M) (ha : U64 a) (hn : U64 n) :
    Calls Try.prog 47 #[.pointer (some ⟨rp, 0, none⟩), .int .u64 a, .int .u64 n] w fun e w' => e = .returned (.bool (loc L a n).isSome) ∧ Below w.heap.size w w' := by
  have hf := rfind_any base rp lb bb cL cB aB D L M a n w h ha hn
  clear h
  go_enter Try.func47, Try.ntmps47
  go_wp2_with fail
  refine hf.mono ?_
  rintro e w' ⟨x, y, rfl, hF, hb⟩
  have HB := hid_mk hb
  rcases hF with ⟨h1, rfl, rfl⟩ | ⟨i, k, hi, h1, rfl, rfl, _, _⟩
  · have H1 := hid_mk h1
    clear h1 hb
    go_wp2_with fail
    go_ret
    exact ⟨ret_eq (by rw [H1.out]; rfl), HB.out⟩
  · have H1 := hid_mk h1
    have hd : decide ((0 : Int) ≤ (i : Int)) = true := by simp
    clear h1 hb
    go_wp2_with fail
    go_ret
    exact ⟨ret_eq (by rw [H1.out]; rfl), HB.out⟩
end Go.Proofs.Yteolnghnlfeakaa

/- The reference's In of layer 5. Conditions: as each theorem names them. -/
namespace Go.Proofs.Yteolnghnlfeakaa
open Go.ChangeShapes Go.WideShapes Go.ChangeAt Go.RowKit
set_option linter.unusedVariables false
set_option maxRecDepth 100000

theorem allIn_append (R : List (Int × Int)) (a b : List Sg) : allIn R (a ++ b) = (allIn R a && allIn R b) := by
  unfold allIn
  exact List.all_append
theorem allIn_step {R : List (Int × Int)} {L : List Sg} {k : Nat} (h : k < L.length) : allIn R (L.take (k + 1)) = (allIn R (L.take k) && (loc R (sat L k).a (sat L k).n).isSome) := by
  rw [take_sat h, allIn_append]
  simp [allIn]
theorem allIn_no {R : List (Int × Int)} {L : List Sg} {k : Nat} (h : k < L.length) (hn : (loc R (sat L k).a (sat L k).n).isSome = false) : allIn R L = false := by
  have e := allIn_append R (L.take (k + 1)) (L.drop (k + 1))
  rw [List.take_append_drop, allIn_step h, hn] at e
  rw [e]
  simp
abbrev StI (w : World) (b p q : Nat) (x y : Value) (base rp lb bb cL cB : Nat) (aB : Option Addr) (D : Nat → Nat) (R : List (Int × Int)) (M : List Int) (W : World) : Prop := Below w.heap.size w W ∧ (W.cell? ⟨b, p, none⟩ = some x ∧ W.cell? ⟨b, q, none⟩ = some y ∧ b < W.heap.size) ∧ IsRef W base rp lb bb cL cB aB D R M
theorem StI.keep {w : World} {b p q : Nat} {x y : Value} {base rp lb bb cL cB : Nat} {aB : Option Addr} {D : Nat → Nat} {R : List (Int × Int)} {M : List Int} {W W' : World} (h : StI w b p q x y base rp lb bb cL cB aB D R M W) (hb : Below W.heap.size W W') : StI w b p q x y base rp lb bb cL cB aB D R M W' :=
  ⟨below_then h.1 hb, ⟨(hb.cell (p := ⟨b, p, none⟩) h.2.1.2.2).trans h.2.1.1, (hb.cell (p := ⟨b, q, none⟩) h.2.1.2.2).trans h.2.1.2.1, Nat.lt_of_lt_of_le h.2.1.2.2 hb.size⟩, h.2.2.below hb⟩

theorem rsegin_nil (v : Value) (w : World) :
    Calls Try.prog 22 #[.pointer none, v] w fun e w' => e = .returned (.int .i64 1) ∧ w = w' := by
  go_enter Try.func22, Try.ntmps22
  go_wp2
  go_ret
  exact ⟨rfl, rfl⟩

set_option maxHeartbeats 4000000 in
theorem rsegin (v : Value) (L : List Sg) (base rp lb bb cL cB : Nat) (aB : Option Addr) (D : Nat → Nat) (R : List (Int × Int)) (M : List Int) (w : World) (hv : SegsAt w v L) (hu : isSgs L) (hr : IsRef w base rp lb bb cL cB aB D R M) :
    Calls Try.prog 22 #[.pointer (some ⟨rp, 0, none⟩), v] w fun e w' => e = .returned (.int .i64 (inE R L)) ∧ Below w.heap.size w w' := by
  have HCk := hid_mk (rsegchk v L w hv hu)
  rcases hv with ⟨⟨va, vc, rfl, _⟩, rfl⟩ | ⟨b, o, c, rfl, hb1, hb2, hb3⟩
  · have e1 : inE R [] = 0 := rfl
    rw [e1]
    go_enter Try.func22, Try.ntmps22
    go_wp2_with fail
    refine HCk.out.mono ?_
    rintro e w1 ⟨rfl, m, rfl⟩
    have e2 : segE [] = 0 := rfl
    rw [e2]
    go_wp2_with fail
    go_loop [5, 6] (fun x i => x = .int .i64 0 ∧ i = .int .i64 0) (fun x i => 0)
    case atStart => exact ⟨rfl, rfl⟩
    case round =>
      obtain ⟨rfl, rfl⟩ := hrel
      go_wp2
      go_ret
      exact ⟨rfl, below_drewN _ _⟩
  · by_cases hE : segE L = 0
    · have e1 : inE R L = if allIn R L = true then 0 else 5 := by
        unfold inE
        rw [if_pos hE]
      obtain ⟨r, er⟩ : ∃ r : Int, (if allIn R L = true then (0 : Int) else 5) = r := ⟨_, rfl⟩
      rw [e1, er]
      have ER := hid_mk er
      obtain ⟨o1, o2, o3⟩ := (segE_ok hu).1 hE
      rw [hE] at HCk
      have HC := hid_mk hb3
      have HU := hid_mk hu
      have HR := hid_mk hr
      have h64i : (L.length : Int) ≤ 64 := by omega
      clear hb3 hu e1 o2 o3 hE hr er
      go_enter Try.func22, Try.ntmps22
      go_wp2_with fail
      refine HCk.out.mono ?_
      rintro e w1 ⟨rfl, m, hm⟩
      have HB1 : Hid (Below w.heap.size w w1) := by
        rw [hm]
        exact below_drewN _ _
      have HR1 : Hid (IsRef w1 base rp lb bb cL cB aB D R M) := by
        rw [hm]
        exact HR.out.below (below_drewN _ _)
      clear hm
      go_wp2_with fail
      go_loopw [5, 6] (fun ev i wr => ∃ (k : Nat) (ei : Int), k ≤ L.length ∧ i = .int .i64 k ∧ ev = .int .i64 ei ∧ Hid ((ei = 0 ∧ allIn R (L.take k) = true) ∨ (ei = 5 ∧ allIn R L = false)) ∧ Hid (Below w.heap.size w wr) ∧ Hid (IsRef wr base rp lb bb cL cB aB D R M)) (fun _ i _ => L.length - (intOf i).toNat)
      case atStart => exact ⟨0, 0, Nat.zero_le _, rfl, rfl, Or.inl ⟨rfl, rfl⟩, HB1, HR1⟩
      case round =>
        obtain ⟨k, ei, hk, rfl, rfl, hst, hbel, href⟩ := hrel
        by_cases hlt : k < L.length
        · rcases hst.out with ⟨he, ha⟩ | ⟨he, ha⟩
          · subst he
            obtain ⟨c0, c1, _⟩ := HC.out k hlt
            obtain ⟨hx, hy0, hy1⟩ := sat_is HU.out k
            have d0 := (hbel.out.cell (p := ⟨b, o + k * 3, none⟩) hb1).trans c0
            have d1 := (hbel.out.cell (p := ⟨b, o + k * 3 + 1, none⟩) hb1).trans c1
            have hbw : b < wr.heap.size := Nat.lt_of_lt_of_le hb1 hbel.out.size
            have hyw : IntKind.u64.wrap (sat L k).n = (sat L k).n := by rw [IntKind.wrap_u64]; omega
            have HH := hid_mk (fun u (h : IsRef u base rp lb bb cL cB aB D R M) => rhas_any base rp lb bb cL cB aB D R M (sat L k).a (sat L k).n u h hx ⟨by omega, by omega⟩)
            have HN : Hid ((loc R (sat L k).a (sat L k).n).isSome = false → allIn R L = false) := allIn_no hlt
            have HY : Hid ((loc R (sat L k).a (sat L k).n).isSome = true → allIn R (L.take (k + 1)) = true) := fun h => by
              show allIn R (L.take (k + 1)) = true
              rw [allIn_step hlt, ha, h]
              rfl
            have HS := hid_mk (show StI w b (o + k * 3) (o + k * 3 + 1) (.int .u64 (sat L k).a) (.int .u32 (sat L k).n) base rp lb bb cL cB aB D R M wr.drew from StI.keep (w := w) ⟨hbel.out, ⟨d0, d1, hbw⟩, href.out⟩ (Below.refl _ _).drew)
            clear c0 c1 hst hbel href ha hx hy0 hy1
            generalize (sat L k).a = x at *
            generalize (sat L k).n = y at *
            go_upto_region 7 with fail
            go_region_held3 (fun w' => Below w.heap.size w w' ∧ (w'.cell? ⟨b, o + k * 3, none⟩ = some (.int .u64 x) ∧ w'.cell? ⟨b, o + k * 3 + 1, none⟩ = some (.int .u32 y) ∧ b < w'.heap.size) ∧ IsRef w' base rp lb bb cL cB aB D R M) (first | exact HS.out | exact StI.keep (by assumption) (by assumption))
              (first | (go_at_call 47; refine (HH.out _ (And.right (And.right (by assumption)))).mono ?_; rintro e w' ⟨rfl, hb⟩))
            have hz : StI w b (o + k * 3) (o + k * 3 + 1) (.int .u64 x) (.int .u32 y) base rp lb bb cL cB aB D R M w' := by
              first | assumption | exact StI.keep (by assumption) (by assumption)
            have HZ1 := hid_mk hz.1
            have HZ2 := hid_mk hz.2.2
            clear hz
            cases hn : (loc R x y).isNone
            · have hs : (loc R x y).isSome = true := by
                cases h : loc R x y
                · rw [h] at hn
                  cases hn
                · rfl
              have HX := hid_mk (HY.out hs)
              clear hs
              go_wp2_with fail
              go_roundw
              case rel => exact ⟨k + 1, 0, by omega, by go_num, rfl, Or.inl ⟨rfl, HX.out⟩, HZ1, HZ2⟩
              case measure => simp [intOf]; omega
            · have hs : (loc R x y).isSome = false := by
                cases h : loc R x y
                · rfl
                · rw [h] at hn
                  cases hn
              have HX := hid_mk (HN.out hs)
              clear hs
              go_wp2_with fail
              go_roundw
              case rel => exact ⟨k + 1, 5, by omega, by go_num, rfl, Or.inr ⟨rfl, HX.out⟩, HZ1, HZ2⟩
              case measure => simp [intOf]; omega
          · subst he
            have HF : Hid (Value.int .i64 5 = .int .i64 r) := by
              rw [← ER.out, ha]
              rfl
            clear hst ha
            go_wp2_with fail
            go_ret
            exact ⟨ret_eq HF.out, hbel.out⟩
        · obtain rfl : k = L.length := by omega
          rcases hst.out with ⟨he, ha⟩ | ⟨he, ha⟩
          · subst he
            rw [List.take_length] at ha
            have HF : Hid (Value.int .i64 0 = .int .i64 r) := by
              rw [← ER.out, ha]
              rfl
            clear hst ha
            go_wp2_with fail
            go_ret
            exact ⟨ret_eq HF.out, hbel.out⟩
          · subst he
            have HF : Hid (Value.int .i64 5 = .int .i64 r) := by
              rw [← ER.out, ha]
              rfl
            clear hst ha
            go_wp2_with fail
            go_ret
            exact ⟨ret_eq HF.out, hbel.out⟩
    · have e1 : inE R L = segE L := by
        unfold inE
        rw [if_neg hE]
      rw [e1]
      have hE2 : (segE L == 0) = false := by simp [hE]
      have h0 := seg_pos hE
      have h0i : (0 : Int) < (L.length : Int) := by omega
      clear e1 hE hu hb3 hr
      generalize segE L = x at *
      go_enter Try.func22, Try.ntmps22
      go_wp2_with fail
      refine HCk.out.mono ?_
      rintro e w1 ⟨rfl, m, rfl⟩
      go_wp2_with fail
      go_loopw [5, 6] (fun y i wr => y = .int .i64 x ∧ i = .int .i64 0 ∧ wr = w.drewN m) (fun _ i _ => 0)
      case atStart => exact ⟨rfl, rfl, rfl⟩
      case round =>
        obtain ⟨rfl, rfl, rfl⟩ := hrel
        go_wp2_with fail
        go_ret
        exact ⟨rfl, below_drewN _ _⟩
end Go.Proofs.Yteolnghnlfeakaa
