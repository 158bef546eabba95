/- Bdl SgOpen: joined texts. Conditions: as each theorem names them. -/
import Derived.Test.YtgdokgpplldddaaKp41
import Derived.Test.YtgdokgpplldddaaKp09
import Derived.Test.YtgdokgpplldddaaKp24
import Derived.Deep.SlicePairs
import Derived.Lib.SmallJoins
/- The laws of layer 9: two, lives. Conditions: none. -/
namespace Go.Proofs.Ytgdokgpplldddaa
open Go.ChangeShapes Go.WideShapes Go.ChangeAt Go.RowKit
set_option linter.unusedVariables false
set_option maxRecDepth 100000

def twoL : List Sg := [⟨100, 8, false⟩, ⟨200, 4, true⟩]
theorem twoL_is : isSgs twoL := by
  intro s hs
  unfold twoL at hs
  simp at hs
  rcases hs with rfl | rfl
  · exact ⟨⟨by simp, by simp⟩, by simp, by simp⟩
  · exact ⟨⟨by simp, by simp⟩, by simp, by simp⟩
theorem SegsAt.lit (w : World) (L : List Sg) (t : TypeId) : SegsAt (w.alloc (.cells (segCells L).toArray t)) (.slice (some ⟨w.heap.size, 0, none⟩) L.length L.length) L := by
  refine Or.inr ⟨w.heap.size, 0, L.length, rfl, by rw [sizeA]; omega, Nat.le_refl _, fun j hj => ?_⟩
  have h := blk_new w (segCells L) t
  obtain ⟨c0, c1, c2⟩ := segCells_at L j hj
  refine ⟨?_, ?_, ?_⟩
  · rw [Nat.zero_add, h.cell]
    exact c0
  · rw [Nat.zero_add, h.cell]
    exact c1
  · rw [Nat.zero_add, h.cell]
    exact c2
theorem PtsAt.lit (w : World) (L : List Pt) (t : TypeId) : PtsAt (w.alloc (.cells (ptCells L).toArray t)) (.slice (some ⟨w.heap.size, 0, none⟩) L.length L.length) L := by
  refine Or.inr ⟨w.heap.size, 0, L.length, rfl, by rw [sizeA]; omega, Nat.le_refl _, fun j hj => ?_⟩
  have h := blk_new w (ptCells L) t
  obtain ⟨c0, c1, c2, c3, c4⟩ := ptCells_at L j hj
  refine ⟨?_, ?_, ?_, ?_, ?_⟩ <;> rw [Nat.zero_add, h.cell]
  · exact c0
  · exact c1
  · exact c2
  · exact c3
  · exact c4
theorem ltwo (w : World) : Calls Try.prog 8 #[] w fun e w' => ∃ a c, e = .returned (.slice a 2 c) ∧ SegsAt w' (.slice a 2 c) twoL ∧ Below w.heap.size w w' := by
  have HL := hid_mk (SegsAt.lit w twoL 63)
  go_enter Try.func8, Try.ntmps8
  go_wp2
  go_ret
  exact ⟨_, _, rfl, HL.out, below_box w _⟩

theorem lives9_any (w : World) : Calls Try.prog 13 #[] w fun e w' => e = .returned (.bool true) ∧ Below w.heap.size w w' := by
  have C1 : Hid (∀ (u : World) (v x : Value), IntsZ u v [3, 1] → SegsAt u x twoL → Calls Try.prog 7 #[v, x] u fun e u' => ∃ a c, e = .returned (.tuple #[.slice a 2 c, .int .i64 0]) ∧ PtsAt u' (.slice a 2 c) [⟨3, ⟨100, 8, 1, 1⟩⟩, ⟨1, ⟨200, 4, 2, 0⟩⟩] ∧ Below u.heap.size u u') := hid_mk (fun u v x hv hx => by
    have h := bdsplit v x [3, 1] twoL u hv hx twoL_is (by decide) (by decide)
    rw [show splE [3, 1] twoL = 0 by decide +kernel, sameP_iff.1 (show sameP (splR [3, 1] twoL) [⟨3, ⟨100, 8, 1, 1⟩⟩, ⟨1, ⟨200, 4, 2, 0⟩⟩] = true by decide +kernel)] at h
    refine h.mono ?_
    rintro e u' ⟨x, he, hp, hb⟩
    obtain ⟨a, c, rfl⟩ := hp.len
    exact ⟨a, c, he, hp, hb⟩)
  have C2 : Hid (∀ (u : World) (x : Value), SegsAt u x twoL → Calls Try.prog 9 #[.agg #[.int .i64 3, .bool true], .int .i64 4, .int .i64 2, x] u fun e u' => ∃ a c, e = .returned (.tuple #[.slice a 2 c, .int .i64 0]) ∧ PtsAt u' (.slice a 2 c) [⟨3, ⟨100, 8, 2, 129⟩⟩, ⟨0, ⟨200, 4, 2, 32770⟩⟩] ∧ Below u.heap.size u u') := hid_mk (fun u x hx => by
    have h := bdpacked 3 4 true 2 x twoL u (by constructor <;> decide) (by constructor <;> decide) (by constructor <;> decide) hx twoL_is (by decide)
    rw [show pckE 3 4 2 twoL = 0 by decide +kernel, sameP_iff.1 (show sameP (pckR 3 4 true 2 twoL) [⟨3, ⟨100, 8, 2, 129⟩⟩, ⟨0, ⟨200, 4, 2, 32770⟩⟩] = true by decide +kernel)] at h
    refine h.mono ?_
    rintro e u' ⟨x, he, hp, hb⟩
    obtain ⟨a, c, rfl⟩ := hp.len
    exact ⟨a, c, he, hp, hb⟩)
  have HI := hid_mk (IntsZ.lit w [3, 1] 3)
  have HB0 := hid_mk (below_box w (.cells ([3, 1].map (Value.int .i64)).toArray 3))
  go_enter Try.func13, Try.ntmps13
  go_wp2_with fail
  refine (ltwo _).mono ?_
  rintro e w1 ⟨ta, tc, rfl, ht, hb⟩
  have HI1 := hid_mk (HI.out.below hb)
  have HB1 := hid_mk (below_then HB0.out hb)
  have HT := hid_mk ht
  clear hb ht HI HB0
  go_wp2_with fail
  refine (C1.out _ _ _ HI1.out HT.out).mono ?_
  rintro e w2 ⟨pa, pc, rfl, hp, hb⟩
  have HB2 := hid_mk (below_then HB1.out hb)
  have HP2 := hid_mk hp
  clear hb hp HI1 HB1 HT
  go_wp2_with fail
  refine (ltwo _).mono ?_
  rintro e w3 ⟨ta, tc, rfl, ht, hb⟩
  have HB3 := hid_mk (below_then HB2.out hb)
  have HP3 := hid_mk (HP2.out.below hb)
  have HT := hid_mk ht
  clear hb ht HB2 HP2
  go_wp2_with fail
  refine (C2.out _ _ HT.out).mono ?_
  rintro e w4 ⟨qa, qc, rfl, hq, hb⟩
  have HB4 := hid_mk (below_then HB3.out hb)
  have HP4 := hid_mk (HP3.out.below hb)
  have HQ4 := hid_mk hq
  have HB5 := hid_mk (below_box w4 (.cells (ptCells [⟨3, ⟨100, 8, 1, 1⟩⟩, ⟨1, ⟨200, 4, 2, 0⟩⟩]).toArray 40))
  have HL5 := hid_mk (PtsAt.lit w4 [⟨3, ⟨100, 8, 1, 1⟩⟩, ⟨1, ⟨200, 4, 2, 0⟩⟩] 40)
  clear hb hq HB3 HP3 HT
  go_wp2_with fail
  refine (kpts_any _ _ _ _ _ (HP4.out.below HB5.out) HL5.out (by decide)).mono ?_
  rw [sameP_self]
  rintro e w5 ⟨rfl, hb⟩
  have HB6 := hid_mk ((HB4.out.trans (HB5.out.mono HB4.out.size)).trans (hb.mono (Nat.le_trans HB4.out.size HB5.out.size)))
  have HQ6 := hid_mk ((HQ4.out.below HB5.out).below hb)
  have HB7 := hid_mk (below_box w5 (.cells (ptCells [⟨3, ⟨100, 8, 2, 129⟩⟩, ⟨0, ⟨200, 4, 2, 32770⟩⟩]).toArray 46))
  have HL7 := hid_mk (PtsAt.lit w5 [⟨3, ⟨100, 8, 2, 129⟩⟩, ⟨0, ⟨200, 4, 2, 32770⟩⟩] 46)
  clear hb HB4 HP4 HQ4 HB5 HL5
  go_wp2_with fail
  refine (kpks_any _ _ _ _ _ (HQ6.out.below HB7.out) HL7.out (by decide)).mono ?_
  rw [sameP_self]
  rintro e w6 ⟨rfl, hb⟩
  have HB8 := hid_mk ((HB6.out.trans (HB7.out.mono HB6.out.size)).trans (hb.mono (Nat.le_trans HB6.out.size HB7.out.size)))
  clear hb
  go_wp2_with fail
  go_ret
  exact ⟨rfl, HB8.out⟩
/-- a drawn number within bounds -/
theorem pickN (n : Int) (m : Nat) (h1 : 0 < m) : ∃ k : Nat, k < m ∧ n % (m : Int) = k := by
  have h := Int.emod_nonneg n (show (m : Int) ≠ 0 by omega)
  have h3 := Int.emod_lt_of_pos n (show (0 : Int) < m by omega)
  exact ⟨(n % (m : Int)).toNat, by omega, by omega⟩
theorem ptB_self (x : Pt) : ptB x x = true := ptB_iff.2 rfl
theorem mk4_true : ((markN 4 true false : Nat) : Int) = 132 := by decide
theorem mk4_false : ((markN 4 false false : Nat) : Int) = 32772 := by decide
theorem and7 : bits .and .u16 132 7 = 4 ∧ bits .and .u16 32772 7 = 4 := by decide +kernel
theorem stb_no {L : List Sg} (h : mayE L ≠ 0) : stbB L = [] ∧ ptbB L = [] := by
  unfold stbB ptbB
  rw [if_neg h, if_neg h]
  exact ⟨rfl, rfl⟩
theorem stb_len {L : List Sg} (h : mayE L = 0) : (stbB L).length = 16 * L.length ∧ (ptbB L).length = 16 * L.length := by
  unfold stbB ptbB
  rw [if_pos h, if_pos h, tabB_length, tabB_length, stbL_len, ptbL_len]
  exact ⟨rfl, rfl⟩
theorem may_len {L : List Sg} (hs : isSgs L) (h : mayE L = 0) : 0 < L.length ∧ L.length ≤ 64 := by
  obtain ⟨h1, h2⟩ := mayE_ok h
  exact ⟨h2, ((segE_ok hs).1 h1).1⟩
theorem BytesAt.lenB {w : World} {v : Value} {l : List Int} (h : BytesAt w v l) : ∃ a c, v = .slice a l.length c := by
  rcases h with ⟨⟨a, c, rfl, _⟩, rfl⟩ | ⟨b, o, c, rfl, _⟩
  · exact ⟨a, c, rfl⟩
  · exact ⟨_, c, rfl⟩
end Go.Proofs.Ytgdokgpplldddaa

/- How a parameter of type []api.Seg opens. Conditions: as each theorem names them. -/
namespace Go.Proofs.Ytgdokgpplldddaa
open Go.ChangeShapes Go.WideShapes Go.ChangeAt Go.RowKit
set_option linter.unusedVariables false
set_option maxRecDepth 100000

section
variable {H : Type} {enc : TypeId × Value → H} {W : World} {r : Reach} {b0 : Nat} {v : Value} {d : DataW H} {p : List MemPlace}
instance : Inhabited Sg := ⟨⟨0, 0, false⟩⟩
theorem list3 {α : Type} {l : List α} (h : l.length = 3) : ∃ a b c, l = [a, b, c] := by
  match l, h with
  | [a, b, c], _ => exact ⟨a, b, c, rfl⟩
theorem open_segs (hval : Value.okWide Try.prog W r b0 27 v) (h : DataW.Trod enc Try.prog W 0 (fun _ => true) true 27 v d p) :
    ∃ L, SegsAt W v L ∧ isSgs L ∧ L.length ≤ maxLen := by
  obtain ⟨a, len, cap, rfl⟩ := okWide_slice Try.underlying27 hval
  obtain ⟨fuel, hf⟩ := h
  rcases Go.Deep.open_slice Try.underlying27 hf with ⟨hcs, _⟩ | ⟨a', len', cap', m, n, D, Pl, hcs, _, hle, hmax, hm, _, hx⟩
  · simp [Value.cells] at hcs
    obtain ⟨rfl, rfl, rfl⟩ := hcs
    exact ⟨[], Or.inl ⟨⟨_, _, rfl, fun _ => rfl⟩, rfl⟩, (fun d hd => by cases hd), by simp⟩
  · simp [Value.cells] at hcs
    obtain ⟨rfl, rfl, rfl⟩ := hcs
    simp only [if_true] at hm
    subst hm
    have hC : Try.prog.cellsOf 63 = 3 := by kernel_rfl
    have hC64 : Try.prog.cellsOf 34 = 1 := by kernel_rfl
    have hC32 : Try.prog.cellsOf 35 = 1 := by kernel_rfl
    have hCb : Try.prog.cellsOf 4 = 1 := by kernel_rfl
    have each : ∀ i, i < len → ∃ x : Sg, (W.cell? (a'.add (i * 3)) = some (.int .u64 x.a) ∧ W.cell? (a'.add (i * 3 + 1)) = some (.int .u32 x.n) ∧ W.cell? (a'.add (i * 3 + 2)) = some (.bool x.t)) ∧ isSg x := fun i hi => by
      obtain ⟨cs', h1, h2⟩ := hx i (by omega)
      rw [hC] at h1
      obtain ⟨_, hlen, hcell⟩ := World.cells?_some h1
      obtain ⟨v0, v1, v2, rfl⟩ := list3 hlen
      obtain ⟨xs, k, hk, hxy, _, hxl, hfd⟩ := DataW.trod_struct Try.underlying63 h2
      obtain ⟨y0, y1, y2, rfl⟩ := list3 hxl
      have g0 := hfd 0 _ rfl
      have g1 := hfd 1 _ rfl
      have g2 := hfd 2 _ rfl
      simp [hC64, hC32, hCb] at g0 g1 g2
      obtain ⟨n0, e0, _, w0⟩ := DataW.trod_int Try.underlying34 g0
      obtain ⟨n1, e1, _, w1⟩ := DataW.trod_int Try.underlying35 g1
      obtain ⟨n2, e2, _⟩ := DataW.trod_bool Try.underlying4 g2
      simp at e0 e1 e2
      subst e0 e1 e2
      have c0 := hcell 0 (by omega)
      have c1 := hcell 1 (by omega)
      have c2 := hcell 2 (by omega)
      rw [Go.Deep.add_add] at c0 c1 c2
      have u0 := bounds_u64 w0
      have u1 := bounds_u32 w1
      exact ⟨⟨n0, n1, n2⟩, ⟨c0, c1, c2⟩, ⟨⟨by simp only; omega, by simp only; omega⟩, by simp only; omega, by simp only; omega⟩⟩
    obtain ⟨f, hf2⟩ := Go.Deep.choose_lt each
    have hlen : ((List.range len).map f).length = len := by simp
    have hat : ∀ i, i < len → sat ((List.range len).map f) i = f i := fun i hi => by simp [sat, List.getD, hi]
    refine ⟨(List.range len).map f, ?_, (fun d hd => by
      obtain ⟨i, hi, rfl⟩ := List.mem_map.1 hd
      exact (hf2 i (by simpa using hi)).2), by rw [hlen]; omega⟩
    by_cases h0 : len = 0
    · subst h0
      exact Or.inl ⟨⟨_, _, rfl, fun h => by cases h⟩, rfl⟩
    · obtain ⟨b, off, spot⟩ := a'
      have hspot : spot = none := by simpa [Addr.add] using World.cell?_spot (hf2 0 (by omega)).1.1
      subst hspot
      have h00 := (hf2 0 (by omega)).1.1
      rw [add_plain] at h00
      refine Or.inr ⟨b, off, m, by rw [hlen], World.block_lt_of_cell? W _ h00, by omega, fun j hj => ?_⟩
      rw [hlen] at hj
      have h1 := (hf2 j hj).1
      simp only [add_plain] at h1
      rw [hat j hj]
      exact ⟨h1.1, by rw [Nat.add_assoc]; exact h1.2.1, by rw [Nat.add_assoc]; exact h1.2.2⟩
end
end Go.Proofs.Ytgdokgpplldddaa
