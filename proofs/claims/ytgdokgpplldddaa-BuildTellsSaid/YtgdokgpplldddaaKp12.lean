/- Dsc7 Kit: joined texts. Conditions: as each theorem names them. -/
import Derived.Test.YtgdokgpplldddaaKp11
import Derived.Test.YtgdokgpplldddaaKp01
import Derived.Test.YtgdokgpplldddaaRows
import Derived.WalkKit
import Derived.ProofKit
/- Lists of descriptors; contracts of desc's Table. Conditions: as each theorem names them. -/
namespace Go.Proofs.Ytgdokgpplldddaa
open Go.ChangeShapes Go.WideShapes Go.ChangeAt Go.RowKit
set_option linter.unusedVariables false
set_option maxRecDepth 100000

def dat (L : List Dsc) (i : Nat) : Dsc := L.getD i ⟨0, 0, 0, 0⟩
def isDscs (L : List Dsc) : Prop := ∀ d ∈ L, isDsc d
theorem isDsc_zero : isDsc ⟨0, 0, 0, 0⟩ := ⟨by simp, by simp, by simp, by simp⟩
theorem dat_is {L : List Dsc} (h : isDscs L) (i : Nat) : isDsc (dat L i) := by
  unfold dat
  by_cases hi : i < L.length
  · rw [List.getD_eq_getElem?_getD, List.getElem?_eq_getElem hi]
    exact h _ (List.getElem_mem hi)
  · rw [List.getD_eq_getElem?_getD, List.getElem?_eq_none (by omega)]
    exact isDsc_zero
/-- four cells of a block hold a descriptor -/
def at4 (w : World) (b o : Nat) (d : Dsc) : Prop := w.cell? ⟨b, o, none⟩ = some (.int .u64 d.a) ∧ w.cell? ⟨b, o + 1, none⟩ = some (.int .u32 d.l) ∧ w.cell? ⟨b, o + 2, none⟩ = some (.int .u16 d.f) ∧ w.cell? ⟨b, o + 3, none⟩ = some (.int .u16 d.n)
theorem at4.below {w w' : World} {b o : Nat} {d : Dsc} {B : Nat} (h : at4 w b o d) (hb : Below B w w') (hB : b < B) : at4 w' b o d :=
  ⟨(hb.cell (p := ⟨b, o, none⟩) hB).trans h.1, (hb.cell (p := ⟨b, o + 1, none⟩) hB).trans h.2.1, (hb.cell (p := ⟨b, o + 2, none⟩) hB).trans h.2.2.1, (hb.cell (p := ⟨b, o + 3, none⟩) hB).trans h.2.2.2⟩
/-- a slice of descriptors, nil too, that reads as L -/
def DescsAt (w : World) (v : Value) (L : List Dsc) : Prop :=
  ((∃ a c, v = .slice a 0 c ∧ (a = none → c = 0)) ∧ L = []) ∨ ∃ b o c : Nat, v = .slice (some ⟨b, o, none⟩) L.length c ∧ b < w.heap.size ∧ L.length ≤ c ∧ ∀ j, j < L.length → at4 w b (o + j * 4) (dat L j)
theorem DescsAt.below {w w' : World} {v : Value} {L : List Dsc} (h : DescsAt w v L) (hb : Below w.heap.size w w') : DescsAt w' v L := by
  rcases h with h | ⟨b, o, c, h1, h2, h3, h4⟩
  · exact Or.inl h
  · have := hb.size
    exact Or.inr ⟨b, o, c, h1, by omega, h3, fun j hj => (h4 j hj).below hb h2⟩
theorem DescsAt.len {w : World} {v : Value} {L : List Dsc} (h : DescsAt w v L) : ∃ a c, v = .slice a L.length c := by
  rcases h with ⟨⟨a, c, rfl, _⟩, rfl⟩ | ⟨b, o, c, rfl, _⟩
  · exact ⟨a, c, rfl⟩
  · exact ⟨_, c, rfl⟩

/-- the bytes of all of them -/
def tabB : List Dsc → List Int
  | [] => []
  | d :: L => dB d ++ tabB L
theorem tabB_length : ∀ L : List Dsc, (tabB L).length = 16 * L.length
  | [] => rfl
  | d :: L => by simp [tabB, dB_length, tabB_length L]; omega
theorem tabB_bytes : ∀ L : List Dsc, isBytes (tabB L)
  | [] => isBytes_nil
  | d :: L => isBytes_append (dB_bytes d) (tabB_bytes L)
theorem tabB_append : ∀ a b : List Dsc, tabB (a ++ b) = tabB a ++ tabB b
  | [], _ => rfl
  | d :: a, b => by simp [tabB, tabB_append a b]
theorem tabB_step (L : List Dsc) (k : Nat) (h : k < L.length) : tabB (L.take (k + 1)) = tabB (L.take k) ++ dB (dat L k) := by
  rw [List.take_succ_eq_append_getElem h, tabB_append]
  simp [tabB, dat, List.getD, h]

theorem below_setRow {B : Nat} {a w : World} (h : Below B a w) {g : Nat} (hg : B ≤ g) (cs : Array Value) : Below B a (w.setRow g cs) :=
  ⟨h.os, h.tape, h.output, by have := h.size; simpa using this, fun k hk => by rw [setRow_other _ _ _ _ (by omega)]; exact h.block k hk⟩

set_option maxHeartbeats 1000000 in
theorem table_any (v : Value) (L : List Dsc) (w : World) (hv : DescsAt w v L) (hu : isDscs L) (h300 : L.length ≤ 300) :
    Calls Try.prog 43 #[v] w fun e w' => e = .returned (.slice (some ⟨w.heap.size, 0, none⟩) (16 * L.length) (16 * L.length)) ∧ Row w' w.heap.size 5 (tabB L) ∧ Below w.heap.size w w' := by
  have hmk : ∀ u : World, (Instr.makeSlice 49 (.int .i64 (16 * (L.length : Int))) (.int .i64 (16 * (L.length : Int)))).run Try.prog u = .ok (.slice (some ⟨u.heap.size, 0, none⟩) (16 * L.length) (16 * L.length)) (u.alloc (.cells (bv (List.replicate (16 * L.length) 0)) 5)) := fun u => by
    have := makeB u .i64 (16 * L.length) (by omega)
    rw [show ((16 * L.length : Nat) : Int) = 16 * (L.length : Int) from by omega] at this
    exact this
  have hz : List.replicate (16 * L.length) 0 = put (List.replicate (16 * L.length) 0) 0 (tabB (L.take 0)) := by
    rw [List.take_zero]
    exact (put_nil _ _).symm
  rcases hv with ⟨⟨va, vc, rfl, _⟩, rfl⟩ | ⟨b, o, c, rfl, hb1, hb2, hb3⟩
  · have hm0 : ∀ u : World, (Instr.makeSlice 49 (.int .i64 0) (.int .i64 0)).run Try.prog u = .ok (.slice (some ⟨u.heap.size, 0, none⟩) 0 0) (u.alloc (.cells (bv []) 5)) := fun u => makeB u .i64 0 (by omega)
    clear hmk hz hu
    go_enter Try.func43, Try.ntmps43
    go_wp2_with fail
    go_loopw [4, 5, 6, 13] (fun _ _ _ i wr => i = .int .i64 0 ∧ wr = w.alloc (.cells (bv []) 5)) (fun _ _ _ i _ => 0)
    case atStart => exact ⟨rfl, rfl⟩
    case round =>
      obtain ⟨rfl, rfl⟩ := hrel
      go_wp2_with fail
      go_ret
      exact ⟨rfl, heap_alloc_new _ _, (Below.refl _ _).alloc (Nat.le_refl _) _⟩
  · have HC := hid_mk hb3
    have HU := hid_mk hu
    have h300i : (L.length : Int) ≤ 300 := by omega
    have HZ := hid_mk hz
    clear hb3 hu hz
    go_enter Try.func43, Try.ntmps43
    go_wp2_with fail
    go_loopw [4, 5, 6, 13] (fun _ _ _ i wr => ∃ k : Nat, k ≤ L.length ∧ i = .int .i64 k ∧ Row wr w.heap.size 5 (put (List.replicate (16 * L.length) 0) 0 (tabB (L.take k))) ∧ Below w.heap.size w wr) (fun _ _ _ i _ => L.length - (intOf i).toNat)
    case atStart => exact ⟨0, Nat.zero_le _, rfl, by rw [← HZ.out]; exact heap_alloc_new _ _, (Below.refl _ _).alloc (Nat.le_refl _) _⟩
    case round =>
      obtain ⟨k, hk, rfl, hrow, hbel⟩ := hrel
      by_cases hlt : k < L.length
      · obtain ⟨c0, c1, c2, c3⟩ := (HC.out k hlt).below hbel hb1
        have HROW := hid_mk hrow
        have HB := hid_mk hbel
        have HD := hid_mk (fun (u : World) (hr : Row u (wr.heap.size + 1) 111 (List.replicate 16 0)) => setDesc_any _ _ _ (dat L k) u hr (by simp) (dat_is HU.out k))
        have hge := hbel.size
        have hge2 := lt_blk hrow
        have hw16 : IntKind.i64.wrap (16 * (k : Int)) = 16 * (k : Int) := IntWalk.i64_in _ (by omega)
        have hle16 : 16 * (k : Int) ≤ 16 * (L.length : Int) := by omega
        clear hrow
        go_wp2_with fail
        refine (HD.out _ (by rw [Row, rep16]; exact row16 (wr.alloc _) _ _ _ (sizeA _ _))).mono ?_
        rintro e w1 ⟨rfl, hr, hc⟩
        have hb2 : Below wr.heap.size wr w1 := (((Below.refl _ _).alloc (Nat.le_refl _) _).alloc (by rw [sizeA]; omega) _).trans (hc.below (B := wr.heap.size) (by rw [sizeA, sizeA]; omega) (fun k hk => by omega))
        have hrow1 : Row w1 w.heap.size 5 (put (List.replicate (16 * L.length) 0) 0 (tabB (L.take k))) := keepB hb2 HROW.out
        have hplen : (put (List.replicate (16 * L.length) 0) 0 (tabB (L.take k))).length = 16 * L.length := by
          rw [put_length _ _ _ (by rw [tabB_length]; simp; omega)]
          simp
        have hcp := fun ty => copyB w1.drew ty w.heap.size (16 * k) (16 * L.length - 16 * k) (16 * L.length - 16 * k) (wr.heap.size + 1) 0 16 16 _ (dB (dat L k)) _ (show w1.drew.heap[w.heap.size]? = _ from hrow1) (by rw [dB_length]; omega) (fun j hj => by rw [Nat.zero_add]; exact cellB (show w1.drew.heap[wr.heap.size + 1]? = _ from hr) j hj) (by rw [hplen, dB_length]; omega)
        have hput : put (put (List.replicate (16 * L.length) 0) 0 (tabB (L.take k))) (16 * k) (dB (dat L k)) = put (List.replicate (16 * L.length) 0) 0 (tabB (L.take (k + 1))) := by
          have h := put_put (List.replicate (16 * L.length) 0) 0 (tabB (L.take k)) (dB (dat L k)) (by rw [tabB_length, dB_length]; simp; omega)
          rw [tabB_length, List.length_take, Nat.zero_add, show 16 * min k L.length = 16 * k from by omega] at h
          rw [h, tabB_step L k hlt]
        have HPUT := hid_mk hput
        have HR1 := hid_mk hrow1
        have HB1 := hid_mk (hbel.trans (hb2.mono hbel.size))
        clear hr hc hb2 hrow1 hplen hput hge hge2 hbel c0 c1 c2 c3
        go_wp2_with fail
        go_region
        go_wp2_with fail
        go_roundw
        case rel => exact ⟨k + 1, by omega, by go_num, by rw [← HPUT.out]; exact setRow_heap _ _ _ _ _ _ (show w1.drew.heap[w.heap.size]? = _ from HR1.out), below_setRow HB1.out.drew (Nat.le_refl _) _⟩
        case measure => simp [intOf] <;> omega
      · obtain rfl : k = L.length := by omega
        have hrow2 := hrow
        rw [List.take_of_length_le (Nat.le_refl _), put_all _ _ (by rw [tabB_length]; simp)] at hrow2
        have HROW := hid_mk hrow2
        have HB := hid_mk hbel
        clear hrow hrow2 hbel
        go_wp2_with fail
        go_ret
        exact ⟨rfl, HROW.out, HB.out⟩
end Go.Proofs.Ytgdokgpplldddaa

/- Contracts of the kit's small functions: Pick. Conditions: as each theorem names them. -/
namespace Go.Proofs.Ytgdokgpplldddaa
open Go.ChangeShapes Go.WideShapes Go.ChangeAt Go.RowKit
set_option linter.unusedVariables false
set_option maxRecDepth 100000

theorem pick_any (n m : Int) (w : World) (h : 1 ≤ m) (hm : m ≤ 9223372036854775807) :
    Calls Try.prog 26 #[.int .i64 n, .int .i64 m] w fun e w' => e = .returned (.int .i64 (n % m)) ∧ w = w' := by
  have ht : n.tmod m = n % m ∨ (n.tmod m < 0 ∧ n.tmod m + m = n % m) := by
    by_cases hn : n < 0
    · have e1 := Int.tmod_eq_emod (a := n) (b := m)
      have e2 := Int.emod_nonneg n (show m ≠ 0 by omega)
      have e3 := Int.emod_lt_of_pos n (show 0 < m by omega)
      by_cases hd : m ∣ n
      · left
        rw [e1]
        simp [hd]
      · right
        rw [if_neg (by simp [hd]; omega)] at e1
        omega
    · left
      exact Int.tmod_eq_emod_of_nonneg (by omega)
  have hb0 := Int.emod_nonneg n (show m ≠ 0 by omega)
  have hb1 := Int.emod_lt_of_pos n (show 0 < m by omega)
  rcases ht with ht | ⟨ht1, ht2⟩
  · have H : Hid (n.tmod m = n % m) := ht
    have ht0 : 0 ≤ n.tmod m := by omega
    clear ht
    go_enter Try.func26, Try.ntmps26
    go_wp2
    go_ret
    exact ⟨ret_eq (by rw [← H.out]; rfl), rfl⟩
  · have H : Hid (n.tmod m + m = n % m) := ht2
    have hlo : 0 ≤ n.tmod m + m := by omega
    clear ht2
    go_enter Try.func26, Try.ntmps26
    go_wp2
    go_ret
    exact ⟨ret_eq (by rw [← H.out]; rfl), rfl⟩

theorem pick_at (n m r : Int) (w : World) (h : 1 ≤ m) (hm : m ≤ 9223372036854775807) (hr : n % m = r) :
    Calls Try.prog 26 #[.int .i64 n, .int .i64 m] w fun e w' => e = .returned (.int .i64 r) ∧ w = w' := by
  subst hr
  exact pick_any n m w h hm
end Go.Proofs.Ytgdokgpplldddaa
