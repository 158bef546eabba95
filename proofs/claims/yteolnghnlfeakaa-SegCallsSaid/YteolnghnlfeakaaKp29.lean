/- Rf8 Rf9: joined texts. Conditions: as each theorem names them. -/
import Derived.Test.YteolnghnlfeakaaKp28
import Derived.Maps.AppendAt
import Derived.BigRegion
/- The reference's Image of layer 2. Conditions: as the theorem names them. -/
namespace Go.Proofs.Yteolnghnlfeakaa
open Go.ChangeShapes Go.WideShapes Go.ChangeAt Go.RowKit
set_option linter.unusedVariables false

set_option maxRecDepth 100000 in
set_option maxHeartbeats 2000000 in
theorem rimage_any (base rp lb bb cL cB : Nat) (aB : Option Addr) (D : Nat → Nat) (L : List (Int × Int)) (M : List Int) (w : World) (h : IsRef w base rp lb bb cL cB aB D L M) (hs : sumR L ≤ 1048576) :
    Calls Try.prog 33 #[.pointer (some ⟨rp, 0, none⟩)] w fun e w' => ∃ v, e = .returned v ∧ NewBytes w.heap.size w' v M ∧ Below w.heap.size w w' := by
  obtain ⟨i0, hi, hz0, hz1, hz2⟩ := info_parts rowU8
  have H := hid_mk h
  have HS := hid_mk hs
  have HI := hid_mk hi
  have HZ := hid_mk (And.intro hz0 (And.intro hz1 hz2))
  have o1 := h.o1
  have hrl := World.block_lt_of_cell? _ _ o1
  have h16i : (L.length : Int) ≤ 16 := by have := h.n16; omega
  clear h hs hi hz0 hz1 hz2
  go_enter Try.func33, Try.ntmps33
  go_wp2_with fail
  go_loopw [3, 4] (fun s i wr => ∃ k : Nat, k ≤ L.length ∧ i = .int .i64 k ∧ Hid (wr.ownsRow w.heap.size 5 1 s (off L k) ((M.take (off L k)).map (Value.int .u8))) ∧ Below w.heap.size w wr) (fun _ i _ => L.length - (intOf i).toNat)
  case atStart => exact ⟨0, Nat.zero_le _, rfl, hid_mk (by rw [off_zero]; exact World.ownsRow_nil _ _ _ _), Below.refl _ _⟩
  case round =>
    obtain ⟨k, hk, rfl, hO, hbel⟩ := hrel
    have p1 := (hbel.cell (p := ⟨rp, 1, none⟩) hrl).trans o1
    have H2 := hid_mk (H.out.below hbel)
    have HB := hid_mk hbel
    by_cases hlt : k < L.length
    · rw [H2.out.aB (by omega)] at p1
      have ro := H2.out.rows k hlt
      have hpl := part_len H2.out.len hlt (M := M)
      have hroom := off_room L k hlt
      have hst := off_step L k hlt
      have hlen := H2.out.len
      have hsum := HS.out
      have hlk : (k : Int) < (L.length : Int) := by omega
      have hrun := run_append_own (P := Try.prog) wr w.heap.size 38 38 5 i0 _ 1 1 Try.underlying38 HI.out HZ.out.1 HZ.out.2.1 HZ.out.2.2 rfl (by decide) u3 (off L k) _ hO.out ⟨D k, 0, none⟩ (at_ L k).2.toNat (at_ L k).2.toNat ((part L M k).map (Value.int .u8)) (by simp; omega) (news_of (c := (at_ L k).2.toNat) (fun j hj => by
        rw [Nat.zero_add]
        exact cellB (H2.out.parts k hlt) j hj)) one_of (by simp [maxLen]; omega) (by omega) hbel.size
      obtain ⟨v', w2, h1, h2, h3, _⟩ := hrun
      have hnew : (M.take (off L k)).map (Value.int .u8) ++ (part L M k).map (Value.int .u8) = (M.take (off L (k + 1))).map (Value.int .u8) := by
        rw [← List.map_append, hst, List.take_add]
        rfl
      rw [hnew, ← hst] at h2
      have hb2 : Below w.heap.size w w2 := hbel.trans (grown_below h3 hbel.size (fun q hq => (hO.out.lt q hq).1))
      have HR := hid_mk h1
      have HO2 := hid_mk h2
      have HB2 := hid_mk hb2
      generalize (at_ L k).2.toNat = m at *
      clear h1 h2 h3 hnew hpl hroom hst hlen hsum hb2 hbel
      go_wp2_with (at_builtin; refine wpList_append_run (v := u3) (u := .slice (some ⟨D k, 0, none⟩) m m) (v' := v') (w' := w2) rfl (.tmp 14) (.tmp 21) 38 rfl (by first | rfl | go_simp) (by first | rfl | go_simp) HR.out ?_)
      go_roundw
      case rel => exact ⟨k + 1, by omega, by go_num, HO2, HB2.out⟩
      case measure => simp [intOf] <;> omega
    · obtain rfl : k = L.length := by omega
      go_wp2_with fail
      go_ret
      refine ⟨_, rfl, ?_, HB.out⟩
      have hn := newBytes_of hO.out
      rw [off_all, ← H2.out.len, List.take_of_length_le (Nat.le_refl _)] at hn
      exact hn
end Go.Proofs.Yteolnghnlfeakaa

/- The reference's New of layer 2. Conditions: as each theorem names them. -/
namespace Go.Proofs.Yteolnghnlfeakaa
open Go.ChangeShapes Go.WideShapes Go.ChangeAt Go.RowKit
set_option linter.unusedVariables false
set_option maxRecDepth 100000

theorem rowBB : (Try.prog.info? 38).map (fun i => (i.zero, i.size, i.bytes)) = some (some (.slice none 0 0), 1, 24) := by kernel_rfl
theorem rnew_no (v : Value) (L : List (Int × Int)) (w : World) (hv : RegsAt w v L) (hu : isRegs L) (hm : L.length ≤ 4611686018427387904) (hno : chkE L ≠ 0) :
    Calls Try.prog 19 #[v] w fun e w' => e = .returned (.tuple #[.pointer none, .int .i64 2]) ∧ Below w.heap.size w w' := by
  have hchk := rcheck_any v L w hv hu hm
  have h2 : (chkE L != 0) = true := by simp; exact hno
  clear hv hu hm hno
  generalize chkE L = x at *
  go_enter Try.func19, Try.ntmps19
  go_wp2_with fail
  refine hchk.mono ?_
  rintro e w1 ⟨rfl, m, rfl⟩
  go_wp2_with fail
  go_ret2
  exact ⟨rfl, below_drewN _ _⟩

/-- append([]api.Region{}, l...): a row of the call's own, not nil -/
theorem append_regs (v : Value) (L : List (Int × Int)) (w : World) (hv : RegsAt w v L) (hl : L.length ≤ 1000000) :
    ∃ g cap w', (∀ ty, (Builtin.append_ #[29, 29] ty #[.slice (some ⟨w.heap.size, 0, none⟩) 0 0, v]).run Try.prog (w.alloc (.cells #[] 28)) = .ok (.slice (some ⟨g, 0, none⟩) L.length cap) w') ∧
      (∀ j, j < L.length → w'.cell? ⟨g, j * 2, none⟩ = some (.int .u64 (at_ L j).1) ∧ w'.cell? ⟨g, j * 2 + 1, none⟩ = some (.int .u64 (at_ L j).2)) ∧ w.heap.size ≤ g ∧ g < w'.heap.size ∧ Below w.heap.size w w' := by
  obtain ⟨i0, hi, hz0, hz1, hz2⟩ := info_parts rowReg2
  have hown := World.ownsRow_made (e := 28) (size := 2) (base := w.heap.size) w #[] 0 (Nat.le_refl _) (by simp [maxLen]) rfl
  have hbase : w.heap.size ≤ (w.alloc (.cells #[] 28)).heap.size := by rw [sizeA]; omega
  have hfin : ∀ (v' : Value) (w' : World), w'.ownsRow w.heap.size 28 2 v' L.length (regCells L) → v' ≠ .slice none 0 0 → ∃ g cap, v' = .slice (some ⟨g, 0, none⟩) L.length cap ∧
      (∀ j, j < L.length → w'.cell? ⟨g, j * 2, none⟩ = some (.int .u64 (at_ L j).1) ∧ w'.cell? ⟨g, j * 2 + 1, none⟩ = some (.int .u64 (at_ L j).2)) ∧ w.heap.size ≤ g ∧ g < w'.heap.size := by
    intro v' w' ho hne
    rcases ho.2 with ⟨rfl, h0⟩ | ⟨g, cap, cur, rfl, hg, hh, hn, hm, hs, ht⟩
    · exact absurd rfl hne
    · refine ⟨g, cap, rfl, fun j hj => ?_, hg, lt_blk hh⟩
      have hr := regCells_at L j hj
      have hlr := regCells_length L
      have hc := fun i (u : Value) (hu : (regCells L)[i]? = some u) => ho.cells (g := g) rfl i u hu
      have e : ∀ i, (⟨g, 0, none⟩ : Addr).add i = ⟨g, i, none⟩ := fun i => by unfold Addr.add; split <;> simp_all
      exact ⟨by rw [← e]; exact hc _ _ hr.1, by rw [← e]; exact hc _ _ hr.2⟩
  rcases hv with ⟨⟨a, c, rfl, hac⟩, rfl⟩ | ⟨b, o, c, rfl, hb1, hb2, hb3⟩
  · cases a with
    | none =>
      refine ⟨w.heap.size, 0, w.alloc (.cells #[] 28), fun ty => by rw [hac rfl]; exact run_append_owned_none _ w.heap.size 29 ty 28 i0 2 Try.underlying29 hi _ 0 [] hown, fun j hj => by simp at hj, Nat.le_refl _, by rw [sizeA]; omega, (Below.refl _ _).alloc (Nat.le_refl _) _⟩
    | some a =>
      obtain ⟨v', w', h1, h2, h3, h4⟩ := run_append_own (w.alloc (.cells #[] 28)) w.heap.size 29 29 28 i0 _ 2 16 Try.underlying29 hi hz0 hz1 hz2 rfl (by decide) _ 0 [] hown a 0 c [] rfl (fun j u hu => by simp at hu) (fun u hu => by cases hu) (by simp [maxLen]) (by decide) hbase
      obtain ⟨g, cap, rfl, q1, q2, q3⟩ := hfin v' w' h2 (fun e => by simpa using h4.1 e)
      exact ⟨g, cap, w', fun ty => h1, q1, q2, q3, ((Below.refl _ _).alloc (Nat.le_refl _) _).trans (grown_below h3 hbase (fun k hk => by simp [Value.ownBlock] at hk; omega))⟩
  · have hba : Below w.heap.size w (w.alloc (.cells #[] 28)) := Below.alloc (Below.refl _ _) (Nat.le_refl _) _
    have hb3' : ∀ j, j < L.length → (w.alloc (.cells #[] 28)).cell? ⟨b, o + j * 2, none⟩ = some (.int .u64 (at_ L j).1) ∧ (w.alloc (.cells #[] 28)).cell? ⟨b, o + j * 2 + 1, none⟩ = some (.int .u64 (at_ L j).2) := fun j hj =>
      ⟨(hba.cell (p := ⟨b, o + j * 2, none⟩) hb1).trans (hb3 j hj).1, (hba.cell (p := ⟨b, o + j * 2 + 1, none⟩) hb1).trans (hb3 j hj).2⟩
    obtain ⟨v', w', h1, h2, h3, h4⟩ := run_append_own (w.alloc (.cells #[] 28)) w.heap.size 29 29 28 i0 _ 2 16 Try.underlying29 hi hz0 hz1 hz2 rfl (by decide) _ 0 [] hown ⟨b, o, none⟩ L.length c (regCells L) (regCells_length L) (newsR_of (c := c) hb3') oneR_of (by simp [maxLen]; omega) (by omega) hbase
    rw [List.nil_append, Nat.zero_add] at h2
    obtain ⟨g, cap, rfl, q1, q2, q3⟩ := hfin v' w' h2 (fun e => by simpa using h4.1 e)
    exact ⟨g, cap, w', fun ty => h1, q1, q2, q3, ((Below.refl _ _).alloc (Nat.le_refl _) _).trans (grown_below h3 hbase (fun k hk => by simp [Value.ownBlock] at hk; omega))⟩
end Go.Proofs.Yteolnghnlfeakaa
