/- The reference's Image of layer 2. Conditions: as the theorem names them. -/
import Derived.Test.YtfjccpalkdmniaaRf7
namespace Go.Proofs.Ytfjccpalkdmniaa
open Go.ChangeShapes Go.WideShapes Go.ChangeAt Go.RowKit
set_option linter.unusedVariables false

set_option maxRecDepth 100000 in
set_option maxHeartbeats 2000000 in
theorem rimage_any (base rp lb bb cL cB : Nat) (aB : Option Addr) (D : Nat → Nat) (L : List (Int × Int)) (M : List Int) (w : World) (h : IsRef w base rp lb bb cL cB aB D L M) (hs : sumR L ≤ 1048576) :
    Calls Try.prog 29 #[.pointer (some ⟨rp, 0, none⟩)] w fun e w' => ∃ v, e = .returned v ∧ NewBytes w.heap.size w' v M ∧ Below w.heap.size w w' := by
  obtain ⟨i0, hi, hz0, hz1, hz2⟩ := info_parts rowU8
  have H := hid_mk h
  have HS := hid_mk hs
  have HI := hid_mk hi
  have HZ := hid_mk (And.intro hz0 (And.intro hz1 hz2))
  have o1 := h.o1
  have hrl := World.block_lt_of_cell? _ _ o1
  have h16i : (L.length : Int) ≤ 16 := by have := h.n16; omega
  clear h hs hi hz0 hz1 hz2
  go_enter Try.func29, Try.ntmps29
  go_wp2_with fail
  go_loopw [3, 4] (fun s i wr => ∃ k : Nat, k ≤ L.length ∧ i = .int .i64 k ∧ Hid (wr.ownsRow w.heap.size 5 1 s (off L k) ((M.take (off L k)).map (Value.int .u8))) ∧ Below w.heap.size w wr) (fun _ i _ => L.length - (intOf i).toNat)
  case atStart => exact ⟨0, Nat.zero_le _, rfl, hid_mk (by rw [off_zero]; exact World.ownsRow_nil _ _ _ _), Below.refl _ _⟩
  case round =>
    obtain ⟨k, hk, rfl, hO, hbel⟩ := hrel
    have p1 := (hbel.cell (p := ⟨rp, 1, none⟩) hrl).trans o1
    have H2 := hid_mk (H.out.below hbel)
    have HB := hid_mk hbel
    by_cases hlt : k < L.length
    · rw [H2.out.aB (by omega)] at p1
      have ro := H2.out.rows k hlt
      have hpl := part_len H2.out.len hlt (M := M)
      have hroom := off_room L k hlt
      have hst := off_step L k hlt
      have hlen := H2.out.len
      have hsum := HS.out
      have hlk : (k : Int) < (L.length : Int) := by omega
      have hrun := run_append_own (P := Try.prog) wr w.heap.size 37 37 5 i0 _ 1 1 Try.underlying37 HI.out HZ.out.1 HZ.out.2.1 HZ.out.2.2 rfl (by decide) u3 (off L k) _ hO.out ⟨D k, 0, none⟩ (at_ L k).2.toNat (at_ L k).2.toNat ((part L M k).map (Value.int .u8)) (by simp; omega) (news_of (c := (at_ L k).2.toNat) (fun j hj => by
        rw [Nat.zero_add]
        exact cellB (H2.out.parts k hlt) j hj)) one_of (by simp [maxLen]; omega) (by omega) hbel.size
      obtain ⟨v', w2, h1, h2, h3, _⟩ := hrun
      have hnew : (M.take (off L k)).map (Value.int .u8) ++ (part L M k).map (Value.int .u8) = (M.take (off L (k + 1))).map (Value.int .u8) := by
        rw [← List.map_append, hst, List.take_add]
        rfl
      rw [hnew, ← hst] at h2
      have hb2 : Below w.heap.size w w2 := hbel.trans (grown_below h3 hbel.size (fun q hq => (hO.out.lt q hq).1))
      have HR := hid_mk h1
      have HO2 := hid_mk h2
      have HB2 := hid_mk hb2
      generalize (at_ L k).2.toNat = m at *
      clear h1 h2 h3 hnew hpl hroom hst hlen hsum hb2 hbel
      go_wp2_with (at_builtin; refine wpList_append_run (v := u3) (u := .slice (some ⟨D k, 0, none⟩) m m) (v' := v') (w' := w2) rfl (.tmp 14) (.tmp 21) 37 rfl (by first | rfl | go_simp) (by first | rfl | go_simp) HR.out ?_)
      go_roundw
      case rel => exact ⟨k + 1, by omega, by go_num, HO2, HB2.out⟩
      case measure => simp [intOf] <;> omega
    · obtain rfl : k = L.length := by omega
      go_wp2_with fail
      go_ret
      refine ⟨_, rfl, ?_, HB.out⟩
      have hn := newBytes_of hO.out
      rw [off_all, ← H2.out.len, List.take_of_length_le (Nat.le_refl _)] at hn
      exact hn
end Go.Proofs.Ytfjccpalkdmniaa
