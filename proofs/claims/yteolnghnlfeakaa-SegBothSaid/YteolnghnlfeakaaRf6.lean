/- The reference's Read of layer 2. Conditions: as each theorem names them. -/
import Derived.Test.YteolnghnlfeakaaRf5
namespace Go.Proofs.Yteolnghnlfeakaa
open Go.ChangeShapes Go.WideShapes Go.ChangeAt Go.RowKit
set_option linter.unusedVariables false

set_option maxRecDepth 100000 in
set_option maxHeartbeats 4000000 in
theorem rread_any (base rp lb bb cL cB : Nat) (aB : Option Addr) (D : Nat → Nat) (L : List (Int × Int)) (M : List Int) (a n : Int) (w : World) (h : IsRef w base rp lb bb cL cB aB D L M) (ha : U64 a) (hn : n < 9223372036854775808) :
    Calls Try.prog 51 #[.pointer (some ⟨rp, 0, none⟩), .int .u64 a, .int .i64 n] w fun e w' => ∃ v, e = .returned (.tuple #[v, .int .i64 (readE L a n)]) ∧ NewBytes w.heap.size w' v (readL L M a n) ∧ Below w.heap.size w w' := by
  have H := hid_mk h
  by_cases h0 : n < 0
  · clear h
    go_enter Try.func51, Try.ntmps51
    go_wp2_with fail
    go_ret2
    refine ⟨.slice none 0 0, ret_eq ?_, Or.inl ⟨rfl, ?_⟩, Below.refl _ _⟩
    · unfold readE
      rw [if_pos h0]
      rfl
    · unfold readL
      rw [loc_empty L a n (by omega)]
  · by_cases h1 : n = 0
    · subst h1
      clear h
      go_enter Try.func51, Try.ntmps51
      go_wp2_with fail
      go_ret2
      refine ⟨.slice none 0 0, ret_eq ?_, Or.inl ⟨rfl, ?_⟩, Below.refl _ _⟩
      · rfl
      · unfold readL
        rw [loc_empty L a 0 (by omega)]
    · have hf := rfind_any base rp lb bb cL cB aB D L M a n w h ha (by omega)
      obtain ⟨q, rfl⟩ : ∃ q : Nat, n = q := ⟨n.toNat, by omega⟩
      have hd : decide ((q : Int) < 0) = false := by simp
      have hz : ((q : Int) == 0) = false := by simp; omega
      have hcv : IntKind.u64.wrap (q : Int) = (q : Int) := by rw [IntKind.wrap_u64]; omega
      have hE : readE L a q = if (loc L a q).isSome then 0 else 5 := by
        unfold readE
        rw [if_neg h0, if_neg h1]
      have HE := hid_mk hE
      have HN0 := hid_mk hn
      clear h hE h0 h1 hn
      go_enter Try.func51, Try.ntmps51
      go_wp2_with fail
      refine hf.mono ?_
      rintro e w' ⟨x, y, rfl, hF, hb⟩
      have HB := hid_mk hb
      have H2 := hid_mk (H.out.below hb)
      rcases hF with ⟨h3, rfl, rfl⟩ | ⟨i, k, hi, h3, rfl, rfl, hki, _⟩
      · have H1 := hid_mk h3
        clear h3 hb hf
        go_wp2_with fail
        go_ret2
        refine ⟨.slice none 0 0, ret_eq ?_, Or.inl ⟨rfl, ?_⟩, HB.out⟩
        · rw [HE.out, H1.out]
          rfl
        · unfold readL
          rw [H1.out]
      · have H1 := hid_mk h3
        have hd0 : decide ((i : Int) < 0) = false := by simp
        have h16i : (i : Int) < (L.length : Int) := by omega
        have o1 := H2.out.o1
        rw [H2.out.aB (by omega)] at o1
        have ro := H2.out.rows i hi
        have hat := okR_at H2.out.ok i hi
        have hpl := part_len H2.out.len hi (M := M)
        have hroom := off_room L i hi
        have hlenM := H2.out.len
        obtain ⟨m, hm2⟩ : ∃ m, (at_ L i).2.toNat = m := ⟨_, rfl⟩
        have hkm : k + q ≤ m := by omega
        have hkmi : (k : Int) + (q : Int) ≤ (m : Int) := by omega
        have hm20 : (m : Int) ≤ 1048576 := by omega
        have hw2 : IntKind.i64.wrap ((k : Int) + (q : Int)) = ((k + q : Nat) : Int) := (IntWalk.i64_in _ (by omega)).trans (Int.natCast_add _ _).symm
        have hkq : ((k + q : Nat) : Int) ≤ (m : Int) := by omega
        have hkq2 : (k : Int) ≤ ((k + q : Nat) : Int) := by omega
        have hll : ((M.drop (off L i + k)).take q).length = q := by simp; omega
        have hrun := append_new w' (D i) k (m - k) ((M.drop (off L i + k)).take q) (by rw [hll]; omega) (lt_blk (H2.out.parts i hi)) (fun j hj => by
          rw [cellB (H2.out.parts i hi) (k + j) (by omega), part_getD (by omega)]
          congr 2
          simp only [List.getD_eq_getElem?_getD, List.getElem?_take, List.getElem?_drop]
          rw [if_pos (by omega), Nat.add_assoc])
        rw [hll] at hrun
        obtain ⟨v', w2, hr, hnb, hbl⟩ := hrun
        have HR := hid_mk hr
        have HN := hid_mk hnb
        have HBL := hid_mk hbl
        rw [hm2] at ro
        have hrp := World.block_lt_of_cell? _ _ o1
        have hbb := World.block_lt_of_cell? _ _ ro
        clear h3 hb hf hpl hat hki hm2 hroom hlenM hll hnb hbl hm20 hkmi hr
        go_wp2_with (at_builtin; refine wpList_append_run (v := .slice (some ⟨w'.heap.size, 0, none⟩) 0 0) (u := .slice (some ⟨D i, k, none⟩) q (m - k)) (v' := v') (w' := w2) rfl (.tmp 24) (.tmp 36) 38 rfl (by first | rfl | go_simp) (by first | rfl | go_simp) (HR.out _) ?_)
        go_ret2
        refine ⟨v', ret_eq ?_, ?_, below_then HB.out HBL.out⟩
        · rw [HE.out, H1.out]
          rfl
        · unfold readL
          rw [H1.out]
          rcases HN.out with hx | ⟨b, c, g1, g2, g3, g4⟩
          · exact Or.inl hx
          · exact Or.inr ⟨b, c, g1, Nat.le_trans HB.out.size g2, g3, g4⟩
end Go.Proofs.Yteolnghnlfeakaa
