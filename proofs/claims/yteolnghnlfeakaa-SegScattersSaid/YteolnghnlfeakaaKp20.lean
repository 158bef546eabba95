/- Rf5 Rf6: joined texts. Conditions: as each theorem names them. -/
import Derived.Test.YteolnghnlfeakaaKp19
/- The reference's Write, and append of layer 2. Conditions: as each theorem names them. -/
namespace Go.Proofs.Yteolnghnlfeakaa
open Go.ChangeShapes Go.WideShapes Go.ChangeAt Go.RowKit
set_option linter.unusedVariables false

set_option maxRecDepth 100000 in
set_option maxHeartbeats 4000000 in
theorem rwrite_any (base rp lb bb cL cB : Nat) (aB : Option Addr) (D : Nat → Nat) (L : List (Int × Int)) (M : List Int) (a : Int) (v : Value) (l : List Int) (w : World) (h : IsRef w base rp lb bb cL cB aB D L M) (ha : U64 a) (hv : BytesAt w v l) (hl : isBytes l) (hm : l.length ≤ 4611686018427387904) :
    Calls Try.prog 50 #[.pointer (some ⟨rp, 0, none⟩), .int .u64 a, v] w fun e w' => e = .returned (.int .i64 (writeE L a l)) ∧ IsRef w' base rp lb bb cL cB aB D L (writeM L M a l) ∧ Chg (Pcs D L) w w' := by
  have H := hid_mk h
  have HLB := hid_mk hl
  by_cases he : l = []
  · subst he
    have hw : writeM L M a [] = M := by
      unfold writeM
      rw [loc_empty L a _ (by simp)]
    have HW := hid_mk hw
    clear hw h
    rcases hv with ⟨⟨va, vc, rfl, _⟩, _⟩ | ⟨b, o, c, rfl, _, _, _⟩
    all_goals
      go_enter Try.func50, Try.ntmps50
      go_wp2_with fail
      go_ret
      exact ⟨rfl, by rw [HW.out]; exact H.out, Chg.refl _ _⟩
  · rcases hv with ⟨_, rfl⟩ | ⟨b, o, c, rfl, hb1, hb2, hb3⟩
    · exact absurd rfl he
    · have hne : l.isEmpty = false := by
        cases l
        · exact absurd rfl he
        · rfl
      have HE := hid_mk hne
      have hpos : 0 < l.length := by
        cases l
        · exact absurd rfl he
        · simp
      have hz : ((l.length : Int) == 0) = false := by simp; omega
      have HC := hid_mk hb3
      have hcv : IntKind.u64.wrap (l.length : Int) = (l.length : Int) := by rw [IntKind.wrap_u64]; omega
      have hf := rfind_any base rp lb bb cL cB aB D L M a l.length w h ha (by omega)
      clear hne he hb3 h
      go_enter Try.func50, Try.ntmps50
      go_wp2_with fail
      refine hf.mono ?_
      rintro e w' ⟨x, y, rfl, hF, hb⟩
      have HB := hid_mk hb
      have H2 := hid_mk (H.out.below hb)
      rcases hF with ⟨h1, rfl, rfl⟩ | ⟨i, k, hi, h1, rfl, rfl, hki, _⟩
      · have H1 := hid_mk h1
        clear h1 hb hf
        go_wp2_with fail
        go_ret
        refine ⟨ret_eq ?_, ?_, Chg.of_below HB.out⟩
        · unfold writeE
          rw [HE.out, H1.out]
          rfl
        · unfold writeM
          rw [H1.out]
          exact H2.out
      · have H1 := hid_mk h1
        have hd0 : decide ((i : Int) < 0) = false := by simp
        have h16i : (i : Int) < (L.length : Int) := by omega
        have o1 := H2.out.o1
        rw [H2.out.aB (by omega)] at o1
        have ro := H2.out.rows i hi
        have hat := okR_at H2.out.ok i hi
        have hpl := part_len H2.out.len hi (M := M)
        obtain ⟨m, hm2⟩ : ∃ m, (at_ L i).2.toNat = m := ⟨_, rfl⟩
        have hkm : k + l.length ≤ m := by omega
        have HKM := hid_mk (show k + l.length ≤ (at_ L i).2.toNat by omega)
        have hkmi : (k : Int) ≤ (m : Int) := by omega
        have hm20 : (m : Int) ≤ 1048576 := by omega
        have HI := hid_mk hi
        have hcp := fun ty => copyB w' ty (D i) k (m - k) (m - k) b o l.length c (part L M i) l 5 (H2.out.parts i hi) (by omega) (fun j hj => (hb.cell (p := ⟨b, o + j, none⟩) hb1).trans (HC.out j hj)) (by omega)
        rw [hm2] at ro
        clear h1 hb hf hpl hat hki hm2
        go_wp2_with fail
        go_ret
        refine ⟨ret_eq ?_, ?_, ?_⟩
        · unfold writeE
          rw [HE.out, H1.out]
          rfl
        · unfold writeM
          rw [H1.out]
          exact IsRef.put (l := l) H2.out HI.out HKM.out HLB.out
        · exact (Chg.of_below HB.out).trans ((Chg.setRow _ _ _).mono (fun b _ e => ⟨i, HI.out, e⟩))

/-- append([]byte{}, ..): new bytes -/
theorem append_new (w : World) (b o c : Nat) (l : List Int) (hl : l.length ≤ 2000000) (hb1 : b < w.heap.size) (hb3 : ∀ j, j < l.length → w.cell? ⟨b, o + j, none⟩ = some (.int .u8 (l.getD j 0))) :
    ∃ v' w', (∀ ty, (Builtin.append_ #[38, 38] ty #[.slice (some ⟨w.heap.size, 0, none⟩) 0 0, .slice (some ⟨b, o, none⟩) l.length c]).run Try.prog (w.alloc (.cells #[] 5)) = .ok v' w') ∧ NewBytes w.heap.size w' v' l ∧ Below w.heap.size w w' := by
  obtain ⟨i0, hi, hz0, hz1, hz2⟩ := info_parts rowU8
  have hown := World.ownsRow_made (e := 5) (size := 1) (base := w.heap.size) w #[] 0 (Nat.le_refl _) (by simp [maxLen]) rfl
  have hbase : w.heap.size ≤ (w.alloc (.cells #[] 5)).heap.size := by rw [sizeA]; omega
  have hb3' : ∀ j, j < l.length → (w.alloc (.cells #[] 5)).cell? ⟨b, o + j, none⟩ = some (.int .u8 (l.getD j 0)) := fun j hj =>
    ((Below.alloc (Below.refl _ _) (Nat.le_refl _) _ : Below w.heap.size w (w.alloc (.cells #[] 5))).cell (p := ⟨b, o + j, none⟩) hb1).trans (hb3 j hj)
  obtain ⟨v', w', h1, h2, h3, _⟩ := run_append_own (w.alloc (.cells #[] 5)) w.heap.size 38 38 5 i0 _ 1 1 Try.underlying38 hi hz0 hz1 hz2 rfl (by decide) _ 0 [] hown ⟨b, o, none⟩ l.length c (l.map (Value.int .u8)) (by simp) (news_of (c := c) hb3') one_of (by simp [maxLen]; omega) (by omega) hbase
  rw [List.nil_append] at h2
  exact ⟨v', w', fun ty => h1, newBytes_of h2, ((Below.refl _ _).alloc (Nat.le_refl _) _).trans (grown_below h3 hbase (fun k hk => by simp [Value.ownBlock] at hk; omega))⟩
end Go.Proofs.Yteolnghnlfeakaa

/- The reference's Read of layer 2. Conditions: as each theorem names them. -/
namespace Go.Proofs.Yteolnghnlfeakaa
open Go.ChangeShapes Go.WideShapes Go.ChangeAt Go.RowKit
set_option linter.unusedVariables false

set_option maxRecDepth 100000 in
set_option maxHeartbeats 4000000 in
theorem rread_any (base rp lb bb cL cB : Nat) (aB : Option Addr) (D : Nat → Nat) (L : List (Int × Int)) (M : List Int) (a n : Int) (w : World) (h : IsRef w base rp lb bb cL cB aB D L M) (ha : U64 a) (hn : n < 9223372036854775808) :
    Calls Try.prog 51 #[.pointer (some ⟨rp, 0, none⟩), .int .u64 a, .int .i64 n] w fun e w' => ∃ v, e = .returned (.tuple #[v, .int .i64 (readE L a n)]) ∧ NewBytes w.heap.size w' v (readL L M a n) ∧ Below w.heap.size w w' := by
  have H := hid_mk h
  by_cases h0 : n < 0
  · clear h
    go_enter Try.func51, Try.ntmps51
    go_wp2_with fail
    go_ret2
    refine ⟨.slice none 0 0, ret_eq ?_, Or.inl ⟨rfl, ?_⟩, Below.refl _ _⟩
    · unfold readE
      rw [if_pos h0]
      rfl
    · unfold readL
      rw [loc_empty L a n (by omega)]
  · by_cases h1 : n = 0
    · subst h1
      clear h
      go_enter Try.func51, Try.ntmps51
      go_wp2_with fail
      go_ret2
      refine ⟨.slice none 0 0, ret_eq ?_, Or.inl ⟨rfl, ?_⟩, Below.refl _ _⟩
      · rfl
      · unfold readL
        rw [loc_empty L a 0 (by omega)]
    · have hf := rfind_any base rp lb bb cL cB aB D L M a n w h ha (by omega)
      obtain ⟨q, rfl⟩ : ∃ q : Nat, n = q := ⟨n.toNat, by omega⟩
      have hd : decide ((q : Int) < 0) = false := by simp
      have hz : ((q : Int) == 0) = false := by simp; omega
      have hcv : IntKind.u64.wrap (q : Int) = (q : Int) := by rw [IntKind.wrap_u64]; omega
      have hE : readE L a q = if (loc L a q).isSome then 0 else 5 := by
        unfold readE
        rw [if_neg h0, if_neg h1]
      have HE := hid_mk hE
      have HN0 := hid_mk hn
      clear h hE h0 h1 hn
      go_enter Try.func51, Try.ntmps51
      go_wp2_with fail
      refine hf.mono ?_
      rintro e w' ⟨x, y, rfl, hF, hb⟩
      have HB := hid_mk hb
      have H2 := hid_mk (H.out.below hb)
      rcases hF with ⟨h3, rfl, rfl⟩ | ⟨i, k, hi, h3, rfl, rfl, hki, _⟩
      · have H1 := hid_mk h3
        clear h3 hb hf
        go_wp2_with fail
        go_ret2
        refine ⟨.slice none 0 0, ret_eq ?_, Or.inl ⟨rfl, ?_⟩, HB.out⟩
        · rw [HE.out, H1.out]
          rfl
        · unfold readL
          rw [H1.out]
      · have H1 := hid_mk h3
        have hd0 : decide ((i : Int) < 0) = false := by simp
        have h16i : (i : Int) < (L.length : Int) := by omega
        have o1 := H2.out.o1
        rw [H2.out.aB (by omega)] at o1
        have ro := H2.out.rows i hi
        have hat := okR_at H2.out.ok i hi
        have hpl := part_len H2.out.len hi (M := M)
        have hroom := off_room L i hi
        have hlenM := H2.out.len
        obtain ⟨m, hm2⟩ : ∃ m, (at_ L i).2.toNat = m := ⟨_, rfl⟩
        have hkm : k + q ≤ m := by omega
        have hkmi : (k : Int) + (q : Int) ≤ (m : Int) := by omega
        have hm20 : (m : Int) ≤ 1048576 := by omega
        have hw2 : IntKind.i64.wrap ((k : Int) + (q : Int)) = ((k + q : Nat) : Int) := (IntWalk.i64_in _ (by omega)).trans (Int.natCast_add _ _).symm
        have hkq : ((k + q : Nat) : Int) ≤ (m : Int) := by omega
        have hkq2 : (k : Int) ≤ ((k + q : Nat) : Int) := by omega
        have hll : ((M.drop (off L i + k)).take q).length = q := by simp; omega
        have hrun := append_new w' (D i) k (m - k) ((M.drop (off L i + k)).take q) (by rw [hll]; omega) (lt_blk (H2.out.parts i hi)) (fun j hj => by
          rw [cellB (H2.out.parts i hi) (k + j) (by omega), part_getD (by omega)]
          congr 2
          simp only [List.getD_eq_getElem?_getD, List.getElem?_take, List.getElem?_drop]
          rw [if_pos (by omega), Nat.add_assoc])
        rw [hll] at hrun
        obtain ⟨v', w2, hr, hnb, hbl⟩ := hrun
        have HR := hid_mk hr
        have HN := hid_mk hnb
        have HBL := hid_mk hbl
        rw [hm2] at ro
        have hrp := World.block_lt_of_cell? _ _ o1
        have hbb := World.block_lt_of_cell? _ _ ro
        clear h3 hb hf hpl hat hki hm2 hroom hlenM hll hnb hbl hm20 hkmi hr
        go_wp2_with (at_builtin; refine wpList_append_run (v := .slice (some ⟨w'.heap.size, 0, none⟩) 0 0) (u := .slice (some ⟨D i, k, none⟩) q (m - k)) (v' := v') (w' := w2) rfl (.tmp 24) (.tmp 36) 38 rfl (by first | rfl | go_simp) (by first | rfl | go_simp) (HR.out _) ?_)
        go_ret2
        refine ⟨v', ret_eq ?_, ?_, below_then HB.out HBL.out⟩
        · rw [HE.out, H1.out]
          rfl
        · unfold readL
          rw [H1.out]
          rcases HN.out with hx | ⟨b, c, g1, g2, g3, g4⟩
          · exact Or.inl hx
          · exact Or.inr ⟨b, c, g1, Nat.le_trans HB.out.size g2, g3, g4⟩
end Go.Proofs.Yteolnghnlfeakaa
