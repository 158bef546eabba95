/- Rf3 Rf4 Rf5: joined texts. Conditions: as each theorem names them. -/
import Derived.Test.YtfhhgcgbgmilcaaGreatKp15
import Derived.Test.YtfhhgcgbgmilcaaGreatKp16
/- The reference's memory of layer 2: what a write does to its pieces; Load. Conditions: as each theorem names them. -/
namespace Go.Proofs.YtfhhgcgbgmilcaaGreat
open Go.ChangeShapes Go.WideShapes Go.ChangeAt Go.RowKit
set_option linter.unusedVariables false

theorem ext_getD {a b : List Int} (hl : a.length = b.length) (h : ∀ i, i < a.length → a.getD i 0 = b.getD i 0) : a = b := by
  apply List.ext_getElem hl
  intro i h1 h2
  have := h i h1
  simpa [List.getD, h1, h2] using this
theorem part_put_same {L : List (Int × Int)} {M l : List Int} (hlen : M.length = sumR L) {i k : Nat} (hi : i < L.length) (hk : k + l.length ≤ (at_ L i).2.toNat) : part L (put M (off L i + k) l) i = put (part L M i) k l := by
  have hroom := off_room L i hi
  have hpl := part_len hlen hi
  have hput := put_length M (off L i + k) l (by omega)
  have h1 : (part L (put M (off L i + k) l) i).length = (at_ L i).2.toNat := part_len (hput.trans hlen) hi
  have h2 : (put (part L M i) k l).length = (at_ L i).2.toNat := by rw [put_length _ _ _ (by omega), hpl]
  refine ext_getD (h1.trans h2.symm) fun j hj => ?_
  rw [h1] at hj
  rw [part_getD hj, put_getD _ _ _ (by omega), put_getD _ _ _ (by omega), part_getD hj]
  by_cases hc : k ≤ j ∧ j < k + l.length
  · rw [if_pos (by omega), if_pos hc]
    congr 1
    omega
  · rw [if_neg (by omega), if_neg hc]
theorem part_put_other {L : List (Int × Int)} {M l : List Int} (hlen : M.length = sumR L) {i j k : Nat} (hi : i < L.length) (hj : j < L.length) (hne : j ≠ i) (hk : k + l.length ≤ (at_ L i).2.toNat) : part L (put M (off L i + k) l) j = part L M j := by
  have hroom := off_room L i hi
  have hput := put_length M (off L i + k) l (by omega)
  have h1 : (part L (put M (off L i + k) l) j).length = (at_ L j).2.toNat := part_len (hput.trans hlen) hj
  have h2 : (part L M j).length = (at_ L j).2.toNat := part_len hlen hj
  refine ext_getD (h1.trans h2.symm) fun q hq => ?_
  rw [h1] at hq
  rw [part_getD hq, put_getD _ _ _ (by omega), part_getD hq, if_neg]
  rcases Nat.lt_or_gt_of_ne hne with hlt | hgt
  · have := off_lt_of hlt hi
    omega
  · have := off_lt_of hgt hj
    omega
theorem IsRef.put {w : World} {base rp lb bb cL cB : Nat} {aB : Option Addr} {D : Nat → Nat} {L : List (Int × Int)} {M : List Int} (h : IsRef w base rp lb bb cL cB aB D L M) {i k : Nat} {l : List Int} (hi : i < L.length) (hk : k + l.length ≤ (at_ L i).2.toNat) (hl : isBytes l) :
    IsRef (w.setRow (D i) (bv (Go.Proofs.YtfhhgcgbgmilcaaGreat.put (part L M i) k l))) base rp lb bb cL cB aB D L (Go.Proofs.YtfhhgcgbgmilcaaGreat.put M (off L i + k) l) := by
  have hc := Chg.setRow w (D i) (bv (Go.Proofs.YtfhhgcgbgmilcaaGreat.put (part L M i) k l))
  have hroom := off_room L i hi
  have hne := h.ne i hi
  have hll := h.len
  refine ⟨(hc.cell (World.block_lt_of_cell? _ _ h.o0) (fun e => hne.1 e.symm)).trans h.o0, (hc.cell (World.block_lt_of_cell? _ _ h.o1) (fun e => hne.1 e.symm)).trans h.o1, h.aB,
    fun j hj => ⟨(hc.cell (World.block_lt_of_cell? _ _ (h.regs j hj).1) (fun e => hne.2.1 e.symm)).trans (h.regs j hj).1, (hc.cell (World.block_lt_of_cell? _ _ (h.regs j hj).2) (fun e => hne.2.1 e.symm)).trans (h.regs j hj).2⟩,
    fun j hj => (hc.cell (World.block_lt_of_cell? _ _ (h.rows j hj)) (fun e => hne.2.2.1 e.symm)).trans (h.rows j hj), fun j hj => ?_, h.inj, h.ne, h.ok, h.n16, (put_length M _ l (by omega)).trans h.len, put_bytes h.rng hl⟩
  by_cases e : j = i
  · subst e
    rw [part_put_same h.len hj hk]
    exact setRow_heap _ _ _ _ _ _ (h.parts j hj)
  · rw [part_put_other h.len hi hj e hk]
    exact hc.keep (h.parts j hj) (fun e2 => e (h.inj j i hj hi e2))

end Go.Proofs.YtfhhgcgbgmilcaaGreat

/- The reference's Store of layer 2. Conditions: as each theorem names them. -/
namespace Go.Proofs.YtfhhgcgbgmilcaaGreat
open Go.ChangeShapes Go.WideShapes Go.ChangeAt Go.RowKit
set_option linter.unusedVariables false

/-- the blocks that a write to the reference's memory may change -/
def Pcs (D : Nat → Nat) (L : List (Int × Int)) : Nat → Prop := fun b => ∃ j, j < L.length ∧ b = D j

end Go.Proofs.YtfhhgcgbgmilcaaGreat

/- The reference's Write, and append of layer 2. Conditions: as each theorem names them. -/
namespace Go.Proofs.YtfhhgcgbgmilcaaGreat
open Go.ChangeShapes Go.WideShapes Go.ChangeAt Go.RowKit
set_option linter.unusedVariables false

set_option maxRecDepth 100000 in
set_option maxHeartbeats 4000000 in
theorem rwrite_any (base rp lb bb cL cB : Nat) (aB : Option Addr) (D : Nat → Nat) (L : List (Int × Int)) (M : List Int) (a : Int) (v : Value) (l : List Int) (w : World) (h : IsRef w base rp lb bb cL cB aB D L M) (ha : U64 a) (hv : BytesAt w v l) (hl : isBytes l) (hm : l.length ≤ 4611686018427387904) :
    Calls Tryz.prog 27 #[.pointer (some ⟨rp, 0, none⟩), .int .u64 a, v] w fun e w' => e = .returned (.int .i64 (writeE L a l)) ∧ IsRef w' base rp lb bb cL cB aB D L (writeM L M a l) ∧ Chg (Pcs D L) w w' := by
  have H := hid_mk h
  have HLB := hid_mk hl
  by_cases he : l = []
  · subst he
    have hw : writeM L M a [] = M := by
      unfold writeM
      rw [loc_empty L a _ (by simp)]
    have HW := hid_mk hw
    clear hw h
    rcases hv with ⟨⟨va, vc, rfl, _⟩, _⟩ | ⟨b, o, c, rfl, _, _, _⟩
    all_goals
      go_enter Tryz.func27, Tryz.ntmps27
      go_wp2_with fail
      go_ret
      exact ⟨rfl, by rw [HW.out]; exact H.out, Chg.refl _ _⟩
  · rcases hv with ⟨_, rfl⟩ | ⟨b, o, c, rfl, hb1, hb2, hb3⟩
    · exact absurd rfl he
    · have hne : l.isEmpty = false := by
        cases l
        · exact absurd rfl he
        · rfl
      have HE := hid_mk hne
      have hpos : 0 < l.length := by
        cases l
        · exact absurd rfl he
        · simp
      have hz : ((l.length : Int) == 0) = false := by simp; omega
      have HC := hid_mk hb3
      have hcv : IntKind.u64.wrap (l.length : Int) = (l.length : Int) := by rw [IntKind.wrap_u64]; omega
      have hf := rfind_any base rp lb bb cL cB aB D L M a l.length w h ha (by omega)
      clear hne he hb3 h
      go_enter Tryz.func27, Tryz.ntmps27
      go_wp2_with fail
      refine hf.mono ?_
      rintro e w' ⟨x, y, rfl, hF, hb⟩
      have HB := hid_mk hb
      have H2 := hid_mk (H.out.below hb)
      rcases hF with ⟨h1, rfl, rfl⟩ | ⟨i, k, hi, h1, rfl, rfl, hki, _⟩
      · have H1 := hid_mk h1
        clear h1 hb hf
        go_wp2_with fail
        go_ret
        refine ⟨ret_eq ?_, ?_, Chg.of_below HB.out⟩
        · unfold writeE
          rw [HE.out, H1.out]
          rfl
        · unfold writeM
          rw [H1.out]
          exact H2.out
      · have H1 := hid_mk h1
        have hd0 : decide ((i : Int) < 0) = false := by simp
        have h16i : (i : Int) < (L.length : Int) := by omega
        have o1 := H2.out.o1
        rw [H2.out.aB (by omega)] at o1
        have ro := H2.out.rows i hi
        have hat := okR_at H2.out.ok i hi
        have hpl := part_len H2.out.len hi (M := M)
        obtain ⟨m, hm2⟩ : ∃ m, (at_ L i).2.toNat = m := ⟨_, rfl⟩
        have hkm : k + l.length ≤ m := by omega
        have HKM := hid_mk (show k + l.length ≤ (at_ L i).2.toNat by omega)
        have hkmi : (k : Int) ≤ (m : Int) := by omega
        have hm20 : (m : Int) ≤ 1048576 := by omega
        have HI := hid_mk hi
        have hcp := fun ty => copyB w' ty (D i) k (m - k) (m - k) b o l.length c (part L M i) l 5 (H2.out.parts i hi) (by omega) (fun j hj => (hb.cell (p := ⟨b, o + j, none⟩) hb1).trans (HC.out j hj)) (by omega)
        rw [hm2] at ro
        clear h1 hb hf hpl hat hki hm2
        go_wp2_with fail
        go_ret
        refine ⟨ret_eq ?_, ?_, ?_⟩
        · unfold writeE
          rw [HE.out, H1.out]
          rfl
        · unfold writeM
          rw [H1.out]
          exact IsRef.put (l := l) H2.out HI.out HKM.out HLB.out
        · exact (Chg.of_below HB.out).trans ((Chg.setRow _ _ _).mono (fun b _ e => ⟨i, HI.out, e⟩))

/-- append([]byte{}, ..): new bytes -/
theorem append_new (w : World) (b o c : Nat) (l : List Int) (hl : l.length ≤ 2000000) (hb1 : b < w.heap.size) (hb3 : ∀ j, j < l.length → w.cell? ⟨b, o + j, none⟩ = some (.int .u8 (l.getD j 0))) :
    ∃ v' w', (∀ ty, (Builtin.append_ #[47, 47] ty #[.slice (some ⟨w.heap.size, 0, none⟩) 0 0, .slice (some ⟨b, o, none⟩) l.length c]).run Tryz.prog (w.alloc (.cells #[] 5)) = .ok v' w') ∧ NewBytes w.heap.size w' v' l ∧ Below w.heap.size w w' := by
  obtain ⟨i0, hi, hz0, hz1, hz2⟩ := info_parts rowU8
  have hown := World.ownsRow_made (e := 5) (size := 1) (base := w.heap.size) w #[] 0 (Nat.le_refl _) (by simp [maxLen]) rfl
  have hbase : w.heap.size ≤ (w.alloc (.cells #[] 5)).heap.size := by rw [sizeA]; omega
  have hb3' : ∀ j, j < l.length → (w.alloc (.cells #[] 5)).cell? ⟨b, o + j, none⟩ = some (.int .u8 (l.getD j 0)) := fun j hj =>
    ((Below.alloc (Below.refl _ _) (Nat.le_refl _) _ : Below w.heap.size w (w.alloc (.cells #[] 5))).cell (p := ⟨b, o + j, none⟩) hb1).trans (hb3 j hj)
  obtain ⟨v', w', h1, h2, h3, _⟩ := run_append_own (w.alloc (.cells #[] 5)) w.heap.size 47 47 5 i0 _ 1 1 Tryz.underlying47 hi hz0 hz1 hz2 rfl (by decide) _ 0 [] hown ⟨b, o, none⟩ l.length c (l.map (Value.int .u8)) (by simp) (news_of (c := c) hb3') one_of (by simp [maxLen]; omega) (by omega) hbase
  rw [List.nil_append] at h2
  exact ⟨v', w', fun ty => h1, newBytes_of h2, ((Below.refl _ _).alloc (Nat.le_refl _) _).trans (grown_below h3 hbase (fun k hk => by simp [Value.ownBlock] at hk; omega))⟩
end Go.Proofs.YtfhhgcgbgmilcaaGreat
