/- The reference's Store of layer 2. Conditions: as each theorem names them. -/
import Derived.Test.YtfjccpalkdmniaaRf3
namespace Go.Proofs.Ytfjccpalkdmniaa
open Go.ChangeShapes Go.WideShapes Go.ChangeAt Go.RowKit
set_option linter.unusedVariables false

/-- the blocks that a write to the reference's memory may change -/
def Pcs (D : Nat → Nat) (L : List (Int × Int)) : Nat → Prop := fun b => ∃ j, j < L.length ∧ b = D j

set_option maxRecDepth 100000 in
set_option maxHeartbeats 4000000 in
theorem rstore_1 (base rp lb bb cL cB : Nat) (aB : Option Addr) (D : Nat → Nat) (L : List (Int × Int)) (M : List Int) (a v : Int) (w : World) (h : IsRef w base rp lb bb cL cB aB D L M) (ha : U64 a) (hv : U64 v) :
    Calls Try.prog 20 #[.pointer (some ⟨rp, 0, none⟩), .int .u64 a, .int .i64 1, .int .u64 v] w fun e w' => e = .returned (.int .i64 (accE L a 1)) ∧ IsRef w' base rp lb bb cL cB aB D L (storeM L M a 1 v) ∧ Chg (Pcs D L) w w' := by
  have H := hid_mk h
  have HW := hid_mk (show wid (1 : Int) = true by rfl)
  have hf := rfind_any base rp lb bb cL cB aB D L M a 1 w h ha (by omega)
  clear h
  go_enter Try.func20, Try.ntmps20
  go_wp2_with fail
  refine hf.mono ?_
  rintro e w' ⟨x, y, rfl, hF, hb⟩
  have HB := hid_mk hb
  have H2 := hid_mk (H.out.below hb)
  rcases hF with ⟨h1, rfl, rfl⟩ | ⟨i, k, hi, h1, rfl, rfl, hki, _⟩
  · have H1 := hid_mk h1
    clear h1 hb hf
    go_wp2_with fail
    go_ret
    refine ⟨ret_eq ?_, ?_, Chg.of_below HB.out⟩
    · unfold accE
      rw [HW.out, H1.out]
      rfl
    · unfold storeM
      rw [HW.out, H1.out]
      exact H2.out
  · have H1 := hid_mk h1
    have hd0 : decide ((i : Int) < 0) = false := by simp
    have h16i : (i : Int) < (L.length : Int) := by omega
    have o1 := H2.out.o1
    rw [H2.out.aB (by omega)] at o1
    have ro := H2.out.rows i hi
    have hat := okR_at H2.out.ok i hi
    have hpl := part_len H2.out.len hi (M := M)
    have hroom := off_room L i hi
    have hne := H2.out.ne i hi
    obtain ⟨m, hm⟩ : ∃ m, (at_ L i).2.toNat = m := ⟨_, rfl⟩
    have hpm : (part L M i).length = m := hpl.trans hm
    have hkm : k + 1 ≤ m := by omega
    have HKM := hid_mk (show k + (leB 1 v).length ≤ (at_ L i).2.toNat by rw [leB_length]; omega)
    have hm20 : (m : Int) ≤ 1048576 := by omega
    have HG := hid_mk (show w'.heap[D i]? = some (.cells (bv (part L M i)) 5 (0, 0)) from H2.out.parts i hi)
    have HPM := hid_mk hpm
    have HI := hid_mk hi
    rw [hm] at ro
    have hd1 : D i ≠ rp := hne.1
    have hd2 : D i ≠ bb := hne.2.2.1
    have hrl := World.block_lt_of_cell? _ _ o1
    have hbl := World.block_lt_of_cell? _ _ ro
    obtain ⟨d, hd⟩ : ∃ d, d = D i := ⟨_, rfl⟩
    have HD := hid_mk hd
    rw [← hd] at ro HG hd1 hd2
    have hstart : w' = w'.setRow d (bv (put (part L M i) k (leB 0 v))) := by
      rw [leB, put_nil, setRow_self _ _ _ _ _ HG.out]
    have HS := hid_mk hstart
    obtain ⟨P, hP⟩ : ∃ P, P = part L M i := ⟨_, rfl⟩
    have HP := hid_mk hP
    rw [← hP] at HG HPM HS
    clear h1 hb hf hroom hpl hat hki hm hpm hne hd hstart hP
    go_wp2_with fail
    go_loopw [11] (fun q wr => ∃ j : Nat, j ≤ 1 ∧ q = .int .i64 j ∧ wr = w'.setRow d (bv (put P k (leB j v)))) (fun q _ => 1 - (intOf q).toNat)
    case atStart => exact ⟨0, Nat.zero_le _, rfl, HS.out⟩
    case round =>
      obtain ⟨j, hj, rfl, rfl⟩ := hrel
      have hrow := setRow_heap w' d _ (bv (put P k (leB j v))) _ _ HG.out
      have hch := Chg.setRow w' d (bv (put P k (leB j v)))
      have p1 := (hch.cell hrl (fun e => hd1 e.symm)).trans o1
      have p2 := (hch.cell hbl (fun e => hd2 e.symm)).trans ro
      by_cases hlt : j < 1
      · have hlen : (put P k (leB j v)).length = P.length := put_length P k _ (by rw [leB_length]; have := HPM.out; omega)
        have hcell := cellB hrow (k + j) (by have := HPM.out; omega)
        have hfr := frozenK hrow (k + j)
        have hji : (k : Int) + (j : Int) < (m : Int) := by omega
        have hset := fun x => setB _ d (k + j) _ x _ hrow
        have HSET := hid_mk hset
        have hstep : (put P k (leB j v)).set (k + j) (v / pow2 (8 * j) % 256) = put P k (leB (j + 1) v) := by
          have e := put_snoc P k (leB j v) (v / pow2 (8 * j) % 256) (by rw [leB_length]; have := HPM.out; omega)
          rw [leB_length] at e
          rw [e, leB_snoc]
        have HST := hid_mk hstep
        clear hstep hset hlen hrow hch
        go_wp2_with fail
        go_roundw
        case rel => exact ⟨j + 1, by omega, by go_num, by rw [HSET.out, setRow_setRow, two_pow_int, HST.out]⟩
        case measure => simp [intOf] <;> omega
      · obtain rfl : j = 1 := by omega
        clear hrow hch
        go_wp2_with fail
        go_ret
        refine ⟨ret_eq ?_, ?_, ?_⟩
        · unfold accE
          rw [HW.out, H1.out]
          rfl
        · unfold storeM
          rw [HW.out, H1.out]
          have hp := IsRef.put (l := leB 1 v) H2.out HI.out HKM.out (leB_bytes _ _)
          rw [← HD.out, ← HP.out] at hp
          exact hp
        · exact (Chg.of_below HB.out).trans ((Chg.setRow _ _ _).mono (fun b _ e => ⟨i, HI.out, e.trans HD.out⟩))

set_option maxRecDepth 100000 in
set_option maxHeartbeats 4000000 in
theorem rstore_2 (base rp lb bb cL cB : Nat) (aB : Option Addr) (D : Nat → Nat) (L : List (Int × Int)) (M : List Int) (a v : Int) (w : World) (h : IsRef w base rp lb bb cL cB aB D L M) (ha : U64 a) (hv : U64 v) :
    Calls Try.prog 20 #[.pointer (some ⟨rp, 0, none⟩), .int .u64 a, .int .i64 2, .int .u64 v] w fun e w' => e = .returned (.int .i64 (accE L a 2)) ∧ IsRef w' base rp lb bb cL cB aB D L (storeM L M a 2 v) ∧ Chg (Pcs D L) w w' := by
  have H := hid_mk h
  have HW := hid_mk (show wid (2 : Int) = true by rfl)
  have hf := rfind_any base rp lb bb cL cB aB D L M a 2 w h ha (by omega)
  clear h
  go_enter Try.func20, Try.ntmps20
  go_wp2_with fail
  refine hf.mono ?_
  rintro e w' ⟨x, y, rfl, hF, hb⟩
  have HB := hid_mk hb
  have H2 := hid_mk (H.out.below hb)
  rcases hF with ⟨h1, rfl, rfl⟩ | ⟨i, k, hi, h1, rfl, rfl, hki, _⟩
  · have H1 := hid_mk h1
    clear h1 hb hf
    go_wp2_with fail
    go_ret
    refine ⟨ret_eq ?_, ?_, Chg.of_below HB.out⟩
    · unfold accE
      rw [HW.out, H1.out]
      rfl
    · unfold storeM
      rw [HW.out, H1.out]
      exact H2.out
  · have H1 := hid_mk h1
    have hd0 : decide ((i : Int) < 0) = false := by simp
    have h16i : (i : Int) < (L.length : Int) := by omega
    have o1 := H2.out.o1
    rw [H2.out.aB (by omega)] at o1
    have ro := H2.out.rows i hi
    have hat := okR_at H2.out.ok i hi
    have hpl := part_len H2.out.len hi (M := M)
    have hroom := off_room L i hi
    have hne := H2.out.ne i hi
    obtain ⟨m, hm⟩ : ∃ m, (at_ L i).2.toNat = m := ⟨_, rfl⟩
    have hpm : (part L M i).length = m := hpl.trans hm
    have hkm : k + 2 ≤ m := by omega
    have HKM := hid_mk (show k + (leB 2 v).length ≤ (at_ L i).2.toNat by rw [leB_length]; omega)
    have hm20 : (m : Int) ≤ 1048576 := by omega
    have HG := hid_mk (show w'.heap[D i]? = some (.cells (bv (part L M i)) 5 (0, 0)) from H2.out.parts i hi)
    have HPM := hid_mk hpm
    have HI := hid_mk hi
    rw [hm] at ro
    have hd1 : D i ≠ rp := hne.1
    have hd2 : D i ≠ bb := hne.2.2.1
    have hrl := World.block_lt_of_cell? _ _ o1
    have hbl := World.block_lt_of_cell? _ _ ro
    obtain ⟨d, hd⟩ : ∃ d, d = D i := ⟨_, rfl⟩
    have HD := hid_mk hd
    rw [← hd] at ro HG hd1 hd2
    have hstart : w' = w'.setRow d (bv (put (part L M i) k (leB 0 v))) := by
      rw [leB, put_nil, setRow_self _ _ _ _ _ HG.out]
    have HS := hid_mk hstart
    obtain ⟨P, hP⟩ : ∃ P, P = part L M i := ⟨_, rfl⟩
    have HP := hid_mk hP
    rw [← hP] at HG HPM HS
    clear h1 hb hf hroom hpl hat hki hm hpm hne hd hstart hP
    go_wp2_with fail
    go_loopw [11] (fun q wr => ∃ j : Nat, j ≤ 2 ∧ q = .int .i64 j ∧ wr = w'.setRow d (bv (put P k (leB j v)))) (fun q _ => 2 - (intOf q).toNat)
    case atStart => exact ⟨0, Nat.zero_le _, rfl, HS.out⟩
    case round =>
      obtain ⟨j, hj, rfl, rfl⟩ := hrel
      have hrow := setRow_heap w' d _ (bv (put P k (leB j v))) _ _ HG.out
      have hch := Chg.setRow w' d (bv (put P k (leB j v)))
      have p1 := (hch.cell hrl (fun e => hd1 e.symm)).trans o1
      have p2 := (hch.cell hbl (fun e => hd2 e.symm)).trans ro
      by_cases hlt : j < 2
      · have hlen : (put P k (leB j v)).length = P.length := put_length P k _ (by rw [leB_length]; have := HPM.out; omega)
        have hcell := cellB hrow (k + j) (by have := HPM.out; omega)
        have hfr := frozenK hrow (k + j)
        have hji : (k : Int) + (j : Int) < (m : Int) := by omega
        have hset := fun x => setB _ d (k + j) _ x _ hrow
        have HSET := hid_mk hset
        have hstep : (put P k (leB j v)).set (k + j) (v / pow2 (8 * j) % 256) = put P k (leB (j + 1) v) := by
          have e := put_snoc P k (leB j v) (v / pow2 (8 * j) % 256) (by rw [leB_length]; have := HPM.out; omega)
          rw [leB_length] at e
          rw [e, leB_snoc]
        have HST := hid_mk hstep
        clear hstep hset hlen hrow hch
        go_wp2_with fail
        go_roundw
        case rel => exact ⟨j + 1, by omega, by go_num, by rw [HSET.out, setRow_setRow, two_pow_int, HST.out]⟩
        case measure => simp [intOf] <;> omega
      · obtain rfl : j = 2 := by omega
        clear hrow hch
        go_wp2_with fail
        go_ret
        refine ⟨ret_eq ?_, ?_, ?_⟩
        · unfold accE
          rw [HW.out, H1.out]
          rfl
        · unfold storeM
          rw [HW.out, H1.out]
          have hp := IsRef.put (l := leB 2 v) H2.out HI.out HKM.out (leB_bytes _ _)
          rw [← HD.out, ← HP.out] at hp
          exact hp
        · exact (Chg.of_below HB.out).trans ((Chg.setRow _ _ _).mono (fun b _ e => ⟨i, HI.out, e.trans HD.out⟩))

set_option maxRecDepth 100000 in
set_option maxHeartbeats 4000000 in
theorem rstore_4 (base rp lb bb cL cB : Nat) (aB : Option Addr) (D : Nat → Nat) (L : List (Int × Int)) (M : List Int) (a v : Int) (w : World) (h : IsRef w base rp lb bb cL cB aB D L M) (ha : U64 a) (hv : U64 v) :
    Calls Try.prog 20 #[.pointer (some ⟨rp, 0, none⟩), .int .u64 a, .int .i64 4, .int .u64 v] w fun e w' => e = .returned (.int .i64 (accE L a 4)) ∧ IsRef w' base rp lb bb cL cB aB D L (storeM L M a 4 v) ∧ Chg (Pcs D L) w w' := by
  have H := hid_mk h
  have HW := hid_mk (show wid (4 : Int) = true by rfl)
  have hf := rfind_any base rp lb bb cL cB aB D L M a 4 w h ha (by omega)
  clear h
  go_enter Try.func20, Try.ntmps20
  go_wp2_with fail
  refine hf.mono ?_
  rintro e w' ⟨x, y, rfl, hF, hb⟩
  have HB := hid_mk hb
  have H2 := hid_mk (H.out.below hb)
  rcases hF with ⟨h1, rfl, rfl⟩ | ⟨i, k, hi, h1, rfl, rfl, hki, _⟩
  · have H1 := hid_mk h1
    clear h1 hb hf
    go_wp2_with fail
    go_ret
    refine ⟨ret_eq ?_, ?_, Chg.of_below HB.out⟩
    · unfold accE
      rw [HW.out, H1.out]
      rfl
    · unfold storeM
      rw [HW.out, H1.out]
      exact H2.out
  · have H1 := hid_mk h1
    have hd0 : decide ((i : Int) < 0) = false := by simp
    have h16i : (i : Int) < (L.length : Int) := by omega
    have o1 := H2.out.o1
    rw [H2.out.aB (by omega)] at o1
    have ro := H2.out.rows i hi
    have hat := okR_at H2.out.ok i hi
    have hpl := part_len H2.out.len hi (M := M)
    have hroom := off_room L i hi
    have hne := H2.out.ne i hi
    obtain ⟨m, hm⟩ : ∃ m, (at_ L i).2.toNat = m := ⟨_, rfl⟩
    have hpm : (part L M i).length = m := hpl.trans hm
    have hkm : k + 4 ≤ m := by omega
    have HKM := hid_mk (show k + (leB 4 v).length ≤ (at_ L i).2.toNat by rw [leB_length]; omega)
    have hm20 : (m : Int) ≤ 1048576 := by omega
    have HG := hid_mk (show w'.heap[D i]? = some (.cells (bv (part L M i)) 5 (0, 0)) from H2.out.parts i hi)
    have HPM := hid_mk hpm
    have HI := hid_mk hi
    rw [hm] at ro
    have hd1 : D i ≠ rp := hne.1
    have hd2 : D i ≠ bb := hne.2.2.1
    have hrl := World.block_lt_of_cell? _ _ o1
    have hbl := World.block_lt_of_cell? _ _ ro
    obtain ⟨d, hd⟩ : ∃ d, d = D i := ⟨_, rfl⟩
    have HD := hid_mk hd
    rw [← hd] at ro HG hd1 hd2
    have hstart : w' = w'.setRow d (bv (put (part L M i) k (leB 0 v))) := by
      rw [leB, put_nil, setRow_self _ _ _ _ _ HG.out]
    have HS := hid_mk hstart
    obtain ⟨P, hP⟩ : ∃ P, P = part L M i := ⟨_, rfl⟩
    have HP := hid_mk hP
    rw [← hP] at HG HPM HS
    clear h1 hb hf hroom hpl hat hki hm hpm hne hd hstart hP
    go_wp2_with fail
    go_loopw [11] (fun q wr => ∃ j : Nat, j ≤ 4 ∧ q = .int .i64 j ∧ wr = w'.setRow d (bv (put P k (leB j v)))) (fun q _ => 4 - (intOf q).toNat)
    case atStart => exact ⟨0, Nat.zero_le _, rfl, HS.out⟩
    case round =>
      obtain ⟨j, hj, rfl, rfl⟩ := hrel
      have hrow := setRow_heap w' d _ (bv (put P k (leB j v))) _ _ HG.out
      have hch := Chg.setRow w' d (bv (put P k (leB j v)))
      have p1 := (hch.cell hrl (fun e => hd1 e.symm)).trans o1
      have p2 := (hch.cell hbl (fun e => hd2 e.symm)).trans ro
      by_cases hlt : j < 4
      · have hlen : (put P k (leB j v)).length = P.length := put_length P k _ (by rw [leB_length]; have := HPM.out; omega)
        have hcell := cellB hrow (k + j) (by have := HPM.out; omega)
        have hfr := frozenK hrow (k + j)
        have hji : (k : Int) + (j : Int) < (m : Int) := by omega
        have hset := fun x => setB _ d (k + j) _ x _ hrow
        have HSET := hid_mk hset
        have hstep : (put P k (leB j v)).set (k + j) (v / pow2 (8 * j) % 256) = put P k (leB (j + 1) v) := by
          have e := put_snoc P k (leB j v) (v / pow2 (8 * j) % 256) (by rw [leB_length]; have := HPM.out; omega)
          rw [leB_length] at e
          rw [e, leB_snoc]
        have HST := hid_mk hstep
        clear hstep hset hlen hrow hch
        go_wp2_with fail
        go_roundw
        case rel => exact ⟨j + 1, by omega, by go_num, by rw [HSET.out, setRow_setRow, two_pow_int, HST.out]⟩
        case measure => simp [intOf] <;> omega
      · obtain rfl : j = 4 := by omega
        clear hrow hch
        go_wp2_with fail
        go_ret
        refine ⟨ret_eq ?_, ?_, ?_⟩
        · unfold accE
          rw [HW.out, H1.out]
          rfl
        · unfold storeM
          rw [HW.out, H1.out]
          have hp := IsRef.put (l := leB 4 v) H2.out HI.out HKM.out (leB_bytes _ _)
          rw [← HD.out, ← HP.out] at hp
          exact hp
        · exact (Chg.of_below HB.out).trans ((Chg.setRow _ _ _).mono (fun b _ e => ⟨i, HI.out, e.trans HD.out⟩))

set_option maxRecDepth 100000 in
set_option maxHeartbeats 4000000 in
theorem rstore_8 (base rp lb bb cL cB : Nat) (aB : Option Addr) (D : Nat → Nat) (L : List (Int × Int)) (M : List Int) (a v : Int) (w : World) (h : IsRef w base rp lb bb cL cB aB D L M) (ha : U64 a) (hv : U64 v) :
    Calls Try.prog 20 #[.pointer (some ⟨rp, 0, none⟩), .int .u64 a, .int .i64 8, .int .u64 v] w fun e w' => e = .returned (.int .i64 (accE L a 8)) ∧ IsRef w' base rp lb bb cL cB aB D L (storeM L M a 8 v) ∧ Chg (Pcs D L) w w' := by
  have H := hid_mk h
  have HW := hid_mk (show wid (8 : Int) = true by rfl)
  have hf := rfind_any base rp lb bb cL cB aB D L M a 8 w h ha (by omega)
  clear h
  go_enter Try.func20, Try.ntmps20
  go_wp2_with fail
  refine hf.mono ?_
  rintro e w' ⟨x, y, rfl, hF, hb⟩
  have HB := hid_mk hb
  have H2 := hid_mk (H.out.below hb)
  rcases hF with ⟨h1, rfl, rfl⟩ | ⟨i, k, hi, h1, rfl, rfl, hki, _⟩
  · have H1 := hid_mk h1
    clear h1 hb hf
    go_wp2_with fail
    go_ret
    refine ⟨ret_eq ?_, ?_, Chg.of_below HB.out⟩
    · unfold accE
      rw [HW.out, H1.out]
      rfl
    · unfold storeM
      rw [HW.out, H1.out]
      exact H2.out
  · have H1 := hid_mk h1
    have hd0 : decide ((i : Int) < 0) = false := by simp
    have h16i : (i : Int) < (L.length : Int) := by omega
    have o1 := H2.out.o1
    rw [H2.out.aB (by omega)] at o1
    have ro := H2.out.rows i hi
    have hat := okR_at H2.out.ok i hi
    have hpl := part_len H2.out.len hi (M := M)
    have hroom := off_room L i hi
    have hne := H2.out.ne i hi
    obtain ⟨m, hm⟩ : ∃ m, (at_ L i).2.toNat = m := ⟨_, rfl⟩
    have hpm : (part L M i).length = m := hpl.trans hm
    have hkm : k + 8 ≤ m := by omega
    have HKM := hid_mk (show k + (leB 8 v).length ≤ (at_ L i).2.toNat by rw [leB_length]; omega)
    have hm20 : (m : Int) ≤ 1048576 := by omega
    have HG := hid_mk (show w'.heap[D i]? = some (.cells (bv (part L M i)) 5 (0, 0)) from H2.out.parts i hi)
    have HPM := hid_mk hpm
    have HI := hid_mk hi
    rw [hm] at ro
    have hd1 : D i ≠ rp := hne.1
    have hd2 : D i ≠ bb := hne.2.2.1
    have hrl := World.block_lt_of_cell? _ _ o1
    have hbl := World.block_lt_of_cell? _ _ ro
    obtain ⟨d, hd⟩ : ∃ d, d = D i := ⟨_, rfl⟩
    have HD := hid_mk hd
    rw [← hd] at ro HG hd1 hd2
    have hstart : w' = w'.setRow d (bv (put (part L M i) k (leB 0 v))) := by
      rw [leB, put_nil, setRow_self _ _ _ _ _ HG.out]
    have HS := hid_mk hstart
    obtain ⟨P, hP⟩ : ∃ P, P = part L M i := ⟨_, rfl⟩
    have HP := hid_mk hP
    rw [← hP] at HG HPM HS
    clear h1 hb hf hroom hpl hat hki hm hpm hne hd hstart hP
    go_wp2_with fail
    go_loopw [11] (fun q wr => ∃ j : Nat, j ≤ 8 ∧ q = .int .i64 j ∧ wr = w'.setRow d (bv (put P k (leB j v)))) (fun q _ => 8 - (intOf q).toNat)
    case atStart => exact ⟨0, Nat.zero_le _, rfl, HS.out⟩
    case round =>
      obtain ⟨j, hj, rfl, rfl⟩ := hrel
      have hrow := setRow_heap w' d _ (bv (put P k (leB j v))) _ _ HG.out
      have hch := Chg.setRow w' d (bv (put P k (leB j v)))
      have p1 := (hch.cell hrl (fun e => hd1 e.symm)).trans o1
      have p2 := (hch.cell hbl (fun e => hd2 e.symm)).trans ro
      by_cases hlt : j < 8
      · have hlen : (put P k (leB j v)).length = P.length := put_length P k _ (by rw [leB_length]; have := HPM.out; omega)
        have hcell := cellB hrow (k + j) (by have := HPM.out; omega)
        have hfr := frozenK hrow (k + j)
        have hji : (k : Int) + (j : Int) < (m : Int) := by omega
        have hset := fun x => setB _ d (k + j) _ x _ hrow
        have HSET := hid_mk hset
        have hstep : (put P k (leB j v)).set (k + j) (v / pow2 (8 * j) % 256) = put P k (leB (j + 1) v) := by
          have e := put_snoc P k (leB j v) (v / pow2 (8 * j) % 256) (by rw [leB_length]; have := HPM.out; omega)
          rw [leB_length] at e
          rw [e, leB_snoc]
        have HST := hid_mk hstep
        clear hstep hset hlen hrow hch
        go_wp2_with fail
        go_roundw
        case rel => exact ⟨j + 1, by omega, by go_num, by rw [HSET.out, setRow_setRow, two_pow_int, HST.out]⟩
        case measure => simp [intOf] <;> omega
      · obtain rfl : j = 8 := by omega
        clear hrow hch
        go_wp2_with fail
        go_ret
        refine ⟨ret_eq ?_, ?_, ?_⟩
        · unfold accE
          rw [HW.out, H1.out]
          rfl
        · unfold storeM
          rw [HW.out, H1.out]
          have hp := IsRef.put (l := leB 8 v) H2.out HI.out HKM.out (leB_bytes _ _)
          rw [← HD.out, ← HP.out] at hp
          exact hp
        · exact (Chg.of_below HB.out).trans ((Chg.setRow _ _ _).mono (fun b _ e => ⟨i, HI.out, e.trans HD.out⟩))

theorem rstore_any (base rp lb bb cL cB : Nat) (aB : Option Addr) (D : Nat → Nat) (L : List (Int × Int)) (M : List Int) (a n v : Int) (w : World) (h : IsRef w base rp lb bb cL cB aB D L M) (ha : U64 a) (hv : U64 v) :
    Calls Try.prog 20 #[.pointer (some ⟨rp, 0, none⟩), .int .u64 a, .int .i64 n, .int .u64 v] w fun e w' => e = .returned (.int .i64 (accE L a n)) ∧ IsRef w' base rp lb bb cL cB aB D L (storeM L M a n v) ∧ Chg (Pcs D L) w w' := by
  by_cases hn : wid n = true
  · rcases wid_iff.1 hn with rfl | rfl | rfl | rfl
    · exact rstore_1 base rp lb bb cL cB aB D L M a v w h ha hv
    · exact rstore_2 base rp lb bb cL cB aB D L M a v w h ha hv
    · exact rstore_4 base rp lb bb cL cB aB D L M a v w h ha hv
    · exact rstore_8 base rp lb bb cL cB aB D L M a v w h ha hv
  · have H := hid_mk h
    have HW : Hid (wid n = false) := hid_mk (by simpa using hn)
    have hn4 : ¬ (n = 1 ∨ n = 2 ∨ n = 4 ∨ n = 8) := fun h => hn (wid_iff.2 h)
    clear hn h
    have b1 : (n != 1) = true := by simp; omega
    have b2 : (n != 2) = true := by simp; omega
    have b4 : (n != 4) = true := by simp; omega
    have b8 : (n != 8) = true := by simp; omega
    go_enter Try.func20, Try.ntmps20
    go_wp2_with fail
    go_ret
    refine ⟨ret_eq ?_, ?_, Chg.refl _ _⟩
    · unfold accE
      rw [HW.out]
      rfl
    · unfold storeM
      rw [HW.out]
      exact H.out
end Go.Proofs.Ytfjccpalkdmniaa
