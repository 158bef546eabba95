/- Pg7 Pg9: joined texts. Conditions: as each theorem names them. -/
import Derived.Test.YteolnghnlfeakaaKp14
import Derived.Test.YteolnghnlfeakaaKp22
import Derived.Test.YteolnghnlfeakaaKp23
import Derived.Test.YteolnghnlfeakaaKp21
import Derived.Defers
import Derived.Deep.RegionHeld3
/- Package seg's Scatter. Conditions: as each theorem names them. -/
namespace Go.Proofs.Yteolnghnlfeakaa
open Go.ChangeShapes Go.WideShapes Go.ChangeAt Go.RowKit
set_option linter.unusedVariables false
set_option maxRecDepth 100000

theorem okS_part (t : Bool) : ∀ {L : List Sg} {p q : Bool}, okS p L → (q = true → t = true) → okS q (partS t L)
  | [], p, q, h, hq => True.intro
  | s :: l, p, q, h, hq => by
    obtain ⟨⟨o1, o2, o3⟩, o4⟩ := h
    by_cases ht : s.t = t
    · rw [partS_yes ht]
      exact ⟨⟨o1, o2, fun h => by rw [ht]; exact hq h⟩, okS_part t o4 (fun h => by rw [← ht]; exact h)⟩
    · rw [partS_no ht]
      exact okS_part t o4 hq
theorem partS_is {t : Bool} {L : List Sg} (hu : isSgs L) : isSgs (partS t L) := fun s hs => hu s (List.mem_filter.1 hs).1
theorem segE_part {t : Bool} {L : List Sg} (hu : isSgs L) (h : segE L = 0) : segE (partS t L) = 0 := by
  obtain ⟨o1, o2, o3⟩ := (segE_ok hu).1 h
  refine (segE_ok (partS_is hu)).2 ⟨Nat.le_trans (partS_le t L) o1, okS_part t o2 (by simp), ?_⟩
  rw [sumS_part]
  have h1 := totS_sum L
  have h2 := totS_nonneg false hu
  have h3 := totS_nonneg true hu
  cases t <;> omega
theorem partS_t {t : Bool} {L : List Sg} : ∀ s ∈ partS t L, s.t = t := fun s hs => by
  have := (List.mem_filter.1 hs).2
  simpa using this
theorem cutS_t {t : Bool} : ∀ (L : List Sg) (f n : Int), (∀ s ∈ L, s.t = t) → ∀ s ∈ cutS L f n, s.t = t
  | [], f, n, h => fun s hs => by cases hs
  | s :: l, f, n, h => fun x hx => by
    have h2 : ∀ s ∈ l, s.t = t := fun s hs => h s (by simp [hs])
    by_cases hs : s.n ≤ f
    · rw [cutS_le hs] at hx
      exact cutS_t l _ _ h2 x hx
    · by_cases hk : 0 < min (s.n - f) n
      · rw [cutS_some (by omega) rfl hk] at hx
        rcases List.mem_cons.1 hx with rfl | hx
        · exact h s (by simp)
        · exact cutS_t l _ _ h2 x hx
      · rw [cutS_none (by omega) rfl (by omega)] at hx
        exact cutS_t l _ _ h2 x hx
theorem totS_all {t : Bool} : ∀ (L : List Sg), (∀ s ∈ L, s.t = t) → totS t L = sumS L
  | [], h => rfl
  | s :: l, h => by
    have := totS_all l (fun s hs => h s (by simp [hs]))
    simp only [totS, sumS]
    rw [if_pos (h s (by simp)), this]
theorem cutS_len : ∀ (L : List Sg) (f n : Int), (cutS L f n).length ≤ L.length
  | [], f, n => Nat.le_refl _
  | s :: l, f, n => by
    by_cases hs : s.n ≤ f
    · rw [cutS_le hs]
      exact Nat.le_trans (cutS_len l _ _) (by simp)
    · have := cutS_len l 0 (n - min (s.n - f) n)
      by_cases hk : 0 < min (s.n - f) n
      · rw [cutS_some (by omega) rfl hk]
        simp only [List.length_cons]
        omega
      · rw [cutS_none (by omega) rfl (by omega)]
        simp only [List.length_cons]
        omega
theorem writeM_empty (R : List (Int × Int)) (M : List Int) (a : Int) : writeM R M a [] = M := by
  unfold writeM
  rw [loc_empty R a _ (by simp)]
theorem scatS_empty (R : List (Int × Int)) : ∀ (L : List Sg) (M : List Int), scatS R M [] L = M
  | [], M => rfl
  | s :: l, M => by
    unfold scatS
    simp only [List.take_nil, List.drop_nil, writeM_empty, scatS_empty R l, ite_self]
theorem scatS_part (R : List (Int × Int)) : ∀ (L : List Sg) (M b : List Int), scatS R M b (partS true L) = scatS R M b L
  | [], M, b => rfl
  | s :: l, M, b => by
    by_cases ht : s.t = true
    · rw [partS_yes ht]
      unfold scatS
      rw [if_pos ht, if_pos ht, scatS_part R l]
    · rw [partS_no ht]
      conv => rhs; unfold scatS
      rw [if_neg ht, scatS_part R l]
theorem scatS_cut (R : List (Int × Int)) : ∀ (L : List Sg) (M b : List Int) (p : Bool), isSgs L → okS p L → (∀ s ∈ L, s.t = true) → scatS R M b (cutS L 0 (b.length : Int)) = scatS R M b L
  | [], M, b, p, h, ho, ht => rfl
  | s :: l, M, b, p, h, ho, ht => by
    obtain ⟨h1, h2⟩ := isSgs_cons h
    obtain ⟨⟨o1, o2, o3⟩, o4⟩ := ho
    have ht2 : ∀ s ∈ l, s.t = true := fun s hs => ht s (by simp [hs])
    have hts := ht s (by simp)
    cases b with
    | nil =>
      rw [scatS_empty, scatS_empty]
    | cons x b =>
      obtain ⟨k, hk⟩ : ∃ k, min (s.n - 0) (((x :: b).length : Nat) : Int) = k := ⟨_, rfl⟩
      have hkp : 0 < k := by
        simp only [List.length_cons] at hk
        omega
      rw [cutS_some (by omega) hk hkp]
      unfold scatS
      rw [if_pos hts, if_pos hts]
      have e1 : (x :: b).take k.toNat = (x :: b).take s.n.toNat := by
        by_cases hc : s.n.toNat = k.toNat
        · rw [hc]
        · rw [List.take_of_length_le (by omega), List.take_of_length_le (by omega)]
      have e2 : (x :: b).drop k.toNat = (x :: b).drop s.n.toNat := by
        by_cases hc : s.n.toNat = k.toNat
        · rw [hc]
        · rw [List.drop_of_length_le (by omega), List.drop_of_length_le (by omega)]
      have e3 : (((x :: b).length : Nat) : Int) - k = (((x :: b).drop s.n.toNat).length : Int) := by
        rw [List.length_drop]
        omega
      simp only [Int.add_zero]
      rw [e1, e2, e3, scatS_cut R l _ _ _ h2 o4 ht2]
/-- what Scatter goes through, as a list: the same bytes behind it -/
theorem scat_list {R : List (Int × Int)} (M : List Int) {L : List Sg} (l : List Int) (hu : isSgs L) (h : segE L = 0) : scatS R M l (cutS (partS true L) 0 (l.length : Int)) = scatS R M l L ∧ sumS (cutS (partS true L) 0 (l.length : Int)) = min (l.length : Int) (totS true L) := by
  obtain ⟨o1, o2, o3⟩ := (segE_ok hu).1 h
  have hs := partS_is (t := true) hu
  refine ⟨?_, ?_⟩
  · rw [scatS_cut R _ M l false hs (okS_part true o2 (by simp)) partS_t, scatS_part]
  · rw [sumS_cut _ _ _ hs (by omega) (by omega), sumS_part]
    have := totS_nonneg true hu
    by_cases hp : 0 < totS true L
    · rw [if_pos hp]
      omega
    · rw [if_neg hp]
      omega
theorem allIn_part {R : List (Int × Int)} {t : Bool} {L : List Sg} (h : allIn R L = true) : allIn R (partS t L) = true := by
  unfold allIn at h ⊢
  rw [List.all_eq_true] at h ⊢
  exact fun s hs => h s (List.mem_filter.1 hs).1
theorem allIn_at {R : List (Int × Int)} {L : List Sg} (h : allIn R L = true) {k : Nat} (hk : k < L.length) : (loc R (sat L k).a (sat L k).n).isSome = true := by
  unfold allIn at h
  rw [List.all_eq_true] at h
  have e : sat L k = L[k] := by simp [sat, List.getD, hk]
  rw [e]
  exact h _ (List.getElem_mem hk)
theorem sat_mem {L : List Sg} {k : Nat} (hk : k < L.length) : sat L k ∈ L := by
  have e : sat L k = L[k] := by simp [sat, List.getD, hk]
  rw [e]
  exact List.getElem_mem hk
theorem OwnS.blk {B : Nat} {w : World} {v : Value} {L : List Sg} (h : OwnS B w v L) : (L = [] ∧ ∃ c, v = .slice none 0 c) ∨ ∃ g c, v = .slice (some ⟨g, 0, none⟩) L.length c ∧ B ≤ g ∧ g < w.heap.size ∧ L.length ≤ c ∧ ∀ j, j < L.length → at3 w g (0 + j * 3) (sat L j) := by
  have hat := OwnS.at h
  obtain ⟨h1, h2⟩ := h
  rcases h2 with ⟨rfl, h0⟩ | ⟨g, cap, cur, rfl, hg, hh, hcap, hm, hs, ht⟩
  · exact Or.inl ⟨List.length_eq_zero_iff.1 h0, 0, rfl⟩
  · right
    refine ⟨g, cap, rfl, hg, lt_blk hh, hcap, ?_⟩
    rcases hat with ⟨_, hL⟩ | ⟨b, o, c, he, hb1, hb2, hb3⟩
    · intro j hj
      rw [hL] at hj
      exact absurd hj (by simp)
    · cases he
      exact hb3

abbrev StP (w3 : World) (p ib qb : Nat) (bx : Nat) (x : Value) (v1 : Value) (l1 : List Int) (R : List (Int × Int)) (M1 M2 : List Int) (W : World) : Prop := Chg (· = ib) w3 W ∧ (W.cell? ⟨bx, 0, none⟩ = some x ∧ bx < W.heap.size) ∧ BytesAt W v1 l1 ∧ (IsMem W p ib qb R M1 ∨ IsMem W p ib qb R M2)
theorem StP.keep {w3 : World} {p ib qb bx : Nat} {x v1 : Value} {l1 : List Int} {R : List (Int × Int)} {M1 M2 : List Int} {W W' : World} (hb : bx ≠ ib) (hv : ∀ b o n c, v1 = .slice (some ⟨b, o, none⟩) n c → b ≠ ib) (h : StP w3 p ib qb bx x v1 l1 R M1 M2 W) (hc : Chg (· = ib) W W') (hr : IsMem W' p ib qb R M2) : StP w3 p ib qb bx x v1 l1 R M1 M2 W' :=
  ⟨h.1.trans hc, ⟨(hc.cell h.2.1.2 hb).trans h.2.1.1, Nat.lt_of_lt_of_le h.2.1.2 hc.size⟩, bytes_chg h.2.2.1 hc (fun _ => hv), Or.inr hr⟩
theorem StP.bytes {w3 : World} {p ib qb bx : Nat} {x v1 : Value} {l1 : List Int} {R : List (Int × Int)} {M1 M2 : List Int} {W : World} (h : StP w3 p ib qb bx x v1 l1 R M1 M2 W) : BytesAt W v1 l1 ∧ (IsMem W p ib qb R M1 ∨ IsMem W p ib qb R M2) := h.2.2
theorem mem_loc {w : World} {p ib qb : Nat} {R : List (Int × Int)} {M : List Int} (h : IsMem w p ib qb R M) (a : Int) (l : List Int) : ∀ k, loc R a l.length = some k → k + l.length ≤ M.length := fun k hk => by
  have := loc_room hk (by omega)
  rw [h.len]
  simpa using this
theorem chg_of {S : Nat → Prop} {a b c : World} (h : Below a.heap.size a b) (hc : Chg S b c) : Chg S a c := (Chg.of_below h).trans hc

theorem pscat_nil (v x : Value) (w : World) :
    Calls Try.prog 10 #[.pointer none, v, x] w fun e w' => e = .returned (.tuple #[.int .i64 0, .int .i64 1]) ∧ w = w' := by
  go_enter Try.func10, Try.ntmps10
  go_wp2_with (go_at_call 15; refine (pin_nil _ _).mono ?_; rintro e w' ⟨rfl, rfl⟩)
  go_ret2
  exact ⟨rfl, rfl⟩

set_option maxHeartbeats 1000000 in
theorem pscat (v : Value) (L : List Sg) (xa : Option Addr) (xc : Nat) (l : List Int) (p ib qb : Nat) (R : List (Int × Int)) (M : List Int) (w : World) (hv : SegsAt w v L) (hu : isSgs L) (hb : BytesAt w (.slice xa l.length xc) l) (hlb : isBytes l) (hlen : l.length ≤ 1000000) (hm : IsMem w p ib qb R M)
    (hx : ∀ b o, xa = some ⟨b, o, none⟩ → b ≠ ib) :
    Calls Try.prog 10 #[.pointer (some ⟨p, 0, none⟩), v, .slice xa l.length xc] w fun e w' => e = .returned (.tuple #[.int .i64 (scatN R L l), .int .i64 (inE R L)]) ∧ IsMem w' p ib qb R (scatM R M L l) ∧ Chg (· = ib) w w' := by
  have HI := hid_mk (pin v L p ib qb R M w hv hu hm)
  have HM := hid_mk hm
  by_cases hE : inE R L = 0
  · have e1 : scatN R L l = min (l.length : Int) (totS true L) := by
      unfold scatN
      rw [if_pos hE]
    have e2 : scatM R M L l = scatS R M l L := by
      unfold scatM
      rw [if_pos hE]
    have hseg : segE L = 0 := by
      unfold inE at hE
      by_cases h : segE L = 0
      · exact h
      · rw [if_neg h] at hE
        exact hE
    have hall : allIn R L = true := by
      rw [inE_ok hseg] at hE
      unfold exE at hE
      by_cases h : allIn R L = true
      · exact h
      · rw [if_neg h] at hE
        cases hE
    obtain ⟨s1, s2⟩ := scat_list (R := R) M l hu hseg
    rw [e1, e2, hE, ← s1, ← s2]
    rw [hE] at HI
    have hP : partE true L = partS true L := by
      unfold partE
      rw [if_pos hseg]
    have hPs := segE_part (t := true) hu hseg
    have HCut : Hid (∀ (u : World) (v' : Value), SegsAt u v' (partS true L) → Calls Try.prog 26 #[v', .int .u64 0, .int .u64 l.length] u fun e w' => ∃ v', e = .returned v' ∧ OwnS u.heap.size w' v' (cutS (partS true L) 0 (l.length : Int)) ∧ Below u.heap.size u w') := fun u v' h => by
      have := pcut v' 0 (l.length : Int) _ u h (partS_is hu) ⟨by omega, by omega⟩ ⟨by omega, by omega⟩
      unfold cutE at this
      rw [if_pos hPs] at this
      exact this
    have hokP := (segE_ok (partS_is hu)).1 hPs
    have HCu := hid_mk (cutS_is (partS true L) 0 (l.length : Int) false (partS_is hu) hokP.2.1 (by omega) (by omega))
    have HCt := hid_mk (cutS_t (partS true L) 0 (l.length : Int) (partS_t (t := true)))
    have HCs : Hid (sumS (cutS (partS true L) 0 (l.length : Int)) ≤ (l.length : Int)) := by
      show _ ≤ _
      rw [s2]
      omega
    have HCa := hid_mk (allIn_cut hm.ok (partS true L) 0 (l.length : Int) (partS_is hu) (allIn_part hall) (by omega) (by omega))
    have HC64 := hid_mk (Nat.le_trans (cutS_len (partS true L) 0 (l.length : Int)) hokP.1)
    have HV := hid_mk hv
    have HU := hid_mk hu
    have HPart := hid_mk (fun u (h : SegsAt u v L) => ppart v true L u h hu)
    rw [hP] at HPart
    have HB := hid_mk hb
    have HLB := hid_mk hlb
    have HX := hid_mk hx
    have hib := lt_blk hm.img
    have HIB := hid_mk hib
    have HLEN := hid_mk hlen
    have hli : (l.length : Int) ≤ 1000000 := by omega
    have hlw : IntKind.u64.wrap (l.length : Int) = (l.length : Int) := by rw [IntKind.wrap_u64]; omega
    clear e1 e2 hseg hall s1 s2 hP hPs hokP hv hu hb hlb hx hib hE hm
    generalize hC : cutS (partS true L) 0 (l.length : Int) = C at *
    generalize hP : partS true L = P at *
    clear hC hP
    obtain ⟨va, vc, rfl⟩ := HV.out.len
    go_enter Try.func10, Try.ntmps10
    go_wp2_with fail
    refine HI.out.mono ?_
    rintro e w1 ⟨rfl, hb⟩
    have HB1 := hid_mk hb
    clear hb
    go_wp2_with fail
    refine (HPart.out _ (HV.out.below HB1.out)).mono ?_
    rintro e w2 ⟨v2, rfl, ho2, hb⟩
    have HB2 := hid_mk (below_then HB1.out hb)
    have HO2 := hid_mk ho2.at
    clear hb ho2
    go_wp2_with fail
    refine (HCut.out _ _ HO2.out).mono ?_
    rintro e w3 ⟨v3, rfl, ho3, hb⟩
    have HB3 := hid_mk (below_then HB2.out hb)
    have hz2 := HB2.out.size
    rcases ho3.blk with ⟨rfl, c, rfl⟩ | ⟨g, c, rfl, hg1, hg2, hg3, hg4⟩
    · clear hb ho3 hz2
      go_wp2_with fail
      go_loopw [9, 11, 12, 13, 27] (fun n _ _ _ i wr => n = .int .i64 0 ∧ i = .int .i64 0 ∧ wr = w3) (fun _ _ _ _ i _ => 0)
      case atStart => exact ⟨rfl, rfl, rfl⟩
      case round =>
        obtain ⟨rfl, rfl, rfl⟩ := hrel
        go_wp2_with fail
        go_ret2
        exact ⟨rfl, HM.out.below HB3.out, Chg.of_below HB3.out⟩
    · have HC := hid_mk hg4
      have hgi : g ≠ ib := by have := HIB.out; omega
      have HM3 := hid_mk (HM.out.below HB3.out)
      have HBy3 := hid_mk (HB.out.below HB3.out)
      have h64i : (C.length : Int) ≤ 64 := by have := HC64.out; omega
      have HIB3 : Hid (ib < w3.heap.size) := Nat.lt_of_lt_of_le HIB.out HB3.out.size
      clear hb ho3 hz2 hg4 hg1
      go_wp2_with fail
      go_loopw [9, 11, 12, 13, 27] (fun n _ _ _ i wr => ∃ (k nn : Nat) (M' : List Int), k ≤ C.length ∧ i = .int .i64 k ∧ n = .int .i64 nn ∧ Hid (ScatInv R M C l k nn M') ∧ Hid (IsMem wr p ib qb R M') ∧ Hid (Chg (· = ib) w3 wr)) (fun _ _ _ _ i _ => C.length - (intOf i).toNat)
      case atStart => exact ⟨0, 0, M, Nat.zero_le _, rfl, rfl, hid_mk (ScatInv.start R M C l), HM3, hid_mk (Chg.refl _ _)⟩
      case round =>
        obtain ⟨k, nn, M', hk, rfl, rfl, hinv, hmem, hchg⟩ := hrel
        by_cases hlt : k < C.length
        · obtain ⟨c0, c1, c2⟩ := HC.out k hlt
          simp only [Nat.zero_add] at c0 c1 c2
          obtain ⟨hx, hy0, hy1⟩ := sat_is HCu.out k
          have d0 := (hchg.out.cell (o := k * 3) hg2 hgi).trans c0
          have d1 := (hchg.out.cell (o := k * 3 + 1) hg2 hgi).trans c1
          have d2 := (hchg.out.cell (o := k * 3 + 2) hg2 hgi).trans c2
          have hbw : g < wr.heap.size := Nat.lt_of_lt_of_le hg2 hchg.out.size
          have ht : (sat C k).t = true := HCt.out _ (sat_mem hlt)
          have hle := hinv.out.le
          obtain ⟨q, hq⟩ : ∃ q : Nat, (sat C k).n = (q : Int) := ⟨(sat C k).n.toNat, by omega⟩
          have hsum := sumS_take hlt
          have hsl := (totS_le HCu.out true k)
          have hcnt := hinv.out.cnt
          have htt := totS_all C (fun s hs => HCt.out s hs)
          have htk := totS_all (C.take k) (fun s hs => HCt.out s (List.mem_of_mem_take hs))
          have htk1 := totS_le HCu.out true (k + 1)
          have htk2 := totS_all (C.take (k + 1)) (fun s hs => HCt.out s (List.mem_of_mem_take hs))
          have hCs := HCs.out
          have hnq0 : nn + q ≤ l.length := by omega
          have HX1 := hid_mk (hinv.out.write hlt HCu.out ht (q := q) (by omega))
          obtain ⟨v1, hslc, hby, hblk⟩ := sliceMid HBy3.out nn q hnq0
          have hvn : ∀ b o n c, v1 = .slice (some ⟨b, o, none⟩) n c → b ≠ ib := fun b' o' n' c' he => by
            obtain ⟨o2, hxa⟩ := hblk _ _ _ _ he
            exact HX.out _ _ hxa
          have HVN := hid_mk hvn
          have hloc := allIn_at HCa.out hlt
          have hl1 : ((l.drop nn).take q).length = q := by
            rw [List.length_take, List.length_drop]
            omega
          have hwe : writeE R (sat C k).a ((l.drop nn).take q) = 0 := by
            unfold writeE
            rw [hl1, ← hq, hloc]
            simp
          have HWE := hid_mk hwe
          have hnqi : (nn : Int) + (q : Int) ≤ 1000000 := by omega
          have hnq1 : 0 ≤ (nn : Int) + (q : Int) := by omega
          have hnw := (i64_small hnq1 hnqi).1
          have hnw2 := (i64_small hnq1 hnqi).2
          have hqi : (q : Int) ≤ 1000000 := by omega
          have hqw := (i64_small (Int.natCast_nonneg q) hqi).1
          have hqw2 := (i64_small (Int.natCast_nonneg q) hqi).2
          have HM2 := hid_mk (writeM_two R M' (sat C k).a ((l.drop nn).take q) (mem_loc hmem.out _ _))
          have HBL : Hid (isBytes ((l.drop nn).take q)) := fun z hz => HLB.out z (List.mem_of_mem_drop (List.mem_of_mem_take hz))
          have HLE := hid_mk (part_le nn q HLEN.out)
          have hbi : wr.heap.size ≠ ib := by
            have := HIB3.out
            have := hchg.out.size
            omega
          have hbel := (Below.refl wr.heap.size wr).alloc (Nat.le_refl _) (.cells #[.int .u64 (sat C k).a, .int .u32 (q : Int), .bool (sat C k).t] 32)
          have HS := hid_mk (show StP w3 p ib qb wr.heap.size (.int .u64 (sat C k).a) v1 ((l.drop nn).take q) R M' (writeM R M' (sat C k).a ((l.drop nn).take q)) (wr.alloc (.cells #[.int .u64 (sat C k).a, .int .u32 (q : Int), .bool (sat C k).t] 32)).drew from
            ⟨(hchg.out.allocR _).drewR, ⟨by go_simp, by simp⟩, bytes_chg hby ((hchg.out.allocR _).drewR) (fun _ => hvn), Or.inl (hmem.out.below hbel.drew)⟩)
          clear hblk hby hinv hvn hmem hle hsum hsl hcnt htt htk htk1 htk2 hCs hnq0 hloc hl1 hwe hbel c0 c1 c2 ht hy0 hy1
          rw [hq] at d1
          generalize (l.drop nn).take q = l1 at *
          generalize (sat C k).a = x at *
          generalize (sat C k).t = z at *
          have HW : Hid (∀ u, BytesAt u v1 l1 ∧ (IsMem u p ib qb R M' ∨ IsMem u p ib qb R (writeM R M' x l1)) → Calls Try.prog 34 #[.pointer (some ⟨p, 0, none⟩), .int .u64 x, v1] u fun e w' => e = .returned (.int .i64 0) ∧ IsMem w' p ib qb R (writeM R M' x l1) ∧ Chg (· = ib) u w') := fun u h => by
            rw [← HWE.out]
            rcases h.2 with h2 | h2
            · exact write_any p ib qb R M' x v1 l1 u h2 hx h.1 HBL.out (le_big HLE.out)
            · have := write_any p ib qb R _ x v1 l1 u h2 hx h.1 HBL.out (le_big HLE.out)
              rw [HM2.out] at this
              exact this
          generalize hM2 : writeM R M' x l1 = M2 at *
          clear hM2 HM2 HWE hq hx
          go_upto_region 9 with fail
          go_region_held3 (fun w' => Chg (· = ib) w3 w' ∧ (w'.cell? ⟨wr.heap.size, 0, none⟩ = some (.int .u64 x) ∧ wr.heap.size < w'.heap.size) ∧ BytesAt w' v1 l1 ∧ (IsMem w' p ib qb R M' ∨ IsMem w' p ib qb R M2)) (first | exact HS.out | exact StP.keep hbi HVN.out (by assumption) (by assumption) (by assumption))
            (first | (go_at_call 34; refine (HW.out _ (StP.bytes (by assumption))).mono ?_; rintro e w' ⟨rfl, hr2, hc2⟩))
          have hz : StP w3 p ib qb wr.heap.size (.int .u64 x) v1 l1 R M' M2 w' := by
            first | assumption | exact StP.keep hbi HVN.out (by assumption) (by assumption) (by assumption)
          have HZ := hid_mk hz.1
          have HR2 := hid_mk hr2
          clear hz
          go_wp2_with fail
          go_roundw
          case rel => exact ⟨k + 1, nn + q, _, by omega, by go_num, by go_num, HX1, HR2, HZ⟩
          case measure => simp [intOf]; omega
        · obtain rfl : k = C.length := by omega
          obtain ⟨f1, f2⟩ := hinv.out.done
          have htt := totS_all C (fun s hs => HCt.out s hs)
          have hCs := HCs.out
          rw [htt] at f2
          have HF1 := hid_mk f1
          have HF2 : Hid ((nn : Int) = sumS C) := by
            show _ = _
            omega
          clear f1 f2 hinv htt hCs
          go_wp2_with fail
          go_ret2
          exact ⟨by rw [← HF2.out]; rfl, by rw [HF1.out]; exact hmem.out, chg_of HB3.out hchg.out⟩
  · have e1 : scatN R L l = 0 := by
      unfold scatN
      rw [if_neg hE]
    have e2 : scatM R M L l = M := by
      unfold scatM
      rw [if_neg hE]
    rw [e1, e2]
    have hE2 : (inE R L != 0) = true := by simp [hE]
    obtain ⟨va, vc, rfl⟩ := hv.len
    clear e1 e2 hE hu hv hm hx hb
    generalize inE R L = y at *
    go_enter Try.func10, Try.ntmps10
    go_wp2_with fail
    refine HI.out.mono ?_
    rintro e w1 ⟨rfl, hb⟩
    have HB1 := hid_mk hb
    clear hb
    go_wp2_with fail
    go_ret2
    exact ⟨rfl, HM.out.below HB1.out, Chg.of_below HB1.out⟩
end Go.Proofs.Yteolnghnlfeakaa

/- Package seg's assemble: its deferred check of sums. Conditions: as each theorem names them. -/
namespace Go.Proofs.Yteolnghnlfeakaa
open Go.ChangeShapes Go.WideShapes Go.ChangeAt Go.RowKit
set_option linter.unusedVariables false
set_option maxRecDepth 100000

abbrev StA (w : World) (bb lb : Nat) (x v : Value) (W : World) : Prop := Below w.heap.size w W ∧ W.cell? ⟨bb, 0, none⟩ = some x ∧ W.cell? ⟨lb, 0, none⟩ = some v
theorem StA.keep {w : World} {bb lb : Nat} {x v : Value} {W W' : World} (hb : bb < w.heap.size) (hl : lb < w.heap.size) (h : StA w bb lb x v W) (hc : Below W.heap.size W W') : StA w bb lb x v W' :=
  ⟨below_then h.1 hc, (hc.cell (p := ⟨bb, 0, none⟩) (Nat.lt_of_lt_of_le hb h.1.size)).trans h.2.1, (hc.cell (p := ⟨lb, 0, none⟩) (Nat.lt_of_lt_of_le hl h.1.size)).trans h.2.2⟩
theorem StA.below {w : World} {bb lb : Nat} {x v : Value} {W : World} (h : StA w bb lb x v W) : Below w.heap.size w W := h.1

set_option maxHeartbeats 1000000 in
theorem passm1_ok (bb lb eb : Nat) (xa : Option Addr) (n xc : Nat) (v : Value) (L : List Sg) (u : FrameMode) (w : World) (h1 : w.cell? ⟨bb, 0, none⟩ = some (.slice xa n xc)) (h2 : w.cell? ⟨lb, 0, none⟩ = some v) (hv : SegsAt w v L) (hu : isSgs L) (hl : L.length ≤ 1000) (hbb : bb < w.heap.size) (hlb : lb < w.heap.size) (hn : n ≤ 8589934592) (heq : (n : Int) = sumS L) :
    CallsD Try.prog 55 #[.pointer (some ⟨bb, 0, none⟩), .pointer (some ⟨lb, 0, none⟩), .pointer (some ⟨eb, 0, none⟩)] u w fun e u' w' => u' = u ∧ (e = .returned (.tuple #[]) ∧ Below w.heap.size w w') := by
  have HS := hid_mk (fun u (h : Below w.heap.size w u) => psum v L u (hv.below h) hu hl)
  have HQ := hid_mk (show StA w bb lb (.slice xa n xc) v w.drew from ⟨(Below.refl _ _).drew, h1, h2⟩)
  have hw : IntKind.u64.wrap (n : Int) = (n : Int) := by rw [IntKind.wrap_u64]; omega
  obtain ⟨va, vc, rfl⟩ := hv.len
  rw [← heq] at HS
  have hne : ((n : Int) != (n : Int)) = false := by simp
  clear hv hu hl heq
  go_enter_d Try.func55, Try.ntmps55
  go_wp2_with fail
  go_region_held3 (fun W => Below w.heap.size w W ∧ W.cell? ⟨bb, 0, none⟩ = some (.slice xa n xc) ∧ W.cell? ⟨lb, 0, none⟩ = some (.slice va L.length vc)) (first | exact HQ.out | exact StA.keep hbb hlb (by assumption) (by assumption))
    (first | (go_at_call 38; refine (HS.out _ (StA.below (by assumption))).mono ?_; rintro e w' ⟨rfl, hb⟩))
  have hz : StA w bb lb (.slice xa n xc) (.slice va L.length vc) w' := by
    first | assumption | exact StA.keep hbb hlb (by assumption) (by assumption)
  have HZ := hid_mk hz.1
  clear hz
  go_wp2
  go_end0
  exact ⟨rfl, HZ.out⟩

set_option maxHeartbeats 1000000 in
theorem passm1_bad (bb lb eb : Nat) (xa : Option Addr) (n xc : Nat) (v : Value) (L : List Sg) (u : FrameMode) (w : World) (h1 : w.cell? ⟨bb, 0, none⟩ = some (.slice xa n xc)) (h2 : w.cell? ⟨lb, 0, none⟩ = some v) (h3 : w.cell? ⟨eb, 0, none⟩ = some (.int .i64 0)) (hf1 : w.frozen? ⟨bb, 0, none⟩ = false) (hf3 : w.frozen? ⟨eb, 0, none⟩ = false) (hv : SegsAt w v L) (hu : isSgs L) (hl : L.length ≤ 1000) (hbb : bb < w.heap.size) (hlb : lb < w.heap.size) (heb : eb < w.heap.size) (hbe : bb ≠ eb) (hn : n ≤ 8589934592) (heq : (n : Int) ≠ sumS L) :
    CallsD Try.prog 55 #[.pointer (some ⟨bb, 0, none⟩), .pointer (some ⟨lb, 0, none⟩), .pointer (some ⟨eb, 0, none⟩)] u w fun e u' w' => u' = u ∧ (e = .returned (.tuple #[]) ∧ (w'.cell? ⟨bb, 0, none⟩ = some (.slice none 0 0) ∧ w'.cell? ⟨eb, 0, none⟩ = some (.int .i64 5)) ∧ Chg (fun k => k = bb ∨ k = eb) w w') := by
  have HS := hid_mk (fun u (h : Below w.heap.size w u) => psum v L u (hv.below h) hu hl)
  have HQ := hid_mk (show StA w bb lb (.slice xa n xc) v w.drew from ⟨(Below.refl _ _).drew, h1, h2⟩)
  have hw : IntKind.u64.wrap (n : Int) = (n : Int) := by rw [IntKind.wrap_u64]; omega
  obtain ⟨va, vc, rfl⟩ := hv.len
  have hne : ((n : Int) != sumS L) = true := by simp; exact heq
  clear hv hu hl heq
  go_enter_d Try.func55, Try.ntmps55
  go_wp2_with fail
  go_region_held3 (fun W => Below w.heap.size w W ∧ W.cell? ⟨bb, 0, none⟩ = some (.slice xa n xc) ∧ W.cell? ⟨lb, 0, none⟩ = some (.slice va L.length vc)) (first | exact HQ.out | exact StA.keep hbb hlb (by assumption) (by assumption))
    (first | (go_at_call 38; refine (HS.out _ (StA.below (by assumption))).mono ?_; rintro e w' ⟨rfl, hb⟩))
  have hz : StA w bb lb (.slice xa n xc) (.slice va L.length vc) w' := by
    first | assumption | exact StA.keep hbb hlb (by assumption) (by assumption)
  have HZ := hid_mk hz.1
  have k1 := hz.2.1
  have k3 := (hz.1.cell (p := ⟨eb, 0, none⟩) heb).trans h3
  have m1 := (hz.1.frozen (p := ⟨bb, 0, none⟩) hbb).trans hf1
  have m3 := (hz.1.frozen (p := ⟨eb, 0, none⟩) heb).trans hf3
  clear hz h1 h2 h3 hf1 hf3
  go_wp2
  go_end0
  have hA : (⟨eb, 0, none⟩ : Addr) ≠ ⟨bb, 0, none⟩ := fun e => hbe (by cases e; rfl)
  have hB : (⟨bb, 0, none⟩ : Addr) ≠ ⟨eb, 0, none⟩ := fun e => hbe (by cases e; rfl)
  refine ⟨rfl, ⟨?_, ?_⟩, ((Chg.of_below HZ.out).setR (Or.inl (Or.inl rfl)) _).setR (Or.inl (Or.inr rfl)) _⟩
  · rw [World.cell?_setCell_other _ _ _ _ hA]
    exact World.cell?_setCell_same _ _ _ k1
  · refine World.cell?_setCell_same _ _ _ (u := .int .i64 0) ?_
    rw [World.cell?_setCell_other _ _ _ _ hB]
    exact k3
end Go.Proofs.Yteolnghnlfeakaa
