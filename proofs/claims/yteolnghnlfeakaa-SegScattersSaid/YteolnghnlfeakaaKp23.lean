/- Sg12 Sg11: joined texts. Conditions: as each theorem names them. -/
import Derived.Test.YteolnghnlfeakaaKp22
/- Plain facts of what is read and written through lists of segments. No program in sight. Conditions: as each lemma names them. -/
namespace Go.Proofs.Yteolnghnlfeakaa
open Go.ChangeShapes Go.WideShapes Go.ChangeAt Go.RowKit
set_option linter.unusedVariables false
set_option maxRecDepth 100000

theorem loc_split {R : List (Int × Int)} (hR : okR (-1) 1048576 R = true) {a f g : Int} {k : Nat} (h : loc R a (f + g) = some k) (hf : 1 ≤ f) (hg : 1 ≤ g) : loc R a f = some k ∧ loc R (a + f) g = some (k + f.toNat) := by
  obtain ⟨i, hi, h1, h2, h3, rfl⟩ := loc_some h
  refine ⟨loc_mk hR hi h1 (by omega) hf, ?_⟩
  rw [loc_mk hR hi (by omega) (by omega) hg]
  congr 1
  omega
theorem readL_zero (R : List (Int × Int)) (M : List Int) (a n : Int) (h : n < 1) : readL R M a n = [] := by
  unfold readL
  rw [loc_empty R a n h]
theorem readL_some {R : List (Int × Int)} {M : List Int} {a n : Int} {k : Nat} (h : loc R a n = some k) : readL R M a n = (M.drop k).take n.toNat := by
  unfold readL
  rw [h]
theorem readL_split {R : List (Int × Int)} (hR : okR (-1) 1048576 R = true) (M : List Int) {a f g : Int} (h : (loc R a (f + g)).isSome = true) (hf : 0 ≤ f) (hg : 0 ≤ g) : readL R M a (f + g) = readL R M a f ++ readL R M (a + f) g := by
  obtain ⟨k, hk⟩ := Option.isSome_iff_exists.1 h
  by_cases f0 : f = 0
  · subst f0
    rw [readL_zero R M a 0 (by omega), List.nil_append, Int.zero_add, Int.add_zero]
  · by_cases g0 : g = 0
    · subst g0
      rw [readL_zero R M _ 0 (by omega), List.append_nil, Int.add_zero]
    · obtain ⟨e1, e2⟩ := loc_split hR hk (by omega) (by omega)
      rw [readL_some hk, readL_some e1, readL_some e2]
      have e3 : (f + g).toNat = f.toNat + g.toNat := by omega
      rw [e3, List.take_add, List.drop_drop]
theorem readL_length {R : List (Int × Int)} {M : List Int} (hM : M.length = sumR R) {a n : Int} (h : (loc R a n).isSome = true) (hn : 0 ≤ n) : ((readL R M a n).length : Int) = n := by
  obtain ⟨k, hk⟩ := Option.isSome_iff_exists.1 h
  have := loc_room hk hn
  rw [readL_some hk, List.length_take, List.length_drop]
  omega
theorem allIn_cons {R : List (Int × Int)} {s : Sg} {l : List Sg} (h : allIn R (s :: l) = true) : (loc R s.a s.n).isSome = true ∧ allIn R l = true := by
  simpa [allIn] using h
theorem gatS_length {R : List (Int × Int)} {M : List Int} (hM : M.length = sumR R) : ∀ {L : List Sg}, isSgs L → allIn R L = true → ((gatS R M L).length : Int) = totS false L
  | [], _, _ => rfl
  | s :: l, h, ha => by
    obtain ⟨h1, h2⟩ := isSgs_cons h
    obtain ⟨a1, a2⟩ := allIn_cons ha
    have ih := gatS_length hM h2 a2
    have hr := readL_length hM a1 h1.2.1
    simp only [gatS, totS, List.length_append]
    cases s.t
    · simp
      omega
    · simp
      omega
/-- a cut of segments that exist exists -/
theorem allIn_cut {R : List (Int × Int)} (hR : okR (-1) 1048576 R = true) : ∀ (L : List Sg) (f n : Int), isSgs L → allIn R L = true → 0 ≤ f → 0 ≤ n → allIn R (cutS L f n) = true
  | [], f, n, h, ha, hf, hn => rfl
  | s :: l, f, n, h, ha, hf, hn => by
    obtain ⟨h1, h2⟩ := isSgs_cons h
    obtain ⟨a1, a2⟩ := allIn_cons ha
    have h3 := h1.2.1
    by_cases hs : s.n ≤ f
    · rw [cutS_le hs]
      exact allIn_cut hR l _ _ h2 a2 (by omega) hn
    · by_cases hk : 0 < min (s.n - f) n
      · rw [cutS_some (by omega) rfl hk]
        have ih := allIn_cut hR l 0 (n - min (s.n - f) n) h2 a2 (by omega) (by omega)
        have e : (loc R (s.a + f) (min (s.n - f) n)).isSome = true := by
          obtain ⟨k, hk1⟩ := Option.isSome_iff_exists.1 a1
          obtain ⟨i, hi, q1, q2, q3, _⟩ := loc_some hk1
          rw [loc_mk hR hi (by omega) (by omega) (by omega)]
          rfl
        unfold allIn at ih ⊢
        simp only [List.all_cons, e, ih, Bool.and_self]
      · rw [cutS_none (by omega) rfl (by omega)]
        exact allIn_cut hR l 0 _ h2 a2 (by omega) (by omega)
/-- gathered in two halves -/
theorem gat_two {R : List (Int × Int)} (hR : okR (-1) 1048576 R = true) (M : List Int) : ∀ (L : List Sg) (f n : Int) (p : Bool), isSgs L → okS p L → allIn R L = true → 0 ≤ f → sumS L - f ≤ n → 0 ≤ n → gatS R M (cutS L 0 f) ++ gatS R M (cutS L f n) = gatS R M L
  | [], f, n, p, h, ho, ha, hf, hn, hn0 => rfl
  | s :: l, f, n, p, h, ho, ha, hf, hn, hn0 => by
    obtain ⟨h1, h2⟩ := isSgs_cons h
    obtain ⟨⟨o1, o2, o3⟩, o4⟩ := ho
    obtain ⟨a1, a2⟩ := allIn_cons ha
    have h4 := sumS_nonneg h2
    simp only [sumS] at hn
    by_cases hs : s.n ≤ f
    · have ih := gat_two hR M l (f - s.n) n s.t h2 o4 a2 (by omega) (by omega) hn0
      rw [cutS_some (k := s.n) (by omega) (by omega) (by omega), cutS_le hs]
      simp only [gatS, Int.add_zero, List.append_assoc]
      rw [ih]
    · rw [cutS_some (s := s) (f := f) (k := s.n - f) (by omega) (by omega) (by omega), cutS_all l _ _ h2 o4 (by omega)]
      by_cases hf0 : f = 0
      · subst hf0
        rw [cutS_zero _ 0 0 (by omega)]
        simp only [gatS, List.nil_append, Int.add_zero, Int.sub_zero]
      · rw [cutS_some (k := f) (by omega) (by omega) (by omega), cutS_zero _ _ _ (by omega)]
        simp only [gatS, Int.add_zero, List.append_nil]
        cases ht : s.t
        · have e := readL_split hR M (a := s.a) (f := f) (g := s.n - f) (by rw [show f + (s.n - f) = s.n from by omega]; exact a1) hf (by omega)
          rw [show f + (s.n - f) = s.n from by omega] at e
          simp only [Bool.false_eq_true, if_false]
          rw [e, List.append_assoc]
        · simp
theorem writeM_nil (R : List (Int × Int)) (M : List Int) (a : Int) : writeM R M a [] = M := by
  unfold writeM
  rw [loc_empty R a _ (by simp)]
theorem scatS_nil (R : List (Int × Int)) (M : List Int) : ∀ L : List Sg, scatS R M [] L = M
  | [] => rfl
  | s :: l => by
    have ih := scatS_nil R M l
    unfold scatS
    rw [List.take_nil, List.drop_nil, writeM_nil, ih]
    split <;> rfl
theorem part_sum (t : Bool) : ∀ L : List Sg, totS t (partS t L) = totS t L ∧ totS (!t) (partS t L) = 0
  | [] => ⟨rfl, rfl⟩
  | s :: l => by
    obtain ⟨i1, i2⟩ := part_sum t l
    by_cases h : s.t = t
    · rw [partS_yes h]
      simp only [totS, i1, i2, h]
      cases t <;> simp
    · rw [partS_no h]
      simp only [totS, i1, i2, if_neg h]
      exact ⟨by omega, trivial⟩
end Go.Proofs.Yteolnghnlfeakaa

/- The reference's Scatter of layer 5: the walk. Conditions: as each theorem names them. -/
namespace Go.Proofs.Yteolnghnlfeakaa
open Go.ChangeShapes Go.WideShapes Go.ChangeAt Go.RowKit
set_option linter.unusedVariables false
set_option maxRecDepth 100000

theorem i64_small {x : Int} (h0 : 0 ≤ x) (h1 : x ≤ 1000000) : wrap64 x = x ∧ IntKind.i64.wrap x = x :=
  ⟨by unfold wrap64; omega, IntWalk.i64_in _ (by omega)⟩
theorem le_big {n : Nat} (h : n ≤ 1000000) : n ≤ 4611686018427387904 := Nat.le_trans h (by decide)
theorem part_le {l : List Int} (nn q : Nat) (h : l.length ≤ 1000000) : ((l.drop nn).take q).length ≤ 1000000 := by
  rw [List.length_take, List.length_drop]
  omega
theorem bytes_chg {w w' : World} {v : Value} {l : List Int} {S : Nat → Prop} (h : BytesAt w v l) (hc : Chg S w w') (hS : 0 < l.length → ∀ b o n c, v = .slice (some ⟨b, o, none⟩) n c → ¬ S b) : BytesAt w' v l := by
  rcases h with h | ⟨b, o, c, h1, h2, h3, h4⟩
  · exact Or.inl h
  · have hz := hc.size
    exact Or.inr ⟨b, o, c, h1, by omega, h3, fun j hj => (hc.cell h2 (hS (by omega) _ _ _ _ h1)).trans (h4 j hj)⟩
abbrev StW (w : World) (b p : Nat) (x : Value) (v1 : Value) (l1 : List Int) (base rp lb bb cL cB : Nat) (aB : Option Addr) (D : Nat → Nat) (R : List (Int × Int)) (M1 M2 : List Int) (W : World) : Prop := Chg (Pcs D R) w W ∧ (W.cell? ⟨b, p, none⟩ = some x ∧ b < W.heap.size) ∧ BytesAt W v1 l1 ∧ (IsRef W base rp lb bb cL cB aB D R M1 ∨ IsRef W base rp lb bb cL cB aB D R M2)
theorem StW.keep {w : World} {b p : Nat} {x : Value} {v1 : Value} {l1 : List Int} {base rp lb bb cL cB : Nat} {aB : Option Addr} {D : Nat → Nat} {R : List (Int × Int)} {M1 M2 : List Int} {W W' : World} (hb : ¬ Pcs D R b) (hv : 0 < l1.length → ∀ b o n c, v1 = .slice (some ⟨b, o, none⟩) n c → ¬ Pcs D R b) (h : StW w b p x v1 l1 base rp lb bb cL cB aB D R M1 M2 W) (hc : Chg (Pcs D R) W W') (hr : IsRef W' base rp lb bb cL cB aB D R M2) : StW w b p x v1 l1 base rp lb bb cL cB aB D R M1 M2 W' :=
  ⟨h.1.trans hc, ⟨(hc.cell h.2.1.2 hb).trans h.2.1.1, Nat.lt_of_lt_of_le h.2.1.2 hc.size⟩, bytes_chg h.2.2.1 hc hv, Or.inr hr⟩
theorem StW.bytes {w : World} {b p : Nat} {x : Value} {v1 : Value} {l1 : List Int} {base rp lb bb cL cB : Nat} {aB : Option Addr} {D : Nat → Nat} {R : List (Int × Int)} {M1 M2 : List Int} {W : World} (h : StW w b p x v1 l1 base rp lb bb cL cB aB D R M1 M2 W) : BytesAt W v1 l1 ∧ (IsRef W base rp lb bb cL cB aB D R M1 ∨ IsRef W base rp lb bb cL cB aB D R M2) := h.2.2

set_option maxHeartbeats 4000000 in
theorem rsegscat (v : Value) (L : List Sg) (xa : Option Addr) (xc : Nat) (l : List Int) (base rp lb bb cL cB : Nat) (aB : Option Addr) (D : Nat → Nat) (R : List (Int × Int)) (M : List Int) (w : World) (hv : SegsAt w v L) (hu : isSgs L) (hb : BytesAt w (.slice xa l.length xc) l) (hlb : isBytes l) (hlen : l.length ≤ 1000000) (hr : IsRef w base rp lb bb cL cB aB D R M)
    (hvB : 0 < L.length → ∀ b o n c, v = .slice (some ⟨b, o, none⟩) n c → b < base) (hxB : 0 < l.length → ∀ b o, xa = some ⟨b, o, none⟩ → b < base) :
    Calls Try.prog 30 #[.pointer (some ⟨rp, 0, none⟩), v, .slice xa l.length xc] w fun e w' => e = .returned (.tuple #[.int .i64 (scatN R L l), .int .i64 (inE R L)]) ∧ IsRef w' base rp lb bb cL cB aB D R (scatM R M L l) ∧ Chg (Pcs D R) w w' := by
  have HI := hid_mk (rsegin v L base rp lb bb cL cB aB D R M w hv hu hr)
  have hnP : ∀ b, b < base → ¬ Pcs D R b := fun b hb1 ⟨j, hj, e⟩ => by
    have := (hr.ne j hj).2.2.2
    omega
  by_cases hE : inE R L = 0
  · have e1 : scatN R L l = min (l.length : Int) (totS true L) := by
      unfold scatN
      rw [if_pos hE]
    have e2 : scatM R M L l = scatS R M l L := by
      unfold scatM
      rw [if_pos hE]
    rw [e1, e2, hE]
    rw [hE] at HI
    have hseg : segE L = 0 := by
      unfold inE at hE
      by_cases h : segE L = 0
      · exact h
      · rw [if_neg h] at hE
        exact hE
    obtain ⟨o1, o2, o3⟩ := (segE_ok hu).1 hseg
    rcases hv with ⟨⟨va, vc, rfl, _⟩, rfl⟩ | ⟨b, o, c, rfl, hb1, hb2, hb3⟩
    · have HR := hid_mk hr
      have e3 : min (l.length : Int) (totS true []) = 0 := by
        simp [totS]
        omega
      rw [e3]
      clear hr hu hE e1 e2 hseg hb hnP hvB
      go_enter Try.func30, Try.ntmps30
      go_wp2_with fail
      refine HI.out.mono ?_
      rintro e w1 ⟨rfl, hb⟩
      go_wp2_with fail
      go_loopw [9, 10, 11] (fun n i p wr => n = .int .i64 0 ∧ i = .int .i64 0 ∧ wr = w1) (fun _ i _ _ => 0)
      case atStart => exact ⟨rfl, rfl, rfl⟩
      case round =>
        obtain ⟨rfl, rfl, rfl⟩ := hrel
        go_wp2
        go_ret2
        exact ⟨rfl, HR.out.below hb, Chg.of_below hb⟩
    · have HC := hid_mk hb3
      have HU := hid_mk hu
      have HR := hid_mk hr
      have HB := hid_mk hb
      have HLB := hid_mk hlb
      have HPb := hid_mk (fun h => hnP b (hvB h _ _ _ _ rfl))
      have HPx := hid_mk (fun h b o (h2 : xa = some ⟨b, o, none⟩) => hnP b (hxB h b o h2))
      have h64i : (L.length : Int) ≤ 64 := by omega
      have hli : (l.length : Int) ≤ 1000000 := by omega
      have HD : Hid (∀ nn M', ScatInv R M L l L.length nn M' → scatS R M l L = M' ∧ (nn : Int) = min (l.length : Int) (totS true L)) := fun nn M' h => h.done
      obtain ⟨r1, er1⟩ : ∃ r1, min (l.length : Int) (totS true L) = r1 := ⟨_, rfl⟩
      rw [er1] at HD ⊢
      clear hb3 hu e1 e2 o2 o3 hE hr hseg o1 hb hlb hnP hvB hxB er1
      go_enter Try.func30, Try.ntmps30
      go_wp2_with fail
      refine HI.out.mono ?_
      rintro e w1 ⟨rfl, hb⟩
      have HC1 := hid_mk (Chg.of_below (S := Pcs D R) hb)
      have HR1 := hid_mk (HR.out.below hb)
      clear hb
      go_wp2_with fail
      go_loopw [9, 10, 11] (fun n i p wr => ∃ (k nn : Nat) (M' : List Int), k ≤ L.length ∧ i = .int .i64 k ∧ n = .int .i64 nn ∧ Hid (ScatInv R M L l k nn M') ∧ Hid (IsRef wr base rp lb bb cL cB aB D R M') ∧ Hid (Chg (Pcs D R) w wr)) (fun _ i _ _ => L.length - (intOf i).toNat)
      case atStart => exact ⟨0, 0, M, Nat.zero_le _, rfl, rfl, hid_mk (ScatInv.start R M L l), HR1, HC1⟩
      case round =>
        obtain ⟨k, nn, M', hk, rfl, rfl, hinv, href, hchg⟩ := hrel
        by_cases hlt : k < L.length
        · have hPb := HPb.out (by omega)
          obtain ⟨c0, c1, c2⟩ := HC.out k hlt
          obtain ⟨hx, hy0, hy1⟩ := sat_is HU.out k
          have d0 := (hchg.out.cell (o := o + k * 3) hb1 hPb).trans c0
          have d1 := (hchg.out.cell (o := o + k * 3 + 1) hb1 hPb).trans c1
          have d2 := (hchg.out.cell (o := o + k * 3 + 2) hb1 hPb).trans c2
          have hbw : b < wr.heap.size := Nat.lt_of_lt_of_le hb1 hchg.out.size
          clear c0 c1 c2
          cases ht : (sat L k).t
          · rw [ht] at d2
            have HX := hid_mk (hinv.out.read hlt ht)
            clear hx hy0 hy1 ht
            go_wp2_with fail
            go_roundw
            case rel => exact ⟨k + 1, nn, _, by omega, by go_num, rfl, HX, href, hchg⟩
            case measure => simp [intOf]; omega
          · rw [ht] at d2
            have hle := hinv.out.le
            obtain ⟨q, hq⟩ : ∃ q : Nat, (q : Int) = min ((l.length : Int) - nn) (sat L k).n := ⟨(min ((l.length : Int) - nn) (sat L k).n).toNat, by omega⟩
            have HX := hid_mk (hinv.out.write hlt HU.out ht hq)
            obtain ⟨v1, hsl, hby, hblk⟩ := sliceMid HB.out nn q (by omega)
            have hmin : min ((l.length : Int) - (nn : Int)) (sat L k).n = (q : Int) := hq.symm
            have hyw2 : IntKind.i64.wrap (sat L k).n = (sat L k).n := IntWalk.i64_in _ (by omega)
            have hvn : 0 < ((l.drop nn).take q).length → ∀ b o n c, v1 = .slice (some ⟨b, o, none⟩) n c → ¬ Pcs D R b := fun h0 b' o' n' c' he => by
              obtain ⟨o2, hxa⟩ := hblk _ _ _ _ he
              exact HPx.out (by rw [List.length_take, List.length_drop] at h0; omega) _ _ hxa
            have HVN := hid_mk hvn
            have hnq : (nn : Int) + (q : Int) ≤ 1000000 := by omega
            have hnn0 : 0 ≤ (nn : Int) + (q : Int) := by omega
            have hnw := (i64_small hnn0 hnq).1
            have hnw2 := (i64_small hnn0 hnq).2
            have HM2 := hid_mk (writeM_two R M' (sat L k).a ((l.drop nn).take q) (ref_loc href.out _ _))
            have HBL : Hid (isBytes ((l.drop nn).take q)) := fun z hz => HLB.out z (List.mem_of_mem_drop (List.mem_of_mem_take hz))
            have HLE := hid_mk (part_le nn q hlen)
            have HS := hid_mk (show StW w b (o + k * 3) (.int .u64 (sat L k).a) v1 ((l.drop nn).take q) base rp lb bb cL cB aB D R M' (writeM R M' (sat L k).a ((l.drop nn).take q)) wr.drew from ⟨hchg.out.trans (Chg.of_below (Below.refl _ _).drew), ⟨d0, hbw⟩, bytes_chg hby (hchg.out.trans (Chg.of_below (Below.refl _ _).drew)) hvn, Or.inl (href.out.below (Below.refl _ _).drew)⟩)
            clear hblk hby hq hinv hvn href hchg ht hle
            generalize (l.drop nn).take q = l1 at *
            generalize (sat L k).a = x at *
            generalize (sat L k).n = y at *
            have HW : Hid (∀ u, BytesAt u v1 l1 ∧ (IsRef u base rp lb bb cL cB aB D R M' ∨ IsRef u base rp lb bb cL cB aB D R (writeM R M' x l1)) → Calls Try.prog 50 #[.pointer (some ⟨rp, 0, none⟩), .int .u64 x, v1] u fun e w' => e = .returned (.int .i64 (writeE R x l1)) ∧ IsRef w' base rp lb bb cL cB aB D R (writeM R M' x l1) ∧ Chg (Pcs D R) u w') := fun u h => by
              rcases h.2 with h2 | h2
              · exact rwrite_any base rp lb bb cL cB aB D R M' x v1 l1 u h2 hx h.1 HBL.out (le_big HLE.out)
              · have := rwrite_any base rp lb bb cL cB aB D R _ x v1 l1 u h2 hx h.1 HBL.out (le_big HLE.out)
                rw [HM2.out] at this
                exact this
            generalize hM2 : writeM R M' x l1 = M2 at *
            clear hM2 HM2
            go_upto_region 10 with fail
            go_region_held3 (fun w' => Chg (Pcs D R) w w' ∧ (w'.cell? ⟨b, o + k * 3, none⟩ = some (.int .u64 x) ∧ b < w'.heap.size) ∧ BytesAt w' v1 l1 ∧ (IsRef w' base rp lb bb cL cB aB D R M' ∨ IsRef w' base rp lb bb cL cB aB D R M2)) (first | exact HS.out | exact StW.keep hPb HVN.out (by assumption) (by assumption) (by assumption))
              (first | (go_at_call 50; refine (HW.out _ (StW.bytes (by assumption))).mono ?_; rintro e w' ⟨rfl, hr2, hc2⟩))
            have hz : StW w b (o + k * 3) (.int .u64 x) v1 l1 base rp lb bb cL cB aB D R M' M2 w' := by
              first | assumption | exact StW.keep hPb HVN.out (by assumption) (by assumption) (by assumption)
            have HZ := hid_mk hz.1
            have HR2 := hid_mk hr2
            clear hz
            go_wp2_with fail
            go_roundw
            case rel => exact ⟨k + 1, nn + q, _, by omega, by go_num, by go_num, HX, HR2, HZ⟩
            case measure => simp [intOf]; omega
        · obtain rfl : k = L.length := by omega
          obtain ⟨f1, f2⟩ := HD.out nn M' hinv.out
          have HF1 := hid_mk f1
          have HF2 := hid_mk f2
          clear f1 f2 hinv
          go_wp2_with fail
          go_ret2
          exact ⟨by rw [HF2.out]; rfl, by rw [HF1.out]; exact href.out, hchg.out⟩
  · have e1 : scatN R L l = 0 := by
      unfold scatN
      rw [if_neg hE]
    have e2 : scatM R M L l = M := by
      unfold scatM
      rw [if_neg hE]
    rw [e1, e2]
    have hE2 : (inE R L != 0) = true := by simp [hE]
    have HR := hid_mk hr
    obtain ⟨va, vc, rfl⟩ := hv.len
    clear e1 e2 hE hu hv hr hnP hvB hb
    generalize inE R L = x at *
    go_enter Try.func30, Try.ntmps30
    go_wp2_with fail
    refine HI.out.mono ?_
    rintro e w1 ⟨rfl, hb⟩
    go_wp2_with fail
    go_ret2
    exact ⟨rfl, HR.out.below hb, Chg.of_below hb⟩
end Go.Proofs.Yteolnghnlfeakaa
