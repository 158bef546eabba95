/- Pg2 Sg10: joined texts. Conditions: as each theorem names them. -/
import Derived.Test.YteolnghnlfeakaaKp12
import Derived.Test.YteolnghnlfeakaaKp16
import Derived.Test.YteolnghnlfeakaaKp21
/- Package seg's exist, usable, In. Conditions: as each theorem names them. -/
namespace Go.Proofs.Yteolnghnlfeakaa
open Go.ChangeShapes Go.WideShapes Go.ChangeAt Go.RowKit
set_option linter.unusedVariables false
set_option maxRecDepth 100000

/-- exist's answer -/
def exE (R : List (Int × Int)) (L : List Sg) : Int := if allIn R L = true then 0 else 5
theorem exE_yes {R : List (Int × Int)} {L : List Sg} (h : allIn R L = true) : exE R L = 0 := by
  unfold exE
  rw [if_pos h]
theorem exE_no {R : List (Int × Int)} {L : List Sg} (h : allIn R L = false) : exE R L = 5 := by
  unfold exE
  rw [if_neg (by simp [h])]

set_option maxHeartbeats 1000000 in
theorem pexist (v : Value) (L : List Sg) (p ib qb : Nat) (R : List (Int × Int)) (M : List Int) (w : World) (hv : SegsAt w v L) (hu : isSgs L) (hl : L.length ≤ 1000) (hm : IsMem w p ib qb R M) :
    Calls Try.prog 42 #[.pointer (some ⟨p, 0, none⟩), v] w fun e w' => e = .returned (.int .i64 (exE R L)) ∧ Below w.heap.size w w' := by
  rcases hv with ⟨⟨va, vc, rfl, _⟩, rfl⟩ | ⟨b, o, c, rfl, hb1, hb2, hb3⟩
  · rw [exE_yes (show allIn R [] = true from rfl)]
    clear hm
    go_enter Try.func42, Try.ntmps42
    go_wp2
    go_loop [9] (fun i => i = .int .i64 0) (fun i => 0)
    case atStart => rfl
    case round =>
      obtain rfl := hrel
      go_wp2
      go_ret
      exact ⟨rfl, Below.refl _ _⟩
  · have HC := hid_mk hb3
    have HU := hid_mk hu
    have HM := hid_mk hm
    have hli : (L.length : Int) ≤ 1000 := by omega
    clear hb3 hu hm
    go_enter Try.func42, Try.ntmps42
    go_wp2
    go_loopw [6, 9] (fun p i wr => ∃ k : Nat, k ≤ L.length ∧ i = .int .i64 k ∧ Hid (allIn R (L.take k) = true) ∧ Hid (Below w.heap.size w wr)) (fun _ i _ => L.length - (intOf i).toNat)
    case atStart => exact ⟨0, Nat.zero_le _, rfl, hid_mk rfl, hid_mk (Below.refl _ _)⟩
    case round =>
      obtain ⟨k, hk, rfl, hall, hbel⟩ := hrel
      by_cases hlt : k < L.length
      · obtain ⟨c0, c1, c2⟩ := HC.out k hlt
        obtain ⟨hx, hy0, hy1⟩ := sat_is HU.out k
        have d0 := (hbel.out.cell (p := ⟨b, o + k * 3, none⟩) hb1).trans c0
        have d1 := (hbel.out.cell (p := ⟨b, o + k * 3 + 1, none⟩) hb1).trans c1
        have d2 := (hbel.out.cell (p := ⟨b, o + k * 3 + 2, none⟩) hb1).trans c2
        have hbw : b < wr.heap.size := Nat.lt_of_lt_of_le hb1 hbel.out.size
        have hyw : IntKind.u64.wrap (sat L k).n = (sat L k).n := by rw [IntKind.wrap_u64]; omega
        have HB1 := hid_mk (Below.alloc hbel.out hbel.out.size (.cells #[.int .u64 (sat L k).a, .int .u32 (sat L k).n, .bool (sat L k).t] 32))
        have HM1 := hid_mk (HM.out.below HB1.out)
        have HH := hid_mk (has_any p ib qb R M (sat L k).a (sat L k).n _ HM1.out hx ⟨by omega, by omega⟩)
        have HN : Hid ((loc R (sat L k).a (sat L k).n).isSome = false → allIn R L = false) := allIn_no hlt
        have HY : Hid ((loc R (sat L k).a (sat L k).n).isSome = true → allIn R (L.take (k + 1)) = true) := fun h => by
          show allIn R (L.take (k + 1)) = true
          rw [allIn_step hlt, hall.out, h]
          rfl
        clear c0 c1 c2 hbel hx hy0 hy1 hall
        generalize (sat L k).a = x at *
        generalize (sat L k).n = y at *
        generalize (sat L k).t = z at *
        cases hn : (loc R x y).isSome
        · have HF := hid_mk (HN.out hn)
          rw [hn] at HH
          clear hn
          go_wp2_with fail
          refine HH.out.mono ?_
          rintro e w2 ⟨rfl, hb2⟩
          have HB2 := hid_mk (below_then HB1.out hb2)
          clear hb2
          go_wp2_with fail
          go_ret
          exact ⟨ret_eq (by rw [exE_no HF.out]; rfl), HB2.out⟩
        · have HX := hid_mk (HY.out hn)
          rw [hn] at HH
          clear hn
          go_wp2_with fail
          refine HH.out.mono ?_
          rintro e w2 ⟨rfl, hb2⟩
          have HB2 := hid_mk (below_then HB1.out hb2)
          clear hb2
          go_wp2_with fail
          go_roundw
          case rel => exact ⟨k + 1, by omega, by go_num, HX, HB2⟩
          case measure => simp [intOf]; omega
      · obtain rfl : k = L.length := by omega
        have ha := hall.out
        rw [List.take_length] at ha
        have HF := hid_mk ha
        clear ha hall
        go_wp2_with fail
        go_ret
        exact ⟨ret_eq (by rw [exE_yes HF.out]; rfl), hbel.out⟩

theorem pusable_nil (v : Value) (w : World) :
    Calls Try.prog 41 #[.pointer none, v] w fun e w' => e = .returned (.int .i64 1) ∧ w = w' := by
  go_enter Try.func41, Try.ntmps41
  go_wp2_with (go_at_call 11; refine (read_nil _ _ _).mono ?_; rintro e w' ⟨rfl, rfl⟩)
  go_ret
  exact ⟨rfl, rfl⟩
theorem readE_zero (R : List (Int × Int)) (a : Int) : readE R a 0 = 0 := by
  unfold readE
  rw [if_neg (by omega), if_pos rfl]
theorem pusable (v : Value) (L : List Sg) (p ib qb : Nat) (R : List (Int × Int)) (M : List Int) (w : World) (hv : SegsAt w v L) (hu : isSgs L) (hm : IsMem w p ib qb R M) :
    Calls Try.prog 41 #[.pointer (some ⟨p, 0, none⟩), v] w fun e w' => e = .returned (.int .i64 (segE L)) ∧ Below w.heap.size w w' := by
  have HR := hid_mk (read_any p ib qb R M 0 0 w hm ⟨by omega, by omega⟩ (by omega))
  have HV := hid_mk hv
  have HU := hid_mk hu
  rw [readE_zero] at HR
  obtain ⟨va, vc, rfl⟩ := hv.len
  clear hv hu hm
  go_enter Try.func41, Try.ntmps41
  go_wp2_with fail
  refine HR.out.mono ?_
  rintro e w1 ⟨v1, rfl, _, hb⟩
  have HB1 := hid_mk hb
  clear hb
  go_wp2_with fail
  refine (pcheck _ L _ (HV.out.below HB1.out) HU.out).mono ?_
  rintro e w2 ⟨rfl, hb⟩
  have HB2 := hid_mk (below_then HB1.out hb)
  clear hb
  go_wp2_with fail
  go_ret
  exact ⟨rfl, HB2.out⟩

theorem inE_bad {R : List (Int × Int)} {L : List Sg} (h : segE L ≠ 0) : inE R L = segE L := by
  unfold inE
  rw [if_neg h]
theorem inE_ok {R : List (Int × Int)} {L : List Sg} (h : segE L = 0) : inE R L = exE R L := by
  unfold inE
  rw [if_pos h]
  rfl
theorem pin_nil (v : Value) (w : World) :
    Calls Try.prog 15 #[.pointer none, v] w fun e w' => e = .returned (.int .i64 1) ∧ w = w' := by
  go_enter Try.func15, Try.ntmps15
  go_wp2_with (go_at_call 41; refine (pusable_nil _ _).mono ?_; rintro e w' ⟨rfl, rfl⟩)
  go_ret
  exact ⟨rfl, rfl⟩
theorem pin (v : Value) (L : List Sg) (p ib qb : Nat) (R : List (Int × Int)) (M : List Int) (w : World) (hv : SegsAt w v L) (hu : isSgs L) (hm : IsMem w p ib qb R M) :
    Calls Try.prog 15 #[.pointer (some ⟨p, 0, none⟩), v] w fun e w' => e = .returned (.int .i64 (inE R L)) ∧ Below w.heap.size w w' := by
  have HUs := hid_mk (pusable v L p ib qb R M w hv hu hm)
  have HV := hid_mk hv
  have HU := hid_mk hu
  have HM := hid_mk hm
  obtain ⟨va, vc, rfl⟩ := hv.len
  by_cases hE : segE L = 0
  · rw [inE_ok hE]
    rw [hE] at HUs
    obtain ⟨o1, _, _⟩ := (segE_ok hu).1 hE
    have HL : Hid (L.length ≤ 1000) := by
      show L.length ≤ 1000
      omega
    clear hv hu hm hE o1
    go_enter Try.func15, Try.ntmps15
    go_wp2_with fail
    refine HUs.out.mono ?_
    rintro e w1 ⟨rfl, hb⟩
    have HB1 := hid_mk hb
    clear hb
    go_wp2_with fail
    refine (pexist _ L p ib qb R M _ (HV.out.below HB1.out) HU.out HL.out (HM.out.below HB1.out)).mono ?_
    rintro e w2 ⟨rfl, hb⟩
    have HB2 := hid_mk (below_then HB1.out hb)
    clear hb
    go_wp2_with fail
    go_ret
    exact ⟨rfl, HB2.out⟩
  · rw [inE_bad hE]
    have hE2 : (segE L != 0) = true := by simp [hE]
    clear hv hu hm hE
    generalize segE L = x at *
    go_enter Try.func15, Try.ntmps15
    go_wp2_with fail
    refine HUs.out.mono ?_
    rintro e w1 ⟨rfl, hb⟩
    have HB1 := hid_mk hb
    clear hb
    go_wp2_with fail
    go_ret
    exact ⟨rfl, HB1.out⟩
end Go.Proofs.Yteolnghnlfeakaa

/- The reference's Scatter of layer 5. Conditions: as each theorem names them. -/
namespace Go.Proofs.Yteolnghnlfeakaa
open Go.ChangeShapes Go.WideShapes Go.ChangeAt Go.RowKit
set_option linter.unusedVariables false
set_option maxRecDepth 100000

/-- a part of a slice of bytes -/
theorem sliceMid {w : World} {va : Option Addr} {vc : Nat} {l : List Int} (hv : BytesAt w (.slice va l.length vc) l) (i k : Nat) (h : i + k ≤ l.length) :
    ∃ v1, (∀ u, (Instr.sliceAt 38 (.slice va l.length vc) (some (.int .i64 (i : Int))) (some (.int .i64 ((i : Int) + (k : Int)))) none).run Try.prog u = .ok v1 u) ∧ BytesAt w v1 ((l.drop i).take k) ∧ (∀ b o n c, v1 = .slice (some ⟨b, o, none⟩) n c → ∃ o', va = some ⟨b, o', none⟩) := by
  have hik : (i : Int) ≤ (i : Int) + (k : Int) := by omega
  have hlen : ((l.drop i).take k).length = k := by
    rw [List.length_take, List.length_drop]
    omega
  rcases hv with ⟨⟨a, c, he, hac⟩, rfl⟩ | ⟨b, o, c, he, h2, h3, h4⟩
  · cases he
    obtain rfl : i = 0 := by simp at h; omega
    obtain rfl : k = 0 := by simpa using h
    cases va with
    | none =>
      obtain rfl := hac rfl
      refine ⟨.slice none 0 0, fun u => ?_, Or.inl ⟨⟨_, _, rfl, fun _ => rfl⟩, rfl⟩, fun b o n c e => (by cases e)⟩
      simp [go_sem]
    | some a =>
      refine ⟨.slice (some a) 0 vc, fun u => ?_, Or.inl ⟨⟨_, _, rfl, fun h => by cases h⟩, rfl⟩, fun b o n c e => (by cases e; exact ⟨_, rfl⟩)⟩
      simp [go_sem]
  · cases he
    have hci : (i : Int) + (k : Int) ≤ (vc : Int) := by omega
    by_cases hvq : vc = i
    · obtain rfl : k = 0 := by omega
      refine ⟨.slice (some ⟨b, o, none⟩) 0 0, fun u => ?_, Or.inl ⟨⟨_, _, rfl, fun h => by cases h⟩, ?_⟩, fun b1 o1 n c e => (by cases e; exact ⟨_, rfl⟩)⟩
      · simp [go_sem, hvq]
      · simp
    · refine ⟨.slice (some ⟨b, o + i, none⟩) k (vc - i), fun u => ?_, Or.inr ⟨b, o + i, vc - i, ?_, h2, by rw [hlen]; omega, fun j hj => ?_⟩, fun b1 o1 n c e => (by cases e; exact ⟨_, rfl⟩)⟩
      · simp [go_sem, hci, hik, hvq]
        omega
      · rw [hlen]
      · rw [hlen] at hj
        rw [Nat.add_assoc, h4 (i + j) (by omega)]
        congr 2
        rw [List.getD_eq_getElem?_getD, List.getD_eq_getElem?_getD, List.getElem?_take_of_lt hj, List.getElem?_drop]

theorem writeM_two (R : List (Int × Int)) (M : List Int) (a : Int) (l : List Int) (h : ∀ k, loc R a l.length = some k → k + l.length ≤ M.length) : writeM R (writeM R M a l) a l = writeM R M a l := by
  unfold writeM
  cases hl : loc R a l.length with
  | none => rfl
  | some k =>
    have hk := h k hl
    show put (put M k l) k l = put M k l
    unfold put
    have e1 : (M.take k).length = k := by
      rw [List.length_take]
      omega
    rw [List.append_assoc, List.append_assoc]
    congr 1
    · rw [List.take_append_of_le_length (by omega), List.take_of_length_le (by omega)]
    · congr 1
      have e3 : (M.take k ++ (l ++ M.drop (k + l.length))) = (M.take k ++ l) ++ M.drop (k + l.length) := by rw [List.append_assoc]
      rw [e3, List.drop_append_of_le_length (by rw [List.length_append, e1]; omega), List.drop_of_length_le (by rw [List.length_append, e1]; omega), List.nil_append]
theorem ref_loc {w : World} {base rp lb bb cL cB : Nat} {aB : Option Addr} {D : Nat → Nat} {R : List (Int × Int)} {M : List Int} (h : IsRef w base rp lb bb cL cB aB D R M) (a : Int) (l : List Int) : ∀ k, loc R a l.length = some k → k + l.length ≤ M.length := fun k hk => by
  have := loc_room hk (by omega)
  rw [h.len]
  simpa using this

/-- what Scatter holds when it comes to segment k: nn bytes written, the bytes M' -/
structure ScatInv (R : List (Int × Int)) (M : List Int) (L : List Sg) (l : List Int) (k nn : Nat) (M' : List Int) : Prop where
  le : nn ≤ l.length
  cnt : (nn : Int) = min (l.length : Int) (totS true (L.take k))
  eq : scatS R M l L = scatS R M' (l.drop nn) (L.drop k)
theorem ScatInv.start (R : List (Int × Int)) (M : List Int) (L : List Sg) (l : List Int) : ScatInv R M L l 0 0 M := ⟨Nat.zero_le _, by simp [totS]; omega, rfl⟩
theorem ScatInv.read {R : List (Int × Int)} {M : List Int} {L : List Sg} {l : List Int} {k nn : Nat} {M' : List Int} (h : ScatInv R M L l k nn M') (hk : k < L.length) (ht : (sat L k).t = false) : ScatInv R M L l (k + 1) nn M' := by
  refine ⟨h.le, ?_, ?_⟩
  · rw [h.cnt, totS_step hk, ht, if_neg (by decide), Int.add_zero]
  · rw [h.eq, drop_sat hk]
    show (if (sat L k).t = true then _ else _) = _
    rw [ht, if_neg (by decide)]
theorem ScatInv.write {R : List (Int × Int)} {M : List Int} {L : List Sg} {l : List Int} {k nn : Nat} {M' : List Int} (h : ScatInv R M L l k nn M') (hk : k < L.length) (hu : isSgs L) (ht : (sat L k).t = true) {q : Nat} (hq : (q : Int) = min ((l.length : Int) - nn) (sat L k).n) : ScatInv R M L l (k + 1) (nn + q) (writeM R M' (sat L k).a ((l.drop nn).take q)) := by
  have h1 := h.le
  have h2 := (sat_is hu k).2.1
  have h3 := totS_le hu true k
  refine ⟨by omega, ?_, ?_⟩
  · have hc := h.cnt
    rw [totS_step hk, ht, if_pos rfl]
    omega
  · rw [h.eq, drop_sat hk]
    show (if (sat L k).t = true then scatS R (writeM R M' (sat L k).a ((l.drop nn).take (sat L k).n.toNat)) ((l.drop nn).drop (sat L k).n.toNat) (L.drop (k + 1)) else _) = _
    rw [ht, if_pos rfl]
    have e1 : (l.drop nn).take (sat L k).n.toNat = (l.drop nn).take q := by
      by_cases hc : (sat L k).n.toNat = q
      · rw [hc]
      · rw [List.take_of_length_le (by rw [List.length_drop]; omega), List.take_of_length_le (by rw [List.length_drop]; omega)]
    have e2 : (l.drop nn).drop (sat L k).n.toNat = l.drop (nn + q) := by
      rw [List.drop_drop]
      by_cases hc : (sat L k).n.toNat = q
      · rw [hc]
      · rw [List.drop_of_length_le (by omega), List.drop_of_length_le (by omega)]
    rw [e1, e2]
theorem ScatInv.done {R : List (Int × Int)} {M : List Int} {L : List Sg} {l : List Int} {nn : Nat} {M' : List Int} (h : ScatInv R M L l L.length nn M') : scatS R M l L = M' ∧ (nn : Int) = min (l.length : Int) (totS true L) := by
  have h1 := h.eq
  have h2 := h.cnt
  rw [List.drop_length] at h1
  rw [List.take_length] at h2
  exact ⟨h1, h2⟩
end Go.Proofs.Yteolnghnlfeakaa
