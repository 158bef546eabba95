/- Package seg's exist, usable, In. Conditions: as each theorem names them. -/
import Derived.Test.YteolnghnlfeakaaPg1
import Derived.Test.YteolnghnlfeakaaSg8
namespace Go.Proofs.Yteolnghnlfeakaa
open Go.ChangeShapes Go.WideShapes Go.ChangeAt Go.RowKit
set_option linter.unusedVariables false
set_option maxRecDepth 100000

/-- exist's answer -/
def exE (R : List (Int × Int)) (L : List Sg) : Int := if allIn R L = true then 0 else 5
theorem exE_yes {R : List (Int × Int)} {L : List Sg} (h : allIn R L = true) : exE R L = 0 := by
  unfold exE
  rw [if_pos h]
theorem exE_no {R : List (Int × Int)} {L : List Sg} (h : allIn R L = false) : exE R L = 5 := by
  unfold exE
  rw [if_neg (by simp [h])]

set_option maxHeartbeats 1000000 in
theorem pexist (v : Value) (L : List Sg) (p ib qb : Nat) (R : List (Int × Int)) (M : List Int) (w : World) (hv : SegsAt w v L) (hu : isSgs L) (hl : L.length ≤ 1000) (hm : IsMem w p ib qb R M) :
    Calls Try.prog 42 #[.pointer (some ⟨p, 0, none⟩), v] w fun e w' => e = .returned (.int .i64 (exE R L)) ∧ Below w.heap.size w w' := by
  rcases hv with ⟨⟨va, vc, rfl, _⟩, rfl⟩ | ⟨b, o, c, rfl, hb1, hb2, hb3⟩
  · rw [exE_yes (show allIn R [] = true from rfl)]
    clear hm
    go_enter Try.func42, Try.ntmps42
    go_wp2
    go_loop [9] (fun i => i = .int .i64 0) (fun i => 0)
    case atStart => rfl
    case round =>
      obtain rfl := hrel
      go_wp2
      go_ret
      exact ⟨rfl, Below.refl _ _⟩
  · have HC := hid_mk hb3
    have HU := hid_mk hu
    have HM := hid_mk hm
    have hli : (L.length : Int) ≤ 1000 := by omega
    clear hb3 hu hm
    go_enter Try.func42, Try.ntmps42
    go_wp2
    go_loopw [6, 9] (fun p i wr => ∃ k : Nat, k ≤ L.length ∧ i = .int .i64 k ∧ Hid (allIn R (L.take k) = true) ∧ Hid (Below w.heap.size w wr)) (fun _ i _ => L.length - (intOf i).toNat)
    case atStart => exact ⟨0, Nat.zero_le _, rfl, hid_mk rfl, hid_mk (Below.refl _ _)⟩
    case round =>
      obtain ⟨k, hk, rfl, hall, hbel⟩ := hrel
      by_cases hlt : k < L.length
      · obtain ⟨c0, c1, c2⟩ := HC.out k hlt
        obtain ⟨hx, hy0, hy1⟩ := sat_is HU.out k
        have d0 := (hbel.out.cell (p := ⟨b, o + k * 3, none⟩) hb1).trans c0
        have d1 := (hbel.out.cell (p := ⟨b, o + k * 3 + 1, none⟩) hb1).trans c1
        have d2 := (hbel.out.cell (p := ⟨b, o + k * 3 + 2, none⟩) hb1).trans c2
        have hbw : b < wr.heap.size := Nat.lt_of_lt_of_le hb1 hbel.out.size
        have hyw : IntKind.u64.wrap (sat L k).n = (sat L k).n := by rw [IntKind.wrap_u64]; omega
        have HB1 := hid_mk (Below.alloc hbel.out hbel.out.size (.cells #[.int .u64 (sat L k).a, .int .u32 (sat L k).n, .bool (sat L k).t] 32))
        have HM1 := hid_mk (HM.out.below HB1.out)
        have HH := hid_mk (has_any p ib qb R M (sat L k).a (sat L k).n _ HM1.out hx ⟨by omega, by omega⟩)
        have HN : Hid ((loc R (sat L k).a (sat L k).n).isSome = false → allIn R L = false) := allIn_no hlt
        have HY : Hid ((loc R (sat L k).a (sat L k).n).isSome = true → allIn R (L.take (k + 1)) = true) := fun h => by
          show allIn R (L.take (k + 1)) = true
          rw [allIn_step hlt, hall.out, h]
          rfl
        clear c0 c1 c2 hbel hx hy0 hy1 hall
        generalize (sat L k).a = x at *
        generalize (sat L k).n = y at *
        generalize (sat L k).t = z at *
        cases hn : (loc R x y).isSome
        · have HF := hid_mk (HN.out hn)
          rw [hn] at HH
          clear hn
          go_wp2_with fail
          refine HH.out.mono ?_
          rintro e w2 ⟨rfl, hb2⟩
          have HB2 := hid_mk (below_then HB1.out hb2)
          clear hb2
          go_wp2_with fail
          go_ret
          exact ⟨ret_eq (by rw [exE_no HF.out]; rfl), HB2.out⟩
        · have HX := hid_mk (HY.out hn)
          rw [hn] at HH
          clear hn
          go_wp2_with fail
          refine HH.out.mono ?_
          rintro e w2 ⟨rfl, hb2⟩
          have HB2 := hid_mk (below_then HB1.out hb2)
          clear hb2
          go_wp2_with fail
          go_roundw
          case rel => exact ⟨k + 1, by omega, by go_num, HX, HB2⟩
          case measure => simp [intOf]; omega
      · obtain rfl : k = L.length := by omega
        have ha := hall.out
        rw [List.take_length] at ha
        have HF := hid_mk ha
        clear ha hall
        go_wp2_with fail
        go_ret
        exact ⟨ret_eq (by rw [exE_yes HF.out]; rfl), hbel.out⟩

theorem pusable_nil (v : Value) (w : World) :
    Calls Try.prog 41 #[.pointer none, v] w fun e w' => e = .returned (.int .i64 1) ∧ w = w' := by
  go_enter Try.func41, Try.ntmps41
  go_wp2_with (go_at_call 11; refine (read_nil _ _ _).mono ?_; rintro e w' ⟨rfl, rfl⟩)
  go_ret
  exact ⟨rfl, rfl⟩
theorem readE_zero (R : List (Int × Int)) (a : Int) : readE R a 0 = 0 := by
  unfold readE
  rw [if_neg (by omega), if_pos rfl]
theorem pusable (v : Value) (L : List Sg) (p ib qb : Nat) (R : List (Int × Int)) (M : List Int) (w : World) (hv : SegsAt w v L) (hu : isSgs L) (hm : IsMem w p ib qb R M) :
    Calls Try.prog 41 #[.pointer (some ⟨p, 0, none⟩), v] w fun e w' => e = .returned (.int .i64 (segE L)) ∧ Below w.heap.size w w' := by
  have HR := hid_mk (read_any p ib qb R M 0 0 w hm ⟨by omega, by omega⟩ (by omega))
  have HV := hid_mk hv
  have HU := hid_mk hu
  rw [readE_zero] at HR
  obtain ⟨va, vc, rfl⟩ := hv.len
  clear hv hu hm
  go_enter Try.func41, Try.ntmps41
  go_wp2_with fail
  refine HR.out.mono ?_
  rintro e w1 ⟨v1, rfl, _, hb⟩
  have HB1 := hid_mk hb
  clear hb
  go_wp2_with fail
  refine (pcheck _ L _ (HV.out.below HB1.out) HU.out).mono ?_
  rintro e w2 ⟨rfl, hb⟩
  have HB2 := hid_mk (below_then HB1.out hb)
  clear hb
  go_wp2_with fail
  go_ret
  exact ⟨rfl, HB2.out⟩

theorem inE_bad {R : List (Int × Int)} {L : List Sg} (h : segE L ≠ 0) : inE R L = segE L := by
  unfold inE
  rw [if_neg h]
theorem inE_ok {R : List (Int × Int)} {L : List Sg} (h : segE L = 0) : inE R L = exE R L := by
  unfold inE
  rw [if_pos h]
  rfl
theorem pin_nil (v : Value) (w : World) :
    Calls Try.prog 15 #[.pointer none, v] w fun e w' => e = .returned (.int .i64 1) ∧ w = w' := by
  go_enter Try.func15, Try.ntmps15
  go_wp2_with (go_at_call 41; refine (pusable_nil _ _).mono ?_; rintro e w' ⟨rfl, rfl⟩)
  go_ret
  exact ⟨rfl, rfl⟩
theorem pin (v : Value) (L : List Sg) (p ib qb : Nat) (R : List (Int × Int)) (M : List Int) (w : World) (hv : SegsAt w v L) (hu : isSgs L) (hm : IsMem w p ib qb R M) :
    Calls Try.prog 15 #[.pointer (some ⟨p, 0, none⟩), v] w fun e w' => e = .returned (.int .i64 (inE R L)) ∧ Below w.heap.size w w' := by
  have HUs := hid_mk (pusable v L p ib qb R M w hv hu hm)
  have HV := hid_mk hv
  have HU := hid_mk hu
  have HM := hid_mk hm
  obtain ⟨va, vc, rfl⟩ := hv.len
  by_cases hE : segE L = 0
  · rw [inE_ok hE]
    rw [hE] at HUs
    obtain ⟨o1, _, _⟩ := (segE_ok hu).1 hE
    have HL : Hid (L.length ≤ 1000) := by
      show L.length ≤ 1000
      omega
    clear hv hu hm hE o1
    go_enter Try.func15, Try.ntmps15
    go_wp2_with fail
    refine HUs.out.mono ?_
    rintro e w1 ⟨rfl, hb⟩
    have HB1 := hid_mk hb
    clear hb
    go_wp2_with fail
    refine (pexist _ L p ib qb R M _ (HV.out.below HB1.out) HU.out HL.out (HM.out.below HB1.out)).mono ?_
    rintro e w2 ⟨rfl, hb⟩
    have HB2 := hid_mk (below_then HB1.out hb)
    clear hb
    go_wp2_with fail
    go_ret
    exact ⟨rfl, HB2.out⟩
  · rw [inE_bad hE]
    have hE2 : (segE L != 0) = true := by simp [hE]
    clear hv hu hm hE
    generalize segE L = x at *
    go_enter Try.func15, Try.ntmps15
    go_wp2_with fail
    refine HUs.out.mono ?_
    rintro e w1 ⟨rfl, hb⟩
    have HB1 := hid_mk hb
    clear hb
    go_wp2_with fail
    go_ret
    exact ⟨rfl, HB1.out⟩
end Go.Proofs.Yteolnghnlfeakaa
