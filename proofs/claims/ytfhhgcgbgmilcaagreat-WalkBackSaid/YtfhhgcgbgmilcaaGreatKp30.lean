/- Pg2 Ww2 Ww3: joined texts. Conditions: as each theorem names them. -/
import Derived.Test.YtfhhgcgbgmilcaaGreatKp29
import Derived.Test.YtfhhgcgbgmilcaaGreatKp24
import Derived.Test.YtfhhgcgbgmilcaaGreatKp11
import Derived.Laws.EntriesVeiled
/- Package seg's exist, usable, In. Conditions: as each theorem names them. -/
namespace Go.Proofs.YtfhhgcgbgmilcaaGreat
open Go.ChangeShapes Go.WideShapes Go.ChangeAt Go.RowKit
set_option linter.unusedVariables false
set_option maxRecDepth 100000

/-- exist's answer -/
def exE (R : List (Int × Int)) (L : List Sg) : Int := if allIn R L = true then 0 else 5
theorem exE_yes {R : List (Int × Int)} {L : List Sg} (h : allIn R L = true) : exE R L = 0 := by
  unfold exE
  rw [if_pos h]
theorem exE_no {R : List (Int × Int)} {L : List Sg} (h : allIn R L = false) : exE R L = 5 := by
  unfold exE
  rw [if_neg (by simp [h])]

set_option maxHeartbeats 1000000 in
theorem pexist (v : Value) (L : List Sg) (p ib qb : Nat) (R : List (Int × Int)) (M : List Int) (w : World) (hv : SegsAt w v L) (hu : isSgs L) (hl : L.length ≤ 1000) (hm : IsMem w p ib qb R M) :
    Calls Tryz.prog 98 #[.pointer (some ⟨p, 0, none⟩), v] w fun e w' => e = .returned (.int .i64 (exE R L)) ∧ Below w.heap.size w w' := by
  rcases hv with ⟨⟨va, vc, rfl, _⟩, rfl⟩ | ⟨b, o, c, rfl, hb1, hb2, hb3⟩
  · rw [exE_yes (show allIn R [] = true from rfl)]
    clear hm
    go_enter Tryz.func98, Tryz.ntmps98
    go_wp2
    go_loop [9] (fun i => i = .int .i64 0) (fun i => 0)
    case atStart => rfl
    case round =>
      obtain rfl := hrel
      go_wp2
      go_ret
      exact ⟨rfl, Below.refl _ _⟩
  · have HC := hid_mk hb3
    have HU := hid_mk hu
    have HM := hid_mk hm
    have hli : (L.length : Int) ≤ 1000 := by omega
    clear hb3 hu hm
    go_enter Tryz.func98, Tryz.ntmps98
    go_wp2
    go_loopw [6, 9] (fun p i wr => ∃ k : Nat, k ≤ L.length ∧ i = .int .i64 k ∧ Hid (allIn R (L.take k) = true) ∧ Hid (Below w.heap.size w wr)) (fun _ i _ => L.length - (intOf i).toNat)
    case atStart => exact ⟨0, Nat.zero_le _, rfl, hid_mk rfl, hid_mk (Below.refl _ _)⟩
    case round =>
      obtain ⟨k, hk, rfl, hall, hbel⟩ := hrel
      by_cases hlt : k < L.length
      · obtain ⟨c0, c1, c2⟩ := HC.out k hlt
        obtain ⟨hx, hy0, hy1⟩ := sat_is HU.out k
        have d0 := (hbel.out.cell (p := ⟨b, o + k * 3, none⟩) hb1).trans c0
        have d1 := (hbel.out.cell (p := ⟨b, o + k * 3 + 1, none⟩) hb1).trans c1
        have d2 := (hbel.out.cell (p := ⟨b, o + k * 3 + 2, none⟩) hb1).trans c2
        have hbw : b < wr.heap.size := Nat.lt_of_lt_of_le hb1 hbel.out.size
        have hyw : IntKind.u64.wrap (sat L k).n = (sat L k).n := by rw [IntKind.wrap_u64]; omega
        have HB1 := hid_mk (Below.alloc hbel.out hbel.out.size (.cells #[.int .u64 (sat L k).a, .int .u32 (sat L k).n, .bool (sat L k).t] 28))
        have HM1 := hid_mk (HM.out.below HB1.out)
        have HH := hid_mk (has_any p ib qb R M (sat L k).a (sat L k).n _ HM1.out hx ⟨by omega, by omega⟩)
        have HN : Hid ((loc R (sat L k).a (sat L k).n).isSome = false → allIn R L = false) := allIn_no hlt
        have HY : Hid ((loc R (sat L k).a (sat L k).n).isSome = true → allIn R (L.take (k + 1)) = true) := fun h => by
          show allIn R (L.take (k + 1)) = true
          rw [allIn_step hlt, hall.out, h]
          rfl
        clear c0 c1 c2 hbel hx hy0 hy1 hall
        generalize (sat L k).a = x at *
        generalize (sat L k).n = y at *
        generalize (sat L k).t = z at *
        cases hn : (loc R x y).isSome
        · have HF := hid_mk (HN.out hn)
          rw [hn] at HH
          clear hn
          go_wp2_with fail
          refine HH.out.mono ?_
          rintro e w2 ⟨rfl, hb2⟩
          have HB2 := hid_mk (below_then HB1.out hb2)
          clear hb2
          go_wp2_with fail
          go_ret
          exact ⟨ret_eq (by rw [exE_no HF.out]; rfl), HB2.out⟩
        · have HX := hid_mk (HY.out hn)
          rw [hn] at HH
          clear hn
          go_wp2_with fail
          refine HH.out.mono ?_
          rintro e w2 ⟨rfl, hb2⟩
          have HB2 := hid_mk (below_then HB1.out hb2)
          clear hb2
          go_wp2_with fail
          go_roundw
          case rel => exact ⟨k + 1, by omega, by go_num, HX, HB2⟩
          case measure => simp [intOf]; omega
      · obtain rfl : k = L.length := by omega
        have ha := hall.out
        rw [List.take_length] at ha
        have HF := hid_mk ha
        clear ha hall
        go_wp2_with fail
        go_ret
        exact ⟨ret_eq (by rw [exE_yes HF.out]; rfl), hbel.out⟩

theorem pusable_nil (v : Value) (w : World) :
    Calls Tryz.prog 97 #[.pointer none, v] w fun e w' => e = .returned (.int .i64 1) ∧ w = w' := by
  go_enter Tryz.func97, Tryz.ntmps97
  go_wp2_with (go_at_call 65; refine (read_nil _ _ _).mono ?_; rintro e w' ⟨rfl, rfl⟩)
  go_ret
  exact ⟨rfl, rfl⟩
theorem readE_zero (R : List (Int × Int)) (a : Int) : readE R a 0 = 0 := by
  unfold readE
  rw [if_neg (by omega), if_pos rfl]
theorem pusable (v : Value) (L : List Sg) (p ib qb : Nat) (R : List (Int × Int)) (M : List Int) (w : World) (hv : SegsAt w v L) (hu : isSgs L) (hm : IsMem w p ib qb R M) :
    Calls Tryz.prog 97 #[.pointer (some ⟨p, 0, none⟩), v] w fun e w' => e = .returned (.int .i64 (segE L)) ∧ Below w.heap.size w w' := by
  have HR := hid_mk (read_any p ib qb R M 0 0 w hm ⟨by omega, by omega⟩ (by omega))
  have HV := hid_mk hv
  have HU := hid_mk hu
  rw [readE_zero] at HR
  obtain ⟨va, vc, rfl⟩ := hv.len
  clear hv hu hm
  go_enter Tryz.func97, Tryz.ntmps97
  go_wp2_with fail
  refine HR.out.mono ?_
  rintro e w1 ⟨v1, rfl, _, hb⟩
  have HB1 := hid_mk hb
  clear hb
  go_wp2_with fail
  refine (pcheck _ L _ (HV.out.below HB1.out) HU.out).mono ?_
  rintro e w2 ⟨rfl, hb⟩
  have HB2 := hid_mk (below_then HB1.out hb)
  clear hb
  go_wp2_with fail
  go_ret
  exact ⟨rfl, HB2.out⟩

theorem inE_bad {R : List (Int × Int)} {L : List Sg} (h : segE L ≠ 0) : inE R L = segE L := by
  unfold inE
  rw [if_neg h]
theorem inE_ok {R : List (Int × Int)} {L : List Sg} (h : segE L = 0) : inE R L = exE R L := by
  unfold inE
  rw [if_pos h]
  rfl
theorem pin_nil (v : Value) (w : World) :
    Calls Tryz.prog 73 #[.pointer none, v] w fun e w' => e = .returned (.int .i64 1) ∧ w = w' := by
  go_enter Tryz.func73, Tryz.ntmps73
  go_wp2_with (go_at_call 97; refine (pusable_nil _ _).mono ?_; rintro e w' ⟨rfl, rfl⟩)
  go_ret
  exact ⟨rfl, rfl⟩
theorem pin (v : Value) (L : List Sg) (p ib qb : Nat) (R : List (Int × Int)) (M : List Int) (w : World) (hv : SegsAt w v L) (hu : isSgs L) (hm : IsMem w p ib qb R M) :
    Calls Tryz.prog 73 #[.pointer (some ⟨p, 0, none⟩), v] w fun e w' => e = .returned (.int .i64 (inE R L)) ∧ Below w.heap.size w w' := by
  have HUs := hid_mk (pusable v L p ib qb R M w hv hu hm)
  have HV := hid_mk hv
  have HU := hid_mk hu
  have HM := hid_mk hm
  obtain ⟨va, vc, rfl⟩ := hv.len
  by_cases hE : segE L = 0
  · rw [inE_ok hE]
    rw [hE] at HUs
    obtain ⟨o1, _, _⟩ := (segE_ok hu).1 hE
    have HL : Hid (L.length ≤ 1000) := by
      show L.length ≤ 1000
      omega
    clear hv hu hm hE o1
    go_enter Tryz.func73, Tryz.ntmps73
    go_wp2_with fail
    refine HUs.out.mono ?_
    rintro e w1 ⟨rfl, hb⟩
    have HB1 := hid_mk hb
    clear hb
    go_wp2_with fail
    refine (pexist _ L p ib qb R M _ (HV.out.below HB1.out) HU.out HL.out (HM.out.below HB1.out)).mono ?_
    rintro e w2 ⟨rfl, hb⟩
    have HB2 := hid_mk (below_then HB1.out hb)
    clear hb
    go_wp2_with fail
    go_ret
    exact ⟨rfl, HB2.out⟩
  · rw [inE_bad hE]
    have hE2 : (segE L != 0) = true := by simp [hE]
    clear hv hu hm hE
    generalize segE L = x at *
    go_enter Tryz.func73, Tryz.ntmps73
    go_wp2_with fail
    refine HUs.out.mono ?_
    rintro e w1 ⟨rfl, hb⟩
    have HB1 := hid_mk hb
    clear hb
    go_wp2_with fail
    go_ret
    exact ⟨rfl, HB1.out⟩
end Go.Proofs.YtfhhgcgbgmilcaaGreat

/- walk's decoders, ringOf, tableOf, get. Conditions: as each theorem names them. -/
namespace Go.Proofs.YtfhhgcgbgmilcaaGreat
open Go.ChangeShapes Go.WideShapes Go.ChangeAt Go.RowKit
set_option linter.unusedVariables false
set_option maxRecDepth 100000

theorem cells7 {w : World} {b : Nat} {x0 x1 x2 x3 x4 x5 x6 : Value} {t : TypeId} (h : BlkAt w b [x0, x1, x2, x3, x4, x5, x6] t) : b < w.heap.size ∧ w.cell? ⟨b, 0, none⟩ = some x0 ∧ w.cell? ⟨b, 1, none⟩ = some x1 ∧ w.cell? ⟨b, 2, none⟩ = some x2 ∧ w.cell? ⟨b, 3, none⟩ = some x3 ∧ w.cell? ⟨b, 4, none⟩ = some x4 ∧ w.cell? ⟨b, 5, none⟩ = some x5 ∧ w.cell? ⟨b, 6, none⟩ = some x6 ∧ w.frozen? ⟨b, 0, none⟩ = false ∧ w.frozen? ⟨b, 1, none⟩ = false ∧ w.frozen? ⟨b, 2, none⟩ = false ∧ w.frozen? ⟨b, 3, none⟩ = false ∧ w.frozen? ⟨b, 4, none⟩ = false ∧ w.frozen? ⟨b, 5, none⟩ = false ∧ w.frozen? ⟨b, 6, none⟩ = false := ⟨h.lt, h.cell 0, h.cell 1, h.cell 2, h.cell 3, h.cell 4, h.cell 5, h.cell 6, h.free 0, h.free 1, h.free 2, h.free 3, h.free 4, h.free 5, h.free 6⟩
theorem put7_below {w a : World} {rb B : Nat} (h : Below B a w) (hb : B ≤ rb) (x0 x1 x2 x3 x4 x5 x6 : Value) : Below B a (((((((w.setCell ⟨rb, 0, none⟩ x0).setCell ⟨rb, 1, none⟩ x1).setCell ⟨rb, 2, none⟩ x2).setCell ⟨rb, 3, none⟩ x3).setCell ⟨rb, 4, none⟩ x4).setCell ⟨rb, 5, none⟩ x5).setCell ⟨rb, 6, none⟩ x6) := ((((((h.setCell hb _).setCell hb _).setCell hb _).setCell hb _).setCell hb _).setCell hb _).setCell hb _
abbrev zLk : List Value := [.int .u64 0, .int .u32 0, .bool false, .bool false, .int .i64 0, .int .i64 0, .bool false]
theorem vsplitlink (v : Value) (l : List Int) (i n : Int) (w : World) (hv : BytesAt w v l) (hB : isBytes l) (hl : l.length = 16) :
    Calls Tryz.prog 94 #[v, .int .i64 i, .int .i64 n] w fun e w' => e = .returned (lkV (dSp l i)) ∧ Below w.heap.size w w' := by
  have HR := hid_mk (fun u (h : Below w.heap.size w u) => dread_any v l u (hv.below h) hB (by omega))
  rw [(rd_yes hl).1, (rd_yes hl).2] at HR
  obtain ⟨h1, h2, h3, h4⟩ := dR_is hB hl
  have HK := hid_mk (fun u => vlinkof (dR l).a (dR l).l (dR l).f u h3)
  unfold dSp lkV
  generalize dR l = d at *
  obtain ⟨a, b, f, n1⟩ := d
  simp only at *
  have hw : IntKind.i64.wrap n1 = n1 := IntWalk.i64_in _ (by omega)
  clear hv hB hl h1 h2 h3
  have HW := hid_mk (blk_new w zLk 157)
  go_enter Tryz.func94, Tryz.ntmps94
  go_wp2_with fail
  refine (HR.out _ (by exact below_box w _)).mono ?_
  rintro e w1 ⟨rfl, hb1⟩
  have HB1 := hid_mk ((below_box w _).trans (hb1.mono (by simp)))
  have HW1 := hid_mk (HW.out.below hb1)
  have b1 : w.heap.size < w1.heap.size := HW1.out.lt
  clear hb1
  go_wp2_with fail
  refine (HK.out _).mono ?_
  rintro e w2 ⟨rfl, hb2⟩
  have hb3 := (below_box w1 _).trans (hb2.mono (by simp))
  have HB2 := hid_mk (below_then HB1.out hb3)
  have b2 : w1.heap.size < w2.heap.size := Nat.lt_of_lt_of_le (by simp) hb2.size
  have c3 : w2.cell? ⟨w1.heap.size, 3, none⟩ = some (.int .u16 n1) := (hb2.cell (p := ⟨w1.heap.size, 3, none⟩) (by simp)).trans (by simp)
  obtain ⟨p, p0, p1, p2, p3, p4, p5, p6, q0, q1, q2, q3, q4, q5, q6⟩ := cells7 (HW1.out.below hb3)
  clear hb2 hb3
  go_wp2_with fail
  exact bodyPost_ret (v := .agg #[.int .u64 a, .int .u32 b, .bool (flB f 2), .bool (flB f 4), .int .i64 0, .int .i64 n1, .bool (flB f 1)]) (by simp [results, Tryz.results94, go_sem, p, p0, p1, p2, p3, p4, p5, p6]) rfl ⟨rfl, (put7_below HB2.out (Nat.le_refl _) _ _ _ _ _ _ _).alloc (by simpa using HB2.out.size) _⟩

theorem vpackedlink (v : Value) (l : List Int) (i n : Int) (w : World) (hv : BytesAt w v l) (hB : isBytes l) (hl : l.length = 16) (hi : 0 ≤ i) (hn : i < n) (hm : n ≤ 32768) :
    Calls Tryz.prog 93 #[v, .int .i64 i, .int .i64 n] w fun e w' => e = .returned (lkV (dPk n l i)) ∧ Below w.heap.size w w' := by
  have HR := hid_mk (fun u (h : Below w.heap.size w u) => pread_any v l u (hv.below h) hB (by omega))
  rw [(rd_yes hl).1, (rd_yes hl).2] at HR
  obtain ⟨h1, h2, h3, h4⟩ := dR_is hB hl
  have HG := hid_mk (fun u => go_any i 1 n false u (by omega) hm hi hn (by decide) (by omega))
  have HK := hid_mk (fun u => vlinkof (dR l).a (dR l).l (dR l).n u h4)
  unfold dPk lkV
  generalize dR l = d at *
  obtain ⟨a, b, f, n1⟩ := d
  simp only at *
  generalize goA i 1 n = g at *
  generalize goW i 1 n false = gb at *
  have hw : IntKind.i64.wrap f = f := IntWalk.i64_in _ (by omega)
  clear hv hB hl h1 h2 h4 hi hn hm
  have HW := hid_mk (blk_new w zLk 157)
  go_enter Tryz.func93, Tryz.ntmps93
  go_wp2_with fail
  refine (HR.out _ (by exact below_box w _)).mono ?_
  rintro e w1 ⟨rfl, hb1⟩
  have HB1 := hid_mk ((below_box w _).trans (hb1.mono (by simp)))
  have HW1 := hid_mk (HW.out.below hb1)
  have b1 : w.heap.size < w1.heap.size := HW1.out.lt
  clear hb1
  go_wp2_with fail
  refine (HG.out _).mono ?_
  rintro e w2 ⟨rfl, hb2⟩
  have hb3 := (below_box w1 _).trans (hb2.mono (by simp))
  have HB2 := hid_mk (below_then HB1.out hb3)
  have HW2 := hid_mk (HW1.out.below hb3)
  have HD2 := hid_mk ((blk_new w1 [.int .u64 a, .int .u32 b, .int .u16 f, .int .u16 n1] 63).below hb2)
  have b2 : w1.heap.size < w2.heap.size := HD2.out.lt
  obtain ⟨_, d0, d1, d2, d3, _⟩ := cells4 HD2.out
  clear hb2 hb3
  go_wp2_with fail
  refine (HK.out _).mono ?_
  rintro e w3 ⟨rfl, hb4⟩
  have hb5 := (below_box w2 _).trans (hb4.mono (by simp))
  have HB3 := hid_mk (below_then HB2.out hb5)
  have HW3 := hid_mk (HW2.out.below hb5)
  obtain ⟨_, k0, k1, k2, k3, _⟩ := cells4 (HD2.out.below hb5)
  have HP3 := hid_mk ((blk_new w2 [.int .i64 g, .bool gb] 58).below hb4)
  have b3 : w2.heap.size < w3.heap.size := HP3.out.lt
  have m0 : w3.cell? ⟨w2.heap.size, 0, none⟩ = some (.int .i64 g) := HP3.out.cell 0
  obtain ⟨p, p0, p1, p2, p3, p4, p5, p6, q0, q1, q2, q3, q4, q5, q6⟩ := cells7 HW3.out
  clear hb4 hb5
  have hxz : w1.heap.size < w3.heap.size := by omega
  have hxn : w1.heap.size ≠ w3.heap.size := by omega
  have hyn : w2.heap.size ≠ w3.heap.size := by omega
  clear HK HG HR d0 d1 d2 d3 k0 k1 k3
  go_wp2_with fail
  go_region
  go_wp2_with fail
  exact bodyPost_ret (v := .agg #[.int .u64 a, .int .u32 b, .bool (flB n1 2), .bool (flB n1 4), .int .i64 f, .int .i64 g, .bool (flB n1 1)]) (by simp [results, Tryz.results93, go_sem, p, p0, p1, p2, p3, p4, p5, p6]) rfl ⟨rfl, ((put7_below HB3.out (Nat.le_refl _) _ _ _ _ _ _ _).alloc (by simpa using HB3.out.size) _).drew⟩

theorem vpackedentry (v : Value) (l : List Int) (i n : Int) (w : World) (hv : BytesAt w v l) (hB : isBytes l) (hl : l.length = 16) (hi : 0 ≤ i) (hn : i < n) (hm : n ≤ 32768) :
    Calls Tryz.prog 96 #[v, .int .i64 i, .int .i64 n] w fun e w' => e = .returned (lkV (dEn n l i)) ∧ Below w.heap.size w w' := by
  have HR := hid_mk (fun u (h : Below w.heap.size w u) => vpackedlink v l i n u (hv.below h) hB hl hi hn hm)
  have hw : IntKind.i64.wrap (i + 1) = i + 1 := IntWalk.i64_in _ (by omega)
  unfold dEn
  unfold lkV at HR ⊢
  generalize dPk n l i = d at *
  obtain ⟨⟨a, b, f⟩, t, id, nx, m⟩ := d
  simp only at *
  obtain ⟨B, hBB⟩ : ∃ B, decide (i + 1 < n) = B := ⟨_, rfl⟩
  rw [hBB]
  clear hv hB hl hi hn hm
  have HW := hid_mk (blk_new w zLk 157)
  go_enter Tryz.func96, Tryz.ntmps96
  go_wp2_with fail
  refine (HR.out _ (by exact below_box w _)).mono ?_
  rintro e w1 ⟨rfl, hb1⟩
  have HB1 := hid_mk ((below_box w _).trans (hb1.mono (by simp)))
  obtain ⟨p, p0, p1, p2, p3, p4, p5, p6, q0, q1, q2, q3, q4, q5, q6⟩ := cells7 (HW.out.below hb1)
  clear hb1 HR
  go_wp2_with fail
  exact bodyPost_ret (v := .agg #[.int .u64 a, .int .u32 b, .bool f, .bool t, .int .i64 id, .int .i64 nx, .bool B]) (by simp [results, Tryz.results96, go_sem, p, p0, p1, p2, p3, p4, p5, p6]) rfl ⟨rfl, (put7_below HB1.out (Nat.le_refl _) _ _ _ _ _ _ _).alloc (by simpa using HB1.out.size) _⟩

/-- a list of descriptors as a value -/
abbrev lgV (a n : Int) (F : Nat) : Value := .agg #[.int .u64 a, .int .i64 n, .func (.func F) #[] #[]]
def decN (pk : Bool) : Nat := if pk = true then 93 else 94
def entN (pk : Bool) : Nat := if pk = true then 96 else 94
theorem vringof (pk : Bool) (n d g c : Int) (w : World) :
    Calls Tryz.prog 70 #[rV pk n d g c] w fun e w' => e = .returned (lgV d n (decN pk)) ∧ Below w.heap.size w w' := by
  cases pk
  all_goals
    go_enter Tryz.func70, Tryz.ntmps70
    go_wp2
  · exact bodyPost_ret (v := lgV d n (decN false)) (by simp [results, Tryz.results70, go_sem, lgV, decN]) rfl ⟨rfl, (by repeat (first | exact Below.refl _ _ | (refine Below.alloc ?_ (by first | (simp; done) | (simp; omega)) _) | (refine Below.setCell ?_ (by first | (simp; done) | (simp; omega)) _)))⟩
  · exact bodyPost_ret (v := lgV d n (decN true)) (by simp [results, Tryz.results70, go_sem, lgV, decN]) rfl ⟨rfl, (by repeat (first | exact Below.refl _ _ | (refine Below.alloc ?_ (by first | (simp; done) | (simp; omega)) _) | (refine Below.setCell ?_ (by first | (simp; done) | (simp; omega)) _)))⟩
end Go.Proofs.YtfhhgcgbgmilcaaGreat

/- walk's tableOf, get. Conditions: as each theorem names them. -/
namespace Go.Proofs.YtfhhgcgbgmilcaaGreat
open Go.ChangeShapes Go.WideShapes Go.ChangeAt Go.RowKit
set_option linter.unusedVariables false
set_option maxRecDepth 100000

abbrev lgZ : Value := .agg #[.int .u64 0, .int .i64 0, .nilFunc]
theorem put3_below {w a : World} {rb B : Nat} (h : Below B a w) (hb : B ≤ rb) (x0 x1 x2 : Value) : Below B a (((w.setCell ⟨rb, 0, none⟩ x0).setCell ⟨rb, 1, none⟩ x1).setCell ⟨rb, 2, none⟩ x2) := ((h.setCell hb _).setCell hb _).setCell hb _
theorem box3_below (w : World) (o o2 : Obj) (x0 x1 x2 : Value) : Below w.heap.size w (((((w.alloc o).alloc o2).setCell ⟨w.heap.size + 1, 0, none⟩ x0).setCell ⟨w.heap.size + 1, 1, none⟩ x1).setCell ⟨w.heap.size + 1, 2, none⟩ x2) := put3_below ((below_box w o).alloc (by simp) o2) (by omega) _ _ _
theorem cw3 {w : World} {b : Nat} {x0 x1 x2 : Value} {t : TypeId} (h : BlkAt w b [x0, x1, x2] t) : b < w.heap.size ∧ w.cell? ⟨b, 0, none⟩ = some x0 ∧ w.cell? ⟨b, 1, none⟩ = some x1 ∧ w.cell? ⟨b, 2, none⟩ = some x2 ∧ w.frozen? ⟨b, 0, none⟩ = false ∧ w.frozen? ⟨b, 1, none⟩ = false ∧ w.frozen? ⟨b, 2, none⟩ = false := ⟨h.lt, h.cell 0, h.cell 1, h.cell 2, h.free 0, h.free 1, h.free 2⟩
theorem vtableof_no (pv : Option Addr) (a l : Int) (t pk : Bool) (w : World) (hl : 0 ≤ l ∧ l < 4294967296) (hc : l = 0 ∨ l % 16 ≠ 0 ∨ 64 < l / 16) :
    Calls Tryz.prog 72 #[.pointer pv, .agg #[.int .u64 a, .int .u32 l, .bool t], .bool pk] w fun e w' => e = .returned (.tuple #[lgZ, .int .i64 4]) ∧ Below w.heap.size w w' := by
  have hr : l.tmod 16 = l % 16 := Int.tmod_eq_emod_of_nonneg hl.1
  have hq : l.tdiv 16 = l / 16 := Int.tdiv_eq_ediv_of_nonneg hl.1
  have hw3 : IntKind.u32.wrap (l / 16) = l / 16 := by rw [IntKind.wrap_u32]; omega
  by_cases h1 : l / 16 < 1
  · have b1 : decide (l / 16 < 1) = true := decide_eq_true h1
    clear hl hc h1
    go_enter Tryz.func72, Tryz.ntmps72
    go_wp2
    exact bodyPost_ret (v := .tuple #[lgZ, .int .i64 4]) (by simp [results, Tryz.results72, go_sem, lgZ]) rfl ⟨rfl, (below_box w _).alloc (by simp) _⟩
  · have b1 : decide (l / 16 < 1) = false := decide_eq_false h1
    by_cases h2 : 64 < l / 16
    · have b2 : decide (64 < l / 16) = true := decide_eq_true h2
      clear hl hc h1 h2
      go_enter Tryz.func72, Tryz.ntmps72
      go_wp2
      exact bodyPost_ret (v := .tuple #[lgZ, .int .i64 4]) (by simp [results, Tryz.results72, go_sem, lgZ]) rfl ⟨rfl, (below_box w _).alloc (by simp) _⟩
    · have b2 : decide (64 < l / 16) = false := decide_eq_false h2
      have b3 : (l % 16 != 0) = true := by simp; omega
      clear hl hc h1 h2
      go_enter Tryz.func72, Tryz.ntmps72
      go_wp2
      exact bodyPost_ret (v := .tuple #[lgZ, .int .i64 4]) (by simp [results, Tryz.results72, go_sem, lgZ]) rfl ⟨rfl, (below_box w _).alloc (by simp) _⟩
theorem vtableof (p ib qb : Nat) (R : List (Int × Int)) (M : List Int) (a l : Int) (t pk : Bool) (w : World) (hm : IsMem w p ib qb R M) (ha : U64 a) (hl : 0 ≤ l ∧ l < 4294967296) :
    Calls Tryz.prog 72 #[.pointer (some ⟨p, 0, none⟩), .agg #[.int .u64 a, .int .u32 l, .bool t], .bool pk] w fun e w' => e = .returned (.tuple #[if wenE R a l = 0 then lgV a (l / 16) (entN pk) else lgZ, .int .i64 (wenE R a l)]) ∧ Below w.heap.size w w' := by
  have HH := hid_mk (fun u (h : Below w.heap.size w u) => has_any p ib qb R M a l u (hm.below h) ha (by omega))
  rcases wenE_cases R a l with ⟨e, h1, h2, h3, h4⟩ | ⟨e, hc⟩ | ⟨e, h1, h2, h3, h4⟩
  · rw [e, if_pos rfl]
    rw [h4] at HH
    have hr : l.tmod 16 = l % 16 := Int.tmod_eq_emod_of_nonneg hl.1
    have hq : l.tdiv 16 = l / 16 := Int.tdiv_eq_ediv_of_nonneg hl.1
    have hw3 : IntKind.u32.wrap (l / 16) = l / 16 := by rw [IntKind.wrap_u32]; omega
    have hw4 : IntKind.i64.wrap (l / 16) = l / 16 := IntWalk.i64_in _ (by omega)
    have hw5 : IntKind.u64.wrap l = l := by rw [IntKind.wrap_u64]; omega
    have b1 : decide (l / 16 < 1) = false := decide_eq_false (by omega)
    have b2 : decide (64 < l / 16) = false := decide_eq_false (by omega)
    have b3 : (l % 16 != 0) = false := by simp [h2]
    have HW := hid_mk (blk_new (w.alloc (.cells #[.int .u64 a, .int .u32 l, .bool t] 28)) [.int .u64 0, .int .i64 0, .nilFunc] 152)
    have HS := hid_mk ((blk_new w [.int .u64 a, .int .u32 l, .bool t] 28).below (below_box _ (.cells #[.int .u64 0, .int .i64 0, .nilFunc] 152)))
    clear hm ha hl e h1 h2 h3 h4
    go_enter Tryz.func72, Tryz.ntmps72
    go_wp2_with fail
    refine (HH.out _ (by exact (below_box w _).alloc (by simp) _)).mono ?_
    rintro e w1 ⟨rfl, hb1⟩
    have HB1 := hid_mk (((below_box w _).alloc (by simp) _).trans (hb1.mono (by simp; omega)))
    obtain ⟨p, p0, p1, p2, q0, q1, q2⟩ := cw3 (HW.out.below hb1)
    obtain ⟨r, r0, r1, r2, s0, s1, s2⟩ := cw3 (HS.out.below hb1)
    rw [sizeA] at p p0 p1 p2 q0 q1 q2
    clear hb1 HH
    cases pk
    · go_wp2_with fail
      exact bodyPost_ret (v := .tuple #[lgV a (l / 16) (entN false), .int .i64 0]) (by simp [results, Tryz.results72, go_sem, p0, p1, p2, entN]) rfl ⟨rfl, put3_below HB1.out (by omega) _ _ _⟩
    · go_wp2_with fail
      exact bodyPost_ret (v := .tuple #[lgV a (l / 16) (entN true), .int .i64 0]) (by simp [results, Tryz.results72, go_sem, p0, p1, p2, entN]) rfl ⟨rfl, put3_below HB1.out (by omega) _ _ _⟩
  · rw [e, if_neg (by decide)]
    exact vtableof_no _ a l t pk w hl (by omega)
  · rw [e, if_neg (by decide)]
    rw [h4] at HH
    have hr : l.tmod 16 = l % 16 := Int.tmod_eq_emod_of_nonneg hl.1
    have hq : l.tdiv 16 = l / 16 := Int.tdiv_eq_ediv_of_nonneg hl.1
    have hw3 : IntKind.u32.wrap (l / 16) = l / 16 := by rw [IntKind.wrap_u32]; omega
    have hw5 : IntKind.u64.wrap l = l := by rw [IntKind.wrap_u64]; omega
    have b1 : decide (l / 16 < 1) = false := decide_eq_false (by omega)
    have b2 : decide (64 < l / 16) = false := decide_eq_false (by omega)
    have b3 : (l % 16 != 0) = false := by simp [h2]
    have HW := hid_mk (blk_new (w.alloc (.cells #[.int .u64 a, .int .u32 l, .bool t] 28)) [.int .u64 0, .int .i64 0, .nilFunc] 152)
    clear hm ha hl e h1 h2 h3 h4
    go_enter Tryz.func72, Tryz.ntmps72
    go_wp2_with fail
    refine (HH.out _ (by exact (below_box w _).alloc (by simp) _)).mono ?_
    rintro e w1 ⟨rfl, hb1⟩
    have HB1 := hid_mk (((below_box w _).alloc (by simp) _).trans (hb1.mono (by simp; omega)))
    obtain ⟨p, p0, p1, p2, q0, q1, q2⟩ := cw3 (HW.out.below hb1)
    rw [sizeA] at p p0 p1 p2 q0 q1 q2
    clear hb1 HH
    go_wp2_with fail
    exact bodyPost_ret (v := .tuple #[lgZ, .int .i64 5]) (by simp [results, Tryz.results72, go_sem, p0, p1, p2, lgZ]) rfl ⟨rfl, put3_below HB1.out (by omega) _ _ _⟩
end Go.Proofs.YtfhhgcgbgmilcaaGreat
