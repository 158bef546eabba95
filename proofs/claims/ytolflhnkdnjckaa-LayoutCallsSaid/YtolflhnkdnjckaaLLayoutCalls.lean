/-
  PROVED: dumbwaiterlaw04.LayoutCalls returns true for any rings, element, kind, size, base, bytes and regions, and what was in memory stays as it was. Conditions: none.
-/
import Derived.Test.YtolflhnkdnjckaaRows
import Derived.Test.YtolflhnkdnjckaaLay13
import Derived.Test.YtolflhnkdnjckaaLay14
import Derived.Test.YtolflhnkdnjckaaRgOpen
import Derived.WalkKit
import Derived.ProofKit
import Derived.OpenShut
import Derived.ShutString
import Derived.ChangeOld
import Derived.Below
import Derived.Carry
import Derived.Lib.SmallJoins
import Derived.Deep.DeepCutAuto
import Derived.Deep.RegionHeld3
import Derived.BigQuiet
namespace Go.Proofs.Ytolflhnkdnjckaa.layoutCalls
open Go.ChangeShapes Go.WideShapes Go.ChangeAt Go.RowKit
set_option linter.unusedVariables false


theorem neqRg (p : Bool) (n d g c : Int) (w : World) : (binOp .neq 24 (rV p n d g c) (rV p n d g c)).run Try.prog w = .ok (.bool false) w := by
  rw [run_neq_struct, run_equalIn_agg w 9999 24 _ _ fieldsRg stoodRg]
  have hf := fieldsRg
  rw [Try.underlying24] at hf
  simp at hf
  rw [← hf]
  simp [Op.eqFields, go_sem, Try.underlying22, Try.underlying3, Try.underlying4]
/-- rings in a box -/
structure BX (w wx : World) (p : Nat) (pk : Bool) (n d g c : Int) : Prop where
  b : Below w.heap.size w wx
  k : wx.cell? ⟨p, 0, none⟩ = some (.bool pk) ∧ wx.cell? ⟨p, 1, none⟩ = some (.int .i64 n) ∧ wx.cell? ⟨p, 2, none⟩ = some (.int .u64 d) ∧ wx.cell? ⟨p, 3, none⟩ = some (.int .u64 g) ∧ wx.cell? ⟨p, 4, none⟩ = some (.int .u64 c)
  q : p < wx.heap.size
theorem BX.below {w wx wy : World} {p : Nat} {pk : Bool} {n d g c : Int} (h : BX w wx p pk n d g c) (hb : Below wx.heap.size wx wy) : BX w wy p pk n d g c :=
  have hc := fun k => hb.cell (p := ⟨p, k, none⟩) h.q
  ⟨below_then h.b hb, ⟨(hc 0).trans h.k.1, (hc 1).trans h.k.2.1, (hc 2).trans h.k.2.2.1, (hc 3).trans h.k.2.2.2.1, (hc 4).trans h.k.2.2.2.2⟩, Nat.lt_of_lt_of_le h.q hb.size⟩
theorem BX.conj {w w' : World} {pk : Bool} {n d g c : Int} (h : BX w w' w.heap.size pk n d g c) : Below w.heap.size w w' ∧ (w'.cell? ⟨w.heap.size, 0, none⟩ = some (.bool pk) ∧ w'.cell? ⟨w.heap.size, 1, none⟩ = some (.int .i64 n) ∧ w'.cell? ⟨w.heap.size, 2, none⟩ = some (.int .u64 d) ∧ w'.cell? ⟨w.heap.size, 3, none⟩ = some (.int .u64 g) ∧ w'.cell? ⟨w.heap.size, 4, none⟩ = some (.int .u64 c)) ∧ w.heap.size < w'.heap.size := ⟨h.b, h.k, h.q⟩
theorem BX.ofc {w w' : World} {pk : Bool} {n d g c : Int} (h : Below w.heap.size w w' ∧ (w'.cell? ⟨w.heap.size, 0, none⟩ = some (.bool pk) ∧ w'.cell? ⟨w.heap.size, 1, none⟩ = some (.int .i64 n) ∧ w'.cell? ⟨w.heap.size, 2, none⟩ = some (.int .u64 d) ∧ w'.cell? ⟨w.heap.size, 3, none⟩ = some (.int .u64 g) ∧ w'.cell? ⟨w.heap.size, 4, none⟩ = some (.int .u64 c)) ∧ w.heap.size < w'.heap.size) : BX w w' w.heap.size pk n d g c := ⟨h.1, h.2.1, h.2.2⟩
theorem BX.keep {w w' wy : World} {pk : Bool} {n d g c : Int} (h : Below w.heap.size w w' ∧ (w'.cell? ⟨w.heap.size, 0, none⟩ = some (.bool pk) ∧ w'.cell? ⟨w.heap.size, 1, none⟩ = some (.int .i64 n) ∧ w'.cell? ⟨w.heap.size, 2, none⟩ = some (.int .u64 d) ∧ w'.cell? ⟨w.heap.size, 3, none⟩ = some (.int .u64 g) ∧ w'.cell? ⟨w.heap.size, 4, none⟩ = some (.int .u64 c)) ∧ w.heap.size < w'.heap.size) (hb : Below w'.heap.size w' wy) : Below w.heap.size w wy ∧ (wy.cell? ⟨w.heap.size, 0, none⟩ = some (.bool pk) ∧ wy.cell? ⟨w.heap.size, 1, none⟩ = some (.int .i64 n) ∧ wy.cell? ⟨w.heap.size, 2, none⟩ = some (.int .u64 d) ∧ wy.cell? ⟨w.heap.size, 3, none⟩ = some (.int .u64 g) ∧ wy.cell? ⟨w.heap.size, 4, none⟩ = some (.int .u64 c)) ∧ w.heap.size < wy.heap.size := ((BX.ofc h).below hb).conj
theorem BX.drew {w wx : World} {p : Nat} {pk : Bool} {n d g c : Int} (h : BX w wx p pk n d g c) : BX w wx.drew p pk n d g c := h.below (Below.refl _ _).drew
theorem keepM {w w' wy : World} {pk : Bool} {n d g c : Int} {p ib qb base rp lb bb cL cB : Nat} {aB : Option Addr} {D : Nat → Nat} {L : List (Int × Int)} {M M' : List Int} (h : (Below w.heap.size w w' ∧ (w'.cell? ⟨w.heap.size, 0, none⟩ = some (.bool pk) ∧ w'.cell? ⟨w.heap.size, 1, none⟩ = some (.int .i64 n) ∧ w'.cell? ⟨w.heap.size, 2, none⟩ = some (.int .u64 d) ∧ w'.cell? ⟨w.heap.size, 3, none⟩ = some (.int .u64 g) ∧ w'.cell? ⟨w.heap.size, 4, none⟩ = some (.int .u64 c)) ∧ w.heap.size < w'.heap.size) ∧ IsMem w' p ib qb L M ∧ IsRef w' base rp lb bb cL cB aB D L M') (hb : Below w'.heap.size w' wy) : (Below w.heap.size w wy ∧ (wy.cell? ⟨w.heap.size, 0, none⟩ = some (.bool pk) ∧ wy.cell? ⟨w.heap.size, 1, none⟩ = some (.int .i64 n) ∧ wy.cell? ⟨w.heap.size, 2, none⟩ = some (.int .u64 d) ∧ wy.cell? ⟨w.heap.size, 3, none⟩ = some (.int .u64 g) ∧ wy.cell? ⟨w.heap.size, 4, none⟩ = some (.int .u64 c)) ∧ w.heap.size < wy.heap.size) ∧ IsMem wy p ib qb L M ∧ IsRef wy base rp lb bb cL cB aB D L M' :=
  ⟨BX.keep h.1 hb, h.2.1.below hb, h.2.2.below hb⟩
theorem memOf {w w' : World} {pk : Bool} {n d g c : Int} {p ib qb base rp lb bb cL cB : Nat} {aB : Option Addr} {D : Nat → Nat} {L : List (Int × Int)} {M M' : List Int} (h : (Below w.heap.size w w' ∧ (w'.cell? ⟨w.heap.size, 0, none⟩ = some (.bool pk) ∧ w'.cell? ⟨w.heap.size, 1, none⟩ = some (.int .i64 n) ∧ w'.cell? ⟨w.heap.size, 2, none⟩ = some (.int .u64 d) ∧ w'.cell? ⟨w.heap.size, 3, none⟩ = some (.int .u64 g) ∧ w'.cell? ⟨w.heap.size, 4, none⟩ = some (.int .u64 c)) ∧ w.heap.size < w'.heap.size) ∧ IsMem w' p ib qb L M ∧ IsRef w' base rp lb bb cL cB aB D L M') : IsMem w' p ib qb L M := h.2.1
theorem refOf {w w' : World} {pk : Bool} {n d g c : Int} {p ib qb base rp lb bb cL cB : Nat} {aB : Option Addr} {D : Nat → Nat} {L : List (Int × Int)} {M M' : List Int} (h : (Below w.heap.size w w' ∧ (w'.cell? ⟨w.heap.size, 0, none⟩ = some (.bool pk) ∧ w'.cell? ⟨w.heap.size, 1, none⟩ = some (.int .i64 n) ∧ w'.cell? ⟨w.heap.size, 2, none⟩ = some (.int .u64 d) ∧ w'.cell? ⟨w.heap.size, 3, none⟩ = some (.int .u64 g) ∧ w'.cell? ⟨w.heap.size, 4, none⟩ = some (.int .u64 c)) ∧ w.heap.size < w'.heap.size) ∧ IsMem w' p ib qb L M ∧ IsRef w' base rp lb bb cL cB aB D L M') : IsRef w' base rp lb bb cL cB aB D L M' := h.2.2
theorem pl_some (pk : Bool) (n b : Int) : ∃ (p : Bool) (m d g c N E : Int), plR pk n b = .returned (.tuple #[rV p m d g c, .int .u64 N, .int .i64 E]) := by
  cases h : plOk pk n b
  · exact ⟨_, _, _, _, _, _, _, (pl_no h).symm⟩
  · exact ⟨_, _, _, _, _, _, _, (pl_yes h).symm⟩

set_option maxRecDepth 100000 in
set_option maxHeartbeats 40000000 in
theorem core (pk : Bool) (n d g c x i : Int) (pk2 : Bool) (sz base aa m : Int) (v : Value) (va : Option Addr) (vc : Nat) (L : List (Int × Int)) (w : World) (hve : v = .slice va L.length vc) (hv : RegsAt w v L) (hu : isRegs L) (hmx : L.length ≤ maxLen)
    (hd : U64 d) (hg : U64 g) (hc : U64 c) (hb : U64 base) (hat : U64 aa) (hm : U64 m) :
    Calls Try.prog 4 #[rV pk n d g c, .int .i64 x, .int .i64 i, .bool pk2, .int .i64 sz, .int .u64 base, .int .u64 aa, .int .u64 m, v] w fun e w' => e = .returned (.bool true) ∧ Below w.heap.size w w' := by
  have HV := hid_mk hv
  have HU := hid_mk hu
  have HMX := hid_mk hmx
  have PA := hid_mk (parts_any pk n d g c)
  have PR := hid_mk (rparts_any pk n d g c)
  have CA := hid_mk (fun w => check_lay pk n d g c w hd hg hc)
  have CR := hid_mk (fun w => rcheck_lay pk n d g c w hd hg hc)
  have OA := hid_mk (fun w => over_any pk n d g c aa m w hd hg hc hat hm)
  have OR := hid_mk (fun w => rover_any pk n d g c aa m w hd hg hc hat hm)
  have WA := hid_mk (fun w => where_any pk n d g c x i w hd hg hc)
  have WR := hid_mk (fun w => rwhere_any pk n d g c x i w hd hg hc)
  have LA := fun w => place_lay pk2 sz base w hb
  have LR := fun w => rplace_lay pk2 sz base w hb
  obtain ⟨p5, n5, d5, g5, c5, N5, E5, e5⟩ := pl_some pk2 sz base
  rw [e5] at LA LR
  have LA' := hid_mk LA
  have LR' := hid_mk LR
  have FA := hid_mk (fun (p ib qb : Nat) (M : List Int) (w : World) (h : IsMem w p ib qb L M) => fits_any p ib qb L M pk n d g c w h hd hg hc)
  have FR := hid_mk (fun (base rp lb bb cL cB : Nat) (aB : Option Addr) (D : Nat → Nat) (M : List Int) (w : World) (h : IsRef w base rp lb bb cL cB aB D L M) => rfits_any base rp lb bb cL cB aB D L M pk n d g c w h hd hg hc)
  clear LA LR e5 hd hg hc hb hat hm hv hu hmx
  generalize pD pk n = D1 at *
  generalize pG pk n = G1 at *
  generalize pC pk n = C1 at *
  generalize chkR pk n d g c = K1 at *
  generalize ovB pk n d g c aa m = V1 at *
  generalize whA pk n d g c x i = A1 at *
  generalize whN pk n d g c x i = A2 at *
  generalize whE pk n d g c x i = A3 at *
  generalize fitR L pk n d g c = F1 at *
  have hq := neqRg p5 n5 d5 g5 c5
  subst hve
  go_enter Try.func4, Try.ntmps4
  go_wp2_with fail
  refine (lives_any _).mono ?_
  rintro e w1 ⟨rfl, hbw1⟩
  have B1 := hid_mk (below_new (Below.refl _ _) hbw1)
  have zw1 := hbw1.size
  simp at zw1
  have qw : w.heap.size < w1.heap.size := by omega
  have c0 := hbw1.cell (p := ⟨w.heap.size, 0, none⟩) (by simp)
  have c1 := hbw1.cell (p := ⟨w.heap.size, 1, none⟩) (by simp)
  have c2 := hbw1.cell (p := ⟨w.heap.size, 2, none⟩) (by simp)
  have c3 := hbw1.cell (p := ⟨w.heap.size, 3, none⟩) (by simp)
  have c4 := hbw1.cell (p := ⟨w.heap.size, 4, none⟩) (by simp)
  simp [go_sem] at c0 c1 c2 c3 c4
  have Rw1 : Hid (BX w w1 w.heap.size pk n d g c) := BX.mk B1.out ⟨c0, c1, c2, c3, c4⟩ qw
  clear hbw1 zw1
  go_wp2_with fail
  refine (light_any _ L 2000000 _ (HV.out.below B1.out) HU.out).mono ?_
  rintro e w' ⟨rfl, rfl⟩
  cases hl : lightB L 2000000
  · go_wp2_with fail
    go_ret
    exact ⟨rfl, B1.out⟩
  · have h40 : L.length ≤ 40 := by
      unfold lightB at hl
      simp at hl
      exact hl.1
    clear hl
    go_wp2_with fail
    refine (PA.out _).mono ?_
    rintro e w2 ⟨rfl, hbw2⟩
    have Rw2 := hid_mk (Rw1.out.below hbw2)
    obtain ⟨_, ⟨cw20, cw21, cw22, cw23, cw24⟩, qw2⟩ := Rw2.out
    clear c0 c1 c2 c3 c4 qw
    clear hbw2
    go_wp2_with fail
    refine (PR.out _).mono ?_
    rintro e w3 ⟨rfl, hbw3⟩
    have Rw3 := hid_mk (Rw2.out.below hbw3)
    obtain ⟨_, ⟨cw30, cw31, cw32, cw33, cw34⟩, qw3⟩ := Rw3.out
    clear hbw3 cw20 cw21 cw22 cw23 cw24 qw2
    go_upto_region 7 with fail
    go_cut [86] (fun s86 wx => s86 = .bool false ∧ Hid (BX w wx w.heap.size pk n d g c))
    case first =>
      as_aux_lemma =>
      go_region_held3 (fun w' => Below w.heap.size w w' ∧ (w'.cell? ⟨w.heap.size, 0, none⟩ = some (.bool pk) ∧ w'.cell? ⟨w.heap.size, 1, none⟩ = some (.int .i64 n) ∧ w'.cell? ⟨w.heap.size, 2, none⟩ = some (.int .u64 d) ∧ w'.cell? ⟨w.heap.size, 3, none⟩ = some (.int .u64 g) ∧ w'.cell? ⟨w.heap.size, 4, none⟩ = some (.int .u64 c)) ∧ w.heap.size < w'.heap.size) (first | exact Rw3.out.drew.conj | exact BX.keep (by assumption) (by assumption))
        (first | (go_at_call 13; refine (CA.out _).mono ?_; rintro e w' ⟨rfl, hb⟩) | (go_at_call 18; refine (CR.out _).mono ?_; rintro e w' ⟨rfl, hb⟩) | (go_at_call 14; refine (OA.out _).mono ?_; rintro e w' ⟨rfl, hb⟩) | (go_at_call 19; refine (OR.out _).mono ?_; rintro e w' ⟨rfl, hb⟩))
      all_goals (go_wp2_with fail; go_meet)
      exact ⟨rfl, (by first | exact BX.ofc (by assumption) | exact BX.ofc (BX.keep (by assumption) (by assumption)))⟩
    case rest =>
    obtain ⟨rfl, Rw4⟩ := hcut
    clear cw30 cw31 cw32 cw33 cw34 qw3
    obtain ⟨_, ⟨cw40, cw41, cw42, cw43, cw44⟩, qw4⟩ := Rw4.out
    go_wp2_with fail
    refine (WA.out _).mono ?_
    rintro e w5 ⟨rfl, hbw5⟩
    have Rw5 := hid_mk (Rw4.out.below hbw5)
    obtain ⟨_, ⟨cw50, cw51, cw52, cw53, cw54⟩, qw5⟩ := Rw5.out
    clear hbw5 cw40 cw41 cw42 cw43 cw44 qw4
    go_wp2_with fail
    refine (WR.out _).mono ?_
    rintro e w6 ⟨rfl, hbw6⟩
    have Rw6 := hid_mk (Rw5.out.below hbw6)
    obtain ⟨_, ⟨cw60, cw61, cw62, cw63, cw64⟩, qw6⟩ := Rw6.out
    clear hbw6 cw50 cw51 cw52 cw53 cw54 qw5
    go_wp2_with fail
    refine (LA'.out _).mono ?_
    rintro e w7 ⟨rfl, hbw7⟩
    have Rw7 := hid_mk (Rw6.out.below hbw7)
    obtain ⟨_, ⟨cw70, cw71, cw72, cw73, cw74⟩, qw7⟩ := Rw7.out
    clear hbw7 cw60 cw61 cw62 cw63 cw64 qw6
    go_wp2_with fail
    refine (LR'.out _).mono ?_
    rintro e w8 ⟨rfl, hbw8⟩
    have hz7 := hbw8.size
    simp at hz7
    have q78 : w7.heap.size < w8.heap.size := by omega
    have b70 := hbw8.cell (p := ⟨w7.heap.size, 0, none⟩) (by simp)
    simp [go_sem] at b70
    have b71 := hbw8.cell (p := ⟨w7.heap.size, 1, none⟩) (by simp)
    simp [go_sem] at b71
    have b72 := hbw8.cell (p := ⟨w7.heap.size, 2, none⟩) (by simp)
    simp [go_sem] at b72
    have b73 := hbw8.cell (p := ⟨w7.heap.size, 3, none⟩) (by simp)
    simp [go_sem] at b73
    have b74 := hbw8.cell (p := ⟨w7.heap.size, 4, none⟩) (by simp)
    simp [go_sem] at b74
    have Rw8 := hid_mk ((Rw7.out.below ((Below.refl _ _).alloc (Nat.le_refl _) _)).below hbw8)
    obtain ⟨_, ⟨cw80, cw81, cw82, cw83, cw84⟩, qw8⟩ := Rw8.out
    clear hbw8 cw70 cw71 cw72 cw73 cw74 qw7 hz7
    go_wp2_with fail
    refine (kregs_any _ L _ (HV.out.below (Rw8.out.below ((Below.refl _ _).alloc (Nat.le_refl _) _)).b) (by omega)).mono ?_
    rintro e w9 ⟨v9, rfl, hr9, hbw9⟩
    have HR9 := hid_mk hr9
    have Rw9 := hid_mk ((Rw8.out.below ((Below.refl _ _).alloc (Nat.le_refl _) _)).below hbw9)
    clear hbw9 hr9 cw80 cw81 cw82 cw83 cw84 qw8 b70 b71 b72 b73 b74 q78
    obtain ⟨_, ⟨cw90, cw91, cw92, cw93, cw94⟩, qw9⟩ := Rw9.out
    by_cases hE : L.length ≤ 16 ∧ okR (-1) 1048576 L = true
    case' neg =>
      have hE2 : chkE L = 2 := by
        unfold chkE
        rw [if_neg hE]
      go_wp2_with fail
      refine (new_no _ L _ HR9.out HU.out (by omega) hE2).mono ?_
      rintro e w10 ⟨rfl, hbw10⟩
      have Rw10 := hid_mk (Rw9.out.below hbw10)
      clear hbw10 cw90 cw91 cw92 cw93 cw94 qw9
      obtain ⟨_, ⟨cw00, cw01, cw02, cw03, cw04⟩, qw0⟩ := Rw10.out
      go_wp2_with fail
      refine (rnew_no _ L _ (HV.out.below Rw10.out.b) HU.out (by omega) (by omega)).mono ?_
      rintro e w11 ⟨rfl, hbw11⟩
      have Rw11 := hid_mk (Rw10.out.below hbw11)
      clear hbw11 cw00 cw01 cw02 cw03 cw04 qw0 hE2 hE
      go_upto_region 17 with fail
      go_region_held3 (fun w' => Below w.heap.size w w' ∧ (w'.cell? ⟨w.heap.size, 0, none⟩ = some (.bool pk) ∧ w'.cell? ⟨w.heap.size, 1, none⟩ = some (.int .i64 n) ∧ w'.cell? ⟨w.heap.size, 2, none⟩ = some (.int .u64 d) ∧ w'.cell? ⟨w.heap.size, 3, none⟩ = some (.int .u64 g) ∧ w'.cell? ⟨w.heap.size, 4, none⟩ = some (.int .u64 c)) ∧ w.heap.size < w'.heap.size) (first | exact Rw11.out.drew.conj | exact BX.keep (by assumption) (by assumption))
        (first | (go_at_call 12; refine (fits_nil pk n d g c _).mono ?_; rintro e w' ⟨rfl, hb⟩) | (go_at_call 24; refine (rfits_nil pk n d g c _).mono ?_; rintro e w' ⟨rfl, hb⟩))
      all_goals (go_wp2_with fail; go_ret)
      exact ⟨rfl, (by first | exact (BX.ofc (by assumption)).b | exact (BX.ofc (BX.keep (by assumption) (by assumption))).b)⟩
    obtain ⟨h16, hok⟩ := hE
    have hE0 : chkE L = 0 := by
      unfold chkE
      rw [if_pos ⟨h16, hok⟩]
    have hN : ∀ j, j < L.length → 0 ≤ (at_ L j).2 ∧ (at_ L j).2 ≤ 1048576 := fun j hj => by
      have := okR_at hok j hj
      exact ⟨by omega, this.2.1⟩
    go_wp2_with fail
    refine (new_any _ L _ HR9.out HU.out (by omega) hok h16).mono ?_
    rintro e w10 ⟨p, ib, qb, rfl, hmem, -, hbw10⟩
    have HM := hid_mk hmem
    have Rw10 := hid_mk (Rw9.out.below hbw10)
    clear hmem hbw10 cw90 cw91 cw92 cw93 cw94 qw9
    obtain ⟨_, ⟨cw00, cw01, cw02, cw03, cw04⟩, qw0⟩ := Rw10.out
    go_wp2_with fail
    refine (rnew_any _ L _ (HV.out.below Rw10.out.b) HU.out hok h16 hE0 hN).mono ?_
    rintro e w11 ⟨rp, lb, bb, cL, cB, aB, D, rfl, -, href, hbw11⟩
    have HM2 := hid_mk (HM.out.below hbw11)
    have HF2 := hid_mk href
    have Rw11 := hid_mk (Rw10.out.below hbw11)
    clear href hbw11 cw00 cw01 cw02 cw03 cw04 qw0 HM hN
    go_upto_region 17 with fail
    go_region_held3 (fun w' => (Below w.heap.size w w' ∧ (w'.cell? ⟨w.heap.size, 0, none⟩ = some (.bool pk) ∧ w'.cell? ⟨w.heap.size, 1, none⟩ = some (.int .i64 n) ∧ w'.cell? ⟨w.heap.size, 2, none⟩ = some (.int .u64 d) ∧ w'.cell? ⟨w.heap.size, 3, none⟩ = some (.int .u64 g) ∧ w'.cell? ⟨w.heap.size, 4, none⟩ = some (.int .u64 c)) ∧ w.heap.size < w'.heap.size) ∧ IsMem w' p ib qb L (List.replicate (sumR L) 0) ∧ IsRef w' w10.heap.size rp lb bb cL cB aB D L (List.replicate (sumR L) 0)) (first | exact ⟨Rw11.out.drew.conj, HM2.out.below (Below.refl _ _).drew, HF2.out.below (Below.refl _ _).drew⟩ | exact keepM (by assumption) (by assumption))
      (first | (go_at_call 12; refine (FA.out p ib qb _ _ (memOf (by assumption))).mono ?_; rintro e w' ⟨rfl, hb⟩) | (go_at_call 24; refine (FR.out _ rp lb bb cL cB aB D _ _ (refOf (by assumption))).mono ?_; rintro e w' ⟨rfl, hb⟩))
    all_goals (go_wp2_with fail; go_ret)
    exact ⟨rfl, (by first | exact (BX.ofc (And.left (by assumption))).b | exact (BX.ofc (keepM (by assumption) (by assumption)).1).b)⟩

theorem walk (w : World) (a0 : Bool) (b0 c0 d0 e0 a1 a2 : Int) (a3 : Bool) (a4 a5 a6 a7 : Int) (v8 : Value) (l8 : List (Int × Int)) (hv8 : RegsAt w v8 l8) (hb8 : isRegs l8) (hm8 : l8.length ≤ maxLen)
    (w1 : (Lit.int .i64 a1).wf = true) (w2 : (Lit.int .i64 a2).wf = true) (w4 : (Lit.int .i64 a4).wf = true) (w5 : (Lit.int .u64 a5).wf = true) (w6 : (Lit.int .u64 a6).wf = true) (w7 : (Lit.int .u64 a7).wf = true) (y0 : -9223372036854775808 ≤ b0 ∧ b0 ≤ 9223372036854775807) (z0 : U64 c0) (t0 : U64 d0) (w0 : U64 e0) :
    Calls Try.prog 4 #[rV a0 b0 c0 d0 e0, .int .i64 a1, .int .i64 a2, .bool a3, .int .i64 a4, .int .u64 a5, .int .u64 a6, .int .u64 a7, v8] w fun e w' => e = .returned (.bool true) ∧ Below w.heap.size w w' := by
  obtain ⟨va, vc, hve⟩ := hv8.len
  have h5 := bounds_u64 w5
  have h6 := bounds_u64 w6
  have h7 := bounds_u64 w7
  exact core a0 b0 c0 d0 e0 a1 a2 a3 a4 a5 a6 a7 v8 va vc l8 w hve hv8 hb8 hm8 z0 t0 w0 ⟨h5.1, by omega⟩ ⟨h6.1, by omega⟩ ⟨h7.1, by omega⟩

/-! ### the row's frame -/
theorem own : ownKnob Try.prog.godebug = none := by kernel_rfl
theorem laidOut : laidOutB Try.prog = true := by kernel_rfl

set_option maxRecDepth 100000 in
theorem lifted (os : Os) (started : os.Started) (H : Type) (enc : TypeId × Value → H) :
    ReturnsInHanded {} Try.checked os 4 .any (Rows.layoutCallsSpec.pre6 enc Try.prog Try.f4 Rows.layoutCallsRow.domain false) (Rows.layoutCallsSpec.post enc Try.prog Try.f4 false true false false) := by
  refine returnsInHanded_of_change (C := Try.checked) own started (by kernel_rfl) Try.func4
    (ChangeSpec.witness6 (enc := enc) (C := Try.checked) false ⟨#[], #[.agg #[.bool false, .int .i64 0, .int .u64 0, .int .u64 0, .int .u64 0], .int .i64 0, .int .i64 0, .bool false, .int .i64 0, .int .u64 0, .int .u64 0, .int .u64 0, .slice none 0 0], []⟩ 8 (by kernel_rfl) (by kernel_rfl) (by kernel_rfl) (by kernel_rfl)) ?_
  intro W base args ds gs before hval0 hW hcnd _
  have hval : ∀ (j : Nat) t v, Try.f4.params[j]? = some t → args[j]? = some v → Value.okWide Try.prog W .any base t v := hval0
  have hW' := hW
  obtain ⟨p, q, hA0, hV, rfl, hfz, hnd⟩ := hW
  have hA : DataW.TrodAll enc Try.prog W 0 (fun _ => true) true Try.f4.params.toList args.toList ds p := hA0
  rw [Try.params4] at hA hval
  obtain ⟨v0, vs0, d0, ds0, p0, q0, hargs, rfl, rfl, h0, r0⟩ := trodAll_cons hA
  obtain ⟨v1, vs1, d1, ds1, p1, q1, rfl, rfl, rfl, h1, r1⟩ := trodAll_cons r0
  obtain ⟨v2, vs2, d2, ds2, p2, q2, rfl, rfl, rfl, h2, r2⟩ := trodAll_cons r1
  obtain ⟨v3, vs3, d3, ds3, p3, q3, rfl, rfl, rfl, h3, r3⟩ := trodAll_cons r2
  obtain ⟨v4, vs4, d4, ds4, p4, q4, rfl, rfl, rfl, h4, r4⟩ := trodAll_cons r3
  obtain ⟨v5, vs5, d5, ds5, p5, q5, rfl, rfl, rfl, h5, r5⟩ := trodAll_cons r4
  obtain ⟨v6, vs6, d6, ds6, p6, q6, rfl, rfl, rfl, h6, r6⟩ := trodAll_cons r5
  obtain ⟨v7, vs7, d7, ds7, p7, q7, rfl, rfl, rfl, h7, r7⟩ := trodAll_cons r6
  obtain ⟨v8, vs8, d8, ds8, p8, q8, rfl, rfl, rfl, h8, r8⟩ := trodAll_cons r7
  obtain ⟨rfl, rfl, rfl⟩ := trodAll_nil r8
  obtain rfl : args = #[v0, v1, v2, v3, v4, v5, v6, v7, v8] := by cases args; simp_all
  obtain ⟨rfl, rfl⟩ := trodVars_none hV
  have k0 := h0
  have lt0 : ∀ x ∈ p0, x.block < W.heap.size := by
    obtain ⟨m, hm⟩ := k0
    exact DataW.trod_lt m _ _ _ hm
  have k1 := h1
  have lt1 : ∀ x ∈ p1, x.block < W.heap.size := by
    obtain ⟨m, hm⟩ := k1
    exact DataW.trod_lt m _ _ _ hm
  have k2 := h2
  have lt2 : ∀ x ∈ p2, x.block < W.heap.size := by
    obtain ⟨m, hm⟩ := k2
    exact DataW.trod_lt m _ _ _ hm
  have k3 := h3
  have lt3 : ∀ x ∈ p3, x.block < W.heap.size := by
    obtain ⟨m, hm⟩ := k3
    exact DataW.trod_lt m _ _ _ hm
  have k4 := h4
  have lt4 : ∀ x ∈ p4, x.block < W.heap.size := by
    obtain ⟨m, hm⟩ := k4
    exact DataW.trod_lt m _ _ _ hm
  have k5 := h5
  have lt5 : ∀ x ∈ p5, x.block < W.heap.size := by
    obtain ⟨m, hm⟩ := k5
    exact DataW.trod_lt m _ _ _ hm
  have k6 := h6
  have lt6 : ∀ x ∈ p6, x.block < W.heap.size := by
    obtain ⟨m, hm⟩ := k6
    exact DataW.trod_lt m _ _ _ hm
  have k7 := h7
  have lt7 : ∀ x ∈ p7, x.block < W.heap.size := by
    obtain ⟨m, hm⟩ := k7
    exact DataW.trod_lt m _ _ _ hm
  have k8 := h8
  have lt8 : ∀ x ∈ p8, x.block < W.heap.size := by
    obtain ⟨m, hm⟩ := k8
    exact DataW.trod_lt m _ _ _ hm
  obtain ⟨a0, b0, c0, d0, e0, rfl, y0, z0, t0, w0⟩ := open_rings (hval 0 24 v0 rfl rfl) h0
  obtain ⟨a1, rfl, rfl, rfl, w1⟩ := open_int Try.underlying3 (hval 1 3 v1 rfl rfl) h1
  obtain ⟨a2, rfl, rfl, rfl, w2⟩ := open_int Try.underlying3 (hval 2 3 v2 rfl rfl) h2
  obtain ⟨a3, rfl, rfl, rfl⟩ := open_bool Try.underlying4 (hval 3 4 v3 rfl rfl) h3
  obtain ⟨a4, rfl, rfl, rfl, w4⟩ := open_int Try.underlying3 (hval 4 3 v4 rfl rfl) h4
  obtain ⟨a5, rfl, rfl, rfl, w5⟩ := open_int Try.underlying22 (hval 5 22 v5 rfl rfl) h5
  obtain ⟨a6, rfl, rfl, rfl, w6⟩ := open_int Try.underlying22 (hval 6 22 v6 rfl rfl) h6
  obtain ⟨a7, rfl, rfl, rfl, w7⟩ := open_int Try.underlying22 (hval 7 22 v7 rfl rfl) h7
  obtain ⟨l8, hv8, hb8, hm8⟩ := open_regs (hval 8 35 v8 rfl rfl) h8
  clear hA0 hval0
  refine (walk W a0 b0 c0 d0 e0 a1 a2 a3 a4 a5 a6 a7 v8 l8 hv8 hb8 hm8 w1 w2 w4 w5 w6 w7 y0 z0 t0 w0).mono fun e W' ⟨he, bel⟩ => ?_
  subst he
  exact ⟨_, rfl, _, _, _, [], _, [], hW', trodAll_mk1 (shut_bool Try.underlying4 _), (trodAll_cons_mk (Below.trod laidOut (by kernel_rfl) (of_decide_eq_true (by kernel_rfl)) k0 bel lt0) (trodAll_cons_mk (Below.trod laidOut (by kernel_rfl) (of_decide_eq_true (by kernel_rfl)) k1 bel lt1) (trodAll_cons_mk (Below.trod laidOut (by kernel_rfl) (of_decide_eq_true (by kernel_rfl)) k2 bel lt2) (trodAll_cons_mk (Below.trod laidOut (by kernel_rfl) (of_decide_eq_true (by kernel_rfl)) k3 bel lt3) (trodAll_cons_mk (Below.trod laidOut (by kernel_rfl) (of_decide_eq_true (by kernel_rfl)) k4 bel lt4) (trodAll_cons_mk (Below.trod laidOut (by kernel_rfl) (of_decide_eq_true (by kernel_rfl)) k5 bel lt5) (trodAll_cons_mk (Below.trod laidOut (by kernel_rfl) (of_decide_eq_true (by kernel_rfl)) k6 bel lt6) (trodAll_cons_mk (Below.trod laidOut (by kernel_rfl) (of_decide_eq_true (by kernel_rfl)) k7 bel lt7) (trodAll_cons_mk (Below.trod laidOut (by kernel_rfl) (of_decide_eq_true (by kernel_rfl)) k8 bel lt8) trodAll_mk0))))))))), rfl, bel.frame _, fun h => by cases h⟩

theorem over : Rows.layoutCallsRow.holds Try.pinned (OpenSpec.ofChange Rows.layoutCallsSpec) :=
  OpenClaim.holds_of_wide 4 Try.f4 rfl rfl rfl rfl rfl rfl rfl ⟨rfl, rfl, rfl, rfl, rfl⟩ rfl rfl rfl rfl rfl (by kernel_rfl) Try.func4 (by kernel_rfl)
    (of_decide_eq_true (by kernel_rfl)) (by unfold Func.isWrapper; first | (rw [if_pos (by decide +kernel)]; kernel_rfl) | (rw [if_neg (by decide +kernel)]; exact ⟨rfl, rfl⟩))
    (fun os started H enc _ => lifted os started H enc)

/-- THE STATEMENT -/
theorem layoutCalls_holds : Rows.LayoutCallsSaid := over
#print axioms layoutCalls_holds
end Go.Proofs.Ytolflhnkdnjckaa.layoutCalls
