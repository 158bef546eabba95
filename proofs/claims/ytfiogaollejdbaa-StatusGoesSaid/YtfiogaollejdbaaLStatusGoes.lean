/-
  PROVED: dumbwaiterlaw07.StatusGoes returns true for any kind, any offer and any acts, and what was in memory stays as it was. Conditions: none.
-/
import Derived.Test.YtfiogaollejdbaaRows
import Derived.Test.YtfiogaollejdbaaStl
import Derived.Test.YtfiogaollejdbaaSt3
import Derived.Test.YtfiogaollejdbaaFr3
import Derived.Test.YtfiogaollejdbaaFr4
import Derived.WalkKit
import Derived.ProofKit
import Derived.OpenShut
import Derived.ShutString
import Derived.ChangeOld
import Derived.Below
import Derived.Carry
import Derived.Lib.SmallJoins
import Derived.Deep.LoopGhost
import Derived.Deep.DeepCutAuto
import Derived.Deep.RegionHeld3
namespace Go.Proofs.Ytfiogaollejdbaa.statusGoes
open Go.ChangeShapes Go.WideShapes Go.ChangeAt Go.RowKit
set_option linter.unusedVariables false


set_option maxRecDepth 100000 in
set_option maxHeartbeats 1000000 in
theorem walk_long (w : World) (k0 : Int) (o0 : Nat) (va : Option Addr) (n vc : Nat) (h : 60 < n) :
    Calls Try.prog 4 #[.int .i64 k0, .int .u64 o0, .slice va n vc] w fun e w' => e = .returned (.bool true) ∧ Below w.heap.size w w' := by
  have HL := hid_mk lives7_any
  have hi : (60 : Int) < (n : Int) := by omega
  clear h
  go_enter Try.func4, Try.ntmps4
  go_wp2_with fail
  refine (HL.out _).mono ?_
  rintro e w1 ⟨rfl, hb1⟩
  go_wp2_with fail
  go_ret
  exact ⟨rfl, hb1⟩

set_option maxRecDepth 100000 in
set_option maxHeartbeats 4000000 in
theorem walk_main (w : World) (k0 : Int) (o0 : Nat) (ho0 : o0 < N64) (va : Option Addr) (vc : Nat) (A : List Act7) (hv : Acts7At w (.slice va A.length vc) A) (hu : ∀ j, j < A.length → isAct7 (act7 A j)) (h60 : A.length ≤ 60) :
    Calls Try.prog 4 #[.int .i64 k0, .int .u64 o0, .slice va A.length vc] w fun e w' => e = .returned (.bool true) ∧ Below w.heap.size w w' := by
  have HL := hid_mk lives7_any
  have HV := hid_mk hv
  have HU := hid_mk hu
  have H60 := hid_mk h60
  have hi : decide ((60 : Int) < (A.length : Int)) = false := decide_eq_false (by omega)
  have HP0 := hid_mk (fun u => pick_any k0 3 u (by omega) (by omega))
  obtain ⟨r, hr⟩ : ∃ r, r = k0 % 3 := ⟨_, rfl⟩
  rw [← hr] at HP0
  have hr0 : 0 ≤ r := by omega
  have hr3 : r < 3 := by omega
  have hw : IntKind.i64.wrap (1 + r) = 1 + r := IntWalk.i64_in _ (by omega)
  obtain ⟨K, hKr⟩ : ∃ K, K = 1 + r := ⟨_, rfl⟩
  have hK : K = 1 ∨ K = 2 ∨ K = 3 := by omega
  rw [← hKr] at hw
  have HKr := hid_mk hKr
  have HA := hid_mk (rall K)
  have HO1 := hid_mk (u64_and_nat o0 (allF K) ho0 (allF_lt K))
  have HO2 := hid_mk (u64_or_nat (o0 &&& allF K) (2 ^ 32) (and_lt _ ho0) (by decide))
  rw [show ((2 ^ 32 : Nat) : Int) = 4294967296 by decide] at HO2
  have hO : (o0 &&& allF K) ||| 2 ^ 32 < N64 := or_lt (and_lt _ ho0) (by decide)
  have hN : newB K ((o0 &&& allF K) ||| 2 ^ 32) = true := by
    unfold newB
    rw [Bool.and_eq_true, knownF_iff hO]
    refine ⟨⟨hK, fun i hi => ?_⟩, ?_⟩
    · rw [Nat.testBit_or, Nat.testBit_and, one_bit, Bool.or_eq_true, Bool.and_eq_true, decide_eq_true_eq] at hi
      rcases hi with hi | hi
      · exact hi.2
      · rw [← hi]
        exact allF_32 hK
    · rw [Nat.testBit_or, one_bit]
      simp
  generalize hOO : (o0 &&& allF K) ||| 2 ^ 32 = O at *
  clear hOO
  have HN := hid_mk (fun u => snew K O hO u)
  rw [show newD K O = ⟨K, O, 0, 0⟩ by unfold newD; rw [if_pos hN], show newE K O = 0 by unfold newE; rw [if_pos hN]] at HN
  have h00 : chkB ⟨K, O, 0, 0⟩ = true := by
    unfold chkB
    rw [hN, Bool.true_and]
    show stB (accD ⟨K, O, 0, 0⟩) true 0 = true
    generalize accD _ = a
    revert a
    decide
  have HCk := hid_mk (fun (g s : Nat) (h : chkB ⟨K, O, g, s⟩ = true) (hs : s < 256) (hg : g < N64) (u : World) => scheck ⟨K, O, g, s⟩ ⟨hO, hg, hs⟩ u)
  have HBr := hid_mk (fun (g s : Nat) (hs : s < 256) (hg : g < N64) (u : World) => sbreak ⟨K, O, g, s⟩ ⟨hO, hg, hs⟩ u)
  have HAs := hid_mk (fun (g s x : Nat) (hs : s < 256) (hg : g < N64) (hx : x < N64) (u : World) => sask ⟨K, O, g, s⟩ x ⟨hO, hg, hs⟩ hx u)
  have HWr := hid_mk (fun (g s b : Nat) (hs : s < 256) (hg : g < N64) (hb : b < 256) (u : World) => swrite ⟨K, O, g, s⟩ b ⟨hO, hg, hs⟩ hb u)
  have HRu := hid_mk (fun (g s : Nat) (hs : s < 256) (hg : g < N64) (u : World) => sruns ⟨K, O, g, s⟩ ⟨hO, hg, hs⟩ u)
  have HAc := hid_mk (fun (g : Nat) (hg : g < N64) (u : World) => raccept K O g hO hg u)
  have H00 := hid_mk h00
  have HOl := hid_mk hO
  have HNb := hid_mk hN
  unfold dvV at HN HCk HBr HAs HWr HRu
  simp only at HN HCk HBr HAs HWr HRu
  clear hv hu h60 hKr hr hK hO hN h00 ho0
  go_enter Try.func4, Try.ntmps4
  go_wp2_with fail
  refine (HL.out _).mono ?_
  rintro e w1 ⟨rfl, hb1⟩
  have B1 := hid_mk hb1
  clear hb1
  go_wp2_with fail
  refine (HP0.out _).mono ?_
  rintro e u ⟨rfl, rfl⟩
  go_wp2_with fail
  rw [← HKr.out]
  try rw [hw]
  refine (HA.out _).mono ?_
  rintro e w2 ⟨rfl, hb2⟩
  have B2 := hid_mk (below_two B1.out hb2)
  clear hb2
  go_wp2_with fail
  rw [HO1.out, HO2.out]
  refine (HN.out _).mono ?_
  rintro e w3 ⟨rfl, hb3⟩
  have B3 := hid_mk (below_two (below_two B2.out hb3) (below_box w3 (.cells #[.int .i64 K, .int .u64 O, .int .u64 0, .int .u8 0] 24)))
  have LD := hid_mk (show w.heap.size ≤ w3.heap.size from (below_two B2.out hb3).size)
  have Xd := hid_mk (box_new w3 K O 0 0 _ rfl)
  clear hb3 B1 B2
  go_wp2_with fail
  generalize w3.alloc (.cells #[.int .i64 K, .int .u64 O, .int .u64 0, .int .u8 0] 24) = w4 at *
  generalize w3.heap.size = db at *
  go_loopg [9] A.length (fun gk i wr => ∃ (n g s : Nat), n ≤ A.length ∧ i = .int .i64 n ∧ A.length - n ≤ gk ∧ Hid (chkB ⟨K, O, g, s⟩ = true ∧ s < 256 ∧ g < N64) ∧ Hid (Below w.heap.size w wr ∧ BoxAt wr db K O g s))
  case atStart => exact ⟨0, 0, 0, by omega, rfl, by omega, hid_mk ⟨H00.out, by decide, by simp only [N64]; decide⟩, hid_mk ⟨B3.out, Xd.out⟩⟩
  case round =>
    clear B3 Xd H00
    obtain ⟨n, g, s, hn, rfl, hgk, hv1, hS⟩ := hrel
    by_cases hlt : n < A.length
    · obtain ⟨b, o, rfl, hbw, hcells⟩ : ∃ b o, va = some ⟨b, o, none⟩ ∧ b < w.heap.size ∧ (∀ j, j < A.length → (w.cell? ⟨b, o + j * 4, none⟩ = some (.int .i64 (act7 A j).kind) ∧ w.cell? ⟨b, o + j * 4 + 1, none⟩ = some (.int .u8 (act7 A j).w) ∧ w.cell? ⟨b, o + j * 4 + 2, none⟩ = some (.int .u64 (act7 A j).x) ∧ w.cell? ⟨b, o + j * 4 + 3, none⟩ = some (.bool (act7 A j).n))) := by
        rcases HV.out with ⟨_, rfl⟩ | ⟨b, o, c, h1, h2, _, h3⟩
        · simp at hlt
        · cases h1
          exact ⟨b, o, rfl, h2, h3⟩
      obtain ⟨a0, a1, a2, a3⟩ := hcells n hlt
      have hax := HU.out n hlt
      generalize act7 A n = x at *
      have hB := hS.out.1
      have a0' := (hB.cell (p := ⟨b, o + n * 4, none⟩) hbw).trans a0
      have a1' := (hB.cell (p := ⟨b, o + n * 4 + 1, none⟩) hbw).trans a1
      have a2' := (hB.cell (p := ⟨b, o + n * 4 + 2, none⟩) hbw).trans a2
      have a3' := (hB.cell (p := ⟨b, o + n * 4 + 3, none⟩) hbw).trans a3
      have hbr : b < wr.heap.size := Nat.lt_of_lt_of_le hbw hB.size
      have hlti : (n : Int) < (A.length : Int) := by omega
      have HX := hid_mk hax
      have HC := hid_mk hcells
      obtain ⟨d0, d1, d2, d3, d4⟩ := box_all hS.out.2
      have HR := hid_mk (rb_new (x := x) hB LD.out hS.out.2)
      clear a0 a1 a2 a3 hax hcells hB
      go_upto_if 54 with fail
      clear a0' a1' a2' a3' d0 d1 d2 d3 d4 hbr hS
      generalize ((wr.alloc (.cells #[.int .i64 x.kind, .int .u8 x.w, .int .u64 x.x, .bool x.n] 41)).alloc (.cells #[.int .i64 K, .int .u64 O, .int .u64 g, .int .u8 s] 24)) = w5 at *
      obtain ⟨wb, hwb⟩ : ∃ q, q = wr.heap.size + 1 := ⟨_, rfl⟩
      rw [← hwb] at HR ⊢
      clear hwb
      generalize wr.heap.size = ab at *
      obtain ⟨hck, hs, hg⟩ := hv1.out
      have HCK := hid_mk hck
      have HS := hid_mk hs
      have HG := hid_mk hg
      clear hck hs hg hv1
      go_cut [12, 13] (fun s12 s13 wx => ∃ s2 : Nat, Hid (chkB ⟨K, O, g, s2⟩ = true ∧ s2 < 256) ∧ Hid (RB w wx db ab wb K O g s2 g s2 x))
      case first =>
        as_aux_lemma =>
        cases hxn : x.n
        · go_wp2_with fail
          go_meet
          case rel => exact ⟨s, hid_mk ⟨HCK.out, HS.out⟩, HR⟩
        · have hbk := HBr.out g s HS.out HG.out
          by_cases hl : s.testBit 2 = true
          · have hok : brkD ⟨K, O, g, s⟩ = ⟨K, O, g, s ||| 64⟩ ∧ brkE ⟨K, O, g, s⟩ = 0 ∧ chkB ⟨K, O, g, s ||| 64⟩ = true := brk_ok HCK.out HS.out hl
            rw [hok.1, hok.2.1] at hbk
            have HBK := hid_mk hbk
            have HOK := hid_mk hok.2.2
            have hm := u8ne4 HS.out
            rw [hl] at hm
            have ho64 := u8or64 HS.out
            have HLT := hid_mk (or64_lt HS.out)
            clear hok hbk hl
            generalize s ||| 64 = t at *
            obtain ⟨d0, d1, d2, d3, d4⟩ := box_all HR.out.d
            go_wp2_with fail
            refine (HBK.out _).mono ?_
            rintro e u ⟨rfl, hb⟩
            clear d0 d1 d2 d3 d4
            have HR1 := hid_mk (HR.out.below hb)
            clear hb
            have hdw : db < wb := by
              have := HR1.out.da
              have := HR1.out.aw
              omega
            have hn1 : db ≠ wb := by omega
            have hn2 : wb ≠ db := by omega
            obtain ⟨d0, d1, d2, d3, d4⟩ := box_all HR1.out.d
            obtain ⟨f0, f1, f2, f3⟩ := box_free HR1.out.d
            obtain ⟨b0, b1, b2, b3, b4⟩ := box_all HR1.out.b
            obtain ⟨q0, q1, q2, q3⟩ := box_free HR1.out.b
            go_wp2_with fail
            go_meet
            case rel =>
              exact ⟨t, hid_mk ⟨HOK.out, HLT.out⟩, hid_mk (((HR1.out.setS _).putD _ _).below (below_box _ _))⟩
          · have hl2 : s.testBit 2 = false := by simpa using hl
            have e1 : brkD ⟨K, O, g, s⟩ = ⟨0, 0, 0, 0⟩ := by
              unfold brkD
              simp only
              rw [hl2, Bool.and_false]
              rfl
            have e2 : brkE ⟨K, O, g, s⟩ = 8 := by
              unfold brkE
              rw [if_pos HCK.out]
              simp only
              rw [hl2]
              rfl
            rw [e1, e2] at hbk
            have HBK := hid_mk hbk
            have hm := u8ne4 HS.out
            rw [hl2] at hm
            clear hbk hl hl2 e1 e2
            obtain ⟨d0, d1, d2, d3, d4⟩ := box_all HR.out.d
            go_wp2_with fail
            refine (HBK.out _).mono ?_
            rintro e u ⟨rfl, hb⟩
            clear d0 d1 d2 d3 d4
            have HR1 := hid_mk (HR.out.below hb)
            clear hb
            obtain ⟨d0, d1, d2, d3, d4⟩ := box_all HR1.out.d
            go_wp2_with fail
            go_meet
            case rel => exact ⟨s, hid_mk ⟨HCK.out, HS.out⟩, hid_mk (HR1.out.below (below_box u _))⟩
      case rest =>
      obtain ⟨s2, hv2, HR2⟩ := hcut
      clear HR HCK HS s
      have HP1 := hid_mk (fun u => pick_any x.kind 3 u (by omega) (by omega))
      obtain ⟨m, hm⟩ : ∃ m, m = x.kind % 3 := ⟨_, rfl⟩
      rw [← hm] at HP1
      clear hm
      obtain ⟨a0, a1, a2, a3, a4⟩ := act_all HR2.out.a
      obtain ⟨d0, d1, d2, d3, d4⟩ := box_all HR2.out.d
      obtain ⟨f0, f1, f2, f3⟩ := box_free HR2.out.d
      go_upto_if 78 with (go_at_call 16; refine (HP1.out _).mono ?_; rintro e w' ⟨rfl, rfl⟩)
      obtain ⟨ask, hask⟩ : ∃ ask : Bool, ask = (m == 2) := ⟨_, rfl⟩
      rw [← hask]
      clear hask HP1
      go_cut [14] (fun s14 wx => s14 = .bool ask ∧ ∃ g3 s3 : Nat, Hid (Post7 K O g s2 g3 s3 ask x.w) ∧ Hid (RB w wx db ab wb K O g3 s3 g s2 x))
      case first =>
        as_aux_lemma =>
        cases ask
        · by_cases hw0 : x.w = 0
          · have hz := wr_zero hv2.out.1
            have hwr := HWr.out g s2 0 hv2.out.2 HG.out (by decide)
            rw [hz.1] at hwr
            have HWR := hid_mk hwr
            have HZ := hid_mk hz.2
            rw [hw0] at a2
            clear hwr hz
            go_wp2_with fail
            refine (HWR.out _).mono ?_
            rintro e u ⟨rfl, hb⟩
            clear d0 d1 d2 d3 d4 a0 a1 a2 a3 a4 f0 f1 f2 f3
            have HR1 := hid_mk (HR2.out.below hb)
            clear hb
            obtain ⟨d0, d1, d2, d3, d4⟩ := box_all HR1.out.d
            obtain ⟨f0, f1, f2, f3⟩ := box_free HR1.out.d
            go_wp2_with fail
            go_meet
            case rel => exact ⟨rfl, 0, 0, hid_mk (Or.inl ⟨rfl, hw0, rfl, rfl, HZ.out⟩), hid_mk (HR1.out.putD _ _)⟩
          · obtain ⟨h1, h2⟩ := stepped_write hv2.out.1 hv2.out.2 HG.out HX.out.1 hw0
            have hwr := HWr.out g s2 x.w hv2.out.2 HG.out HX.out.1
            rw [h2] at hwr
            have HWR := hid_mk hwr
            have HST := hid_mk h1
            clear hwr h1 h2
            generalize wrS (acceptF K O g) s2 x.w = s3 at *
            go_wp2_with fail
            refine (HWR.out _).mono ?_
            rintro e u ⟨rfl, hb⟩
            clear d0 d1 d2 d3 d4 a0 a1 a2 a3 a4 f0 f1 f2 f3
            have HR1 := hid_mk (HR2.out.below hb)
            clear hb
            obtain ⟨d0, d1, d2, d3, d4⟩ := box_all HR1.out.d
            obtain ⟨f0, f1, f2, f3⟩ := box_free HR1.out.d
            go_wp2_with fail
            go_meet
            case rel => exact ⟨rfl, g, s3, hid_mk (Or.inr ⟨fun h => hw0 h.2, HST.out⟩), hid_mk (HR1.out.putD _ _)⟩
        · obtain ⟨h1, h2⟩ := stepped_ask hv2.out.1 hv2.out.2 HG.out HX.out.2 x.w
          have has := HAs.out g s2 x.x hv2.out.2 HG.out HX.out.2
          rw [h2] at has
          have HAS := hid_mk has
          have HST := hid_mk h1
          clear has h1 h2
          generalize (askD ⟨K, O, g, s2⟩ x.x).g = g3 at *
          go_wp2_with fail
          refine (HAS.out _).mono ?_
          rintro e u ⟨rfl, hb⟩
          clear d0 d1 d2 d3 d4 a0 a1 a2 a3 a4 f0 f1 f2 f3
          have HR1 := hid_mk (HR2.out.below hb)
          clear hb
          obtain ⟨d0, d1, d2, d3, d4⟩ := box_all HR1.out.d
          obtain ⟨f0, f1, f2, f3⟩ := box_free HR1.out.d
          go_wp2_with fail
          go_meet
          case rel => exact ⟨rfl, g3, s2, hid_mk (Or.inr ⟨(fun h => by cases h.1), HST.out⟩), hid_mk (HR1.out.putD _ _)⟩
      case rest =>
      obtain ⟨rfl, g3, s3, hpost, HR3⟩ := hcut
      clear HR2 a0 a1 a2 a3 a4 d0 d1 d2 d3 d4 f0 f1 f2 f3
      have hckn : chkB ⟨K, O, g3, s3⟩ = true ∧ s3 < 256 ∧ g3 < N64 := hpost.out.ok
      have HCK := hid_mk hckn
      have hk := hid_mk (HCk.out g3 s3 hckn.1 hckn.2.1 hckn.2.2)
      rw [show schE ⟨K, O, g3, s3⟩ = 0 by unfold schE; rw [if_pos hckn.1]] at hk
      clear hckn
      obtain ⟨d0, d1, d2, d3, d4⟩ := box_all HR3.out.d
      go_wp2_with fail
      refine (hk.out _).mono ?_
      rintro e u ⟨rfl, hb⟩
      clear d0 d1 d2 d3 d4 hk
      replace HR3 := hid_mk (HR3.out.below hb)
      clear hb
      obtain ⟨d0, d1, d2, d3, d4⟩ := box_all HR3.out.d
      obtain ⟨a0, a1, a2, a3, a4⟩ := act_all HR3.out.a
      obtain ⟨b0, b1, b2, b3, b4⟩ := box_all HR3.out.b
      rcases hpost.out with ⟨rfl, hw0, rfl, rfl, _⟩ | ⟨hno, hst⟩
      · -- a reset
        have hwz : ((x.w : Int) == 0) = true := by simp [hw0]
        clear hw0 hpost
        go_wp2_with fail
        go_roundg (A.length - (n + 1))
        case measure => omega
        case rel => exact ⟨n + 1, 0, 0, by omega, nextI n (by have := H60.out; omega), by omega, HCK, hid_mk ⟨HR3.out.bel, HR3.out.d⟩⟩
      · have HST := hid_mk hst
        have HNO := hid_mk hno
        clear hpost hst hno
        go_upto_region 28 with fail
        go_cut [108] (fun s108 wx => s108 = .bool false ∧ wx = u)
        case first =>
          cases ask
          · have hwz : ((x.w : Int) == 0) = false := by
              have := HNO.out
              simp at this
              simp
              omega
            go_wp2_with fail
            go_meet
            case rel => exact ⟨rfl, rfl⟩
          · go_wp2_with fail
            go_meet
            case rel => exact ⟨rfl, rfl⟩
        case rest =>
        obtain ⟨rfl, rfl⟩ := hcut
        go_upto_region 32 with fail
        go_cut [156] (fun s156 wx => s156 = .bool false ∧ wx = wc)
        case first =>
          have F1 := HST.out.lost
          cases ask
          · have F2 := HST.out.word rfl
            have F3 : ((g3 : Int) != (g : Int)) = false := by rw [HST.out.guest rfl]; simp
            go_wp2_with fail
            go_meet
            case rel => exact ⟨rfl, rfl⟩
          · have F2 := HST.out.come rfl
            go_wp2_with fail
            go_meet
            case rel => exact ⟨rfl, rfl⟩
        case rest =>
        obtain ⟨rfl, rfl⟩ := hcut
        have hsay := says HCK.out.1 HCK.out.2.1
        have HSAY := hid_mk hsay
        clear hsay
        go_upto_region 34 with fail
        go_cut [205] (fun s205 wx => s205 = .bool false ∧ Hid (RB w wx db ab wb K O g3 s3 g s2 x))
        case first =>
          as_aux_lemma =>
          have hac := hid_mk (HAc.out g3 HCK.out.2.2)
          have e1 := u8ne1 HCK.out.2.1
          have e2 := u8ne2 HCK.out.2.1
          have e4 := u8ne4 HCK.out.2.1
          have e8 := u8ne8 HCK.out.2.1
          have z1 := u8eq1 HCK.out.2.1
          have z8 := u8eq8 HCK.out.2.1
          have t8 := u8ne8 hv2.out.2
          obtain ⟨p1, p2, p3, _⟩ := HSAY.out
          have hfr := HST.out.free
          have hgq : ((g3 : Int) != (g : Int)) = false ∨ (((g3 : Int) != (g : Int)) = true ∧ s2.testBit 3 = false) := by
            by_cases h : g3 = g
            · left
              rw [h]
              simp
            · right
              refine ⟨?_, hfr h⟩
              simp
              omega
          have p4 : s3.testBit 3 = true → acceptF K O g3 = true := p1
          generalize acceptF K O g3 = ac at *
          clear hfr p1
          generalize s3.testBit 3 = b3' at *
          generalize s3.testBit 2 = b2' at *
          generalize s3.testBit 1 = b1' at *
          generalize s3.testBit 0 = b0' at *
          rcases hgq with hgq | ⟨hgq, h8⟩
          · clear t8
            have P := And.intro p4 (And.intro p2 p3)
            clear p4 p2 p3
            cases b3' <;> cases b2' <;> cases b1' <;> simp at P <;> first | (exfalso; exact P) | skip
            all_goals first | (obtain ⟨P1, P2⟩ := P; subst P1 P2) | subst P | skip
            all_goals (try simp only [Bool.not_true, Bool.not_false] at z1 z8)
            all_goals go_wp2_with fail
            all_goals first
              | (go_meet; exact ⟨rfl, HR3⟩)
              | (refine (hac.out _).mono ?_; rintro e u ⟨rfl, hb⟩; clear d0 d1 d2 d3 d4; have HRv := hid_mk (HR3.out.below hb); obtain ⟨d0, d1, d2, d3, d4⟩ := box_all HRv.out.d; clear hb; go_wp2_with fail; go_meet; exact ⟨rfl, HRv⟩)
          · rw [h8] at t8
            have P := And.intro p4 (And.intro p2 p3)
            clear p4 p2 p3
            cases b3' <;> cases b2' <;> cases b1' <;> simp at P <;> first | (exfalso; exact P) | skip
            all_goals first | (obtain ⟨P1, P2⟩ := P; subst P1 P2) | subst P | skip
            all_goals (try simp only [Bool.not_true, Bool.not_false] at z1 z8)
            all_goals go_wp2_with fail
            all_goals first
              | (go_meet; exact ⟨rfl, HR3⟩)
              | (refine (hac.out _).mono ?_; rintro e u ⟨rfl, hb⟩; clear d0 d1 d2 d3 d4; have HRv := hid_mk (HR3.out.below hb); obtain ⟨d0, d1, d2, d3, d4⟩ := box_all HRv.out.d; clear hb; go_wp2_with fail; go_meet; exact ⟨rfl, HRv⟩)
        case rest =>
        obtain ⟨rfl, HR4⟩ := hcut
        clear HR3 a0 a1 a2 a3 a4 d0 d1 d2 d3 d4 b0 b1 b2 b3 b4
        have HRN := hid_mk (HRu.out g3 s3 HCK.out.2.1 HCK.out.2.2)
        rw [HSAY.out.2.2.2] at HRN
        have hrn := u8runs HCK.out.2.1
        generalize decide (s3 &&& 196 = 4) = rn at *
        have hne : (rn != rn) = false := by simp
        obtain ⟨d0, d1, d2, d3, d4⟩ := box_all HR4.out.d
        have HB4 := hid_mk (Below.refl wc.heap.size wc)
        go_upto_region 36 with fail
        go_cut [212] (fun s212 wx => s212 = .bool false ∧ Hid (Below wc.heap.size wc wx))
        case first =>
          go_region_held3 (fun w' => Below wc.heap.size wc w' ∧ db < w'.heap.size ∧ w'.cell? ⟨db, 0, none⟩ = some (.int .i64 K) ∧ w'.cell? ⟨db, 1, none⟩ = some (.int .u64 O) ∧ w'.cell? ⟨db, 2, none⟩ = some (.int .u64 g3) ∧ w'.cell? ⟨db, 3, none⟩ = some (.int .u8 s3))
            (first | exact ⟨(Below.refl _ _).drew, d0, d1, d2, d3, d4⟩ | exact keep7 (by assumption) (by assumption) | assumption)
            (first | (go_at_call 12; refine (HRN.out _).mono ?_; rintro e w' ⟨rfl, hb⟩))
          have hh : Below wc.heap.size wc w' ∧ db < w'.heap.size ∧ w'.cell? ⟨db, 0, none⟩ = some (.int .i64 K) ∧ w'.cell? ⟨db, 1, none⟩ = some (.int .u64 O) ∧ w'.cell? ⟨db, 2, none⟩ = some (.int .u64 g3) ∧ w'.cell? ⟨db, 3, none⟩ = some (.int .u8 s3) := by assumption
          have HH := hid_mk hh.1
          clear hh
          go_wp2_with fail
          go_meet
          exact ⟨rfl, HH⟩
        case rest =>
        obtain ⟨rfl, HB5⟩ := hcut
        have HR5 := hid_mk (HR4.out.below HB5.out)
        go_wp2_with fail
        go_roundg (A.length - (n + 1))
        case measure => omega
        case rel => exact ⟨n + 1, g3, s3, by omega, nextI n (by have := H60.out; omega), by omega, HCK, hid_mk ⟨HR5.out.bel, HR5.out.d⟩⟩
    · as_aux_lemma =>
      obtain rfl : n = A.length := by omega
      have hB := hid_mk hS.out.1
      obtain ⟨i1, _, _, _, _, _, _, i8, i9, i10⟩ := init_ok 18446744073709551615 hv1.out.1 HOl.out
      have ht : bestF K O 18446744073709551615 < N64 := bestF_lt HOl.out
      obtain ⟨r1, r2⟩ := best_new 18446744073709551615 i10 HOl.out
      have hin := sinit ⟨K, O, g, s⟩ 18446744073709551615 ⟨HOl.out, hv1.out.2.2, hv1.out.2.1⟩ (by simp only [N64]; decide)
      rw [i1, show schE ⟨K, O, g, s⟩ = 0 by unfold schE; rw [if_pos hv1.out.1]] at hin
      have hbe := rbest K O 18446744073709551615 HOl.out (by simp only [N64]; decide)
      rw [r1, r2] at hbe
      have hfx := sfixed ⟨K, O, bestF K O 18446744073709551615, 15⟩ ⟨HOl.out, ht, by simp only; decide⟩
      have f1 : fixB ⟨K, O, bestF K O 18446744073709551615, 15⟩ = true := by
        unfold fixB
        rw [i8]
        show (true && (15 : Nat).testBit 3) = true
        decide
      rw [show fixG ⟨K, O, bestF K O 18446744073709551615, 15⟩ = bestF K O 18446744073709551615 by unfold fixG; rw [if_pos f1], f1] at hfx
      have hru := HRu.out (bestF K O 18446744073709551615) 15 (by decide) ht
      rw [(live_brk i8 i9).2.2.2.2.1] at hru
      have HIN := hid_mk hin
      have HBE := hid_mk hbe
      have HFX := hid_mk hfx
      have HRN := hid_mk hru
      obtain ⟨d0, d1, d2, d3, d4⟩ := box_all hS.out.2
      unfold dvV at HIN HFX
      simp only at HIN HFX
      clear i1 i8 i9 i10 r1 r2 hin hbe hfx hru f1 ht hv1 hS HCk HBr HAs HWr HRu HAc
      generalize bestF K O 18446744073709551615 = t at *
      go_wp2_with fail
      refine (HIN.out _).mono ?_
      rintro e u1 ⟨rfl, hb⟩
      have B1 := hid_mk (below_two hB.out hb)
      clear hb d0 d1 d2 d3 d4
      go_wp2_with fail
      refine (HBE.out _).mono ?_
      rintro e u2 ⟨rfl, hb⟩
      have X := hid_mk ((box_new u1 K O t 15 _ rfl).below hb)
      have B2 := hid_mk (below_two (below_two B1.out (below_box u1 _)) hb)
      clear hb
      obtain ⟨d0, d1, d2, d3, d4⟩ := box_all X.out
      go_wp2_with fail
      refine (HFX.out _).mono ?_
      rintro e u3 ⟨rfl, hb⟩
      clear d0 d1 d2 d3 d4
      replace X := hid_mk (X.out.below hb)
      have B3 := hid_mk (below_two B2.out hb)
      clear hb
      obtain ⟨d0, d1, d2, d3, d4⟩ := box_all X.out
      go_wp2_with fail
      refine (HRN.out _).mono ?_
      rintro e u4 ⟨rfl, hb⟩
      clear d0 d1 d2 d3 d4
      replace X := hid_mk (X.out.below hb)
      have B4 := hid_mk (below_two B3.out hb)
      clear hb
      obtain ⟨d0, d1, d2, d3, d4⟩ := box_all X.out
      go_wp2_with fail
      go_ret
      exact ⟨rfl, B4.out⟩

theorem walk (w : World) (k0 o0 : Int) (v : Value) (A : List Act7) (hv : Acts7At w v A) (hu : ∀ j, j < A.length → isAct7 (act7 A j)) (hm : A.length ≤ maxLen) (w0 : (Lit.int .i64 k0).wf = true) (w1 : (Lit.int .u64 o0).wf = true) :
    Calls Try.prog 4 #[.int .i64 k0, .int .u64 o0, v] w fun e w' => e = .returned (.bool true) ∧ Below w.heap.size w w' := by
  have h1 := bounds_u64 w1
  obtain ⟨n, rfl⟩ := Int.eq_ofNat_of_zero_le (show 0 ≤ o0 by omega)
  obtain ⟨va, vc, rfl⟩ := hv.len
  by_cases h : 60 < A.length
  · exact walk_long w k0 n va _ vc h
  · exact walk_main w k0 n (by simp only [N64]; omega) va vc A hv hu (by omega)

/-! ### the row's frame -/
theorem own : ownKnob Try.prog.godebug = none := by kernel_rfl
theorem laidOut : laidOutB Try.prog = true := by kernel_rfl

set_option maxRecDepth 100000 in
theorem lifted (os : Os) (started : os.Started) (H : Type) (enc : TypeId × Value → H) :
    ReturnsInHanded {} Try.checked os 4 .any (Rows.statusGoesSpec.pre6 enc Try.prog Try.f4 Rows.statusGoesRow.domain false) (Rows.statusGoesSpec.post enc Try.prog Try.f4 false true false false) := by
  refine returnsInHanded_of_change (C := Try.checked) own started (by kernel_rfl) Try.func4
    (ChangeSpec.witness6 (enc := enc) (C := Try.checked) false ⟨#[], #[.int .i64 0, .int .u64 0, .slice none 0 0], []⟩ 8 (by kernel_rfl) (by kernel_rfl) (by kernel_rfl) (by kernel_rfl)) ?_
  intro W base args ds gs before hval0 hW hcnd _
  have hval : ∀ (j : Nat) t v, Try.f4.params[j]? = some t → args[j]? = some v → Value.okWide Try.prog W .any base t v := hval0
  have hW' := hW
  obtain ⟨p, q, hA0, hV, rfl, hfz, hnd⟩ := hW
  have hA : DataW.TrodAll enc Try.prog W 0 (fun _ => true) true Try.f4.params.toList args.toList ds p := hA0
  rw [Try.params4] at hA hval
  obtain ⟨v0, vs0, d0, ds0, p0, q0, hargs, rfl, rfl, h0, r0⟩ := trodAll_cons hA
  obtain ⟨v1, vs1, d1, ds1, p1, q1, rfl, rfl, rfl, h1, r1⟩ := trodAll_cons r0
  obtain ⟨v2, vs2, d2, ds2, p2, q2, rfl, rfl, rfl, h2, r2⟩ := trodAll_cons r1
  obtain ⟨rfl, rfl, rfl⟩ := trodAll_nil r2
  obtain rfl : args = #[v0, v1, v2] := by cases args; simp_all
  obtain ⟨rfl, rfl⟩ := trodVars_none hV
  have k0 := h0
  have lt0 : ∀ x ∈ p0, x.block < W.heap.size := by
    obtain ⟨m, hm⟩ := k0
    exact DataW.trod_lt m _ _ _ hm
  have k1 := h1
  have lt1 : ∀ x ∈ p1, x.block < W.heap.size := by
    obtain ⟨m, hm⟩ := k1
    exact DataW.trod_lt m _ _ _ hm
  have k2 := h2
  have lt2 : ∀ x ∈ p2, x.block < W.heap.size := by
    obtain ⟨m, hm⟩ := k2
    exact DataW.trod_lt m _ _ _ hm
  obtain ⟨a0, rfl, rfl, rfl, w0⟩ := open_int Try.underlying3 (hval 0 3 v0 rfl rfl) h0
  obtain ⟨a1, rfl, rfl, rfl, w1⟩ := open_int Try.underlying22 (hval 1 22 v1 rfl rfl) h1
  obtain ⟨l2, hv2, hu2, hm2⟩ := open_acts7 (hval 2 37 v2 rfl rfl) h2
  clear hA0 hval0
  refine (walk W a0 a1 v2 l2 hv2 hu2 hm2 w0 w1).mono fun e W' ⟨he, bel⟩ => ?_
  subst he
  exact ⟨_, rfl, _, _, _, [], _, [], hW', trodAll_mk1 (shut_bool Try.underlying4 _), (trodAll_cons_mk (Below.trod laidOut (by kernel_rfl) (of_decide_eq_true (by kernel_rfl)) k0 bel lt0) (trodAll_cons_mk (Below.trod laidOut (by kernel_rfl) (of_decide_eq_true (by kernel_rfl)) k1 bel lt1) (trodAll_cons_mk (Below.trod laidOut (by kernel_rfl) (of_decide_eq_true (by kernel_rfl)) k2 bel lt2) trodAll_mk0))), rfl, bel.frame _, fun h => by cases h⟩

theorem over : Rows.statusGoesRow.holds Try.pinned (OpenSpec.ofChange Rows.statusGoesSpec) :=
  OpenClaim.holds_of_wide 4 Try.f4 rfl rfl rfl rfl rfl rfl rfl ⟨rfl, rfl, rfl, rfl, rfl⟩ rfl rfl rfl rfl rfl (by kernel_rfl) Try.func4 (by kernel_rfl)
    (of_decide_eq_true (by kernel_rfl)) (by unfold Func.isWrapper; first | (rw [if_pos (by decide +kernel)]; kernel_rfl) | (rw [if_neg (by decide +kernel)]; exact ⟨rfl, rfl⟩))
    (fun os started H enc _ => lifted os started H enc)

/-- THE STATEMENT -/
theorem statusGoes_holds : Rows.StatusGoesSaid := over
#print axioms statusGoes_holds
end Go.Proofs.Ytfiogaollejdbaa.statusGoes
