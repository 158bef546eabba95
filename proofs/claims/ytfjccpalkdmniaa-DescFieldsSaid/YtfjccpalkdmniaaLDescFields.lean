/-
  PROVED: dumbwaiterlaw03.DescFields returns true for any descriptor, packed one, byte, list and numbers, and what was in memory stays as it was. Conditions: none.
-/
import Derived.Test.YtfjccpalkdmniaaRows
import Derived.Test.YtfjccpalkdmniaaDsc6
import Derived.Test.YtfjccpalkdmniaaDsc14
import Derived.Test.YtfjccpalkdmniaaKit
import Derived.WalkKit
import Derived.ProofKit
import Derived.OpenShut
import Derived.ShutString
import Derived.ChangeOld
import Derived.Below
import Derived.Carry
import Derived.Lib.SmallJoins
import Derived.Deep.CutRange
import Derived.Deep.CutBlock
import Derived.BigRegion
namespace Go.Proofs.Ytfjccpalkdmniaa.descFields
open Go.ChangeShapes Go.WideShapes Go.ChangeAt Go.RowKit
set_option linter.unusedVariables false


set_option maxRecDepth 100000 in
set_option maxHeartbeats 2000000 in
theorem walk_long (w : World) (d p : Dsc) (a y c : Int) (va : Option Addr) (vc : Nat) (L : List Dsc) (h : 300 < L.length ∨ L.length ≤ 300 ∧ y = 0) :
    Calls Try.prog 8 #[dV d, dV p, .int .i64 a, .int .u8 y, .slice va L.length vc, .int .i64 c] w fun e w' => e = .returned (.bool true) ∧ Below w.heap.size w w' := by
  rcases h with h | ⟨h, rfl⟩
  · have hi : (300 : Int) < (L.length : Int) := by omega
    go_enter Try.func8, Try.ntmps8
    go_wp2_with fail
    refine (lives3_any _).mono ?_
    rintro e w1 ⟨rfl, hb1⟩
    have hb : Below w.heap.size w w1 := Below.trans (by repeat (first | exact Below.refl _ _ | (refine Below.alloc ?_ (by first | (simp; done) | (simp; omega)) _))) (hb1.mono (by simp only [sizeA]; omega))
    have HB := hid_mk hb
    clear hb hb1
    go_wp2_with fail
    go_ret
    exact ⟨rfl, HB.out⟩
  · have hi : (L.length : Int) ≤ 300 := by omega
    go_enter Try.func8, Try.ntmps8
    go_wp2_with fail
    refine (lives3_any _).mono ?_
    rintro e w1 ⟨rfl, hb1⟩
    have hb : Below w.heap.size w w1 := Below.trans (by repeat (first | exact Below.refl _ _ | (refine Below.alloc ?_ (by first | (simp; done) | (simp; omega)) _))) (hb1.mono (by simp only [sizeA]; omega))
    have HB := hid_mk hb
    clear hb hb1
    go_wp2_with fail
    go_ret
    exact ⟨rfl, HB.out⟩

theorem set_bytes {l : List Int} (hl : isBytes l) (k : Nat) (y : Int) (hy : 0 ≤ y ∧ y < 256) : isBytes (l.set k (bits .xor .u8 (l.getD k 0) y)) := fun z hz => by
  have hb := isBytes_at hl k
  rcases List.mem_or_eq_of_mem_set hz with h | h
  · exact hl z h
  · have hx : bits .xor .u8 (l.getD k 0) y = (((l.getD k 0).toNat ^^^ y.toNat : Nat) : Int) := u8_xor _ _ hb.1 hb.2 hy.1 hy.2
    have hxl : (l.getD k 0).toNat ^^^ y.toNat < 2 ^ 8 := Nat.xor_lt_two_pow (by have := hb.2; omega) (by have := hy.2; omega)
    rw [h, hx]
    omega
structure Box2 (w : World) (B : Nat) (d p : Dsc) : Prop where
  fd : at4 w B 0 d
  fp : at4 w (B + 1) 0 p
theorem Box2.below {w w' : World} {B : Nat} {d p : Dsc} {C : Nat} (h : Box2 w B d p) (hb : Below C w w') (hB : B + 2 ≤ C) : Box2 w' B d p := ⟨h.fd.below hb (by omega), h.fp.below hb (by omega)⟩

set_option maxRecDepth 100000 in
set_option maxHeartbeats 4000000 in
theorem walk_main (w : World) (d p : Dsc) (a y c : Int) (va : Option Addr) (vc : Nat) (L : List Dsc) (hv : DescsAt w (.slice va L.length vc) L) (hL : isDscs L) (h300 : L.length ≤ 300) (hd : isDsc d) (hp : isDsc p) (hy : 0 < y ∧ y < 256) :
    Calls Try.prog 8 #[dV d, dV p, .int .i64 a, .int .u8 y, .slice va L.length vc, .int .i64 c] w fun e w' => e = .returned (.bool true) ∧ Below w.heap.size w w' := by
  have hi2 : (L.length : Int) ≤ 300 := by omega
  have hy0 : (y == 0) = false := by simp; omega
  have HV := hid_mk hv
  have HD := hid_mk hd
  have HP := hid_mk hp
  have HL := hid_mk hL
  have H3 := hid_mk h300
  have HY := hid_mk hy
  have hk0 := Int.emod_nonneg a (show (16 : Int) ≠ 0 by omega)
  have hk1 := Int.emod_lt_of_pos a (show (0 : Int) < 16 by omega)
  obtain ⟨k, hk⟩ : ∃ k : Nat, a % 16 = k := ⟨(a % 16).toNat, by omega⟩
  have hk16 : k < 16 := by omega
  have HK := hid_mk (fun (u : World) => pick_at a 16 (k : Int) u (by omega) (by omega) hk)
  clear hv hd hp hL h300 hy hk0 hk1 hk
  go_enter Try.func8, Try.ntmps8
  go_wp2_with fail
  refine (lives3_any _).mono ?_
  rintro e w1 ⟨rfl, hb1⟩
  have hbel : Below w.heap.size w w1 := Below.trans (by repeat (first | exact Below.refl _ _ | (refine Below.alloc ?_ (by first | (simp; done) | (simp; omega)) _))) (hb1.mono (by simp only [sizeA]; omega))
  have hsz := hb1.size
  simp only [sizeA] at hsz
  have hbx : Box2 w1 w.heap.size d p := Box2.below (C := w.heap.size + 2) ⟨⟨by simp [go_sem], by simp [go_sem], by simp [go_sem], by simp [go_sem]⟩, ⟨by simp [go_sem], by simp [go_sem], by simp [go_sem], by simp [go_sem]⟩⟩ (hb1.mono (by simp only [sizeA]; omega)) (Nat.le_refl _)
  have B1 := hid_mk hbel
  have BX1 := hid_mk hbx
  have hz : w.heap.size + 2 ≤ w1.heap.size := by omega
  have Z1 := hid_mk hz
  clear hbel hbx hb1 hsz hz
  go_wp2_with fail
  refine (HK.out _).mono ?_
  rintro e w2 ⟨rfl, rfl⟩
  go_upto_region 6 with (fail)
  go_cut [13, 14] (fun s13 s14 wx => ∃ ba bp : Nat, s13 = .slice (some ⟨ba, 0, none⟩) 16 16 ∧ s14 = .slice (some ⟨bp, 0, none⟩) 16 16 ∧ ba ≠ bp ∧ w1.heap.size ≤ ba ∧ w1.heap.size ≤ bp ∧ Hid (Row wx ba 102 (dB d) ∧ Row wx bp 102 (dB p)) ∧ Hid (Below w1.heap.size w1 wx))
  case first =>
    obtain ⟨dc0, dc1, dc2, dc3⟩ := BX1.out.fd
    obtain ⟨pc0, pc1, pc2, pc3⟩ := BX1.out.fp
    have l0 : w.heap.size < w1.heap.size := by have := Z1.out; omega
    have l1 : w.heap.size + 1 < w1.heap.size := by have := Z1.out; omega
    have PX := hid_mk (show at4 w1.drew (w.heap.size + 1) 0 p from BX1.out.fp)
    go_region_with (first
      | (go_at_call 46; refine (bytes_ex d _ HD.out).mono ?_; rintro e wa ⟨ba, rfl, gba, hra, hba⟩; obtain ⟨qc0, qc1, qc2, qc3⟩ := PX.out.below hba l1)
      | (go_at_call 48; refine (pbytes_ex p _ HP.out).mono ?_; rintro e wb ⟨bp, rfl, gbp, hrp, hbp⟩))
    all_goals go_wp2_with fail
    all_goals go_meet
    all_goals exact ⟨ba, bp, rfl, rfl, by have := lt_blk hra; omega, gba, by have := hba.size; have h3 : w1.drew.heap.size = w1.heap.size := rfl; omega, hid_mk ⟨keepB hbp hra, hrp⟩, hid_mk (((Below.refl _ _).drew.trans hba).trans (hbp.mono hba.size))⟩
  case rest =>
    obtain ⟨ba, bp, rfl, rfl, hne, hba, hbp, HR, HB⟩ := hcut
    obtain ⟨u1, rfl⟩ : ∃ u1, u1 = wc := ⟨_, rfl⟩
    have c1 := cellB HR.out.1 k (by rw [dB_length]; exact hk16)
    have c2 := cellB HR.out.2 k (by rw [dB_length]; exact hk16)
    have f1 := frozenK HR.out.1 k
    have f2 := frozenK HR.out.2 k
    have hk0 : (0 : Int) ≤ (k : Int) := by omega
    have hk1 : (k : Int) < 16 := by omega
    have S1 := hid_mk (fun x => setB u1 ba k (dB d) x _ HR.out.1)
    go_upto_region 9 with (fail)
    go_cut [13] (fun s13 wy => s13 = .slice (some ⟨ba, 0, none⟩) 16 16 ∧ Hid (Row wy ba 102 ((dB d).set k (bits .xor .u8 ((dB d).getD k 0) y)) ∧ Row wy bp 102 ((dB p).set k (bits .xor .u8 ((dB p).getD k 0) y))) ∧ Hid (Below w1.heap.size w1 wy))
    case first =>
      generalize (dB d).getD k 0 = x1 at *
      generalize (dB p).getD k 0 = x2 at *
      go_region
      go_wp2_with fail
      go_meet
      have e1 := S1.out (bits .xor .u8 x1 y)
      have r2 : Row (u1.setRow ba (bv ((dB d).set k (bits .xor .u8 x1 y)))) bp 102 (dB p) := by
        rw [Row, setRow_other _ _ _ _ (Ne.symm hne)]
        exact HR.out.2
      have e2 := setB _ bp k (dB p) (bits .xor .u8 x2 y) _ r2
      refine ⟨rfl, hid_mk ⟨?_, ?_⟩, hid_mk ?_⟩
      · show ((u1.setCell _ _).setCell _ _).heap[ba]? = _
        rw [e1, e2, setRow_other _ _ _ _ hne]
        exact setRow_heap _ _ _ _ _ _ HR.out.1
      · show ((u1.setCell _ _).setCell _ _).heap[bp]? = _
        rw [e1, e2]
        exact setRow_heap _ _ _ _ _ _ r2
      · exact ((HB.out.setCell hba _).setCell hbp _).drew
    case rest =>
      obtain ⟨rfl, HR2, HB2⟩ := hcut
      obtain ⟨u2, rfl⟩ : ∃ u2, u2 = wc := ⟨_, rfl⟩
      clear c1 c2 f1 f2 S1 HR
      have hcl1 : ((dB d).set k (bits .xor .u8 ((dB d).getD k 0) y)).length = 16 := by rw [List.length_set, dB_length]
      have hcl2 : ((dB p).set k (bits .xor .u8 ((dB p).getD k 0) y)).length = 16 := by rw [List.length_set, dB_length]
      have hby1 := set_bytes (dB_bytes d) k y ⟨by have := HY.out.1; omega, HY.out.2⟩
      have hby2 := set_bytes (dB_bytes p) k y ⟨by have := HY.out.1; omega, HY.out.2⟩
      have RD := hid_mk (fun (u : World) (hr : Row u ba 102 ((dB d).set k (bits .xor .u8 ((dB d).getD k 0) y))) => by
        have h := readRow ba _ _ u hr hby1 hcl1
        rw [dR_upd HD.out k y hk16 ⟨by have := HY.out.1; omega, HY.out.2⟩] at h
        exact h)
      have RP := hid_mk (fun (u : World) (hr : Row u bp 102 ((dB p).set k (bits .xor .u8 ((dB p).getD k 0) y))) => by
        have h := preadRow bp _ _ u hr hby2 hcl2
        rw [dR_upd HP.out k y hk16 ⟨by have := HY.out.1; omega, HY.out.2⟩] at h
        exact h)
      clear hcl1 hcl2 hby1 hby2
      go_wp2_with fail
      refine (RD.out _ HR2.out.1).mono ?_
      rintro e u3 ⟨rfl, hb⟩
      have HB3 := hid_mk (HB2.out.trans (hb.mono HB2.out.size))
      have HRP := hid_mk (keepB hb HR2.out.2)
      clear hb
      go_wp2_with fail
      refine (RP.out _ (keepB ((Below.refl _ _).alloc (Nat.le_refl _) _) HRP.out)).mono ?_
      rintro e u4 ⟨rfl, hb⟩
      have hx4 : at4 u4 u3.heap.size 0 (upd d k y) := at4.below (B := u3.heap.size + 1) ⟨by simp [go_sem], by simp [go_sem], by simp [go_sem], by simp [go_sem]⟩ (hb.mono (by rw [sizeA]; exact Nat.le_refl _)) (by omega)
      have hxl : u3.heap.size < u4.heap.size := by have := hb.size; rw [sizeA] at this; omega
      have HB4 := hid_mk (HB3.out.trans ((((Below.refl _ _).alloc (Nat.le_refl _) _).trans (hb.mono (by rw [sizeA]; exact Nat.le_succ _))).mono HB3.out.size))
      obtain ⟨bx, hbx⟩ : ∃ bx, bx = u3.heap.size := ⟨_, rfl⟩
      rw [← hbx] at hx4 hxl ⊢
      have HX4 := hid_mk (And.intro hx4 hxl)
      clear hb hx4 hxl hbx
      obtain ⟨u5, hu5⟩ : ∃ u5, u5 = u4.alloc (.cells (dC (upd p k y)).toArray 60) := ⟨_, rfl⟩
      have hb45 : Below u4.heap.size u4 u5 := by rw [hu5]; exact (Below.refl _ _).alloc (Nat.le_refl _) _
      have hs45 : u5.heap.size = u4.heap.size + 1 := by rw [hu5, sizeA]
      have hy4 : at4 u5 u4.heap.size 0 (upd p k y) := by rw [hu5]; exact ⟨by simp [go_sem], by simp [go_sem], by simp [go_sem], by simp [go_sem]⟩
      have HX5 := hid_mk (And.intro (HX4.out.1.below hb45 HX4.out.2) (show bx < u5.heap.size by have := HX4.out.2; omega))
      have HY5 := hid_mk (And.intro hy4 (show u4.heap.size < u5.heap.size by omega))
      have HB5 := hid_mk (HB4.out.trans (hb45.mono HB4.out.size))
      have BX5 := hid_mk (BX1.out.below HB5.out Z1.out)
      have hz5 : w1.heap.size ≤ u5.heap.size := HB5.out.size
      clear hb45 hs45 hy4 HX4
      go_upto_region 12 with (fail)
      rw [← hu5]
      clear hu5
      go_cut [19, 20] (fun s19 s20 wx => ∃ bw bv : Nat, s19 = .pointer (some ⟨bw, 0, none⟩) ∧ s20 = .pointer (some ⟨bv, 0, none⟩) ∧ bw ≠ bv ∧ u5.heap.size ≤ bw ∧ u5.heap.size ≤ bv ∧ bw < wx.heap.size ∧ bv < wx.heap.size ∧ Hid ((at4 wx bw 0 d ∧ at4 wx bv 0 p) ∧ (∀ o, wx.frozen? ⟨bw, o, none⟩ = false) ∧ ∀ o, wx.frozen? ⟨bv, o, none⟩ = false) ∧ Hid (Below u5.heap.size u5 wx))
      case first =>
        obtain ⟨dc0, dc1, dc2, dc3⟩ := BX5.out.fd
        obtain ⟨pc0, pc1, pc2, pc3⟩ := BX5.out.fp
        have l0 : w.heap.size < u5.heap.size := by have := Z1.out; omega
        have l1 : w.heap.size + 1 < u5.heap.size := by have := Z1.out; omega
        go_region
        all_goals go_wp2_with fail
        all_goals go_meet
        all_goals refine ⟨_, _, rfl, rfl, by omega, by omega, by omega, by first | (simp; done) | (simp; omega), by first | (simp; done) | (simp; omega), hid_mk ⟨⟨⟨by simp [go_sem], by simp [go_sem], by simp [go_sem], by simp [go_sem]⟩, ⟨by simp [go_sem], by simp [go_sem], by simp [go_sem], by simp [go_sem]⟩⟩, fun o => by simp [go_sem], fun o => by simp [go_sem]⟩, hid_mk ?_⟩
        all_goals exact (((Below.refl _ _).alloc (Nat.le_refl _) _).alloc (by rw [sizeA]; omega) _).drew
      case rest =>
        obtain ⟨bw, bv_, rfl, rfl, hne2, hbw, hbv, hbw2, hbv2, HW6, HB6⟩ := hcut
        obtain ⟨u6, rfl⟩ : ∃ u6, u6 = wc := ⟨_, rfl⟩
        go_upto_block 0 with (fail)
        go_cut [19] (fun s19 wx => s19 = .pointer (some ⟨bw, 0, none⟩) ∧ Hid (at4 wx bw 0 (upd d k y) ∧ at4 wx bv_ 0 (upd p k y)) ∧ bw < wx.heap.size ∧ bv_ < wx.heap.size ∧ Hid (Below u5.heap.size u5 wx))
        case first =>
          obtain ⟨dc0, dc1, dc2, dc3⟩ := BX5.out.fd.below HB6.out (by have := Z1.out; omega)
          obtain ⟨pc0, pc1, pc2, pc3⟩ := BX5.out.fp.below HB6.out (by have := Z1.out; omega)
          obtain ⟨wc0, wc1, wc2, wc3⟩ := HW6.out.1.1
          obtain ⟨vc0, vc1, vc2, vc3⟩ := HW6.out.1.2
          have fw := HW6.out.2.1
          have fv := HW6.out.2.2
          have hyb := HY.out
          have l0 : w.heap.size ≠ bw := by have := Z1.out; omega
          have l1 : w.heap.size + 1 ≠ bw := by have := Z1.out; omega
          have l2 : w.heap.size ≠ bv_ := by have := Z1.out; omega
          have l3 : w.heap.size + 1 ≠ bv_ := by have := Z1.out; omega
          have wc0' : u6.cell? ⟨bw, 0, none⟩ = _ := wc0
          have vc0' : u6.cell? ⟨bv_, 0, none⟩ = _ := vc0
          have wc1' : u6.cell? ⟨bw, 1, none⟩ = _ := wc1
          have vc1' : u6.cell? ⟨bv_, 1, none⟩ = _ := vc1
          have wc2' : u6.cell? ⟨bw, 2, none⟩ = _ := wc2
          have vc2' : u6.cell? ⟨bv_, 2, none⟩ = _ := vc2
          have wc3' : u6.cell? ⟨bw, 3, none⟩ = _ := wc3
          have vc3' : u6.cell? ⟨bv_, 3, none⟩ = _ := vc3
          by_cases k8 : k < 8
          · have hjk : k < 8 := by omega
            have hd8 : decide ((k : Int) < 8) = true := by simp; omega
            have hki : (k : Int) < 8 := by omega
            have hkl : (0 : Int) ≤ (k : Int) := by omega
            have hu1 : upd d k y = { d with a := bits .xor .u64 d.a (pow2 (8 * k) * y) } := by simp [upd, k8]
            have hu2 : upd p k y = { p with a := bits .xor .u64 p.a (pow2 (8 * k) * y) } := by simp [upd, k8]
            have hsh := (byte_shl y k hjk (by omega) hyb.2).1
            rw [show min (8 * k) 64 = 8 * k from by omega] at hsh
            go_wp2_with fail
            go_region
            go_wp2_with fail
            go_meet
            rw [hu1, hu2]
            obtain ⟨E1, E2⟩ := set2 u6 bw bv_ 0 _ _ _ _ hne2 wc0' vc0'
            exact ⟨rfl, hid_mk ⟨⟨by rw [E1]; simp, by rw [E1]; simpa using wc1, by rw [E1]; simpa using wc2, by rw [E1]; simpa using wc3⟩, ⟨by rw [E2]; simp, by rw [E2]; simpa using vc1, by rw [E2]; simpa using vc2, by rw [E2]; simpa using vc3⟩⟩, by simpa using hbw2, by simpa using hbv2, hid_mk ((HB6.out.setCell hbw _).setCell hbv _).drew⟩
          · by_cases k12 : k < 12
            · have hjk : (k - 8) < 4 := by omega
              have hd8 : decide ((k : Int) < 8) = false := by simp; omega
              have hd12 : decide ((k : Int) < 12) = true := by simp; omega
              have hki : (k : Int) < 12 := by omega
              have hkl : (8 : Int) ≤ (k : Int) := by omega
              have hu1 : upd d k y = { d with l := bits .xor .u32 d.l (pow2 (8 * (k - 8)) * y) } := by simp [upd, k8, k12]
              have hu2 : upd p k y = { p with l := bits .xor .u32 p.l (pow2 (8 * (k - 8)) * y) } := by simp [upd, k8, k12]
              have hsh := byte_shl32 y (k - 8) hjk (by omega) hyb.2
              obtain ⟨j, hj⟩ : ∃ j, j = (k - 8) := ⟨_, rfl⟩
              rw [← hj] at hsh hu1 hu2 hjk
              have ej : 8 * (k : Int) - 64 = 8 * (j : Int) := by omega
              have hji : (j : Int) < 4 := by omega
              clear hj
              have hsm : y * 2 ^ (8 * j) % 4294967296 = pow2 (8 * j) * y := by rw [← IntKind.wrap_u32]; exact hsh
              go_wp2_with fail
              go_region
              go_wp2_with fail
              go_meet
              rw [hu1, hu2]
              obtain ⟨E1, E2⟩ := set2 u6 bw bv_ 1 _ _ _ _ hne2 wc1' vc1'
              exact ⟨rfl, hid_mk ⟨⟨by rw [E1]; simpa using wc0, by rw [E1]; simp, by rw [E1]; simpa using wc2, by rw [E1]; simpa using wc3⟩, ⟨by rw [E2]; simpa using vc0, by rw [E2]; simp, by rw [E2]; simpa using vc2, by rw [E2]; simpa using vc3⟩⟩, by simpa using hbw2, by simpa using hbv2, hid_mk ((HB6.out.setCell hbw _).setCell hbv _).drew⟩
            · by_cases k14 : k < 14
              · have hjk : (k - 12) < 2 := by omega
                have hd8 : decide ((k : Int) < 8) = false := by simp; omega
                have hd12 : decide ((k : Int) < 12) = false := by simp; omega
                have hd14 : decide ((k : Int) < 14) = true := by simp; omega
                have hki : (k : Int) < 14 := by omega
                have hkl : (12 : Int) ≤ (k : Int) := by omega
                have hu1 : upd d k y = { d with f := bits .xor .u16 d.f (pow2 (8 * (k - 12)) * y) } := by simp [upd, k8, k12, k14]
                have hu2 : upd p k y = { p with f := bits .xor .u16 p.f (pow2 (8 * (k - 12)) * y) } := by simp [upd, k8, k12, k14]
                have hsh := byte_shl16 y (k - 12) hjk (by omega) hyb.2
                obtain ⟨j, hj⟩ : ∃ j, j = (k - 12) := ⟨_, rfl⟩
                rw [← hj] at hsh hu1 hu2 hjk
                have ej : 8 * (k : Int) - 96 = 8 * (j : Int) := by omega
                have hji : (j : Int) < 2 := by omega
                clear hj
                go_wp2_with fail
                go_region
                go_wp2_with fail
                go_meet
                rw [hu1, hu2]
                obtain ⟨E1, E2⟩ := set2 u6 bw bv_ 2 _ _ _ _ hne2 wc2' vc2'
                exact ⟨rfl, hid_mk ⟨⟨by rw [E1]; simpa using wc0, by rw [E1]; simpa using wc1, by rw [E1]; simp, by rw [E1]; simpa using wc3⟩, ⟨by rw [E2]; simpa using vc0, by rw [E2]; simpa using vc1, by rw [E2]; simp, by rw [E2]; simpa using vc3⟩⟩, by simpa using hbw2, by simpa using hbv2, hid_mk ((HB6.out.setCell hbw _).setCell hbv _).drew⟩
              · have hjk : (k - 14) < 2 := by omega
                have hd8 : decide ((k : Int) < 8) = false := by simp; omega
                have hd12 : decide ((k : Int) < 12) = false := by simp; omega
                have hd14 : decide ((k : Int) < 14) = false := by simp; omega
                have hki : (k : Int) < 16 := by omega
                have hkl : (14 : Int) ≤ (k : Int) := by omega
                have hu1 : upd d k y = { d with n := bits .xor .u16 d.n (pow2 (8 * (k - 14)) * y) } := by simp [upd, k8, k12, k14]
                have hu2 : upd p k y = { p with n := bits .xor .u16 p.n (pow2 (8 * (k - 14)) * y) } := by simp [upd, k8, k12, k14]
                have hsh := byte_shl16 y (k - 14) hjk (by omega) hyb.2
                obtain ⟨j, hj⟩ : ∃ j, j = (k - 14) := ⟨_, rfl⟩
                rw [← hj] at hsh hu1 hu2 hjk
                have ej : 8 * (k : Int) - 112 = 8 * (j : Int) := by omega
                have hji : (j : Int) < 2 := by omega
                clear hj
                go_wp2_with fail
                go_region
                go_wp2_with fail
                go_meet
                rw [hu1, hu2]
                obtain ⟨E1, E2⟩ := set2 u6 bw bv_ 3 _ _ _ _ hne2 wc3' vc3'
                exact ⟨rfl, hid_mk ⟨⟨by rw [E1]; simpa using wc0, by rw [E1]; simpa using wc1, by rw [E1]; simpa using wc2, by rw [E1]; simp⟩, ⟨by rw [E2]; simpa using vc0, by rw [E2]; simpa using vc1, by rw [E2]; simpa using vc2, by rw [E2]; simp⟩⟩, by simpa using hbw2, by simpa using hbv2, hid_mk ((HB6.out.setCell hbw _).setCell hbv _).drew⟩
        case rest =>
          obtain ⟨rfl, HW7, hbw7, hbv7, HB7⟩ := hcut
          obtain ⟨u7, rfl⟩ : ∃ u7, u7 = wc := ⟨_, rfl⟩
          obtain ⟨q, hq, hql⟩ : ∃ q : Nat, c % ((L.length : Int) + 1) = q ∧ q ≤ L.length := by
            have g0 := Int.emod_nonneg c (show (L.length : Int) + 1 ≠ 0 by omega)
            have g1 := Int.emod_lt_of_pos c (show (0 : Int) < (L.length : Int) + 1 by omega)
            exact ⟨(c % ((L.length : Int) + 1)).toNat, by omega, by omega⟩
          go_wp2_with fail
          refine (pick_at c ((L.length : Int) + 1) (q : Int) _ (by omega) (by omega) hq).mono ?_
          rintro e u9 ⟨rfl, rfl⟩
          have hb17 : Below w1.heap.size w1 u7 := HB5.out.trans (HB7.out.mono HB5.out.size)
          have hvl7 := HV.out.below (B1.out.trans (hb17.mono B1.out.size))
          go_wp2_with fail
          refine (table_ex _ L _ hvl7 HL.out H3.out).mono ?_
          rintro e u8 ⟨bt, rfl, _, hrt, hb⟩
          have HT := hid_mk hrt
          have HB8 := hid_mk (hb17.trans (hb.mono hb17.size))
          have hvl8 := hvl7.below hb
          obtain ⟨v1, v2, hs1, hd1, hs2, hd2⟩ := slices hvl8 q hql H3.out
          have hi1 : isDscs (L.take q) := fun x hx => HL.out x (List.mem_of_mem_take hx)
          have hi2_ : isDscs (L.drop q) := fun x hx => HL.out x (List.mem_of_mem_drop hx)
          have hl1 : (L.take q).length ≤ 300 := by rw [List.length_take]; have := H3.out; omega
          have hl2 : (L.drop q).length ≤ 300 := by rw [List.length_drop]; have := H3.out; omega
          have hcat : strOfNums (tabB (L.take q)) ++ strOfNums (tabB (L.drop q)) = strOfNums (tabB L) := by rw [← strOf_append, ← tabB_append, List.take_append_drop]
          have qd : ∀ u, (binOp .eql 56 (dV (upd d k y)) (dV (upd d k y))).run Try.prog u = .ok (.bool true) u := fun u => by rw [eqD, sameD_self]
          have qp : ∀ u, (binOp .eql 60 (dV (upd p k y)) (dV (upd p k y))).run Try.prog u = .ok (.bool true) u := fun u => by rw [eqP, sameD_self]
          have hb58 : Below u5.heap.size u5 u8 := HB7.out.trans (hb.mono HB7.out.size)
          have hz8 := hb.size
          have lx := fun (u : World) (hu : Below u8.heap.size u8 u) => loadD ((HX5.out.1.below hb58 HX5.out.2).below hu (by have := HX5.out.2; have := hb58.size; omega))
          have ly := fun (u : World) (hu : Below u8.heap.size u8 u) => loadP ((HY5.out.1.below hb58 HY5.out.2).below hu (by have := HY5.out.2; have := hb58.size; omega))
          have lw := fun (u : World) (hu : Below u8.heap.size u8 u) => loadD ((HW7.out.1.below hb hbw7).below hu (by omega))
          have lv := fun (u : World) (hu : Below u8.heap.size u8 u) => loadP ((HW7.out.2.below hb hbv7).below hu (by omega))
          clear hrt hb hb17 hb58 hvl7 hvl8
          go_wp2_with fail
          refine wp_region_outl
            [(fun v _ => v = .int .i64 0),
            (fun v _ => v = .bool true),
            (fun v _ => v = .bool true),
            (fun v _ => v = .int .i64 0),
            (fun v _ => v = .bool true),
            (fun v _ => v = .bool true),
            (fun v _ => v = .bool true),
            (fun v _ => v = dV (upd d k y)),
            (fun v _ => v = dV (upd d k y)),
            (fun v _ => v = .bool true),
            (fun v _ => v = .bool true),
            (fun v _ => v = .bool true),
            (fun v _ => v = dV (upd p k y)),
            (fun v _ => v = dV (upd p k y)),
            (fun v _ => v = .bool true),
            (fun v _ => v = .bool true),
            (fun v _ => v = .bool true),
            (fun v _ => v = .slice (some ⟨bt, 0, none⟩) (16 * L.length) (16 * L.length)),
            (fun v _ => v = .string (strOfNums (tabB L))),
            (fun v _ => v = .slice va L.length vc),
            (fun v _ => v = .int .i64 (q : Int)),
            (fun v _ => v = v1),
            (rowP 5 (16 * (L.take q).length) (tabB (L.take q))),
            (fun v _ => v = .string (strOfNums (tabB (L.take q)))),
            (fun v _ => v = .slice va L.length vc),
            (fun v _ => v = .int .i64 (q : Int)),
            (fun v _ => v = v2),
            (rowP 5 (16 * (L.drop q).length) (tabB (L.drop q))),
            (fun v _ => v = .string (strOfNums (tabB (L.drop q)))),
            (fun v _ => v = .string (strOfNums (tabB (L.take q)) ++ strOfNums (tabB (L.drop q)))),
            (fun v _ => v = .bool true),
            (fun v _ => v = .bool true),
            (fun v _ => v = .bool true)]
            (fun u => Below u8.heap.size u8 u) (by kernel_rfl) (by kernel_rfl) ?_ (fun u u' hb h => h.trans (hb.mono h.size)) ((Below.refl _ _).drew) ?_ ?_
          · refine And.intro (up_eq _) ?_
            refine And.intro (up_eq _) ?_
            refine And.intro (up_eq _) ?_
            refine And.intro (up_eq _) ?_
            refine And.intro (up_eq _) ?_
            refine And.intro (up_eq _) ?_
            refine And.intro (up_eq _) ?_
            refine And.intro (up_eq _) ?_
            refine And.intro (up_eq _) ?_
            refine And.intro (up_eq _) ?_
            refine And.intro (up_eq _) ?_
            refine And.intro (up_eq _) ?_
            refine And.intro (up_eq _) ?_
            refine And.intro (up_eq _) ?_
            refine And.intro (up_eq _) ?_
            refine And.intro (up_eq _) ?_
            refine And.intro (up_eq _) ?_
            refine And.intro (up_eq _) ?_
            refine And.intro (up_eq _) ?_
            refine And.intro (up_eq _) ?_
            refine And.intro (up_eq _) ?_
            refine And.intro (up_eq _) ?_
            refine And.intro (up_rowP _ _ _) ?_
            refine And.intro (up_eq _) ?_
            refine And.intro (up_eq _) ?_
            refine And.intro (up_eq _) ?_
            refine And.intro (up_eq _) ?_
            refine And.intro (up_rowP _ _ _) ?_
            refine And.intro (up_eq _) ?_
            refine And.intro (up_eq _) ?_
            refine And.intro (up_eq _) ?_
            refine And.intro (up_eq _) ?_
            refine And.intro (up_eq _) ?_
            trivial
          · refine And.intro ?_ (And.intro ?_ (And.intro ?_ (And.intro ?_ (And.intro ?_ (And.intro ?_ (And.intro ?_ (And.intro ?_ (And.intro ?_ (And.intro ?_ (And.intro ?_ (And.intro ?_ (And.intro ?_ (And.intro ?_ (And.intro ?_ (And.intro ?_ (And.intro ?_ (And.intro ?_ (And.intro ?_ (And.intro ?_ (And.intro ?_ (And.intro ?_ (And.intro ?_ (And.intro ?_ (And.intro ?_ (And.intro ?_ (And.intro ?_ (And.intro ?_ (And.intro ?_ (And.intro ?_ (And.intro ?_ (And.intro ?_ (And.intro ?_ (True.intro)))))))))))))))))))))))))))))))))
            · refine ostep_val (.int .i64 0) (by kernel_rfl) (fun _ A1 W1 inv hall => ⟨wanted_none rfl, ?_, rfl⟩)
              have h16 : A1.eval (.tmp 16) = .int .i64 0 := (inv.base 16 (by kernel_rfl)).trans rfl
              simp only [execOp, h16, Sem.run_pure]
            · refine ostep_val (.bool true) (by kernel_rfl) (fun _ A1 W1 inv hall => ⟨wanted_none rfl, ?_, rfl⟩)
              have h178 : A1.eval (.tmp 178) = .int .i64 0 := inv.get hall 0 178 (by kernel_rfl) (by kernel_rfl)
              simp only [execOp, h178, eval_const]
              simp [eqGuard, go_sem]
            · refine ostep_val (.bool true) (by kernel_rfl) (fun _ A1 W1 inv hall => ⟨wanted_none rfl, ?_, rfl⟩)
              have h179 : A1.eval (.tmp 179) = .bool true := inv.get hall 1 179 (by kernel_rfl) (by kernel_rfl)
              simp only [execOp, h179, Sem.run_pure]
            · refine ostep_val (.int .i64 0) (by kernel_rfl) (fun _ A1 W1 inv hall => ⟨wanted_some (g := 2) (d := 180) (b := true) rfl (by kernel_rfl) (inv.get hall 2 180 (by kernel_rfl) (by kernel_rfl)), ?_, rfl⟩)
              have h18 : A1.eval (.tmp 18) = .int .i64 0 := (inv.base 18 (by kernel_rfl)).trans rfl
              simp only [execOp, h18, Sem.run_pure]
            · refine ostep_val (.bool true) (by kernel_rfl) (fun _ A1 W1 inv hall => ⟨wanted_some (g := 2) (d := 180) (b := true) rfl (by kernel_rfl) (inv.get hall 2 180 (by kernel_rfl) (by kernel_rfl)), ?_, rfl⟩)
              have h181 : A1.eval (.tmp 181) = .int .i64 0 := inv.get hall 3 181 (by kernel_rfl) (by kernel_rfl)
              simp only [execOp, h181, eval_const]
              simp [eqGuard, go_sem]
            · refine ostep_val (.bool true) (by kernel_rfl) (fun _ A1 W1 inv hall => ⟨wanted_none rfl, ?_, rfl⟩)
              have h180 : A1.eval (.tmp 180) = .bool true := inv.get hall 2 180 (by kernel_rfl) (by kernel_rfl)
              have h182 : A1.eval (.tmp 182) = .bool true := inv.get hall 4 182 (by kernel_rfl) (by kernel_rfl)
              simp only [execOp, h180, h182]
              simp [asBool]
            · refine ostep_val (.bool true) (by kernel_rfl) (fun _ A1 W1 inv hall => ⟨wanted_none rfl, ?_, rfl⟩)
              have h183 : A1.eval (.tmp 183) = .bool true := inv.get hall 5 183 (by kernel_rfl) (by kernel_rfl)
              simp only [execOp, h183, Sem.run_pure]
            · refine ostep_val (dV (upd d k y)) (by kernel_rfl) (fun _ A1 W1 inv hall => ⟨wanted_some (g := 6) (d := 184) (b := true) rfl (by kernel_rfl) (inv.get hall 6 184 (by kernel_rfl) (by kernel_rfl)), ?_, rfl⟩)
              have h15 : A1.eval (.tmp 15) = .pointer (some ⟨bx, 0, none⟩) := (inv.base 15 (by kernel_rfl)).trans rfl
              simp only [execOp, h15, Sem.run_bind, lx W1 inv.s, Result.andThen_ok, Sem.run_pure]
            · refine ostep_val (dV (upd d k y)) (by kernel_rfl) (fun _ A1 W1 inv hall => ⟨wanted_some (g := 6) (d := 184) (b := true) rfl (by kernel_rfl) (inv.get hall 6 184 (by kernel_rfl) (by kernel_rfl)), ?_, rfl⟩)
              have h19 : A1.eval (.tmp 19) = .pointer (some ⟨bw, 0, none⟩) := (inv.base 19 (by kernel_rfl)).trans rfl
              simp only [execOp, h19, Sem.run_bind, lw W1 inv.s, Result.andThen_ok, Sem.run_pure]
            · refine ostep_val (.bool true) (by kernel_rfl) (fun _ A1 W1 inv hall => ⟨wanted_some (g := 6) (d := 184) (b := true) rfl (by kernel_rfl) (inv.get hall 6 184 (by kernel_rfl) (by kernel_rfl)), ?_, rfl⟩)
              have h185 : A1.eval (.tmp 185) = dV (upd d k y) := inv.get hall 7 185 (by kernel_rfl) (by kernel_rfl)
              have h186 : A1.eval (.tmp 186) = dV (upd d k y) := inv.get hall 8 186 (by kernel_rfl) (by kernel_rfl)
              simp only [execOp, h185, h186, Sem.run_bind, run_eqGuard_agg W1 .eql _ _ _ _ _ guardD, qd W1, Result.andThen_ok, Sem.run_pure]
            · refine ostep_val (.bool true) (by kernel_rfl) (fun _ A1 W1 inv hall => ⟨wanted_none rfl, ?_, rfl⟩)
              have h184 : A1.eval (.tmp 184) = .bool true := inv.get hall 6 184 (by kernel_rfl) (by kernel_rfl)
              have h187 : A1.eval (.tmp 187) = .bool true := inv.get hall 9 187 (by kernel_rfl) (by kernel_rfl)
              simp only [execOp, h184, h187]
              simp [asBool]
            · refine ostep_val (.bool true) (by kernel_rfl) (fun _ A1 W1 inv hall => ⟨wanted_none rfl, ?_, rfl⟩)
              have h188 : A1.eval (.tmp 188) = .bool true := inv.get hall 10 188 (by kernel_rfl) (by kernel_rfl)
              simp only [execOp, h188, Sem.run_pure]
            · refine ostep_val (dV (upd p k y)) (by kernel_rfl) (fun _ A1 W1 inv hall => ⟨wanted_some (g := 11) (d := 189) (b := true) rfl (by kernel_rfl) (inv.get hall 11 189 (by kernel_rfl) (by kernel_rfl)), ?_, rfl⟩)
              have h17 : A1.eval (.tmp 17) = .pointer (some ⟨u4.heap.size, 0, none⟩) := (inv.base 17 (by kernel_rfl)).trans rfl
              simp only [execOp, h17, Sem.run_bind, ly W1 inv.s, Result.andThen_ok, Sem.run_pure]
            · refine ostep_val (dV (upd p k y)) (by kernel_rfl) (fun _ A1 W1 inv hall => ⟨wanted_some (g := 11) (d := 189) (b := true) rfl (by kernel_rfl) (inv.get hall 11 189 (by kernel_rfl) (by kernel_rfl)), ?_, rfl⟩)
              have h20 : A1.eval (.tmp 20) = .pointer (some ⟨bv_, 0, none⟩) := (inv.base 20 (by kernel_rfl)).trans rfl
              simp only [execOp, h20, Sem.run_bind, lv W1 inv.s, Result.andThen_ok, Sem.run_pure]
            · refine ostep_val (.bool true) (by kernel_rfl) (fun _ A1 W1 inv hall => ⟨wanted_some (g := 11) (d := 189) (b := true) rfl (by kernel_rfl) (inv.get hall 11 189 (by kernel_rfl) (by kernel_rfl)), ?_, rfl⟩)
              have h190 : A1.eval (.tmp 190) = dV (upd p k y) := inv.get hall 12 190 (by kernel_rfl) (by kernel_rfl)
              have h191 : A1.eval (.tmp 191) = dV (upd p k y) := inv.get hall 13 191 (by kernel_rfl) (by kernel_rfl)
              simp only [execOp, h190, h191, Sem.run_bind, run_eqGuard_agg W1 .eql _ _ _ _ _ guardP, qp W1, Result.andThen_ok, Sem.run_pure]
            · refine ostep_val (.bool true) (by kernel_rfl) (fun _ A1 W1 inv hall => ⟨wanted_none rfl, ?_, rfl⟩)
              have h189 : A1.eval (.tmp 189) = .bool true := inv.get hall 11 189 (by kernel_rfl) (by kernel_rfl)
              have h192 : A1.eval (.tmp 192) = .bool true := inv.get hall 14 192 (by kernel_rfl) (by kernel_rfl)
              simp only [execOp, h189, h192]
              simp [asBool]
            · refine ostep_val (.bool true) (by kernel_rfl) (fun _ A1 W1 inv hall => ⟨wanted_none rfl, ?_, rfl⟩)
              have h193 : A1.eval (.tmp 193) = .bool true := inv.get hall 15 193 (by kernel_rfl) (by kernel_rfl)
              simp only [execOp, h193, Sem.run_pure]
            · refine ostep_val (.slice (some ⟨bt, 0, none⟩) (16 * L.length) (16 * L.length)) (by kernel_rfl) (fun _ A1 W1 inv hall => ⟨wanted_some (g := 16) (d := 194) (b := true) rfl (by kernel_rfl) (inv.get hall 16 194 (by kernel_rfl) (by kernel_rfl)), ?_, rfl⟩)
              have h22 : A1.eval (.tmp 22) = .slice (some ⟨bt, 0, none⟩) (16 * L.length) (16 * L.length) := (inv.base 22 (by kernel_rfl)).trans rfl
              simp only [execOp, h22, Sem.run_pure]
            · refine ostep_val (.string (strOfNums (tabB L))) (by kernel_rfl) (fun _ A1 W1 inv hall => ⟨wanted_some (g := 16) (d := 194) (b := true) rfl (by kernel_rfl) (inv.get hall 16 194 (by kernel_rfl) (by kernel_rfl)), ?_, rfl⟩)
              have h195 : A1.eval (.tmp 195) = .slice (some ⟨bt, 0, none⟩) (16 * L.length) (16 * L.length) := inv.get hall 17 195 (by kernel_rfl) (by kernel_rfl)
              simp only [execOp, h195, Sem.run_bind, convRow (keepB inv.s HT.out) (tabB_length _), Result.andThen_ok, Sem.run_pure]
            · refine ostep_val (.slice va L.length vc) (by kernel_rfl) (fun _ A1 W1 inv hall => ⟨wanted_some (g := 16) (d := 194) (b := true) rfl (by kernel_rfl) (inv.get hall 16 194 (by kernel_rfl) (by kernel_rfl)), ?_, rfl⟩)
              have h4 : A1.eval (.tmp 4) = .slice va L.length vc := (inv.base 4 (by kernel_rfl)).trans rfl
              simp only [execOp, h4, Sem.run_pure]
            · refine ostep_val (.int .i64 (q : Int)) (by kernel_rfl) (fun _ A1 W1 inv hall => ⟨wanted_some (g := 16) (d := 194) (b := true) rfl (by kernel_rfl) (inv.get hall 16 194 (by kernel_rfl) (by kernel_rfl)), ?_, rfl⟩)
              have h21 : A1.eval (.tmp 21) = .int .i64 (q : Int) := (inv.base 21 (by kernel_rfl)).trans rfl
              simp only [execOp, h21, Sem.run_pure]
            · refine ostep_val (v1) (by kernel_rfl) (fun _ A1 W1 inv hall => ⟨wanted_some (g := 16) (d := 194) (b := true) rfl (by kernel_rfl) (inv.get hall 16 194 (by kernel_rfl) (by kernel_rfl)), ?_, rfl⟩)
              have h197 : A1.eval (.tmp 197) = .slice va L.length vc := inv.get hall 19 197 (by kernel_rfl) (by kernel_rfl)
              have h198 : A1.eval (.tmp 198) = .int .i64 (q : Int) := inv.get hall 20 198 (by kernel_rfl) (by kernel_rfl)
              simp only [execOp, h197, h198, Option.map_some, Option.map_none, Sem.run_bind, hs1 W1, Result.andThen_ok, Sem.run_pure]
            · refine ostep_call 54 (by kernel_rfl) _ _ (by kernel_rfl) rfl (fun _ A1 W1 inv hall => ⟨wanted_some (g := 16) (d := 194) (b := true) rfl (by kernel_rfl) (inv.get hall 16 194 (by kernel_rfl) (by kernel_rfl)), #[v1], ?_, ?_⟩)
              · have h199 : A1.eval (.tmp 199) = v1 := inv.get hall 21 199 (by kernel_rfl) (by kernel_rfl)
                simp [h199]
              · refine (table_ex _ (L.take q) _ (hd1.below inv.s) hi1 hl1).mono ?_
                rintro e u ⟨b0, rfl, _, hr, hb⟩
                exact ⟨_, rfl, ⟨b0, rfl, hr⟩, hb⟩
            · refine ostep_val (.string (strOfNums (tabB (L.take q)))) (by kernel_rfl) (fun _ A1 W1 inv hall => ⟨wanted_some (g := 16) (d := 194) (b := true) rfl (by kernel_rfl) (inv.get hall 16 194 (by kernel_rfl) (by kernel_rfl)), ?_, rfl⟩)
              have h200 : (rowP 5 (16 * (L.take q).length) (tabB (L.take q))) (A1.eval (.tmp 200)) W1 := inv.get hall 22 200 (by kernel_rfl) (by kernel_rfl)
              obtain ⟨b0, hv0, hr0⟩ := h200
              simp only [execOp, hv0, Sem.run_bind, convRow hr0 (tabB_length _), Result.andThen_ok, Sem.run_pure]
            · refine ostep_val (.slice va L.length vc) (by kernel_rfl) (fun _ A1 W1 inv hall => ⟨wanted_some (g := 16) (d := 194) (b := true) rfl (by kernel_rfl) (inv.get hall 16 194 (by kernel_rfl) (by kernel_rfl)), ?_, rfl⟩)
              have h4 : A1.eval (.tmp 4) = .slice va L.length vc := (inv.base 4 (by kernel_rfl)).trans rfl
              simp only [execOp, h4, Sem.run_pure]
            · refine ostep_val (.int .i64 (q : Int)) (by kernel_rfl) (fun _ A1 W1 inv hall => ⟨wanted_some (g := 16) (d := 194) (b := true) rfl (by kernel_rfl) (inv.get hall 16 194 (by kernel_rfl) (by kernel_rfl)), ?_, rfl⟩)
              have h21 : A1.eval (.tmp 21) = .int .i64 (q : Int) := (inv.base 21 (by kernel_rfl)).trans rfl
              simp only [execOp, h21, Sem.run_pure]
            · refine ostep_val (v2) (by kernel_rfl) (fun _ A1 W1 inv hall => ⟨wanted_some (g := 16) (d := 194) (b := true) rfl (by kernel_rfl) (inv.get hall 16 194 (by kernel_rfl) (by kernel_rfl)), ?_, rfl⟩)
              have h202 : A1.eval (.tmp 202) = .slice va L.length vc := inv.get hall 24 202 (by kernel_rfl) (by kernel_rfl)
              have h203 : A1.eval (.tmp 203) = .int .i64 (q : Int) := inv.get hall 25 203 (by kernel_rfl) (by kernel_rfl)
              simp only [execOp, h202, h203, Option.map_some, Option.map_none, Sem.run_bind, hs2 W1, Result.andThen_ok, Sem.run_pure]
            · refine ostep_call 54 (by kernel_rfl) _ _ (by kernel_rfl) rfl (fun _ A1 W1 inv hall => ⟨wanted_some (g := 16) (d := 194) (b := true) rfl (by kernel_rfl) (inv.get hall 16 194 (by kernel_rfl) (by kernel_rfl)), #[v2], ?_, ?_⟩)
              · have h204 : A1.eval (.tmp 204) = v2 := inv.get hall 26 204 (by kernel_rfl) (by kernel_rfl)
                simp [h204]
              · refine (table_ex _ (L.drop q) _ (hd2.below inv.s) hi2_ hl2).mono ?_
                rintro e u ⟨b0, rfl, _, hr, hb⟩
                exact ⟨_, rfl, ⟨b0, rfl, hr⟩, hb⟩
            · refine ostep_val (.string (strOfNums (tabB (L.drop q)))) (by kernel_rfl) (fun _ A1 W1 inv hall => ⟨wanted_some (g := 16) (d := 194) (b := true) rfl (by kernel_rfl) (inv.get hall 16 194 (by kernel_rfl) (by kernel_rfl)), ?_, rfl⟩)
              have h205 : (rowP 5 (16 * (L.drop q).length) (tabB (L.drop q))) (A1.eval (.tmp 205)) W1 := inv.get hall 27 205 (by kernel_rfl) (by kernel_rfl)
              obtain ⟨b0, hv0, hr0⟩ := h205
              simp only [execOp, hv0, Sem.run_bind, convRow hr0 (tabB_length _), Result.andThen_ok, Sem.run_pure]
            · refine ostep_val (.string (strOfNums (tabB (L.take q)) ++ strOfNums (tabB (L.drop q)))) (by kernel_rfl) (fun _ A1 W1 inv hall => ⟨wanted_some (g := 16) (d := 194) (b := true) rfl (by kernel_rfl) (inv.get hall 16 194 (by kernel_rfl) (by kernel_rfl)), ?_, rfl⟩)
              have h201 : A1.eval (.tmp 201) = .string (strOfNums (tabB (L.take q))) := inv.get hall 23 201 (by kernel_rfl) (by kernel_rfl)
              have h206 : A1.eval (.tmp 206) = .string (strOfNums (tabB (L.drop q))) := inv.get hall 28 206 (by kernel_rfl) (by kernel_rfl)
              simp only [execOp, h201, h206]
              simp [go_sem]
              rw [strOfNums_size, strOfNums_size, tabB_length, tabB_length]
              omega
            · refine ostep_val (.bool true) (by kernel_rfl) (fun _ A1 W1 inv hall => ⟨wanted_some (g := 16) (d := 194) (b := true) rfl (by kernel_rfl) (inv.get hall 16 194 (by kernel_rfl) (by kernel_rfl)), ?_, rfl⟩)
              have h196 : A1.eval (.tmp 196) = .string (strOfNums (tabB L)) := inv.get hall 18 196 (by kernel_rfl) (by kernel_rfl)
              have h207 : A1.eval (.tmp 207) = .string (strOfNums (tabB (L.take q)) ++ strOfNums (tabB (L.drop q))) := inv.get hall 29 207 (by kernel_rfl) (by kernel_rfl)
              simp only [execOp, h196, h207, hcat]
              simp [eqGuard, go_sem]
            · refine ostep_val (.bool true) (by kernel_rfl) (fun _ A1 W1 inv hall => ⟨wanted_none rfl, ?_, rfl⟩)
              have h194 : A1.eval (.tmp 194) = .bool true := inv.get hall 16 194 (by kernel_rfl) (by kernel_rfl)
              have h208 : A1.eval (.tmp 208) = .bool true := inv.get hall 30 208 (by kernel_rfl) (by kernel_rfl)
              simp only [execOp, h194, h208]
              simp [asBool]
            · refine ostep_val (.bool true) (by kernel_rfl) (fun _ A1 W1 inv hall => ⟨wanted_none rfl, ?_, rfl⟩)
              have h209 : A1.eval (.tmp 209) = .bool true := inv.get hall 31 209 (by kernel_rfl) (by kernel_rfl)
              simp only [execOp, h209, Sem.run_pure]
          · intro listed A1 W1 inv hall
            have hlast : A1.eval (.tmp 12) = .bool true := inv.fin 32 12 (by kernel_rfl) (hall 32 (Nat.lt_of_lt_of_eq (by decide : 32 < 33) (by kernel_rfl)))
            refine (by assumption : ∀ (a : Act) (w : World), Code.wp Try.prog Code.ret _ a w → _) A1 W1 ?_
            go_wp2_with fail
            simp only [Act.eval, Array.getD_eq_getD_getElem?] at hlast
            exact bodyPost_ret (v := .bool true) (by simp [results, Try.results8, go_sem, hlast]) inv.dfr ⟨rfl, (B1.out.trans (HB8.out.mono B1.out.size)).trans (inv.s.mono (Nat.le_trans B1.out.size HB8.out.size))⟩

theorem walk (w : World) (d p : Dsc) (a y : Int) (v : Value) (L : List Dsc) (hv : DescsAt w v L) (hL : isDscs L) (hm : L.length ≤ maxLen) (c : Int) (w2 : (Lit.int .i64 a).wf = true) (w3 : (Lit.int .u8 y).wf = true) (w5 : (Lit.int .i64 c).wf = true) (hd : isDsc d) (hp : isDsc p) :
    Calls Try.prog 8 #[dV d, dV p, .int .i64 a, .int .u8 y, v, .int .i64 c] w fun e w' => e = .returned (.bool true) ∧ Below w.heap.size w w' := by
  have hby := bounds_u8 w3
  obtain ⟨va, vc, rfl⟩ := hv.len
  by_cases h2 : L.length ≤ 300
  · by_cases h0 : y = 0
    · exact walk_long w d p a y c va vc L (Or.inr ⟨h2, h0⟩)
    · exact walk_main w d p a y c va vc L hv hL h2 hd hp (by omega)
  · exact walk_long w d p a y c va vc L (Or.inl (by omega))

/-! ### the row's frame -/
theorem own : ownKnob Try.prog.godebug = none := by kernel_rfl
theorem laidOut : laidOutB Try.prog = true := by kernel_rfl

set_option maxRecDepth 100000 in
theorem lifted (os : Os) (started : os.Started) (H : Type) (enc : TypeId × Value → H) :
    ReturnsInHanded {} Try.checked os 8 .any (Rows.descFieldsSpec.pre6 enc Try.prog Try.f8 Rows.descFieldsRow.domain false) (Rows.descFieldsSpec.post enc Try.prog Try.f8 false true false false) := by
  refine returnsInHanded_of_change (C := Try.checked) own started (by kernel_rfl) Try.func8
    (ChangeSpec.witness6 (enc := enc) (C := Try.checked) false ⟨#[], #[.agg #[.int .u64 0, .int .u32 0, .int .u16 0, .int .u16 0], .agg #[.int .u64 0, .int .u32 0, .int .u16 0, .int .u16 0], .int .i64 0, .int .u8 0, .slice none 0 0, .int .i64 0], []⟩ 8 (by kernel_rfl) (by kernel_rfl) (by kernel_rfl) (by kernel_rfl)) ?_
  intro W base args ds gs before hval0 hW hcnd _
  have hval : ∀ (j : Nat) t v, Try.f8.params[j]? = some t → args[j]? = some v → Value.okWide Try.prog W .any base t v := hval0
  have hW' := hW
  obtain ⟨p, q, hA0, hV, rfl, hfz, hnd⟩ := hW
  have hA : DataW.TrodAll enc Try.prog W 0 (fun _ => true) true Try.f8.params.toList args.toList ds p := hA0
  rw [Try.params8] at hA hval
  obtain ⟨v0, vs0, d0, ds0, p0, q0, hargs, rfl, rfl, h0, r0⟩ := trodAll_cons hA
  obtain ⟨v1, vs1, d1, ds1, p1, q1, rfl, rfl, rfl, h1, r1⟩ := trodAll_cons r0
  obtain ⟨v2, vs2, d2, ds2, p2, q2, rfl, rfl, rfl, h2, r2⟩ := trodAll_cons r1
  obtain ⟨v3, vs3, d3, ds3, p3, q3, rfl, rfl, rfl, h3, r3⟩ := trodAll_cons r2
  obtain ⟨v4, vs4, d4, ds4, p4, q4, rfl, rfl, rfl, h4, r4⟩ := trodAll_cons r3
  obtain ⟨v5, vs5, d5, ds5, p5, q5, rfl, rfl, rfl, h5, r5⟩ := trodAll_cons r4
  obtain ⟨rfl, rfl, rfl⟩ := trodAll_nil r5
  obtain rfl : args = #[v0, v1, v2, v3, v4, v5] := by cases args; simp_all
  obtain ⟨rfl, rfl⟩ := trodVars_none hV
  have k0 := h0
  have lt0 : ∀ x ∈ p0, x.block < W.heap.size := by
    obtain ⟨m, hm⟩ := k0
    exact DataW.trod_lt m _ _ _ hm
  have k1 := h1
  have lt1 : ∀ x ∈ p1, x.block < W.heap.size := by
    obtain ⟨m, hm⟩ := k1
    exact DataW.trod_lt m _ _ _ hm
  have k2 := h2
  have lt2 : ∀ x ∈ p2, x.block < W.heap.size := by
    obtain ⟨m, hm⟩ := k2
    exact DataW.trod_lt m _ _ _ hm
  have k3 := h3
  have lt3 : ∀ x ∈ p3, x.block < W.heap.size := by
    obtain ⟨m, hm⟩ := k3
    exact DataW.trod_lt m _ _ _ hm
  have k4 := h4
  have lt4 : ∀ x ∈ p4, x.block < W.heap.size := by
    obtain ⟨m, hm⟩ := k4
    exact DataW.trod_lt m _ _ _ hm
  have k5 := h5
  have lt5 : ∀ x ∈ p5, x.block < W.heap.size := by
    obtain ⟨m, hm⟩ := k5
    exact DataW.trod_lt m _ _ _ hm
  obtain ⟨a0, rfl, w0⟩ := open_dsc (hval 0 56 v0 rfl rfl) h0
  obtain ⟨a1, rfl, w1⟩ := open_pck (hval 1 60 v1 rfl rfl) h1
  obtain ⟨a2, rfl, rfl, rfl, w2⟩ := open_int Try.underlying3 (hval 2 3 v2 rfl rfl) h2
  obtain ⟨a3, rfl, rfl, rfl, w3⟩ := open_int Try.underlying5 (hval 3 5 v3 rfl rfl) h3
  obtain ⟨l4, hv4, hb4, hm4⟩ := open_descs (hval 4 63 v4 rfl rfl) h4
  obtain ⟨a5, rfl, rfl, rfl, w5⟩ := open_int Try.underlying3 (hval 5 3 v5 rfl rfl) h5
  clear hA0 hval0
  refine (walk W a0 a1 a2 a3 v4 l4 hv4 hb4 hm4 a5 w2 w3 w5 w0 w1).mono fun e W' ⟨he, bel⟩ => ?_
  subst he
  exact ⟨_, rfl, _, _, _, [], _, [], hW', trodAll_mk1 (shut_bool Try.underlying4 _), (trodAll_cons_mk (Below.trod laidOut (by kernel_rfl) (of_decide_eq_true (by kernel_rfl)) k0 bel lt0) (trodAll_cons_mk (Below.trod laidOut (by kernel_rfl) (of_decide_eq_true (by kernel_rfl)) k1 bel lt1) (trodAll_cons_mk (Below.trod laidOut (by kernel_rfl) (of_decide_eq_true (by kernel_rfl)) k2 bel lt2) (trodAll_cons_mk (Below.trod laidOut (by kernel_rfl) (of_decide_eq_true (by kernel_rfl)) k3 bel lt3) (trodAll_cons_mk (Below.trod laidOut (by kernel_rfl) (of_decide_eq_true (by kernel_rfl)) k4 bel lt4) (trodAll_cons_mk (Below.trod laidOut (by kernel_rfl) (of_decide_eq_true (by kernel_rfl)) k5 bel lt5) trodAll_mk0)))))), rfl, bel.frame _, fun h => by cases h⟩

theorem over : Rows.descFieldsRow.holds Try.pinned (OpenSpec.ofChange Rows.descFieldsSpec) :=
  OpenClaim.holds_of_wide 8 Try.f8 rfl rfl rfl rfl rfl rfl rfl ⟨rfl, rfl, rfl, rfl, rfl⟩ rfl rfl rfl rfl rfl (by kernel_rfl) Try.func8 (by kernel_rfl)
    (of_decide_eq_true (by kernel_rfl)) (by unfold Func.isWrapper; first | (rw [if_pos (by decide +kernel)]; kernel_rfl) | (rw [if_neg (by decide +kernel)]; exact ⟨rfl, rfl⟩))
    (fun os started H enc _ => lifted os started H enc)

/-- THE STATEMENT -/
theorem descFields_holds : Rows.DescFieldsSaid := over
#print axioms descFields_holds
end Go.Proofs.Ytfjccpalkdmniaa.descFields
