/-
  PROVED: dumbwaiterlaw03.DescBack returns true for any descriptors, packed ones, used element, event and list, and what was in memory stays as it was. Conditions: none.
-/
import Derived.Test.YtfjccpalkdmniaaRows
import Derived.Test.YtfjccpalkdmniaaDsc6
import Derived.Test.YtfjccpalkdmniaaDsc12
import Derived.WalkKit
import Derived.ProofKit
import Derived.OpenShut
import Derived.ShutString
import Derived.ChangeOld
import Derived.Below
import Derived.Carry
import Derived.Lib.SmallJoins
namespace Go.Proofs.Ytfjccpalkdmniaa.descBack
open Go.ChangeShapes Go.WideShapes Go.ChangeAt Go.RowKit
set_option linter.unusedVariables false


structure Boxes (w : World) (B : Nat) (a b p q : Dsc) (u0 u1 e0 e1 : Int) : Prop where
  fa : at4 w B 0 a
  fb : at4 w (B + 1) 0 b
  fp : at4 w (B + 1 + 1) 0 p
  fq : at4 w (B + 1 + 1 + 1) 0 q
  fu : at2 w (B + 1 + 1 + 1 + 1) .u32 u0 u1
  fe : at2 w (B + 1 + 1 + 1 + 1 + 1) .u16 e0 e1
theorem Boxes.below {w w' : World} {B : Nat} {a b p q : Dsc} {u0 u1 e0 e1 : Int} {C : Nat} (h : Boxes w B a b p q u0 u1 e0 e1) (hb : Below C w w') (hB : B + 6 ≤ C) : Boxes w' B a b p q u0 u1 e0 e1 :=
  ⟨h.fa.below hb (by omega), h.fb.below hb (by omega), h.fp.below hb (by omega), h.fq.below hb (by omega), h.fu.below hb (by omega), h.fe.below hb (by omega)⟩
set_option maxRecDepth 100000 in
set_option maxHeartbeats 2000000 in
theorem walk_long (w : World) (a b p q : Dsc) (u0 u1 e0 e1 : Int) (va : Option Addr) (vc : Nat) (L : List Dsc) (h300 : 300 < L.length) (hm : L.length ≤ maxLen) :
    Calls Try.prog 6 #[dV a, dV b, dV p, dV q, .agg #[.int .u32 u0, .int .u32 u1], .agg #[.int .u16 e0, .int .u16 e1], .slice va L.length vc] w fun e w' => e = .returned (.bool true) ∧ Below w.heap.size w w' := by
  have h3i : (300 : Int) < (L.length : Int) := by omega
  clear hm
  go_enter Try.func6, Try.ntmps6
  go_wp2_with fail
  refine (lives3_any _).mono ?_
  rintro e w1 ⟨rfl, hb1⟩
  have hb : Below w.heap.size w w1 := Below.trans (by repeat (first | exact Below.refl _ _ | (refine Below.alloc ?_ (by first | (simp; done) | (simp; omega)) _))) (hb1.mono (by simp only [sizeA]; omega))
  have HB := hid_mk hb
  clear hb hb1
  go_wp2_with fail
  go_ret
  exact ⟨rfl, HB.out⟩

set_option maxRecDepth 100000 in
set_option maxHeartbeats 4000000 in
theorem walk_main (w : World) (a b p q : Dsc) (u0 u1 e0 e1 : Int) (va : Option Addr) (vc : Nat) (L : List Dsc) (hv : DescsAt w (.slice va L.length vc) L) (hL : isDscs L) (h300 : L.length ≤ 300) (ha : isDsc a) (hb : isDsc b) (hp : isDsc p) (hq : isDsc q) (g0 : 0 ≤ u0 ∧ u0 < 4294967296) (g1 : 0 ≤ u1 ∧ u1 < 4294967296) (k0 : 0 ≤ e0 ∧ e0 < 65536) (k1 : 0 ≤ e1 ∧ e1 < 65536) :
    Calls Try.prog 6 #[dV a, dV b, dV p, dV q, .agg #[.int .u32 u0, .int .u32 u1], .agg #[.int .u16 e0, .int .u16 e1], .slice va L.length vc] w fun e w' => e = .returned (.bool true) ∧ Below w.heap.size w w' := by
  have h3i : (L.length : Int) ≤ 300 := by omega
  have HV := hid_mk hv
  have HA := hid_mk ha
  have HBB := hid_mk hb
  have HP := hid_mk hp
  have HQ := hid_mk hq
  have HL := hid_mk hL
  have H3 := hid_mk h300
  have qaa : ∀ u, (binOp .eql 56 (dV a) (dV a)).run Try.prog u = .ok (.bool true) u := fun u => by rw [eqD, sameD_self]
  have qpp : ∀ u, (binOp .eql 60 (dV p) (dV p)).run Try.prog u = .ok (.bool true) u := fun u => by rw [eqP, sameD_self]
  have qab := fun u => eqD a b u
  have qpq := fun u => eqP p q u
  have sab := fun u => eqSD a b u ha hb
  have spq := fun u => eqSD p q u hp hq
  have quu : ∀ u, (binOp .eql 68 (.agg #[.int .u32 u0, .int .u32 u1]) (.agg #[.int .u32 u0, .int .u32 u1])).run Try.prog u = .ok (.bool true) u := fun u => by rw [eqU]; simp
  have qee : ∀ u, (binOp .eql 71 (.agg #[.int .u16 e0, .int .u16 e1]) (.agg #[.int .u16 e0, .int .u16 e1])).run Try.prog u = .ok (.bool true) u := fun u => by rw [eqE]; simp
  generalize sameD a b = s1 at qab sab
  generalize sameD p q = s2 at qpq spq
  have hu1 : (u0 + 4294967296 * u1) % 4294967296 = u0 := by omega
  have hu2 : (u0 + 4294967296 * u1) / 4294967296 = u1 := by omega
  have hu3 : 0 ≤ u0 + 4294967296 * u1 ∧ u0 + 4294967296 * u1 < 18446744073709551616 := by omega
  have hev1 : (e0 + 65536 * e1) % 65536 = e0 := by omega
  have hev2 : (e0 + 65536 * e1) / 65536 % 65536 = e1 := by omega
  have hev3 : 0 ≤ e0 + 65536 * e1 ∧ e0 + 65536 * e1 < 18446744073709551616 := by omega
  have hev4 : e0 + 65536 * e1 < 4294967296 := by omega
  have HU := hid_mk (fun (u : World) => by
    have h := readUsed_any (u0 + 4294967296 * u1) u hu3
    rw [hu1, hu2] at h
    exact h)
  have HE := hid_mk (fun (u : World) => by
    have h := readEvent_any (e0 + 65536 * e1) u hev3
    rw [hev1, hev2] at h
    exact h)
  have HUW := hid_mk (fun (u : World) => usedWord_any u0 u1 u g0 g1)
  have HEW := hid_mk (fun (u : World) => eventWord_any e0 e1 u k0 k1)
  have E4 := hid_mk hev4
  clear hv ha hb hp hq hL h300 g0 g1 k0 k1 hu1 hu2 hu3 hev1 hev2 hev3 hev4
  go_enter Try.func6, Try.ntmps6
  go_wp2_with fail
  refine (lives3_any _).mono ?_
  rintro e w1 ⟨rfl, hb1⟩
  have hbel : Below w.heap.size w w1 := Below.trans (by repeat (first | exact Below.refl _ _ | (refine Below.alloc ?_ (by first | (simp; done) | (simp; omega)) _))) (hb1.mono (by simp only [sizeA]; omega))
  have hsz := hb1.size
  simp only [sizeA] at hsz
  have hbx : Boxes w1 w.heap.size a b p q u0 u1 e0 e1 := Boxes.below (C := w.heap.size + 6) ⟨⟨by simp [go_sem], by simp [go_sem], by simp [go_sem], by simp [go_sem]⟩, ⟨by simp [go_sem], by simp [go_sem], by simp [go_sem], by simp [go_sem]⟩, ⟨by simp [go_sem], by simp [go_sem], by simp [go_sem], by simp [go_sem]⟩, ⟨by simp [go_sem], by simp [go_sem], by simp [go_sem], by simp [go_sem]⟩, ⟨by simp [go_sem], by simp [go_sem]⟩, ⟨by simp [go_sem], by simp [go_sem]⟩⟩ (hb1.mono (by simp only [sizeA]; omega)) (Nat.le_refl _)
  have B1 := hid_mk hbel
  have BX1 := hid_mk hbx
  have hz : w.heap.size + 6 ≤ w1.heap.size := by omega
  have Z1 := hid_mk hz
  clear hbel hbx hb1 hsz hz
  obtain ⟨ac0, ac1, ac2, ac3⟩ := BX1.out.fa
  have alt : w.heap.size < w1.heap.size := by have := Z1.out; omega
  go_wp2_with fail
  clear ac0 ac1 ac2 ac3 alt
  refine (bytes_ex a _ HA.out).mono ?_
  rintro e w2 ⟨ba, rfl, _, hr, hbn⟩
  have B2 := hid_mk (below_more B1.out hbn)
  have hbk : Below w1.heap.size w1 w2 := hbn
  have BX2 := hid_mk (BX1.out.below hbk Z1.out)
  have Z2 := hid_mk (Nat.le_trans Z1.out hbk.size)
  have R2 := hid_mk hr
  clear hr hbn hbk
  go_wp2_with fail
  refine (readBack a ba _ _ R2.out HA.out).mono ?_
  rintro e w3 ⟨rfl, hbn⟩
  have B3 := hid_mk (below_more B2.out hbn)
  have hbk : Below w2.heap.size w2 w3 := hbn
  have BX3 := hid_mk (BX2.out.below hbk Z2.out)
  have Z3 := hid_mk (Nat.le_trans Z2.out hbk.size)
  clear hbn hbk
  obtain ⟨pc0, pc1, pc2, pc3⟩ := BX3.out.fp
  have plt : w.heap.size + 1 + 1 < w3.heap.size := by have := Z3.out; omega
  go_wp2_with fail
  clear pc0 pc1 pc2 pc3 plt
  refine (pbytes_ex p _ HP.out).mono ?_
  rintro e w4 ⟨bp, rfl, _, hr, hbn⟩
  have B4 := hid_mk (below_new B3.out hbn)
  have hbk : Below w3.heap.size w3 w4 := (((Below.refl _ _).alloc (Nat.le_refl _) _).trans (hbn.mono (by rw [sizeA]; exact Nat.le_succ _)))
  have BX4 := hid_mk (BX3.out.below hbk Z3.out)
  have Z4 := hid_mk (Nat.le_trans Z3.out hbk.size)
  obtain ⟨bx, hbx⟩ : ∃ bx, bx = w3.heap.size := ⟨_, rfl⟩
  have hx0 : at4 w4 bx 0 a := at4.below (B := w3.heap.size + 1) (by subst hbx; exact ⟨by simp [go_sem], by simp [go_sem], by simp [go_sem], by simp [go_sem]⟩) (hbn.mono (by rw [sizeA]; exact Nat.le_refl _)) (by omega)
  have hx1 : bx < w4.heap.size := by have := hbn.size; rw [sizeA] at this; omega
  have hx2 : w.heap.size ≤ bx := by have := Z3.out; omega
  have X4 := hid_mk (And.intro hx0 hx1)
  rw [← hbx]
  have R4 := hid_mk hr
  have HBX := hid_mk hbx
  clear hr hbn hbk hx0 hx1 hx2 hbx
  go_wp2_with fail
  refine (preadBack p bp _ _ R4.out HP.out).mono ?_
  rintro e w5 ⟨rfl, hbn⟩
  have B5 := hid_mk (below_more B4.out hbn)
  have hbk : Below w4.heap.size w4 w5 := hbn
  have BX5 := hid_mk (BX4.out.below hbk Z4.out)
  have Z5 := hid_mk (Nat.le_trans Z4.out hbk.size)
  have X5 := hid_mk (And.intro (X4.out.1.below hbk X4.out.2) (Nat.lt_of_lt_of_le X4.out.2 hbk.size))
  clear hbn hbk
  go_wp2_with fail
  refine (table_ex _ L _ (HV.out.below (B5.out.alloc B5.out.size _)) HL.out H3.out).mono ?_
  rintro e w6 ⟨bt, rfl, _, hr, hbn⟩
  have B6 := hid_mk (below_new B5.out hbn)
  have hbk : Below w5.heap.size w5 w6 := (((Below.refl _ _).alloc (Nat.le_refl _) _).trans (hbn.mono (by rw [sizeA]; exact Nat.le_succ _)))
  have BX6 := hid_mk (BX5.out.below hbk Z5.out)
  have Z6 := hid_mk (Nat.le_trans Z5.out hbk.size)
  have X6 := hid_mk (And.intro (X5.out.1.below hbk X5.out.2) (Nat.lt_of_lt_of_le X5.out.2 hbk.size))
  obtain ⟨by_, hby⟩ : ∃ by_, by_ = w5.heap.size := ⟨_, rfl⟩
  have hy0 : at4 w6 by_ 0 p := at4.below (B := w5.heap.size + 1) (by subst hby; exact ⟨by simp [go_sem], by simp [go_sem], by simp [go_sem], by simp [go_sem]⟩) (hbn.mono (by rw [sizeA]; exact Nat.le_refl _)) (by omega)
  have hy1 : by_ < w6.heap.size := by have := hbn.size; rw [sizeA] at this; omega
  have Y6 := hid_mk (And.intro hy0 hy1)
  rw [← hby]
  have R6 := hid_mk hr
  have HBY := hid_mk hby
  clear hr hbn hbk hy0 hy1 hby
  go_wp2_with fail
  refine (readTabBack L bt _ _ R6.out HL.out H3.out).mono ?_
  rintro e w7 ⟨mv, rfl, hd, hbn⟩
  have B7 := hid_mk (below_more B6.out hbn)
  have hbk : Below w6.heap.size w6 w7 := hbn
  have BX7 := hid_mk (BX6.out.below hbk Z6.out)
  have Z7 := hid_mk (Nat.le_trans Z6.out hbk.size)
  have X7 := hid_mk (And.intro (X6.out.1.below hbk X6.out.2) (Nat.lt_of_lt_of_le X6.out.2 hbk.size))
  have Y7 := hid_mk (And.intro (Y6.out.1.below hbk Y6.out.2) (Nat.lt_of_lt_of_le Y6.out.2 hbk.size))
  have D7 := hid_mk hd
  clear hd hbn hbk
  have hx4 := X7.out.1
  have hxl := X7.out.2
  have hy4 := Y7.out.1
  have hyl := Y7.out.2
  have hz := Z7.out
  have la := fun (u : World) (hu : Below w7.heap.size w7 u) => loadD (BX7.out.fa.below hu (by omega))
  have lb := fun (u : World) (hu : Below w7.heap.size w7 u) => loadD (BX7.out.fb.below hu (by omega))
  have lp := fun (u : World) (hu : Below w7.heap.size w7 u) => loadP (BX7.out.fp.below hu (by omega))
  have lq := fun (u : World) (hu : Below w7.heap.size w7 u) => loadP (BX7.out.fq.below hu (by omega))
  have lu := fun (u : World) (hu : Below w7.heap.size w7 u) => loadU (BX7.out.fu.below hu (by omega))
  have le := fun (u : World) (hu : Below w7.heap.size w7 u) => loadE (BX7.out.fe.below hu (by omega))
  have lx := fun (u : World) (hu : Below w7.heap.size w7 u) => loadD (hx4.below hu hxl)
  have ly := fun (u : World) (hu : Below w7.heap.size w7 u) => loadP (hy4.below hu hyl)
  go_wp2_with fail
  refine wp_region_outl
    [(fun v _ => v = .int .i64 0),
    (fun v _ => v = .bool true),
    (fun v _ => v = .bool true),
    (fun v _ => v = dV a),
    (fun v _ => v = dV a),
    (fun v _ => v = .bool true),
    (fun v _ => v = .bool true),
    (fun v _ => v = .bool true),
    (fun v _ => v = .int .i64 0),
    (fun v _ => v = .bool true),
    (fun v _ => v = .bool true),
    (fun v _ => v = .bool true),
    (fun v _ => v = dV p),
    (fun v _ => v = dV p),
    (fun v _ => v = .bool true),
    (fun v _ => v = .bool true),
    (fun v _ => v = .bool true),
    (fun v _ => v = dV a),
    (rowP 102 16 (dB a)),
    (fun v _ => v = .string (strOfNums (dB a))),
    (fun v _ => v = dV b),
    (rowP 102 16 (dB b)),
    (fun v _ => v = .string (strOfNums (dB b))),
    (fun v _ => v = .bool s1),
    (fun v _ => v = dV a),
    (fun v _ => v = dV b),
    (fun v _ => v = .bool s1),
    (fun v _ => v = .bool true),
    (fun v _ => v = .bool true),
    (fun v _ => v = .bool true),
    (fun v _ => v = dV p),
    (rowP 102 16 (dB p)),
    (fun v _ => v = .string (strOfNums (dB p))),
    (fun v _ => v = dV q),
    (rowP 102 16 (dB q)),
    (fun v _ => v = .string (strOfNums (dB q))),
    (fun v _ => v = .bool s2),
    (fun v _ => v = dV p),
    (fun v _ => v = dV q),
    (fun v _ => v = .bool s2),
    (fun v _ => v = .bool true),
    (fun v _ => v = .bool true),
    (fun v _ => v = .bool true),
    (fun v _ => v = .agg #[.int .u32 u0, .int .u32 u1]),
    (fun v _ => v = .int .u64 (u0 + 4294967296 * u1)),
    (fun v _ => v = .agg #[.int .u32 u0, .int .u32 u1]),
    (fun v _ => v = .agg #[.int .u32 u0, .int .u32 u1]),
    (fun v _ => v = .bool true),
    (fun v _ => v = .bool true),
    (fun v _ => v = .bool true),
    (fun v _ => v = .agg #[.int .u16 e0, .int .u16 e1]),
    (fun v _ => v = .int .u64 (e0 + 65536 * e1)),
    (fun v _ => v = .agg #[.int .u16 e0, .int .u16 e1]),
    (fun v _ => v = .agg #[.int .u16 e0, .int .u16 e1]),
    (fun v _ => v = .bool true),
    (fun v _ => v = .bool true),
    (fun v _ => v = .bool true),
    (fun v _ => v = .agg #[.int .u16 e0, .int .u16 e1]),
    (fun v _ => v = .int .u64 (e0 + 65536 * e1)),
    (fun v _ => v = .bool true),
    (fun v _ => v = .bool true),
    (fun v _ => v = .bool true),
    (fun v _ => v = .int .i64 0),
    (fun v _ => v = .bool true),
    (fun v _ => v = .bool true),
    (fun v _ => v = .bool true),
    (fun v _ => v = mv),
    (fun v _ => v = .slice va L.length vc),
    (fun v _ => v = .bool true),
    (fun v _ => v = .bool true),
    (fun v _ => v = .bool true),
    (fun v _ => v = .slice va L.length vc),
    (rowP 5 (16 * L.length) (tabB L)),
    (fun v _ => v = .int .i64 (16 * (L.length : Int))),
    (fun v _ => v = .slice va L.length vc),
    (fun v _ => v = .int .i64 (L.length : Int)),
    (fun v _ => v = .int .i64 (16 * (L.length : Int))),
    (fun v _ => v = .bool true),
    (fun v _ => v = .bool true),
    (fun v _ => v = .bool true)]
    (fun u => Below w7.heap.size w7 u) (by kernel_rfl) (by kernel_rfl) ?_ (fun u u' hb h => h.trans (hb.mono h.size)) ((Below.refl _ _).drew) ?_ ?_
  · refine And.intro (up_eq _) ?_
    refine And.intro (up_eq _) ?_
    refine And.intro (up_eq _) ?_
    refine And.intro (up_eq _) ?_
    refine And.intro (up_eq _) ?_
    refine And.intro (up_eq _) ?_
    refine And.intro (up_eq _) ?_
    refine And.intro (up_eq _) ?_
    refine And.intro (up_eq _) ?_
    refine And.intro (up_eq _) ?_
    refine And.intro (up_eq _) ?_
    refine And.intro (up_eq _) ?_
    refine And.intro (up_eq _) ?_
    refine And.intro (up_eq _) ?_
    refine And.intro (up_eq _) ?_
    refine And.intro (up_eq _) ?_
    refine And.intro (up_eq _) ?_
    refine And.intro (up_eq _) ?_
    refine And.intro (up_rowP _ _ _) ?_
    refine And.intro (up_eq _) ?_
    refine And.intro (up_eq _) ?_
    refine And.intro (up_rowP _ _ _) ?_
    refine And.intro (up_eq _) ?_
    refine And.intro (up_eq _) ?_
    refine And.intro (up_eq _) ?_
    refine And.intro (up_eq _) ?_
    refine And.intro (up_eq _) ?_
    refine And.intro (up_eq _) ?_
    refine And.intro (up_eq _) ?_
    refine And.intro (up_eq _) ?_
    refine And.intro (up_eq _) ?_
    refine And.intro (up_rowP _ _ _) ?_
    refine And.intro (up_eq _) ?_
    refine And.intro (up_eq _) ?_
    refine And.intro (up_rowP _ _ _) ?_
    refine And.intro (up_eq _) ?_
    refine And.intro (up_eq _) ?_
    refine And.intro (up_eq _) ?_
    refine And.intro (up_eq _) ?_
    refine And.intro (up_eq _) ?_
    refine And.intro (up_eq _) ?_
    refine And.intro (up_eq _) ?_
    refine And.intro (up_eq _) ?_
    refine And.intro (up_eq _) ?_
    refine And.intro (up_eq _) ?_
    refine And.intro (up_eq _) ?_
    refine And.intro (up_eq _) ?_
    refine And.intro (up_eq _) ?_
    refine And.intro (up_eq _) ?_
    refine And.intro (up_eq _) ?_
    refine And.intro (up_eq _) ?_
    refine And.intro (up_eq _) ?_
    refine And.intro (up_eq _) ?_
    refine And.intro (up_eq _) ?_
    refine And.intro (up_eq _) ?_
    refine And.intro (up_eq _) ?_
    refine And.intro (up_eq _) ?_
    refine And.intro (up_eq _) ?_
    refine And.intro (up_eq _) ?_
    refine And.intro (up_eq _) ?_
    refine And.intro (up_eq _) ?_
    refine And.intro (up_eq _) ?_
    refine And.intro (up_eq _) ?_
    refine And.intro (up_eq _) ?_
    refine And.intro (up_eq _) ?_
    refine And.intro (up_eq _) ?_
    refine And.intro (up_eq _) ?_
    refine And.intro (up_eq _) ?_
    refine And.intro (up_eq _) ?_
    refine And.intro (up_eq _) ?_
    refine And.intro (up_eq _) ?_
    refine And.intro (up_eq _) ?_
    refine And.intro (up_rowP _ _ _) ?_
    refine And.intro (up_eq _) ?_
    refine And.intro (up_eq _) ?_
    refine And.intro (up_eq _) ?_
    refine And.intro (up_eq _) ?_
    refine And.intro (up_eq _) ?_
    refine And.intro (up_eq _) ?_
    refine And.intro (up_eq _) ?_
    trivial
  · refine And.intro ?_ (And.intro ?_ (And.intro ?_ (And.intro ?_ (And.intro ?_ (And.intro ?_ (And.intro ?_ (And.intro ?_ (And.intro ?_ (And.intro ?_ (And.intro ?_ (And.intro ?_ (And.intro ?_ (And.intro ?_ (And.intro ?_ (And.intro ?_ (And.intro ?_ (And.intro ?_ (And.intro ?_ (And.intro ?_ (And.intro ?_ (And.intro ?_ (And.intro ?_ (And.intro ?_ (And.intro ?_ (And.intro ?_ (And.intro ?_ (And.intro ?_ (And.intro ?_ (And.intro ?_ (And.intro ?_ (And.intro ?_ (And.intro ?_ (And.intro ?_ (And.intro ?_ (And.intro ?_ (And.intro ?_ (And.intro ?_ (And.intro ?_ (And.intro ?_ (And.intro ?_ (And.intro ?_ (And.intro ?_ (And.intro ?_ (And.intro ?_ (And.intro ?_ (And.intro ?_ (And.intro ?_ (And.intro ?_ (And.intro ?_ (And.intro ?_ (And.intro ?_ (And.intro ?_ (And.intro ?_ (And.intro ?_ (And.intro ?_ (And.intro ?_ (And.intro ?_ (And.intro ?_ (And.intro ?_ (And.intro ?_ (And.intro ?_ (And.intro ?_ (And.intro ?_ (And.intro ?_ (And.intro ?_ (And.intro ?_ (And.intro ?_ (And.intro ?_ (And.intro ?_ (And.intro ?_ (And.intro ?_ (And.intro ?_ (And.intro ?_ (And.intro ?_ (And.intro ?_ (And.intro ?_ (And.intro ?_ (And.intro ?_ (And.intro ?_ (True.intro))))))))))))))))))))))))))))))))))))))))))))))))))))))))))))))))))))))))))))))))
    · refine ostep_val (.int .i64 0) (by kernel_rfl) (fun _ A1 W1 inv hall => ⟨wanted_none rfl, ?_, rfl⟩)
      have h16 : A1.eval (.tmp 16) = .int .i64 0 := (inv.base 16 (by kernel_rfl)).trans rfl
      simp only [execOp, h16, Sem.run_pure]
    · refine ostep_val (.bool true) (by kernel_rfl) (fun _ A1 W1 inv hall => ⟨wanted_none rfl, ?_, rfl⟩)
      have h44 : A1.eval (.tmp 44) = .int .i64 0 := inv.get hall 0 44 (by kernel_rfl) (by kernel_rfl)
      simp only [execOp, h44, eval_const]
      simp [eqGuard, go_sem]
    · refine ostep_val (.bool true) (by kernel_rfl) (fun _ A1 W1 inv hall => ⟨wanted_none rfl, ?_, rfl⟩)
      have h45 : A1.eval (.tmp 45) = .bool true := inv.get hall 1 45 (by kernel_rfl) (by kernel_rfl)
      simp only [execOp, h45, Sem.run_pure]
    · refine ostep_val (dV a) (by kernel_rfl) (fun _ A1 W1 inv hall => ⟨wanted_some (g := 2) (d := 46) (b := true) rfl (by kernel_rfl) (inv.get hall 2 46 (by kernel_rfl) (by kernel_rfl)), ?_, rfl⟩)
      have h15 : A1.eval (.tmp 15) = .pointer (some ⟨bx, 0, none⟩) := (inv.base 15 (by kernel_rfl)).trans rfl
      simp only [execOp, h15, Sem.run_bind, lx W1 inv.s, Result.andThen_ok, Sem.run_pure]
    · refine ostep_val (dV a) (by kernel_rfl) (fun _ A1 W1 inv hall => ⟨wanted_some (g := 2) (d := 46) (b := true) rfl (by kernel_rfl) (inv.get hall 2 46 (by kernel_rfl) (by kernel_rfl)), ?_, rfl⟩)
      have h7 : A1.eval (.tmp 7) = .pointer (some ⟨w.heap.size, 0, none⟩) := (inv.base 7 (by kernel_rfl)).trans rfl
      simp only [execOp, h7, Sem.run_bind, la W1 inv.s, Result.andThen_ok, Sem.run_pure]
    · refine ostep_val (.bool true) (by kernel_rfl) (fun _ A1 W1 inv hall => ⟨wanted_some (g := 2) (d := 46) (b := true) rfl (by kernel_rfl) (inv.get hall 2 46 (by kernel_rfl) (by kernel_rfl)), ?_, rfl⟩)
      have h47 : A1.eval (.tmp 47) = dV a := inv.get hall 3 47 (by kernel_rfl) (by kernel_rfl)
      have h48 : A1.eval (.tmp 48) = dV a := inv.get hall 4 48 (by kernel_rfl) (by kernel_rfl)
      simp only [execOp, h47, h48, Sem.run_bind, run_eqGuard_agg W1 .eql _ _ _ _ _ guardD, qaa W1, Result.andThen_ok, Sem.run_pure]
    · refine ostep_val (.bool true) (by kernel_rfl) (fun _ A1 W1 inv hall => ⟨wanted_none rfl, ?_, rfl⟩)
      have h46 : A1.eval (.tmp 46) = .bool true := inv.get hall 2 46 (by kernel_rfl) (by kernel_rfl)
      have h49 : A1.eval (.tmp 49) = .bool true := inv.get hall 5 49 (by kernel_rfl) (by kernel_rfl)
      simp only [execOp, h46, h49]
      simp [asBool]
    · refine ostep_val (.bool true) (by kernel_rfl) (fun _ A1 W1 inv hall => ⟨wanted_none rfl, ?_, rfl⟩)
      have h50 : A1.eval (.tmp 50) = .bool true := inv.get hall 6 50 (by kernel_rfl) (by kernel_rfl)
      simp only [execOp, h50, Sem.run_pure]
    · refine ostep_val (.int .i64 0) (by kernel_rfl) (fun _ A1 W1 inv hall => ⟨wanted_some (g := 7) (d := 51) (b := true) rfl (by kernel_rfl) (inv.get hall 7 51 (by kernel_rfl) (by kernel_rfl)), ?_, rfl⟩)
      have h18 : A1.eval (.tmp 18) = .int .i64 0 := (inv.base 18 (by kernel_rfl)).trans rfl
      simp only [execOp, h18, Sem.run_pure]
    · refine ostep_val (.bool true) (by kernel_rfl) (fun _ A1 W1 inv hall => ⟨wanted_some (g := 7) (d := 51) (b := true) rfl (by kernel_rfl) (inv.get hall 7 51 (by kernel_rfl) (by kernel_rfl)), ?_, rfl⟩)
      have h52 : A1.eval (.tmp 52) = .int .i64 0 := inv.get hall 8 52 (by kernel_rfl) (by kernel_rfl)
      simp only [execOp, h52, eval_const]
      simp [eqGuard, go_sem]
    · refine ostep_val (.bool true) (by kernel_rfl) (fun _ A1 W1 inv hall => ⟨wanted_none rfl, ?_, rfl⟩)
      have h51 : A1.eval (.tmp 51) = .bool true := inv.get hall 7 51 (by kernel_rfl) (by kernel_rfl)
      have h53 : A1.eval (.tmp 53) = .bool true := inv.get hall 9 53 (by kernel_rfl) (by kernel_rfl)
      simp only [execOp, h51, h53]
      simp [asBool]
    · refine ostep_val (.bool true) (by kernel_rfl) (fun _ A1 W1 inv hall => ⟨wanted_none rfl, ?_, rfl⟩)
      have h54 : A1.eval (.tmp 54) = .bool true := inv.get hall 10 54 (by kernel_rfl) (by kernel_rfl)
      simp only [execOp, h54, Sem.run_pure]
    · refine ostep_val (dV p) (by kernel_rfl) (fun _ A1 W1 inv hall => ⟨wanted_some (g := 11) (d := 55) (b := true) rfl (by kernel_rfl) (inv.get hall 11 55 (by kernel_rfl) (by kernel_rfl)), ?_, rfl⟩)
      have h17 : A1.eval (.tmp 17) = .pointer (some ⟨by_, 0, none⟩) := (inv.base 17 (by kernel_rfl)).trans rfl
      simp only [execOp, h17, Sem.run_bind, ly W1 inv.s, Result.andThen_ok, Sem.run_pure]
    · refine ostep_val (dV p) (by kernel_rfl) (fun _ A1 W1 inv hall => ⟨wanted_some (g := 11) (d := 55) (b := true) rfl (by kernel_rfl) (inv.get hall 11 55 (by kernel_rfl) (by kernel_rfl)), ?_, rfl⟩)
      have h9 : A1.eval (.tmp 9) = .pointer (some ⟨w.heap.size + 1 + 1, 0, none⟩) := (inv.base 9 (by kernel_rfl)).trans rfl
      simp only [execOp, h9, Sem.run_bind, lp W1 inv.s, Result.andThen_ok, Sem.run_pure]
    · refine ostep_val (.bool true) (by kernel_rfl) (fun _ A1 W1 inv hall => ⟨wanted_some (g := 11) (d := 55) (b := true) rfl (by kernel_rfl) (inv.get hall 11 55 (by kernel_rfl) (by kernel_rfl)), ?_, rfl⟩)
      have h56 : A1.eval (.tmp 56) = dV p := inv.get hall 12 56 (by kernel_rfl) (by kernel_rfl)
      have h57 : A1.eval (.tmp 57) = dV p := inv.get hall 13 57 (by kernel_rfl) (by kernel_rfl)
      simp only [execOp, h56, h57, Sem.run_bind, run_eqGuard_agg W1 .eql _ _ _ _ _ guardP, qpp W1, Result.andThen_ok, Sem.run_pure]
    · refine ostep_val (.bool true) (by kernel_rfl) (fun _ A1 W1 inv hall => ⟨wanted_none rfl, ?_, rfl⟩)
      have h55 : A1.eval (.tmp 55) = .bool true := inv.get hall 11 55 (by kernel_rfl) (by kernel_rfl)
      have h58 : A1.eval (.tmp 58) = .bool true := inv.get hall 14 58 (by kernel_rfl) (by kernel_rfl)
      simp only [execOp, h55, h58]
      simp [asBool]
    · refine ostep_val (.bool true) (by kernel_rfl) (fun _ A1 W1 inv hall => ⟨wanted_none rfl, ?_, rfl⟩)
      have h59 : A1.eval (.tmp 59) = .bool true := inv.get hall 15 59 (by kernel_rfl) (by kernel_rfl)
      simp only [execOp, h59, Sem.run_pure]
    · refine ostep_val (dV a) (by kernel_rfl) (fun _ A1 W1 inv hall => ⟨wanted_some (g := 16) (d := 60) (b := true) rfl (by kernel_rfl) (inv.get hall 16 60 (by kernel_rfl) (by kernel_rfl)), ?_, rfl⟩)
      have h7 : A1.eval (.tmp 7) = .pointer (some ⟨w.heap.size, 0, none⟩) := (inv.base 7 (by kernel_rfl)).trans rfl
      simp only [execOp, h7, Sem.run_bind, la W1 inv.s, Result.andThen_ok, Sem.run_pure]
    · refine ostep_call 46 (by kernel_rfl) _ _ (by kernel_rfl) rfl (fun _ A1 W1 inv hall => ⟨wanted_some (g := 16) (d := 60) (b := true) rfl (by kernel_rfl) (inv.get hall 16 60 (by kernel_rfl) (by kernel_rfl)), #[dV a], ?_, ?_⟩)
      · have h61 : A1.eval (.tmp 61) = dV a := inv.get hall 17 61 (by kernel_rfl) (by kernel_rfl)
        simp [h61]
      · refine (bytes_ex a _ HA.out).mono ?_
        rintro e u ⟨b0, rfl, _, hr, hb⟩
        exact ⟨_, rfl, ⟨b0, rfl, hr⟩, hb⟩
    · refine ostep_val (.string (strOfNums (dB a))) (by kernel_rfl) (fun _ A1 W1 inv hall => ⟨wanted_some (g := 16) (d := 60) (b := true) rfl (by kernel_rfl) (inv.get hall 16 60 (by kernel_rfl) (by kernel_rfl)), ?_, rfl⟩)
      have h62 : (rowP 102 16 (dB a)) (A1.eval (.tmp 62)) W1 := inv.get hall 18 62 (by kernel_rfl) (by kernel_rfl)
      obtain ⟨b0, hv, hr⟩ := h62
      simp only [execOp, hv, Sem.run_bind, convRow (c := 16) hr (dB_length _), Result.andThen_ok, Sem.run_pure]
    · refine ostep_val (dV b) (by kernel_rfl) (fun _ A1 W1 inv hall => ⟨wanted_some (g := 16) (d := 60) (b := true) rfl (by kernel_rfl) (inv.get hall 16 60 (by kernel_rfl) (by kernel_rfl)), ?_, rfl⟩)
      have h8 : A1.eval (.tmp 8) = .pointer (some ⟨w.heap.size + 1, 0, none⟩) := (inv.base 8 (by kernel_rfl)).trans rfl
      simp only [execOp, h8, Sem.run_bind, lb W1 inv.s, Result.andThen_ok, Sem.run_pure]
    · refine ostep_call 46 (by kernel_rfl) _ _ (by kernel_rfl) rfl (fun _ A1 W1 inv hall => ⟨wanted_some (g := 16) (d := 60) (b := true) rfl (by kernel_rfl) (inv.get hall 16 60 (by kernel_rfl) (by kernel_rfl)), #[dV b], ?_, ?_⟩)
      · have h64 : A1.eval (.tmp 64) = dV b := inv.get hall 20 64 (by kernel_rfl) (by kernel_rfl)
        simp [h64]
      · refine (bytes_ex b _ HBB.out).mono ?_
        rintro e u ⟨b0, rfl, _, hr, hb⟩
        exact ⟨_, rfl, ⟨b0, rfl, hr⟩, hb⟩
    · refine ostep_val (.string (strOfNums (dB b))) (by kernel_rfl) (fun _ A1 W1 inv hall => ⟨wanted_some (g := 16) (d := 60) (b := true) rfl (by kernel_rfl) (inv.get hall 16 60 (by kernel_rfl) (by kernel_rfl)), ?_, rfl⟩)
      have h65 : (rowP 102 16 (dB b)) (A1.eval (.tmp 65)) W1 := inv.get hall 21 65 (by kernel_rfl) (by kernel_rfl)
      obtain ⟨b0, hv, hr⟩ := h65
      simp only [execOp, hv, Sem.run_bind, convRow (c := 16) hr (dB_length _), Result.andThen_ok, Sem.run_pure]
    · refine ostep_val (.bool s1) (by kernel_rfl) (fun _ A1 W1 inv hall => ⟨wanted_some (g := 16) (d := 60) (b := true) rfl (by kernel_rfl) (inv.get hall 16 60 (by kernel_rfl) (by kernel_rfl)), ?_, rfl⟩)
      have h63 : A1.eval (.tmp 63) = .string (strOfNums (dB a)) := inv.get hall 19 63 (by kernel_rfl) (by kernel_rfl)
      have h66 : A1.eval (.tmp 66) = .string (strOfNums (dB b)) := inv.get hall 22 66 (by kernel_rfl) (by kernel_rfl)
      simp only [execOp, h63, h66]
      simp [eqGuard, sab W1]
    · refine ostep_val (dV a) (by kernel_rfl) (fun _ A1 W1 inv hall => ⟨wanted_some (g := 16) (d := 60) (b := true) rfl (by kernel_rfl) (inv.get hall 16 60 (by kernel_rfl) (by kernel_rfl)), ?_, rfl⟩)
      have h7 : A1.eval (.tmp 7) = .pointer (some ⟨w.heap.size, 0, none⟩) := (inv.base 7 (by kernel_rfl)).trans rfl
      simp only [execOp, h7, Sem.run_bind, la W1 inv.s, Result.andThen_ok, Sem.run_pure]
    · refine ostep_val (dV b) (by kernel_rfl) (fun _ A1 W1 inv hall => ⟨wanted_some (g := 16) (d := 60) (b := true) rfl (by kernel_rfl) (inv.get hall 16 60 (by kernel_rfl) (by kernel_rfl)), ?_, rfl⟩)
      have h8 : A1.eval (.tmp 8) = .pointer (some ⟨w.heap.size + 1, 0, none⟩) := (inv.base 8 (by kernel_rfl)).trans rfl
      simp only [execOp, h8, Sem.run_bind, lb W1 inv.s, Result.andThen_ok, Sem.run_pure]
    · refine ostep_val (.bool s1) (by kernel_rfl) (fun _ A1 W1 inv hall => ⟨wanted_some (g := 16) (d := 60) (b := true) rfl (by kernel_rfl) (inv.get hall 16 60 (by kernel_rfl) (by kernel_rfl)), ?_, rfl⟩)
      have h68 : A1.eval (.tmp 68) = dV a := inv.get hall 24 68 (by kernel_rfl) (by kernel_rfl)
      have h69 : A1.eval (.tmp 69) = dV b := inv.get hall 25 69 (by kernel_rfl) (by kernel_rfl)
      simp only [execOp, h68, h69, Sem.run_bind, run_eqGuard_agg W1 .eql _ _ _ _ _ guardD, qab W1, Result.andThen_ok, Sem.run_pure]
    · refine ostep_val (.bool true) (by kernel_rfl) (fun _ A1 W1 inv hall => ⟨wanted_some (g := 16) (d := 60) (b := true) rfl (by kernel_rfl) (inv.get hall 16 60 (by kernel_rfl) (by kernel_rfl)), ?_, rfl⟩)
      have h67 : A1.eval (.tmp 67) = .bool s1 := inv.get hall 23 67 (by kernel_rfl) (by kernel_rfl)
      have h70 : A1.eval (.tmp 70) = .bool s1 := inv.get hall 26 70 (by kernel_rfl) (by kernel_rfl)
      simp only [execOp, h67, h70]
      simp [eqGuard, go_sem]
    · refine ostep_val (.bool true) (by kernel_rfl) (fun _ A1 W1 inv hall => ⟨wanted_none rfl, ?_, rfl⟩)
      have h60 : A1.eval (.tmp 60) = .bool true := inv.get hall 16 60 (by kernel_rfl) (by kernel_rfl)
      have h71 : A1.eval (.tmp 71) = .bool true := inv.get hall 27 71 (by kernel_rfl) (by kernel_rfl)
      simp only [execOp, h60, h71]
      simp [asBool]
    · refine ostep_val (.bool true) (by kernel_rfl) (fun _ A1 W1 inv hall => ⟨wanted_none rfl, ?_, rfl⟩)
      have h72 : A1.eval (.tmp 72) = .bool true := inv.get hall 28 72 (by kernel_rfl) (by kernel_rfl)
      simp only [execOp, h72, Sem.run_pure]
    · refine ostep_val (dV p) (by kernel_rfl) (fun _ A1 W1 inv hall => ⟨wanted_some (g := 29) (d := 73) (b := true) rfl (by kernel_rfl) (inv.get hall 29 73 (by kernel_rfl) (by kernel_rfl)), ?_, rfl⟩)
      have h9 : A1.eval (.tmp 9) = .pointer (some ⟨w.heap.size + 1 + 1, 0, none⟩) := (inv.base 9 (by kernel_rfl)).trans rfl
      simp only [execOp, h9, Sem.run_bind, lp W1 inv.s, Result.andThen_ok, Sem.run_pure]
    · refine ostep_call 48 (by kernel_rfl) _ _ (by kernel_rfl) rfl (fun _ A1 W1 inv hall => ⟨wanted_some (g := 29) (d := 73) (b := true) rfl (by kernel_rfl) (inv.get hall 29 73 (by kernel_rfl) (by kernel_rfl)), #[dV p], ?_, ?_⟩)
      · have h74 : A1.eval (.tmp 74) = dV p := inv.get hall 30 74 (by kernel_rfl) (by kernel_rfl)
        simp [h74]
      · refine (pbytes_ex p _ HP.out).mono ?_
        rintro e u ⟨b0, rfl, _, hr, hb⟩
        exact ⟨_, rfl, ⟨b0, rfl, hr⟩, hb⟩
    · refine ostep_val (.string (strOfNums (dB p))) (by kernel_rfl) (fun _ A1 W1 inv hall => ⟨wanted_some (g := 29) (d := 73) (b := true) rfl (by kernel_rfl) (inv.get hall 29 73 (by kernel_rfl) (by kernel_rfl)), ?_, rfl⟩)
      have h75 : (rowP 102 16 (dB p)) (A1.eval (.tmp 75)) W1 := inv.get hall 31 75 (by kernel_rfl) (by kernel_rfl)
      obtain ⟨b0, hv, hr⟩ := h75
      simp only [execOp, hv, Sem.run_bind, convRow (c := 16) hr (dB_length _), Result.andThen_ok, Sem.run_pure]
    · refine ostep_val (dV q) (by kernel_rfl) (fun _ A1 W1 inv hall => ⟨wanted_some (g := 29) (d := 73) (b := true) rfl (by kernel_rfl) (inv.get hall 29 73 (by kernel_rfl) (by kernel_rfl)), ?_, rfl⟩)
      have h10 : A1.eval (.tmp 10) = .pointer (some ⟨w.heap.size + 1 + 1 + 1, 0, none⟩) := (inv.base 10 (by kernel_rfl)).trans rfl
      simp only [execOp, h10, Sem.run_bind, lq W1 inv.s, Result.andThen_ok, Sem.run_pure]
    · refine ostep_call 48 (by kernel_rfl) _ _ (by kernel_rfl) rfl (fun _ A1 W1 inv hall => ⟨wanted_some (g := 29) (d := 73) (b := true) rfl (by kernel_rfl) (inv.get hall 29 73 (by kernel_rfl) (by kernel_rfl)), #[dV q], ?_, ?_⟩)
      · have h77 : A1.eval (.tmp 77) = dV q := inv.get hall 33 77 (by kernel_rfl) (by kernel_rfl)
        simp [h77]
      · refine (pbytes_ex q _ HQ.out).mono ?_
        rintro e u ⟨b0, rfl, _, hr, hb⟩
        exact ⟨_, rfl, ⟨b0, rfl, hr⟩, hb⟩
    · refine ostep_val (.string (strOfNums (dB q))) (by kernel_rfl) (fun _ A1 W1 inv hall => ⟨wanted_some (g := 29) (d := 73) (b := true) rfl (by kernel_rfl) (inv.get hall 29 73 (by kernel_rfl) (by kernel_rfl)), ?_, rfl⟩)
      have h78 : (rowP 102 16 (dB q)) (A1.eval (.tmp 78)) W1 := inv.get hall 34 78 (by kernel_rfl) (by kernel_rfl)
      obtain ⟨b0, hv, hr⟩ := h78
      simp only [execOp, hv, Sem.run_bind, convRow (c := 16) hr (dB_length _), Result.andThen_ok, Sem.run_pure]
    · refine ostep_val (.bool s2) (by kernel_rfl) (fun _ A1 W1 inv hall => ⟨wanted_some (g := 29) (d := 73) (b := true) rfl (by kernel_rfl) (inv.get hall 29 73 (by kernel_rfl) (by kernel_rfl)), ?_, rfl⟩)
      have h76 : A1.eval (.tmp 76) = .string (strOfNums (dB p)) := inv.get hall 32 76 (by kernel_rfl) (by kernel_rfl)
      have h79 : A1.eval (.tmp 79) = .string (strOfNums (dB q)) := inv.get hall 35 79 (by kernel_rfl) (by kernel_rfl)
      simp only [execOp, h76, h79]
      simp [eqGuard, spq W1]
    · refine ostep_val (dV p) (by kernel_rfl) (fun _ A1 W1 inv hall => ⟨wanted_some (g := 29) (d := 73) (b := true) rfl (by kernel_rfl) (inv.get hall 29 73 (by kernel_rfl) (by kernel_rfl)), ?_, rfl⟩)
      have h9 : A1.eval (.tmp 9) = .pointer (some ⟨w.heap.size + 1 + 1, 0, none⟩) := (inv.base 9 (by kernel_rfl)).trans rfl
      simp only [execOp, h9, Sem.run_bind, lp W1 inv.s, Result.andThen_ok, Sem.run_pure]
    · refine ostep_val (dV q) (by kernel_rfl) (fun _ A1 W1 inv hall => ⟨wanted_some (g := 29) (d := 73) (b := true) rfl (by kernel_rfl) (inv.get hall 29 73 (by kernel_rfl) (by kernel_rfl)), ?_, rfl⟩)
      have h10 : A1.eval (.tmp 10) = .pointer (some ⟨w.heap.size + 1 + 1 + 1, 0, none⟩) := (inv.base 10 (by kernel_rfl)).trans rfl
      simp only [execOp, h10, Sem.run_bind, lq W1 inv.s, Result.andThen_ok, Sem.run_pure]
    · refine ostep_val (.bool s2) (by kernel_rfl) (fun _ A1 W1 inv hall => ⟨wanted_some (g := 29) (d := 73) (b := true) rfl (by kernel_rfl) (inv.get hall 29 73 (by kernel_rfl) (by kernel_rfl)), ?_, rfl⟩)
      have h81 : A1.eval (.tmp 81) = dV p := inv.get hall 37 81 (by kernel_rfl) (by kernel_rfl)
      have h82 : A1.eval (.tmp 82) = dV q := inv.get hall 38 82 (by kernel_rfl) (by kernel_rfl)
      simp only [execOp, h81, h82, Sem.run_bind, run_eqGuard_agg W1 .eql _ _ _ _ _ guardP, qpq W1, Result.andThen_ok, Sem.run_pure]
    · refine ostep_val (.bool true) (by kernel_rfl) (fun _ A1 W1 inv hall => ⟨wanted_some (g := 29) (d := 73) (b := true) rfl (by kernel_rfl) (inv.get hall 29 73 (by kernel_rfl) (by kernel_rfl)), ?_, rfl⟩)
      have h80 : A1.eval (.tmp 80) = .bool s2 := inv.get hall 36 80 (by kernel_rfl) (by kernel_rfl)
      have h83 : A1.eval (.tmp 83) = .bool s2 := inv.get hall 39 83 (by kernel_rfl) (by kernel_rfl)
      simp only [execOp, h80, h83]
      simp [eqGuard, go_sem]
    · refine ostep_val (.bool true) (by kernel_rfl) (fun _ A1 W1 inv hall => ⟨wanted_none rfl, ?_, rfl⟩)
      have h73 : A1.eval (.tmp 73) = .bool true := inv.get hall 29 73 (by kernel_rfl) (by kernel_rfl)
      have h84 : A1.eval (.tmp 84) = .bool true := inv.get hall 40 84 (by kernel_rfl) (by kernel_rfl)
      simp only [execOp, h73, h84]
      simp [asBool]
    · refine ostep_val (.bool true) (by kernel_rfl) (fun _ A1 W1 inv hall => ⟨wanted_none rfl, ?_, rfl⟩)
      have h85 : A1.eval (.tmp 85) = .bool true := inv.get hall 41 85 (by kernel_rfl) (by kernel_rfl)
      simp only [execOp, h85, Sem.run_pure]
    · refine ostep_val (.agg #[.int .u32 u0, .int .u32 u1]) (by kernel_rfl) (fun _ A1 W1 inv hall => ⟨wanted_some (g := 42) (d := 86) (b := true) rfl (by kernel_rfl) (inv.get hall 42 86 (by kernel_rfl) (by kernel_rfl)), ?_, rfl⟩)
      have h11 : A1.eval (.tmp 11) = .pointer (some ⟨w.heap.size + 1 + 1 + 1 + 1, 0, none⟩) := (inv.base 11 (by kernel_rfl)).trans rfl
      simp only [execOp, h11, Sem.run_bind, lu W1 inv.s, Result.andThen_ok, Sem.run_pure]
    · refine ostep_call 36 (by kernel_rfl) _ _ (by kernel_rfl) rfl (fun _ A1 W1 inv hall => ⟨wanted_some (g := 42) (d := 86) (b := true) rfl (by kernel_rfl) (inv.get hall 42 86 (by kernel_rfl) (by kernel_rfl)), #[.agg #[.int .u32 u0, .int .u32 u1]], ?_, ?_⟩)
      · have h87 : A1.eval (.tmp 87) = .agg #[.int .u32 u0, .int .u32 u1] := inv.get hall 43 87 (by kernel_rfl) (by kernel_rfl)
        simp [h87]
      · refine (HUW.out _).mono ?_
        rintro e u ⟨rfl, hb⟩
        exact ⟨_, rfl, rfl, hb⟩
    · refine ostep_call 50 (by kernel_rfl) _ _ (by kernel_rfl) rfl (fun _ A1 W1 inv hall => ⟨wanted_some (g := 42) (d := 86) (b := true) rfl (by kernel_rfl) (inv.get hall 42 86 (by kernel_rfl) (by kernel_rfl)), #[.int .u64 (u0 + 4294967296 * u1)], ?_, ?_⟩)
      · have h88 : A1.eval (.tmp 88) = .int .u64 (u0 + 4294967296 * u1) := inv.get hall 44 88 (by kernel_rfl) (by kernel_rfl)
        simp [h88]
      · refine (HU.out _).mono ?_
        rintro e u ⟨rfl, hb⟩
        exact ⟨_, rfl, rfl, hb⟩
    · refine ostep_val (.agg #[.int .u32 u0, .int .u32 u1]) (by kernel_rfl) (fun _ A1 W1 inv hall => ⟨wanted_some (g := 42) (d := 86) (b := true) rfl (by kernel_rfl) (inv.get hall 42 86 (by kernel_rfl) (by kernel_rfl)), ?_, rfl⟩)
      have h11 : A1.eval (.tmp 11) = .pointer (some ⟨w.heap.size + 1 + 1 + 1 + 1, 0, none⟩) := (inv.base 11 (by kernel_rfl)).trans rfl
      simp only [execOp, h11, Sem.run_bind, lu W1 inv.s, Result.andThen_ok, Sem.run_pure]
    · refine ostep_val (.bool true) (by kernel_rfl) (fun _ A1 W1 inv hall => ⟨wanted_some (g := 42) (d := 86) (b := true) rfl (by kernel_rfl) (inv.get hall 42 86 (by kernel_rfl) (by kernel_rfl)), ?_, rfl⟩)
      have h89 : A1.eval (.tmp 89) = .agg #[.int .u32 u0, .int .u32 u1] := inv.get hall 45 89 (by kernel_rfl) (by kernel_rfl)
      have h90 : A1.eval (.tmp 90) = .agg #[.int .u32 u0, .int .u32 u1] := inv.get hall 46 90 (by kernel_rfl) (by kernel_rfl)
      simp only [execOp, h89, h90, Sem.run_bind, run_eqGuard_agg W1 .eql _ _ _ _ _ guardU, quu W1, Result.andThen_ok, Sem.run_pure]
    · refine ostep_val (.bool true) (by kernel_rfl) (fun _ A1 W1 inv hall => ⟨wanted_none rfl, ?_, rfl⟩)
      have h86 : A1.eval (.tmp 86) = .bool true := inv.get hall 42 86 (by kernel_rfl) (by kernel_rfl)
      have h91 : A1.eval (.tmp 91) = .bool true := inv.get hall 47 91 (by kernel_rfl) (by kernel_rfl)
      simp only [execOp, h86, h91]
      simp [asBool]
    · refine ostep_val (.bool true) (by kernel_rfl) (fun _ A1 W1 inv hall => ⟨wanted_none rfl, ?_, rfl⟩)
      have h92 : A1.eval (.tmp 92) = .bool true := inv.get hall 48 92 (by kernel_rfl) (by kernel_rfl)
      simp only [execOp, h92, Sem.run_pure]
    · refine ostep_val (.agg #[.int .u16 e0, .int .u16 e1]) (by kernel_rfl) (fun _ A1 W1 inv hall => ⟨wanted_some (g := 49) (d := 93) (b := true) rfl (by kernel_rfl) (inv.get hall 49 93 (by kernel_rfl) (by kernel_rfl)), ?_, rfl⟩)
      have h12 : A1.eval (.tmp 12) = .pointer (some ⟨w.heap.size + 1 + 1 + 1 + 1 + 1, 0, none⟩) := (inv.base 12 (by kernel_rfl)).trans rfl
      simp only [execOp, h12, Sem.run_bind, le W1 inv.s, Result.andThen_ok, Sem.run_pure]
    · refine ostep_call 37 (by kernel_rfl) _ _ (by kernel_rfl) rfl (fun _ A1 W1 inv hall => ⟨wanted_some (g := 49) (d := 93) (b := true) rfl (by kernel_rfl) (inv.get hall 49 93 (by kernel_rfl) (by kernel_rfl)), #[.agg #[.int .u16 e0, .int .u16 e1]], ?_, ?_⟩)
      · have h94 : A1.eval (.tmp 94) = .agg #[.int .u16 e0, .int .u16 e1] := inv.get hall 50 94 (by kernel_rfl) (by kernel_rfl)
        simp [h94]
      · refine (HEW.out _).mono ?_
        rintro e u ⟨rfl, hb⟩
        exact ⟨_, rfl, rfl, hb⟩
    · refine ostep_call 51 (by kernel_rfl) _ _ (by kernel_rfl) rfl (fun _ A1 W1 inv hall => ⟨wanted_some (g := 49) (d := 93) (b := true) rfl (by kernel_rfl) (inv.get hall 49 93 (by kernel_rfl) (by kernel_rfl)), #[.int .u64 (e0 + 65536 * e1)], ?_, ?_⟩)
      · have h95 : A1.eval (.tmp 95) = .int .u64 (e0 + 65536 * e1) := inv.get hall 51 95 (by kernel_rfl) (by kernel_rfl)
        simp [h95]
      · refine (HE.out _).mono ?_
        rintro e u ⟨rfl, hb⟩
        exact ⟨_, rfl, rfl, hb⟩
    · refine ostep_val (.agg #[.int .u16 e0, .int .u16 e1]) (by kernel_rfl) (fun _ A1 W1 inv hall => ⟨wanted_some (g := 49) (d := 93) (b := true) rfl (by kernel_rfl) (inv.get hall 49 93 (by kernel_rfl) (by kernel_rfl)), ?_, rfl⟩)
      have h12 : A1.eval (.tmp 12) = .pointer (some ⟨w.heap.size + 1 + 1 + 1 + 1 + 1, 0, none⟩) := (inv.base 12 (by kernel_rfl)).trans rfl
      simp only [execOp, h12, Sem.run_bind, le W1 inv.s, Result.andThen_ok, Sem.run_pure]
    · refine ostep_val (.bool true) (by kernel_rfl) (fun _ A1 W1 inv hall => ⟨wanted_some (g := 49) (d := 93) (b := true) rfl (by kernel_rfl) (inv.get hall 49 93 (by kernel_rfl) (by kernel_rfl)), ?_, rfl⟩)
      have h96 : A1.eval (.tmp 96) = .agg #[.int .u16 e0, .int .u16 e1] := inv.get hall 52 96 (by kernel_rfl) (by kernel_rfl)
      have h97 : A1.eval (.tmp 97) = .agg #[.int .u16 e0, .int .u16 e1] := inv.get hall 53 97 (by kernel_rfl) (by kernel_rfl)
      simp only [execOp, h96, h97, Sem.run_bind, run_eqGuard_agg W1 .eql _ _ _ _ _ guardE, qee W1, Result.andThen_ok, Sem.run_pure]
    · refine ostep_val (.bool true) (by kernel_rfl) (fun _ A1 W1 inv hall => ⟨wanted_none rfl, ?_, rfl⟩)
      have h93 : A1.eval (.tmp 93) = .bool true := inv.get hall 49 93 (by kernel_rfl) (by kernel_rfl)
      have h98 : A1.eval (.tmp 98) = .bool true := inv.get hall 54 98 (by kernel_rfl) (by kernel_rfl)
      simp only [execOp, h93, h98]
      simp [asBool]
    · refine ostep_val (.bool true) (by kernel_rfl) (fun _ A1 W1 inv hall => ⟨wanted_none rfl, ?_, rfl⟩)
      have h99 : A1.eval (.tmp 99) = .bool true := inv.get hall 55 99 (by kernel_rfl) (by kernel_rfl)
      simp only [execOp, h99, Sem.run_pure]
    · refine ostep_val (.agg #[.int .u16 e0, .int .u16 e1]) (by kernel_rfl) (fun _ A1 W1 inv hall => ⟨wanted_some (g := 56) (d := 100) (b := true) rfl (by kernel_rfl) (inv.get hall 56 100 (by kernel_rfl) (by kernel_rfl)), ?_, rfl⟩)
      have h12 : A1.eval (.tmp 12) = .pointer (some ⟨w.heap.size + 1 + 1 + 1 + 1 + 1, 0, none⟩) := (inv.base 12 (by kernel_rfl)).trans rfl
      simp only [execOp, h12, Sem.run_bind, le W1 inv.s, Result.andThen_ok, Sem.run_pure]
    · refine ostep_call 37 (by kernel_rfl) _ _ (by kernel_rfl) rfl (fun _ A1 W1 inv hall => ⟨wanted_some (g := 56) (d := 100) (b := true) rfl (by kernel_rfl) (inv.get hall 56 100 (by kernel_rfl) (by kernel_rfl)), #[.agg #[.int .u16 e0, .int .u16 e1]], ?_, ?_⟩)
      · have h101 : A1.eval (.tmp 101) = .agg #[.int .u16 e0, .int .u16 e1] := inv.get hall 57 101 (by kernel_rfl) (by kernel_rfl)
        simp [h101]
      · refine (HEW.out _).mono ?_
        rintro e u ⟨rfl, hb⟩
        exact ⟨_, rfl, rfl, hb⟩
    · refine ostep_val (.bool true) (by kernel_rfl) (fun _ A1 W1 inv hall => ⟨wanted_some (g := 56) (d := 100) (b := true) rfl (by kernel_rfl) (inv.get hall 56 100 (by kernel_rfl) (by kernel_rfl)), ?_, rfl⟩)
      have h102 : A1.eval (.tmp 102) = .int .u64 (e0 + 65536 * e1) := inv.get hall 58 102 (by kernel_rfl) (by kernel_rfl)
      have hev4 := E4.out
      simp only [execOp, h102, eval_const]
      simp [go_sem, hev4]
    · refine ostep_val (.bool true) (by kernel_rfl) (fun _ A1 W1 inv hall => ⟨wanted_none rfl, ?_, rfl⟩)
      have h100 : A1.eval (.tmp 100) = .bool true := inv.get hall 56 100 (by kernel_rfl) (by kernel_rfl)
      have h103 : A1.eval (.tmp 103) = .bool true := inv.get hall 59 103 (by kernel_rfl) (by kernel_rfl)
      simp only [execOp, h100, h103]
      simp [asBool]
    · refine ostep_val (.bool true) (by kernel_rfl) (fun _ A1 W1 inv hall => ⟨wanted_none rfl, ?_, rfl⟩)
      have h104 : A1.eval (.tmp 104) = .bool true := inv.get hall 60 104 (by kernel_rfl) (by kernel_rfl)
      simp only [execOp, h104, Sem.run_pure]
    · refine ostep_val (.int .i64 0) (by kernel_rfl) (fun _ A1 W1 inv hall => ⟨wanted_some (g := 61) (d := 105) (b := true) rfl (by kernel_rfl) (inv.get hall 61 105 (by kernel_rfl) (by kernel_rfl)), ?_, rfl⟩)
      have h20 : A1.eval (.tmp 20) = .int .i64 0 := (inv.base 20 (by kernel_rfl)).trans rfl
      simp only [execOp, h20, Sem.run_pure]
    · refine ostep_val (.bool true) (by kernel_rfl) (fun _ A1 W1 inv hall => ⟨wanted_some (g := 61) (d := 105) (b := true) rfl (by kernel_rfl) (inv.get hall 61 105 (by kernel_rfl) (by kernel_rfl)), ?_, rfl⟩)
      have h106 : A1.eval (.tmp 106) = .int .i64 0 := inv.get hall 62 106 (by kernel_rfl) (by kernel_rfl)
      simp only [execOp, h106, eval_const]
      simp [eqGuard, go_sem]
    · refine ostep_val (.bool true) (by kernel_rfl) (fun _ A1 W1 inv hall => ⟨wanted_none rfl, ?_, rfl⟩)
      have h105 : A1.eval (.tmp 105) = .bool true := inv.get hall 61 105 (by kernel_rfl) (by kernel_rfl)
      have h107 : A1.eval (.tmp 107) = .bool true := inv.get hall 63 107 (by kernel_rfl) (by kernel_rfl)
      simp only [execOp, h105, h107]
      simp [asBool]
    · refine ostep_val (.bool true) (by kernel_rfl) (fun _ A1 W1 inv hall => ⟨wanted_none rfl, ?_, rfl⟩)
      have h108 : A1.eval (.tmp 108) = .bool true := inv.get hall 64 108 (by kernel_rfl) (by kernel_rfl)
      simp only [execOp, h108, Sem.run_pure]
    · refine ostep_val (mv) (by kernel_rfl) (fun _ A1 W1 inv hall => ⟨wanted_some (g := 65) (d := 109) (b := true) rfl (by kernel_rfl) (inv.get hall 65 109 (by kernel_rfl) (by kernel_rfl)), ?_, rfl⟩)
      have h19 : A1.eval (.tmp 19) = mv := (inv.base 19 (by kernel_rfl)).trans rfl
      simp only [execOp, h19, Sem.run_pure]
    · refine ostep_val (.slice va L.length vc) (by kernel_rfl) (fun _ A1 W1 inv hall => ⟨wanted_some (g := 65) (d := 109) (b := true) rfl (by kernel_rfl) (inv.get hall 65 109 (by kernel_rfl) (by kernel_rfl)), ?_, rfl⟩)
      have h6 : A1.eval (.tmp 6) = .slice va L.length vc := (inv.base 6 (by kernel_rfl)).trans rfl
      simp only [execOp, h6, Sem.run_pure]
    · refine ostep_call 43 (by kernel_rfl) _ _ (by kernel_rfl) rfl (fun _ A1 W1 inv hall => ⟨wanted_some (g := 65) (d := 109) (b := true) rfl (by kernel_rfl) (inv.get hall 65 109 (by kernel_rfl) (by kernel_rfl)), #[mv, .slice va L.length vc], ?_, ?_⟩)
      · have h110 : A1.eval (.tmp 110) = mv := inv.get hall 66 110 (by kernel_rfl) (by kernel_rfl)
        have h111 : A1.eval (.tmp 111) = .slice va L.length vc := inv.get hall 67 111 (by kernel_rfl) (by kernel_rfl)
        simp [h110, h111]
      · refine (samed_any _ _ L _ (D7.out.below inv.s) ((HV.out.below B7.out).below inv.s) (Nat.le_trans H3.out (by omega))).mono ?_
        rintro e u ⟨rfl, hb⟩
        exact ⟨_, rfl, rfl, hb⟩
    · refine ostep_val (.bool true) (by kernel_rfl) (fun _ A1 W1 inv hall => ⟨wanted_none rfl, ?_, rfl⟩)
      have h109 : A1.eval (.tmp 109) = .bool true := inv.get hall 65 109 (by kernel_rfl) (by kernel_rfl)
      have h112 : A1.eval (.tmp 112) = .bool true := inv.get hall 68 112 (by kernel_rfl) (by kernel_rfl)
      simp only [execOp, h109, h112]
      simp [asBool]
    · refine ostep_val (.bool true) (by kernel_rfl) (fun _ A1 W1 inv hall => ⟨wanted_none rfl, ?_, rfl⟩)
      have h113 : A1.eval (.tmp 113) = .bool true := inv.get hall 69 113 (by kernel_rfl) (by kernel_rfl)
      simp only [execOp, h113, Sem.run_pure]
    · refine ostep_val (.slice va L.length vc) (by kernel_rfl) (fun _ A1 W1 inv hall => ⟨wanted_some (g := 70) (d := 114) (b := true) rfl (by kernel_rfl) (inv.get hall 70 114 (by kernel_rfl) (by kernel_rfl)), ?_, rfl⟩)
      have h6 : A1.eval (.tmp 6) = .slice va L.length vc := (inv.base 6 (by kernel_rfl)).trans rfl
      simp only [execOp, h6, Sem.run_pure]
    · refine ostep_call 54 (by kernel_rfl) _ _ (by kernel_rfl) rfl (fun _ A1 W1 inv hall => ⟨wanted_some (g := 70) (d := 114) (b := true) rfl (by kernel_rfl) (inv.get hall 70 114 (by kernel_rfl) (by kernel_rfl)), #[.slice va L.length vc], ?_, ?_⟩)
      · have h115 : A1.eval (.tmp 115) = .slice va L.length vc := inv.get hall 71 115 (by kernel_rfl) (by kernel_rfl)
        simp [h115]
      · refine (table_ex _ L _ ((HV.out.below B7.out).below inv.s) HL.out H3.out).mono ?_
        rintro e u ⟨b0, rfl, _, hr, hb⟩
        exact ⟨_, rfl, ⟨b0, rfl, hr⟩, hb⟩
    · refine ostep_val (.int .i64 (16 * (L.length : Int))) (by kernel_rfl) (fun _ A1 W1 inv hall => ⟨wanted_some (g := 70) (d := 114) (b := true) rfl (by kernel_rfl) (inv.get hall 70 114 (by kernel_rfl) (by kernel_rfl)), ?_, rfl⟩)
      have h116 : (rowP 5 (16 * L.length) (tabB L)) (A1.eval (.tmp 116)) W1 := inv.get hall 72 116 (by kernel_rfl) (by kernel_rfl)
      obtain ⟨b0, hv, hr⟩ := h116
      simp only [execOp, resolve, List.map_toArray, List.map_cons, List.map_nil, hv]
      simp [invoke, builtin, go_sem]
    · refine ostep_val (.slice va L.length vc) (by kernel_rfl) (fun _ A1 W1 inv hall => ⟨wanted_some (g := 70) (d := 114) (b := true) rfl (by kernel_rfl) (inv.get hall 70 114 (by kernel_rfl) (by kernel_rfl)), ?_, rfl⟩)
      have h6 : A1.eval (.tmp 6) = .slice va L.length vc := (inv.base 6 (by kernel_rfl)).trans rfl
      simp only [execOp, h6, Sem.run_pure]
    · refine ostep_val (.int .i64 (L.length : Int)) (by kernel_rfl) (fun _ A1 W1 inv hall => ⟨wanted_some (g := 70) (d := 114) (b := true) rfl (by kernel_rfl) (inv.get hall 70 114 (by kernel_rfl) (by kernel_rfl)), ?_, rfl⟩)
      have h118 : A1.eval (.tmp 118) = .slice va L.length vc := inv.get hall 74 118 (by kernel_rfl) (by kernel_rfl)
      simp only [execOp, resolve, List.map_toArray, List.map_cons, List.map_nil, h118]
      simp [invoke, builtin, go_sem]
    · refine ostep_val (.int .i64 (16 * (L.length : Int))) (by kernel_rfl) (fun _ A1 W1 inv hall => ⟨wanted_some (g := 70) (d := 114) (b := true) rfl (by kernel_rfl) (inv.get hall 70 114 (by kernel_rfl) (by kernel_rfl)), ?_, rfl⟩)
      have h119 : A1.eval (.tmp 119) = .int .i64 (L.length : Int) := inv.get hall 75 119 (by kernel_rfl) (by kernel_rfl)
      have hw16 : IntKind.i64.wrap (16 * (L.length : Int)) = 16 * (L.length : Int) := IntWalk.i64_in _ (by omega)
      simp only [execOp, h119, eval_const]
      simp [go_sem, hw16]
    · refine ostep_val (.bool true) (by kernel_rfl) (fun _ A1 W1 inv hall => ⟨wanted_some (g := 70) (d := 114) (b := true) rfl (by kernel_rfl) (inv.get hall 70 114 (by kernel_rfl) (by kernel_rfl)), ?_, rfl⟩)
      have h117 : A1.eval (.tmp 117) = .int .i64 (16 * (L.length : Int)) := inv.get hall 73 117 (by kernel_rfl) (by kernel_rfl)
      have h120 : A1.eval (.tmp 120) = .int .i64 (16 * (L.length : Int)) := inv.get hall 76 120 (by kernel_rfl) (by kernel_rfl)
      simp only [execOp, h117, h120]
      simp [eqGuard, go_sem]
    · refine ostep_val (.bool true) (by kernel_rfl) (fun _ A1 W1 inv hall => ⟨wanted_none rfl, ?_, rfl⟩)
      have h114 : A1.eval (.tmp 114) = .bool true := inv.get hall 70 114 (by kernel_rfl) (by kernel_rfl)
      have h121 : A1.eval (.tmp 121) = .bool true := inv.get hall 77 121 (by kernel_rfl) (by kernel_rfl)
      simp only [execOp, h114, h121]
      simp [asBool]
    · refine ostep_val (.bool true) (by kernel_rfl) (fun _ A1 W1 inv hall => ⟨wanted_none rfl, ?_, rfl⟩)
      have h122 : A1.eval (.tmp 122) = .bool true := inv.get hall 78 122 (by kernel_rfl) (by kernel_rfl)
      simp only [execOp, h122, Sem.run_pure]
  · intro listed A1 W1 inv hall
    have hlast : A1.eval (.tmp 14) = .bool true := inv.fin 79 14 (by kernel_rfl) (hall 79 (Nat.lt_of_lt_of_eq (by decide : 79 < 80) (by kernel_rfl)))
    refine (by assumption : ∀ (a : Act) (w : World), Code.wp Try.prog Code.ret _ a w → _) A1 W1 ?_
    go_wp2_with fail
    simp only [Act.eval, Array.getD_eq_getD_getElem?] at hlast
    exact bodyPost_ret (v := .bool true) (by simp [results, Try.results6, go_sem, hlast]) inv.dfr ⟨rfl, below_more B7.out inv.s⟩

theorem walk (w : World) (a b p q : Dsc) (u0 u1 e0 e1 : Int) (v : Value) (L : List Dsc) (hv : DescsAt w v L) (hL : isDscs L) (hm : L.length ≤ maxLen) (ha : isDsc a) (hb : isDsc b) (hp : isDsc p) (hq : isDsc q) (g0 : 0 ≤ u0 ∧ u0 < 4294967296) (g1 : 0 ≤ u1 ∧ u1 < 4294967296) (k0 : 0 ≤ e0 ∧ e0 < 65536) (k1 : 0 ≤ e1 ∧ e1 < 65536) :
    Calls Try.prog 6 #[dV a, dV b, dV p, dV q, .agg #[.int .u32 u0, .int .u32 u1], .agg #[.int .u16 e0, .int .u16 e1], v] w fun e w' => e = .returned (.bool true) ∧ Below w.heap.size w w' := by
  obtain ⟨va, vc, rfl⟩ := hv.len
  by_cases h300 : L.length ≤ 300
  · exact walk_main w a b p q u0 u1 e0 e1 va vc L hv hL h300 ha hb hp hq g0 g1 k0 k1
  · exact walk_long w a b p q u0 u1 e0 e1 va vc L (by omega) hm

/-! ### the row's frame -/
theorem own : ownKnob Try.prog.godebug = none := by kernel_rfl
theorem laidOut : laidOutB Try.prog = true := by kernel_rfl

set_option maxRecDepth 100000 in
theorem lifted (os : Os) (started : os.Started) (H : Type) (enc : TypeId × Value → H) :
    ReturnsInHanded {} Try.checked os 6 .any (Rows.descBackSpec.pre6 enc Try.prog Try.f6 Rows.descBackRow.domain false) (Rows.descBackSpec.post enc Try.prog Try.f6 false true false false) := by
  refine returnsInHanded_of_change (C := Try.checked) own started (by kernel_rfl) Try.func6
    (ChangeSpec.witness6 (enc := enc) (C := Try.checked) false ⟨#[], #[.agg #[.int .u64 0, .int .u32 0, .int .u16 0, .int .u16 0], .agg #[.int .u64 0, .int .u32 0, .int .u16 0, .int .u16 0], .agg #[.int .u64 0, .int .u32 0, .int .u16 0, .int .u16 0], .agg #[.int .u64 0, .int .u32 0, .int .u16 0, .int .u16 0], .agg #[.int .u32 0, .int .u32 0], .agg #[.int .u16 0, .int .u16 0], .slice none 0 0], []⟩ 8 (by kernel_rfl) (by kernel_rfl) (by kernel_rfl) (by kernel_rfl)) ?_
  intro W base args ds gs before hval0 hW hcnd _
  have hval : ∀ (j : Nat) t v, Try.f6.params[j]? = some t → args[j]? = some v → Value.okWide Try.prog W .any base t v := hval0
  have hW' := hW
  obtain ⟨p, q, hA0, hV, rfl, hfz, hnd⟩ := hW
  have hA : DataW.TrodAll enc Try.prog W 0 (fun _ => true) true Try.f6.params.toList args.toList ds p := hA0
  rw [Try.params6] at hA hval
  obtain ⟨v0, vs0, d0, ds0, p0, q0, hargs, rfl, rfl, h0, r0⟩ := trodAll_cons hA
  obtain ⟨v1, vs1, d1, ds1, p1, q1, rfl, rfl, rfl, h1, r1⟩ := trodAll_cons r0
  obtain ⟨v2, vs2, d2, ds2, p2, q2, rfl, rfl, rfl, h2, r2⟩ := trodAll_cons r1
  obtain ⟨v3, vs3, d3, ds3, p3, q3, rfl, rfl, rfl, h3, r3⟩ := trodAll_cons r2
  obtain ⟨v4, vs4, d4, ds4, p4, q4, rfl, rfl, rfl, h4, r4⟩ := trodAll_cons r3
  obtain ⟨v5, vs5, d5, ds5, p5, q5, rfl, rfl, rfl, h5, r5⟩ := trodAll_cons r4
  obtain ⟨v6, vs6, d6, ds6, p6, q6, rfl, rfl, rfl, h6, r6⟩ := trodAll_cons r5
  obtain ⟨rfl, rfl, rfl⟩ := trodAll_nil r6
  obtain rfl : args = #[v0, v1, v2, v3, v4, v5, v6] := by cases args; simp_all
  obtain ⟨rfl, rfl⟩ := trodVars_none hV
  have k0 := h0
  have lt0 : ∀ x ∈ p0, x.block < W.heap.size := by
    obtain ⟨m, hm⟩ := k0
    exact DataW.trod_lt m _ _ _ hm
  have k1 := h1
  have lt1 : ∀ x ∈ p1, x.block < W.heap.size := by
    obtain ⟨m, hm⟩ := k1
    exact DataW.trod_lt m _ _ _ hm
  have k2 := h2
  have lt2 : ∀ x ∈ p2, x.block < W.heap.size := by
    obtain ⟨m, hm⟩ := k2
    exact DataW.trod_lt m _ _ _ hm
  have k3 := h3
  have lt3 : ∀ x ∈ p3, x.block < W.heap.size := by
    obtain ⟨m, hm⟩ := k3
    exact DataW.trod_lt m _ _ _ hm
  have k4 := h4
  have lt4 : ∀ x ∈ p4, x.block < W.heap.size := by
    obtain ⟨m, hm⟩ := k4
    exact DataW.trod_lt m _ _ _ hm
  have k5 := h5
  have lt5 : ∀ x ∈ p5, x.block < W.heap.size := by
    obtain ⟨m, hm⟩ := k5
    exact DataW.trod_lt m _ _ _ hm
  have k6 := h6
  have lt6 : ∀ x ∈ p6, x.block < W.heap.size := by
    obtain ⟨m, hm⟩ := k6
    exact DataW.trod_lt m _ _ _ hm
  obtain ⟨a0, rfl, w0⟩ := open_dsc (hval 0 56 v0 rfl rfl) h0
  obtain ⟨a1, rfl, w1⟩ := open_dsc (hval 1 56 v1 rfl rfl) h1
  obtain ⟨a2, rfl, w2⟩ := open_pck (hval 2 60 v2 rfl rfl) h2
  obtain ⟨a3, rfl, w3⟩ := open_pck (hval 3 60 v3 rfl rfl) h3
  obtain ⟨a4, b4, rfl, w4, z4⟩ := open_used (hval 4 68 v4 rfl rfl) h4
  obtain ⟨a5, b5, rfl, w5, z5⟩ := open_event (hval 5 71 v5 rfl rfl) h5
  obtain ⟨l6, hv6, hb6, hm6⟩ := open_descs (hval 6 63 v6 rfl rfl) h6
  clear hA0 hval0
  refine (walk W a0 a1 a2 a3 a4 b4 a5 b5 v6 l6 hv6 hb6 hm6 w0 w1 w2 w3 w4 z4 w5 z5).mono fun e W' ⟨he, bel⟩ => ?_
  subst he
  exact ⟨_, rfl, _, _, _, [], _, [], hW', trodAll_mk1 (shut_bool Try.underlying4 _), (trodAll_cons_mk (Below.trod laidOut (by kernel_rfl) (of_decide_eq_true (by kernel_rfl)) k0 bel lt0) (trodAll_cons_mk (Below.trod laidOut (by kernel_rfl) (of_decide_eq_true (by kernel_rfl)) k1 bel lt1) (trodAll_cons_mk (Below.trod laidOut (by kernel_rfl) (of_decide_eq_true (by kernel_rfl)) k2 bel lt2) (trodAll_cons_mk (Below.trod laidOut (by kernel_rfl) (of_decide_eq_true (by kernel_rfl)) k3 bel lt3) (trodAll_cons_mk (Below.trod laidOut (by kernel_rfl) (of_decide_eq_true (by kernel_rfl)) k4 bel lt4) (trodAll_cons_mk (Below.trod laidOut (by kernel_rfl) (of_decide_eq_true (by kernel_rfl)) k5 bel lt5) (trodAll_cons_mk (Below.trod laidOut (by kernel_rfl) (of_decide_eq_true (by kernel_rfl)) k6 bel lt6) trodAll_mk0))))))), rfl, bel.frame _, fun h => by cases h⟩

theorem over : Rows.descBackRow.holds Try.pinned (OpenSpec.ofChange Rows.descBackSpec) :=
  OpenClaim.holds_of_wide 6 Try.f6 rfl rfl rfl rfl rfl rfl rfl ⟨rfl, rfl, rfl, rfl, rfl⟩ rfl rfl rfl rfl rfl (by kernel_rfl) Try.func6 (by kernel_rfl)
    (of_decide_eq_true (by kernel_rfl)) (by unfold Func.isWrapper; first | (rw [if_pos (by decide +kernel)]; kernel_rfl) | (rw [if_neg (by decide +kernel)]; exact ⟨rfl, rfl⟩))
    (fun os started H enc _ => lifted os started H enc)

/-- THE STATEMENT -/
theorem descBack_holds : Rows.DescBackSaid := over
#print axioms descBack_holds
end Go.Proofs.Ytfjccpalkdmniaa.descBack
