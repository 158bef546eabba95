/-
  PROVED: dumbwaiterlaw03.DescCalls returns true for any descriptor, packed one, word, bytes, list and flags, and what was in memory stays as it was. Conditions: none.
-/
import Derived.Test.YtfjccpalkdmniaaRows
import Derived.Test.YtfjccpalkdmniaaDsc6
import Derived.Test.YtfjccpalkdmniaaDsc12
import Derived.Test.YtfjccpalkdmniaaRd5
import Derived.Test.YtfjccpalkdmniaaRd4
import Derived.Test.YtfjccpalkdmniaaRd2
import Derived.Test.YtfjccpalkdmniaaOwn
import Derived.WalkKit
import Derived.ProofKit
import Derived.OpenShut
import Derived.ShutString
import Derived.ChangeOld
import Derived.Below
import Derived.Carry
import Derived.Lib.SmallJoins
namespace Go.Proofs.Ytfjccpalkdmniaa.descCalls
open Go.ChangeShapes Go.WideShapes Go.ChangeAt Go.RowKit
set_option linter.unusedVariables false


structure Box2 (w : World) (B : Nat) (d p : Dsc) : Prop where
  fd : at4 w B 0 d
  fp : at4 w (B + 1) 0 p
theorem Box2.below {w w' : World} {B : Nat} {d p : Dsc} {C : Nat} (h : Box2 w B d p) (hb : Below C w w') (hB : B + 2 ≤ C) : Box2 w' B d p := ⟨h.fd.below hb (by omega), h.fp.below hb (by omega)⟩
/-- four cells of a block, kept -/
structure Has4 (w : World) (b : Nat) (d : Dsc) : Prop where
  c : at4 w b 0 d
  lt : b < w.heap.size
theorem Has4.below {w w' : World} {b : Nat} {d : Dsc} (h : Has4 w b d) (hb : Below w.heap.size w w') : Has4 w' b d := ⟨h.c.below hb h.lt, Nat.lt_of_lt_of_le h.lt hb.size⟩
theorem Has4.new {w w' : World} {d : Dsc} {t : TypeId} (hb : Below (w.alloc (.cells (dC d).toArray t)).heap.size (w.alloc (.cells (dC d).toArray t)) w') : Has4 w' w.heap.size d :=
  ⟨at4.below ⟨by simp [go_sem], by simp [go_sem], by simp [go_sem], by simp [go_sem]⟩ hb (by rw [sizeA]; omega), by have := hb.size; rw [sizeA] at this; omega⟩
def ownP (l : List Int) (v : Value) (w : World) : Prop := ∃ B, OwnB w B v l
theorem up_ownP (l : List Int) : Up (ownP l) := fun v w w' hb ⟨B, h⟩ => ⟨B, ownsRow_below h hb⟩
theorem conv_ownP {l : List Int} {v : Value} {w : World} (h : ownP l v w) : (convert 37 9 v).run Try.prog w = .ok (.string (strOfNums l)) w := by
  obtain ⟨B, h⟩ := h
  exact convN (newBytes_of h)

set_option maxRecDepth 100000 in
set_option maxHeartbeats 2000000 in
theorem walk_long (w : World) (d p : Dsc) (x f : Int) (va vb : Option Addr) (vc vd : Nat) (l : List Int) (L : List Dsc) (cw cu : Bool) (h : 5000 < l.length ∨ l.length ≤ 5000 ∧ 300 < L.length) :
    Calls Try.prog 5 #[dV d, dV p, .int .u64 x, .slice va l.length vc, .slice vb L.length vd, .int .u16 f, .bool cw, .bool cu] w fun e w' => e = .returned (.bool true) ∧ Below w.heap.size w w' := by
  rcases h with h | ⟨h, h2⟩
  · have hi : (5000 : Int) < (l.length : Int) := by omega
    go_enter Try.func5, Try.ntmps5
    go_wp2_with fail
    refine (lives3_any _).mono ?_
    rintro e w1 ⟨rfl, hb1⟩
    have hb : Below w.heap.size w w1 := Below.trans (by repeat (first | exact Below.refl _ _ | (refine Below.alloc ?_ (by first | (simp; done) | (simp; omega)) _))) (hb1.mono (by simp only [sizeA]; omega))
    have HB := hid_mk hb
    clear hb hb1
    go_wp2_with fail
    go_ret
    exact ⟨rfl, HB.out⟩
  · have hi : (l.length : Int) ≤ 5000 := by omega
    have hi2 : (300 : Int) < (L.length : Int) := by omega
    go_enter Try.func5, Try.ntmps5
    go_wp2_with fail
    refine (lives3_any _).mono ?_
    rintro e w1 ⟨rfl, hb1⟩
    have hb : Below w.heap.size w w1 := Below.trans (by repeat (first | exact Below.refl _ _ | (refine Below.alloc ?_ (by first | (simp; done) | (simp; omega)) _))) (hb1.mono (by simp only [sizeA]; omega))
    have HB := hid_mk hb
    clear hb hb1
    go_wp2_with fail
    go_ret
    exact ⟨rfl, HB.out⟩

set_option maxRecDepth 100000 in
set_option maxHeartbeats 4000000 in
theorem walk_main (w : World) (d p : Dsc) (x : Int) (n : Nat) (va vb : Option Addr) (vc vd : Nat) (l : List Int) (L : List Dsc) (cw cu : Bool) (hvl : BytesAt w (.slice va l.length vc) l) (hB : isBytes l) (hl5 : l.length ≤ 5000) (hv : DescsAt w (.slice vb L.length vd) L) (hL : isDscs L) (h300 : L.length ≤ 300) (hd : isDsc d) (hp : isDsc p) (hx : 0 ≤ x ∧ x < 18446744073709551616) (hn : n < 65536) :
    Calls Try.prog 5 #[dV d, dV p, .int .u64 x, .slice va l.length vc, .slice vb L.length vd, .int .u16 n, .bool cw, .bool cu] w fun e w' => e = .returned (.bool true) ∧ Below w.heap.size w w' := by
  have hi1 : (l.length : Int) ≤ 5000 := by omega
  have hi2 : (L.length : Int) ≤ 300 := by omega
  have HV := hid_mk hv
  have HVL := hid_mk hvl
  have HBY := hid_mk hB
  have H5 := hid_mk hl5
  have HD := hid_mk hd
  have HP := hid_mk hp
  have HL := hid_mk hL
  have H3 := hid_mk h300
  have HX := hid_mk hx
  have HN := hid_mk hn
  have qnd : ∀ u, (binOp .neq 56 (dV (rdD l)) (dV (rdD l))).run Try.prog u = .ok (.bool false) u := fun u => by
    rw [run_neq_struct, run_equalIn_agg u 9999 56 _ _ fieldsD stoodD]
    have h := eqD (rdD l) (rdD l) u
    rw [run_eql_struct, run_equalIn_agg u 9999 56 _ _ fieldsD stoodD, sameD_self] at h
    cases hr : (Op.eqFields 9999 #[.int .u64 (rdD l).a, .int .u32 (rdD l).l, .int .u16 (rdD l).f, .int .u16 (rdD l).n] #[.int .u64 (rdD l).a, .int .u32 (rdD l).l, .int .u16 (rdD l).f, .int .u16 (rdD l).n] (Try.prog.fieldsOf 56).toList).run Try.prog u with
    | ok b w' =>
      rw [hr] at h
      simp [Result.andThen] at h
      obtain ⟨rfl, rfl⟩ := h
      rfl
    | halt a b =>
      rw [hr] at h
      simp [Result.andThen] at h
  have qnp : ∀ u, (binOp .neq 60 (dV (rdD l)) (dV (rdD l))).run Try.prog u = .ok (.bool false) u := fun u => by
    rw [run_neq_struct, run_equalIn_agg u 9999 60 _ _ fieldsP stoodP]
    have h := eqP (rdD l) (rdD l) u
    rw [run_eql_struct, run_equalIn_agg u 9999 60 _ _ fieldsP stoodP, sameD_self] at h
    cases hr : (Op.eqFields 9999 #[.int .u64 (rdD l).a, .int .u32 (rdD l).l, .int .u16 (rdD l).f, .int .u16 (rdD l).n] #[.int .u64 (rdD l).a, .int .u32 (rdD l).l, .int .u16 (rdD l).f, .int .u16 (rdD l).n] (Try.prog.fieldsOf 60).toList).run Try.prog u with
    | ok b w' =>
      rw [hr] at h
      simp [Result.andThen] at h
      obtain ⟨rfl, rfl⟩ := h
      rfl
    | halt a b =>
      rw [hr] at h
      simp [Result.andThen] at h
  obtain ⟨u0, hu0⟩ : ∃ u, u = x % 4294967296 := ⟨_, rfl⟩
  obtain ⟨u1, hu1⟩ : ∃ u, u = x / 4294967296 := ⟨_, rfl⟩
  obtain ⟨e0, he0⟩ : ∃ u, u = x % 65536 := ⟨_, rfl⟩
  obtain ⟨e1, he1⟩ : ∃ u, u = x / 65536 % 65536 := ⟨_, rfl⟩
  have HU1 := hid_mk (fun (u : World) => by have h := readUsed_any x u hx; rw [← hu0, ← hu1] at h; exact h)
  have HU2 := hid_mk (fun (u : World) => by have h := rreadUsed_any x u hx; rw [← hu0, ← hu1] at h; exact h)
  have HE1 := hid_mk (fun (u : World) => by have h := readEvent_any x u hx; rw [← he0, ← he1] at h; exact h)
  have HE2 := hid_mk (fun (u : World) => by have h := rreadEvent_any x u hx; rw [← he0, ← he1] at h; exact h)
  have HW1 := hid_mk (fun (u : World) => usedWord_any u0 u1 u (by omega) (by omega))
  have HW2 := hid_mk (fun (u : World) => rusedWord_any u0 u1 u (by omega) (by omega))
  have HV1 := hid_mk (fun (u : World) => eventWord_any e0 e1 u (by omega) (by omega))
  have HV2 := hid_mk (fun (u : World) => reventWord_any e0 e1 u (by omega) (by omega))
  have quu : ∀ u, (binOp .eql 68 (.agg #[.int .u32 u0, .int .u32 u1]) (.agg #[.int .u32 u0, .int .u32 u1])).run Try.prog u = .ok (.bool true) u := fun u => by rw [eqU]; simp
  have qee : ∀ u, (binOp .eql 71 (.agg #[.int .u16 e0, .int .u16 e1]) (.agg #[.int .u16 e0, .int .u16 e1])).run Try.prog u = .ok (.bool true) u := fun u => by rw [eqE]; simp
  clear hv hvl hB hl5 hd hp hL h300 hx hn hu0 hu1 he0 he1
  go_enter Try.func5, Try.ntmps5
  go_wp2_with fail
  refine (lives3_any _).mono ?_
  rintro e w1 ⟨rfl, hb1⟩
  have hbel : Below w.heap.size w w1 := Below.trans (by repeat (first | exact Below.refl _ _ | (refine Below.alloc ?_ (by first | (simp; done) | (simp; omega)) _))) (hb1.mono (by simp only [sizeA]; omega))
  have hsz := hb1.size
  simp only [sizeA] at hsz
  have hbx : Box2 w1 w.heap.size d p := Box2.below (C := w.heap.size + 2) ⟨⟨by simp [go_sem], by simp [go_sem], by simp [go_sem], by simp [go_sem]⟩, ⟨by simp [go_sem], by simp [go_sem], by simp [go_sem], by simp [go_sem]⟩⟩ (hb1.mono (by simp only [sizeA]; omega)) (Nat.le_refl _)
  have B1 := hid_mk hbel
  have BX1 := hid_mk hbx
  have hz : w.heap.size + 2 ≤ w1.heap.size := by omega
  have Z1 := hid_mk hz
  clear hbel hbx hb1 hsz hz
  go_wp2_with fail
  refine (own_any _ l _ (HVL.out.below B1.out) (Nat.le_trans H5.out (by omega))).mono ?_
  rintro e w2 ⟨vo1, rfl, hn1, hbn⟩
  have B2 := hid_mk (below_more B1.out hbn)
  have hbk : Below w1.heap.size w1 w2 := hbn
  have BX2 := hid_mk (BX1.out.below hbk Z1.out)
  have Z2 := hid_mk (Nat.le_trans Z1.out hbk.size)
  have N2 := hid_mk hn1
  clear hn1
  clear hbn hbk
  go_wp2_with fail
  refine (dread_any vo1 l _ N2.out.at HBY.out (Nat.le_trans H5.out (by omega))).mono ?_
  rintro e w3 ⟨rfl, hbn⟩
  have B3 := hid_mk (below_more B2.out hbn)
  have hbk : Below w2.heap.size w2 w3 := hbn
  have BX3 := hid_mk (BX2.out.below hbk Z2.out)
  have Z3 := hid_mk (Nat.le_trans Z2.out hbk.size)
  clear hbn hbk
  go_wp2_with fail
  refine (rdread_any _ l _ (HVL.out.below (B3.out.alloc B3.out.size _)) HBY.out (Nat.le_trans H5.out (by omega))).mono ?_
  rintro e w4 ⟨rfl, hbn⟩
  have B4 := hid_mk (below_new B3.out hbn)
  have hbk : Below w3.heap.size w3 w4 := (((Below.refl _ _).alloc (Nat.le_refl _) _).trans (hbn.mono (by rw [sizeA]; exact Nat.le_succ _)))
  have BX4 := hid_mk (BX3.out.below hbk Z3.out)
  have Z4 := hid_mk (Nat.le_trans Z3.out hbk.size)
  obtain ⟨bX, hbX⟩ : ∃ b, b = w3.heap.size := ⟨_, rfl⟩
  have X4 := hid_mk (show Has4 w4 bX (rdD l) by rw [hbX]; exact Has4.new hbn)
  rw [← hbX]
  clear hbX
  clear hbn hbk
  go_wp2_with fail
  refine (own_any _ l _ (HVL.out.below (B4.out.alloc B4.out.size _)) (Nat.le_trans H5.out (by omega))).mono ?_
  rintro e w5 ⟨vo2, rfl, hn1, hbn⟩
  have B5 := hid_mk (below_new B4.out hbn)
  have hbk : Below w4.heap.size w4 w5 := (((Below.refl _ _).alloc (Nat.le_refl _) _).trans (hbn.mono (by rw [sizeA]; exact Nat.le_succ _)))
  have BX5 := hid_mk (BX4.out.below hbk Z4.out)
  have Z5 := hid_mk (Nat.le_trans Z4.out hbk.size)
  have X5 := hid_mk (X4.out.below hbk)
  obtain ⟨bY, hbY⟩ : ∃ b, b = w4.heap.size := ⟨_, rfl⟩
  have Y5 := hid_mk (show Has4 w5 bY (rdD l) by rw [hbY]; exact Has4.new hbn)
  rw [← hbY]
  clear hbY
  have N5 := hid_mk hn1
  clear hn1
  clear hbn hbk
  go_wp2_with fail
  refine (pread_any vo2 l _ N5.out.at HBY.out (Nat.le_trans H5.out (by omega))).mono ?_
  rintro e w6 ⟨rfl, hbn⟩
  have B6 := hid_mk (below_more B5.out hbn)
  have hbk : Below w5.heap.size w5 w6 := hbn
  have BX6 := hid_mk (BX5.out.below hbk Z5.out)
  have Z6 := hid_mk (Nat.le_trans Z5.out hbk.size)
  have X6 := hid_mk (X5.out.below hbk)
  have Y6 := hid_mk (Y5.out.below hbk)
  clear hbn hbk
  go_wp2_with fail
  refine (rpread_any _ l _ (HVL.out.below (B6.out.alloc B6.out.size _)) HBY.out (Nat.le_trans H5.out (by omega))).mono ?_
  rintro e w7 ⟨rfl, hbn⟩
  have B7 := hid_mk (below_new B6.out hbn)
  have hbk : Below w6.heap.size w6 w7 := (((Below.refl _ _).alloc (Nat.le_refl _) _).trans (hbn.mono (by rw [sizeA]; exact Nat.le_succ _)))
  have BX7 := hid_mk (BX6.out.below hbk Z6.out)
  have Z7 := hid_mk (Nat.le_trans Z6.out hbk.size)
  have X7 := hid_mk (X6.out.below hbk)
  have Y7 := hid_mk (Y6.out.below hbk)
  obtain ⟨bU, hbU⟩ : ∃ b, b = w6.heap.size := ⟨_, rfl⟩
  have U7 := hid_mk (show Has4 w7 bU (rdD l) by rw [hbU]; exact Has4.new hbn)
  rw [← hbU]
  clear hbU
  clear hbn hbk
  go_wp2_with fail
  refine (own_any _ l _ (HVL.out.below (B7.out.alloc B7.out.size _)) (Nat.le_trans H5.out (by omega))).mono ?_
  rintro e w8 ⟨vo3, rfl, hn1, hbn⟩
  have B8 := hid_mk (below_new B7.out hbn)
  have hbk : Below w7.heap.size w7 w8 := (((Below.refl _ _).alloc (Nat.le_refl _) _).trans (hbn.mono (by rw [sizeA]; exact Nat.le_succ _)))
  have BX8 := hid_mk (BX7.out.below hbk Z7.out)
  have Z8 := hid_mk (Nat.le_trans Z7.out hbk.size)
  have X8 := hid_mk (X7.out.below hbk)
  have Y8 := hid_mk (Y7.out.below hbk)
  have U8 := hid_mk (U7.out.below hbk)
  obtain ⟨bV, hbV⟩ : ∃ b, b = w7.heap.size := ⟨_, rfl⟩
  have V8 := hid_mk (show Has4 w8 bV (rdD l) by rw [hbV]; exact Has4.new hbn)
  rw [← hbV]
  clear hbV
  have N8 := hid_mk hn1
  clear hn1
  clear hbn hbk
  go_wp2_with fail
  refine (readTable_any vo3 l _ N8.out.at HBY.out H5.out).mono ?_
  rintro e w9 ⟨vm, rfl, hd1, hbn⟩
  have B9 := hid_mk (below_more B8.out hbn)
  have hbk : Below w8.heap.size w8 w9 := hbn
  have BX9 := hid_mk (BX8.out.below hbk Z8.out)
  have Z9 := hid_mk (Nat.le_trans Z8.out hbk.size)
  have X9 := hid_mk (X8.out.below hbk)
  have Y9 := hid_mk (Y8.out.below hbk)
  have U9 := hid_mk (U8.out.below hbk)
  have V9 := hid_mk (V8.out.below hbk)
  have M9 := hid_mk hd1
  clear hd1
  clear hbn hbk
  go_wp2_with fail
  refine (rreadTable_any _ l _ (HVL.out.below B9.out) HBY.out H5.out).mono ?_
  rintro e w10 ⟨vn, rfl, hd1, hbn⟩
  have B10 := hid_mk (below_more B9.out hbn)
  have hbk : Below w9.heap.size w9 w10 := hbn
  have BX10 := hid_mk (BX9.out.below hbk Z9.out)
  have Z10 := hid_mk (Nat.le_trans Z9.out hbk.size)
  have X10 := hid_mk (X9.out.below hbk)
  have Y10 := hid_mk (Y9.out.below hbk)
  have U10 := hid_mk (U9.out.below hbk)
  have V10 := hid_mk (V9.out.below hbk)
  have M10 := hid_mk (M9.out.below hbk)
  have Q10 := hid_mk hd1
  clear hd1
  clear hbn hbk
  obtain ⟨Xc0, Xc1, Xc2, Xc3⟩ := X10.out.c
  obtain ⟨Yc0, Yc1, Yc2, Yc3⟩ := Y10.out.c
  obtain ⟨Uc0, Uc1, Uc2, Uc3⟩ := U10.out.c
  obtain ⟨Vc0, Vc1, Vc2, Vc3⟩ := V10.out.c
  go_wp2_with fail
  refine (samed_any _ _ (rtD l) _ M10.out Q10.out (by have := H5.out; unfold rtD; split <;> simp [rdT_length] <;> omega)).mono ?_
  rintro e w11 ⟨rfl, hbn⟩
  have B11 := hid_mk (below_more B10.out hbn)
  have hbk : Below w10.heap.size w10 w11 := hbn
  have BX11 := hid_mk (BX10.out.below hbk Z10.out)
  have Z11 := hid_mk (Nat.le_trans Z10.out hbk.size)
  have X11 := hid_mk (X10.out.below hbk)
  have Y11 := hid_mk (Y10.out.below hbk)
  have U11 := hid_mk (U10.out.below hbk)
  have V11 := hid_mk (V10.out.below hbk)
  have M11 := hid_mk (M10.out.below hbk)
  have Q11 := hid_mk (Q10.out.below hbk)
  clear Xc0 Xc1 Xc2 Xc3 Yc0 Yc1 Yc2 Yc3 Uc0 Uc1 Uc2 Uc3 Vc0 Vc1 Vc2 Vc3
  clear hbn hbk
  go_wp2_with fail
  refine (HU2.out _).mono ?_
  rintro e w12 ⟨rfl, hbn⟩
  have B12 := hid_mk (below_more B11.out hbn)
  have hbk : Below w11.heap.size w11 w12 := hbn
  have BX12 := hid_mk (BX11.out.below hbk Z11.out)
  have Z12 := hid_mk (Nat.le_trans Z11.out hbk.size)
  have X12 := hid_mk (X11.out.below hbk)
  have Y12 := hid_mk (Y11.out.below hbk)
  have U12 := hid_mk (U11.out.below hbk)
  have V12 := hid_mk (V11.out.below hbk)
  have M12 := hid_mk (M11.out.below hbk)
  have Q12 := hid_mk (Q11.out.below hbk)
  clear hbn hbk
  go_wp2_with fail
  refine (HE2.out _).mono ?_
  rintro e w13 ⟨rfl, hbn⟩
  have B13 := hid_mk (below_more B12.out hbn)
  have hbk : Below w12.heap.size w12 w13 := hbn
  have BX13 := hid_mk (BX12.out.below hbk Z12.out)
  have Z13 := hid_mk (Nat.le_trans Z12.out hbk.size)
  have X13 := hid_mk (X12.out.below hbk)
  have Y13 := hid_mk (Y12.out.below hbk)
  have U13 := hid_mk (U12.out.below hbk)
  have V13 := hid_mk (V12.out.below hbk)
  have M13 := hid_mk (M12.out.below hbk)
  have Q13 := hid_mk (Q12.out.below hbk)
  clear hbn hbk
  obtain ⟨X, hX⟩ : ∃ X, X = ((w13.alloc (.cells #[.int .u32 u0, .int .u32 u1] 68)).alloc (.cells #[.int .u16 e0, .int .u16 e1] 71)) := ⟨_, rfl⟩
  have hXb : Below w13.heap.size w13 X := by rw [hX]; exact ((Below.refl _ _).alloc (Nat.le_refl _) _).alloc (by rw [sizeA]; omega) _
  have hXs : X.heap.size = w13.heap.size + 1 + 1 := by rw [hX, sizeA, sizeA]
  have hus : at2 X w13.heap.size .u32 u0 u1 := by rw [hX]; exact ⟨by simp [go_sem], by simp [go_sem]⟩
  have hev : at2 X (w13.heap.size + 1) .u16 e0 e1 := by rw [hX]; exact ⟨by simp [go_sem], by simp [go_sem]⟩
  have hz := Z13.out
  have lu := fun (u : World) (hu : Below X.heap.size X u) => loadU (hus.below hu (by omega))
  have le := fun (u : World) (hu : Below X.heap.size X u) => loadE (hev.below hu (by omega))
  have hbx := BX13.out.below hXb hz
  have ld := fun (u : World) (hu : Below X.heap.size X u) => loadD (hbx.fd.below hu (by omega))
  have lp := fun (u : World) (hu : Below X.heap.size X u) => loadP (hbx.fp.below hu (by omega))
  have HVX := hid_mk (HV.out.below (below_more B13.out hXb))
  have BXX := hid_mk (below_more B13.out hXb)
  go_wp2_with fail
  rw [← hX]
  refine wp_region_outl
    [(fun v _ => v = dV d),
    (rowP 102 16 (dB d)),
    (fun v _ => v = .string (strOfNums (dB d))),
    (fun v _ => v = dV d),
    (ownP (dB d)),
    (fun v _ => v = .string (strOfNums (dB d))),
    (fun v _ => v = .bool true),
    (fun v _ => v = .bool true),
    (fun v _ => v = dV p),
    (rowP 102 16 (dB p)),
    (fun v _ => v = .string (strOfNums (dB p))),
    (fun v _ => v = dV p),
    (ownP (dB p)),
    (fun v _ => v = .string (strOfNums (dB p))),
    (fun v _ => v = .bool true),
    (fun v _ => v = .bool true),
    (fun v _ => v = .bool true),
    (fun v _ => v = .int .u64 x),
    (fun v _ => v = .agg #[.int .u32 u0, .int .u32 u1]),
    (fun v _ => v = .agg #[.int .u32 u0, .int .u32 u1]),
    (fun v _ => v = .bool true),
    (fun v _ => v = .bool true),
    (fun v _ => v = .bool true),
    (fun v _ => v = .int .u64 x),
    (fun v _ => v = .agg #[.int .u16 e0, .int .u16 e1]),
    (fun v _ => v = .agg #[.int .u16 e0, .int .u16 e1]),
    (fun v _ => v = .bool true),
    (fun v _ => v = .bool true),
    (fun v _ => v = .bool true),
    (fun v _ => v = .agg #[.int .u32 u0, .int .u32 u1]),
    (fun v _ => v = .int .u64 (u0 + 4294967296 * u1)),
    (fun v _ => v = .agg #[.int .u32 u0, .int .u32 u1]),
    (fun v _ => v = .int .u64 (u0 + 4294967296 * u1)),
    (fun v _ => v = .bool true),
    (fun v _ => v = .bool true),
    (fun v _ => v = .bool true),
    (fun v _ => v = .agg #[.int .u16 e0, .int .u16 e1]),
    (fun v _ => v = .int .u64 (e0 + 65536 * e1)),
    (fun v _ => v = .agg #[.int .u16 e0, .int .u16 e1]),
    (fun v _ => v = .int .u64 (e0 + 65536 * e1)),
    (fun v _ => v = .bool true),
    (fun v _ => v = .bool true),
    (fun v _ => v = .bool true),
    (fun v _ => v = .slice vb L.length vd),
    (rowP 5 (16 * L.length) (tabB L)),
    (fun v _ => v = .string (strOfNums (tabB L))),
    (fun v _ => v = .slice vb L.length vd),
    (ownP (tabB L)),
    (fun v _ => v = .string (strOfNums (tabB L))),
    (fun v _ => v = .bool true),
    (fun v _ => v = .bool true),
    (fun v _ => v = .bool true),
    (fun v _ => v = .int .u16 (n : Int)),
    (fun v _ => v = .bool cw),
    (fun v _ => v = .bool (decide (ownN n = mkN cw false))),
    (fun v _ => v = .int .u16 (n : Int)),
    (fun v _ => v = .bool cw),
    (fun v _ => v = .bool (decide (ownN n = mkN cw false))),
    (fun v _ => v = .bool true),
    (fun v _ => v = .bool true),
    (fun v _ => v = .bool true),
    (fun v _ => v = .int .u16 (n : Int)),
    (fun v _ => v = .bool cw),
    (fun v _ => v = .bool (decide (ownN n = mkN cw true))),
    (fun v _ => v = .int .u16 (n : Int)),
    (fun v _ => v = .bool cw),
    (fun v _ => v = .bool (decide (ownN n = mkN cw true))),
    (fun v _ => v = .bool true),
    (fun v _ => v = .bool true),
    (fun v _ => v = .bool true),
    (fun v _ => v = .int .u16 (n : Int)),
    (fun v _ => v = .bool cw),
    (fun v _ => v = .bool cu),
    (fun v _ => v = .int .u16 ((markN n cw cu : Nat) : Int)),
    (fun v _ => v = .int .u16 (n : Int)),
    (fun v _ => v = .bool cw),
    (fun v _ => v = .bool cu),
    (fun v _ => v = .int .u16 ((markN n cw cu : Nat) : Int)),
    (fun v _ => v = .bool true),
    (fun v _ => v = .bool true),
    (fun v _ => v = .bool true)]
    (fun u => Below X.heap.size X u) (by kernel_rfl) (by kernel_rfl) ?_ (fun u u' hb h => h.trans (hb.mono h.size)) ((Below.refl _ _).drew) ?_ ?_
  · refine And.intro (up_eq _) ?_
    refine And.intro (up_rowP _ _ _) ?_
    refine And.intro (up_eq _) ?_
    refine And.intro (up_eq _) ?_
    refine And.intro (up_ownP _) ?_
    refine And.intro (up_eq _) ?_
    refine And.intro (up_eq _) ?_
    refine And.intro (up_eq _) ?_
    refine And.intro (up_eq _) ?_
    refine And.intro (up_rowP _ _ _) ?_
    refine And.intro (up_eq _) ?_
    refine And.intro (up_eq _) ?_
    refine And.intro (up_ownP _) ?_
    refine And.intro (up_eq _) ?_
    refine And.intro (up_eq _) ?_
    refine And.intro (up_eq _) ?_
    refine And.intro (up_eq _) ?_
    refine And.intro (up_eq _) ?_
    refine And.intro (up_eq _) ?_
    refine And.intro (up_eq _) ?_
    refine And.intro (up_eq _) ?_
    refine And.intro (up_eq _) ?_
    refine And.intro (up_eq _) ?_
    refine And.intro (up_eq _) ?_
    refine And.intro (up_eq _) ?_
    refine And.intro (up_eq _) ?_
    refine And.intro (up_eq _) ?_
    refine And.intro (up_eq _) ?_
    refine And.intro (up_eq _) ?_
    refine And.intro (up_eq _) ?_
    refine And.intro (up_eq _) ?_
    refine And.intro (up_eq _) ?_
    refine And.intro (up_eq _) ?_
    refine And.intro (up_eq _) ?_
    refine And.intro (up_eq _) ?_
    refine And.intro (up_eq _) ?_
    refine And.intro (up_eq _) ?_
    refine And.intro (up_eq _) ?_
    refine And.intro (up_eq _) ?_
    refine And.intro (up_eq _) ?_
    refine And.intro (up_eq _) ?_
    refine And.intro (up_eq _) ?_
    refine And.intro (up_eq _) ?_
    refine And.intro (up_eq _) ?_
    refine And.intro (up_rowP _ _ _) ?_
    refine And.intro (up_eq _) ?_
    refine And.intro (up_eq _) ?_
    refine And.intro (up_ownP _) ?_
    refine And.intro (up_eq _) ?_
    refine And.intro (up_eq _) ?_
    refine And.intro (up_eq _) ?_
    refine And.intro (up_eq _) ?_
    refine And.intro (up_eq _) ?_
    refine And.intro (up_eq _) ?_
    refine And.intro (up_eq _) ?_
    refine And.intro (up_eq _) ?_
    refine And.intro (up_eq _) ?_
    refine And.intro (up_eq _) ?_
    refine And.intro (up_eq _) ?_
    refine And.intro (up_eq _) ?_
    refine And.intro (up_eq _) ?_
    refine And.intro (up_eq _) ?_
    refine And.intro (up_eq _) ?_
    refine And.intro (up_eq _) ?_
    refine And.intro (up_eq _) ?_
    refine And.intro (up_eq _) ?_
    refine And.intro (up_eq _) ?_
    refine And.intro (up_eq _) ?_
    refine And.intro (up_eq _) ?_
    refine And.intro (up_eq _) ?_
    refine And.intro (up_eq _) ?_
    refine And.intro (up_eq _) ?_
    refine And.intro (up_eq _) ?_
    refine And.intro (up_eq _) ?_
    refine And.intro (up_eq _) ?_
    refine And.intro (up_eq _) ?_
    refine And.intro (up_eq _) ?_
    refine And.intro (up_eq _) ?_
    refine And.intro (up_eq _) ?_
    refine And.intro (up_eq _) ?_
    refine And.intro (up_eq _) ?_
    trivial
  · refine And.intro ?_ (And.intro ?_ (And.intro ?_ (And.intro ?_ (And.intro ?_ (And.intro ?_ (And.intro ?_ (And.intro ?_ (And.intro ?_ (And.intro ?_ (And.intro ?_ (And.intro ?_ (And.intro ?_ (And.intro ?_ (And.intro ?_ (And.intro ?_ (And.intro ?_ (And.intro ?_ (And.intro ?_ (And.intro ?_ (And.intro ?_ (And.intro ?_ (And.intro ?_ (And.intro ?_ (And.intro ?_ (And.intro ?_ (And.intro ?_ (And.intro ?_ (And.intro ?_ (And.intro ?_ (And.intro ?_ (And.intro ?_ (And.intro ?_ (And.intro ?_ (And.intro ?_ (And.intro ?_ (And.intro ?_ (And.intro ?_ (And.intro ?_ (And.intro ?_ (And.intro ?_ (And.intro ?_ (And.intro ?_ (And.intro ?_ (And.intro ?_ (And.intro ?_ (And.intro ?_ (And.intro ?_ (And.intro ?_ (And.intro ?_ (And.intro ?_ (And.intro ?_ (And.intro ?_ (And.intro ?_ (And.intro ?_ (And.intro ?_ (And.intro ?_ (And.intro ?_ (And.intro ?_ (And.intro ?_ (And.intro ?_ (And.intro ?_ (And.intro ?_ (And.intro ?_ (And.intro ?_ (And.intro ?_ (And.intro ?_ (And.intro ?_ (And.intro ?_ (And.intro ?_ (And.intro ?_ (And.intro ?_ (And.intro ?_ (And.intro ?_ (And.intro ?_ (And.intro ?_ (And.intro ?_ (And.intro ?_ (And.intro ?_ (And.intro ?_ (And.intro ?_ (True.intro)))))))))))))))))))))))))))))))))))))))))))))))))))))))))))))))))))))))))))))))))
    · refine ostep_val (dV d) (by kernel_rfl) (fun _ A1 W1 inv hall => ⟨wanted_none rfl, ?_, rfl⟩)
      have h8 : A1.eval (.tmp 8) = .pointer (some ⟨w.heap.size, 0, none⟩) := (inv.base 8 (by kernel_rfl)).trans rfl
      simp only [execOp, h8, Sem.run_bind, ld W1 inv.s, Result.andThen_ok, Sem.run_pure]
    · refine ostep_call 46 (by kernel_rfl) _ _ (by kernel_rfl) rfl (fun _ A1 W1 inv hall => ⟨wanted_none rfl, #[dV d], ?_, ?_⟩)
      · have h107 : A1.eval (.tmp 107) = dV d := inv.get hall 0 107 (by kernel_rfl) (by kernel_rfl)
        simp [h107]
      · refine (bytes_ex d _ HD.out).mono ?_
        rintro e u ⟨b0, rfl, _, hr, hb⟩
        exact ⟨_, rfl, ⟨b0, rfl, hr⟩, hb⟩
    · refine ostep_val (.string (strOfNums (dB d))) (by kernel_rfl) (fun _ A1 W1 inv hall => ⟨wanted_none rfl, ?_, rfl⟩)
      have h108 : (rowP 102 16 (dB d)) (A1.eval (.tmp 108)) W1 := inv.get hall 1 108 (by kernel_rfl) (by kernel_rfl)
      obtain ⟨b0, hv, hr⟩ := h108
      simp only [execOp, hv, Sem.run_bind, convRow hr (dB_length _), Result.andThen_ok, Sem.run_pure]
    · refine ostep_val (dV d) (by kernel_rfl) (fun _ A1 W1 inv hall => ⟨wanted_none rfl, ?_, rfl⟩)
      have h8 : A1.eval (.tmp 8) = .pointer (some ⟨w.heap.size, 0, none⟩) := (inv.base 8 (by kernel_rfl)).trans rfl
      simp only [execOp, h8, Sem.run_bind, ld W1 inv.s, Result.andThen_ok, Sem.run_pure]
    · refine ostep_call 47 (by kernel_rfl) _ _ (by kernel_rfl) rfl (fun _ A1 W1 inv hall => ⟨wanted_none rfl, #[dV d], ?_, ?_⟩)
      · have h110 : A1.eval (.tmp 110) = dV d := inv.get hall 3 110 (by kernel_rfl) (by kernel_rfl)
        simp [h110]
      · refine (rbytes_any d _ HD.out).mono ?_
        rintro e u ⟨v0, rfl, ho, hb⟩
        exact ⟨v0, rfl, ⟨_, ho⟩, hb⟩
    · refine ostep_val (.string (strOfNums (dB d))) (by kernel_rfl) (fun _ A1 W1 inv hall => ⟨wanted_none rfl, ?_, rfl⟩)
      have h111 : (ownP (dB d)) (A1.eval (.tmp 111)) W1 := inv.get hall 4 111 (by kernel_rfl) (by kernel_rfl)
      simp only [execOp, Sem.run_bind, conv_ownP h111, Result.andThen_ok, Sem.run_pure]
    · refine ostep_val (.bool true) (by kernel_rfl) (fun _ A1 W1 inv hall => ⟨wanted_none rfl, ?_, rfl⟩)
      have h109 : A1.eval (.tmp 109) = .string (strOfNums (dB d)) := inv.get hall 2 109 (by kernel_rfl) (by kernel_rfl)
      have h112 : A1.eval (.tmp 112) = .string (strOfNums (dB d)) := inv.get hall 5 112 (by kernel_rfl) (by kernel_rfl)
      simp only [execOp, h109, h112]
      simp [eqGuard, go_sem]
    · refine ostep_val (.bool true) (by kernel_rfl) (fun _ A1 W1 inv hall => ⟨wanted_none rfl, ?_, rfl⟩)
      have h113 : A1.eval (.tmp 113) = .bool true := inv.get hall 6 113 (by kernel_rfl) (by kernel_rfl)
      simp only [execOp, h113, Sem.run_pure]
    · refine ostep_val (dV p) (by kernel_rfl) (fun _ A1 W1 inv hall => ⟨wanted_some (g := 7) (d := 114) (b := true) rfl (by kernel_rfl) (inv.get hall 7 114 (by kernel_rfl) (by kernel_rfl)), ?_, rfl⟩)
      have h9 : A1.eval (.tmp 9) = .pointer (some ⟨w.heap.size + 1, 0, none⟩) := (inv.base 9 (by kernel_rfl)).trans rfl
      simp only [execOp, h9, Sem.run_bind, lp W1 inv.s, Result.andThen_ok, Sem.run_pure]
    · refine ostep_call 48 (by kernel_rfl) _ _ (by kernel_rfl) rfl (fun _ A1 W1 inv hall => ⟨wanted_some (g := 7) (d := 114) (b := true) rfl (by kernel_rfl) (inv.get hall 7 114 (by kernel_rfl) (by kernel_rfl)), #[dV p], ?_, ?_⟩)
      · have h115 : A1.eval (.tmp 115) = dV p := inv.get hall 8 115 (by kernel_rfl) (by kernel_rfl)
        simp [h115]
      · refine (pbytes_ex p _ HP.out).mono ?_
        rintro e u ⟨b0, rfl, _, hr, hb⟩
        exact ⟨_, rfl, ⟨b0, rfl, hr⟩, hb⟩
    · refine ostep_val (.string (strOfNums (dB p))) (by kernel_rfl) (fun _ A1 W1 inv hall => ⟨wanted_some (g := 7) (d := 114) (b := true) rfl (by kernel_rfl) (inv.get hall 7 114 (by kernel_rfl) (by kernel_rfl)), ?_, rfl⟩)
      have h116 : (rowP 102 16 (dB p)) (A1.eval (.tmp 116)) W1 := inv.get hall 9 116 (by kernel_rfl) (by kernel_rfl)
      obtain ⟨b0, hv, hr⟩ := h116
      simp only [execOp, hv, Sem.run_bind, convRow hr (dB_length _), Result.andThen_ok, Sem.run_pure]
    · refine ostep_val (dV p) (by kernel_rfl) (fun _ A1 W1 inv hall => ⟨wanted_some (g := 7) (d := 114) (b := true) rfl (by kernel_rfl) (inv.get hall 7 114 (by kernel_rfl) (by kernel_rfl)), ?_, rfl⟩)
      have h9 : A1.eval (.tmp 9) = .pointer (some ⟨w.heap.size + 1, 0, none⟩) := (inv.base 9 (by kernel_rfl)).trans rfl
      simp only [execOp, h9, Sem.run_bind, lp W1 inv.s, Result.andThen_ok, Sem.run_pure]
    · refine ostep_call 49 (by kernel_rfl) _ _ (by kernel_rfl) rfl (fun _ A1 W1 inv hall => ⟨wanted_some (g := 7) (d := 114) (b := true) rfl (by kernel_rfl) (inv.get hall 7 114 (by kernel_rfl) (by kernel_rfl)), #[dV p], ?_, ?_⟩)
      · have h118 : A1.eval (.tmp 118) = dV p := inv.get hall 11 118 (by kernel_rfl) (by kernel_rfl)
        simp [h118]
      · refine (rpbytes_any p _ HP.out).mono ?_
        rintro e u ⟨v0, rfl, ho, hb⟩
        exact ⟨v0, rfl, ⟨_, ho⟩, hb⟩
    · refine ostep_val (.string (strOfNums (dB p))) (by kernel_rfl) (fun _ A1 W1 inv hall => ⟨wanted_some (g := 7) (d := 114) (b := true) rfl (by kernel_rfl) (inv.get hall 7 114 (by kernel_rfl) (by kernel_rfl)), ?_, rfl⟩)
      have h119 : (ownP (dB p)) (A1.eval (.tmp 119)) W1 := inv.get hall 12 119 (by kernel_rfl) (by kernel_rfl)
      simp only [execOp, Sem.run_bind, conv_ownP h119, Result.andThen_ok, Sem.run_pure]
    · refine ostep_val (.bool true) (by kernel_rfl) (fun _ A1 W1 inv hall => ⟨wanted_some (g := 7) (d := 114) (b := true) rfl (by kernel_rfl) (inv.get hall 7 114 (by kernel_rfl) (by kernel_rfl)), ?_, rfl⟩)
      have h117 : A1.eval (.tmp 117) = .string (strOfNums (dB p)) := inv.get hall 10 117 (by kernel_rfl) (by kernel_rfl)
      have h120 : A1.eval (.tmp 120) = .string (strOfNums (dB p)) := inv.get hall 13 120 (by kernel_rfl) (by kernel_rfl)
      simp only [execOp, h117, h120]
      simp [eqGuard, go_sem]
    · refine ostep_val (.bool true) (by kernel_rfl) (fun _ A1 W1 inv hall => ⟨wanted_none rfl, ?_, rfl⟩)
      have h114 : A1.eval (.tmp 114) = .bool true := inv.get hall 7 114 (by kernel_rfl) (by kernel_rfl)
      have h121 : A1.eval (.tmp 121) = .bool true := inv.get hall 14 121 (by kernel_rfl) (by kernel_rfl)
      simp only [execOp, h114, h121]
      simp [asBool]
    · refine ostep_val (.bool true) (by kernel_rfl) (fun _ A1 W1 inv hall => ⟨wanted_none rfl, ?_, rfl⟩)
      have h122 : A1.eval (.tmp 122) = .bool true := inv.get hall 15 122 (by kernel_rfl) (by kernel_rfl)
      simp only [execOp, h122, Sem.run_pure]
    · refine ostep_val (.int .u64 x) (by kernel_rfl) (fun _ A1 W1 inv hall => ⟨wanted_some (g := 16) (d := 123) (b := true) rfl (by kernel_rfl) (inv.get hall 16 123 (by kernel_rfl) (by kernel_rfl)), ?_, rfl⟩)
      have h2 : A1.eval (.tmp 2) = .int .u64 x := (inv.base 2 (by kernel_rfl)).trans rfl
      simp only [execOp, h2, Sem.run_pure]
    · refine ostep_call 50 (by kernel_rfl) _ _ (by kernel_rfl) rfl (fun _ A1 W1 inv hall => ⟨wanted_some (g := 16) (d := 123) (b := true) rfl (by kernel_rfl) (inv.get hall 16 123 (by kernel_rfl) (by kernel_rfl)), #[.int .u64 x], ?_, ?_⟩)
      · have h124 : A1.eval (.tmp 124) = .int .u64 x := inv.get hall 17 124 (by kernel_rfl) (by kernel_rfl)
        simp [h124]
      · refine (HU1.out _).mono ?_
        rintro e u ⟨rfl, hb⟩
        exact ⟨_, rfl, rfl, hb⟩
    · refine ostep_val (.agg #[.int .u32 u0, .int .u32 u1]) (by kernel_rfl) (fun _ A1 W1 inv hall => ⟨wanted_some (g := 16) (d := 123) (b := true) rfl (by kernel_rfl) (inv.get hall 16 123 (by kernel_rfl) (by kernel_rfl)), ?_, rfl⟩)
      have h29 : A1.eval (.tmp 29) = .pointer (some ⟨w13.heap.size, 0, none⟩) := (inv.base 29 (by kernel_rfl)).trans rfl
      simp only [execOp, h29, Sem.run_bind, lu W1 inv.s, Result.andThen_ok, Sem.run_pure]
    · refine ostep_val (.bool true) (by kernel_rfl) (fun _ A1 W1 inv hall => ⟨wanted_some (g := 16) (d := 123) (b := true) rfl (by kernel_rfl) (inv.get hall 16 123 (by kernel_rfl) (by kernel_rfl)), ?_, rfl⟩)
      have h125 : A1.eval (.tmp 125) = .agg #[.int .u32 u0, .int .u32 u1] := inv.get hall 18 125 (by kernel_rfl) (by kernel_rfl)
      have h126 : A1.eval (.tmp 126) = .agg #[.int .u32 u0, .int .u32 u1] := inv.get hall 19 126 (by kernel_rfl) (by kernel_rfl)
      simp only [execOp, h125, h126, Sem.run_bind, run_eqGuard_agg W1 .eql _ _ _ _ _ guardU, quu W1, Result.andThen_ok, Sem.run_pure]
    · refine ostep_val (.bool true) (by kernel_rfl) (fun _ A1 W1 inv hall => ⟨wanted_none rfl, ?_, rfl⟩)
      have h123 : A1.eval (.tmp 123) = .bool true := inv.get hall 16 123 (by kernel_rfl) (by kernel_rfl)
      have h127 : A1.eval (.tmp 127) = .bool true := inv.get hall 20 127 (by kernel_rfl) (by kernel_rfl)
      simp only [execOp, h123, h127]
      simp [asBool]
    · refine ostep_val (.bool true) (by kernel_rfl) (fun _ A1 W1 inv hall => ⟨wanted_none rfl, ?_, rfl⟩)
      have h128 : A1.eval (.tmp 128) = .bool true := inv.get hall 21 128 (by kernel_rfl) (by kernel_rfl)
      simp only [execOp, h128, Sem.run_pure]
    · refine ostep_val (.int .u64 x) (by kernel_rfl) (fun _ A1 W1 inv hall => ⟨wanted_some (g := 22) (d := 129) (b := true) rfl (by kernel_rfl) (inv.get hall 22 129 (by kernel_rfl) (by kernel_rfl)), ?_, rfl⟩)
      have h2 : A1.eval (.tmp 2) = .int .u64 x := (inv.base 2 (by kernel_rfl)).trans rfl
      simp only [execOp, h2, Sem.run_pure]
    · refine ostep_call 51 (by kernel_rfl) _ _ (by kernel_rfl) rfl (fun _ A1 W1 inv hall => ⟨wanted_some (g := 22) (d := 129) (b := true) rfl (by kernel_rfl) (inv.get hall 22 129 (by kernel_rfl) (by kernel_rfl)), #[.int .u64 x], ?_, ?_⟩)
      · have h130 : A1.eval (.tmp 130) = .int .u64 x := inv.get hall 23 130 (by kernel_rfl) (by kernel_rfl)
        simp [h130]
      · refine (HE1.out _).mono ?_
        rintro e u ⟨rfl, hb⟩
        exact ⟨_, rfl, rfl, hb⟩
    · refine ostep_val (.agg #[.int .u16 e0, .int .u16 e1]) (by kernel_rfl) (fun _ A1 W1 inv hall => ⟨wanted_some (g := 22) (d := 129) (b := true) rfl (by kernel_rfl) (inv.get hall 22 129 (by kernel_rfl) (by kernel_rfl)), ?_, rfl⟩)
      have h30 : A1.eval (.tmp 30) = .pointer (some ⟨w13.heap.size + 1, 0, none⟩) := (inv.base 30 (by kernel_rfl)).trans rfl
      simp only [execOp, h30, Sem.run_bind, le W1 inv.s, Result.andThen_ok, Sem.run_pure]
    · refine ostep_val (.bool true) (by kernel_rfl) (fun _ A1 W1 inv hall => ⟨wanted_some (g := 22) (d := 129) (b := true) rfl (by kernel_rfl) (inv.get hall 22 129 (by kernel_rfl) (by kernel_rfl)), ?_, rfl⟩)
      have h131 : A1.eval (.tmp 131) = .agg #[.int .u16 e0, .int .u16 e1] := inv.get hall 24 131 (by kernel_rfl) (by kernel_rfl)
      have h132 : A1.eval (.tmp 132) = .agg #[.int .u16 e0, .int .u16 e1] := inv.get hall 25 132 (by kernel_rfl) (by kernel_rfl)
      simp only [execOp, h131, h132, Sem.run_bind, run_eqGuard_agg W1 .eql _ _ _ _ _ guardE, qee W1, Result.andThen_ok, Sem.run_pure]
    · refine ostep_val (.bool true) (by kernel_rfl) (fun _ A1 W1 inv hall => ⟨wanted_none rfl, ?_, rfl⟩)
      have h129 : A1.eval (.tmp 129) = .bool true := inv.get hall 22 129 (by kernel_rfl) (by kernel_rfl)
      have h133 : A1.eval (.tmp 133) = .bool true := inv.get hall 26 133 (by kernel_rfl) (by kernel_rfl)
      simp only [execOp, h129, h133]
      simp [asBool]
    · refine ostep_val (.bool true) (by kernel_rfl) (fun _ A1 W1 inv hall => ⟨wanted_none rfl, ?_, rfl⟩)
      have h134 : A1.eval (.tmp 134) = .bool true := inv.get hall 27 134 (by kernel_rfl) (by kernel_rfl)
      simp only [execOp, h134, Sem.run_pure]
    · refine ostep_val (.agg #[.int .u32 u0, .int .u32 u1]) (by kernel_rfl) (fun _ A1 W1 inv hall => ⟨wanted_some (g := 28) (d := 135) (b := true) rfl (by kernel_rfl) (inv.get hall 28 135 (by kernel_rfl) (by kernel_rfl)), ?_, rfl⟩)
      have h29 : A1.eval (.tmp 29) = .pointer (some ⟨w13.heap.size, 0, none⟩) := (inv.base 29 (by kernel_rfl)).trans rfl
      simp only [execOp, h29, Sem.run_bind, lu W1 inv.s, Result.andThen_ok, Sem.run_pure]
    · refine ostep_call 36 (by kernel_rfl) _ _ (by kernel_rfl) rfl (fun _ A1 W1 inv hall => ⟨wanted_some (g := 28) (d := 135) (b := true) rfl (by kernel_rfl) (inv.get hall 28 135 (by kernel_rfl) (by kernel_rfl)), #[.agg #[.int .u32 u0, .int .u32 u1]], ?_, ?_⟩)
      · have h136 : A1.eval (.tmp 136) = .agg #[.int .u32 u0, .int .u32 u1] := inv.get hall 29 136 (by kernel_rfl) (by kernel_rfl)
        simp [h136]
      · refine (HW1.out _).mono ?_
        rintro e u ⟨rfl, hb⟩
        exact ⟨_, rfl, rfl, hb⟩
    · refine ostep_val (.agg #[.int .u32 u0, .int .u32 u1]) (by kernel_rfl) (fun _ A1 W1 inv hall => ⟨wanted_some (g := 28) (d := 135) (b := true) rfl (by kernel_rfl) (inv.get hall 28 135 (by kernel_rfl) (by kernel_rfl)), ?_, rfl⟩)
      have h29 : A1.eval (.tmp 29) = .pointer (some ⟨w13.heap.size, 0, none⟩) := (inv.base 29 (by kernel_rfl)).trans rfl
      simp only [execOp, h29, Sem.run_bind, lu W1 inv.s, Result.andThen_ok, Sem.run_pure]
    · refine ostep_call 52 (by kernel_rfl) _ _ (by kernel_rfl) rfl (fun _ A1 W1 inv hall => ⟨wanted_some (g := 28) (d := 135) (b := true) rfl (by kernel_rfl) (inv.get hall 28 135 (by kernel_rfl) (by kernel_rfl)), #[.agg #[.int .u32 u0, .int .u32 u1]], ?_, ?_⟩)
      · have h138 : A1.eval (.tmp 138) = .agg #[.int .u32 u0, .int .u32 u1] := inv.get hall 31 138 (by kernel_rfl) (by kernel_rfl)
        simp [h138]
      · refine (HW2.out _).mono ?_
        rintro e u ⟨rfl, hb⟩
        exact ⟨_, rfl, rfl, hb⟩
    · refine ostep_val (.bool true) (by kernel_rfl) (fun _ A1 W1 inv hall => ⟨wanted_some (g := 28) (d := 135) (b := true) rfl (by kernel_rfl) (inv.get hall 28 135 (by kernel_rfl) (by kernel_rfl)), ?_, rfl⟩)
      have h137 : A1.eval (.tmp 137) = .int .u64 (u0 + 4294967296 * u1) := inv.get hall 30 137 (by kernel_rfl) (by kernel_rfl)
      have h139 : A1.eval (.tmp 139) = .int .u64 (u0 + 4294967296 * u1) := inv.get hall 32 139 (by kernel_rfl) (by kernel_rfl)
      simp only [execOp, h137, h139]
      simp [eqGuard, go_sem]
    · refine ostep_val (.bool true) (by kernel_rfl) (fun _ A1 W1 inv hall => ⟨wanted_none rfl, ?_, rfl⟩)
      have h135 : A1.eval (.tmp 135) = .bool true := inv.get hall 28 135 (by kernel_rfl) (by kernel_rfl)
      have h140 : A1.eval (.tmp 140) = .bool true := inv.get hall 33 140 (by kernel_rfl) (by kernel_rfl)
      simp only [execOp, h135, h140]
      simp [asBool]
    · refine ostep_val (.bool true) (by kernel_rfl) (fun _ A1 W1 inv hall => ⟨wanted_none rfl, ?_, rfl⟩)
      have h141 : A1.eval (.tmp 141) = .bool true := inv.get hall 34 141 (by kernel_rfl) (by kernel_rfl)
      simp only [execOp, h141, Sem.run_pure]
    · refine ostep_val (.agg #[.int .u16 e0, .int .u16 e1]) (by kernel_rfl) (fun _ A1 W1 inv hall => ⟨wanted_some (g := 35) (d := 142) (b := true) rfl (by kernel_rfl) (inv.get hall 35 142 (by kernel_rfl) (by kernel_rfl)), ?_, rfl⟩)
      have h30 : A1.eval (.tmp 30) = .pointer (some ⟨w13.heap.size + 1, 0, none⟩) := (inv.base 30 (by kernel_rfl)).trans rfl
      simp only [execOp, h30, Sem.run_bind, le W1 inv.s, Result.andThen_ok, Sem.run_pure]
    · refine ostep_call 37 (by kernel_rfl) _ _ (by kernel_rfl) rfl (fun _ A1 W1 inv hall => ⟨wanted_some (g := 35) (d := 142) (b := true) rfl (by kernel_rfl) (inv.get hall 35 142 (by kernel_rfl) (by kernel_rfl)), #[.agg #[.int .u16 e0, .int .u16 e1]], ?_, ?_⟩)
      · have h143 : A1.eval (.tmp 143) = .agg #[.int .u16 e0, .int .u16 e1] := inv.get hall 36 143 (by kernel_rfl) (by kernel_rfl)
        simp [h143]
      · refine (HV1.out _).mono ?_
        rintro e u ⟨rfl, hb⟩
        exact ⟨_, rfl, rfl, hb⟩
    · refine ostep_val (.agg #[.int .u16 e0, .int .u16 e1]) (by kernel_rfl) (fun _ A1 W1 inv hall => ⟨wanted_some (g := 35) (d := 142) (b := true) rfl (by kernel_rfl) (inv.get hall 35 142 (by kernel_rfl) (by kernel_rfl)), ?_, rfl⟩)
      have h30 : A1.eval (.tmp 30) = .pointer (some ⟨w13.heap.size + 1, 0, none⟩) := (inv.base 30 (by kernel_rfl)).trans rfl
      simp only [execOp, h30, Sem.run_bind, le W1 inv.s, Result.andThen_ok, Sem.run_pure]
    · refine ostep_call 53 (by kernel_rfl) _ _ (by kernel_rfl) rfl (fun _ A1 W1 inv hall => ⟨wanted_some (g := 35) (d := 142) (b := true) rfl (by kernel_rfl) (inv.get hall 35 142 (by kernel_rfl) (by kernel_rfl)), #[.agg #[.int .u16 e0, .int .u16 e1]], ?_, ?_⟩)
      · have h145 : A1.eval (.tmp 145) = .agg #[.int .u16 e0, .int .u16 e1] := inv.get hall 38 145 (by kernel_rfl) (by kernel_rfl)
        simp [h145]
      · refine (HV2.out _).mono ?_
        rintro e u ⟨rfl, hb⟩
        exact ⟨_, rfl, rfl, hb⟩
    · refine ostep_val (.bool true) (by kernel_rfl) (fun _ A1 W1 inv hall => ⟨wanted_some (g := 35) (d := 142) (b := true) rfl (by kernel_rfl) (inv.get hall 35 142 (by kernel_rfl) (by kernel_rfl)), ?_, rfl⟩)
      have h144 : A1.eval (.tmp 144) = .int .u64 (e0 + 65536 * e1) := inv.get hall 37 144 (by kernel_rfl) (by kernel_rfl)
      have h146 : A1.eval (.tmp 146) = .int .u64 (e0 + 65536 * e1) := inv.get hall 39 146 (by kernel_rfl) (by kernel_rfl)
      simp only [execOp, h144, h146]
      simp [eqGuard, go_sem]
    · refine ostep_val (.bool true) (by kernel_rfl) (fun _ A1 W1 inv hall => ⟨wanted_none rfl, ?_, rfl⟩)
      have h142 : A1.eval (.tmp 142) = .bool true := inv.get hall 35 142 (by kernel_rfl) (by kernel_rfl)
      have h147 : A1.eval (.tmp 147) = .bool true := inv.get hall 40 147 (by kernel_rfl) (by kernel_rfl)
      simp only [execOp, h142, h147]
      simp [asBool]
    · refine ostep_val (.bool true) (by kernel_rfl) (fun _ A1 W1 inv hall => ⟨wanted_none rfl, ?_, rfl⟩)
      have h148 : A1.eval (.tmp 148) = .bool true := inv.get hall 41 148 (by kernel_rfl) (by kernel_rfl)
      simp only [execOp, h148, Sem.run_pure]
    · refine ostep_val (.slice vb L.length vd) (by kernel_rfl) (fun _ A1 W1 inv hall => ⟨wanted_some (g := 42) (d := 149) (b := true) rfl (by kernel_rfl) (inv.get hall 42 149 (by kernel_rfl) (by kernel_rfl)), ?_, rfl⟩)
      have h4 : A1.eval (.tmp 4) = .slice vb L.length vd := (inv.base 4 (by kernel_rfl)).trans rfl
      simp only [execOp, h4, Sem.run_pure]
    · refine ostep_call 54 (by kernel_rfl) _ _ (by kernel_rfl) rfl (fun _ A1 W1 inv hall => ⟨wanted_some (g := 42) (d := 149) (b := true) rfl (by kernel_rfl) (inv.get hall 42 149 (by kernel_rfl) (by kernel_rfl)), #[.slice vb L.length vd], ?_, ?_⟩)
      · have h150 : A1.eval (.tmp 150) = .slice vb L.length vd := inv.get hall 43 150 (by kernel_rfl) (by kernel_rfl)
        simp [h150]
      · refine (table_ex _ L _ (HVX.out.below inv.s) HL.out H3.out).mono ?_
        rintro e u ⟨b0, rfl, _, hr, hb⟩
        exact ⟨_, rfl, ⟨b0, rfl, hr⟩, hb⟩
    · refine ostep_val (.string (strOfNums (tabB L))) (by kernel_rfl) (fun _ A1 W1 inv hall => ⟨wanted_some (g := 42) (d := 149) (b := true) rfl (by kernel_rfl) (inv.get hall 42 149 (by kernel_rfl) (by kernel_rfl)), ?_, rfl⟩)
      have h151 : (rowP 5 (16 * L.length) (tabB L)) (A1.eval (.tmp 151)) W1 := inv.get hall 44 151 (by kernel_rfl) (by kernel_rfl)
      obtain ⟨b0, hv, hr⟩ := h151
      simp only [execOp, hv, Sem.run_bind, convRow hr (tabB_length _), Result.andThen_ok, Sem.run_pure]
    · refine ostep_val (.slice vb L.length vd) (by kernel_rfl) (fun _ A1 W1 inv hall => ⟨wanted_some (g := 42) (d := 149) (b := true) rfl (by kernel_rfl) (inv.get hall 42 149 (by kernel_rfl) (by kernel_rfl)), ?_, rfl⟩)
      have h4 : A1.eval (.tmp 4) = .slice vb L.length vd := (inv.base 4 (by kernel_rfl)).trans rfl
      simp only [execOp, h4, Sem.run_pure]
    · refine ostep_call 55 (by kernel_rfl) _ _ (by kernel_rfl) rfl (fun _ A1 W1 inv hall => ⟨wanted_some (g := 42) (d := 149) (b := true) rfl (by kernel_rfl) (inv.get hall 42 149 (by kernel_rfl) (by kernel_rfl)), #[.slice vb L.length vd], ?_, ?_⟩)
      · have h153 : A1.eval (.tmp 153) = .slice vb L.length vd := inv.get hall 46 153 (by kernel_rfl) (by kernel_rfl)
        simp [h153]
      · refine (rtable_any rbytes_any _ L _ (HVX.out.below inv.s) HL.out H3.out).mono ?_
        rintro e u ⟨v0, rfl, ho, hb⟩
        exact ⟨v0, rfl, ⟨_, ho⟩, hb⟩
    · refine ostep_val (.string (strOfNums (tabB L))) (by kernel_rfl) (fun _ A1 W1 inv hall => ⟨wanted_some (g := 42) (d := 149) (b := true) rfl (by kernel_rfl) (inv.get hall 42 149 (by kernel_rfl) (by kernel_rfl)), ?_, rfl⟩)
      have h154 : (ownP (tabB L)) (A1.eval (.tmp 154)) W1 := inv.get hall 47 154 (by kernel_rfl) (by kernel_rfl)
      simp only [execOp, Sem.run_bind, conv_ownP h154, Result.andThen_ok, Sem.run_pure]
    · refine ostep_val (.bool true) (by kernel_rfl) (fun _ A1 W1 inv hall => ⟨wanted_some (g := 42) (d := 149) (b := true) rfl (by kernel_rfl) (inv.get hall 42 149 (by kernel_rfl) (by kernel_rfl)), ?_, rfl⟩)
      have h152 : A1.eval (.tmp 152) = .string (strOfNums (tabB L)) := inv.get hall 45 152 (by kernel_rfl) (by kernel_rfl)
      have h155 : A1.eval (.tmp 155) = .string (strOfNums (tabB L)) := inv.get hall 48 155 (by kernel_rfl) (by kernel_rfl)
      simp only [execOp, h152, h155]
      simp [eqGuard, go_sem]
    · refine ostep_val (.bool true) (by kernel_rfl) (fun _ A1 W1 inv hall => ⟨wanted_none rfl, ?_, rfl⟩)
      have h149 : A1.eval (.tmp 149) = .bool true := inv.get hall 42 149 (by kernel_rfl) (by kernel_rfl)
      have h156 : A1.eval (.tmp 156) = .bool true := inv.get hall 49 156 (by kernel_rfl) (by kernel_rfl)
      simp only [execOp, h149, h156]
      simp [asBool]
    · refine ostep_val (.bool true) (by kernel_rfl) (fun _ A1 W1 inv hall => ⟨wanted_none rfl, ?_, rfl⟩)
      have h157 : A1.eval (.tmp 157) = .bool true := inv.get hall 50 157 (by kernel_rfl) (by kernel_rfl)
      simp only [execOp, h157, Sem.run_pure]
    · refine ostep_val (.int .u16 (n : Int)) (by kernel_rfl) (fun _ A1 W1 inv hall => ⟨wanted_some (g := 51) (d := 158) (b := true) rfl (by kernel_rfl) (inv.get hall 51 158 (by kernel_rfl) (by kernel_rfl)), ?_, rfl⟩)
      have h5 : A1.eval (.tmp 5) = .int .u16 (n : Int) := (inv.base 5 (by kernel_rfl)).trans rfl
      simp only [execOp, h5, Sem.run_pure]
    · refine ostep_val (.bool cw) (by kernel_rfl) (fun _ A1 W1 inv hall => ⟨wanted_some (g := 51) (d := 158) (b := true) rfl (by kernel_rfl) (inv.get hall 51 158 (by kernel_rfl) (by kernel_rfl)), ?_, rfl⟩)
      have h6 : A1.eval (.tmp 6) = .bool cw := (inv.base 6 (by kernel_rfl)).trans rfl
      simp only [execOp, h6, Sem.run_pure]
    · refine ostep_call 38 (by kernel_rfl) _ _ (by kernel_rfl) rfl (fun _ A1 W1 inv hall => ⟨wanted_some (g := 51) (d := 158) (b := true) rfl (by kernel_rfl) (inv.get hall 51 158 (by kernel_rfl) (by kernel_rfl)), #[.int .u16 (n : Int), .bool cw], ?_, ?_⟩)
      · have h159 : A1.eval (.tmp 159) = .int .u16 (n : Int) := inv.get hall 52 159 (by kernel_rfl) (by kernel_rfl)
        have h160 : A1.eval (.tmp 160) = .bool cw := inv.get hall 53 160 (by kernel_rfl) (by kernel_rfl)
        simp [h159, h160]
      · refine (Avail_any n cw _ HN.out).mono ?_
        rintro e u ⟨rfl, rfl⟩
        exact ⟨_, rfl, rfl, Below.refl _ _⟩
    · refine ostep_val (.int .u16 (n : Int)) (by kernel_rfl) (fun _ A1 W1 inv hall => ⟨wanted_some (g := 51) (d := 158) (b := true) rfl (by kernel_rfl) (inv.get hall 51 158 (by kernel_rfl) (by kernel_rfl)), ?_, rfl⟩)
      have h5 : A1.eval (.tmp 5) = .int .u16 (n : Int) := (inv.base 5 (by kernel_rfl)).trans rfl
      simp only [execOp, h5, Sem.run_pure]
    · refine ostep_val (.bool cw) (by kernel_rfl) (fun _ A1 W1 inv hall => ⟨wanted_some (g := 51) (d := 158) (b := true) rfl (by kernel_rfl) (inv.get hall 51 158 (by kernel_rfl) (by kernel_rfl)), ?_, rfl⟩)
      have h6 : A1.eval (.tmp 6) = .bool cw := (inv.base 6 (by kernel_rfl)).trans rfl
      simp only [execOp, h6, Sem.run_pure]
    · refine ostep_call 56 (by kernel_rfl) _ _ (by kernel_rfl) rfl (fun _ A1 W1 inv hall => ⟨wanted_some (g := 51) (d := 158) (b := true) rfl (by kernel_rfl) (inv.get hall 51 158 (by kernel_rfl) (by kernel_rfl)), #[.int .u16 (n : Int), .bool cw], ?_, ?_⟩)
      · have h162 : A1.eval (.tmp 162) = .int .u16 (n : Int) := inv.get hall 55 162 (by kernel_rfl) (by kernel_rfl)
        have h163 : A1.eval (.tmp 163) = .bool cw := inv.get hall 56 163 (by kernel_rfl) (by kernel_rfl)
        simp [h162, h163]
      · refine (ravail_any n cw _ HN.out).mono ?_
        rintro e u ⟨rfl, rfl⟩
        exact ⟨_, rfl, rfl, Below.refl _ _⟩
    · refine ostep_val (.bool true) (by kernel_rfl) (fun _ A1 W1 inv hall => ⟨wanted_some (g := 51) (d := 158) (b := true) rfl (by kernel_rfl) (inv.get hall 51 158 (by kernel_rfl) (by kernel_rfl)), ?_, rfl⟩)
      have h161 : A1.eval (.tmp 161) = .bool (decide (ownN n = mkN cw false)) := inv.get hall 54 161 (by kernel_rfl) (by kernel_rfl)
      have h164 : A1.eval (.tmp 164) = .bool (decide (ownN n = mkN cw false)) := inv.get hall 57 164 (by kernel_rfl) (by kernel_rfl)
      simp only [execOp, h161, h164]
      simp [eqGuard, go_sem]
    · refine ostep_val (.bool true) (by kernel_rfl) (fun _ A1 W1 inv hall => ⟨wanted_none rfl, ?_, rfl⟩)
      have h158 : A1.eval (.tmp 158) = .bool true := inv.get hall 51 158 (by kernel_rfl) (by kernel_rfl)
      have h165 : A1.eval (.tmp 165) = .bool true := inv.get hall 58 165 (by kernel_rfl) (by kernel_rfl)
      simp only [execOp, h158, h165]
      simp [asBool]
    · refine ostep_val (.bool true) (by kernel_rfl) (fun _ A1 W1 inv hall => ⟨wanted_none rfl, ?_, rfl⟩)
      have h166 : A1.eval (.tmp 166) = .bool true := inv.get hall 59 166 (by kernel_rfl) (by kernel_rfl)
      simp only [execOp, h166, Sem.run_pure]
    · refine ostep_val (.int .u16 (n : Int)) (by kernel_rfl) (fun _ A1 W1 inv hall => ⟨wanted_some (g := 60) (d := 167) (b := true) rfl (by kernel_rfl) (inv.get hall 60 167 (by kernel_rfl) (by kernel_rfl)), ?_, rfl⟩)
      have h5 : A1.eval (.tmp 5) = .int .u16 (n : Int) := (inv.base 5 (by kernel_rfl)).trans rfl
      simp only [execOp, h5, Sem.run_pure]
    · refine ostep_val (.bool cw) (by kernel_rfl) (fun _ A1 W1 inv hall => ⟨wanted_some (g := 60) (d := 167) (b := true) rfl (by kernel_rfl) (inv.get hall 60 167 (by kernel_rfl) (by kernel_rfl)), ?_, rfl⟩)
      have h6 : A1.eval (.tmp 6) = .bool cw := (inv.base 6 (by kernel_rfl)).trans rfl
      simp only [execOp, h6, Sem.run_pure]
    · refine ostep_call 39 (by kernel_rfl) _ _ (by kernel_rfl) rfl (fun _ A1 W1 inv hall => ⟨wanted_some (g := 60) (d := 167) (b := true) rfl (by kernel_rfl) (inv.get hall 60 167 (by kernel_rfl) (by kernel_rfl)), #[.int .u16 (n : Int), .bool cw], ?_, ?_⟩)
      · have h168 : A1.eval (.tmp 168) = .int .u16 (n : Int) := inv.get hall 61 168 (by kernel_rfl) (by kernel_rfl)
        have h169 : A1.eval (.tmp 169) = .bool cw := inv.get hall 62 169 (by kernel_rfl) (by kernel_rfl)
        simp [h168, h169]
      · refine (Used_any n cw _ HN.out).mono ?_
        rintro e u ⟨rfl, rfl⟩
        exact ⟨_, rfl, rfl, Below.refl _ _⟩
    · refine ostep_val (.int .u16 (n : Int)) (by kernel_rfl) (fun _ A1 W1 inv hall => ⟨wanted_some (g := 60) (d := 167) (b := true) rfl (by kernel_rfl) (inv.get hall 60 167 (by kernel_rfl) (by kernel_rfl)), ?_, rfl⟩)
      have h5 : A1.eval (.tmp 5) = .int .u16 (n : Int) := (inv.base 5 (by kernel_rfl)).trans rfl
      simp only [execOp, h5, Sem.run_pure]
    · refine ostep_val (.bool cw) (by kernel_rfl) (fun _ A1 W1 inv hall => ⟨wanted_some (g := 60) (d := 167) (b := true) rfl (by kernel_rfl) (inv.get hall 60 167 (by kernel_rfl) (by kernel_rfl)), ?_, rfl⟩)
      have h6 : A1.eval (.tmp 6) = .bool cw := (inv.base 6 (by kernel_rfl)).trans rfl
      simp only [execOp, h6, Sem.run_pure]
    · refine ostep_call 57 (by kernel_rfl) _ _ (by kernel_rfl) rfl (fun _ A1 W1 inv hall => ⟨wanted_some (g := 60) (d := 167) (b := true) rfl (by kernel_rfl) (inv.get hall 60 167 (by kernel_rfl) (by kernel_rfl)), #[.int .u16 (n : Int), .bool cw], ?_, ?_⟩)
      · have h171 : A1.eval (.tmp 171) = .int .u16 (n : Int) := inv.get hall 64 171 (by kernel_rfl) (by kernel_rfl)
        have h172 : A1.eval (.tmp 172) = .bool cw := inv.get hall 65 172 (by kernel_rfl) (by kernel_rfl)
        simp [h171, h172]
      · refine (rused_any n cw _ HN.out).mono ?_
        rintro e u ⟨rfl, rfl⟩
        exact ⟨_, rfl, rfl, Below.refl _ _⟩
    · refine ostep_val (.bool true) (by kernel_rfl) (fun _ A1 W1 inv hall => ⟨wanted_some (g := 60) (d := 167) (b := true) rfl (by kernel_rfl) (inv.get hall 60 167 (by kernel_rfl) (by kernel_rfl)), ?_, rfl⟩)
      have h170 : A1.eval (.tmp 170) = .bool (decide (ownN n = mkN cw true)) := inv.get hall 63 170 (by kernel_rfl) (by kernel_rfl)
      have h173 : A1.eval (.tmp 173) = .bool (decide (ownN n = mkN cw true)) := inv.get hall 66 173 (by kernel_rfl) (by kernel_rfl)
      simp only [execOp, h170, h173]
      simp [eqGuard, go_sem]
    · refine ostep_val (.bool true) (by kernel_rfl) (fun _ A1 W1 inv hall => ⟨wanted_none rfl, ?_, rfl⟩)
      have h167 : A1.eval (.tmp 167) = .bool true := inv.get hall 60 167 (by kernel_rfl) (by kernel_rfl)
      have h174 : A1.eval (.tmp 174) = .bool true := inv.get hall 67 174 (by kernel_rfl) (by kernel_rfl)
      simp only [execOp, h167, h174]
      simp [asBool]
    · refine ostep_val (.bool true) (by kernel_rfl) (fun _ A1 W1 inv hall => ⟨wanted_none rfl, ?_, rfl⟩)
      have h175 : A1.eval (.tmp 175) = .bool true := inv.get hall 68 175 (by kernel_rfl) (by kernel_rfl)
      simp only [execOp, h175, Sem.run_pure]
    · refine ostep_val (.int .u16 (n : Int)) (by kernel_rfl) (fun _ A1 W1 inv hall => ⟨wanted_some (g := 69) (d := 176) (b := true) rfl (by kernel_rfl) (inv.get hall 69 176 (by kernel_rfl) (by kernel_rfl)), ?_, rfl⟩)
      have h5 : A1.eval (.tmp 5) = .int .u16 (n : Int) := (inv.base 5 (by kernel_rfl)).trans rfl
      simp only [execOp, h5, Sem.run_pure]
    · refine ostep_val (.bool cw) (by kernel_rfl) (fun _ A1 W1 inv hall => ⟨wanted_some (g := 69) (d := 176) (b := true) rfl (by kernel_rfl) (inv.get hall 69 176 (by kernel_rfl) (by kernel_rfl)), ?_, rfl⟩)
      have h6 : A1.eval (.tmp 6) = .bool cw := (inv.base 6 (by kernel_rfl)).trans rfl
      simp only [execOp, h6, Sem.run_pure]
    · refine ostep_val (.bool cu) (by kernel_rfl) (fun _ A1 W1 inv hall => ⟨wanted_some (g := 69) (d := 176) (b := true) rfl (by kernel_rfl) (inv.get hall 69 176 (by kernel_rfl) (by kernel_rfl)), ?_, rfl⟩)
      have h7 : A1.eval (.tmp 7) = .bool cu := (inv.base 7 (by kernel_rfl)).trans rfl
      simp only [execOp, h7, Sem.run_pure]
    · refine ostep_call 58 (by kernel_rfl) _ _ (by kernel_rfl) rfl (fun _ A1 W1 inv hall => ⟨wanted_some (g := 69) (d := 176) (b := true) rfl (by kernel_rfl) (inv.get hall 69 176 (by kernel_rfl) (by kernel_rfl)), #[.int .u16 (n : Int), .bool cw, .bool cu], ?_, ?_⟩)
      · have h177 : A1.eval (.tmp 177) = .int .u16 (n : Int) := inv.get hall 70 177 (by kernel_rfl) (by kernel_rfl)
        have h178 : A1.eval (.tmp 178) = .bool cw := inv.get hall 71 178 (by kernel_rfl) (by kernel_rfl)
        have h179 : A1.eval (.tmp 179) = .bool cu := inv.get hall 72 179 (by kernel_rfl) (by kernel_rfl)
        simp [h177, h178, h179]
      · refine (Mark_any n cw cu _ HN.out).mono ?_
        rintro e u ⟨rfl, rfl⟩
        exact ⟨_, rfl, rfl, Below.refl _ _⟩
    · refine ostep_val (.int .u16 (n : Int)) (by kernel_rfl) (fun _ A1 W1 inv hall => ⟨wanted_some (g := 69) (d := 176) (b := true) rfl (by kernel_rfl) (inv.get hall 69 176 (by kernel_rfl) (by kernel_rfl)), ?_, rfl⟩)
      have h5 : A1.eval (.tmp 5) = .int .u16 (n : Int) := (inv.base 5 (by kernel_rfl)).trans rfl
      simp only [execOp, h5, Sem.run_pure]
    · refine ostep_val (.bool cw) (by kernel_rfl) (fun _ A1 W1 inv hall => ⟨wanted_some (g := 69) (d := 176) (b := true) rfl (by kernel_rfl) (inv.get hall 69 176 (by kernel_rfl) (by kernel_rfl)), ?_, rfl⟩)
      have h6 : A1.eval (.tmp 6) = .bool cw := (inv.base 6 (by kernel_rfl)).trans rfl
      simp only [execOp, h6, Sem.run_pure]
    · refine ostep_val (.bool cu) (by kernel_rfl) (fun _ A1 W1 inv hall => ⟨wanted_some (g := 69) (d := 176) (b := true) rfl (by kernel_rfl) (inv.get hall 69 176 (by kernel_rfl) (by kernel_rfl)), ?_, rfl⟩)
      have h7 : A1.eval (.tmp 7) = .bool cu := (inv.base 7 (by kernel_rfl)).trans rfl
      simp only [execOp, h7, Sem.run_pure]
    · refine ostep_call 59 (by kernel_rfl) _ _ (by kernel_rfl) rfl (fun _ A1 W1 inv hall => ⟨wanted_some (g := 69) (d := 176) (b := true) rfl (by kernel_rfl) (inv.get hall 69 176 (by kernel_rfl) (by kernel_rfl)), #[.int .u16 (n : Int), .bool cw, .bool cu], ?_, ?_⟩)
      · have h181 : A1.eval (.tmp 181) = .int .u16 (n : Int) := inv.get hall 74 181 (by kernel_rfl) (by kernel_rfl)
        have h182 : A1.eval (.tmp 182) = .bool cw := inv.get hall 75 182 (by kernel_rfl) (by kernel_rfl)
        have h183 : A1.eval (.tmp 183) = .bool cu := inv.get hall 76 183 (by kernel_rfl) (by kernel_rfl)
        simp [h181, h182, h183]
      · refine (rmark_any n cw cu _ HN.out).mono ?_
        rintro e u ⟨rfl, rfl⟩
        exact ⟨_, rfl, rfl, Below.refl _ _⟩
    · refine ostep_val (.bool true) (by kernel_rfl) (fun _ A1 W1 inv hall => ⟨wanted_some (g := 69) (d := 176) (b := true) rfl (by kernel_rfl) (inv.get hall 69 176 (by kernel_rfl) (by kernel_rfl)), ?_, rfl⟩)
      have h180 : A1.eval (.tmp 180) = .int .u16 ((markN n cw cu : Nat) : Int) := inv.get hall 73 180 (by kernel_rfl) (by kernel_rfl)
      have h184 : A1.eval (.tmp 184) = .int .u16 ((markN n cw cu : Nat) : Int) := inv.get hall 77 184 (by kernel_rfl) (by kernel_rfl)
      simp only [execOp, h180, h184]
      simp [eqGuard, go_sem]
    · refine ostep_val (.bool true) (by kernel_rfl) (fun _ A1 W1 inv hall => ⟨wanted_none rfl, ?_, rfl⟩)
      have h176 : A1.eval (.tmp 176) = .bool true := inv.get hall 69 176 (by kernel_rfl) (by kernel_rfl)
      have h185 : A1.eval (.tmp 185) = .bool true := inv.get hall 78 185 (by kernel_rfl) (by kernel_rfl)
      simp only [execOp, h176, h185]
      simp [asBool]
    · refine ostep_val (.bool true) (by kernel_rfl) (fun _ A1 W1 inv hall => ⟨wanted_none rfl, ?_, rfl⟩)
      have h186 : A1.eval (.tmp 186) = .bool true := inv.get hall 79 186 (by kernel_rfl) (by kernel_rfl)
      simp only [execOp, h186, Sem.run_pure]
  · intro listed A1 W1 inv hall
    have hlast : A1.eval (.tmp 16) = .bool true := inv.fin 80 16 (by kernel_rfl) (hall 80 (Nat.lt_of_lt_of_eq (by decide : 80 < 81) (by kernel_rfl)))
    refine (by assumption : ∀ (a : Act) (w : World), Code.wp Try.prog Code.ret _ a w → _) A1 W1 ?_
    go_wp2_with fail
    simp only [Act.eval, Array.getD_eq_getD_getElem?] at hlast
    exact bodyPost_ret (v := .bool true) (by simp [results, Try.results5, go_sem, hlast]) inv.dfr ⟨rfl, below_more BXX.out inv.s⟩

theorem walk (w : World) (d p : Dsc) (x : Int) (v : Value) (l : List Int) (hvl : BytesAt w v l) (hB : isBytes l) (hml : l.length ≤ maxLen) (vL : Value) (L : List Dsc) (hv : DescsAt w vL L) (hL : isDscs L) (hm : L.length ≤ maxLen) (f : Int) (cw cu : Bool) (w2 : (Lit.int .u64 x).wf = true) (w5 : (Lit.int .u16 f).wf = true) (hd : isDsc d) (hp : isDsc p) :
    Calls Try.prog 5 #[dV d, dV p, .int .u64 x, v, vL, .int .u16 f, .bool cw, .bool cu] w fun e w' => e = .returned (.bool true) ∧ Below w.heap.size w w' := by
  have hbx := bounds_u64 w2
  have hbf := bounds_u16 w5
  obtain ⟨va, vc, rfl⟩ : ∃ a c, v = .slice a l.length c := by
    rcases hvl with ⟨⟨a, c, rfl, _⟩, rfl⟩ | ⟨b, o, c, rfl, _⟩
    · exact ⟨a, c, rfl⟩
    · exact ⟨_, c, rfl⟩
  obtain ⟨vb, vd, rfl⟩ := hv.len
  obtain ⟨n, rfl⟩ : ∃ n : Nat, f = n := ⟨f.toNat, by omega⟩
  by_cases h1 : l.length ≤ 5000
  · by_cases h2 : L.length ≤ 300
    · exact walk_main w d p x n va vb vc vd l L cw cu hvl hB h1 hv hL h2 hd hp (by omega) (by omega)
    · exact walk_long w d p x n va vb vc vd l L cw cu (Or.inr ⟨h1, by omega⟩)
  · exact walk_long w d p x n va vb vc vd l L cw cu (Or.inl (by omega))

/-! ### the row's frame -/
theorem own : ownKnob Try.prog.godebug = none := by kernel_rfl
theorem laidOut : laidOutB Try.prog = true := by kernel_rfl

set_option maxRecDepth 100000 in
theorem lifted (os : Os) (started : os.Started) (H : Type) (enc : TypeId × Value → H) :
    ReturnsInHanded {} Try.checked os 5 .any (Rows.descCallsSpec.pre6 enc Try.prog Try.f5 Rows.descCallsRow.domain false) (Rows.descCallsSpec.post enc Try.prog Try.f5 false true false false) := by
  refine returnsInHanded_of_change (C := Try.checked) own started (by kernel_rfl) Try.func5
    (ChangeSpec.witness6 (enc := enc) (C := Try.checked) false ⟨#[], #[.agg #[.int .u64 0, .int .u32 0, .int .u16 0, .int .u16 0], .agg #[.int .u64 0, .int .u32 0, .int .u16 0, .int .u16 0], .int .u64 0, .slice none 0 0, .slice none 0 0, .int .u16 0, .bool false, .bool false], []⟩ 8 (by kernel_rfl) (by kernel_rfl) (by kernel_rfl) (by kernel_rfl)) ?_
  intro W base args ds gs before hval0 hW hcnd _
  have hval : ∀ (j : Nat) t v, Try.f5.params[j]? = some t → args[j]? = some v → Value.okWide Try.prog W .any base t v := hval0
  have hW' := hW
  obtain ⟨p, q, hA0, hV, rfl, hfz, hnd⟩ := hW
  have hA : DataW.TrodAll enc Try.prog W 0 (fun _ => true) true Try.f5.params.toList args.toList ds p := hA0
  rw [Try.params5] at hA hval
  obtain ⟨v0, vs0, d0, ds0, p0, q0, hargs, rfl, rfl, h0, r0⟩ := trodAll_cons hA
  obtain ⟨v1, vs1, d1, ds1, p1, q1, rfl, rfl, rfl, h1, r1⟩ := trodAll_cons r0
  obtain ⟨v2, vs2, d2, ds2, p2, q2, rfl, rfl, rfl, h2, r2⟩ := trodAll_cons r1
  obtain ⟨v3, vs3, d3, ds3, p3, q3, rfl, rfl, rfl, h3, r3⟩ := trodAll_cons r2
  obtain ⟨v4, vs4, d4, ds4, p4, q4, rfl, rfl, rfl, h4, r4⟩ := trodAll_cons r3
  obtain ⟨v5, vs5, d5, ds5, p5, q5, rfl, rfl, rfl, h5, r5⟩ := trodAll_cons r4
  obtain ⟨v6, vs6, d6, ds6, p6, q6, rfl, rfl, rfl, h6, r6⟩ := trodAll_cons r5
  obtain ⟨v7, vs7, d7, ds7, p7, q7, rfl, rfl, rfl, h7, r7⟩ := trodAll_cons r6
  obtain ⟨rfl, rfl, rfl⟩ := trodAll_nil r7
  obtain rfl : args = #[v0, v1, v2, v3, v4, v5, v6, v7] := by cases args; simp_all
  obtain ⟨rfl, rfl⟩ := trodVars_none hV
  have k0 := h0
  have lt0 : ∀ x ∈ p0, x.block < W.heap.size := by
    obtain ⟨m, hm⟩ := k0
    exact DataW.trod_lt m _ _ _ hm
  have k1 := h1
  have lt1 : ∀ x ∈ p1, x.block < W.heap.size := by
    obtain ⟨m, hm⟩ := k1
    exact DataW.trod_lt m _ _ _ hm
  have k2 := h2
  have lt2 : ∀ x ∈ p2, x.block < W.heap.size := by
    obtain ⟨m, hm⟩ := k2
    exact DataW.trod_lt m _ _ _ hm
  have k3 := h3
  have lt3 : ∀ x ∈ p3, x.block < W.heap.size := by
    obtain ⟨m, hm⟩ := k3
    exact DataW.trod_lt m _ _ _ hm
  have k4 := h4
  have lt4 : ∀ x ∈ p4, x.block < W.heap.size := by
    obtain ⟨m, hm⟩ := k4
    exact DataW.trod_lt m _ _ _ hm
  have k5 := h5
  have lt5 : ∀ x ∈ p5, x.block < W.heap.size := by
    obtain ⟨m, hm⟩ := k5
    exact DataW.trod_lt m _ _ _ hm
  have k6 := h6
  have lt6 : ∀ x ∈ p6, x.block < W.heap.size := by
    obtain ⟨m, hm⟩ := k6
    exact DataW.trod_lt m _ _ _ hm
  have k7 := h7
  have lt7 : ∀ x ∈ p7, x.block < W.heap.size := by
    obtain ⟨m, hm⟩ := k7
    exact DataW.trod_lt m _ _ _ hm
  obtain ⟨a0, rfl, w0⟩ := open_dsc (hval 0 56 v0 rfl rfl) h0
  obtain ⟨a1, rfl, w1⟩ := open_pck (hval 1 60 v1 rfl rfl) h1
  obtain ⟨a2, rfl, rfl, rfl, w2⟩ := open_int Try.underlying26 (hval 2 26 v2 rfl rfl) h2
  obtain ⟨l3, hv3, hb3, hm3⟩ := open_bytes (hval 3 37 v3 rfl rfl) h3
  obtain ⟨l4, hv4, hb4, hm4⟩ := open_descs (hval 4 63 v4 rfl rfl) h4
  obtain ⟨a5, rfl, rfl, rfl, w5⟩ := open_int Try.underlying54 (hval 5 54 v5 rfl rfl) h5
  obtain ⟨a6, rfl, rfl, rfl⟩ := open_bool Try.underlying4 (hval 6 4 v6 rfl rfl) h6
  obtain ⟨a7, rfl, rfl, rfl⟩ := open_bool Try.underlying4 (hval 7 4 v7 rfl rfl) h7
  clear hA0 hval0
  refine (walk W a0 a1 a2 v3 l3 hv3 hb3 hm3 v4 l4 hv4 hb4 hm4 a5 a6 a7 w2 w5 w0 w1).mono fun e W' ⟨he, bel⟩ => ?_
  subst he
  exact ⟨_, rfl, _, _, _, [], _, [], hW', trodAll_mk1 (shut_bool Try.underlying4 _), (trodAll_cons_mk (Below.trod laidOut (by kernel_rfl) (of_decide_eq_true (by kernel_rfl)) k0 bel lt0) (trodAll_cons_mk (Below.trod laidOut (by kernel_rfl) (of_decide_eq_true (by kernel_rfl)) k1 bel lt1) (trodAll_cons_mk (Below.trod laidOut (by kernel_rfl) (of_decide_eq_true (by kernel_rfl)) k2 bel lt2) (trodAll_cons_mk (Below.trod laidOut (by kernel_rfl) (of_decide_eq_true (by kernel_rfl)) k3 bel lt3) (trodAll_cons_mk (Below.trod laidOut (by kernel_rfl) (of_decide_eq_true (by kernel_rfl)) k4 bel lt4) (trodAll_cons_mk (Below.trod laidOut (by kernel_rfl) (of_decide_eq_true (by kernel_rfl)) k5 bel lt5) (trodAll_cons_mk (Below.trod laidOut (by kernel_rfl) (of_decide_eq_true (by kernel_rfl)) k6 bel lt6) (trodAll_cons_mk (Below.trod laidOut (by kernel_rfl) (of_decide_eq_true (by kernel_rfl)) k7 bel lt7) trodAll_mk0)))))))), rfl, bel.frame _, fun h => by cases h⟩

theorem over : Rows.descCallsRow.holds Try.pinned (OpenSpec.ofChange Rows.descCallsSpec) :=
  OpenClaim.holds_of_wide 5 Try.f5 rfl rfl rfl rfl rfl rfl rfl ⟨rfl, rfl, rfl, rfl, rfl⟩ rfl rfl rfl rfl rfl (by kernel_rfl) Try.func5 (by kernel_rfl)
    (of_decide_eq_true (by kernel_rfl)) (by unfold Func.isWrapper; first | (rw [if_pos (by decide +kernel)]; kernel_rfl) | (rw [if_neg (by decide +kernel)]; exact ⟨rfl, rfl⟩))
    (fun os started H enc _ => lifted os started H enc)

/-- THE STATEMENT -/
theorem descCalls_holds : Rows.DescCallsSaid := over
#print axioms descCalls_holds
end Go.Proofs.Ytfjccpalkdmniaa.descCalls
