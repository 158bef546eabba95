/- Wl3 Wl4 Wl5: joined texts. Conditions: as each theorem names them. -/
import Derived.Test.YtfhhgcgbgmilcaaGreatKp32
import Derived.Test.YtfhhgcgbgmilcaaGreatKp24
import Derived.Test.YtfhhgcgbgmilcaaGreatKp22
import Derived.Test.YtfhhgcgbgmilcaaGreatKp36
import Derived.Test.YtfhhgcgbgmilcaaGreatKp39
import Derived.Test.YtfhhgcgbgmilcaaGreatKp25
/- kit.Taken. Conditions: as each theorem names them. -/
namespace Go.Proofs.YtfhhgcgbgmilcaaGreat
open Go.ChangeShapes Go.WideShapes Go.ChangeAt Go.RowKit
set_option linter.unusedVariables false
set_option maxRecDepth 100000

def tkB (i1 c1 : Int) (L1 : List Sg) (i2 c2 : Int) (L2 : List Sg) : Bool := decide (i1 = i2) && (decide (c1 = c2) && sameS L1 L2)
set_option maxHeartbeats 1000000 in
theorem ktaken (i1 c1 i2 c2 : Int) (v1 v2 : Value) (L1 L2 : List Sg) (w : World) (h1 : SegsAt w v1 L1) (h2 : SegsAt w v2 L2) (hl : L1.length ≤ 1000) :
    Calls Tryz.prog 21 #[.agg #[.int .i64 i1, .int .i64 c1, v1], .agg #[.int .i64 i2, .int .i64 c2, v2]] w fun e w' => e = .returned (.bool (tkB i1 c1 L1 i2 c2 L2)) ∧ Below w.heap.size w w' := by
  have HB := hid_mk (((below_box w (.cells #[.int .i64 i1, .int .i64 c1, v1] 68)).alloc (by simp) (.cells #[.int .i64 i2, .int .i64 c2, v2] 68)))
  have HS := hid_mk (ksame_any v1 v2 L1 L2 _ (h1.below HB.out) (h2.below HB.out) hl)
  obtain ⟨a1, d1, rfl⟩ := h1.len
  obtain ⟨a2, d2, rfl⟩ := h2.len
  unfold tkB
  have hb1 := beq_dec i1 i2
  have hb2 := beq_dec c1 c2
  generalize sameS L1 L2 = z at *
  clear h1 h2 hl
  by_cases e1 : i1 = i2
  · rw [decide_eq_true e1] at hb1 ⊢
    rw [Bool.true_and]
    clear e1
    by_cases e2 : c1 = c2
    · rw [decide_eq_true e2] at hb2 ⊢
      rw [Bool.true_and]
      clear e2
      go_enter Tryz.func21, Tryz.ntmps21
      go_wp2_with fail
      refine HS.out.mono ?_
      rintro e w1 ⟨rfl, n, rfl⟩
      go_wp2_with fail
      go_ret
      exact ⟨rfl, below_dn HB.out _⟩
    · rw [decide_eq_false e2] at hb2 ⊢
      rw [Bool.false_and]
      clear e2
      go_enter Tryz.func21, Tryz.ntmps21
      go_wp2_with fail
      go_ret
      exact ⟨rfl, HB.out⟩
  · rw [decide_eq_false e1] at hb1 ⊢
    rw [Bool.false_and]
    clear e1
    go_enter Tryz.func21, Tryz.ntmps21
    go_wp2_with fail
    go_ret
    exact ⟨rfl, HB.out⟩
end Go.Proofs.YtfhhgcgbgmilcaaGreat

/- Layer 10: one memory, its walks by value; lives. Conditions: as each theorem names them. -/
namespace Go.Proofs.YtfhhgcgbgmilcaaGreat
open Go.ChangeShapes Go.WideShapes Go.ChangeAt Go.RowKit
set_option linter.unusedVariables false
set_option maxRecDepth 100000

/-- the program's memory -/
structure MdS (w0 : World) (p ib qb : Nat) (R : List (Int × Int)) (M : List Int) (u : World) : Prop where
  mem : IsMem u p ib qb R M
  old : Below w0.heap.size w0 u
  lo : w0.heap.size ≤ p ∧ w0.heap.size ≤ ib ∧ w0.heap.size ≤ qb
section
variable {w0 : World} {p ib qb rp : Nat} {R : List (Int × Int)} {M M2 : List Int} {u u' : World}
theorem MdS.below (h : MdS w0 p ib qb R M u) (hb : Below u.heap.size u u') : MdS w0 p ib qb R M u' := ⟨h.mem.below hb, below_then h.old hb, h.lo⟩
theorem LdS.md (h : LdS w0 p ib qb rp R M M2 u) : MdS w0 p ib qb R M u := ⟨h.mem, h.old, h.lo⟩
theorem MdS.write (h : MdS w0 p ib qb R M u) (a : Int) (v : Value) (l : List Int) (ha : U64 a) (hv : BytesAt u v l) (hl : isBytes l) (hm : l.length ≤ 100000) :
    Calls Tryz.prog 9 #[.pointer (some ⟨p, 0, none⟩), .int .u64 a, v] u fun e u' => e = .returned (.int .i64 (writeE R a l)) ∧ MdS w0 p ib qb R (writeM R M a l) u' ∧ Kp8 u u' := by
  refine (write_any p ib qb R M a v l u h.mem ha hv hl (by omega)).mono ?_
  rintro e u' ⟨rfl, h1, h2⟩
  exact ⟨rfl, ⟨h1, h.old.trans (h2.below h.old.size (fun k hk => by have := h.lo; omega)), h.lo⟩, Kp8.chg h2 (fun b hb => by subst hb; exact ⟨_, _, h.mem.img⟩)⟩
/-- a walk of a split chain, by its values -/
theorem MdS.split (h : MdS w0 p ib qb R M u) (pk : Bool) (n d g c head : Int) (table : Bool) (E : Int) (L : List Sg) (k : Nat) (hd : U64 d) (hg : U64 g) (hc : U64 c) (hh : I64 head) (he : wsE R M pk n d g c head table = E) (hl : sameS (wsL R M pk n d g c head table) L = true) (hk : L.length = k) :
    Calls Tryz.prog 11 #[.pointer (some ⟨p, 0, none⟩), rV pk n d g c, .int .i64 head, .bool table] u fun e u' => ∃ a z, e = .returned (.tuple #[.slice a k z, .int .i64 E]) ∧ SegsAt u' (.slice a k z) L ∧ Below u.heap.size u u' := by
  refine (wksplit p ib qb R M pk n d g c head table u h.mem hd hg hc hh).mono ?_
  rintro e u' ⟨v, rfl, hv, hb⟩
  rw [sameS_iff.1 hl] at hv
  obtain ⟨a, z, rfl⟩ := hv.len
  rw [hk] at hv ⊢
  rw [he]
  exact ⟨a, z, rfl, hv, hb⟩
theorem MdS.reads (h : MdS w0 p ib qb R M u) (pk : Bool) (n d g c head : Int) (table : Bool) (k : Nat) (hd : U64 d) (hg : U64 g) (hc : U64 c) (hh : I64 head) (hl : wsN R M pk n d g c head table = k) :
    Calls Tryz.prog 15 #[.pointer (some ⟨p, 0, none⟩), rV pk n d g c, .int .i64 head, .bool table] u fun e u' => e = .returned (.int .i64 (k : Nat)) ∧ Below u.heap.size u u' := by
  rw [← hl]
  exact wkreads p ib qb R M pk n d g c head table u h.mem hd hg hc hh
theorem MdS.packed (h : MdS w0 p ib qb R M u) (pk : Bool) (n d g c at_ : Int) (b table : Bool) (I : Int) (C : Nat) (E : Int) (L : List Sg) (k : Nat) (hd : U64 d) (hg : U64 g) (hc : U64 c) (hi : wpI R M pk n d g c at_ table = I) (hC : wpC R M pk n d g c at_ table = C) (he : wpE R M pk n d g c at_ table = E) (hl : sameS (wpL R M pk n d g c at_ table) L = true) (hk : L.length = k) :
    Calls Tryz.prog 18 #[.pointer (some ⟨p, 0, none⟩), rV pk n d g c, .agg #[.int .i64 at_, .bool b], .bool table] u fun e u' => ∃ a z, e = .returned (.tuple #[.agg #[.int .i64 I, .int .i64 (C : Nat), .slice a k z], .int .i64 E]) ∧ SegsAt u' (.slice a k z) L ∧ Below u.heap.size u u' := by
  refine (wkpacked p ib qb R M pk n d g c at_ b table u h.mem hd hg hc).mono ?_
  rintro e u' ⟨v, rfl, hv, hb⟩
  rw [sameS_iff.1 hl] at hv
  obtain ⟨a, z, rfl⟩ := hv.len
  rw [hk] at hv ⊢
  rw [he, hi, hC]
  exact ⟨a, z, rfl, hv, hb⟩
end
abbrev R1k : List (Int × Int) := [(0, 1000)]
theorem new1k (w0 u : World) (b : Nat) (h0 : Below w0.heap.size w0 u) (hb : b = u.heap.size) :
    Calls Tryz.prog 23 #[.slice (some ⟨b, 0, none⟩) 1 1] (u.alloc (.cells #[.int .u64 0, .int .u64 1000] 80)) fun e w' => ∃ p ib qb, e = .returned (.tuple #[.pointer (some ⟨p, 0, none⟩), .int .i64 0]) ∧ MdS w0 p ib qb R1k (List.replicate 1000 0) w' ∧ Below u.heap.size u w' := by
  subst hb
  have hr : RegsAt (u.alloc (.cells #[.int .u64 0, .int .u64 1000] 80)) (.slice (some ⟨u.heap.size, 0, none⟩) 1 1) R1k := by
    refine Or.inr ⟨u.heap.size, 0, 1, rfl, by simp, by simp, fun j hj => ?_⟩
    obtain rfl : j = 0 := by simpa using hj
    exact ⟨(blk_new u [.int .u64 0, .int .u64 1000] 80).cell 0, (blk_new u [.int .u64 0, .int .u64 1000] 80).cell 1⟩
  refine (new_any _ R1k _ hr (fun r hr => by
    rw [List.mem_singleton] at hr
    subst hr
    exact ⟨by decide, by decide⟩) (by decide) (by decide +kernel) (by decide)).mono ?_
  rintro e w' ⟨p, ib, qb, rfl, h1, h2, h3⟩
  have hz : (u.alloc (.cells #[.int .u64 0, .int .u64 1000] 80)).heap.size = u.heap.size + 1 := by simp
  rw [hz] at h2
  have := h0.size
  have h4 := below_then (below_box u (.cells #[.int .u64 0, .int .u64 1000] 80)) h3
  exact ⟨p, ib, qb, rfl, ⟨h1, below_then h0 h4, by omega⟩, h4⟩
theorem place4 (pk : Bool) (c T : Int) (hc : cO pk 4 = c) (hT : totL pk 4 = T) (u : World) : Calls Tryz.prog 22 #[.bool pk, .int .i64 4, .int .u64 0] u fun e u' => e = .returned (.tuple #[rV pk 4 0 64 c, .int .u64 T, .int .i64 0]) ∧ Below u.heap.size u u' := by
  have h := rplace_lay pk 4 0 u (by decide)
  rw [← pl_yes (by cases pk <;> decide +kernel), hc, hT, show alV 0 16 = 0 by decide +kernel] at h
  simpa using h
/-- a literal of segments -/
theorem segs_lit10 (w : World) (L : List Sg) (t : TypeId) : SegsAt (w.alloc (.cells (segCells L).toArray t)) (.slice (some ⟨w.heap.size, 0, none⟩) L.length L.length) L := by
  refine Or.inr ⟨w.heap.size, 0, L.length, rfl, by simp, Nat.le_refl _, fun j hj => ?_⟩
  have h := heap_alloc_new w (.cells (segCells L).toArray t)
  obtain ⟨h0, h1, h2⟩ := segCells_at L j hj
  refine ⟨?_, ?_, ?_⟩
  · rw [cellK h, Nat.zero_add]
    exact h0
  · rw [cellK h, Nat.zero_add]
    exact h1
  · rw [cellK h, Nat.zero_add]
    exact h2
theorem ksame10 (v1 v2 : Value) (L O : List Sg) (w : World) (h1 : SegsAt w v1 L) (h2 : SegsAt w v2 O) (hl : L.length ≤ 1000) (he : sameS L O = true) : Calls Tryz.prog 14 #[v1, v2] w fun e w' => e = .returned (.bool true) ∧ Below w.heap.size w w' := by
  refine (ksame_any v1 v2 L O w h1 h2 hl).mono ?_
  rintro e w' ⟨rfl, m, rfl⟩
  rw [he]
  exact ⟨rfl, below_drewN _ _⟩
def k0 : List Int := List.replicate 1000 0
def lv1 : List Int := writeM R1k k0 0 (dB ⟨200, 4, 1, 0⟩)
def lv2 : List Int := writeM R1k lv1 0 (dB ⟨200, 4, 0, 0⟩)
def lv3 : List Int := writeM R1k lv2 16 (dB ⟨900, 200, 0, 0⟩)
set_option maxHeartbeats 600000 in
theorem lives10_any (w : World) : Calls Tryz.prog 4 #[] w fun e w' => e = .returned (.bool true) ∧ Below w.heap.size w w' := by
  have HNew := hid_mk (fun u b h0 hb => new1k w u b h0 hb)
  have HB := hid_mk (Below.refl w.heap.size w)
  go_enter Tryz.func4, Tryz.ntmps4
  go_wp2_with fail
  refine (place4 false 80 118 (by decide +kernel) (by decide +kernel) _).mono ?_
  rintro e w1 ⟨rfl, hb⟩
  replace HB := hid_mk (below_then HB.out hb)
  clear hb
  have hbx := below_box w1 (.cells #[.bool false, .int .i64 4, .int .u64 0, .int .u64 64, .int .u64 80] 32)
  replace HB := hid_mk (below_then HB.out hbx)
  have XR := hid_mk (blk_new w1 [.bool false, .int .i64 4, .int .u64 0, .int .u64 64, .int .u64 80] 32)
  clear hbx
  go_wp2_with fail
  refine (HNew.out _ _ HB.out (by simp)).mono ?_
  rintro e w2 ⟨p, ib, qb, rfl, hm, hb⟩
  replace XR := hid_mk (XR.out.below hb)
  replace HB := hid_mk (below_then HB.out hb)
  have HM := hid_mk (hm)
  clear hm hb HNew
  replace HM : Hid (MdS w p ib qb R1k k0 w2) := HM
  go_wp2_with fail
  refine (rbytes_any ⟨200, 4, 1, 0⟩ _ ⟨by decide, by decide, by decide, by decide⟩).mono ?_
  rintro e w3 ⟨bv, rfl, hob, hb⟩
  replace XR := hid_mk (XR.out.below hb)
  replace HM := hid_mk (HM.out.below hb)
  replace HB := hid_mk (below_then HB.out hb)
  clear hb
  have HNB := hid_mk (newBytes_of hob)
  clear hob
  go_wp2_with fail
  refine (HM.out.write 0 _ _ (by constructor <;> decide) HNB.out.at (dB_bytes _) (by rw [dB_length]; decide)).mono ?_
  rintro e w4 ⟨rfl, hm, hk⟩
  replace XR := hid_mk (hk.at XR.out (by decide))
  replace HM : Hid (MdS w p ib qb R1k lv1 w4) := hid_mk hm
  replace HB := hid_mk (HM.out.old)
  clear HNB hm hk
  obtain ⟨XRl, XR0, XR1, XR2, XR3, XR4, _⟩ := cells5 XR.out
  go_wp2_with fail
  refine (HM.out.split false 4 0 64 80 0 true 4 [] 0 (by constructor <;> decide) (by constructor <;> decide) (by constructor <;> decide) (by constructor <;> decide) (by decide +kernel) (by decide +kernel) rfl).mono ?_
  rintro e w5 ⟨sa, sc, rfl, hq, hb⟩
  replace XR := hid_mk (XR.out.below hb)
  replace HM := hid_mk (HM.out.below hb)
  replace HB := hid_mk (below_then HB.out hb)
  clear hb
  clear hq
  clear XRl XR0 XR1 XR2 XR3 XR4
  go_wp2_with fail
  refine (rbytes_any ⟨200, 4, 0, 0⟩ _ ⟨by decide, by decide, by decide, by decide⟩).mono ?_
  rintro e w6 ⟨bv, rfl, hob, hb⟩
  replace XR := hid_mk (XR.out.below hb)
  replace HM := hid_mk (HM.out.below hb)
  replace HB := hid_mk (below_then HB.out hb)
  clear hb
  have HNB := hid_mk (newBytes_of hob)
  clear hob
  go_wp2_with fail
  refine (HM.out.write 0 _ _ (by constructor <;> decide) HNB.out.at (dB_bytes _) (by rw [dB_length]; decide)).mono ?_
  rintro e w7 ⟨rfl, hm, hk⟩
  replace XR := hid_mk (hk.at XR.out (by decide))
  replace HM : Hid (MdS w p ib qb R1k lv2 w7) := hid_mk hm
  replace HB := hid_mk (HM.out.old)
  clear HNB hm hk
  go_wp2_with fail
  refine (rbytes_any ⟨900, 200, 0, 0⟩ _ ⟨by decide, by decide, by decide, by decide⟩).mono ?_
  rintro e w8 ⟨bv, rfl, hob, hb⟩
  replace XR := hid_mk (XR.out.below hb)
  replace HM := hid_mk (HM.out.below hb)
  replace HB := hid_mk (below_then HB.out hb)
  clear hb
  have HNB := hid_mk (newBytes_of hob)
  clear hob
  go_wp2_with fail
  refine (HM.out.write 16 _ _ (by constructor <;> decide) HNB.out.at (dB_bytes _) (by rw [dB_length]; decide)).mono ?_
  rintro e w9 ⟨rfl, hm, hk⟩
  replace XR := hid_mk (hk.at XR.out (by decide))
  replace HM : Hid (MdS w p ib qb R1k lv3 w9) := hid_mk hm
  replace HB := hid_mk (HM.out.old)
  clear HNB hm hk
  obtain ⟨XRl, XR0, XR1, XR2, XR3, XR4, _⟩ := cells5 XR.out
  go_wp2_with fail
  refine (HM.out.split false 4 0 64 80 0 true 0 [⟨200, 4, false⟩] 1 (by constructor <;> decide) (by constructor <;> decide) (by constructor <;> decide) (by constructor <;> decide) (by decide +kernel) (by decide +kernel) rfl).mono ?_
  rintro e w10 ⟨ta, tc, rfl, hq, hb⟩
  replace XR := hid_mk (XR.out.below hb)
  replace HM := hid_mk (HM.out.below hb)
  replace HB := hid_mk (below_then HB.out hb)
  have HT := hid_mk (hq)
  clear hb hq
  clear XRl XR0 XR1 XR2 XR3 XR4
  obtain ⟨XRl, XR0, XR1, XR2, XR3, XR4, _⟩ := cells5 XR.out
  go_wp2_with fail
  refine (HM.out.split false 4 0 64 80 1 true 5 [] 0 (by constructor <;> decide) (by constructor <;> decide) (by constructor <;> decide) (by constructor <;> decide) (by decide +kernel) (by decide +kernel) rfl).mono ?_
  rintro e w11 ⟨ua, uc, rfl, hq, hb⟩
  replace XR := hid_mk (XR.out.below hb)
  replace HM := hid_mk (HM.out.below hb)
  replace HT := hid_mk (HT.out.below hb)
  replace HB := hid_mk (below_then HB.out hb)
  clear hb
  clear hq
  clear XRl XR0 XR1 XR2 XR3 XR4
  go_wp2_with fail
  have hbx := below_box w11 (.cells (segCells [⟨200, 4, false⟩]).toArray 28)
  replace XR := hid_mk (XR.out.below hbx)
  replace HM := hid_mk (HM.out.below hbx)
  replace HT := hid_mk (HT.out.below hbx)
  replace HB := hid_mk (below_then HB.out hbx)
  have HL := hid_mk (segs_lit10 w11 [⟨200, 4, false⟩] 28)
  clear hbx
  refine (ksame10 _ _ [⟨200, 4, false⟩] [⟨200, 4, false⟩] _ HT.out HL.out (by decide) rfl).mono ?_
  rintro e w12 ⟨rfl, hb⟩
  replace XR := hid_mk (XR.out.below hb)
  replace HM := hid_mk (HM.out.below hb)
  replace HT := hid_mk (HT.out.below hb)
  replace HL := hid_mk (HL.out.below hb)
  replace HB := hid_mk (below_then HB.out hb)
  clear hb
  go_wp2_with fail
  go_ret
  exact ⟨rfl, HB.out⟩
end Go.Proofs.YtfhhgcgbgmilcaaGreat

/- For layer 10's laws: sizes of rings, a box of rings written anew. Conditions: as each theorem names them. -/
namespace Go.Proofs.YtfhhgcgbgmilcaaGreat
open Go.ChangeShapes Go.WideShapes Go.ChangeAt Go.RowKit
set_option linter.unusedVariables false
set_option maxRecDepth 100000

theorem al16 : alV 0 16 = 0 := by decide +kernel
theorem ring_all : ∀ k : Fin 129, 1 ≤ k.val → plOk true (k.val : Int) 0 = true := by decide +kernel
theorem ring_packed {n : Int} (h1 : 1 ≤ n) (h2 : n ≤ 128) : plOk true n 0 = true := by
  obtain ⟨k, rfl⟩ := Int.eq_ofNat_of_zero_le (show 0 ≤ n by omega)
  exact ring_all ⟨k, by omega⟩ (by simp; omega)
theorem ring_pow : ∀ k : Fin 8, wrap64 (2 ^ k.val) = pow2 k.val ∧ 1 ≤ pow2 k.val ∧ pow2 k.val ≤ 128 ∧ plOk false (pow2 k.val) 0 = true := by decide +kernel
theorem ring_size {K : Nat} (h : K < 8) : ∃ S, wrap64 (2 ^ K) = S ∧ 1 ≤ S ∧ S ≤ 128 ∧ plOk false S 0 = true := ⟨_, ring_pow ⟨K, h⟩⟩
theorem ring_pow2 : ∀ k : Fin 6, wrap64 (2 * 2 ^ k.val) = ((2 ^ (k.val + 1) : Nat) : Int) ∧ 1 ≤ 2 ^ (k.val + 1) ∧ 2 ^ (k.val + 1) ≤ 64 ∧ plOk false ((2 ^ (k.val + 1) : Nat) : Int) 0 = true ∧ wrfE false false ((2 ^ (k.val + 1) : Nat) : Int) 0 (16 * ((2 ^ (k.val + 1) : Nat) : Int)) (cO false ((2 ^ (k.val + 1) : Nat) : Int)) = 0 := by decide +kernel
theorem ring_two {K : Nat} (h : K < 6) : ∃ N : Nat, wrap64 (2 * 2 ^ K) = (N : Int) ∧ 1 ≤ N ∧ N ≤ 64 ∧ (∃ t, N = 2 ^ t) ∧ plOk false (N : Int) 0 = true ∧ wrfE false false (N : Int) 0 (16 * (N : Int)) (cO false (N : Int)) = 0 := by
  obtain ⟨h1, h2, h3, h4⟩ := ring_pow2 ⟨K, h⟩
  exact ⟨_, h1, h2, h3, ⟨_, rfl⟩, h4⟩
theorem cO_rng {pk : Bool} {n : Int} (h : plOk pk n 0 = true) : U64 (cO pk n) := by
  unfold plOk at h
  rw [Bool.and_eq_true] at h
  have := tot_rng h.1
  have h2 : 0 ≤ pG pk n ∧ pG pk n ≤ 65546 := by
    have := part_rng h.1
    omega
  exact ⟨by omega, by omega⟩
theorem mayE_len {L : List Sg} (h : mayE L = 0) : L.length ≤ 64 := by
  have := (mayE_ok h).1
  unfold segE at this
  by_cases h64 : 64 < L.length
  · rw [if_pos h64] at this
    omega
  · omega
theorem wndE_len {R : List (Int × Int)} {x : Wst} (h : wndE R x = 0) : x.S.length ≤ 1000 := by
  unfold wndE at h
  split at h
  · split at h
    · have := mayE_len (by assumption)
      omega
    · omega
  · omega
theorem wsL_len (R : List (Int × Int)) (M : List Int) (pk : Bool) (n d g c head : Int) (table : Bool) : (wsL R M pk n d g c head table).length ≤ 1000 := by
  unfold wsL wndL
  split
  · split
    · exact wndE_len (by assumption)
    · simp
  · simp
theorem wpL_len (R : List (Int × Int)) (M : List Int) (pk : Bool) (n d g c p : Int) (table : Bool) : (wpL R M pk n d g c p table).length ≤ 1000 := by
  unfold wpL
  split
  · rename_i h
    unfold wpE at h
    split at h
    · split at h
      · exact wndE_len h
      · omega
    · exact absurd h (by assumption)
  · simp
theorem tkB_self (i c : Int) (L : List Sg) : tkB i c L i c L = true := by simp [tkB, sameS_iff.2 (rfl : L = L)]
theorem cells2 {w : World} {b : Nat} {x0 x1 : Value} {t : TypeId} (h : BlkAt w b [x0, x1] t) : b < w.heap.size ∧ w.cell? ⟨b, 0, none⟩ = some x0 ∧ w.cell? ⟨b, 1, none⟩ = some x1 := ⟨h.lt, h.cell 0, h.cell 1⟩
theorem cells3 {w : World} {b : Nat} {x0 x1 x2 : Value} {t : TypeId} (h : BlkAt w b [x0, x1, x2] t) : b < w.heap.size ∧ w.cell? ⟨b, 0, none⟩ = some x0 ∧ w.cell? ⟨b, 1, none⟩ = some x1 ∧ w.cell? ⟨b, 2, none⟩ = some x2 := ⟨h.lt, h.cell 0, h.cell 1, h.cell 2⟩
section
variable {w0 v : World} {p ib qb rp : Nat} {R : List (Int × Int)} {M M2 : List Int} {u : World}
theorem LdS.rebase (h : LdS v p ib qb rp R M M2 u) (hb : Below w0.heap.size w0 v) : LdS w0 p ib qb rp R M M2 u := ⟨h.mem, h.ref, below_then hb h.old, by have := h.lo; have := hb.size; omega⟩
theorem BlkAt.wr {b sb i : Nat} {C : List Value} {t : TypeId} (h : BlkAt u b C t) (hne : b ≠ sb) (y : Value) : BlkAt (u.setCell ⟨sb, i, none⟩ y) b C t := (Below.heap_setCell u ⟨sb, i, none⟩ y b hne).trans h
/-- a box of rings is written anew -/
theorem LdS.ring (h : LdS w0 p ib qb rp R M M2 u) {rb : Nat} {c0 c1 c2 c3 c4 : Value} (hx : BlkAt u rb [c0, c1, c2, c3, c4] 32) (g1 : w0.heap.size ≤ rb) (g2 : rb ≤ p) (y0 y1 y2 y3 y4 : Value) :
    ∃ U, U = ((((u.setCell ⟨rb, 0, none⟩ y0).setCell ⟨rb, 1, none⟩ y1).setCell ⟨rb, 2, none⟩ y2).setCell ⟨rb, 3, none⟩ y3).setCell ⟨rb, 4, none⟩ y4 ∧ LdS w0 p ib qb rp R M M2 U ∧ BlkAt U rb [y0, y1, y2, y3, y4] 32 ∧ (∀ b C t, b ≠ rb → BlkAt u b C t → BlkAt U b C t) :=
  ⟨_, rfl, (((((h.wr hx g1 g2 (by decide) (by decide) (by decide) _).wr (hx.set 0 _) g1 g2 (by decide) (by decide) (by decide) _).wr ((hx.set 0 _).set 1 _) g1 g2 (by decide) (by decide) (by decide) _).wr (((hx.set 0 _).set 1 _).set 2 _) g1 g2 (by decide) (by decide) (by decide) _).wr ((((hx.set 0 _).set 1 _).set 2 _).set 3 _) g1 g2 (by decide) (by decide) (by decide) _),
    ((((hx.set 0 y0).set 1 y1).set 2 y2).set 3 y3).set 4 y4, fun b C t hne hb => ((((hb.wr hne _).wr hne _).wr hne _).wr hne _).wr hne _⟩
end
end Go.Proofs.YtfhhgcgbgmilcaaGreat
