/-
  PROVED: dumbwaiterlaw10.WalkEnds returns true for every input, and what was in memory stays as it was. Conditions: none.
-/
import Derived.Test.YtfhhgcgbgmilcaaKp41
import Derived.Test.YtfhhgcgbgmilcaaKp43
import Derived.Test.YtfhhgcgbgmilcaaRows
import Derived.WalkKit
import Derived.ProofKit
import Derived.OpenShut
import Derived.ShutString
import Derived.ChangeOld
import Derived.Below
import Derived.Carry
import Derived.Lib.SmallJoins

namespace Go.Proofs.Ytfhhgcgbgmilcaa.walkEnds
open Go.ChangeShapes Go.WideShapes Go.ChangeAt Go.RowKit
set_option linter.unusedVariables false


theorem ws_is {R : List (Int × Int)} {M : List Int} (hok : okR (-1) 1048576 R = true) (hM : M.length = sumR R) (hB : isBytes M) (pk : Bool) (n d g c head : Int) (table : Bool) : isSgs (wsL R M pk n d g c head table) := by
  unfold wsL wndL
  split
  · split
    · exact (wspl_grw hok hM hB d n head table).sg (fun s hs => by cases hs)
    · exact fun s hs => by cases hs
  · exact fun s hs => by cases hs
theorem wp_is {R : List (Int × Int)} {M : List Int} (hok : okR (-1) 1048576 R = true) (hM : M.length = sumR R) (hB : isBytes M) (pk : Bool) (n d g c p : Int) (table : Bool) : isSgs (wpL R M pk n d g c p table) := by
  unfold wpL
  split
  · have h := (wpk_grw hok hM hB d n table (n.toNat + 1) p ⟨⟨[], 0, 0⟩, 0, 0⟩).1 (fun s hs => by cases hs)
    unfold wpkX
    split
    · unfold wstop
      split <;> exact h
    · exact h
  · exact fun s hs => by cases hs
set_option maxRecDepth 100000 in
set_option maxHeartbeats 4000000 in
theorem walk_main (w : World) (size : Int) (va : Option Addr) (vc : Nat) (L : List Spt) (hv : SpotsAt w (.slice va L.length vc) L) (hs : isSpts L) (hL : L.length ≤ 40) (ra : Option Addr) (rc : Nat) (l : List Int) (hr : BytesAt w (.slice ra l.length rc) l) (hlb : isBytes l) (hl : l.length ≤ 12000) (at_ head p : Int) (b : Bool) (ih : I64 head) :
    Calls Try.prog 5 #[.int .i64 size, .slice va L.length vc, .slice ra l.length rc, .int .i64 at_, .int .i64 head, .agg #[.int .i64 p, .bool b]] w fun e w' => e = .returned (.bool true) ∧ Below w.heap.size w w' := by
  have QV := hid_mk hv
  have QR := hid_mk hr
  have hLi : (L.length : Int) ≤ 40 := by omega
  have hli : (l.length : Int) ≤ 12000 := by omega
  obtain ⟨K, hK⟩ := Int.eq_ofNat_of_zero_le (Int.emod_nonneg size (show (8 : Int) ≠ 0 by omega))
  have hK8 : (K : Int) < 8 := by
    have := Int.emod_lt_of_pos size (show (0 : Int) < 8 by omega)
    omega
  obtain ⟨S, hS, hS1, hS2, p0⟩ := ring_size (K := K) (by omega)
  have p1 := ring_packed (n := S) (by omega) (by omega)
  have HPk := hid_mk (fun u => pick_any size 8 u (by decide) (by decide))
  rw [hK] at HPk
  have hwk : IntKind.u64.wrap (K : Int) = (K : Int) := by rw [IntKind.wrap_u64]; omega
  have hwl : IntKind.i64.wrap (12000 - (l.length : Int)) = 12000 - (l.length : Int) := IntWalk.i64_in _ (by omega)
  have hwl2 : IntKind.i64.wrap (12000 - (l.length : Int) + 1) = 12000 - (l.length : Int) + 1 := IntWalk.i64_in _ (by omega)
  have HPa := hid_mk (fun u => pick_any at_ (12000 - (l.length : Int) + 1) u (by omega) (by omega))
  have ha0 := Int.emod_nonneg at_ (show (12000 - (l.length : Int) + 1) ≠ 0 by omega)
  have ha1 := Int.emod_lt_of_pos at_ (show 0 < (12000 - (l.length : Int) + 1) by omega)
  obtain ⟨A, hA⟩ : ∃ A, at_ % (12000 - (l.length : Int) + 1) = A := ⟨_, rfl⟩
  rw [hA] at HPa ha0 ha1
  have hwa : IntKind.u64.wrap A = A := by rw [IntKind.wrap_u64]; omega
  have CL : ∀ pk : Bool, Hid (∀ u (g : SpotsAt u (.slice va L.length vc) L), Calls Try.prog 17 #[.int .i64 S, .bool pk, .slice va L.length vc] u fun e w' => ∃ p ib qb rp, e = .returned (.tuple #[.pointer (some ⟨p, 0, none⟩), .pointer (some ⟨rp, 0, none⟩), rV pk S 0 (16 * S) (cO pk S), .bool true]) ∧ LdS u p ib qb rp R10 (laidM pk L) (laidM pk L) w') := fun pk => hid_mk (fun u g => by
    have h := laid10 S pk _ L u g hs (by omega) (by cases pk; exact p0; exact p1)
    rw [al16, Int.zero_add, Int.zero_add] at h
    exact h)
  have hc0 : ∀ pk : Bool, U64 (cO pk S) := fun pk => cO_rng (by cases pk; exact p0; exact p1)
  have HAr := hid_mk (show U64 A by constructor <;> omega)
  have HLb := hid_mk hlb
  have HL1 := hid_mk (show l.length ≤ 100000 by omega)
  have HOw := hid_mk (fun (u : World) (g : BytesAt u (.slice ra l.length rc) l) => own_any _ l u g (by omega))
  clear hv hs hL hr hlb hl hK hA p0 p1 ha0 ha1
  have HB := hid_mk (Below.refl w.heap.size w)
  go_enter Try.func5, Try.ntmps5
  have hbx := below_box w (.cells #[.int .i64 p, .bool b] 42)
  have XP := hid_mk (blk_new w [.int .i64 p, .bool b] 42)
  replace HB := hid_mk (below_then HB.out hbx)
  clear hbx
  go_wp2_with fail
  refine (lives10_any _).mono ?_
  rintro e w1 ⟨rfl, hb⟩
  replace XP := hid_mk (XP.out.below hb)
  replace HB := hid_mk (below_then HB.out hb)
  clear hb
  go_wp2_with fail
  refine (HPk.out _).mono ?_
  rintro e w2 ⟨rfl, rfl⟩
  have XL := hid_mk (blk_new w1 [.bool false, .bool true] 4)
  replace XP := hid_mk (XP.out.below (below_box w1 (.cells #[.bool false, .bool true] 4)))
  replace HB := hid_mk (below_then HB.out (below_box w1 (.cells #[.bool false, .bool true] 4)))
  go_wp2_with fail
  obtain ⟨w3, hw3⟩ : ∃ w3, w3 = w1.alloc (.cells #[.bool false, .bool true] 4) := ⟨_, rfl⟩
  obtain ⟨lb, hlb⟩ : ∃ lb, lb = w1.heap.size := ⟨_, rfl⟩
  rw [← hw3, ← hlb] at XL ⊢
  rw [← hw3] at XP HB
  clear hw3 hlb
  obtain ⟨pb, hpb⟩ : ∃ pb, pb = w.heap.size := ⟨_, rfl⟩
  have hold : Hid (pb = w.heap.size) := hid_mk hpb
  rw [← hpb] at XP ⊢
  clear hpb
  rw [hS]
  go_loopw [47] (fun i wr => ∃ k : Nat, k ≤ 2 ∧ i = .int .i64 (k : Int) ∧ Hid (Below w3.heap.size w3 wr)) (fun i _ => 2 - (intOf i).toNat)
  case atStart => exact ⟨0, Nat.zero_le _, rfl, hid_mk (Below.refl _ _)⟩
  case round =>
    obtain ⟨k, hk, rfl, hbr⟩ := hrel
    by_cases hlt : k < 2
    · have hki : (k : Int) < 2 := by omega
      have hwk1 : IntKind.i64.wrap ((k : Int) + 1) = (k : Int) + 1 := IntWalk.i64_in _ (by omega)
      obtain ⟨pk, hpk⟩ : ∃ pk : Bool, wr.cell? ⟨lb, k, none⟩ = some (.bool pk) := by
        have h := XL.out.below hbr.out
        rcases (show k = 0 ∨ k = 1 by omega) with rfl | rfl
        · exact ⟨_, h.cell 0⟩
        · exact ⟨_, h.cell 1⟩
      have hlbl : lb < wr.heap.size := (XL.out.below hbr.out).lt
      have HBr := hid_mk (below_then HB.out hbr.out)
      have XPr := hid_mk (XP.out.below hbr.out)
      go_wp2_with fail
      refine ((CL pk).out _ (QV.out.below HBr.out)).mono ?_
      rintro e w4 ⟨mp, ib, qb, rp, rfl, hm⟩
      have HM := hid_mk (hm.rebase hbr.out).md
      replace XPr := hid_mk (XPr.out.below hm.old)
      have hbx := below_box w4 (.cells #[.bool pk, .int .i64 S, .int .u64 0, .int .u64 (16 * S), .int .u64 (cO pk S)] 24)
      have XR := hid_mk (blk_new w4 [.bool pk, .int .i64 S, .int .u64 0, .int .u64 (16 * S), .int .u64 (cO pk S)] 24)
      replace HM := hid_mk (HM.out.below hbx)
      replace XPr := hid_mk (XPr.out.below hbx)
      clear hm hbr hbx hpk hlbl
      go_wp2_with fail
      refine (HPa.out _).mono ?_
      rintro e w5 ⟨rfl, hs⟩
      obtain ⟨w6, hw6⟩ : ∃ w6, w6 = w4.alloc (.cells #[.bool pk, .int .i64 S, .int .u64 0, .int .u64 (16 * S), .int .u64 (cO pk S)] 24) := ⟨_, rfl⟩
      rw [← hw6] at hs HM XR XPr
      subst hs
      obtain ⟨rb, hrb⟩ : ∃ rb, rb = w4.heap.size := ⟨_, rfl⟩
      rw [← hrb] at XR ⊢
      clear hw6 hrb HBr
      go_wp2_with fail
      refine (HOw.out _ (QR.out.below (below_then HB.out HM.out.old))).mono ?_
      rintro e w7 ⟨bv, rfl, hob, hb⟩
      have HNB := hid_mk hob.at
      replace HM := hid_mk (HM.out.below hb)
      replace XR := hid_mk (XR.out.below hb)
      replace XPr := hid_mk (XPr.out.below hb)
      clear hob hb
      go_wp2_with fail
      refine (HM.out.write A _ _ HAr.out HNB.out HLb.out HL1.out).mono ?_
      rintro e w8 ⟨rfl, hm, hk⟩
      have M1e : ∃ M1, M1 = writeM R10 (laidM pk L) A l := ⟨_, rfl⟩
      obtain ⟨M1, hM1⟩ := M1e
      rw [← hM1] at hm
      replace HM := hid_mk hm
      replace XR := hid_mk (hk.at XR.out (by decide))
      replace XPr := hid_mk (hk.at XPr.out (by decide))
      clear hm hk hM1 HNB
      go_wp2_with fail
      refine (image_any mp ib qb R10 M1 _ HM.out.mem).mono ?_
      rintro e w9 ⟨iv, rfl, hob, hb⟩
      have hcv := convN hob
      replace HM := hid_mk (HM.out.below hb)
      replace XR := hid_mk (XR.out.below hb)
      replace XPr := hid_mk (XPr.out.below hb)
      clear hob hb
      have hG : U64 (16 * S) := ⟨by omega, by omega⟩
      have HC := hid_mk (hc0 pk)
      obtain ⟨ST, hST⟩ : ∃ x, x = strOfNums M1 := ⟨_, rfl⟩
      rw [← hST] at hcv
      have HST := hid_mk hST
      obtain ⟨G, hG1⟩ : ∃ x, x = 16 * S := ⟨_, rfl⟩
      obtain ⟨C, hC1⟩ : ∃ x, x = cO pk S := ⟨_, rfl⟩
      rw [← hG1] at XR hG
      rw [← hC1] at XR HC
      clear hG1 hC1 hST
      go_upto_if 76 with fail
      clear hcv
      go_cut [21, 22, 23, 24] (fun s21 s22 s23 s24 wx => ∃ (E : Int) (SL : List Sg) (a a2 : Option Addr) (z z2 : Nat), s21 = .slice a SL.length z ∧ s22 = .slice a2 SL.length z2 ∧ s23 = .int .i64 E ∧ s24 = .int .i64 E ∧ Hid (SegsAt wx (.slice a SL.length z) SL) ∧ Hid (SegsAt wx (.slice a2 SL.length z2) SL) ∧ Hid (Good R10 E SL) ∧ Hid (isSgs SL) ∧ Hid (MdS w3 mp ib qb R10 M1 wx))
      case first =>
        as_aux_lemma =>
        obtain ⟨r0, r1, r2, r3, r4, r5, _⟩ := cells5 XR.out
        cases pk
        · have CS : Hid (∀ u, MdS w3 mp ib qb R10 M1 u → Calls Try.prog 9 #[.pointer (some ⟨mp, 0, none⟩), rV false S 0 G C, .int .i64 head, .bool true] u fun e u' => ∃ a z, e = .returned (.tuple #[.slice a (wsL R10 M1 false S 0 G C head true).length z, .int .i64 (wsE R10 M1 false S 0 G C head true)]) ∧ SegsAt u' (.slice a (wsL R10 M1 false S 0 G C head true).length z) (wsL R10 M1 false S 0 G C head true) ∧ Below u.heap.size u u') := hid_mk (fun u hmm => hmm.split false S 0 G C head true _ _ _ (by decide) hG HC.out ih rfl (sameS_iff.2 rfl) rfl)
          have CN : Hid (∀ u, MdS w3 mp ib qb R10 M1 u → Calls Try.prog 15 #[.pointer (some ⟨mp, 0, none⟩), rV false S 0 G C, .int .i64 head, .bool true] u fun e u' => e = .returned (.int .i64 (wsN R10 M1 false S 0 G C head true : Nat)) ∧ Below u.heap.size u u') := hid_mk (fun u hmm => hmm.reads false S 0 G C head true _ (by decide) hG HC.out ih rfl)
          have hgd := ws_good R10 M1 false S 0 G C head true
          have hrd := ws_reads R10 M1 false S 0 G C head (by omega) true
          have hsg := ws_is HM.out.mem.ok HM.out.mem.len HM.out.mem.rng false S 0 G C head true
          generalize wsL R10 M1 false S 0 G C head true = SL at *
          generalize wsE R10 M1 false S 0 G C head true = E at *
          generalize wsN R10 M1 false S 0 G C head true = N at *
          have HGd := hid_mk hgd
          have HSg := hid_mk hsg
          have n1 : decide ((N : Int) < 0) = false := decide_eq_false (by omega)
          have n2 : decide (S + 64 < (N : Int)) = false := decide_eq_false (by omega)
          have hw64 : IntKind.i64.wrap (S + 64) = S + 64 := IntWalk.i64_in _ (by omega)
          have HN := hid_mk hrd.2
          clear hgd hrd hsg
          go_wp2_with fail
          refine (CS.out _ HM.out).mono ?_
          rintro e wa ⟨xa, xz, rfl, hq, hb⟩
          have HQ1 := hid_mk hq
          replace HM := hid_mk (HM.out.below hb)
          replace XR := hid_mk (XR.out.below hb)
          clear hq hb r0 r1 r2 r3 r4 r5
          obtain ⟨r0, r1, r2, r3, r4, r5, _⟩ := cells5 XR.out
          go_wp2_with fail
          refine (CS.out _ HM.out).mono ?_
          rintro e wb ⟨ya, yz, rfl, hq, hb⟩
          have HQ2 := hid_mk hq
          replace HQ1 := hid_mk (HQ1.out.below hb)
          replace HM := hid_mk (HM.out.below hb)
          replace XR := hid_mk (XR.out.below hb)
          clear hq hb r0 r1 r2 r3 r4 r5
          obtain ⟨r0, r1, r2, r3, r4, r5, _⟩ := cells5 XR.out
          go_wp2_with fail
          refine (CN.out _ HM.out).mono ?_
          rintro e wc ⟨rfl, hb⟩
          replace HQ1 := hid_mk (HQ1.out.below hb)
          replace HQ2 := hid_mk (HQ2.out.below hb)
          replace HM := hid_mk (HM.out.below hb)
          clear hb r0 r1 r2 r3 r4 r5
          by_cases hE : E = 0
          · have n3 : decide ((N : Int) < 1) = false := decide_eq_false (by have := HN.out hE; omega)
            subst hE
            go_wp2_with fail
            go_meet
            exact ⟨0, SL, _, _, _, _, rfl, rfl, rfl, rfl, HQ1, HQ2, HGd, HSg, HM⟩
          · have n3 : (E == 0) = false := by simp; exact hE
            clear hE
            go_wp2_with fail
            go_meet
            exact ⟨E, SL, _, _, _, _, rfl, rfl, rfl, rfl, HQ1, HQ2, HGd, HSg, HM⟩
        · have CP : Hid (∀ u, MdS w3 mp ib qb R10 M1 u → Calls Try.prog 10 #[.pointer (some ⟨mp, 0, none⟩), rV true S 0 G C, .agg #[.int .i64 p, .bool b], .bool true] u fun e u' => ∃ a z, e = .returned (.tuple #[.agg #[.int .i64 (wpI R10 M1 true S 0 G C p true), .int .i64 (wpC R10 M1 true S 0 G C p true : Nat), .slice a (wpL R10 M1 true S 0 G C p true).length z], .int .i64 (wpE R10 M1 true S 0 G C p true)]) ∧ SegsAt u' (.slice a (wpL R10 M1 true S 0 G C p true).length z) (wpL R10 M1 true S 0 G C p true) ∧ Below u.heap.size u u') := hid_mk (fun u hmm => hmm.packed true S 0 G C p b true _ _ _ _ _ (by decide) hG HC.out rfl rfl rfl (sameS_iff.2 rfl) rfl)
          have hgd := wp_good R10 M1 true S 0 G C p true
          have hci := wp_cid HM.out.mem.ok HM.out.mem.len HM.out.mem.rng true S 0 G C p true hS1
          have hsg := wp_is HM.out.mem.ok HM.out.mem.len HM.out.mem.rng true S 0 G C p true
          generalize wpL R10 M1 true S 0 G C p true = SL at *
          generalize wpE R10 M1 true S 0 G C p true = E at *
          generalize wpI R10 M1 true S 0 G C p true = I at *
          generalize wpC R10 M1 true S 0 G C p true = N at *
          have HGd := hid_mk hgd
          have HSg := hid_mk hsg
          have HCi := hid_mk hci
          clear hgd hci hsg
          obtain ⟨q0, q1, q2⟩ := cells2 XPr.out
          go_wp2_with fail
          refine (CP.out _ HM.out).mono ?_
          rintro e wa ⟨xa, xz, rfl, hq, hb⟩
          have hbx := below_box wa (.cells #[.int .i64 I, .int .i64 (N : Int), .slice xa SL.length xz] 38)
          have HQ1 := hid_mk (hq.below hbx)
          have XU := hid_mk (blk_new wa [.int .i64 I, .int .i64 (N : Int), .slice xa SL.length xz] 38)
          replace HM := hid_mk ((HM.out.below hb).below hbx)
          replace XR := hid_mk ((XR.out.below hb).below hbx)
          replace XPr := hid_mk ((XPr.out.below hb).below hbx)
          obtain ⟨ub, hub⟩ : ∃ ub, ub = wa.heap.size := ⟨_, rfl⟩
          obtain ⟨Wa, hWa⟩ : ∃ Wa, Wa = wa.alloc (.cells #[.int .i64 I, .int .i64 (N : Int), .slice xa SL.length xz] 38) := ⟨_, rfl⟩
          clear hq hb hbx r0 r1 r2 r3 r4 r5 q0 q1 q2
          go_upto_region 18 with fail
          rw [← hWa, ← hub]
          rw [← hWa] at HQ1 XU HM XR XPr
          rw [← hub] at XU
          clear hWa hub
          obtain ⟨r0, r1, r2, r3, r4, r5, _⟩ := cells5 XR.out
          obtain ⟨q0, q1, q2⟩ := cells2 XPr.out
          go_wp2_with fail
          refine (CP.out _ HM.out).mono ?_
          rintro e wb ⟨ya, yz, rfl, hq, hb⟩
          have hbx := below_box wb (.cells #[.int .i64 I, .int .i64 (N : Int), .slice ya SL.length yz] 38)
          have HQ2 := hid_mk (hq.below hbx)
          have XV := hid_mk (blk_new wb [.int .i64 I, .int .i64 (N : Int), .slice ya SL.length yz] 38)
          replace HQ1 := hid_mk ((HQ1.out.below hb).below hbx)
          replace HM := hid_mk ((HM.out.below hb).below hbx)
          replace XU := hid_mk ((XU.out.below hb).below hbx)
          obtain ⟨vb, hvb⟩ : ∃ vb, vb = wb.heap.size := ⟨_, rfl⟩
          obtain ⟨Wb, hWb⟩ : ∃ Wb, Wb = wb.alloc (.cells #[.int .i64 I, .int .i64 (N : Int), .slice ya SL.length yz] 38) := ⟨_, rfl⟩
          clear hq hb hbx r0 r1 r2 r3 r4 r5 q0 q1 q2 XR XPr
          go_upto_region 19 with fail
          rw [← hWb, ← hvb]
          rw [← hWb] at HQ1 HQ2 XU XV HM
          rw [← hvb] at XV
          clear hWb hvb
          obtain ⟨u0, u1, u2, u3⟩ := cells3 XU.out
          obtain ⟨v0, v1, v2, v3⟩ := cells3 XV.out
          go_region
          replace HQ1 := hid_mk (HQ1.out.below (Below.refl _ _).drew)
          replace HQ2 := hid_mk (HQ2.out.below (Below.refl _ _).drew)
          replace HM := hid_mk (HM.out.below (Below.refl _ _).drew)
          by_cases hE : E = 0
          · obtain ⟨i1, i2, i3, i4⟩ := HCi.out hE
            have n1 : decide (S ≤ I) = false := decide_eq_false (by omega)
            have n2 : decide (I < 0) = false := decide_eq_false (by omega)
            have n3 : decide ((N : Int) < 1) = false := decide_eq_false (by omega)
            have n4 : decide (S < (N : Int)) = false := decide_eq_false (by omega)
            subst hE
            clear i1 i2 i3 i4
            go_wp2_with fail
            go_meet
            exact ⟨0, SL, _, _, _, _, rfl, rfl, rfl, rfl, HQ1, HQ2, HGd, HSg, HM⟩
          · have n3 : (E == 0) = false := by simp; exact hE
            clear hE
            go_wp2_with fail
            go_meet
            exact ⟨E, SL, _, _, _, _, rfl, rfl, rfl, rfl, HQ1, HQ2, HGd, HSg, HM⟩
      case rest =>
        obtain ⟨E, SL, xa, ya, xz, yz, rfl, rfl, rfl, rfl, HQ1, HQ2, HGd, HSg, HMx⟩ := hcut
        have hlen := HGd.out.len
        have HN := hid_mk (fun (u : World) (g : SegsAt u (.slice xa SL.length xz) SL) => rneeds _ SL true u g HSg.out (by omega))
        rw [HGd.out.nee] at HN
        have hle : SL.length ≤ 1000 := by omega
        go_wp2_with fail
        refine (ksame10 _ _ SL SL _ HQ1.out HQ2.out hle (sameS_iff.2 rfl)).mono ?_
        rintro e wd ⟨rfl, hb⟩
        replace HQ1 := hid_mk (HQ1.out.below hb)
        replace HMx := hid_mk (HMx.out.below hb)
        clear hb HQ2
        go_wp2_with fail
        refine (image_any mp ib qb R10 M1 _ HMx.out.mem).mono ?_
        rintro e we ⟨iv, rfl, hob, hb⟩
        have hcv := convN hob
        rw [← HST.out] at hcv
        replace HQ1 := hid_mk (HQ1.out.below hb)
        replace HMx := hid_mk (HMx.out.below hb)
        clear hob hb
        obtain ⟨NE, hNE⟩ : ∃ NE : Int, (if E = 0 then 1 else 0 : Int) = NE := ⟨_, rfl⟩
        rw [hNE] at HN
        have hqq : ((E == 0) != (NE == 1)) = false := by
          rw [← hNE]
          by_cases h : E = 0
          · rw [if_pos h, h]
            decide
          · rw [if_neg h, beq_false_of_ne h]
            decide
        obtain ⟨b1, hb1⟩ : ∃ b1, (E == 0) = b1 := ⟨_, rfl⟩
        obtain ⟨b2, hb2⟩ : ∃ b2, (NE == 1) = b2 := ⟨_, rfl⟩
        rw [hb1, hb2] at hqq
        have hbb : b1 = b2 := by cases b1 <;> cases b2 <;> first | rfl | cases hqq
        subst hbb
        clear hqq
        clear hNE
        go_wp2_with fail
        refine (HN.out _ HQ1.out).mono ?_
        rintro e wf ⟨rfl, md, rfl⟩
        obtain ⟨wg, hwg⟩ : ∃ wg, wg = we.drewN md := ⟨_, rfl⟩
        replace HQ1 := hid_mk (HQ1.out.below (below_drewN we md))
        replace HMx := hid_mk (HMx.out.below (below_drewN we md))
        rw [← hwg] at HQ1 HMx ⊢
        clear hwg hcv HN
        go_wp2_with fail
        go_loopw [30] (fun i wr => ∃ j : Nat, j ≤ SL.length ∧ i = .int .i64 (j : Int) ∧ Hid (Below wg.heap.size wg wr)) (fun i _ => SL.length - (intOf i).toNat)
        case atStart => exact ⟨0, Nat.zero_le _, rfl, hid_mk (Below.refl _ _)⟩
        case round =>
          obtain ⟨j, hj, rfl, hu⟩ := hrel
          by_cases hlt2 : j < SL.length
          · obtain ⟨g, o, hxa, hg1, hg2⟩ := segs_row HQ1.out (by omega)
            subst hxa
            have hji : (j : Int) < (SL.length : Int) := by omega
            obtain ⟨c0, c1, _⟩ := hg2 j hlt2
            replace c0 := (hu.out.cell (p := ⟨g, _, none⟩) hg1).trans c0
            replace c1 := (hu.out.cell (p := ⟨g, _, none⟩) hg1).trans c1
            have hg3 := Nat.lt_of_lt_of_le hg1 hu.out.size
            have hsi := sat_is HSg.out j
            have hhas := HGd.out.has j hlt2
            have HCH := hid_mk (fun (u : World) (g : Below wr.heap.size wr u) => has_any mp ib qb R10 M1 (sat SL j).a (sat SL j).n u ((HMx.out.mem.below hu.out).below g) hsi.1 ⟨by have := hsi.2; omega, by have := hsi.2; omega⟩)
            rw [hhas] at HCH
            have hwn : IntKind.u64.wrap (sat SL j).n = (sat SL j).n := by have := hsi.2; rw [IntKind.wrap_u64]; omega
            generalize (sat SL j).n = sn at *
            generalize (sat SL j).a = sa at *
            have hwj : IntKind.i64.wrap ((j : Int) + 1) = (j : Int) + 1 := IntWalk.i64_in _ (by omega)
            have C0 := hid_mk c0
            have C1 := hid_mk c1
            clear hg2 hsi hhas c0 c1
            go_wp2_with fail
            refine wp_region_outl3 0 [] [] []
                [(fun v _ => v = .pointer (some ⟨mp, 0, none⟩)),
                (fun v _ => v = .slice (some ⟨g, o, none⟩) SL.length xz),
                (fun v _ => v = .int .i64 (j : Int)),
                (fun v _ => v = .pointer (some ⟨g, o + j * 3, none⟩)),
                (fun v _ => v = .pointer (some ⟨g, o + j * 3, none⟩)),
                (fun v _ => v = .int .u64 sa),
                (fun v _ => v = .slice (some ⟨g, o, none⟩) SL.length xz),
                (fun v _ => v = .int .i64 (j : Int)),
                (fun v _ => v = .pointer (some ⟨g, o + j * 3, none⟩)),
                (fun v _ => v = .pointer (some ⟨g, o + j * 3 + 1, none⟩)),
                (fun v _ => v = .int .u32 sn),
                (fun v _ => v = .int .u64 sn),
                (fun v _ => v = .bool true),
                (fun v _ => v = .bool false)]
                (Below wr.heap.size wr) (by kernel_rfl) (by kernel_rfl) (by kernel_rfl) ?_ (fun u u' hb h => h.trans (hb.mono h.size)) ((Below.refl _ _).drew) ?_ ?_ ?_ ?_ ?_
            · refine And.intro (up_eq _) ?_
              refine And.intro (up_eq _) ?_
              refine And.intro (up_eq _) ?_
              refine And.intro (up_eq _) ?_
              refine And.intro (up_eq _) ?_
              refine And.intro (up_eq _) ?_
              refine And.intro (up_eq _) ?_
              refine And.intro (up_eq _) ?_
              refine And.intro (up_eq _) ?_
              refine And.intro (up_eq _) ?_
              refine And.intro (up_eq _) ?_
              refine And.intro (up_eq _) ?_
              refine And.intro (up_eq _) ?_
              refine And.intro (up_eq _) ?_
              trivial
            · trivial
            · trivial
            · trivial
            · refine And.intro ?_ (And.intro ?_ (And.intro ?_ (And.intro ?_ (And.intro ?_ (And.intro ?_ (And.intro ?_ (And.intro ?_ (And.intro ?_ (And.intro ?_ (And.intro ?_ (And.intro ?_ (And.intro ?_ (And.intro ?_ (True.intro))))))))))))))
              · refine qstep_val (.pointer (some ⟨mp, 0, none⟩)) (by kernel_rfl) (by kernel_rfl) rfl (fun _ A1 W1 inv hnl hall => ⟨wanted_none rfl, ?_, rfl⟩)
                have h16 : A1.eval (.tmp 16) = .pointer (some ⟨mp, 0, none⟩) := (inv.base 16 (by kernel_rfl)).trans rfl
                simp only [execOp, h16, Sem.run_pure]
              · refine qstep_val (.slice (some ⟨g, o, none⟩) SL.length xz) (by kernel_rfl) (by kernel_rfl) rfl (fun _ A1 W1 inv hnl hall => ⟨wanted_none rfl, ?_, rfl⟩)
                have h21 : A1.eval (.tmp 21) = .slice (some ⟨g, o, none⟩) SL.length xz := (inv.base 21 (by kernel_rfl)).trans rfl
                simp only [execOp, h21, Sem.run_pure]
              · refine qstep_val (.int .i64 (j : Int)) (by kernel_rfl) (by kernel_rfl) rfl (fun _ A1 W1 inv hnl hall => ⟨wanted_none rfl, ?_, rfl⟩)
                have h30 : A1.eval (.tmp 30) = .int .i64 (j : Int) := (inv.base 30 (by kernel_rfl)).trans rfl
                simp only [execOp, h30, Sem.run_pure]
              · refine qstep_val (.pointer (some ⟨g, o + j * 3, none⟩)) (by kernel_rfl) (by kernel_rfl) rfl (fun _ A1 W1 inv hnl hall => ⟨wanted_none rfl, ?_, rfl⟩)
                have h200 : A1.eval (.tmp 200) = .slice (some ⟨g, o, none⟩) SL.length xz := inv.get hall 1 200 (by kernel_rfl) (by kernel_rfl) rfl
                have h201 : A1.eval (.tmp 201) = .int .i64 (j : Int) := inv.get hall 2 201 (by kernel_rfl) (by kernel_rfl) rfl
                simp only [execOp, h200, h201]
                simp [go_sem, hji]
              · refine qstep_val (.pointer (some ⟨g, o + j * 3, none⟩)) (by kernel_rfl) (by kernel_rfl) rfl (fun _ A1 W1 inv hnl hall => ⟨wanted_none rfl, ?_, rfl⟩)
                have h202 : A1.eval (.tmp 202) = .pointer (some ⟨g, o + j * 3, none⟩) := inv.get hall 3 202 (by kernel_rfl) (by kernel_rfl) rfl
                simp only [execOp, h202]
                simp [go_sem]
              · refine qstep_val (.int .u64 sa) (by kernel_rfl) (by kernel_rfl) rfl (fun _ A1 W1 inv hnl hall => ⟨wanted_none rfl, ?_, rfl⟩)
                have h203 : A1.eval (.tmp 203) = .pointer (some ⟨g, o + j * 3, none⟩) := inv.get hall 4 203 (by kernel_rfl) (by kernel_rfl) rfl
                have gg := (inv.s.cell (p := ⟨g, o + j * 3, none⟩) hg3).trans C0.out
                simp only [execOp, h203]
                simp [go_sem, gg]
              · refine qstep_val (.slice (some ⟨g, o, none⟩) SL.length xz) (by kernel_rfl) (by kernel_rfl) rfl (fun _ A1 W1 inv hnl hall => ⟨wanted_none rfl, ?_, rfl⟩)
                have h21 : A1.eval (.tmp 21) = .slice (some ⟨g, o, none⟩) SL.length xz := (inv.base 21 (by kernel_rfl)).trans rfl
                simp only [execOp, h21, Sem.run_pure]
              · refine qstep_val (.int .i64 (j : Int)) (by kernel_rfl) (by kernel_rfl) rfl (fun _ A1 W1 inv hnl hall => ⟨wanted_none rfl, ?_, rfl⟩)
                have h30 : A1.eval (.tmp 30) = .int .i64 (j : Int) := (inv.base 30 (by kernel_rfl)).trans rfl
                simp only [execOp, h30, Sem.run_pure]
              · refine qstep_val (.pointer (some ⟨g, o + j * 3, none⟩)) (by kernel_rfl) (by kernel_rfl) rfl (fun _ A1 W1 inv hnl hall => ⟨wanted_none rfl, ?_, rfl⟩)
                have h205 : A1.eval (.tmp 205) = .slice (some ⟨g, o, none⟩) SL.length xz := inv.get hall 6 205 (by kernel_rfl) (by kernel_rfl) rfl
                have h206 : A1.eval (.tmp 206) = .int .i64 (j : Int) := inv.get hall 7 206 (by kernel_rfl) (by kernel_rfl) rfl
                simp only [execOp, h205, h206]
                simp [go_sem, hji]
              · refine qstep_val (.pointer (some ⟨g, o + j * 3 + 1, none⟩)) (by kernel_rfl) (by kernel_rfl) rfl (fun _ A1 W1 inv hnl hall => ⟨wanted_none rfl, ?_, rfl⟩)
                have h207 : A1.eval (.tmp 207) = .pointer (some ⟨g, o + j * 3, none⟩) := inv.get hall 8 207 (by kernel_rfl) (by kernel_rfl) rfl
                simp only [execOp, h207]
                simp [go_sem]
              · refine qstep_val (.int .u32 sn) (by kernel_rfl) (by kernel_rfl) rfl (fun _ A1 W1 inv hnl hall => ⟨wanted_none rfl, ?_, rfl⟩)
                have h208 : A1.eval (.tmp 208) = .pointer (some ⟨g, o + j * 3 + 1, none⟩) := inv.get hall 9 208 (by kernel_rfl) (by kernel_rfl) rfl
                have gg := (inv.s.cell (p := ⟨g, o + j * 3 + 1, none⟩) hg3).trans C1.out
                simp only [execOp, h208]
                simp [go_sem, gg]
              · refine qstep_val (.int .u64 sn) (by kernel_rfl) (by kernel_rfl) rfl (fun _ A1 W1 inv hnl hall => ⟨wanted_none rfl, ?_, rfl⟩)
                have h209 : A1.eval (.tmp 209) = .int .u32 sn := inv.get hall 10 209 (by kernel_rfl) (by kernel_rfl) rfl
                simp only [execOp, h209]
                simp [go_sem, hwn]
              · refine qstep_call 25 (by kernel_rfl) _ _ (by kernel_rfl) (by kernel_rfl) rfl rfl (fun _ A1 W1 inv hnl hall => ⟨wanted_none rfl, #[.pointer (some ⟨mp, 0, none⟩), .int .u64 sa, .int .u64 sn], ?_, ?_⟩)
                · have h199 : A1.eval (.tmp 199) = .pointer (some ⟨mp, 0, none⟩) := inv.get hall 0 199 (by kernel_rfl) (by kernel_rfl) rfl
                  have h204 : A1.eval (.tmp 204) = .int .u64 sa := inv.get hall 5 204 (by kernel_rfl) (by kernel_rfl) rfl
                  have h210 : A1.eval (.tmp 210) = .int .u64 sn := inv.get hall 11 210 (by kernel_rfl) (by kernel_rfl) rfl
                  simp [h199, h204, h210]
                · refine (HCH.out _ inv.s).mono ?_
                  rintro e u ⟨rfl, hb⟩
                  exact ⟨_, rfl, rfl, hb⟩
              · refine qstep_val (.bool false) (by kernel_rfl) (by kernel_rfl) rfl (fun _ A1 W1 inv hnl hall => ⟨wanted_none rfl, ?_, rfl⟩)
                have h211 : A1.eval (.tmp 211) = .bool true := inv.get hall 12 211 (by kernel_rfl) (by kernel_rfl) rfl
                simp only [execOp, h211]
                simp [go_sem]
            · intro listed A1 W1 inv hall
              have e199 : A1.eval (.tmp 199) = .pointer (some ⟨mp, 0, none⟩) := inv.fin 0 199 (by kernel_rfl) (hall 0 (Nat.lt_of_lt_of_eq (by decide : 0 < 14) (by kernel_rfl))) rfl
              have e200 : A1.eval (.tmp 200) = .slice (some ⟨g, o, none⟩) SL.length xz := inv.fin 1 200 (by kernel_rfl) (hall 1 (Nat.lt_of_lt_of_eq (by decide : 1 < 14) (by kernel_rfl))) rfl
              have e201 : A1.eval (.tmp 201) = .int .i64 (j : Int) := inv.fin 2 201 (by kernel_rfl) (hall 2 (Nat.lt_of_lt_of_eq (by decide : 2 < 14) (by kernel_rfl))) rfl
              have e202 : A1.eval (.tmp 202) = .pointer (some ⟨g, o + j * 3, none⟩) := inv.fin 3 202 (by kernel_rfl) (hall 3 (Nat.lt_of_lt_of_eq (by decide : 3 < 14) (by kernel_rfl))) rfl
              have e203 : A1.eval (.tmp 203) = .pointer (some ⟨g, o + j * 3, none⟩) := inv.fin 4 203 (by kernel_rfl) (hall 4 (Nat.lt_of_lt_of_eq (by decide : 4 < 14) (by kernel_rfl))) rfl
              have e204 : A1.eval (.tmp 204) = .int .u64 sa := inv.fin 5 204 (by kernel_rfl) (hall 5 (Nat.lt_of_lt_of_eq (by decide : 5 < 14) (by kernel_rfl))) rfl
              have e205 : A1.eval (.tmp 205) = .slice (some ⟨g, o, none⟩) SL.length xz := inv.fin 6 205 (by kernel_rfl) (hall 6 (Nat.lt_of_lt_of_eq (by decide : 6 < 14) (by kernel_rfl))) rfl
              have e206 : A1.eval (.tmp 206) = .int .i64 (j : Int) := inv.fin 7 206 (by kernel_rfl) (hall 7 (Nat.lt_of_lt_of_eq (by decide : 7 < 14) (by kernel_rfl))) rfl
              have e207 : A1.eval (.tmp 207) = .pointer (some ⟨g, o + j * 3, none⟩) := inv.fin 8 207 (by kernel_rfl) (hall 8 (Nat.lt_of_lt_of_eq (by decide : 8 < 14) (by kernel_rfl))) rfl
              have e208 : A1.eval (.tmp 208) = .pointer (some ⟨g, o + j * 3 + 1, none⟩) := inv.fin 9 208 (by kernel_rfl) (hall 9 (Nat.lt_of_lt_of_eq (by decide : 9 < 14) (by kernel_rfl))) rfl
              have e209 : A1.eval (.tmp 209) = .int .u32 sn := inv.fin 10 209 (by kernel_rfl) (hall 10 (Nat.lt_of_lt_of_eq (by decide : 10 < 14) (by kernel_rfl))) rfl
              have e210 : A1.eval (.tmp 210) = .int .u64 sn := inv.fin 11 210 (by kernel_rfl) (hall 11 (Nat.lt_of_lt_of_eq (by decide : 11 < 14) (by kernel_rfl))) rfl
              have e211 : A1.eval (.tmp 211) = .bool true := inv.fin 12 211 (by kernel_rfl) (hall 12 (Nat.lt_of_lt_of_eq (by decide : 12 < 14) (by kernel_rfl))) rfl
              have e212 : A1.eval (.tmp 212) = .bool false := inv.fin 13 212 (by kernel_rfl) (hall 13 (Nat.lt_of_lt_of_eq (by decide : 13 < 14) (by kernel_rfl))) rfl
              have HF := inv.frame hall
              have HS9 := hid_mk inv.s
              simp only [putEnd, e199, e200, e201, e202, e203, e204, e205, e206, e207, e208, e209, e210, e211, e212, Act.put, List.setIfInBounds_toArray, List.set_cons_succ, List.set_cons_zero] at HF
              clear e199 e200 e201 e202 e203 e204 e205 e206 e207 e208 e209 e210 e211 e212 inv hall
              subst HF
              have HU2 := hid_mk (hu.out.trans (HS9.out.mono hu.out.size))
              clear HS9
              go_wp2_with fail
              go_roundw
              case rel => exact ⟨j + 1, by omega, by simp, HU2⟩
              case measure => simp [intOf]; omega
          · obtain rfl : j = SL.length := by omega
            have HBe := hid_mk (below_then HMx.out.old hu.out)
            go_wp2_with fail
            go_roundw
            case rel => exact ⟨k + 1, by omega, by simp, HBe⟩
            case measure => simp [intOf]; omega
    · obtain rfl : k = 2 := by omega
      have HBr := hid_mk (below_then HB.out hbr.out)
      go_wp2_with fail
      go_ret
      exact ⟨rfl, HBr.out⟩

set_option maxRecDepth 100000 in
theorem walk_long (w : World) (size : Int) (va : Option Addr) (vc n : Nat) (ra : Option Addr) (rc m : Nat) (at_ head p : Int) (b : Bool) (h : 40 < n ∨ 12000 < m) :
    Calls Try.prog 5 #[.int .i64 size, .slice va n vc, .slice ra m rc, .int .i64 at_, .int .i64 head, .agg #[.int .i64 p, .bool b]] w fun e w' => e = .returned (.bool true) ∧ Below w.heap.size w w' := by
  have hb0 := hid_mk (below_box w (.cells #[.int .i64 p, .bool b] 42))
  have hc : (decide (40 < (n : Int)) || decide (12000 < (m : Int))) = true := by
    rw [Bool.or_eq_true, decide_eq_true_eq, decide_eq_true_eq]
    omega
  by_cases h1 : 40 < n
  · have hi : decide (40 < (n : Int)) = true := decide_eq_true (by omega)
    clear h h1 hc
    go_enter Try.func5, Try.ntmps5
    go_wp2_with fail
    refine (lives10_any _).mono ?_
    rintro e w1 ⟨rfl, hb⟩
    have hb1 := hid_mk (below_then hb0.out hb)
    clear hb
    go_wp2_with fail
    go_ret
    exact ⟨rfl, hb1.out⟩
  · have hi : decide (40 < (n : Int)) = false := decide_eq_false (by omega)
    have hj : decide (12000 < (m : Int)) = true := decide_eq_true (by omega)
    clear h h1 hc
    go_enter Try.func5, Try.ntmps5
    go_wp2_with fail
    refine (lives10_any _).mono ?_
    rintro e w1 ⟨rfl, hb⟩
    have hb1 := hid_mk (below_then hb0.out hb)
    clear hb
    go_wp2_with fail
    go_ret
    exact ⟨rfl, hb1.out⟩
theorem walk (w : World) (size : Int) (v1 : Value) (L : List Spt) (hv : SpotsAt w v1 L) (hs : isSpts L) (hm : L.length ≤ maxLen) (v2 : Value) (l : List Int) (hr : BytesAt w v2 l) (hlb : isBytes l) (hlm : l.length ≤ maxLen) (at_ head p : Int) (b : Bool) (w0 : (Lit.int .i64 size).wf = true) (w3 : (Lit.int .i64 at_).wf = true) (w4 : (Lit.int .i64 head).wf = true) (w5 : (Lit.int .i64 p).wf = true) :
    Calls Try.prog 5 #[.int .i64 size, v1, v2, .int .i64 at_, .int .i64 head, .agg #[.int .i64 p, .bool b]] w fun e w' => e = .returned (.bool true) ∧ Below w.heap.size w w' := by
  obtain ⟨va, vc, rfl⟩ := hv.len
  obtain ⟨ra, rc, rfl⟩ := hr.len
  have b4 := bounds_i64 w4
  by_cases h : 40 < L.length ∨ 12000 < l.length
  · exact walk_long w size va vc L.length ra rc l.length at_ head p b h
  · exact walk_main w size va vc L hv hs (by omega) ra rc l hr hlb (by omega) at_ head p b ⟨by omega, by omega⟩

/-! ### the row's frame -/
theorem own : ownKnob Try.prog.godebug = none := by kernel_rfl
theorem laidOut : laidOutB Try.prog = true := by kernel_rfl

set_option maxRecDepth 100000 in
theorem lifted (os : Os) (started : os.Started) (H : Type) (enc : TypeId × Value → H) :
    ReturnsInHanded {} Try.checked os 5 .any (Rows.walkEndsSpec.pre6 enc Try.prog Try.f5 Rows.walkEndsRow.domain false) (Rows.walkEndsSpec.post enc Try.prog Try.f5 false true false false) := by
  refine returnsInHanded_of_change (C := Try.checked) own started (by kernel_rfl) Try.func5
    (ChangeSpec.witness6 (enc := enc) (C := Try.checked) false ⟨#[], #[.int .i64 0, .slice none 0 0, .slice none 0 0, .int .i64 0, .int .i64 0, .agg #[.int .i64 0, .bool false]], []⟩ 8 (by kernel_rfl) (by kernel_rfl) (by kernel_rfl) (by kernel_rfl)) ?_
  intro W base args ds gs before hval0 hW hcnd _
  have hval : ∀ (j : Nat) t v, Try.f5.params[j]? = some t → args[j]? = some v → Value.okWide Try.prog W .any base t v := hval0
  have hW' := hW
  obtain ⟨p, q, hA0, hV, rfl, hfz, hnd⟩ := hW
  have hA : DataW.TrodAll enc Try.prog W 0 (fun _ => true) true Try.f5.params.toList args.toList ds p := hA0
  rw [Try.params5] at hA hval
  obtain ⟨v0, vs0, d0, ds0, p0, q0, hargs, rfl, rfl, h0, r0⟩ := trodAll_cons hA
  obtain ⟨v1, vs1, d1, ds1, p1, q1, rfl, rfl, rfl, h1, r1⟩ := trodAll_cons r0
  obtain ⟨v2, vs2, d2, ds2, p2, q2, rfl, rfl, rfl, h2, r2⟩ := trodAll_cons r1
  obtain ⟨v3, vs3, d3, ds3, p3, q3, rfl, rfl, rfl, h3, r3⟩ := trodAll_cons r2
  obtain ⟨v4, vs4, d4, ds4, p4, q4, rfl, rfl, rfl, h4, r4⟩ := trodAll_cons r3
  obtain ⟨v5, vs5, d5, ds5, p5, q5, rfl, rfl, rfl, h5, r5⟩ := trodAll_cons r4
  obtain ⟨rfl, rfl, rfl⟩ := trodAll_nil r5
  obtain rfl : args = #[v0, v1, v2, v3, v4, v5] := by cases args; simp_all
  obtain ⟨rfl, rfl⟩ := trodVars_none hV
  have k0 := h0
  have lt0 : ∀ x ∈ p0, x.block < W.heap.size := by
    obtain ⟨m, hm⟩ := k0
    exact DataW.trod_lt m _ _ _ hm
  have k1 := h1
  have lt1 : ∀ x ∈ p1, x.block < W.heap.size := by
    obtain ⟨m, hm⟩ := k1
    exact DataW.trod_lt m _ _ _ hm
  have k2 := h2
  have lt2 : ∀ x ∈ p2, x.block < W.heap.size := by
    obtain ⟨m, hm⟩ := k2
    exact DataW.trod_lt m _ _ _ hm
  have k3 := h3
  have lt3 : ∀ x ∈ p3, x.block < W.heap.size := by
    obtain ⟨m, hm⟩ := k3
    exact DataW.trod_lt m _ _ _ hm
  have k4 := h4
  have lt4 : ∀ x ∈ p4, x.block < W.heap.size := by
    obtain ⟨m, hm⟩ := k4
    exact DataW.trod_lt m _ _ _ hm
  have k5 := h5
  have lt5 : ∀ x ∈ p5, x.block < W.heap.size := by
    obtain ⟨m, hm⟩ := k5
    exact DataW.trod_lt m _ _ _ hm
  obtain ⟨a0, rfl, rfl, rfl, w0⟩ := open_int Try.underlying3 (hval 0 3 v0 rfl rfl) h0
  obtain ⟨l1, hv1, hu1, hm1⟩ := open_spots (hval 1 55 v1 rfl rfl) h1
  obtain ⟨l2, hv2, hb2, hm2⟩ := open_bytes (hval 2 44 v2 rfl rfl) h2
  obtain ⟨a3, rfl, rfl, rfl, w3⟩ := open_int Try.underlying3 (hval 3 3 v3 rfl rfl) h3
  obtain ⟨a4, rfl, rfl, rfl, w4⟩ := open_int Try.underlying3 (hval 4 3 v4 rfl rfl) h4
  obtain ⟨c50, c51, y50, y51, m5, rfl, rfl, rfl, hy50, hy51⟩ := Go.Joins.open_agg2 Try.underlying42 (by kernel_rfl) (by kernel_rfl) (hval 5 42 v5 rfl rfl) h5
  obtain ⟨a5, e50, rfl, w5⟩ := DataW.trod_int Try.underlying3 hy50
  obtain ⟨b5, e51, rfl⟩ := DataW.trod_bool Try.underlying4 hy51
  simp at e50 e51
  subst e50 e51
  clear hA0 hval0
  refine (walk W a0 v1 l1 hv1 hu1 hm1 v2 l2 hv2 hb2 hm2 a3 a4 a5 b5 w0 w3 w4 w5).mono fun e W' ⟨he, bel⟩ => ?_
  subst he
  exact ⟨_, rfl, _, _, _, [], _, [], hW', trodAll_mk1 (shut_bool Try.underlying4 _), (trodAll_cons_mk (Below.trod laidOut (by kernel_rfl) (of_decide_eq_true (by kernel_rfl)) k0 bel lt0) (trodAll_cons_mk (Below.trod laidOut (by kernel_rfl) (of_decide_eq_true (by kernel_rfl)) k1 bel lt1) (trodAll_cons_mk (Below.trod laidOut (by kernel_rfl) (of_decide_eq_true (by kernel_rfl)) k2 bel lt2) (trodAll_cons_mk (Below.trod laidOut (by kernel_rfl) (of_decide_eq_true (by kernel_rfl)) k3 bel lt3) (trodAll_cons_mk (Below.trod laidOut (by kernel_rfl) (of_decide_eq_true (by kernel_rfl)) k4 bel lt4) (trodAll_cons_mk (Below.trod laidOut (by kernel_rfl) (of_decide_eq_true (by kernel_rfl)) k5 bel lt5) trodAll_mk0)))))), rfl, bel.frame _, fun h => by cases h⟩

theorem over : Rows.walkEndsRow.holds Try.pinned (OpenSpec.ofChange Rows.walkEndsSpec) :=
  OpenClaim.holds_of_wide 5 Try.f5 rfl rfl rfl rfl rfl rfl rfl ⟨rfl, rfl, rfl, rfl, rfl⟩ rfl rfl rfl rfl rfl (by kernel_rfl) Try.func5 (by kernel_rfl)
    (of_decide_eq_true (by kernel_rfl)) (by unfold Func.isWrapper; first | (rw [if_pos (by decide +kernel)]; kernel_rfl) | (rw [if_neg (by decide +kernel)]; exact ⟨rfl, rfl⟩))
    (fun os started H enc _ => lifted os started H enc)

/-- THE STATEMENT -/
theorem walkEnds_holds : Rows.WalkEndsSaid := over
#print axioms walkEnds_holds
end Go.Proofs.Ytfhhgcgbgmilcaa.walkEnds
