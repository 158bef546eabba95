/-
  PROVED: dumbwaiterlaw05.SegNames returns true at every call, and what was in memory stays as it was. Conditions: none.
-/
import Derived.Test.YteolnghnlfeakaaRows
import Derived.Test.YteolnghnlfeakaaPg14
import Derived.WalkKit
import Derived.ProofKit
import Derived.OpenShut
import Derived.ShutString
import Derived.ChangeOld
import Derived.Below
import Derived.Carry
import Derived.Lib.SmallJoins
import Derived.Lib.SlBytesConst
namespace Go.Proofs.Yteolnghnlfeakaa.segNames
open Go.ChangeShapes Go.WideShapes Go.ChangeAt Go.RowKit
set_option linter.unusedVariables false


abbrev LR : List (Int × Int) := [(0, 100)]
abbrev LL : List Sg := [⟨0, 3, false⟩, ⟨50, 4, true⟩, ⟨60, 2, true⟩]
abbrev BB : List Int := [97, 98, 99, 100, 101, 102, 103, 104]

set_option maxRecDepth 100000 in
set_option maxHeartbeats 2000000 in
theorem walk (w : World) :
    Calls Try.prog 3 #[] w fun e w' => e = .returned (.bool true) ∧ Below w.heap.size w w' := by
  have hs1 : totE false LL = 3 := by decide +kernel
  have hs2 : totE true LL = 6 := by decide +kernel
  have hs3 : scatN LR LL BB = 6 := by decide +kernel
  have hs4 : inE LR LL = 0 := by decide +kernel
  obtain ⟨M', hM'⟩ : ∃ M', scatM LR (List.replicate (sumR LR) 0) LL BB = M' := ⟨_, rfl⟩
  have hs5 : readL LR M' 50 12 = [97, 98, 99, 100, 0, 0, 0, 0, 0, 0, 101, 102] := by
    rw [← hM']
    decide +kernel
  have hs6 : readE LR 50 12 = 0 := by decide +kernel
  have hs7 : strOfNums [97, 98, 99, 100] = ⟨#[97, 98, 99, 100]⟩ := by decide
  have hs8 : strOfNums [101, 102] = ⟨#[101, 102]⟩ := by decide
  have hs9 : segE [⟨0, 0, false⟩] = 2 := by decide +kernel
  have hs10 : inE LR [⟨99, 2, false⟩] = 5 := by decide +kernel
  have hs11 : sameS LL LL = true := sameS_self _
  have hs12 : sameS LL [] = false := by decide +kernel
  have huL : isSgs LL := isSgs_mk (by decide)
  obtain ⟨cs65, hmk⟩ := make_segs 65 (by decide)
  have hmk' : ∀ u, (Instr.makeSlice 33 (.int .i64 65) (.int .i64 65)).run Try.prog u = .ok (.slice (some ⟨u.heap.size, 0, none⟩) 65 65) (u.alloc (.cells cs65 32)) := hmk
  have hkc : ∀ u : World, (convert 38 38 (.slice (some ⟨u.heap.size, 0, none⟩) 8 8)).run Try.prog (u.alloc (.cells #[.int .u8 97, .int .u8 98, .int .u8 99, .int .u8 100, .int .u8 101, .int .u8 102, .int .u8 103, .int .u8 104] 5)) = .ok (.slice (some ⟨u.heap.size, 0, none⟩) 8 8) (u.alloc (.cells #[.int .u8 97, .int .u8 98, .int .u8 99, .int .u8 100, .int .u8 101, .int .u8 102, .int .u8 103, .int .u8 104] 5 (8, 9))) := fun u => Lib.run_convert_bytes_const (P := Try.prog) u 38 5 _ 8 8 Try.underlying38 Try.underlying5
  have HT := hid_mk (fun u v (h : SegsAt u v LL) => ptotal v LL u h huL)
  rw [hs1, hs2] at HT
  have HU := hid_mk huL
  have HM := hid_mk hM'
  have HS3 := hid_mk hs3
  have HS4 := hid_mk hs4
  have HS5 := hid_mk hs5
  have HS6 := hid_mk hs6
  have HS7 := hid_mk hs7
  have HS8 := hid_mk hs8
  have HS9 := hid_mk hs9
  have HS10 := hid_mk hs10
  have HS11 := hid_mk hs11
  have HS12 := hid_mk hs12
  clear hs1 hs2 hs3 hs4 hs5 hs6 hs7 hs8 hs9 hs10 hs11 hs12 huL hM' hmk
  go_enter Try.func3, Try.ntmps3
  go_wp2_with fail
  refine (new_any _ LR _ (regsLit w LR 28) (isRegs_of (by decide)) (by decide) (by decide) (by decide)).mono ?_
  rintro e w1 ⟨p, ib, qb, rfl, hm, ⟨g1, g2, g3⟩, hb⟩
  have M1 := hid_mk hm
  have B1 := hid_mk (below_new (Below.refl _ _) hb)
  have gi : w.heap.size ≤ ib := by
    rw [sizeA] at g2
    omega
  have hi1 := lt_blk hm.img
  clear hb hm g1 g2 g3
  have L1 := hid_mk (segs_lit w1 LL 32)
  have M2 := hid_mk (M1.out.below ((Below.refl _ _).alloc (Nat.le_refl _) (.cells (segCells LL).toArray 32)))
  have B2 := hid_mk (B1.out.alloc B1.out.size (.cells (segCells LL).toArray 32))
  go_wp2_with fail
  refine (HT.out _ _ L1.out).mono ?_
  rintro e w3 ⟨rfl, hb⟩
  have M3 := hid_mk (M2.out.below hb)
  have B3 := hid_mk (below_then B2.out hb)
  have L3 := hid_mk (L1.out.below hb)
  have hi3 : ib < w3.heap.size := by
    have := hb.size
    rw [sizeA] at this
    omega
  clear hb
  go_wp2_with fail
  refine (pscat _ LL (some ⟨w3.heap.size, 0, none⟩) 8 BB p ib qb LR _ _ (L3.out.below ((Below.refl _ _).alloc (Nat.le_refl _) _)) HU.out (bytesLitF w3 BB 5 (8, 9)) (isBytes_of (by decide)) (by decide) (M3.out.below ((Below.refl _ _).alloc (Nat.le_refl _) _)) (fun b o e => by cases e; omega)).mono ?_
  rw [HS3.out, HS4.out, HM.out]
  rintro e w4 ⟨rfl, hm, hc⟩
  have M4 := hid_mk hm
  have B4 := hid_mk (hc.since1 (B3.out.alloc B3.out.size _) gi)
  have L4 := hid_mk ((L3.out.below ((Below.refl _ _).alloc (Nat.le_refl _) (.cells (bv BB) 5 (8, 9)))).chg hc (fun b o n c e hbi => by
    cases e
    have h : w1.heap.size = ib := hbi
    omega))
  clear hm hc hi3 hi1 hkc
  go_wp2_with fail
  refine (read_any p ib qb LR _ 50 12 _ M4.out (by simp [U64]) (by decide)).mono ?_
  rw [HS5.out, HS6.out]
  rintro e w5 ⟨v5, rfl, hn, hb⟩
  have M5 := hid_mk (M4.out.below hb)
  have B5 := hid_mk (below_then B4.out hb)
  have L5 := hid_mk (L4.out.below hb)
  obtain ⟨rb, rc, rfl, _, hr2, hr3, hr4⟩ := hn.form (by decide)
  have R5 := hid_mk hr4
  clear hb hn hr4
  go_wp2_with fail
  refine (pgat_nil _ _).mono ?_
  rintro e w6 ⟨rfl, rfl⟩
  go_wp2_with fail
  refine (lives5_any _).mono ?_
  rintro e w6 ⟨rfl, hb⟩
  have M6 := hid_mk (M5.out.below hb)
  have B6 := hid_mk (below_then B5.out hb)
  have L6 := hid_mk (L5.out.below hb)
  have hcv1 : (convert 38 9 (.slice (some ⟨rb, 0, none⟩) 4 rc)).run Try.prog w6 = .ok (.string (strOfNums [97, 98, 99, 100])) w6 := conv_at rfl (fun j hj => by
    rw [hb.cell (p := ⟨rb, 0 + j, none⟩) hr2, Nat.zero_add, R5.out j (by simp at hj ⊢; omega)]
    simp at hj
    match j, hj with
    | 0, _ => rfl
    | 1, _ => rfl
    | 2, _ => rfl
    | 3, _ => rfl)
  have hcv2 : (convert 38 9 (.slice (some ⟨rb, 10, none⟩) 2 (rc - 10))).run Try.prog w6 = .ok (.string (strOfNums [101, 102])) w6 := conv_at rfl (fun j hj => by
    rw [hb.cell (p := ⟨rb, 10 + j, none⟩) hr2, R5.out (10 + j) (by simp at hj ⊢; omega)]
    simp at hj
    match j, hj with
    | 0, _ => rfl
    | 1, _ => rfl)
  rw [HS7.out] at hcv1
  rw [HS8.out] at hcv2
  have hr3' : 12 ≤ rc := hr3
  have hsl1 : ∀ u, (Instr.sliceAt 38 (.slice (some ⟨rb, 0, none⟩) 12 rc) none (some (.int .i64 4)) none).run Try.prog u = .ok (.slice (some ⟨rb, 0, none⟩) 4 rc) u := fun u => by
    have h : (4 : Int) ≤ (rc : Int) := by omega
    simp [go_sem, h]
  have hsl2 : ∀ u, (Instr.sliceAt 38 (.slice (some ⟨rb, 0, none⟩) 12 rc) (some (.int .i64 10)) none none).run Try.prog u = .ok (.slice (some ⟨rb, 10, none⟩) 2 (rc - 10)) u := fun u => by
    have h : ¬ rc = 10 := by omega
    simp [go_sem, h]
  clear hb hr2 hr3 hr3'
  go_wp2_with fail
  refine (pcheck_long _ _ _ _ (by decide)).mono ?_
  rintro e w7 ⟨rfl, rfl⟩
  have B7 := hid_mk (B6.out.alloc B6.out.size (.cells cs65 32))
  have M7 := hid_mk (M6.out.below ((Below.refl _ _).alloc (Nat.le_refl _) (.cells cs65 32)))
  have L7 := hid_mk (L6.out.below ((Below.refl _ _).alloc (Nat.le_refl _) (.cells cs65 32)))
  clear hcv1 hcv2 hsl1 hsl2
  have hL0 := segs_lit (w6.alloc (.cells cs65 32)) [⟨0, 0, false⟩] 32
  rw [sizeA] at hL0
  have HL0 := hid_mk hL0
  clear hL0
  go_wp2_with fail
  refine (pcheck _ _ _ HL0.out (isSgs_mk (by decide))).mono ?_
  rw [HS9.out]
  rintro e w8 ⟨rfl, hb⟩
  have B8 := hid_mk (below_then (B7.out.alloc B7.out.size _) hb)
  have M8 := hid_mk ((M7.out.below ((Below.refl _ _).alloc (Nat.le_refl _) _)).below hb)
  have L8 := hid_mk ((L7.out.below ((Below.refl _ _).alloc (Nat.le_refl _) _)).below hb)
  clear hb
  go_wp2_with fail
  refine (pin _ _ p ib qb LR _ _ (segs_lit w8 [⟨99, 2, false⟩] 32) (isSgs_mk (by decide)) (M8.out.below ((Below.refl _ _).alloc (Nat.le_refl _) _))).mono ?_
  rw [HS10.out]
  rintro e w9 ⟨rfl, hb⟩
  have B9 := hid_mk (below_then (B8.out.alloc B8.out.size _) hb)
  have L9 := hid_mk ((L8.out.below ((Below.refl _ _).alloc (Nat.le_refl _) _)).below hb)
  clear hb
  go_wp2_with fail
  refine (psame _ _ LL LL _ L9.out L9.out (by decide)).mono ?_
  rw [HS11.out]
  rintro e w10 ⟨rfl, m10, rfl⟩
  go_wp2_with fail
  refine (psame _ _ LL [] _ (L9.out.below (below_drewN _ _)) (Or.inl ⟨⟨none, 0, rfl, fun _ => rfl⟩, rfl⟩) (by decide)).mono ?_
  rw [HS12.out]
  rintro e w11 ⟨rfl, m11, rfl⟩
  go_wp2_with fail
  go_ret
  exact ⟨rfl, below_dn B9.out _⟩

/-! ### the row's frame -/
theorem own : ownKnob Try.prog.godebug = none := by kernel_rfl
theorem laidOut : laidOutB Try.prog = true := by kernel_rfl

set_option maxRecDepth 100000 in
theorem lifted (os : Os) (started : os.Started) (H : Type) (enc : TypeId × Value → H) :
    ReturnsInHanded {} Try.checked os 3 .any (Rows.segNamesSpec.pre6 enc Try.prog Try.f3 Rows.segNamesRow.domain false) (Rows.segNamesSpec.post enc Try.prog Try.f3 false true false false) := by
  refine returnsInHanded_of_change (C := Try.checked) own started (by kernel_rfl) Try.func3
    (ChangeSpec.witness6 (enc := enc) (C := Try.checked) false ⟨#[], #[], []⟩ 8 (by kernel_rfl) (by kernel_rfl) (by kernel_rfl) (by kernel_rfl)) ?_
  intro W base args ds gs before hval0 hW hcnd _
  have hval : ∀ (j : Nat) t v, Try.f3.params[j]? = some t → args[j]? = some v → Value.okWide Try.prog W .any base t v := hval0
  have hW' := hW
  obtain ⟨p, q, hA0, hV, rfl, hfz, hnd⟩ := hW
  have hA : DataW.TrodAll enc Try.prog W 0 (fun _ => true) true Try.f3.params.toList args.toList ds p := hA0
  rw [Try.params3] at hA hval
  obtain ⟨hargs, rfl, rfl⟩ := trodAll_nil hA
  obtain rfl : args = #[] := by cases args; simp_all
  obtain ⟨rfl, rfl⟩ := trodVars_none hV
  clear hA0 hval0
  refine (walk W).mono fun e W' ⟨he, bel⟩ => ?_
  subst he
  exact ⟨_, rfl, _, _, _, [], _, [], hW', trodAll_mk1 (shut_bool Try.underlying4 _), trodAll_mk0, rfl, bel.frame _, fun h => by cases h⟩

theorem over : Rows.segNamesRow.holds Try.pinned (OpenSpec.ofChange Rows.segNamesSpec) :=
  OpenClaim.holds_of_wide 3 Try.f3 rfl rfl rfl rfl rfl rfl rfl ⟨rfl, rfl, rfl, rfl, rfl⟩ rfl rfl rfl rfl rfl (by kernel_rfl) Try.func3 (by kernel_rfl)
    (of_decide_eq_true (by kernel_rfl)) (by unfold Func.isWrapper; first | (rw [if_pos (by decide +kernel)]; kernel_rfl) | (rw [if_neg (by decide +kernel)]; exact ⟨rfl, rfl⟩))
    (fun os started H enc _ => lifted os started H enc)

/-- THE STATEMENT -/
theorem segNames_holds : Rows.SegNamesSaid := over
#print axioms segNames_holds
end Go.Proofs.Yteolnghnlfeakaa.segNames
