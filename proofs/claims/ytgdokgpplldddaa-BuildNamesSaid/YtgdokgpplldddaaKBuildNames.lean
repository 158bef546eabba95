/-
  PROVED: dumbwaiterlaw09.BuildNames returns true, and what was in memory stays as it was. Conditions: none.
-/
import Derived.Test.YtgdokgpplldddaaKp42
import Derived.Test.YtgdokgpplldddaaRows
import Derived.WalkKit
import Derived.ProofKit
import Derived.OpenShut
import Derived.ShutString
import Derived.ChangeOld
import Derived.Below
import Derived.Carry
import Derived.Lib.SmallJoins

namespace Go.Proofs.Ytgdokgpplldddaa.buildNames
open Go.ChangeShapes Go.WideShapes Go.ChangeAt Go.RowKit
set_option linter.unusedVariables false

set_option maxRecDepth 100000 in
set_option maxHeartbeats 2000000 in
theorem walk (w : World) : Calls Try.prog 3 #[] w fun e w' => e = .returned (.bool true) ∧ Below w.heap.size w w' := by
  have C1 : Hid (∀ (u : World) (v x : Value), IntsZ u v [1, 1] → SegsAt u x twoL → Calls Try.prog 7 #[v, x] u fun e u' => ∃ a c, e = .returned (.tuple #[.slice a 0 c, .int .i64 2]) ∧ Below u.heap.size u u') := hid_mk (fun u v x hv hx => by
    have h := bdsplit v x [1, 1] twoL u hv hx twoL_is (by decide) (by decide)
    rw [show splE [1, 1] twoL = 2 by decide +kernel, sameP_iff.1 (show sameP (splR [1, 1] twoL) [] = true by decide +kernel)] at h
    refine h.mono ?_
    rintro e u' ⟨x, he, hp, hb⟩
    obtain ⟨a, c, rfl⟩ := hp.len
    exact ⟨a, c, he, hb⟩)
  have C2 : Hid (∀ (u : World) (v x : Value), IntsZ u v [1] → SegsAt u x twoL → Calls Try.prog 7 #[v, x] u fun e u' => ∃ a c, e = .returned (.tuple #[.slice a 0 c, .int .i64 2]) ∧ Below u.heap.size u u') := hid_mk (fun u v x hv hx => by
    have h := bdsplit v x [1] twoL u hv hx twoL_is (by decide) (by decide)
    rw [show splE [1] twoL = 2 by decide +kernel, sameP_iff.1 (show sameP (splR [1] twoL) [] = true by decide +kernel)] at h
    refine h.mono ?_
    rintro e u' ⟨x, he, hp, hb⟩
    obtain ⟨a, c, rfl⟩ := hp.len
    exact ⟨a, c, he, hb⟩)
  have C3 : Hid (∀ (u : World), Calls Try.prog 7 #[.slice none 0 0, .slice none 0 0] u fun e u' => ∃ a c, e = .returned (.tuple #[.slice a 0 c, .int .i64 2]) ∧ Below u.heap.size u u') := hid_mk (fun u => by
    have h := bdsplit (.slice none 0 0) (.slice none 0 0) [] [] u (IntsZ.nil u) (Or.inl ⟨⟨_, _, rfl, fun _ => rfl⟩, rfl⟩) (fun s hs => by cases hs) (by decide) (by decide)
    rw [show splE [] [] = 2 by decide +kernel, sameP_iff.1 (show sameP (splR [] []) [] = true by decide +kernel)] at h
    refine h.mono ?_
    rintro e u' ⟨x, he, hp, hb⟩
    obtain ⟨a, c, rfl⟩ := hp.len
    exact ⟨a, c, he, hb⟩)
  have C4 : Hid (∀ (u : World) (x : Value), SegsAt u x twoL → Calls Try.prog 9 #[.agg #[.int .i64 0, .bool false], .int .i64 1, .int .i64 0, x] u fun e u' => ∃ a c, e = .returned (.tuple #[.slice a 0 c, .int .i64 2]) ∧ Below u.heap.size u u') := hid_mk (fun u x hx => by
    have h := bdpacked 0 1 false 0 x twoL u (by constructor <;> decide) (by constructor <;> decide) (by constructor <;> decide) hx twoL_is (by decide)
    rw [show pckE 0 1 0 twoL = 2 by decide +kernel, sameP_iff.1 (show sameP (pckR 0 1 false 0 twoL) [] = true by decide +kernel)] at h
    refine h.mono ?_
    rintro e u' ⟨x, he, hp, hb⟩
    obtain ⟨a, c, rfl⟩ := hp.len
    exact ⟨a, c, he, hb⟩)
  have C5 : Hid (∀ (u : World), Calls Try.prog 10 #[.int .i64 0, .int .u64 5, .int .i64 65] u fun e u' => e = .returned (.tuple #[pV zPt, .int .i64 2]) ∧ Below u.heap.size u u') := hid_mk (fun u => by
    have h := bdone 0 5 65 u (by constructor <;> decide) (by constructor <;> decide) (by constructor <;> decide)
    rw [show oneE 0 65 = 2 by decide +kernel, ptB_iff.1 (show ptB (oneP 0 5 65) zPt = true by decide +kernel)] at h
    exact h)
  have C6 : Hid (∀ (u : World), Calls Try.prog 10 #[.int .i64 7, .int .u64 5, .int .i64 2] u fun e u' => e = .returned (.tuple #[pV ⟨7, ⟨5, 32, 4, 0⟩⟩, .int .i64 0]) ∧ Below u.heap.size u u') := hid_mk (fun u => by
    have h := bdone 7 5 2 u (by constructor <;> decide) (by constructor <;> decide) (by constructor <;> decide)
    rw [show oneE 7 2 = 0 by decide +kernel, ptB_iff.1 (show ptB (oneP 7 5 2) ⟨7, ⟨5, 32, 4, 0⟩⟩ = true by decide +kernel)] at h
    exact h)
  have C7 : Hid (∀ (u : World), Calls Try.prog 11 #[.agg #[.int .i64 0, .bool false], .int .i64 4, .int .i64 3, .int .u64 5, .int .i64 2] u fun e u' => e = .returned (.tuple #[pV ⟨0, ⟨5, 32, 3, 32772⟩⟩, .int .i64 0]) ∧ Below u.heap.size u u') := hid_mk (fun u => by
    have h := bdpone 0 4 false 3 5 2 u (by constructor <;> decide) (by constructor <;> decide) (by constructor <;> decide) (by constructor <;> decide) (by constructor <;> decide)
    rw [show ponE 0 4 3 2 = 0 by decide +kernel, ptB_iff.1 (show ptB (ponP 0 4 false 3 5 2) ⟨0, ⟨5, 32, 3, 32772⟩⟩ = true by decide +kernel)] at h
    exact h)
  have C8 : Hid (∀ (u : World) (x : Value), SegsAt u x twoL → Calls Try.prog 12 #[x] u fun e u' => ∃ g o c, e = .returned (.tuple #[.slice (some ⟨g, o, none⟩) 32 c, .int .i64 0]) ∧ BytesAt u' (.slice (some ⟨g, o, none⟩) 32 c) (stbB twoL) ∧ Below u.heap.size u u') := hid_mk (fun u x hx => by
    have h := bdtable x twoL u hx twoL_is (by decide)
    rw [show mayE twoL = 0 by decide +kernel] at h
    refine h.mono ?_
    rintro e u' ⟨x, he, hp, hb⟩
    replace hp := hp.at
    have hl : (stbB twoL).length = 32 := by decide +kernel
    have hp2 := hp
    rcases hp with ⟨_, h0⟩ | ⟨g, o, c, rfl, _⟩
    · rw [h0] at hl
      simp at hl
    · rw [hl] at he hp2
      exact ⟨g, o, c, he, hp2, hb⟩)
  have C9 : Hid (∀ (u : World) (x : Value), SegsAt u x twoL → Calls Try.prog 14 #[x, .bool false] u fun e u' => e = .returned (.int .i64 2) ∧ Below u.heap.size u u') := hid_mk (fun u x hx => by
    have h := bdneeds x twoL false u hx twoL_is (by decide)
    rw [show neeN twoL false = 2 by decide +kernel] at h
    exact h)
  have C10 : Hid (∀ (u : World) (x : Value), SegsAt u x twoL → Calls Try.prog 14 #[x, .bool true] u fun e u' => e = .returned (.int .i64 1) ∧ Below u.heap.size u u') := hid_mk (fun u x hx => by
    have h := bdneeds x twoL true u hx twoL_is (by decide)
    rw [show neeN twoL true = 1 by decide +kernel] at h
    exact h)
  have C11 : Hid (∀ (u : World), Calls Try.prog 14 #[.slice none 0 0, .bool true] u fun e u' => e = .returned (.int .i64 0) ∧ Below u.heap.size u u') := hid_mk (fun u => by
    have h := bdneeds (.slice none 0 0) [] true u (Or.inl ⟨⟨_, _, rfl, fun _ => rfl⟩, rfl⟩) (fun s hs => by cases hs) (by decide)
    rw [show neeN [] true = 0 by decide +kernel] at h
    exact h)
  have q1 : ∀ u : World, (binOp .eql 40 (pV ⟨7, ⟨5, 32, 4, 0⟩⟩) (pV ⟨7, ⟨5, 32, 4, 0⟩⟩)).run Try.prog u = .ok (.bool true) u := fun u => eqlPt _ _ u
  have q2 : ∀ u : World, (binOp .eql 46 (pV ⟨0, ⟨5, 32, 3, 32772⟩⟩) (pV ⟨0, ⟨5, 32, 3, 32772⟩⟩)).run Try.prog u = .ok (.bool true) u := fun u => eqlPk _ _ u
  have HB := hid_mk (Below.refl w.heap.size w)
  go_enter Try.func3, Try.ntmps3
  have hbx := below_box w (.cells ([1, 1].map (Value.int .i64)).toArray 3)
  replace HB := hid_mk (below_then HB.out hbx)
  have HI := hid_mk (IntsZ.lit w [1, 1] 3)
  clear hbx
  go_wp2_with fail
  refine (ltwo _).mono ?_
  rintro e w1 ⟨ta, tc, rfl, ht, hb⟩
  replace HI := hid_mk (HI.out.below hb)
  replace HB := hid_mk (below_then HB.out hb)
  have HT := hid_mk (ht)
  clear hb ht
  go_wp2_with fail
  refine (C1.out _ _ _ HI.out HT.out).mono ?_
  rintro e w2 ⟨ra, rc, rfl, hb⟩
  replace HI := hid_mk (HI.out.below hb)
  replace HT := hid_mk (HT.out.below hb)
  replace HB := hid_mk (below_then HB.out hb)
  clear hb
  clear HI
  clear HT
  have hbx := below_box w2 (.cells ([1].map (Value.int .i64)).toArray 3)
  replace HB := hid_mk (below_then HB.out hbx)
  have HI := hid_mk (IntsZ.lit w2 [1] 3)
  clear hbx
  go_wp2_with fail
  refine (ltwo _).mono ?_
  rintro e w3 ⟨ta, tc, rfl, ht, hb⟩
  replace HI := hid_mk (HI.out.below hb)
  replace HB := hid_mk (below_then HB.out hb)
  have HT := hid_mk (ht)
  clear hb ht
  go_wp2_with fail
  refine (C2.out _ _ _ HI.out HT.out).mono ?_
  rintro e w4 ⟨sa, sc, rfl, hb⟩
  replace HI := hid_mk (HI.out.below hb)
  replace HT := hid_mk (HT.out.below hb)
  replace HB := hid_mk (below_then HB.out hb)
  clear hb
  clear HI
  clear HT
  go_wp2_with fail
  refine (C3.out _).mono ?_
  rintro e w5 ⟨xa, xc, rfl, hb⟩
  replace HB := hid_mk (below_then HB.out hb)
  clear hb
  go_wp2_with fail
  refine (ltwo _).mono ?_
  rintro e w6 ⟨ta, tc, rfl, ht, hb⟩
  replace HB := hid_mk (below_then HB.out hb)
  have HT := hid_mk (ht)
  clear hb ht
  go_wp2_with fail
  refine (C4.out _ _ HT.out).mono ?_
  rintro e w7 ⟨ya, yc, rfl, hb⟩
  replace HT := hid_mk (HT.out.below hb)
  replace HB := hid_mk (below_then HB.out hb)
  clear hb
  clear HT
  go_wp2_with fail
  refine (C5.out _).mono ?_
  rintro e w8 ⟨rfl, hb⟩
  replace HB := hid_mk (below_then HB.out hb)
  clear hb
  have hbx := below_box w8 (.cells (ptCells [zPt]).toArray 40)
  replace HB := hid_mk (below_then HB.out hbx)
  clear hbx
  go_wp2_with fail
  refine (C6.out _).mono ?_
  rintro e w9 ⟨rfl, hb⟩
  replace HB := hid_mk (below_then HB.out hb)
  clear hb
  have hbx := below_box w9 (.cells (ptCells [⟨7, ⟨5, 32, 4, 0⟩⟩]).toArray 40)
  replace HB := hid_mk (below_then HB.out hbx)
  have X6 := hid_mk (blk_new w9 (ptCells [⟨7, ⟨5, 32, 4, 0⟩⟩]) 40)
  clear hbx
  go_wp2_with fail
  refine (C7.out _).mono ?_
  rintro e w10 ⟨rfl, hb⟩
  replace X6 := hid_mk (X6.out.below hb)
  replace HB := hid_mk (below_then HB.out hb)
  clear hb
  have hbx := below_box w10 (.cells (ptCells [⟨0, ⟨5, 32, 3, 32772⟩⟩]).toArray 46)
  replace X6 := hid_mk (X6.out.below hbx)
  replace HB := hid_mk (below_then HB.out hbx)
  have X7 := hid_mk (blk_new w10 (ptCells [⟨0, ⟨5, 32, 3, 32772⟩⟩]) 46)
  clear hbx
  go_wp2_with fail
  refine (ltwo _).mono ?_
  rintro e w11 ⟨ta, tc, rfl, ht, hb⟩
  replace X6 := hid_mk (X6.out.below hb)
  replace X7 := hid_mk (X7.out.below hb)
  replace HB := hid_mk (below_then HB.out hb)
  have HT := hid_mk (ht)
  clear hb ht
  go_wp2_with fail
  refine (C8.out _ _ HT.out).mono ?_
  rintro e w12 ⟨g, o, bc, rfl, hq, hb⟩
  replace X6 := hid_mk (X6.out.below hb)
  replace X7 := hid_mk (X7.out.below hb)
  replace HT := hid_mk (HT.out.below hb)
  replace HB := hid_mk (below_then HB.out hb)
  have HQ := hid_mk (hq)
  clear hb hq
  clear HT
  go_wp2_with fail
  refine (lives9_any _).mono ?_
  rintro e w13 ⟨rfl, hb⟩
  replace X6 := hid_mk (X6.out.below hb)
  replace X7 := hid_mk (X7.out.below hb)
  replace HQ := hid_mk (HQ.out.below hb)
  replace HB := hid_mk (below_then HB.out hb)
  clear hb
  obtain ⟨⟨_, _, _, _, _, hcc, x6, x60, x61, x62, x63, x64⟩, _⟩ := blk5 X6.out rfl
  cases hcc
  obtain ⟨⟨_, _, _, _, _, hcc, x7, x70, x71, x72, x73, x74⟩, _⟩ := blk5 X7.out rfl
  cases hcc
  have hby : g < w13.heap.size ∧ w13.cell? ⟨g, o + 14, none⟩ = some (.int .u8 1) := by
    have hl : (stbB twoL).length = 32 := by decide +kernel
    rcases HQ.out with ⟨⟨_, _, e, _⟩, h0⟩ | ⟨g2, o2, c2, e, h1, h2, h3⟩
    · rw [h0] at hl
      simp at hl
    · cases e
      refine ⟨h1, ?_⟩
      rw [h3 14 (by rw [hl]; decide), show (stbB twoL).getD 14 0 = 1 by decide +kernel]
  obtain ⟨hby1, hby2⟩ := hby
  go_wp2_with fail
  refine (ltwo _).mono ?_
  rintro e w14 ⟨ta, tc, rfl, ht, hb⟩
  replace X6 := hid_mk (X6.out.below hb)
  replace X7 := hid_mk (X7.out.below hb)
  replace HQ := hid_mk (HQ.out.below hb)
  replace HB := hid_mk (below_then HB.out hb)
  have HT := hid_mk (ht)
  clear hb ht
  go_wp2_with fail
  refine (C9.out _ _ HT.out).mono ?_
  rintro e w15 ⟨rfl, hb⟩
  replace X6 := hid_mk (X6.out.below hb)
  replace X7 := hid_mk (X7.out.below hb)
  replace HQ := hid_mk (HQ.out.below hb)
  replace HT := hid_mk (HT.out.below hb)
  replace HB := hid_mk (below_then HB.out hb)
  clear hb
  clear HT
  go_wp2_with fail
  refine (ltwo _).mono ?_
  rintro e w16 ⟨ta, tc, rfl, ht, hb⟩
  replace X6 := hid_mk (X6.out.below hb)
  replace X7 := hid_mk (X7.out.below hb)
  replace HQ := hid_mk (HQ.out.below hb)
  replace HB := hid_mk (below_then HB.out hb)
  have HT := hid_mk (ht)
  clear hb ht
  go_wp2_with fail
  refine (C10.out _ _ HT.out).mono ?_
  rintro e w17 ⟨rfl, hb⟩
  replace X6 := hid_mk (X6.out.below hb)
  replace X7 := hid_mk (X7.out.below hb)
  replace HQ := hid_mk (HQ.out.below hb)
  replace HT := hid_mk (HT.out.below hb)
  replace HB := hid_mk (below_then HB.out hb)
  clear hb
  clear HT
  go_wp2_with fail
  refine (C11.out _).mono ?_
  rintro e w18 ⟨rfl, hb⟩
  replace X6 := hid_mk (X6.out.below hb)
  replace X7 := hid_mk (X7.out.below hb)
  replace HQ := hid_mk (HQ.out.below hb)
  replace HB := hid_mk (below_then HB.out hb)
  clear hb
  go_wp2_with fail
  go_ret
  exact ⟨rfl, HB.out⟩

/-! ### the row's frame -/
theorem own : ownKnob Try.prog.godebug = none := by kernel_rfl
theorem laidOut : laidOutB Try.prog = true := by kernel_rfl

set_option maxRecDepth 100000 in
theorem lifted (os : Os) (started : os.Started) (H : Type) (enc : TypeId × Value → H) :
    ReturnsInHanded {} Try.checked os 3 .any (Rows.buildNamesSpec.pre6 enc Try.prog Try.f3 Rows.buildNamesRow.domain false) (Rows.buildNamesSpec.post enc Try.prog Try.f3 false true false false) := by
  refine returnsInHanded_of_change (C := Try.checked) own started (by kernel_rfl) Try.func3
    (ChangeSpec.witness6 (enc := enc) (C := Try.checked) false ⟨#[], #[], []⟩ 8 (by kernel_rfl) (by kernel_rfl) (by kernel_rfl) (by kernel_rfl)) ?_
  intro W base args ds gs before hval0 hW hcnd _
  have hval : ∀ (j : Nat) t v, Try.f3.params[j]? = some t → args[j]? = some v → Value.okWide Try.prog W .any base t v := hval0
  have hW' := hW
  obtain ⟨p, q, hA0, hV, rfl, hfz, hnd⟩ := hW
  have hA : DataW.TrodAll enc Try.prog W 0 (fun _ => true) true Try.f3.params.toList args.toList ds p := hA0
  rw [Try.params3] at hA hval
  obtain ⟨hargs, rfl, rfl⟩ := trodAll_nil hA
  obtain rfl : args = #[] := by cases args; simp_all
  obtain ⟨rfl, rfl⟩ := trodVars_none hV
  clear hA0 hval0
  refine (walk W).mono fun e W' ⟨he, bel⟩ => ?_
  subst he
  exact ⟨_, rfl, _, _, _, [], _, [], hW', trodAll_mk1 (shut_bool Try.underlying4 _), trodAll_mk0, rfl, bel.frame _, fun h => by cases h⟩

theorem over : Rows.buildNamesRow.holds Try.pinned (OpenSpec.ofChange Rows.buildNamesSpec) :=
  OpenClaim.holds_of_wide 3 Try.f3 rfl rfl rfl rfl rfl rfl rfl ⟨rfl, rfl, rfl, rfl, rfl⟩ rfl rfl rfl rfl rfl (by kernel_rfl) Try.func3 (by kernel_rfl)
    (of_decide_eq_true (by kernel_rfl)) (by unfold Func.isWrapper; first | (rw [if_pos (by decide +kernel)]; kernel_rfl) | (rw [if_neg (by decide +kernel)]; exact ⟨rfl, rfl⟩))
    (fun os started H enc _ => lifted os started H enc)

/-- THE STATEMENT -/
theorem buildNames_holds : Rows.BuildNamesSaid := over
#print axioms buildNames_holds
end Go.Proofs.Ytgdokgpplldddaa.buildNames
