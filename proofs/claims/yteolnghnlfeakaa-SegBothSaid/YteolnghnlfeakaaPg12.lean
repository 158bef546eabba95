/- The statements' common examples of layer 5: lives. Conditions: none. -/
import Derived.Test.YteolnghnlfeakaaPg6
import Derived.Test.YteolnghnlfeakaaSg7
namespace Go.Proofs.Yteolnghnlfeakaa
open Go.ChangeShapes Go.WideShapes Go.ChangeAt Go.RowKit
set_option linter.unusedVariables false
set_option maxRecDepth 100000

/-- a literal of segments -/
theorem segs_lit (w : World) (L : List Sg) (t : TypeId) : SegsAt (w.alloc (.cells (segCells L).toArray t)) (.slice (some ⟨w.heap.size, 0, none⟩) L.length L.length) L := by
  refine Or.inr ⟨w.heap.size, 0, L.length, rfl, by simp, Nat.le_refl _, fun j hj => ?_⟩
  have h := heap_alloc_new w (.cells (segCells L).toArray t)
  obtain ⟨h0, h1, h2⟩ := segCells_at L j hj
  refine ⟨?_, ?_, ?_⟩
  · rw [cellK h, Nat.zero_add]
    exact h0
  · rw [cellK h, Nat.zero_add]
    exact h1
  · rw [cellK h, Nat.zero_add]
    exact h2
theorem isSgs_mk {L : List Sg} (h : (L.all fun s => decide (0 ≤ s.a ∧ s.a < 18446744073709551616 ∧ 0 ≤ s.n ∧ s.n < 4294967296)) = true) : isSgs L := fun s hs => by
  rw [List.all_eq_true] at h
  have := of_decide_eq_true (h s hs)
  exact ⟨⟨this.1, this.2.1⟩, this.2.2⟩

set_option maxHeartbeats 1000000 in
theorem lives5_any (w : World) : Calls Try.prog 13 #[] w fun e w' => e = .returned (.bool true) ∧ Below w.heap.size w w' := by
  have HCut := hid_mk (fun u v (h : SegsAt u v [⟨10, 4, false⟩, ⟨50, 6, false⟩]) => pcut v 2 5 _ u h (isSgs_mk (by decide)) (by decide) (by decide))
  have e1 : cutE [⟨10, 4, false⟩, ⟨50, 6, false⟩] 2 5 = [⟨12, 2, false⟩, ⟨50, 3, false⟩] := sameS_iff.1 (by decide +kernel)
  rw [e1] at HCut
  have HSame := hid_mk (fun u v v2 (h : SegsAt u v [⟨12, 2, false⟩, ⟨50, 3, false⟩]) (h2 : SegsAt u v2 [⟨12, 2, false⟩, ⟨50, 3, false⟩]) => ksame_any v v2 _ _ u h h2 (by decide))
  have HChk := hid_mk (fun u v (h : SegsAt u v [⟨1, 1, true⟩, ⟨5, 1, false⟩]) => pcheck v _ u h (isSgs_mk (by decide)))
  have e2 : segE [⟨1, 1, true⟩, ⟨5, 1, false⟩] = 2 := by decide +kernel
  have e3 : sameS [⟨12, 2, false⟩, ⟨50, 3, false⟩] [⟨12, 2, false⟩, ⟨50, 3, false⟩] = true := sameS_self _
  rw [e2] at HChk
  rw [e3] at HSame
  clear e1 e2 e3
  go_enter Try.func13, Try.ntmps13
  go_wp2_with fail
  refine (HCut.out _ _ (segs_lit w [⟨10, 4, false⟩, ⟨50, 6, false⟩] 32)).mono ?_
  rintro e w1 ⟨v1, rfl, ho1, hb⟩
  have HB1 := hid_mk (((Below.refl w.heap.size w).alloc (Nat.le_refl _) _).trans (hb.mono (by simp)))
  have HO1 := hid_mk ho1.at
  clear hb ho1
  go_wp2_with fail
  refine (HSame.out _ _ _ (HO1.out.below ((Below.refl _ _).alloc (Nat.le_refl _) _)) (segs_lit w1 [⟨12, 2, false⟩, ⟨50, 3, false⟩] 32)).mono ?_
  rintro e w2 ⟨rfl, m, hm⟩
  have HB2 := hid_mk (show Below w.heap.size w w2 from hm ▸ below_dn (HB1.out.alloc HB1.out.size _) m)
  clear hm
  go_wp2_with fail
  refine (HChk.out _ _ (segs_lit w2 [⟨1, 1, true⟩, ⟨5, 1, false⟩] 32)).mono ?_
  rintro e w3 ⟨rfl, hb⟩
  have HB3 := hid_mk (below_then (HB2.out.alloc HB2.out.size _) hb)
  clear hb
  go_wp2_with fail
  go_ret
  exact ⟨rfl, HB3.out⟩
end Go.Proofs.Yteolnghnlfeakaa
