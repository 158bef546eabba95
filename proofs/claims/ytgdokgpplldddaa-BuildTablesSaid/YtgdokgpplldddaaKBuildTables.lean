/-
  PROVED: dumbwaiterlaw09.BuildTables returns true for every list of segments, numbers and bool, and what was in memory stays as it was. Conditions: none.
-/
import Derived.Test.YtgdokgpplldddaaKp42
import Derived.Test.YtgdokgpplldddaaRows
import Derived.WalkKit
import Derived.ProofKit
import Derived.OpenShut
import Derived.ShutString
import Derived.ChangeOld
import Derived.Below
import Derived.Carry
import Derived.Lib.SmallJoins

namespace Go.Proofs.Ytgdokgpplldddaa.buildTables
open Go.ChangeShapes Go.WideShapes Go.ChangeAt Go.RowKit
set_option linter.unusedVariables false


set_option maxRecDepth 100000 in
set_option maxHeartbeats 4000000 in
theorem walk (w : World) (v : Value) (L : List Sg) (hv : SegsAt w v L) (hu : isSgs L) (hlm : L.length ≤ maxLen) (a1 a2 a3 : Int) (a4 : Bool) (w1 : (Lit.int .u64 a1).wf = true) (w2 : (Lit.int .i64 a2).wf = true) (w3 : (Lit.int .i64 a3).wf = true) :
    Calls Try.prog 6 #[v, .int .u64 a1, .int .i64 a2, .int .i64 a3, .bool a4] w fun e w' => e = .returned (.bool true) ∧ Below w.heap.size w w' := by
  obtain ⟨va, vc, rfl⟩ := hv.len
  have HV := hid_mk hv
  have ha1 := bounds_u64 w1
  clear hv w1 w2 w3
  by_cases hl : 100 < L.length
  · have hli : (100 : Int) < (L.length : Int) := by omega
    clear ha1 hu hlm HV
    go_enter Try.func6, Try.ntmps6
    go_wp2_with fail
    refine (lives9_any _).mono ?_
    rintro e w1 ⟨rfl, hb⟩
    go_wp2_with fail
    go_ret
    exact ⟨rfl, hb⟩
  · have hli : (L.length : Int) ≤ 100 := by omega
    by_cases hm : mayE L = 0
    · obtain ⟨hl0, hl64⟩ := may_len hu hm
      obtain ⟨hz1, hz2⟩ := stb_len hm
      obtain ⟨r, hr, hr2⟩ := pickN a2 64 (by decide)
      obtain ⟨q, hq, hq2⟩ := pickN a3 64 (by decide)
      have HP2 := hid_mk (fun u => pick_at a2 64 r u (by decide) (by decide) hr2)
      have HP3 := hid_mk (fun u => pick_at a3 64 q u (by decide) (by decide) hq2)
      clear hr2 hq2
      cases a4
      · have CT : Hid (∀ (u : World), SegsAt u (.slice va L.length vc) L → Calls Try.prog 12 #[.slice va L.length vc] u fun e u' => ∃ a c, e = .returned (.tuple #[.slice a (16 * L.length) c, .int .i64 0]) ∧ Below u.heap.size u u') := hid_mk (fun u hx => by
          have h := bdtable (.slice va L.length vc) L u hx hu (by omega)
          rw [hm] at h
          refine h.mono ?_
          rintro e u' ⟨x, he, hp, hb⟩
          obtain ⟨a, c, rfl⟩ := hp.at.lenB
          rw [hz1] at he
          exact ⟨a, c, he, hb⟩)
        have CP : Hid (∀ (u : World), SegsAt u (.slice va L.length vc) L → Calls Try.prog 21 #[.slice va L.length vc] u fun e u' => ∃ a c, e = .returned (.tuple #[.slice a (16 * L.length) c, .int .i64 0]) ∧ Below u.heap.size u u') := hid_mk (fun u hx => by
          have h := bdptable (.slice va L.length vc) L u hx hu (by omega)
          rw [hm] at h
          refine h.mono ?_
          rintro e u' ⟨x, he, hp, hb⟩
          obtain ⟨a, c, rfl⟩ := hp.at.lenB
          rw [hz2] at he
          exact ⟨a, c, he, hb⟩)
        have CN : Hid (∀ (u : World), SegsAt u (.slice va L.length vc) L → Calls Try.prog 14 #[.slice va L.length vc, .bool true] u fun e u' => e = .returned (.int .i64 1) ∧ Below u.heap.size u u') := hid_mk (fun u hx => by
          have h := bdneeds (.slice va L.length vc) L true u hx hu (by omega)
          rw [show neeN L true = 1 from by unfold neeN; rw [if_pos hm]; rfl] at h
          exact h)
        have CO : Hid (∀ (u : World), Calls Try.prog 10 #[.int .i64 r, .int .u64 a1, .int .i64 (L.length : Int)] u fun e u' => e = .returned (.tuple #[pV ⟨r, ⟨a1, 16 * (L.length : Int), 4, 0⟩⟩, .int .i64 0]) ∧ Below u.heap.size u u') := hid_mk (fun u => by
          have h := bdone r a1 (L.length : Int) u (by constructor <;> omega) (by constructor <;> omega) (by constructor <;> omega)
          have e : oneB (r : Int) (L.length : Int) = true := by
            unfold oneB
            rw [okI_iff.2 (by omega), decide_eq_true (by omega), decide_eq_true (by omega)]
            rfl
          unfold oneP oneE at h
          rw [if_pos e, if_pos e] at h
          exact h)
        have CQ : Hid (∀ (u : World), Calls Try.prog 11 #[.agg #[.int .i64 q, .bool false], .int .i64 64, .int .i64 r, .int .u64 a1, .int .i64 (L.length : Int)] u fun e u' => e = .returned (.tuple #[pV ⟨q, ⟨a1, 16 * (L.length : Int), r, 32772⟩⟩, .int .i64 0]) ∧ Below u.heap.size u u') := hid_mk (fun u => by
          have h := bdpone q 64 false r a1 (L.length : Int) u (by constructor <;> omega) (by constructor <;> decide) (by constructor <;> omega) (by constructor <;> omega) (by constructor <;> omega)
          have e : ponB (q : Int) 64 (r : Int) (L.length : Int) = true := by
            unfold ponB okP
            rw [okI_iff.2 (by omega), decide_eq_true (by omega), decide_eq_true (by omega), decide_eq_true (by omega)]
            rfl
          unfold ponP ponE at h
          rw [if_pos e, if_pos e, mk4_false] at h
          exact h)
        have HA := hid_mk (fun u => ravail_any 32772 false u (by decide))
        rw [show decide (ownN 32772 = mkN false false) = true by decide] at HA
        have q1 : ∀ u : World, (binOp .eql 40 (pV ⟨r, ⟨a1, 16 * (L.length : Int), 4, 0⟩⟩) (pV ⟨r, ⟨a1, 16 * (L.length : Int), 4, 0⟩⟩)).run Try.prog u = .ok (.bool true) u := fun u => by
          have h := eqlPt ⟨r, ⟨a1, 16 * (L.length : Int), 4, 0⟩⟩ ⟨r, ⟨a1, 16 * (L.length : Int), 4, 0⟩⟩ u
          rw [ptB_self] at h
          exact h
        have q2 : bits .and .u16 32772 7 = 4 := and7.2
        have q3 : IntKind.u32.wrap (16 * (L.length : Int)) = 16 * (L.length : Int) := by rw [IntKind.wrap_u32]; omega
        have hq64 : (q : Int) < 64 := by omega
        have hr64 : (r : Int) < 64 := by omega
        have HB := hid_mk (Below.refl w.heap.size w)
        clear hz1 hz2 hm
        go_enter Try.func6, Try.ntmps6
        go_wp2_with fail
        refine (lives9_any _).mono ?_
        rintro e w1 ⟨rfl, hb⟩
        replace HV := hid_mk (HV.out.below hb)
        replace HB := hid_mk (below_then HB.out hb)
        clear hb
        go_wp2_with fail
        refine (CT.out _ HV.out).mono ?_
        rintro e w2 ⟨ta, tc, rfl, hb⟩
        replace HV := hid_mk (HV.out.below hb)
        replace HB := hid_mk (below_then HB.out hb)
        clear hb
        go_wp2_with fail
        refine (CP.out _ HV.out).mono ?_
        rintro e w3 ⟨pa, pc, rfl, hb⟩
        replace HV := hid_mk (HV.out.below hb)
        replace HB := hid_mk (below_then HB.out hb)
        clear hb
        go_wp2_with fail
        refine (CN.out _ HV.out).mono ?_
        rintro e w4 ⟨rfl, hb⟩
        replace HV := hid_mk (HV.out.below hb)
        replace HB := hid_mk (below_then HB.out hb)
        clear hb
        go_wp2_with fail
        refine (HP2.out _).mono ?_
        rintro e w5 ⟨rfl, hs⟩
        have hb : Below w4.heap.size w4 w5 := by
          rw [hs]
          exact Below.refl _ _
        clear hs
        replace HV := hid_mk (HV.out.below hb)
        replace HB := hid_mk (below_then HB.out hb)
        clear hb
        go_wp2_with fail
        refine (HP3.out _).mono ?_
        rintro e w6 ⟨rfl, hs⟩
        have hb : Below w5.heap.size w5 w6 := by
          rw [hs]
          exact Below.refl _ _
        clear hs
        replace HV := hid_mk (HV.out.below hb)
        replace HB := hid_mk (below_then HB.out hb)
        clear hb
        have hbx := below_box w6 (.cells #[.int .i64 q, .bool false] 33)
        replace HV := hid_mk (HV.out.below hbx)
        replace HB := hid_mk (below_then HB.out hbx)
        have XP := hid_mk (blk_new w6 [.int .i64 q, .bool false] 33)
        clear hbx
        go_wp2_with fail
        refine (CO.out _).mono ?_
        rintro e w7 ⟨rfl, hb⟩
        replace HV := hid_mk (HV.out.below hb)
        replace XP := hid_mk (XP.out.below hb)
        replace HB := hid_mk (below_then HB.out hb)
        clear hb
        have hbx := below_box w7 (.cells (ptCells [⟨r, ⟨a1, 16 * (L.length : Int), 4, 0⟩⟩]).toArray 40)
        replace HV := hid_mk (HV.out.below hbx)
        replace XP := hid_mk (XP.out.below hbx)
        replace HB := hid_mk (below_then HB.out hbx)
        have XO := hid_mk (blk_new w7 (ptCells [⟨r, ⟨a1, 16 * (L.length : Int), 4, 0⟩⟩]) 40)
        clear hbx
        obtain ⟨lp, p0, p1, _⟩ := XP.out.two
        simp only [ptCells] at lp p0 p1
        go_wp2_with fail
        refine (CQ.out _).mono ?_
        clear lp p0 p1
        rintro e w8 ⟨rfl, hb⟩
        replace HV := hid_mk (HV.out.below hb)
        replace XP := hid_mk (XP.out.below hb)
        replace XO := hid_mk (XO.out.below hb)
        replace HB := hid_mk (below_then HB.out hb)
        clear hb
        have hbx := below_box w8 (.cells (ptCells [⟨q, ⟨a1, 16 * (L.length : Int), r, 32772⟩⟩]).toArray 46)
        replace HV := hid_mk (HV.out.below hbx)
        replace XP := hid_mk (XP.out.below hbx)
        replace XO := hid_mk (XO.out.below hbx)
        replace HB := hid_mk (below_then HB.out hbx)
        have XQ := hid_mk (blk_new w8 (ptCells [⟨q, ⟨a1, 16 * (L.length : Int), r, 32772⟩⟩]) 46)
        clear hbx
        obtain ⟨lp, p0, p1, _⟩ := XP.out.two
        obtain ⟨⟨_, _, _, _, _, hcc, x6, x60, x61, x62, x63, x64⟩, _⟩ := blk5 XO.out rfl
        cases hcc
        obtain ⟨⟨_, _, _, _, _, hcc, x7, x70, x71, x72, x73, x74⟩, _⟩ := blk5 XQ.out rfl
        cases hcc
        simp only [ptCells] at lp p0 p1 x6 x60 x61 x62 x63 x64 x7 x70 x71 x72 x73 x74
        go_wp2_with fail
        refine (HA.out _).mono ?_
        rintro e w9 ⟨rfl, hs⟩
        go_wp2_with fail
        go_ret
        exact ⟨rfl, by rw [← hs]; exact HB.out⟩
      · have CT : Hid (∀ (u : World), SegsAt u (.slice va L.length vc) L → Calls Try.prog 12 #[.slice va L.length vc] u fun e u' => ∃ a c, e = .returned (.tuple #[.slice a (16 * L.length) c, .int .i64 0]) ∧ Below u.heap.size u u') := hid_mk (fun u hx => by
          have h := bdtable (.slice va L.length vc) L u hx hu (by omega)
          rw [hm] at h
          refine h.mono ?_
          rintro e u' ⟨x, he, hp, hb⟩
          obtain ⟨a, c, rfl⟩ := hp.at.lenB
          rw [hz1] at he
          exact ⟨a, c, he, hb⟩)
        have CP : Hid (∀ (u : World), SegsAt u (.slice va L.length vc) L → Calls Try.prog 21 #[.slice va L.length vc] u fun e u' => ∃ a c, e = .returned (.tuple #[.slice a (16 * L.length) c, .int .i64 0]) ∧ Below u.heap.size u u') := hid_mk (fun u hx => by
          have h := bdptable (.slice va L.length vc) L u hx hu (by omega)
          rw [hm] at h
          refine h.mono ?_
          rintro e u' ⟨x, he, hp, hb⟩
          obtain ⟨a, c, rfl⟩ := hp.at.lenB
          rw [hz2] at he
          exact ⟨a, c, he, hb⟩)
        have CN : Hid (∀ (u : World), SegsAt u (.slice va L.length vc) L → Calls Try.prog 14 #[.slice va L.length vc, .bool true] u fun e u' => e = .returned (.int .i64 1) ∧ Below u.heap.size u u') := hid_mk (fun u hx => by
          have h := bdneeds (.slice va L.length vc) L true u hx hu (by omega)
          rw [show neeN L true = 1 from by unfold neeN; rw [if_pos hm]; rfl] at h
          exact h)
        have CO : Hid (∀ (u : World), Calls Try.prog 10 #[.int .i64 r, .int .u64 a1, .int .i64 (L.length : Int)] u fun e u' => e = .returned (.tuple #[pV ⟨r, ⟨a1, 16 * (L.length : Int), 4, 0⟩⟩, .int .i64 0]) ∧ Below u.heap.size u u') := hid_mk (fun u => by
          have h := bdone r a1 (L.length : Int) u (by constructor <;> omega) (by constructor <;> omega) (by constructor <;> omega)
          have e : oneB (r : Int) (L.length : Int) = true := by
            unfold oneB
            rw [okI_iff.2 (by omega), decide_eq_true (by omega), decide_eq_true (by omega)]
            rfl
          unfold oneP oneE at h
          rw [if_pos e, if_pos e] at h
          exact h)
        have CQ : Hid (∀ (u : World), Calls Try.prog 11 #[.agg #[.int .i64 q, .bool true], .int .i64 64, .int .i64 r, .int .u64 a1, .int .i64 (L.length : Int)] u fun e u' => e = .returned (.tuple #[pV ⟨q, ⟨a1, 16 * (L.length : Int), r, 132⟩⟩, .int .i64 0]) ∧ Below u.heap.size u u') := hid_mk (fun u => by
          have h := bdpone q 64 true r a1 (L.length : Int) u (by constructor <;> omega) (by constructor <;> decide) (by constructor <;> omega) (by constructor <;> omega) (by constructor <;> omega)
          have e : ponB (q : Int) 64 (r : Int) (L.length : Int) = true := by
            unfold ponB okP
            rw [okI_iff.2 (by omega), decide_eq_true (by omega), decide_eq_true (by omega), decide_eq_true (by omega)]
            rfl
          unfold ponP ponE at h
          rw [if_pos e, if_pos e, mk4_true] at h
          exact h)
        have HA := hid_mk (fun u => ravail_any 132 true u (by decide))
        rw [show decide (ownN 132 = mkN true false) = true by decide] at HA
        have q1 : ∀ u : World, (binOp .eql 40 (pV ⟨r, ⟨a1, 16 * (L.length : Int), 4, 0⟩⟩) (pV ⟨r, ⟨a1, 16 * (L.length : Int), 4, 0⟩⟩)).run Try.prog u = .ok (.bool true) u := fun u => by
          have h := eqlPt ⟨r, ⟨a1, 16 * (L.length : Int), 4, 0⟩⟩ ⟨r, ⟨a1, 16 * (L.length : Int), 4, 0⟩⟩ u
          rw [ptB_self] at h
          exact h
        have q2 : bits .and .u16 132 7 = 4 := and7.1
        have q3 : IntKind.u32.wrap (16 * (L.length : Int)) = 16 * (L.length : Int) := by rw [IntKind.wrap_u32]; omega
        have hq64 : (q : Int) < 64 := by omega
        have hr64 : (r : Int) < 64 := by omega
        have HB := hid_mk (Below.refl w.heap.size w)
        clear hz1 hz2 hm
        go_enter Try.func6, Try.ntmps6
        go_wp2_with fail
        refine (lives9_any _).mono ?_
        rintro e w1 ⟨rfl, hb⟩
        replace HV := hid_mk (HV.out.below hb)
        replace HB := hid_mk (below_then HB.out hb)
        clear hb
        go_wp2_with fail
        refine (CT.out _ HV.out).mono ?_
        rintro e w2 ⟨ta, tc, rfl, hb⟩
        replace HV := hid_mk (HV.out.below hb)
        replace HB := hid_mk (below_then HB.out hb)
        clear hb
        go_wp2_with fail
        refine (CP.out _ HV.out).mono ?_
        rintro e w3 ⟨pa, pc, rfl, hb⟩
        replace HV := hid_mk (HV.out.below hb)
        replace HB := hid_mk (below_then HB.out hb)
        clear hb
        go_wp2_with fail
        refine (CN.out _ HV.out).mono ?_
        rintro e w4 ⟨rfl, hb⟩
        replace HV := hid_mk (HV.out.below hb)
        replace HB := hid_mk (below_then HB.out hb)
        clear hb
        go_wp2_with fail
        refine (HP2.out _).mono ?_
        rintro e w5 ⟨rfl, hs⟩
        have hb : Below w4.heap.size w4 w5 := by
          rw [hs]
          exact Below.refl _ _
        clear hs
        replace HV := hid_mk (HV.out.below hb)
        replace HB := hid_mk (below_then HB.out hb)
        clear hb
        go_wp2_with fail
        refine (HP3.out _).mono ?_
        rintro e w6 ⟨rfl, hs⟩
        have hb : Below w5.heap.size w5 w6 := by
          rw [hs]
          exact Below.refl _ _
        clear hs
        replace HV := hid_mk (HV.out.below hb)
        replace HB := hid_mk (below_then HB.out hb)
        clear hb
        have hbx := below_box w6 (.cells #[.int .i64 q, .bool true] 33)
        replace HV := hid_mk (HV.out.below hbx)
        replace HB := hid_mk (below_then HB.out hbx)
        have XP := hid_mk (blk_new w6 [.int .i64 q, .bool true] 33)
        clear hbx
        go_wp2_with fail
        refine (CO.out _).mono ?_
        rintro e w7 ⟨rfl, hb⟩
        replace HV := hid_mk (HV.out.below hb)
        replace XP := hid_mk (XP.out.below hb)
        replace HB := hid_mk (below_then HB.out hb)
        clear hb
        have hbx := below_box w7 (.cells (ptCells [⟨r, ⟨a1, 16 * (L.length : Int), 4, 0⟩⟩]).toArray 40)
        replace HV := hid_mk (HV.out.below hbx)
        replace XP := hid_mk (XP.out.below hbx)
        replace HB := hid_mk (below_then HB.out hbx)
        have XO := hid_mk (blk_new w7 (ptCells [⟨r, ⟨a1, 16 * (L.length : Int), 4, 0⟩⟩]) 40)
        clear hbx
        obtain ⟨lp, p0, p1, _⟩ := XP.out.two
        simp only [ptCells] at lp p0 p1
        go_wp2_with fail
        refine (CQ.out _).mono ?_
        clear lp p0 p1
        rintro e w8 ⟨rfl, hb⟩
        replace HV := hid_mk (HV.out.below hb)
        replace XP := hid_mk (XP.out.below hb)
        replace XO := hid_mk (XO.out.below hb)
        replace HB := hid_mk (below_then HB.out hb)
        clear hb
        have hbx := below_box w8 (.cells (ptCells [⟨q, ⟨a1, 16 * (L.length : Int), r, 132⟩⟩]).toArray 46)
        replace HV := hid_mk (HV.out.below hbx)
        replace XP := hid_mk (XP.out.below hbx)
        replace XO := hid_mk (XO.out.below hbx)
        replace HB := hid_mk (below_then HB.out hbx)
        have XQ := hid_mk (blk_new w8 (ptCells [⟨q, ⟨a1, 16 * (L.length : Int), r, 132⟩⟩]) 46)
        clear hbx
        obtain ⟨lp, p0, p1, _⟩ := XP.out.two
        obtain ⟨⟨_, _, _, _, _, hcc, x6, x60, x61, x62, x63, x64⟩, _⟩ := blk5 XO.out rfl
        cases hcc
        obtain ⟨⟨_, _, _, _, _, hcc, x7, x70, x71, x72, x73, x74⟩, _⟩ := blk5 XQ.out rfl
        cases hcc
        simp only [ptCells] at lp p0 p1 x6 x60 x61 x62 x63 x64 x7 x70 x71 x72 x73 x74
        go_wp2_with fail
        refine (HA.out _).mono ?_
        rintro e w9 ⟨rfl, hs⟩
        go_wp2_with fail
        go_ret
        exact ⟨rfl, by rw [← hs]; exact HB.out⟩
    · obtain ⟨E, hE⟩ : ∃ E, mayE L = E := ⟨_, rfl⟩
      obtain ⟨hz1, hz2⟩ := stb_no hm
      have CT : Hid (∀ (u : World), SegsAt u (.slice va L.length vc) L → Calls Try.prog 12 #[.slice va L.length vc] u fun e u' => ∃ a c, e = .returned (.tuple #[.slice a 0 c, .int .i64 E]) ∧ Below u.heap.size u u') := hid_mk (fun u hx => by
        have h := bdtable (.slice va L.length vc) L u hx hu (by omega)
        rw [hE] at h
        refine h.mono ?_
        rintro e u' ⟨x, he, hp, hb⟩
        obtain ⟨a, c, rfl⟩ := hp.at.lenB
        rw [hz1] at he
        exact ⟨a, c, he, hb⟩)
      have CP : Hid (∀ (u : World), SegsAt u (.slice va L.length vc) L → Calls Try.prog 21 #[.slice va L.length vc] u fun e u' => ∃ a c, e = .returned (.tuple #[.slice a 0 c, .int .i64 E]) ∧ Below u.heap.size u u') := hid_mk (fun u hx => by
        have h := bdptable (.slice va L.length vc) L u hx hu (by omega)
        rw [hE] at h
        refine h.mono ?_
        rintro e u' ⟨x, he, hp, hb⟩
        obtain ⟨a, c, rfl⟩ := hp.at.lenB
        rw [hz2] at he
        exact ⟨a, c, he, hb⟩)
      have CN : Hid (∀ (u : World), SegsAt u (.slice va L.length vc) L → Calls Try.prog 14 #[.slice va L.length vc, .bool true] u fun e u' => e = .returned (.int .i64 0) ∧ Below u.heap.size u u') := hid_mk (fun u hx => by
        have h := bdneeds (.slice va L.length vc) L true u hx hu (by omega)
        rw [show neeN L true = 0 from by unfold neeN; rw [if_neg hm]] at h
        exact h)
      have CM : Hid (∀ (u : World), SegsAt u (.slice va L.length vc) L → Calls Try.prog 14 #[.slice va L.length vc, .bool false] u fun e u' => e = .returned (.int .i64 0) ∧ Below u.heap.size u u') := hid_mk (fun u hx => by
        have h := bdneeds (.slice va L.length vc) L false u hx hu (by omega)
        rw [show neeN L false = 0 from by unfold neeN; rw [if_neg hm]] at h
        exact h)
      have hne : (E != 0) = true := by
        simp
        rw [← hE]
        exact hm
      have hne2 : (E == 0) = false := beq_false_of_ne (by rw [← hE]; exact hm)
      have HB := hid_mk (Below.refl w.heap.size w)
      clear hz1 hz2 hm hE
      go_enter Try.func6, Try.ntmps6
      go_wp2_with fail
      refine (lives9_any _).mono ?_
      rintro e w1 ⟨rfl, hb⟩
      replace HV := hid_mk (HV.out.below hb)
      replace HB := hid_mk (below_then HB.out hb)
      clear hb
      go_wp2_with fail
      refine (CT.out _ HV.out).mono ?_
      rintro e w2 ⟨ta, tc, rfl, hb⟩
      replace HV := hid_mk (HV.out.below hb)
      replace HB := hid_mk (below_then HB.out hb)
      clear hb
      go_wp2_with fail
      refine (CP.out _ HV.out).mono ?_
      rintro e w3 ⟨pa, pc, rfl, hb⟩
      replace HV := hid_mk (HV.out.below hb)
      replace HB := hid_mk (below_then HB.out hb)
      clear hb
      go_wp2_with fail
      refine (CN.out _ HV.out).mono ?_
      rintro e w4 ⟨rfl, hb⟩
      replace HV := hid_mk (HV.out.below hb)
      replace HB := hid_mk (below_then HB.out hb)
      clear hb
      go_wp2_with fail
      refine (CM.out _ HV.out).mono ?_
      rintro e w5 ⟨rfl, hb⟩
      replace HV := hid_mk (HV.out.below hb)
      replace HB := hid_mk (below_then HB.out hb)
      clear hb
      go_wp2_with fail
      go_ret
      exact ⟨rfl, HB.out⟩

/-! ### the row's frame -/
theorem own : ownKnob Try.prog.godebug = none := by kernel_rfl
theorem laidOut : laidOutB Try.prog = true := by kernel_rfl

set_option maxRecDepth 100000 in
theorem lifted (os : Os) (started : os.Started) (H : Type) (enc : TypeId × Value → H) :
    ReturnsInHanded {} Try.checked os 6 .any (Rows.buildTablesSpec.pre6 enc Try.prog Try.f6 Rows.buildTablesRow.domain false) (Rows.buildTablesSpec.post enc Try.prog Try.f6 false true false false) := by
  refine returnsInHanded_of_change (C := Try.checked) own started (by kernel_rfl) Try.func6
    (ChangeSpec.witness6 (enc := enc) (C := Try.checked) false ⟨#[], #[.slice none 0 0, .int .u64 0, .int .i64 0, .int .i64 0, .bool false], []⟩ 8 (by kernel_rfl) (by kernel_rfl) (by kernel_rfl) (by kernel_rfl)) ?_
  intro W base args ds gs before hval0 hW hcnd _
  have hval : ∀ (j : Nat) t v, Try.f6.params[j]? = some t → args[j]? = some v → Value.okWide Try.prog W .any base t v := hval0
  have hW' := hW
  obtain ⟨p, q, hA0, hV, rfl, hfz, hnd⟩ := hW
  have hA : DataW.TrodAll enc Try.prog W 0 (fun _ => true) true Try.f6.params.toList args.toList ds p := hA0
  rw [Try.params6] at hA hval
  obtain ⟨v0, vs0, d0, ds0, p0, q0, hargs, rfl, rfl, h0, r0⟩ := trodAll_cons hA
  obtain ⟨v1, vs1, d1, ds1, p1, q1, rfl, rfl, rfl, h1, r1⟩ := trodAll_cons r0
  obtain ⟨v2, vs2, d2, ds2, p2, q2, rfl, rfl, rfl, h2, r2⟩ := trodAll_cons r1
  obtain ⟨v3, vs3, d3, ds3, p3, q3, rfl, rfl, rfl, h3, r3⟩ := trodAll_cons r2
  obtain ⟨v4, vs4, d4, ds4, p4, q4, rfl, rfl, rfl, h4, r4⟩ := trodAll_cons r3
  obtain ⟨rfl, rfl, rfl⟩ := trodAll_nil r4
  obtain rfl : args = #[v0, v1, v2, v3, v4] := by cases args; simp_all
  obtain ⟨rfl, rfl⟩ := trodVars_none hV
  have k0 := h0
  have lt0 : ∀ x ∈ p0, x.block < W.heap.size := by
    obtain ⟨m, hm⟩ := k0
    exact DataW.trod_lt m _ _ _ hm
  have k1 := h1
  have lt1 : ∀ x ∈ p1, x.block < W.heap.size := by
    obtain ⟨m, hm⟩ := k1
    exact DataW.trod_lt m _ _ _ hm
  have k2 := h2
  have lt2 : ∀ x ∈ p2, x.block < W.heap.size := by
    obtain ⟨m, hm⟩ := k2
    exact DataW.trod_lt m _ _ _ hm
  have k3 := h3
  have lt3 : ∀ x ∈ p3, x.block < W.heap.size := by
    obtain ⟨m, hm⟩ := k3
    exact DataW.trod_lt m _ _ _ hm
  have k4 := h4
  have lt4 : ∀ x ∈ p4, x.block < W.heap.size := by
    obtain ⟨m, hm⟩ := k4
    exact DataW.trod_lt m _ _ _ hm
  obtain ⟨l0, hv0, hb0, hm0⟩ := open_segs (hval 0 27 v0 rfl rfl) h0
  obtain ⟨a1, rfl, rfl, rfl, w1⟩ := open_int Try.underlying34 (hval 1 34 v1 rfl rfl) h1
  obtain ⟨a2, rfl, rfl, rfl, w2⟩ := open_int Try.underlying3 (hval 2 3 v2 rfl rfl) h2
  obtain ⟨a3, rfl, rfl, rfl, w3⟩ := open_int Try.underlying3 (hval 3 3 v3 rfl rfl) h3
  obtain ⟨a4, rfl, rfl, rfl⟩ := open_bool Try.underlying4 (hval 4 4 v4 rfl rfl) h4
  clear hA0 hval0
  refine (walk W v0 l0 hv0 hb0 hm0 a1 a2 a3 a4 w1 w2 w3).mono fun e W' ⟨he, bel⟩ => ?_
  subst he
  exact ⟨_, rfl, _, _, _, [], _, [], hW', trodAll_mk1 (shut_bool Try.underlying4 _), (trodAll_cons_mk (Below.trod laidOut (by kernel_rfl) (of_decide_eq_true (by kernel_rfl)) k0 bel lt0) (trodAll_cons_mk (Below.trod laidOut (by kernel_rfl) (of_decide_eq_true (by kernel_rfl)) k1 bel lt1) (trodAll_cons_mk (Below.trod laidOut (by kernel_rfl) (of_decide_eq_true (by kernel_rfl)) k2 bel lt2) (trodAll_cons_mk (Below.trod laidOut (by kernel_rfl) (of_decide_eq_true (by kernel_rfl)) k3 bel lt3) (trodAll_cons_mk (Below.trod laidOut (by kernel_rfl) (of_decide_eq_true (by kernel_rfl)) k4 bel lt4) trodAll_mk0))))), rfl, bel.frame _, fun h => by cases h⟩

theorem over : Rows.buildTablesRow.holds Try.pinned (OpenSpec.ofChange Rows.buildTablesSpec) :=
  OpenClaim.holds_of_wide 6 Try.f6 rfl rfl rfl rfl rfl rfl rfl ⟨rfl, rfl, rfl, rfl, rfl⟩ rfl rfl rfl rfl rfl (by kernel_rfl) Try.func6 (by kernel_rfl)
    (of_decide_eq_true (by kernel_rfl)) (by unfold Func.isWrapper; first | (rw [if_pos (by decide +kernel)]; kernel_rfl) | (rw [if_neg (by decide +kernel)]; exact ⟨rfl, rfl⟩))
    (fun os started H enc _ => lifted os started H enc)

/-- THE STATEMENT -/
theorem buildTables_holds : Rows.BuildTablesSaid := over
#print axioms buildTables_holds
end Go.Proofs.Ytgdokgpplldddaa.buildTables
