/- The statements' common examples of layer 8: lives. Conditions: none. Written by mkfree.py. -/
import Derived.Test.YtfbimocgcnaogaaFec
import Derived.Test.YtfbimocgcnaogaaFe4
namespace Go.Proofs.Ytfbimocgcnaogaa
open Go.ChangeShapes Go.WideShapes Go.ChangeAt Go.RowKit
set_option linter.unusedVariables false
set_option maxRecDepth 100000

set_option maxHeartbeats 2000000 in
theorem lives8_any (w0 : World) : Calls Try.prog 10 #[] w0 fun e w' => e = .returned (.bool true) ∧ Below w0.heap.size w0 w' := by
  have C1 : Hid (∀ u, Calls Try.prog 7 #[.int .i64 4] u fun e u' => ∃ a c, e = .returned (.tuple #[.agg #[.int .i64 4, .slice a 4 c], .int .i64 0]) ∧ IntsK w0.heap.size u' (.slice a 4 c) [0, 1, 2, 3] ∧ Below u.heap.size u u') := hid_mk (fun u => by
    have h := frnew 4 u (by constructor <;> decide)
    rw [show newLS 4 = 4 by decide +kernel, show newLE 4 = 0 by decide +kernel, show newLL 4 = [0, 1, 2, 3] by decide +kernel] at h
    refine h.mono ?_
    rintro e u' ⟨v, he, hq, _, hb⟩
    obtain ⟨a, c, rfl⟩ := hq.len
    exact ⟨a, c, he, hq.mono (Nat.zero_le _), hb⟩)
  have C2 : Hid (∀ u a c, IntsK w0.heap.size u (.slice a 4 c) [0, 1, 2, 3] → w0.heap.size ≤ u.heap.size → Calls Try.prog 8 #[.agg #[.int .i64 4, .slice a 4 c], .int .i64 2] u fun e u' => ∃ a1 c1 a2 c2, e = .returned (.tuple #[.slice a1 2 c1, .agg #[.int .i64 4, .slice a2 2 c2], .int .i64 0]) ∧ IntsK w0.heap.size u' (.slice a1 2 c1) [0, 1] ∧ IntsK w0.heap.size u' (.slice a2 2 c2) [2, 3] ∧ Below u.heap.size u u') := hid_mk (fun u a c hv hB => by
    have h := frtake w0.heap.size 4 (.slice a 4 c) [0, 1, 2, 3] 2 u hv hB (by constructor <;> decide) (by constructor <;> decide) (by decide)
    rw [show takS 4 [0, 1, 2, 3] 2 = 4 by decide +kernel, show takE 4 [0, 1, 2, 3] 2 = 0 by decide +kernel, show takA 4 [0, 1, 2, 3] 2 = [0, 1] by decide +kernel, show takR 4 [0, 1, 2, 3] 2 = [2, 3] by decide +kernel] at h
    refine h.mono ?_
    rintro e u' ⟨v1, v2, he, ⟨hq, _, _⟩, ⟨hr, _⟩, hb⟩
    obtain ⟨a1, c1, rfl⟩ := hq.len
    obtain ⟨a2, c2, rfl⟩ := hr.len
    exact ⟨a1, c1, a2, c2, he, hq, hr, hb⟩)
  have C3 : Hid (∀ u a c, IntsK w0.heap.size u (.slice a 2 c) [2, 3] → w0.heap.size ≤ u.heap.size → Calls Try.prog 8 #[.agg #[.int .i64 4, .slice a 2 c], .int .i64 1] u fun e u' => ∃ a1 c1 a2 c2, e = .returned (.tuple #[.slice a1 1 c1, .agg #[.int .i64 4, .slice a2 1 c2], .int .i64 0]) ∧ IntsK w0.heap.size u' (.slice a1 1 c1) [2] ∧ IntsK w0.heap.size u' (.slice a2 1 c2) [3] ∧ Below u.heap.size u u') := hid_mk (fun u a c hv hB => by
    have h := frtake w0.heap.size 4 (.slice a 2 c) [2, 3] 1 u hv hB (by constructor <;> decide) (by constructor <;> decide) (by decide)
    rw [show takS 4 [2, 3] 1 = 4 by decide +kernel, show takE 4 [2, 3] 1 = 0 by decide +kernel, show takA 4 [2, 3] 1 = [2] by decide +kernel, show takR 4 [2, 3] 1 = [3] by decide +kernel] at h
    refine h.mono ?_
    rintro e u' ⟨v1, v2, he, ⟨hq, _, _⟩, ⟨hr, _⟩, hb⟩
    obtain ⟨a1, c1, rfl⟩ := hq.len
    obtain ⟨a2, c2, rfl⟩ := hr.len
    exact ⟨a1, c1, a2, c2, he, hq, hr, hb⟩)
  have C4 : Hid (∀ u a c b, b = u.heap.size → IntsK w0.heap.size u (.slice a 1 c) [3] → w0.heap.size ≤ u.heap.size → Calls Try.prog 9 #[.agg #[.int .i64 4, .slice a 1 c], .slice (some ⟨b, 0, none⟩) 2 2] (u.alloc (.cells #[.int .i64 1, .int .i64 0] 3)) fun e u' => ∃ a1 c1, e = .returned (.tuple #[.agg #[.int .i64 4, .slice a1 3 c1], .int .i64 0]) ∧ IntsK w0.heap.size u' (.slice a1 3 c1) [1, 0, 3] ∧ Below u.heap.size u u') := hid_mk (fun u a c b e hv hB => by
    subst e
    have h := frgive w0.heap.size 4 (.slice a 1 c) (.slice (some ⟨u.heap.size, 0, none⟩) 2 2) [3] [1, 0] _ (hv.below (below_box u (.cells #[.int .i64 1, .int .i64 0] 3))) (IntsK.lit _ u [1, 0]) (by rw [sizeA]; omega) (by constructor <;> decide) (by decide) (by decide)
    rw [show givS 4 [3] [1, 0] = 4 by decide +kernel, show givE 4 [3] [1, 0] = 0 by decide +kernel, show givR 4 [3] [1, 0] = [1, 0, 3] by decide +kernel] at h
    refine h.mono ?_
    rintro e u' ⟨v1, he, ⟨hq, _⟩, hb⟩
    obtain ⟨a1, c1, rfl⟩ := hq.len
    exact ⟨a1, c1, he, hq, below_then (below_box u _) hb⟩)
  have C5 : Hid (∀ u a c b, b = u.heap.size → IntsK w0.heap.size u (.slice a 3 c) [1, 0, 3] → w0.heap.size ≤ u.heap.size → Calls Try.prog 9 #[.agg #[.int .i64 4, .slice a 3 c], .slice (some ⟨b, 0, none⟩) 1 1] (u.alloc (.cells #[.int .i64 3] 3)) fun e u' => ∃ a1 c1, e = .returned (.tuple #[.agg #[.int .i64 0, .slice a1 0 c1], .int .i64 9]) ∧ IntsK w0.heap.size u' (.slice a1 0 c1) [] ∧ Below u.heap.size u u') := hid_mk (fun u a c b e hv hB => by
    subst e
    have h := frgive w0.heap.size 4 (.slice a 3 c) (.slice (some ⟨u.heap.size, 0, none⟩) 1 1) [1, 0, 3] [3] _ (hv.below (below_box u (.cells #[.int .i64 3] 3))) (IntsK.lit _ u [3]) (by rw [sizeA]; omega) (by constructor <;> decide) (by decide) (by decide)
    rw [show givS 4 [1, 0, 3] [3] = 0 by decide +kernel, show givE 4 [1, 0, 3] [3] = 9 by decide +kernel, show givR 4 [1, 0, 3] [3] = [] by decide +kernel] at h
    refine h.mono ?_
    rintro e u' ⟨v1, he, ⟨hq, _⟩, hb⟩
    obtain ⟨a1, c1, rfl⟩ := hq.len
    exact ⟨a1, c1, he, hq, below_then (below_box u _) hb⟩)
  have C6 : Hid (∀ u a c b, b = u.heap.size → IntsK w0.heap.size u (.slice a 2 c) [0, 1] → Calls Try.prog 17 #[.slice a 2 c, .slice (some ⟨b, 0, none⟩) 2 2] (u.alloc (.cells #[.int .i64 0, .int .i64 1] 3)) fun e u' => e = .returned (.bool true) ∧ Below u.heap.size u u') := hid_mk (fun u a c b e hv => by
    subst e
    have h := kints (.slice a 2 c) (.slice (some ⟨u.heap.size, 0, none⟩) 2 2) [0, 1] [0, 1] _ (hv.below (below_box u (.cells #[.int .i64 0, .int .i64 1] 3))).1 (IntsK.lit 0 u [0, 1]).1 (by decide)
    rw [show sameL [0, 1] [0, 1] = true by decide +kernel] at h
    refine h.mono ?_
    rintro e u' ⟨he, hb⟩
    exact ⟨he, below_then (below_box u _) hb⟩)
  have C7 : Hid (∀ u a c b, b = u.heap.size → IntsK w0.heap.size u (.slice a 1 c) [2] → Calls Try.prog 17 #[.slice a 1 c, .slice (some ⟨b, 0, none⟩) 1 1] (u.alloc (.cells #[.int .i64 2] 3)) fun e u' => e = .returned (.bool true) ∧ Below u.heap.size u u') := hid_mk (fun u a c b e hv => by
    subst e
    have h := kints (.slice a 1 c) (.slice (some ⟨u.heap.size, 0, none⟩) 1 1) [2] [2] _ (hv.below (below_box u (.cells #[.int .i64 2] 3))).1 (IntsK.lit 0 u [2]).1 (by decide)
    rw [show sameL [2] [2] = true by decide +kernel] at h
    refine h.mono ?_
    rintro e u' ⟨he, hb⟩
    exact ⟨he, below_then (below_box u _) hb⟩)
  have C8 : Hid (∀ u a c b, b = u.heap.size → IntsK w0.heap.size u (.slice a 3 c) [1, 0, 3] → Calls Try.prog 17 #[.slice a 3 c, .slice (some ⟨b, 0, none⟩) 3 3] (u.alloc (.cells #[.int .i64 1, .int .i64 0, .int .i64 3] 3)) fun e u' => e = .returned (.bool true) ∧ Below u.heap.size u u') := hid_mk (fun u a c b e hv => by
    subst e
    have h := kints (.slice a 3 c) (.slice (some ⟨u.heap.size, 0, none⟩) 3 3) [1, 0, 3] [1, 0, 3] _ (hv.below (below_box u (.cells #[.int .i64 1, .int .i64 0, .int .i64 3] 3))).1 (IntsK.lit 0 u [1, 0, 3]).1 (by decide)
    rw [show sameL [1, 0, 3] [1, 0, 3] = true by decide +kernel] at h
    refine h.mono ?_
    rintro e u' ⟨he, hb⟩
    exact ⟨he, below_then (below_box u _) hb⟩)
  have B := hid_mk (Below.refl w0.heap.size w0)
  go_enter Try.func10, Try.ntmps10
  go_wp2_with fail
  refine (C1.out _).mono ?_
  rintro e w1 ⟨a1, c1, rfl, hq, hb⟩
  replace B := hid_mk (below_then B.out hb)
  have Q0 := hid_mk hq
  clear hb hq
  have hx := blk_new w1 [.int .i64 4, .slice a1 4 c1] 24
  have hbx := below_box w1 (.cells #[.int .i64 4, .slice a1 4 c1] 24)
  have Gf : Hid (w0.heap.size ≤ w1.heap.size) := hid_mk B.out.size
  replace Q0 := hid_mk (Q0.out.below hbx)
  replace B := hid_mk (below_then B.out hbx)
  have Xf := hid_mk hx
  clear hx hbx
  go_wp2_with fail
  refine (C2.out _ _ _ Q0.out B.out.size).mono ?_
  rintro e w2 ⟨a2, c2, a3, c3, rfl, hq, hr, hb⟩
  replace Q0 := hid_mk (Q0.out.below hb)
  replace Xf := hid_mk (Xf.out.below hb)
  replace B := hid_mk (below_then B.out hb)
  have Qa := hid_mk hq
  have Q1 := hid_mk hr
  clear hb hq hr
  clear Q0
  obtain ⟨lf, cf0, cf1, ff0, ff1⟩ := blk2 Xf.out
  replace Qa := hid_mk ((Qa.out.setCell Xf.out (i := 0) Gf.out (.int .i64 4)).setCell (Xf.out.set 0 (.int .i64 4)) (i := 1) Gf.out (.slice a3 2 c3))
  replace Q1 := hid_mk ((Q1.out.setCell Xf.out (i := 0) Gf.out (.int .i64 4)).setCell (Xf.out.set 0 (.int .i64 4)) (i := 1) Gf.out (.slice a3 2 c3))
  replace Xf := hid_mk ((Xf.out.set 0 (.int .i64 4)).set 1 (.slice a3 2 c3))
  replace B := hid_mk (put2 B.out Gf.out (.int .i64 4) (.slice a3 2 c3))
  go_wp2_with fail
  refine (C3.out _ _ _ Q1.out B.out.size).mono ?_
  rintro e w3 ⟨a4, c4, a5, c5, rfl, hq, hr, hb⟩
  clear lf cf0 cf1 ff0 ff1
  replace Qa := hid_mk (Qa.out.below hb)
  replace Q1 := hid_mk (Q1.out.below hb)
  replace Xf := hid_mk (Xf.out.below hb)
  replace B := hid_mk (below_then B.out hb)
  have Qb := hid_mk hq
  have Q2 := hid_mk hr
  clear hb hq hr
  clear Q1
  obtain ⟨lf, cf0, cf1, ff0, ff1⟩ := blk2 Xf.out
  replace Qa := hid_mk ((Qa.out.setCell Xf.out (i := 0) Gf.out (.int .i64 4)).setCell (Xf.out.set 0 (.int .i64 4)) (i := 1) Gf.out (.slice a5 1 c5))
  replace Qb := hid_mk ((Qb.out.setCell Xf.out (i := 0) Gf.out (.int .i64 4)).setCell (Xf.out.set 0 (.int .i64 4)) (i := 1) Gf.out (.slice a5 1 c5))
  replace Q2 := hid_mk ((Q2.out.setCell Xf.out (i := 0) Gf.out (.int .i64 4)).setCell (Xf.out.set 0 (.int .i64 4)) (i := 1) Gf.out (.slice a5 1 c5))
  replace Xf := hid_mk ((Xf.out.set 0 (.int .i64 4)).set 1 (.slice a5 1 c5))
  replace B := hid_mk (put2 B.out Gf.out (.int .i64 4) (.slice a5 1 c5))
  go_wp2_with fail
  refine (C4.out (((w3.setCell ⟨w1.heap.size, 0, none⟩ (.int .i64 4)).setCell ⟨w1.heap.size, 1, none⟩ (.slice a5 1 c5))) _ _ _ (by first | rfl | simp) Q2.out B.out.size).mono ?_
  rintro e w4 ⟨a6, c6, rfl, hq, hb⟩
  clear lf cf0 cf1 ff0 ff1
  replace Qa := hid_mk (Qa.out.below hb)
  replace Qb := hid_mk (Qb.out.below hb)
  replace Q2 := hid_mk (Q2.out.below hb)
  replace Xf := hid_mk (Xf.out.below hb)
  replace B := hid_mk (below_then B.out hb)
  have Q3 := hid_mk hq
  clear hb hq
  clear Q2
  obtain ⟨lf, cf0, cf1, ff0, ff1⟩ := blk2 Xf.out
  replace Qa := hid_mk ((Qa.out.setCell Xf.out (i := 0) Gf.out (.int .i64 4)).setCell (Xf.out.set 0 (.int .i64 4)) (i := 1) Gf.out (.slice a6 3 c6))
  replace Qb := hid_mk ((Qb.out.setCell Xf.out (i := 0) Gf.out (.int .i64 4)).setCell (Xf.out.set 0 (.int .i64 4)) (i := 1) Gf.out (.slice a6 3 c6))
  replace Q3 := hid_mk ((Q3.out.setCell Xf.out (i := 0) Gf.out (.int .i64 4)).setCell (Xf.out.set 0 (.int .i64 4)) (i := 1) Gf.out (.slice a6 3 c6))
  replace Xf := hid_mk ((Xf.out.set 0 (.int .i64 4)).set 1 (.slice a6 3 c6))
  replace B := hid_mk (put2 B.out Gf.out (.int .i64 4) (.slice a6 3 c6))
  go_wp2_with fail
  refine (C5.out (((w4.setCell ⟨w1.heap.size, 0, none⟩ (.int .i64 4)).setCell ⟨w1.heap.size, 1, none⟩ (.slice a6 3 c6))) _ _ _ (by first | rfl | simp) Q3.out B.out.size).mono ?_
  rintro e w5 ⟨a7, c7, rfl, hq, hb⟩
  clear lf cf0 cf1 ff0 ff1
  replace Qa := hid_mk (Qa.out.below hb)
  replace Qb := hid_mk (Qb.out.below hb)
  replace Q3 := hid_mk (Q3.out.below hb)
  replace Xf := hid_mk (Xf.out.below hb)
  replace B := hid_mk (below_then B.out hb)
  clear hb
  clear hq
  obtain ⟨lf, cf0, cf1, ff0, ff1⟩ := blk2 Xf.out
  have hx := blk_new w5 [.int .i64 0, .slice a7 0 c7] 24
  have hbx := below_box w5 (.cells #[.int .i64 0, .slice a7 0 c7] 24)
  have Nfx := hid_mk (Nat.ne_of_lt Xf.out.lt)
  have Gx : Hid (w0.heap.size ≤ w5.heap.size) := hid_mk B.out.size
  replace Qa := hid_mk (Qa.out.below hbx)
  replace Qb := hid_mk (Qb.out.below hbx)
  replace Q3 := hid_mk (Q3.out.below hbx)
  replace Xf := hid_mk (Xf.out.below hbx)
  replace B := hid_mk (below_then B.out hbx)
  have Xx := hid_mk hx
  clear hx hbx
  go_wp2_with fail
  refine (C6.out ((w5.alloc (.cells #[.int .i64 0, .slice a7 0 c7] 24))) _ _ _ (by first | rfl | simp) Qa.out).mono ?_
  rintro e w6 ⟨rfl, hb⟩
  clear lf cf0 cf1 ff0 ff1
  replace Qa := hid_mk (Qa.out.below hb)
  replace Qb := hid_mk (Qb.out.below hb)
  replace Q3 := hid_mk (Q3.out.below hb)
  replace Xf := hid_mk (Xf.out.below hb)
  replace Xx := hid_mk (Xx.out.below hb)
  replace B := hid_mk (below_then B.out hb)
  clear hb
  clear Qa
  go_wp2_with fail
  refine (C7.out (w6) _ _ _ (by first | rfl | simp) Qb.out).mono ?_
  rintro e w7 ⟨rfl, hb⟩
  replace Qb := hid_mk (Qb.out.below hb)
  replace Q3 := hid_mk (Q3.out.below hb)
  replace Xf := hid_mk (Xf.out.below hb)
  replace Xx := hid_mk (Xx.out.below hb)
  replace B := hid_mk (below_then B.out hb)
  clear hb
  clear Qb
  obtain ⟨lf, cf0, cf1, ff0, ff1⟩ := blk2 Xf.out
  go_wp2_with fail
  refine (C8.out (w7) _ _ _ (by first | rfl | simp) Q3.out).mono ?_
  rintro e w8 ⟨rfl, hb⟩
  clear lf cf0 cf1 ff0 ff1
  replace Q3 := hid_mk (Q3.out.below hb)
  replace Xf := hid_mk (Xf.out.below hb)
  replace Xx := hid_mk (Xx.out.below hb)
  replace B := hid_mk (below_then B.out hb)
  clear hb
  go_wp2_with fail
  go_ret
  exact ⟨rfl, B.out⟩
end Go.Proofs.Ytfbimocgcnaogaa
