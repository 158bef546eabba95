/- The statements' common examples of layer 7: lives. Conditions: none. Written by mkstat.py. -/
import Derived.Test.YtfiogaollejdbaaSt2
namespace Go.Proofs.Ytfiogaollejdbaa
open Go.ChangeShapes Go.WideShapes Go.ChangeAt Go.RowKit
set_option linter.unusedVariables false
set_option maxRecDepth 100000

set_option maxHeartbeats 2000000 in
theorem lives7_any (w0 : World) : Calls Try.prog 11 #[] w0 fun e w' => e = .returned (.bool true) ∧ Below w0.heap.size w0 w' := by
  have C1 : Hid (∀ u, Calls Try.prog 7 #[.int .i64 2, .int .u64 4294967808] u fun e u' => e = .returned (.tuple #[.agg #[.int .i64 2, .int .u64 4294967808, .int .u64 0, .int .u8 0], .int .i64 0]) ∧ Below u.heap.size u u') := hid_mk (fun u => by
    have h := snew 2 4294967808 (by simp only [N64]; decide) u
    rw [show newD 2 4294967808 = ⟨2, 4294967808, 0, 0⟩ by decide +kernel, show newE 2 4294967808 = 0 by decide +kernel] at h
    exact h)
  have C2 : Hid (∀ u, Calls Try.prog 13 #[.agg #[.int .i64 2, .int .u64 4294967808, .int .u64 0, .int .u8 0], .int .u8 1] u fun e u' => e = .returned (.agg #[.int .i64 2, .int .u64 4294967808, .int .u64 0, .int .u8 1]) ∧ Below u.heap.size u u') := hid_mk (fun u => by
    have h := swrite ⟨2, 4294967808, 0, 0⟩ 1 ⟨by simp only [N64]; decide, by simp only [N64]; decide, by simp only; decide⟩ (by decide) u
    rw [show wrD ⟨2, 4294967808, 0, 0⟩ 1 = ⟨2, 4294967808, 0, 1⟩ by decide +kernel] at h
    exact h)
  have C3 : Hid (∀ u, Calls Try.prog 13 #[.agg #[.int .i64 2, .int .u64 4294967808, .int .u64 0, .int .u8 1], .int .u8 3] u fun e u' => e = .returned (.agg #[.int .i64 2, .int .u64 4294967808, .int .u64 0, .int .u8 3]) ∧ Below u.heap.size u u') := hid_mk (fun u => by
    have h := swrite ⟨2, 4294967808, 0, 1⟩ 3 ⟨by simp only [N64]; decide, by simp only [N64]; decide, by simp only; decide⟩ (by decide) u
    rw [show wrD ⟨2, 4294967808, 0, 1⟩ 3 = ⟨2, 4294967808, 0, 3⟩ by decide +kernel] at h
    exact h)
  have C4 : Hid (∀ u, Calls Try.prog 14 #[.agg #[.int .i64 2, .int .u64 4294967808, .int .u64 0, .int .u8 3], .int .u64 4294967296] u fun e u' => e = .returned (.agg #[.int .i64 2, .int .u64 4294967808, .int .u64 4294967296, .int .u8 3]) ∧ Below u.heap.size u u') := hid_mk (fun u => by
    have h := sask ⟨2, 4294967808, 0, 3⟩ 4294967296 ⟨by simp only [N64]; decide, by simp only [N64]; decide, by simp only; decide⟩ (by simp only [N64]; decide) u
    rw [show askD ⟨2, 4294967808, 0, 3⟩ 4294967296 = ⟨2, 4294967808, 4294967296, 3⟩ by decide +kernel] at h
    exact h)
  have C5 : Hid (∀ u, Calls Try.prog 13 #[.agg #[.int .i64 2, .int .u64 4294967808, .int .u64 4294967296, .int .u8 3], .int .u8 11] u fun e u' => e = .returned (.agg #[.int .i64 2, .int .u64 4294967808, .int .u64 4294967296, .int .u8 11]) ∧ Below u.heap.size u u') := hid_mk (fun u => by
    have h := swrite ⟨2, 4294967808, 4294967296, 3⟩ 11 ⟨by simp only [N64]; decide, by simp only [N64]; decide, by simp only; decide⟩ (by decide) u
    rw [show wrD ⟨2, 4294967808, 4294967296, 3⟩ 11 = ⟨2, 4294967808, 4294967296, 11⟩ by decide +kernel] at h
    exact h)
  have C6 : Hid (∀ u, Calls Try.prog 13 #[.agg #[.int .i64 2, .int .u64 4294967808, .int .u64 4294967296, .int .u8 11], .int .u8 15] u fun e u' => e = .returned (.agg #[.int .i64 2, .int .u64 4294967808, .int .u64 4294967296, .int .u8 15]) ∧ Below u.heap.size u u') := hid_mk (fun u => by
    have h := swrite ⟨2, 4294967808, 4294967296, 11⟩ 15 ⟨by simp only [N64]; decide, by simp only [N64]; decide, by simp only; decide⟩ (by decide) u
    rw [show wrD ⟨2, 4294967808, 4294967296, 11⟩ 15 = ⟨2, 4294967808, 4294967296, 15⟩ by decide +kernel] at h
    exact h)
  have C7 : Hid (∀ u, Calls Try.prog 14 #[.agg #[.int .i64 2, .int .u64 4294967808, .int .u64 0, .int .u8 3], .int .u64 512] u fun e u' => e = .returned (.agg #[.int .i64 2, .int .u64 4294967808, .int .u64 512, .int .u8 3]) ∧ Below u.heap.size u u') := hid_mk (fun u => by
    have h := sask ⟨2, 4294967808, 0, 3⟩ 512 ⟨by simp only [N64]; decide, by simp only [N64]; decide, by simp only; decide⟩ (by simp only [N64]; decide) u
    rw [show askD ⟨2, 4294967808, 0, 3⟩ 512 = ⟨2, 4294967808, 512, 3⟩ by decide +kernel] at h
    exact h)
  have C8 : Hid (∀ u, Calls Try.prog 13 #[.agg #[.int .i64 2, .int .u64 4294967808, .int .u64 512, .int .u8 3], .int .u8 11] u fun e u' => e = .returned (.agg #[.int .i64 2, .int .u64 4294967808, .int .u64 512, .int .u8 3]) ∧ Below u.heap.size u u') := hid_mk (fun u => by
    have h := swrite ⟨2, 4294967808, 512, 3⟩ 11 ⟨by simp only [N64]; decide, by simp only [N64]; decide, by simp only; decide⟩ (by decide) u
    rw [show wrD ⟨2, 4294967808, 512, 3⟩ 11 = ⟨2, 4294967808, 512, 3⟩ by decide +kernel] at h
    exact h)
  have C9 : Hid (∀ u, Calls Try.prog 12 #[.agg #[.int .i64 2, .int .u64 4294967808, .int .u64 4294967296, .int .u8 15]] u fun e u' => e = .returned (.bool true) ∧ Below u.heap.size u u') := hid_mk (fun u => by
    have h := sruns ⟨2, 4294967808, 4294967296, 15⟩ ⟨by simp only [N64]; decide, by simp only [N64]; decide, by simp only; decide⟩ u
    rw [show runsB ⟨2, 4294967808, 4294967296, 15⟩ = true by decide +kernel] at h
    exact h)
  have C10 : Hid (∀ u, Calls Try.prog 13 #[.agg #[.int .i64 2, .int .u64 4294967808, .int .u64 0, .int .u8 0], .int .u8 15] u fun e u' => e = .returned (.agg #[.int .i64 2, .int .u64 4294967808, .int .u64 0, .int .u8 3]) ∧ Below u.heap.size u u') := hid_mk (fun u => by
    have h := swrite ⟨2, 4294967808, 0, 0⟩ 15 ⟨by simp only [N64]; decide, by simp only [N64]; decide, by simp only; decide⟩ (by decide) u
    rw [show wrD ⟨2, 4294967808, 0, 0⟩ 15 = ⟨2, 4294967808, 0, 3⟩ by decide +kernel] at h
    exact h)
  have B := hid_mk (Below.refl w0.heap.size w0)
  have hfd := field_s
  go_enter Try.func11, Try.ntmps11
  go_wp2_with fail
  refine (C1.out _).mono ?_
  rintro e w1 ⟨rfl, hb⟩
  replace B := hid_mk (below_two B.out hb)
  clear hb
  go_wp2_with fail
  refine (C2.out _).mono ?_
  rintro e w2 ⟨rfl, hb⟩
  have Xd := hid_mk ((box_new w1 2 4294967808 0 0 _ rfl).below hb)
  replace B := hid_mk (below_two (below_two B.out (below_box w1 _)) hb)
  clear hb
  go_wp2_with fail
  refine (C3.out _).mono ?_
  rintro e w3 ⟨rfl, hb⟩
  replace Xd := hid_mk (Xd.out.below hb)
  replace B := hid_mk (below_two B.out hb)
  clear hb
  go_wp2_with fail
  refine (C4.out _).mono ?_
  rintro e w4 ⟨rfl, hb⟩
  replace Xd := hid_mk (Xd.out.below hb)
  replace B := hid_mk (below_two B.out hb)
  clear hb
  go_wp2_with fail
  refine (C5.out _).mono ?_
  rintro e w5 ⟨rfl, hb⟩
  replace Xd := hid_mk (Xd.out.below hb)
  replace B := hid_mk (below_two B.out hb)
  clear hb
  go_wp2_with fail
  refine (C6.out _).mono ?_
  rintro e w6 ⟨rfl, hb⟩
  replace Xd := hid_mk (Xd.out.below hb)
  replace B := hid_mk (below_two B.out hb)
  clear hb
  obtain ⟨ld, cd0, cd1, cd2, cd3⟩ := box_all Xd.out
  go_wp2_with fail
  refine (C2.out _).mono ?_
  rintro e w7 ⟨rfl, hb⟩
  clear ld cd0 cd1 cd2 cd3
  replace Xd := hid_mk ((Xd.out.below (below_box w6 _)).below hb)
  have Xa := hid_mk ((box_new w6 2 4294967808 4294967296 15 _ rfl).below hb)
  replace B := hid_mk (below_two (below_two B.out (below_box w6 _)) hb)
  clear hb
  go_wp2_with fail
  refine (C3.out _).mono ?_
  rintro e w8 ⟨rfl, hb⟩
  replace Xd := hid_mk (Xd.out.below hb)
  replace Xa := hid_mk (Xa.out.below hb)
  replace B := hid_mk (below_two B.out hb)
  clear hb
  go_wp2_with fail
  refine (C7.out _).mono ?_
  rintro e w9 ⟨rfl, hb⟩
  replace Xd := hid_mk (Xd.out.below hb)
  replace Xa := hid_mk (Xa.out.below hb)
  replace B := hid_mk (below_two B.out hb)
  clear hb
  go_wp2_with fail
  refine (C8.out _).mono ?_
  rintro e w10 ⟨rfl, hb⟩
  replace Xd := hid_mk (Xd.out.below hb)
  replace Xa := hid_mk (Xa.out.below hb)
  replace B := hid_mk (below_two B.out hb)
  clear hb
  obtain ⟨la, ca0, ca1, ca2, ca3⟩ := box_all Xa.out
  go_wp2_with fail
  refine (C9.out _).mono ?_
  rintro e w11 ⟨rfl, hb⟩
  clear la ca0 ca1 ca2 ca3
  replace Xd := hid_mk ((Xd.out.below (below_box w10 _)).below hb)
  replace Xa := hid_mk ((Xa.out.below (below_box w10 _)).below hb)
  have Xb := hid_mk ((box_new w10 2 4294967808 512 3 _ rfl).below hb)
  replace B := hid_mk (below_two (below_two B.out (below_box w10 _)) hb)
  clear hb
  obtain ⟨lb, cb0, cb1, cb2, cb3⟩ := box_all Xb.out
  obtain ⟨ld, cd0, cd1, cd2, cd3⟩ := box_all Xd.out
  go_wp2_with fail
  refine (C10.out _).mono ?_
  rintro e w12 ⟨rfl, hb⟩
  clear lb cb0 cb1 cb2 cb3
  clear ld cd0 cd1 cd2 cd3
  replace Xd := hid_mk (Xd.out.below hb)
  replace Xa := hid_mk (Xa.out.below hb)
  replace Xb := hid_mk (Xb.out.below hb)
  replace B := hid_mk (below_two B.out hb)
  clear hb
  go_wp2_with fail
  go_ret
  exact ⟨rfl, B.out⟩
end Go.Proofs.Ytfiogaollejdbaa
