/-
  PROVED: dumbwaiterlaw07.StatusNames returns true, and what was in memory stays as it was. Conditions: none.
-/
import Derived.Test.YtfiogaollejdbaaRows
import Derived.Test.YtfiogaollejdbaaStl
import Derived.WalkKit
import Derived.ProofKit
import Derived.OpenShut
import Derived.ShutString
import Derived.ChangeOld
import Derived.Below
import Derived.Carry
import Derived.Lib.SmallJoins
namespace Go.Proofs.Ytfiogaollejdbaa.statusNames
open Go.ChangeShapes Go.WideShapes Go.ChangeAt Go.RowKit
set_option linter.unusedVariables false


set_option maxRecDepth 100000 in
set_option maxHeartbeats 4000000 in
theorem walk (w0 : World) :
    Calls Try.prog 3 #[] w0 fun e w' => e = .returned (.bool true) ∧ Below w0.heap.size w0 w' := by
  have C1 : Hid (∀ u, Calls Try.prog 7 #[.int .i64 2, .int .u64 0] u fun e u' => e = .returned (.tuple #[.agg #[.int .i64 0, .int .u64 0, .int .u64 0, .int .u8 0], .int .i64 2]) ∧ Below u.heap.size u u') := hid_mk (fun u => by
    have h := snew 2 0 (by simp only [N64]; decide) u
    rw [show newD 2 0 = ⟨0, 0, 0, 0⟩ by decide +kernel, show newE 2 0 = 2 by decide +kernel] at h
    exact h)
  have C2 : Hid (∀ u, Calls Try.prog 7 #[.int .i64 9, .int .u64 4294967296] u fun e u' => e = .returned (.tuple #[.agg #[.int .i64 0, .int .u64 0, .int .u64 0, .int .u8 0], .int .i64 2]) ∧ Below u.heap.size u u') := hid_mk (fun u => by
    have h := snew 9 4294967296 (by simp only [N64]; decide) u
    rw [show newD 9 4294967296 = ⟨0, 0, 0, 0⟩ by decide +kernel, show newE 9 4294967296 = 2 by decide +kernel] at h
    exact h)
  have C3 : Hid (∀ u, Calls Try.prog 7 #[.int .i64 3, .int .u64 4294967296] u fun e u' => e = .returned (.tuple #[.agg #[.int .i64 3, .int .u64 4294967296, .int .u64 0, .int .u8 0], .int .i64 0]) ∧ Below u.heap.size u u') := hid_mk (fun u => by
    have h := snew 3 4294967296 (by simp only [N64]; decide) u
    rw [show newD 3 4294967296 = ⟨3, 4294967296, 0, 0⟩ by decide +kernel, show newE 3 4294967296 = 0 by decide +kernel] at h
    exact h)
  have C4 : Hid (∀ u, Calls Try.prog 8 #[.agg #[.int .i64 3, .int .u64 4294967296, .int .u64 0, .int .u8 0]] u fun e u' => e = .returned (.tuple #[.agg #[.int .i64 0, .int .u64 0, .int .u64 0, .int .u8 0], .int .i64 8]) ∧ Below u.heap.size u u') := hid_mk (fun u => by
    have h := sbreak ⟨3, 4294967296, 0, 0⟩ ⟨by simp only [N64]; decide, by simp only [N64]; decide, by simp only; decide⟩ u
    rw [show brkD ⟨3, 4294967296, 0, 0⟩ = ⟨0, 0, 0, 0⟩ by decide +kernel, show brkE ⟨3, 4294967296, 0, 0⟩ = 8 by decide +kernel] at h
    exact h)
  have C5 : Hid (∀ u, Calls Try.prog 8 #[.agg #[.int .i64 0, .int .u64 0, .int .u64 0, .int .u8 0]] u fun e u' => e = .returned (.tuple #[.agg #[.int .i64 0, .int .u64 0, .int .u64 0, .int .u8 0], .int .i64 2]) ∧ Below u.heap.size u u') := hid_mk (fun u => by
    have h := sbreak ⟨0, 0, 0, 0⟩ ⟨by simp only [N64]; decide, by simp only [N64]; decide, by simp only; decide⟩ u
    rw [show brkD ⟨0, 0, 0, 0⟩ = ⟨0, 0, 0, 0⟩ by decide +kernel, show brkE ⟨0, 0, 0, 0⟩ = 2 by decide +kernel] at h
    exact h)
  have C6 : Hid (∀ u, Calls Try.prog 9 #[.agg #[.int .i64 3, .int .u64 4294967296, .int .u64 0, .int .u8 0], .int .u64 0] u fun e u' => e = .returned (.tuple #[.agg #[.int .i64 3, .int .u64 4294967296, .int .u64 4294967296, .int .u8 15], .int .i64 0]) ∧ Below u.heap.size u u') := hid_mk (fun u => by
    have h := sinit ⟨3, 4294967296, 0, 0⟩ 0 ⟨by simp only [N64]; decide, by simp only [N64]; decide, by simp only; decide⟩ (by simp only [N64]; decide) u
    rw [show initD ⟨3, 4294967296, 0, 0⟩ 0 = ⟨3, 4294967296, 4294967296, 15⟩ by decide +kernel, show schE ⟨3, 4294967296, 0, 0⟩ = 0 by decide +kernel] at h
    exact h)
  have C7 : Hid (∀ u, Calls Try.prog 8 #[.agg #[.int .i64 3, .int .u64 4294967296, .int .u64 4294967296, .int .u8 15]] u fun e u' => e = .returned (.tuple #[.agg #[.int .i64 3, .int .u64 4294967296, .int .u64 4294967296, .int .u8 79], .int .i64 0]) ∧ Below u.heap.size u u') := hid_mk (fun u => by
    have h := sbreak ⟨3, 4294967296, 4294967296, 15⟩ ⟨by simp only [N64]; decide, by simp only [N64]; decide, by simp only; decide⟩ u
    rw [show brkD ⟨3, 4294967296, 4294967296, 15⟩ = ⟨3, 4294967296, 4294967296, 79⟩ by decide +kernel, show brkE ⟨3, 4294967296, 4294967296, 15⟩ = 0 by decide +kernel] at h
    exact h)
  have C8 : Hid (∀ u, Calls Try.prog 10 #[.agg #[.int .i64 3, .int .u64 4294967296, .int .u64 4294967296, .int .u8 15]] u fun e u' => e = .returned (.tuple #[.int .u64 4294967296, .bool true]) ∧ Below u.heap.size u u') := hid_mk (fun u => by
    have h := sfixed ⟨3, 4294967296, 4294967296, 15⟩ ⟨by simp only [N64]; decide, by simp only [N64]; decide, by simp only; decide⟩ u
    rw [show fixG ⟨3, 4294967296, 4294967296, 15⟩ = 4294967296 by decide +kernel, show fixB ⟨3, 4294967296, 4294967296, 15⟩ = true by decide +kernel] at h
    exact h)
  have C9 : Hid (∀ u, Calls Try.prog 12 #[.agg #[.int .i64 3, .int .u64 4294967296, .int .u64 4294967296, .int .u8 79]] u fun e u' => e = .returned (.bool false) ∧ Below u.heap.size u u') := hid_mk (fun u => by
    have h := sruns ⟨3, 4294967296, 4294967296, 79⟩ ⟨by simp only [N64]; decide, by simp only [N64]; decide, by simp only; decide⟩ u
    rw [show runsB ⟨3, 4294967296, 4294967296, 79⟩ = false by decide +kernel] at h
    exact h)
  have C10 : Hid (∀ u, Calls Try.prog 13 #[.agg #[.int .i64 3, .int .u64 4294967296, .int .u64 4294967296, .int .u8 79], .int .u8 0] u fun e u' => e = .returned (.agg #[.int .i64 3, .int .u64 4294967296, .int .u64 0, .int .u8 0]) ∧ Below u.heap.size u u') := hid_mk (fun u => by
    have h := swrite ⟨3, 4294967296, 4294967296, 79⟩ 0 ⟨by simp only [N64]; decide, by simp only [N64]; decide, by simp only; decide⟩ (by decide) u
    rw [show wrD ⟨3, 4294967296, 4294967296, 79⟩ 0 = ⟨3, 4294967296, 0, 0⟩ by decide +kernel] at h
    exact h)
  have C11 : Hid (∀ u, Calls Try.prog 14 #[.agg #[.int .i64 3, .int .u64 4294967296, .int .u64 0, .int .u8 0], .int .u64 4294967296] u fun e u' => e = .returned (.agg #[.int .i64 3, .int .u64 4294967296, .int .u64 0, .int .u8 0]) ∧ Below u.heap.size u u') := hid_mk (fun u => by
    have h := sask ⟨3, 4294967296, 0, 0⟩ 4294967296 ⟨by simp only [N64]; decide, by simp only [N64]; decide, by simp only; decide⟩ (by simp only [N64]; decide) u
    rw [show askD ⟨3, 4294967296, 0, 0⟩ 4294967296 = ⟨3, 4294967296, 0, 0⟩ by decide +kernel] at h
    exact h)
  have C12 : Hid (∀ u, Calls Try.prog 13 #[.agg #[.int .i64 3, .int .u64 4294967296, .int .u64 0, .int .u8 0], .int .u8 128] u fun e u' => e = .returned (.agg #[.int .i64 3, .int .u64 4294967296, .int .u64 0, .int .u8 128]) ∧ Below u.heap.size u u') := hid_mk (fun u => by
    have h := swrite ⟨3, 4294967296, 0, 0⟩ 128 ⟨by simp only [N64]; decide, by simp only [N64]; decide, by simp only; decide⟩ (by decide) u
    rw [show wrD ⟨3, 4294967296, 0, 0⟩ 128 = ⟨3, 4294967296, 0, 128⟩ by decide +kernel] at h
    exact h)
  have C13 : Hid (∀ u, Calls Try.prog 15 #[.agg #[.int .i64 2, .int .u64 4294967296, .int .u64 0, .int .u8 2]] u fun e u' => e = .returned (.int .i64 2) ∧ Below u.heap.size u u') := hid_mk (fun u => by
    have h := scheck ⟨2, 4294967296, 0, 2⟩ ⟨by simp only [N64]; decide, by simp only [N64]; decide, by simp only; decide⟩ u
    rw [show schE ⟨2, 4294967296, 0, 2⟩ = 2 by decide +kernel] at h
    exact h)
  have CL := hid_mk lives7_any
  have B := hid_mk (Below.refl w0.heap.size w0)
  have hfd := field_s
  go_enter Try.func3, Try.ntmps3
  go_wp2_with fail
  refine (C1.out _).mono ?_
  rintro e w1 ⟨rfl, hb⟩
  replace B := hid_mk (below_two B.out hb)
  clear hb
  go_wp2_with fail
  refine (C2.out _).mono ?_
  rintro e w2 ⟨rfl, hb⟩
  have Xx := hid_mk ((box_new w1 0 0 0 0 _ rfl).below hb)
  replace B := hid_mk (below_two (below_two B.out (below_box w1 _)) hb)
  clear hb
  go_wp2_with fail
  refine (C3.out _).mono ?_
  rintro e w3 ⟨rfl, hb⟩
  replace Xx := hid_mk ((Xx.out.below (below_box w2 _)).below hb)
  have Xy := hid_mk ((box_new w2 0 0 0 0 _ rfl).below hb)
  replace B := hid_mk (below_two (below_two B.out (below_box w2 _)) hb)
  clear hb
  go_wp2_with fail
  refine (C4.out _).mono ?_
  rintro e w4 ⟨rfl, hb⟩
  replace Xx := hid_mk ((Xx.out.below (below_box w3 _)).below hb)
  replace Xy := hid_mk ((Xy.out.below (below_box w3 _)).below hb)
  have Xd := hid_mk ((box_new w3 3 4294967296 0 0 _ rfl).below hb)
  replace B := hid_mk (below_two (below_two B.out (below_box w3 _)) hb)
  clear hb
  go_wp2_with fail
  refine (C5.out _).mono ?_
  rintro e w5 ⟨rfl, hb⟩
  replace Xx := hid_mk ((Xx.out.below (below_box w4 _)).below hb)
  replace Xy := hid_mk ((Xy.out.below (below_box w4 _)).below hb)
  replace Xd := hid_mk ((Xd.out.below (below_box w4 _)).below hb)
  have Xg := hid_mk ((box_new w4 0 0 0 0 _ rfl).below hb)
  replace B := hid_mk (below_two (below_two B.out (below_box w4 _)) hb)
  clear hb
  obtain ⟨ld, cd0, cd1, cd2, cd3⟩ := box_all Xd.out
  go_wp2_with fail
  refine (C6.out _).mono ?_
  rintro e w6 ⟨rfl, hb⟩
  clear ld cd0 cd1 cd2 cd3
  replace Xx := hid_mk ((Xx.out.below (below_box w5 _)).below hb)
  replace Xy := hid_mk ((Xy.out.below (below_box w5 _)).below hb)
  replace Xd := hid_mk ((Xd.out.below (below_box w5 _)).below hb)
  replace Xg := hid_mk ((Xg.out.below (below_box w5 _)).below hb)
  have Xh := hid_mk ((box_new w5 0 0 0 0 _ rfl).below hb)
  replace B := hid_mk (below_two (below_two B.out (below_box w5 _)) hb)
  clear hb
  go_wp2_with fail
  refine (C7.out _).mono ?_
  rintro e w7 ⟨rfl, hb⟩
  replace Xx := hid_mk ((Xx.out.below (below_box w6 _)).below hb)
  replace Xy := hid_mk ((Xy.out.below (below_box w6 _)).below hb)
  replace Xd := hid_mk ((Xd.out.below (below_box w6 _)).below hb)
  replace Xg := hid_mk ((Xg.out.below (below_box w6 _)).below hb)
  replace Xh := hid_mk ((Xh.out.below (below_box w6 _)).below hb)
  have Xi := hid_mk ((box_new w6 3 4294967296 4294967296 15 _ rfl).below hb)
  replace B := hid_mk (below_two (below_two B.out (below_box w6 _)) hb)
  clear hb
  obtain ⟨li, ci0, ci1, ci2, ci3⟩ := box_all Xi.out
  go_wp2_with fail
  refine (C8.out _).mono ?_
  rintro e w8 ⟨rfl, hb⟩
  clear li ci0 ci1 ci2 ci3
  replace Xx := hid_mk ((Xx.out.below (below_box w7 _)).below hb)
  replace Xy := hid_mk ((Xy.out.below (below_box w7 _)).below hb)
  replace Xd := hid_mk ((Xd.out.below (below_box w7 _)).below hb)
  replace Xg := hid_mk ((Xg.out.below (below_box w7 _)).below hb)
  replace Xh := hid_mk ((Xh.out.below (below_box w7 _)).below hb)
  replace Xi := hid_mk ((Xi.out.below (below_box w7 _)).below hb)
  have Xk := hid_mk ((box_new w7 3 4294967296 4294967296 79 _ rfl).below hb)
  replace B := hid_mk (below_two (below_two B.out (below_box w7 _)) hb)
  clear hb
  go_wp2_with fail
  refine wp_region_outl
    [(fun v _ => v = .bool true),
    (fun v _ => v = .bool true),
    (fun v _ => v = .int .i64 2),
    (fun v _ => v = .bool true),
    (fun v _ => v = .bool true),
    (fun v _ => v = .bool true),
    (fun v _ => v = .int .i64 2),
    (fun v _ => v = .bool true),
    (fun v _ => v = .bool true),
    (fun v _ => v = .bool true),
    (fun v _ => v = .int .i64 8),
    (fun v _ => v = .bool true),
    (fun v _ => v = .bool true),
    (fun v _ => v = .bool true),
    (fun v _ => v = .int .i64 2),
    (fun v _ => v = .bool true),
    (fun v _ => v = .bool true),
    (fun v _ => v = .bool true),
    (fun v _ => v = .int .i64 0),
    (fun v _ => v = .bool true),
    (fun v _ => v = .bool true),
    (fun v _ => v = .bool true),
    (fun v _ => v = .pointer (some ⟨w6.heap.size, 3, none⟩)),
    (fun v _ => v = .int .u8 15),
    (fun v _ => v = .bool true),
    (fun v _ => v = .bool true),
    (fun v _ => v = .bool true),
    (fun v _ => v = .int .i64 0),
    (fun v _ => v = .bool true),
    (fun v _ => v = .bool true),
    (fun v _ => v = .bool true),
    (fun v _ => v = .pointer (some ⟨w7.heap.size, 3, none⟩)),
    (fun v _ => v = .int .u8 79),
    (fun v _ => v = .bool true),
    (fun v _ => v = .bool true),
    (fun v _ => v = .bool true),
    (fun v _ => v = .agg #[.int .i64 3, .int .u64 4294967296, .int .u64 4294967296, .int .u8 79]),
    (fun v _ => v = .bool false),
    (fun v _ => v = .bool true),
    (fun v _ => v = .bool true),
    (fun v _ => v = .bool true),
    (fun v _ => v = .int .u64 4294967296),
    (fun v _ => v = .bool true),
    (fun v _ => v = .bool true),
    (fun v _ => v = .bool true),
    (fun v _ => v = .bool true),
    (fun v _ => v = .bool true),
    (fun v _ => v = .bool true),
    (fun v _ => v = .agg #[.int .i64 3, .int .u64 4294967296, .int .u64 4294967296, .int .u8 79]),
    (fun v _ => v = .agg #[.int .i64 3, .int .u64 4294967296, .int .u64 0, .int .u8 0]),
    (fun v _ => v = .int .u8 0),
    (fun v _ => v = .bool true),
    (fun v _ => v = .bool true),
    (fun v _ => v = .bool true),
    (fun v _ => v = .agg #[.int .i64 3, .int .u64 4294967296, .int .u64 0, .int .u8 0]),
    (fun v _ => v = .agg #[.int .i64 3, .int .u64 4294967296, .int .u64 0, .int .u8 0]),
    (fun v _ => v = .agg #[.int .i64 3, .int .u64 4294967296, .int .u64 0, .int .u8 0]),
    (fun v _ => v = .bool true),
    (fun v _ => v = .bool true),
    (fun v _ => v = .bool true),
    (fun v _ => v = .agg #[.int .i64 3, .int .u64 4294967296, .int .u64 0, .int .u8 0]),
    (fun v _ => v = .agg #[.int .i64 3, .int .u64 4294967296, .int .u64 0, .int .u8 128]),
    (fun v _ => v = .int .u8 128),
    (fun v _ => v = .bool true),
    (fun v _ => v = .bool true),
    (fun v _ => v = .bool true),
    (fun v _ => v = .agg #[.int .i64 2, .int .u64 4294967296, .int .u64 0, .int .u8 2]),
    (fun v _ => v = .int .i64 2),
    (fun v _ => v = .bool true),
    (fun v _ => v = .bool true),
    (fun v _ => v = .bool true)]
    (fun u => Below w8.heap.size w8 u) (by kernel_rfl) (by kernel_rfl) ?_ (fun u u' hb h => h.trans (hb.mono h.size)) ((Below.refl _ _).drew) ?_ ?_
  · refine And.intro (up_eq _) ?_
    refine And.intro (up_eq _) ?_
    refine And.intro (up_eq _) ?_
    refine And.intro (up_eq _) ?_
    refine And.intro (up_eq _) ?_
    refine And.intro (up_eq _) ?_
    refine And.intro (up_eq _) ?_
    refine And.intro (up_eq _) ?_
    refine And.intro (up_eq _) ?_
    refine And.intro (up_eq _) ?_
    refine And.intro (up_eq _) ?_
    refine And.intro (up_eq _) ?_
    refine And.intro (up_eq _) ?_
    refine And.intro (up_eq _) ?_
    refine And.intro (up_eq _) ?_
    refine And.intro (up_eq _) ?_
    refine And.intro (up_eq _) ?_
    refine And.intro (up_eq _) ?_
    refine And.intro (up_eq _) ?_
    refine And.intro (up_eq _) ?_
    refine And.intro (up_eq _) ?_
    refine And.intro (up_eq _) ?_
    refine And.intro (up_eq _) ?_
    refine And.intro (up_eq _) ?_
    refine And.intro (up_eq _) ?_
    refine And.intro (up_eq _) ?_
    refine And.intro (up_eq _) ?_
    refine And.intro (up_eq _) ?_
    refine And.intro (up_eq _) ?_
    refine And.intro (up_eq _) ?_
    refine And.intro (up_eq _) ?_
    refine And.intro (up_eq _) ?_
    refine And.intro (up_eq _) ?_
    refine And.intro (up_eq _) ?_
    refine And.intro (up_eq _) ?_
    refine And.intro (up_eq _) ?_
    refine And.intro (up_eq _) ?_
    refine And.intro (up_eq _) ?_
    refine And.intro (up_eq _) ?_
    refine And.intro (up_eq _) ?_
    refine And.intro (up_eq _) ?_
    refine And.intro (up_eq _) ?_
    refine And.intro (up_eq _) ?_
    refine And.intro (up_eq _) ?_
    refine And.intro (up_eq _) ?_
    refine And.intro (up_eq _) ?_
    refine And.intro (up_eq _) ?_
    refine And.intro (up_eq _) ?_
    refine And.intro (up_eq _) ?_
    refine And.intro (up_eq _) ?_
    refine And.intro (up_eq _) ?_
    refine And.intro (up_eq _) ?_
    refine And.intro (up_eq _) ?_
    refine And.intro (up_eq _) ?_
    refine And.intro (up_eq _) ?_
    refine And.intro (up_eq _) ?_
    refine And.intro (up_eq _) ?_
    refine And.intro (up_eq _) ?_
    refine And.intro (up_eq _) ?_
    refine And.intro (up_eq _) ?_
    refine And.intro (up_eq _) ?_
    refine And.intro (up_eq _) ?_
    refine And.intro (up_eq _) ?_
    refine And.intro (up_eq _) ?_
    refine And.intro (up_eq _) ?_
    refine And.intro (up_eq _) ?_
    refine And.intro (up_eq _) ?_
    refine And.intro (up_eq _) ?_
    refine And.intro (up_eq _) ?_
    refine And.intro (up_eq _) ?_
    refine And.intro (up_eq _) ?_
    trivial
  · refine And.intro ?_ (And.intro ?_ (And.intro ?_ (And.intro ?_ (And.intro ?_ (And.intro ?_ (And.intro ?_ (And.intro ?_ (And.intro ?_ (And.intro ?_ (And.intro ?_ (And.intro ?_ (And.intro ?_ (And.intro ?_ (And.intro ?_ (And.intro ?_ (And.intro ?_ (And.intro ?_ (And.intro ?_ (And.intro ?_ (And.intro ?_ (And.intro ?_ (And.intro ?_ (And.intro ?_ (And.intro ?_ (And.intro ?_ (And.intro ?_ (And.intro ?_ (And.intro ?_ (And.intro ?_ (And.intro ?_ (And.intro ?_ (And.intro ?_ (And.intro ?_ (And.intro ?_ (And.intro ?_ (And.intro ?_ (And.intro ?_ (And.intro ?_ (And.intro ?_ (And.intro ?_ (And.intro ?_ (And.intro ?_ (And.intro ?_ (And.intro ?_ (And.intro ?_ (And.intro ?_ (And.intro ?_ (And.intro ?_ (And.intro ?_ (And.intro ?_ (And.intro ?_ (And.intro ?_ (And.intro ?_ (And.intro ?_ (And.intro ?_ (And.intro ?_ (And.intro ?_ (And.intro ?_ (And.intro ?_ (And.intro ?_ (And.intro ?_ (And.intro ?_ (And.intro ?_ (And.intro ?_ (And.intro ?_ (And.intro ?_ (And.intro ?_ (And.intro ?_ (And.intro ?_ (And.intro ?_ (True.intro)))))))))))))))))))))))))))))))))))))))))))))))))))))))))))))))))))))))
    · refine ostep_call 11 (by kernel_rfl) _ _ (by kernel_rfl) rfl (fun _ A1 W1 inv hall => ⟨wanted_none rfl, #[], ?_, ?_⟩)
      · skip
        simp
      · refine (CL.out _).mono ?_
        rintro e u ⟨rfl, hb⟩
        exact ⟨_, rfl, rfl, hb⟩
    · refine ostep_val (.bool true) (by kernel_rfl) (fun _ A1 W1 inv hall => ⟨wanted_none rfl, ?_, rfl⟩)
      have h54 : A1.eval (.tmp 54) = .bool true := inv.get hall 0 54 (by kernel_rfl) (by kernel_rfl)
      simp only [execOp, h54, Sem.run_pure]
    · refine ostep_val (.int .i64 2) (by kernel_rfl) (fun _ A1 W1 inv hall => ⟨wanted_some (g := 1) (d := 55) (b := true) rfl (by kernel_rfl) (inv.get hall 1 55 (by kernel_rfl) (by kernel_rfl)), ?_, rfl⟩)
      have h2 : A1.eval (.tmp 2) = .int .i64 2 := (inv.base 2 (by kernel_rfl)).trans rfl
      simp only [execOp, h2, Sem.run_pure]
    · refine ostep_val (.bool true) (by kernel_rfl) (fun _ A1 W1 inv hall => ⟨wanted_some (g := 1) (d := 55) (b := true) rfl (by kernel_rfl) (inv.get hall 1 55 (by kernel_rfl) (by kernel_rfl)), ?_, rfl⟩)
      have h56 : A1.eval (.tmp 56) = .int .i64 2 := inv.get hall 2 56 (by kernel_rfl) (by kernel_rfl)
      simp only [execOp, h56]
      simp [eqGuard, go_sem]
    · refine ostep_val (.bool true) (by kernel_rfl) (fun _ A1 W1 inv hall => ⟨wanted_none rfl, ?_, rfl⟩)
      have h55 : A1.eval (.tmp 55) = .bool true := inv.get hall 1 55 (by kernel_rfl) (by kernel_rfl)
      have h57 : A1.eval (.tmp 57) = .bool true := inv.get hall 3 57 (by kernel_rfl) (by kernel_rfl)
      simp only [execOp, h55, h57]
      simp [asBool]
    · refine ostep_val (.bool true) (by kernel_rfl) (fun _ A1 W1 inv hall => ⟨wanted_none rfl, ?_, rfl⟩)
      have h58 : A1.eval (.tmp 58) = .bool true := inv.get hall 4 58 (by kernel_rfl) (by kernel_rfl)
      simp only [execOp, h58, Sem.run_pure]
    · refine ostep_val (.int .i64 2) (by kernel_rfl) (fun _ A1 W1 inv hall => ⟨wanted_some (g := 5) (d := 59) (b := true) rfl (by kernel_rfl) (inv.get hall 5 59 (by kernel_rfl) (by kernel_rfl)), ?_, rfl⟩)
      have h4 : A1.eval (.tmp 4) = .int .i64 2 := (inv.base 4 (by kernel_rfl)).trans rfl
      simp only [execOp, h4, Sem.run_pure]
    · refine ostep_val (.bool true) (by kernel_rfl) (fun _ A1 W1 inv hall => ⟨wanted_some (g := 5) (d := 59) (b := true) rfl (by kernel_rfl) (inv.get hall 5 59 (by kernel_rfl) (by kernel_rfl)), ?_, rfl⟩)
      have h60 : A1.eval (.tmp 60) = .int .i64 2 := inv.get hall 6 60 (by kernel_rfl) (by kernel_rfl)
      simp only [execOp, h60]
      simp [eqGuard, go_sem]
    · refine ostep_val (.bool true) (by kernel_rfl) (fun _ A1 W1 inv hall => ⟨wanted_none rfl, ?_, rfl⟩)
      have h59 : A1.eval (.tmp 59) = .bool true := inv.get hall 5 59 (by kernel_rfl) (by kernel_rfl)
      have h61 : A1.eval (.tmp 61) = .bool true := inv.get hall 7 61 (by kernel_rfl) (by kernel_rfl)
      simp only [execOp, h59, h61]
      simp [asBool]
    · refine ostep_val (.bool true) (by kernel_rfl) (fun _ A1 W1 inv hall => ⟨wanted_none rfl, ?_, rfl⟩)
      have h62 : A1.eval (.tmp 62) = .bool true := inv.get hall 8 62 (by kernel_rfl) (by kernel_rfl)
      simp only [execOp, h62, Sem.run_pure]
    · refine ostep_val (.int .i64 8) (by kernel_rfl) (fun _ A1 W1 inv hall => ⟨wanted_some (g := 9) (d := 63) (b := true) rfl (by kernel_rfl) (inv.get hall 9 63 (by kernel_rfl) (by kernel_rfl)), ?_, rfl⟩)
      have h8 : A1.eval (.tmp 8) = .int .i64 8 := (inv.base 8 (by kernel_rfl)).trans rfl
      simp only [execOp, h8, Sem.run_pure]
    · refine ostep_val (.bool true) (by kernel_rfl) (fun _ A1 W1 inv hall => ⟨wanted_some (g := 9) (d := 63) (b := true) rfl (by kernel_rfl) (inv.get hall 9 63 (by kernel_rfl) (by kernel_rfl)), ?_, rfl⟩)
      have h64 : A1.eval (.tmp 64) = .int .i64 8 := inv.get hall 10 64 (by kernel_rfl) (by kernel_rfl)
      simp only [execOp, h64]
      simp [eqGuard, go_sem]
    · refine ostep_val (.bool true) (by kernel_rfl) (fun _ A1 W1 inv hall => ⟨wanted_none rfl, ?_, rfl⟩)
      have h63 : A1.eval (.tmp 63) = .bool true := inv.get hall 9 63 (by kernel_rfl) (by kernel_rfl)
      have h65 : A1.eval (.tmp 65) = .bool true := inv.get hall 11 65 (by kernel_rfl) (by kernel_rfl)
      simp only [execOp, h63, h65]
      simp [asBool]
    · refine ostep_val (.bool true) (by kernel_rfl) (fun _ A1 W1 inv hall => ⟨wanted_none rfl, ?_, rfl⟩)
      have h66 : A1.eval (.tmp 66) = .bool true := inv.get hall 12 66 (by kernel_rfl) (by kernel_rfl)
      simp only [execOp, h66, Sem.run_pure]
    · refine ostep_val (.int .i64 2) (by kernel_rfl) (fun _ A1 W1 inv hall => ⟨wanted_some (g := 13) (d := 67) (b := true) rfl (by kernel_rfl) (inv.get hall 13 67 (by kernel_rfl) (by kernel_rfl)), ?_, rfl⟩)
      have h10 : A1.eval (.tmp 10) = .int .i64 2 := (inv.base 10 (by kernel_rfl)).trans rfl
      simp only [execOp, h10, Sem.run_pure]
    · refine ostep_val (.bool true) (by kernel_rfl) (fun _ A1 W1 inv hall => ⟨wanted_some (g := 13) (d := 67) (b := true) rfl (by kernel_rfl) (inv.get hall 13 67 (by kernel_rfl) (by kernel_rfl)), ?_, rfl⟩)
      have h68 : A1.eval (.tmp 68) = .int .i64 2 := inv.get hall 14 68 (by kernel_rfl) (by kernel_rfl)
      simp only [execOp, h68]
      simp [eqGuard, go_sem]
    · refine ostep_val (.bool true) (by kernel_rfl) (fun _ A1 W1 inv hall => ⟨wanted_none rfl, ?_, rfl⟩)
      have h67 : A1.eval (.tmp 67) = .bool true := inv.get hall 13 67 (by kernel_rfl) (by kernel_rfl)
      have h69 : A1.eval (.tmp 69) = .bool true := inv.get hall 15 69 (by kernel_rfl) (by kernel_rfl)
      simp only [execOp, h67, h69]
      simp [asBool]
    · refine ostep_val (.bool true) (by kernel_rfl) (fun _ A1 W1 inv hall => ⟨wanted_none rfl, ?_, rfl⟩)
      have h70 : A1.eval (.tmp 70) = .bool true := inv.get hall 16 70 (by kernel_rfl) (by kernel_rfl)
      simp only [execOp, h70, Sem.run_pure]
    · refine ostep_val (.int .i64 0) (by kernel_rfl) (fun _ A1 W1 inv hall => ⟨wanted_some (g := 17) (d := 71) (b := true) rfl (by kernel_rfl) (inv.get hall 17 71 (by kernel_rfl) (by kernel_rfl)), ?_, rfl⟩)
      have h12 : A1.eval (.tmp 12) = .int .i64 0 := (inv.base 12 (by kernel_rfl)).trans rfl
      simp only [execOp, h12, Sem.run_pure]
    · refine ostep_val (.bool true) (by kernel_rfl) (fun _ A1 W1 inv hall => ⟨wanted_some (g := 17) (d := 71) (b := true) rfl (by kernel_rfl) (inv.get hall 17 71 (by kernel_rfl) (by kernel_rfl)), ?_, rfl⟩)
      have h72 : A1.eval (.tmp 72) = .int .i64 0 := inv.get hall 18 72 (by kernel_rfl) (by kernel_rfl)
      simp only [execOp, h72]
      simp [eqGuard, go_sem]
    · refine ostep_val (.bool true) (by kernel_rfl) (fun _ A1 W1 inv hall => ⟨wanted_none rfl, ?_, rfl⟩)
      have h71 : A1.eval (.tmp 71) = .bool true := inv.get hall 17 71 (by kernel_rfl) (by kernel_rfl)
      have h73 : A1.eval (.tmp 73) = .bool true := inv.get hall 19 73 (by kernel_rfl) (by kernel_rfl)
      simp only [execOp, h71, h73]
      simp [asBool]
    · refine ostep_val (.bool true) (by kernel_rfl) (fun _ A1 W1 inv hall => ⟨wanted_none rfl, ?_, rfl⟩)
      have h74 : A1.eval (.tmp 74) = .bool true := inv.get hall 20 74 (by kernel_rfl) (by kernel_rfl)
      simp only [execOp, h74, Sem.run_pure]
    · refine ostep_val (.pointer (some ⟨w6.heap.size, 3, none⟩)) (by kernel_rfl) (fun _ A1 W1 inv hall => ⟨wanted_some (g := 21) (d := 75) (b := true) rfl (by kernel_rfl) (inv.get hall 21 75 (by kernel_rfl) (by kernel_rfl)), ?_, rfl⟩)
      have h11 : A1.eval (.tmp 11) = .pointer (some ⟨w6.heap.size, 0, none⟩) := (inv.base 11 (by kernel_rfl)).trans rfl
      simp only [execOp, h11, Sem.run_bind, at_s _ W1, Result.andThen_ok, Sem.run_pure]
    · refine ostep_val (.int .u8 15) (by kernel_rfl) (fun _ A1 W1 inv hall => ⟨wanted_some (g := 21) (d := 75) (b := true) rfl (by kernel_rfl) (inv.get hall 21 75 (by kernel_rfl) (by kernel_rfl)), ?_, rfl⟩)
      have h76 : A1.eval (.tmp 76) = .pointer (some ⟨w6.heap.size, 3, none⟩) := inv.get hall 22 76 (by kernel_rfl) (by kernel_rfl)
      simp only [execOp, h76, Sem.run_bind, load_s (Xi.out.below inv.s), Result.andThen_ok, Sem.run_pure]
    · refine ostep_val (.bool true) (by kernel_rfl) (fun _ A1 W1 inv hall => ⟨wanted_some (g := 21) (d := 75) (b := true) rfl (by kernel_rfl) (inv.get hall 21 75 (by kernel_rfl) (by kernel_rfl)), ?_, rfl⟩)
      have h77 : A1.eval (.tmp 77) = .int .u8 15 := inv.get hall 23 77 (by kernel_rfl) (by kernel_rfl)
      simp only [execOp, h77]
      simp [eqGuard, go_sem]
    · refine ostep_val (.bool true) (by kernel_rfl) (fun _ A1 W1 inv hall => ⟨wanted_none rfl, ?_, rfl⟩)
      have h75 : A1.eval (.tmp 75) = .bool true := inv.get hall 21 75 (by kernel_rfl) (by kernel_rfl)
      have h78 : A1.eval (.tmp 78) = .bool true := inv.get hall 24 78 (by kernel_rfl) (by kernel_rfl)
      simp only [execOp, h75, h78]
      simp [asBool]
    · refine ostep_val (.bool true) (by kernel_rfl) (fun _ A1 W1 inv hall => ⟨wanted_none rfl, ?_, rfl⟩)
      have h79 : A1.eval (.tmp 79) = .bool true := inv.get hall 25 79 (by kernel_rfl) (by kernel_rfl)
      simp only [execOp, h79, Sem.run_pure]
    · refine ostep_val (.int .i64 0) (by kernel_rfl) (fun _ A1 W1 inv hall => ⟨wanted_some (g := 26) (d := 80) (b := true) rfl (by kernel_rfl) (inv.get hall 26 80 (by kernel_rfl) (by kernel_rfl)), ?_, rfl⟩)
      have h14 : A1.eval (.tmp 14) = .int .i64 0 := (inv.base 14 (by kernel_rfl)).trans rfl
      simp only [execOp, h14, Sem.run_pure]
    · refine ostep_val (.bool true) (by kernel_rfl) (fun _ A1 W1 inv hall => ⟨wanted_some (g := 26) (d := 80) (b := true) rfl (by kernel_rfl) (inv.get hall 26 80 (by kernel_rfl) (by kernel_rfl)), ?_, rfl⟩)
      have h81 : A1.eval (.tmp 81) = .int .i64 0 := inv.get hall 27 81 (by kernel_rfl) (by kernel_rfl)
      simp only [execOp, h81]
      simp [eqGuard, go_sem]
    · refine ostep_val (.bool true) (by kernel_rfl) (fun _ A1 W1 inv hall => ⟨wanted_none rfl, ?_, rfl⟩)
      have h80 : A1.eval (.tmp 80) = .bool true := inv.get hall 26 80 (by kernel_rfl) (by kernel_rfl)
      have h82 : A1.eval (.tmp 82) = .bool true := inv.get hall 28 82 (by kernel_rfl) (by kernel_rfl)
      simp only [execOp, h80, h82]
      simp [asBool]
    · refine ostep_val (.bool true) (by kernel_rfl) (fun _ A1 W1 inv hall => ⟨wanted_none rfl, ?_, rfl⟩)
      have h83 : A1.eval (.tmp 83) = .bool true := inv.get hall 29 83 (by kernel_rfl) (by kernel_rfl)
      simp only [execOp, h83, Sem.run_pure]
    · refine ostep_val (.pointer (some ⟨w7.heap.size, 3, none⟩)) (by kernel_rfl) (fun _ A1 W1 inv hall => ⟨wanted_some (g := 30) (d := 84) (b := true) rfl (by kernel_rfl) (inv.get hall 30 84 (by kernel_rfl) (by kernel_rfl)), ?_, rfl⟩)
      have h13 : A1.eval (.tmp 13) = .pointer (some ⟨w7.heap.size, 0, none⟩) := (inv.base 13 (by kernel_rfl)).trans rfl
      simp only [execOp, h13, Sem.run_bind, at_s _ W1, Result.andThen_ok, Sem.run_pure]
    · refine ostep_val (.int .u8 79) (by kernel_rfl) (fun _ A1 W1 inv hall => ⟨wanted_some (g := 30) (d := 84) (b := true) rfl (by kernel_rfl) (inv.get hall 30 84 (by kernel_rfl) (by kernel_rfl)), ?_, rfl⟩)
      have h85 : A1.eval (.tmp 85) = .pointer (some ⟨w7.heap.size, 3, none⟩) := inv.get hall 31 85 (by kernel_rfl) (by kernel_rfl)
      simp only [execOp, h85, Sem.run_bind, load_s (Xk.out.below inv.s), Result.andThen_ok, Sem.run_pure]
    · refine ostep_val (.bool true) (by kernel_rfl) (fun _ A1 W1 inv hall => ⟨wanted_some (g := 30) (d := 84) (b := true) rfl (by kernel_rfl) (inv.get hall 30 84 (by kernel_rfl) (by kernel_rfl)), ?_, rfl⟩)
      have h86 : A1.eval (.tmp 86) = .int .u8 79 := inv.get hall 32 86 (by kernel_rfl) (by kernel_rfl)
      simp only [execOp, h86]
      simp [eqGuard, go_sem]
    · refine ostep_val (.bool true) (by kernel_rfl) (fun _ A1 W1 inv hall => ⟨wanted_none rfl, ?_, rfl⟩)
      have h84 : A1.eval (.tmp 84) = .bool true := inv.get hall 30 84 (by kernel_rfl) (by kernel_rfl)
      have h87 : A1.eval (.tmp 87) = .bool true := inv.get hall 33 87 (by kernel_rfl) (by kernel_rfl)
      simp only [execOp, h84, h87]
      simp [asBool]
    · refine ostep_val (.bool true) (by kernel_rfl) (fun _ A1 W1 inv hall => ⟨wanted_none rfl, ?_, rfl⟩)
      have h88 : A1.eval (.tmp 88) = .bool true := inv.get hall 34 88 (by kernel_rfl) (by kernel_rfl)
      simp only [execOp, h88, Sem.run_pure]
    · refine ostep_val (.agg #[.int .i64 3, .int .u64 4294967296, .int .u64 4294967296, .int .u8 79]) (by kernel_rfl) (fun _ A1 W1 inv hall => ⟨wanted_some (g := 35) (d := 89) (b := true) rfl (by kernel_rfl) (inv.get hall 35 89 (by kernel_rfl) (by kernel_rfl)), ?_, rfl⟩)
      have h13 : A1.eval (.tmp 13) = .pointer (some ⟨w7.heap.size, 0, none⟩) := (inv.base 13 (by kernel_rfl)).trans rfl
      simp only [execOp, h13, Sem.run_bind, loadDev (Xk.out.below inv.s), Result.andThen_ok, Sem.run_pure]
    · refine ostep_call 12 (by kernel_rfl) _ _ (by kernel_rfl) rfl (fun _ A1 W1 inv hall => ⟨wanted_some (g := 35) (d := 89) (b := true) rfl (by kernel_rfl) (inv.get hall 35 89 (by kernel_rfl) (by kernel_rfl)), #[.agg #[.int .i64 3, .int .u64 4294967296, .int .u64 4294967296, .int .u8 79]], ?_, ?_⟩)
      · have h90 : A1.eval (.tmp 90) = .agg #[.int .i64 3, .int .u64 4294967296, .int .u64 4294967296, .int .u8 79] := inv.get hall 36 90 (by kernel_rfl) (by kernel_rfl)
        simp [h90]
      · refine (C9.out _).mono ?_
        rintro e u ⟨rfl, hb⟩
        exact ⟨_, rfl, rfl, hb⟩
    · refine ostep_val (.bool true) (by kernel_rfl) (fun _ A1 W1 inv hall => ⟨wanted_some (g := 35) (d := 89) (b := true) rfl (by kernel_rfl) (inv.get hall 35 89 (by kernel_rfl) (by kernel_rfl)), ?_, rfl⟩)
      have h91 : A1.eval (.tmp 91) = .bool false := inv.get hall 37 91 (by kernel_rfl) (by kernel_rfl)
      simp only [execOp, h91]
      simp [go_sem]
    · refine ostep_val (.bool true) (by kernel_rfl) (fun _ A1 W1 inv hall => ⟨wanted_none rfl, ?_, rfl⟩)
      have h89 : A1.eval (.tmp 89) = .bool true := inv.get hall 35 89 (by kernel_rfl) (by kernel_rfl)
      have h92 : A1.eval (.tmp 92) = .bool true := inv.get hall 38 92 (by kernel_rfl) (by kernel_rfl)
      simp only [execOp, h89, h92]
      simp [asBool]
    · refine ostep_val (.bool true) (by kernel_rfl) (fun _ A1 W1 inv hall => ⟨wanted_none rfl, ?_, rfl⟩)
      have h93 : A1.eval (.tmp 93) = .bool true := inv.get hall 39 93 (by kernel_rfl) (by kernel_rfl)
      simp only [execOp, h93, Sem.run_pure]
    · refine ostep_val (.int .u64 4294967296) (by kernel_rfl) (fun _ A1 W1 inv hall => ⟨wanted_some (g := 40) (d := 94) (b := true) rfl (by kernel_rfl) (inv.get hall 40 94 (by kernel_rfl) (by kernel_rfl)), ?_, rfl⟩)
      have h15 : A1.eval (.tmp 15) = .int .u64 4294967296 := (inv.base 15 (by kernel_rfl)).trans rfl
      simp only [execOp, h15, Sem.run_pure]
    · refine ostep_val (.bool true) (by kernel_rfl) (fun _ A1 W1 inv hall => ⟨wanted_some (g := 40) (d := 94) (b := true) rfl (by kernel_rfl) (inv.get hall 40 94 (by kernel_rfl) (by kernel_rfl)), ?_, rfl⟩)
      have h95 : A1.eval (.tmp 95) = .int .u64 4294967296 := inv.get hall 41 95 (by kernel_rfl) (by kernel_rfl)
      simp only [execOp, h95]
      simp [eqGuard, go_sem]
    · refine ostep_val (.bool true) (by kernel_rfl) (fun _ A1 W1 inv hall => ⟨wanted_none rfl, ?_, rfl⟩)
      have h94 : A1.eval (.tmp 94) = .bool true := inv.get hall 40 94 (by kernel_rfl) (by kernel_rfl)
      have h96 : A1.eval (.tmp 96) = .bool true := inv.get hall 42 96 (by kernel_rfl) (by kernel_rfl)
      simp only [execOp, h94, h96]
      simp [asBool]
    · refine ostep_val (.bool true) (by kernel_rfl) (fun _ A1 W1 inv hall => ⟨wanted_none rfl, ?_, rfl⟩)
      have h97 : A1.eval (.tmp 97) = .bool true := inv.get hall 43 97 (by kernel_rfl) (by kernel_rfl)
      simp only [execOp, h97, Sem.run_pure]
    · refine ostep_val (.bool true) (by kernel_rfl) (fun _ A1 W1 inv hall => ⟨wanted_some (g := 44) (d := 98) (b := true) rfl (by kernel_rfl) (inv.get hall 44 98 (by kernel_rfl) (by kernel_rfl)), ?_, rfl⟩)
      have h16 : A1.eval (.tmp 16) = .bool true := (inv.base 16 (by kernel_rfl)).trans rfl
      simp only [execOp, h16, Sem.run_pure]
    · refine ostep_val (.bool true) (by kernel_rfl) (fun _ A1 W1 inv hall => ⟨wanted_none rfl, ?_, rfl⟩)
      have h98 : A1.eval (.tmp 98) = .bool true := inv.get hall 44 98 (by kernel_rfl) (by kernel_rfl)
      have h99 : A1.eval (.tmp 99) = .bool true := inv.get hall 45 99 (by kernel_rfl) (by kernel_rfl)
      simp only [execOp, h98, h99]
      simp [asBool]
    · refine ostep_val (.bool true) (by kernel_rfl) (fun _ A1 W1 inv hall => ⟨wanted_none rfl, ?_, rfl⟩)
      have h100 : A1.eval (.tmp 100) = .bool true := inv.get hall 46 100 (by kernel_rfl) (by kernel_rfl)
      simp only [execOp, h100, Sem.run_pure]
    · refine ostep_val (.agg #[.int .i64 3, .int .u64 4294967296, .int .u64 4294967296, .int .u8 79]) (by kernel_rfl) (fun _ A1 W1 inv hall => ⟨wanted_some (g := 47) (d := 101) (b := true) rfl (by kernel_rfl) (inv.get hall 47 101 (by kernel_rfl) (by kernel_rfl)), ?_, rfl⟩)
      have h13 : A1.eval (.tmp 13) = .pointer (some ⟨w7.heap.size, 0, none⟩) := (inv.base 13 (by kernel_rfl)).trans rfl
      simp only [execOp, h13, Sem.run_bind, loadDev (Xk.out.below inv.s), Result.andThen_ok, Sem.run_pure]
    · refine ostep_call 13 (by kernel_rfl) _ _ (by kernel_rfl) rfl (fun _ A1 W1 inv hall => ⟨wanted_some (g := 47) (d := 101) (b := true) rfl (by kernel_rfl) (inv.get hall 47 101 (by kernel_rfl) (by kernel_rfl)), #[.agg #[.int .i64 3, .int .u64 4294967296, .int .u64 4294967296, .int .u8 79], .int .u8 0], ?_, ?_⟩)
      · have h102 : A1.eval (.tmp 102) = .agg #[.int .i64 3, .int .u64 4294967296, .int .u64 4294967296, .int .u8 79] := inv.get hall 48 102 (by kernel_rfl) (by kernel_rfl)
        simp [h102, eval_cst]
      · refine (C10.out _).mono ?_
        rintro e u ⟨rfl, hb⟩
        exact ⟨_, rfl, rfl, hb⟩
    · refine ostep_val (.int .u8 0) (by kernel_rfl) (fun _ A1 W1 inv hall => ⟨wanted_some (g := 47) (d := 101) (b := true) rfl (by kernel_rfl) (inv.get hall 47 101 (by kernel_rfl) (by kernel_rfl)), ?_, rfl⟩)
      have h103 : A1.eval (.tmp 103) = .agg #[.int .i64 3, .int .u64 4294967296, .int .u64 0, .int .u8 0] := inv.get hall 49 103 (by kernel_rfl) (by kernel_rfl)
      simp only [execOp, h103, Sem.run_bind, field_s, Result.andThen_ok, Sem.run_pure]
    · refine ostep_val (.bool true) (by kernel_rfl) (fun _ A1 W1 inv hall => ⟨wanted_some (g := 47) (d := 101) (b := true) rfl (by kernel_rfl) (inv.get hall 47 101 (by kernel_rfl) (by kernel_rfl)), ?_, rfl⟩)
      have h104 : A1.eval (.tmp 104) = .int .u8 0 := inv.get hall 50 104 (by kernel_rfl) (by kernel_rfl)
      simp only [execOp, h104]
      simp [eqGuard, go_sem]
    · refine ostep_val (.bool true) (by kernel_rfl) (fun _ A1 W1 inv hall => ⟨wanted_none rfl, ?_, rfl⟩)
      have h101 : A1.eval (.tmp 101) = .bool true := inv.get hall 47 101 (by kernel_rfl) (by kernel_rfl)
      have h105 : A1.eval (.tmp 105) = .bool true := inv.get hall 51 105 (by kernel_rfl) (by kernel_rfl)
      simp only [execOp, h101, h105]
      simp [asBool]
    · refine ostep_val (.bool true) (by kernel_rfl) (fun _ A1 W1 inv hall => ⟨wanted_none rfl, ?_, rfl⟩)
      have h106 : A1.eval (.tmp 106) = .bool true := inv.get hall 52 106 (by kernel_rfl) (by kernel_rfl)
      simp only [execOp, h106, Sem.run_pure]
    · refine ostep_val (.agg #[.int .i64 3, .int .u64 4294967296, .int .u64 0, .int .u8 0]) (by kernel_rfl) (fun _ A1 W1 inv hall => ⟨wanted_some (g := 53) (d := 107) (b := true) rfl (by kernel_rfl) (inv.get hall 53 107 (by kernel_rfl) (by kernel_rfl)), ?_, rfl⟩)
      have h5 : A1.eval (.tmp 5) = .pointer (some ⟨w3.heap.size, 0, none⟩) := (inv.base 5 (by kernel_rfl)).trans rfl
      simp only [execOp, h5, Sem.run_bind, loadDev (Xd.out.below inv.s), Result.andThen_ok, Sem.run_pure]
    · refine ostep_call 14 (by kernel_rfl) _ _ (by kernel_rfl) rfl (fun _ A1 W1 inv hall => ⟨wanted_some (g := 53) (d := 107) (b := true) rfl (by kernel_rfl) (inv.get hall 53 107 (by kernel_rfl) (by kernel_rfl)), #[.agg #[.int .i64 3, .int .u64 4294967296, .int .u64 0, .int .u8 0], .int .u64 4294967296], ?_, ?_⟩)
      · have h108 : A1.eval (.tmp 108) = .agg #[.int .i64 3, .int .u64 4294967296, .int .u64 0, .int .u8 0] := inv.get hall 54 108 (by kernel_rfl) (by kernel_rfl)
        simp [h108, eval_cst]
      · refine (C11.out _).mono ?_
        rintro e u ⟨rfl, hb⟩
        exact ⟨_, rfl, rfl, hb⟩
    · refine ostep_val (.agg #[.int .i64 3, .int .u64 4294967296, .int .u64 0, .int .u8 0]) (by kernel_rfl) (fun _ A1 W1 inv hall => ⟨wanted_some (g := 53) (d := 107) (b := true) rfl (by kernel_rfl) (inv.get hall 53 107 (by kernel_rfl) (by kernel_rfl)), ?_, rfl⟩)
      have h5 : A1.eval (.tmp 5) = .pointer (some ⟨w3.heap.size, 0, none⟩) := (inv.base 5 (by kernel_rfl)).trans rfl
      simp only [execOp, h5, Sem.run_bind, loadDev (Xd.out.below inv.s), Result.andThen_ok, Sem.run_pure]
    · refine ostep_val (.bool true) (by kernel_rfl) (fun _ A1 W1 inv hall => ⟨wanted_some (g := 53) (d := 107) (b := true) rfl (by kernel_rfl) (inv.get hall 53 107 (by kernel_rfl) (by kernel_rfl)), ?_, rfl⟩)
      have h109 : A1.eval (.tmp 109) = .agg #[.int .i64 3, .int .u64 4294967296, .int .u64 0, .int .u8 0] := inv.get hall 55 109 (by kernel_rfl) (by kernel_rfl)
      have h110 : A1.eval (.tmp 110) = .agg #[.int .i64 3, .int .u64 4294967296, .int .u64 0, .int .u8 0] := inv.get hall 56 110 (by kernel_rfl) (by kernel_rfl)
      simp only [execOp, h109, h110, Sem.run_bind, run_eqGuard_agg W1 .eql _ _ _ _ _ guardDev, eq_dev, Result.andThen_ok, Sem.run_pure]
    · refine ostep_val (.bool true) (by kernel_rfl) (fun _ A1 W1 inv hall => ⟨wanted_none rfl, ?_, rfl⟩)
      have h107 : A1.eval (.tmp 107) = .bool true := inv.get hall 53 107 (by kernel_rfl) (by kernel_rfl)
      have h111 : A1.eval (.tmp 111) = .bool true := inv.get hall 57 111 (by kernel_rfl) (by kernel_rfl)
      simp only [execOp, h107, h111]
      simp [asBool]
    · refine ostep_val (.bool true) (by kernel_rfl) (fun _ A1 W1 inv hall => ⟨wanted_none rfl, ?_, rfl⟩)
      have h112 : A1.eval (.tmp 112) = .bool true := inv.get hall 58 112 (by kernel_rfl) (by kernel_rfl)
      simp only [execOp, h112, Sem.run_pure]
    · refine ostep_val (.agg #[.int .i64 3, .int .u64 4294967296, .int .u64 0, .int .u8 0]) (by kernel_rfl) (fun _ A1 W1 inv hall => ⟨wanted_some (g := 59) (d := 113) (b := true) rfl (by kernel_rfl) (inv.get hall 59 113 (by kernel_rfl) (by kernel_rfl)), ?_, rfl⟩)
      have h5 : A1.eval (.tmp 5) = .pointer (some ⟨w3.heap.size, 0, none⟩) := (inv.base 5 (by kernel_rfl)).trans rfl
      simp only [execOp, h5, Sem.run_bind, loadDev (Xd.out.below inv.s), Result.andThen_ok, Sem.run_pure]
    · refine ostep_call 13 (by kernel_rfl) _ _ (by kernel_rfl) rfl (fun _ A1 W1 inv hall => ⟨wanted_some (g := 59) (d := 113) (b := true) rfl (by kernel_rfl) (inv.get hall 59 113 (by kernel_rfl) (by kernel_rfl)), #[.agg #[.int .i64 3, .int .u64 4294967296, .int .u64 0, .int .u8 0], .int .u8 128], ?_, ?_⟩)
      · have h114 : A1.eval (.tmp 114) = .agg #[.int .i64 3, .int .u64 4294967296, .int .u64 0, .int .u8 0] := inv.get hall 60 114 (by kernel_rfl) (by kernel_rfl)
        simp [h114, eval_cst]
      · refine (C12.out _).mono ?_
        rintro e u ⟨rfl, hb⟩
        exact ⟨_, rfl, rfl, hb⟩
    · refine ostep_val (.int .u8 128) (by kernel_rfl) (fun _ A1 W1 inv hall => ⟨wanted_some (g := 59) (d := 113) (b := true) rfl (by kernel_rfl) (inv.get hall 59 113 (by kernel_rfl) (by kernel_rfl)), ?_, rfl⟩)
      have h115 : A1.eval (.tmp 115) = .agg #[.int .i64 3, .int .u64 4294967296, .int .u64 0, .int .u8 128] := inv.get hall 61 115 (by kernel_rfl) (by kernel_rfl)
      simp only [execOp, h115, Sem.run_bind, field_s, Result.andThen_ok, Sem.run_pure]
    · refine ostep_val (.bool true) (by kernel_rfl) (fun _ A1 W1 inv hall => ⟨wanted_some (g := 59) (d := 113) (b := true) rfl (by kernel_rfl) (inv.get hall 59 113 (by kernel_rfl) (by kernel_rfl)), ?_, rfl⟩)
      have h116 : A1.eval (.tmp 116) = .int .u8 128 := inv.get hall 62 116 (by kernel_rfl) (by kernel_rfl)
      simp only [execOp, h116]
      simp [eqGuard, go_sem]
    · refine ostep_val (.bool true) (by kernel_rfl) (fun _ A1 W1 inv hall => ⟨wanted_none rfl, ?_, rfl⟩)
      have h113 : A1.eval (.tmp 113) = .bool true := inv.get hall 59 113 (by kernel_rfl) (by kernel_rfl)
      have h117 : A1.eval (.tmp 117) = .bool true := inv.get hall 63 117 (by kernel_rfl) (by kernel_rfl)
      simp only [execOp, h113, h117]
      simp [asBool]
    · refine ostep_val (.bool true) (by kernel_rfl) (fun _ A1 W1 inv hall => ⟨wanted_none rfl, ?_, rfl⟩)
      have h118 : A1.eval (.tmp 118) = .bool true := inv.get hall 64 118 (by kernel_rfl) (by kernel_rfl)
      simp only [execOp, h118, Sem.run_pure]
    · refine ostep_val (.agg #[.int .i64 2, .int .u64 4294967296, .int .u64 0, .int .u8 2]) (by kernel_rfl) (fun _ A1 W1 inv hall => ⟨wanted_some (g := 65) (d := 119) (b := true) rfl (by kernel_rfl) (inv.get hall 65 119 (by kernel_rfl) (by kernel_rfl)), ?_, rfl⟩)
      simp [execOp, go_sem]
    · refine ostep_call 15 (by kernel_rfl) _ _ (by kernel_rfl) rfl (fun _ A1 W1 inv hall => ⟨wanted_some (g := 65) (d := 119) (b := true) rfl (by kernel_rfl) (inv.get hall 65 119 (by kernel_rfl) (by kernel_rfl)), #[.agg #[.int .i64 2, .int .u64 4294967296, .int .u64 0, .int .u8 2]], ?_, ?_⟩)
      · have h120 : A1.eval (.tmp 120) = .agg #[.int .i64 2, .int .u64 4294967296, .int .u64 0, .int .u8 2] := inv.get hall 66 120 (by kernel_rfl) (by kernel_rfl)
        simp [h120]
      · refine (C13.out _).mono ?_
        rintro e u ⟨rfl, hb⟩
        exact ⟨_, rfl, rfl, hb⟩
    · refine ostep_val (.bool true) (by kernel_rfl) (fun _ A1 W1 inv hall => ⟨wanted_some (g := 65) (d := 119) (b := true) rfl (by kernel_rfl) (inv.get hall 65 119 (by kernel_rfl) (by kernel_rfl)), ?_, rfl⟩)
      have h121 : A1.eval (.tmp 121) = .int .i64 2 := inv.get hall 67 121 (by kernel_rfl) (by kernel_rfl)
      simp only [execOp, h121]
      simp [eqGuard, go_sem]
    · refine ostep_val (.bool true) (by kernel_rfl) (fun _ A1 W1 inv hall => ⟨wanted_none rfl, ?_, rfl⟩)
      have h119 : A1.eval (.tmp 119) = .bool true := inv.get hall 65 119 (by kernel_rfl) (by kernel_rfl)
      have h122 : A1.eval (.tmp 122) = .bool true := inv.get hall 68 122 (by kernel_rfl) (by kernel_rfl)
      simp only [execOp, h119, h122]
      simp [asBool]
    · refine ostep_val (.bool true) (by kernel_rfl) (fun _ A1 W1 inv hall => ⟨wanted_none rfl, ?_, rfl⟩)
      have h123 : A1.eval (.tmp 123) = .bool true := inv.get hall 69 123 (by kernel_rfl) (by kernel_rfl)
      simp only [execOp, h123, Sem.run_pure]
  · intro listed A1 W1 inv hall
    have hlast : A1.eval (.tmp 0) = .bool true := inv.fin 70 0 (by kernel_rfl) (hall 70 (Nat.lt_of_lt_of_eq (by decide : 70 < 71) (by kernel_rfl)))
    refine (by assumption : ∀ (a : Act) (w : World), Code.wp Try.prog Code.ret _ a w → _) A1 W1 ?_
    go_wp2_with fail
    simp only [Act.eval, Array.getD_eq_getD_getElem?] at hlast
    exact bodyPost_ret (v := .bool true) (by simp [results, Try.results3, go_sem, hlast]) inv.dfr ⟨rfl, below_then B.out inv.s⟩

/-! ### the row's frame -/
theorem own : ownKnob Try.prog.godebug = none := by kernel_rfl
theorem laidOut : laidOutB Try.prog = true := by kernel_rfl

set_option maxRecDepth 100000 in
theorem lifted (os : Os) (started : os.Started) (H : Type) (enc : TypeId × Value → H) :
    ReturnsInHanded {} Try.checked os 3 .any (Rows.statusNamesSpec.pre6 enc Try.prog Try.f3 Rows.statusNamesRow.domain false) (Rows.statusNamesSpec.post enc Try.prog Try.f3 false true false false) := by
  refine returnsInHanded_of_change (C := Try.checked) own started (by kernel_rfl) Try.func3
    (ChangeSpec.witness6 (enc := enc) (C := Try.checked) false ⟨#[], #[], []⟩ 8 (by kernel_rfl) (by kernel_rfl) (by kernel_rfl) (by kernel_rfl)) ?_
  intro W base args ds gs before hval0 hW hcnd _
  have hval : ∀ (j : Nat) t v, Try.f3.params[j]? = some t → args[j]? = some v → Value.okWide Try.prog W .any base t v := hval0
  have hW' := hW
  obtain ⟨p, q, hA0, hV, rfl, hfz, hnd⟩ := hW
  have hA : DataW.TrodAll enc Try.prog W 0 (fun _ => true) true Try.f3.params.toList args.toList ds p := hA0
  rw [Try.params3] at hA hval
  obtain ⟨hargs, rfl, rfl⟩ := trodAll_nil hA
  obtain rfl : args = #[] := by cases args; simp_all
  obtain ⟨rfl, rfl⟩ := trodVars_none hV
  clear hA0 hval0
  refine (walk W).mono fun e W' ⟨he, bel⟩ => ?_
  subst he
  exact ⟨_, rfl, _, _, _, [], _, [], hW', trodAll_mk1 (shut_bool Try.underlying4 _), trodAll_mk0, rfl, bel.frame _, fun h => by cases h⟩

theorem over : Rows.statusNamesRow.holds Try.pinned (OpenSpec.ofChange Rows.statusNamesSpec) :=
  OpenClaim.holds_of_wide 3 Try.f3 rfl rfl rfl rfl rfl rfl rfl ⟨rfl, rfl, rfl, rfl, rfl⟩ rfl rfl rfl rfl rfl (by kernel_rfl) Try.func3 (by kernel_rfl)
    (of_decide_eq_true (by kernel_rfl)) (by unfold Func.isWrapper; first | (rw [if_pos (by decide +kernel)]; kernel_rfl) | (rw [if_neg (by decide +kernel)]; exact ⟨rfl, rfl⟩))
    (fun os started H enc _ => lifted os started H enc)

/-- THE STATEMENT -/
theorem statusNames_holds : Rows.StatusNamesSaid := over
#print axioms statusNames_holds
end Go.Proofs.Ytfiogaollejdbaa.statusNames
