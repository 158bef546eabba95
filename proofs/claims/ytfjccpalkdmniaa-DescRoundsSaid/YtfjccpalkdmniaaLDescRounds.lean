/-
  PROVED: dumbwaiterlaw03.DescRounds returns true for any flags and either wrap counter, and what was in memory stays as it was. Conditions: none.
-/
import Derived.Test.YtfjccpalkdmniaaRows
import Derived.Test.YtfjccpalkdmniaaDsc6
import Derived.WalkKit
import Derived.ProofKit
import Derived.OpenShut
import Derived.ShutString
import Derived.ChangeOld
import Derived.Below
import Derived.Carry
import Derived.Lib.SmallJoins
namespace Go.Proofs.Ytfjccpalkdmniaa.descRounds
open Go.ChangeShapes Go.WideShapes Go.ChangeAt Go.RowKit
set_option linter.unusedVariables false


set_option maxRecDepth 100000 in
set_option maxHeartbeats 2000000 in
theorem walk_A (n : Nat) (b : Bool) (hn : n < 65536) (w : World) (x1 : decide (ownN n = mkN b false) = true) (x2 : decide (ownN n = mkN b true) = false) (x3 : decide (ownN n = mkN (!b) true) = false) (x4 : decide (ownN n = mkN (!b) false) = false) :
    Calls Try.prog 7 #[.int .u16 n, .bool b] w fun e w' => e = .returned (.bool true) ∧ Below w.heap.size w w' := by
  have HM := hid_mk (fun (c d : Bool) (u : World) => Mark_any n c d u hn)
  have HA := hid_mk (fun (c : Bool) (x : Bool) (h : decide (ownN n = mkN c false) = x) (u : World) => h ▸ Avail_any n c u hn)
  have HU := hid_mk (fun (c : Bool) (x : Bool) (h : decide (ownN n = mkN c true) = x) (u : World) => h ▸ Used_any n c u hn)
  have HAM := hid_mk (fun (c d e : Bool) (x : Bool) (h : decide (mkN d e = mkN c false) = x) (u : World) => by
    have q := Avail_any (markN n d e) c u (markN_lt n d e)
    rw [own_mark, h] at q
    exact q)
  have HUM := hid_mk (fun (c d e : Bool) (x : Bool) (h : decide (mkN d e = mkN c true) = x) (u : World) => by
    have q := Used_any (markN n d e) c u (markN_lt n d e)
    rw [own_mark, h] at q
    exact q)
  have HMM := hid_mk (fun (c d e f : Bool) (u : World) => by
    have q := Mark_any (markN n c d) e f u (markN_lt n c d)
    rw [mark_mark] at q
    exact q)
  have r0 : bits .and .u16 (n : Int) 32639 = ((n &&& 32639 : Nat) : Int) := u16_and_nat n 32639 hn (by omega)
  have r1 : bits .and .u16 ((markN n b false : Nat) : Int) 32639 = ((n &&& 32639 : Nat) : Int) := by
    rw [← rest_mark n b false]
    exact u16_and_nat _ 32639 (markN_lt n b false) (by omega)
  have r2 : bits .and .u16 ((markN n b true : Nat) : Int) 32639 = ((n &&& 32639 : Nat) : Int) := by
    rw [← rest_mark n b true]
    exact u16_and_nat _ 32639 (markN_lt n b true) (by omega)
  have X1 := hid_mk x1
  clear x1
  have X2 := hid_mk x2
  clear x2
  have X3 := hid_mk x3
  clear x3
  have X4 := hid_mk x4
  clear x4
  clear hn
  go_enter Try.func7, Try.ntmps7
  go_wp2_with fail
  refine (lives3_any _).mono ?_
  rintro e w1 ⟨rfl, hb⟩
  have HB := hid_mk hb
  clear hb
  go_wp2_with fail
  refine (HM.out b false _).mono ?_
  rintro e w2 ⟨rfl, rfl⟩
  go_wp2_with fail
  refine (HM.out b true _).mono ?_
  rintro e w2 ⟨rfl, rfl⟩
  go_wp2_with fail
  refine (HA.out b true X1.out _).mono ?_
  rintro e w2 ⟨rfl, rfl⟩
  go_wp2_with fail
  refine (HU.out b false X2.out _).mono ?_
  rintro e w2 ⟨rfl, rfl⟩
  go_wp2_with fail
  refine (HU.out (!b) false X3.out _).mono ?_
  rintro e w2 ⟨rfl, rfl⟩
  go_wp2_with fail
  refine (HA.out (!b) false X4.out _).mono ?_
  rintro e w2 ⟨rfl, rfl⟩
  go_wp2_with fail
  refine (HU.out b false X2.out _).mono ?_
  rintro e w2 ⟨rfl, rfl⟩
  go_wp2_with fail
  refine (HAM.out b b false true (by cases b <;> decide) _).mono ?_
  rintro e w2 ⟨rfl, rfl⟩
  go_wp2_with fail
  refine (HUM.out b b false false (by cases b <;> decide) _).mono ?_
  rintro e w2 ⟨rfl, rfl⟩
  go_wp2_with fail
  refine (HAM.out (!b) b false false (by cases b <;> decide) _).mono ?_
  rintro e w2 ⟨rfl, rfl⟩
  go_wp2_with fail
  refine (HUM.out (!b) b false false (by cases b <;> decide) _).mono ?_
  rintro e w2 ⟨rfl, rfl⟩
  go_wp2_with fail
  refine (HUM.out b b true true (by cases b <;> decide) _).mono ?_
  rintro e w2 ⟨rfl, rfl⟩
  go_wp2_with fail
  refine (HAM.out b b true false (by cases b <;> decide) _).mono ?_
  rintro e w2 ⟨rfl, rfl⟩
  go_wp2_with fail
  refine (HAM.out (!b) b true false (by cases b <;> decide) _).mono ?_
  rintro e w2 ⟨rfl, rfl⟩
  go_wp2_with fail
  refine (HUM.out (!b) b true false (by cases b <;> decide) _).mono ?_
  rintro e w2 ⟨rfl, rfl⟩
  go_wp2_with fail
  refine (HMM.out b false b true _).mono ?_
  rintro e w2 ⟨rfl, rfl⟩
  go_wp2_with fail
  refine (HMM.out b true b false _).mono ?_
  rintro e w2 ⟨rfl, rfl⟩
  go_wp2_with fail
  go_ret
  exact ⟨rfl, HB.out⟩

set_option maxRecDepth 100000 in
set_option maxHeartbeats 2000000 in
theorem walk_U (n : Nat) (b : Bool) (hn : n < 65536) (w : World) (x1 : decide (ownN n = mkN b false) = false) (x2 : decide (ownN n = mkN b true) = true) (x3 : decide (ownN n = mkN (!b) true) = false) (x4 : decide (ownN n = mkN (!b) false) = false) :
    Calls Try.prog 7 #[.int .u16 n, .bool b] w fun e w' => e = .returned (.bool true) ∧ Below w.heap.size w w' := by
  have HM := hid_mk (fun (c d : Bool) (u : World) => Mark_any n c d u hn)
  have HA := hid_mk (fun (c : Bool) (x : Bool) (h : decide (ownN n = mkN c false) = x) (u : World) => h ▸ Avail_any n c u hn)
  have HU := hid_mk (fun (c : Bool) (x : Bool) (h : decide (ownN n = mkN c true) = x) (u : World) => h ▸ Used_any n c u hn)
  have HAM := hid_mk (fun (c d e : Bool) (x : Bool) (h : decide (mkN d e = mkN c false) = x) (u : World) => by
    have q := Avail_any (markN n d e) c u (markN_lt n d e)
    rw [own_mark, h] at q
    exact q)
  have HUM := hid_mk (fun (c d e : Bool) (x : Bool) (h : decide (mkN d e = mkN c true) = x) (u : World) => by
    have q := Used_any (markN n d e) c u (markN_lt n d e)
    rw [own_mark, h] at q
    exact q)
  have HMM := hid_mk (fun (c d e f : Bool) (u : World) => by
    have q := Mark_any (markN n c d) e f u (markN_lt n c d)
    rw [mark_mark] at q
    exact q)
  have r0 : bits .and .u16 (n : Int) 32639 = ((n &&& 32639 : Nat) : Int) := u16_and_nat n 32639 hn (by omega)
  have r1 : bits .and .u16 ((markN n b false : Nat) : Int) 32639 = ((n &&& 32639 : Nat) : Int) := by
    rw [← rest_mark n b false]
    exact u16_and_nat _ 32639 (markN_lt n b false) (by omega)
  have r2 : bits .and .u16 ((markN n b true : Nat) : Int) 32639 = ((n &&& 32639 : Nat) : Int) := by
    rw [← rest_mark n b true]
    exact u16_and_nat _ 32639 (markN_lt n b true) (by omega)
  have X1 := hid_mk x1
  clear x1
  have X2 := hid_mk x2
  clear x2
  have X3 := hid_mk x3
  clear x3
  have X4 := hid_mk x4
  clear x4
  clear hn
  go_enter Try.func7, Try.ntmps7
  go_wp2_with fail
  refine (lives3_any _).mono ?_
  rintro e w1 ⟨rfl, hb⟩
  have HB := hid_mk hb
  clear hb
  go_wp2_with fail
  refine (HM.out b false _).mono ?_
  rintro e w2 ⟨rfl, rfl⟩
  go_wp2_with fail
  refine (HM.out b true _).mono ?_
  rintro e w2 ⟨rfl, rfl⟩
  go_wp2_with fail
  refine (HA.out b false X1.out _).mono ?_
  rintro e w2 ⟨rfl, rfl⟩
  go_wp2_with fail
  refine (HU.out b true X2.out _).mono ?_
  rintro e w2 ⟨rfl, rfl⟩
  go_wp2_with fail
  refine (HU.out (!b) false X3.out _).mono ?_
  rintro e w2 ⟨rfl, rfl⟩
  go_wp2_with fail
  refine (HAM.out b b false true (by cases b <;> decide) _).mono ?_
  rintro e w2 ⟨rfl, rfl⟩
  go_wp2_with fail
  refine (HUM.out b b false false (by cases b <;> decide) _).mono ?_
  rintro e w2 ⟨rfl, rfl⟩
  go_wp2_with fail
  refine (HAM.out (!b) b false false (by cases b <;> decide) _).mono ?_
  rintro e w2 ⟨rfl, rfl⟩
  go_wp2_with fail
  refine (HUM.out (!b) b false false (by cases b <;> decide) _).mono ?_
  rintro e w2 ⟨rfl, rfl⟩
  go_wp2_with fail
  refine (HUM.out b b true true (by cases b <;> decide) _).mono ?_
  rintro e w2 ⟨rfl, rfl⟩
  go_wp2_with fail
  refine (HAM.out b b true false (by cases b <;> decide) _).mono ?_
  rintro e w2 ⟨rfl, rfl⟩
  go_wp2_with fail
  refine (HAM.out (!b) b true false (by cases b <;> decide) _).mono ?_
  rintro e w2 ⟨rfl, rfl⟩
  go_wp2_with fail
  refine (HUM.out (!b) b true false (by cases b <;> decide) _).mono ?_
  rintro e w2 ⟨rfl, rfl⟩
  go_wp2_with fail
  refine (HMM.out b false b true _).mono ?_
  rintro e w2 ⟨rfl, rfl⟩
  go_wp2_with fail
  refine (HMM.out b true b false _).mono ?_
  rintro e w2 ⟨rfl, rfl⟩
  go_wp2_with fail
  go_ret
  exact ⟨rfl, HB.out⟩

set_option maxRecDepth 100000 in
set_option maxHeartbeats 2000000 in
theorem walk_N (n : Nat) (b : Bool) (hn : n < 65536) (w : World) (x1 : decide (ownN n = mkN b false) = false) (x2 : decide (ownN n = mkN b true) = false) :
    Calls Try.prog 7 #[.int .u16 n, .bool b] w fun e w' => e = .returned (.bool true) ∧ Below w.heap.size w w' := by
  have HM := hid_mk (fun (c d : Bool) (u : World) => Mark_any n c d u hn)
  have HA := hid_mk (fun (c : Bool) (x : Bool) (h : decide (ownN n = mkN c false) = x) (u : World) => h ▸ Avail_any n c u hn)
  have HU := hid_mk (fun (c : Bool) (x : Bool) (h : decide (ownN n = mkN c true) = x) (u : World) => h ▸ Used_any n c u hn)
  have HAM := hid_mk (fun (c d e : Bool) (x : Bool) (h : decide (mkN d e = mkN c false) = x) (u : World) => by
    have q := Avail_any (markN n d e) c u (markN_lt n d e)
    rw [own_mark, h] at q
    exact q)
  have HUM := hid_mk (fun (c d e : Bool) (x : Bool) (h : decide (mkN d e = mkN c true) = x) (u : World) => by
    have q := Used_any (markN n d e) c u (markN_lt n d e)
    rw [own_mark, h] at q
    exact q)
  have HMM := hid_mk (fun (c d e f : Bool) (u : World) => by
    have q := Mark_any (markN n c d) e f u (markN_lt n c d)
    rw [mark_mark] at q
    exact q)
  have r0 : bits .and .u16 (n : Int) 32639 = ((n &&& 32639 : Nat) : Int) := u16_and_nat n 32639 hn (by omega)
  have r1 : bits .and .u16 ((markN n b false : Nat) : Int) 32639 = ((n &&& 32639 : Nat) : Int) := by
    rw [← rest_mark n b false]
    exact u16_and_nat _ 32639 (markN_lt n b false) (by omega)
  have r2 : bits .and .u16 ((markN n b true : Nat) : Int) 32639 = ((n &&& 32639 : Nat) : Int) := by
    rw [← rest_mark n b true]
    exact u16_and_nat _ 32639 (markN_lt n b true) (by omega)
  have X1 := hid_mk x1
  clear x1
  have X2 := hid_mk x2
  clear x2
  clear hn
  go_enter Try.func7, Try.ntmps7
  go_wp2_with fail
  refine (lives3_any _).mono ?_
  rintro e w1 ⟨rfl, hb⟩
  have HB := hid_mk hb
  clear hb
  go_wp2_with fail
  refine (HM.out b false _).mono ?_
  rintro e w2 ⟨rfl, rfl⟩
  go_wp2_with fail
  refine (HM.out b true _).mono ?_
  rintro e w2 ⟨rfl, rfl⟩
  go_wp2_with fail
  refine (HA.out b false X1.out _).mono ?_
  rintro e w2 ⟨rfl, rfl⟩
  go_wp2_with fail
  refine (HU.out b false X2.out _).mono ?_
  rintro e w2 ⟨rfl, rfl⟩
  go_wp2_with fail
  refine (HAM.out b b false true (by cases b <;> decide) _).mono ?_
  rintro e w2 ⟨rfl, rfl⟩
  go_wp2_with fail
  refine (HUM.out b b false false (by cases b <;> decide) _).mono ?_
  rintro e w2 ⟨rfl, rfl⟩
  go_wp2_with fail
  refine (HAM.out (!b) b false false (by cases b <;> decide) _).mono ?_
  rintro e w2 ⟨rfl, rfl⟩
  go_wp2_with fail
  refine (HUM.out (!b) b false false (by cases b <;> decide) _).mono ?_
  rintro e w2 ⟨rfl, rfl⟩
  go_wp2_with fail
  refine (HUM.out b b true true (by cases b <;> decide) _).mono ?_
  rintro e w2 ⟨rfl, rfl⟩
  go_wp2_with fail
  refine (HAM.out b b true false (by cases b <;> decide) _).mono ?_
  rintro e w2 ⟨rfl, rfl⟩
  go_wp2_with fail
  refine (HAM.out (!b) b true false (by cases b <;> decide) _).mono ?_
  rintro e w2 ⟨rfl, rfl⟩
  go_wp2_with fail
  refine (HUM.out (!b) b true false (by cases b <;> decide) _).mono ?_
  rintro e w2 ⟨rfl, rfl⟩
  go_wp2_with fail
  refine (HMM.out b false b true _).mono ?_
  rintro e w2 ⟨rfl, rfl⟩
  go_wp2_with fail
  refine (HMM.out b true b false _).mono ?_
  rintro e w2 ⟨rfl, rfl⟩
  go_wp2_with fail
  go_ret
  exact ⟨rfl, HB.out⟩

theorem walk (a : Int) (b : Bool) (w0 : (Lit.int .u16 a).wf = true) (w : World) :
    Calls Try.prog 7 #[.int .u16 a, .bool b] w fun e w' => e = .returned (.bool true) ∧ Below w.heap.size w w' := by
  have hb := bounds_u16 w0
  obtain ⟨n, rfl⟩ : ∃ n : Nat, a = n := ⟨a.toNat, by omega⟩
  have hn : n < 65536 := by omega
  by_cases h1 : ownN n = mkN b false
  · exact walk_A n b hn w (by simp [h1]) (by rw [h1]; cases b <;> decide) (by rw [h1]; cases b <;> decide) (by rw [h1]; cases b <;> decide)
  · by_cases h2 : ownN n = mkN b true
    · exact walk_U n b hn w (by simp [h1]) (by simp [h2]) (by rw [h2]; cases b <;> decide) (by rw [h2]; cases b <;> decide)
    · exact walk_N n b hn w (by simp [h1]) (by simp [h2])

/-! ### the row's frame -/
theorem own : ownKnob Try.prog.godebug = none := by kernel_rfl
theorem laidOut : laidOutB Try.prog = true := by kernel_rfl

set_option maxRecDepth 100000 in
theorem lifted (os : Os) (started : os.Started) (H : Type) (enc : TypeId × Value → H) :
    ReturnsInHanded {} Try.checked os 7 .any (Rows.descRoundsSpec.pre6 enc Try.prog Try.f7 Rows.descRoundsRow.domain false) (Rows.descRoundsSpec.post enc Try.prog Try.f7 false true false false) := by
  refine returnsInHanded_of_change (C := Try.checked) own started (by kernel_rfl) Try.func7
    (ChangeSpec.witness6 (enc := enc) (C := Try.checked) false ⟨#[], #[.int .u16 0, .bool false], []⟩ 8 (by kernel_rfl) (by kernel_rfl) (by kernel_rfl) (by kernel_rfl)) ?_
  intro W base args ds gs before hval0 hW hcnd _
  have hval : ∀ (j : Nat) t v, Try.f7.params[j]? = some t → args[j]? = some v → Value.okWide Try.prog W .any base t v := hval0
  have hW' := hW
  obtain ⟨p, q, hA0, hV, rfl, hfz, hnd⟩ := hW
  have hA : DataW.TrodAll enc Try.prog W 0 (fun _ => true) true Try.f7.params.toList args.toList ds p := hA0
  rw [Try.params7] at hA hval
  obtain ⟨v0, vs0, d0, ds0, p0, q0, hargs, rfl, rfl, h0, r0⟩ := trodAll_cons hA
  obtain ⟨v1, vs1, d1, ds1, p1, q1, rfl, rfl, rfl, h1, r1⟩ := trodAll_cons r0
  obtain ⟨rfl, rfl, rfl⟩ := trodAll_nil r1
  obtain rfl : args = #[v0, v1] := by cases args; simp_all
  obtain ⟨rfl, rfl⟩ := trodVars_none hV
  have k0 := h0
  have lt0 : ∀ x ∈ p0, x.block < W.heap.size := by
    obtain ⟨m, hm⟩ := k0
    exact DataW.trod_lt m _ _ _ hm
  have k1 := h1
  have lt1 : ∀ x ∈ p1, x.block < W.heap.size := by
    obtain ⟨m, hm⟩ := k1
    exact DataW.trod_lt m _ _ _ hm
  obtain ⟨a0, rfl, rfl, rfl, w0⟩ := open_int Try.underlying54 (hval 0 54 v0 rfl rfl) h0
  obtain ⟨a1, rfl, rfl, rfl⟩ := open_bool Try.underlying4 (hval 1 4 v1 rfl rfl) h1
  clear hA0 hval0
  refine (walk a0 a1 w0 W).mono fun e W' ⟨he, bel⟩ => ?_
  subst he
  exact ⟨_, rfl, _, _, _, [], _, [], hW', trodAll_mk1 (shut_bool Try.underlying4 _), (trodAll_cons_mk (Below.trod laidOut (by kernel_rfl) (of_decide_eq_true (by kernel_rfl)) k0 bel lt0) (trodAll_cons_mk (Below.trod laidOut (by kernel_rfl) (of_decide_eq_true (by kernel_rfl)) k1 bel lt1) trodAll_mk0)), rfl, bel.frame _, fun h => by cases h⟩

theorem over : Rows.descRoundsRow.holds Try.pinned (OpenSpec.ofChange Rows.descRoundsSpec) :=
  OpenClaim.holds_of_wide 7 Try.f7 rfl rfl rfl rfl rfl rfl rfl ⟨rfl, rfl, rfl, rfl, rfl⟩ rfl rfl rfl rfl rfl (by kernel_rfl) Try.func7 (by kernel_rfl)
    (of_decide_eq_true (by kernel_rfl)) (by unfold Func.isWrapper; first | (rw [if_pos (by decide +kernel)]; kernel_rfl) | (rw [if_neg (by decide +kernel)]; exact ⟨rfl, rfl⟩))
    (fun os started H enc _ => lifted os started H enc)

/-- THE STATEMENT -/
theorem descRounds_holds : Rows.DescRoundsSaid := over
#print axioms descRounds_holds
end Go.Proofs.Ytfjccpalkdmniaa.descRounds
