/- The reference's Total of layer 5. Conditions: as each theorem names them. -/
import Derived.Test.YteolnghnlfeakaaSg2
namespace Go.Proofs.Yteolnghnlfeakaa
open Go.ChangeShapes Go.WideShapes Go.ChangeAt Go.RowKit
set_option linter.unusedVariables false
set_option maxRecDepth 100000

theorem take_sat {L : List Sg} {k : Nat} (h : k < L.length) : L.take (k + 1) = L.take k ++ [sat L k] := by
  rw [List.take_succ_eq_append_getElem h]
  simp [sat, List.getD, h]
theorem totS_append (t : Bool) : ∀ a b : List Sg, totS t (a ++ b) = totS t a + totS t b
  | [], b => by simp [totS]
  | s :: a, b => by
    have := totS_append t a b
    simp only [List.cons_append, totS]
    omega
theorem totS_one (t : Bool) (s : Sg) : totS t [s] = if s.t = t then s.n else 0 := by
  simp [totS]
theorem totS_step {t : Bool} {L : List Sg} {k : Nat} (h : k < L.length) : totS t (L.take (k + 1)) = totS t (L.take k) + if (sat L k).t = t then (sat L k).n else 0 := by
  rw [take_sat h, totS_append, totS_one]
theorem isSgs_take {L : List Sg} (h : isSgs L) (k : Nat) : isSgs (L.take k) := fun s hs => h s (List.mem_of_mem_take hs)
theorem sumS_append : ∀ a b : List Sg, sumS (a ++ b) = sumS a + sumS b
  | [], b => by simp [sumS]
  | s :: a, b => by
    have := sumS_append a b
    simp only [List.cons_append, sumS]
    omega
theorem totS_le {L : List Sg} (h : isSgs L) (t : Bool) (k : Nat) : 0 ≤ totS t (L.take k) ∧ totS t (L.take k) ≤ sumS L := by
  have h1 := isSgs_take h k
  have h2 := isSgs_drop h k
  have e := sumS_append (L.take k) (L.drop k)
  rw [List.take_append_drop] at e
  have e2 := totS_sum (L.take k)
  have p1 := totS_nonneg true h1
  have p2 := totS_nonneg false h1
  have p3 := sumS_nonneg h2
  cases t <;> constructor <;> omega

set_option maxHeartbeats 4000000 in
theorem rsegtot (v : Value) (L : List Sg) (w : World) (hv : SegsAt w v L) (hu : isSgs L) :
    Calls Try.prog 20 #[v] w fun e w' => e = .returned (.tuple #[.int .u64 (totE false L), .int .u64 (totE true L)]) ∧ ∃ m, w' = w.drewN m := by
  have HCk := hid_mk (fun m => rsegchk v L (w.drewN m) (hv.below (below_drewN w m)) hu)
  rcases hv with ⟨⟨va, vc, rfl, _⟩, rfl⟩ | ⟨b, o, c, rfl, hb1, hb2, hb3⟩
  · have e1 : totE false [] = 0 := by
      unfold totE
      split <;> rfl
    have e2 : totE true [] = 0 := by
      unfold totE
      split <;> rfl
    rw [e1, e2]
    go_enter Try.func20, Try.ntmps20
    go_wp2
    go_loop [4, 5, 6] (fun a n i => a = .int .u64 0 ∧ n = .int .u64 0 ∧ i = .int .i64 0) (fun _ _ i => 0)
    case atStart => exact ⟨rfl, rfl, rfl⟩
    case round =>
      obtain ⟨rfl, rfl, rfl⟩ := hrel
      go_wp2
      go_ret2
      exact ⟨rfl, 0, rfl⟩
  · by_cases hE : segE L = 0
    · have e1 : ∀ t, totE t L = totS t L := fun t => by
        unfold totE
        rw [if_pos hE]
      rw [e1, e1]
      obtain ⟨o1, o2, o3⟩ := (segE_ok hu).1 hE
      rw [hE] at HCk
      have HC := hid_mk hb3
      have HU := hid_mk hu
      have HO3 := hid_mk o3
      have h64i : (L.length : Int) ≤ 64 := by omega
      clear hb3 hu e1 o2 o3 hE o1
      go_enter Try.func20, Try.ntmps20
      go_wp2
      go_loopw [4, 5, 6] (fun r n i wr => ∃ (k m : Nat), k ≤ L.length ∧ i = .int .i64 k ∧ r = .int .u64 (totS false (L.take k)) ∧ n = .int .u64 (totS true (L.take k)) ∧ wr = w.drewN m) (fun _ _ i _ => L.length - (intOf i).toNat)
      case atStart => exact ⟨0, 0, Nat.zero_le _, rfl, rfl, rfl, rfl⟩
      case round =>
        obtain ⟨k, m, hk, rfl, rfl, rfl, rfl⟩ := hrel
        by_cases hlt : k < L.length
        · obtain ⟨c0, c1, c2⟩ := HC.out k hlt
          have s1 := totS_step (t := false) hlt
          have s2 := totS_step (t := true) hlt
          have b1 := totS_le HU.out false k
          have b2 := totS_le HU.out true k
          have b3 := totS_le HU.out false (k + 1)
          have b4 := totS_le HU.out true (k + 1)
          obtain ⟨_, hy0, hy1⟩ := sat_is HU.out k
          have hO := HO3.out
          go_wp2_with fail
          refine (HCk.out m).mono ?_
          rintro e w' ⟨rfl, m2, rfl⟩
          generalize (sat L k).n = y at *
          have hyw : IntKind.u64.wrap y = y := by rw [IntKind.wrap_u64]; omega
          cases ht : (sat L k).t
          · rw [ht] at c2 s1 s2
            rw [if_pos rfl] at s1
            rw [if_neg (by decide), Int.add_zero] at s2
            have hw : IntKind.u64.wrap (totS false (L.take k) + y) = totS false (L.take (k + 1)) := by rw [IntKind.wrap_u64]; omega
            have HS2 := hid_mk s2
            clear s1 s2 b1 b2 b3 b4 hO ht
            go_wp2_with fail
            go_roundw
            case rel => exact ⟨k + 1, _, by omega, by go_num, rfl, by rw [HS2.out], rfl⟩
            case measure => simp [intOf]; omega
          · rw [ht] at c2 s1 s2
            rw [if_pos rfl] at s2
            rw [if_neg (by decide), Int.add_zero] at s1
            have hw : IntKind.u64.wrap (totS true (L.take k) + y) = totS true (L.take (k + 1)) := by rw [IntKind.wrap_u64]; omega
            have HS1 := hid_mk s1
            clear s1 s2 b1 b2 b3 b4 hO ht
            go_wp2_with fail
            go_roundw
            case rel => exact ⟨k + 1, _, by omega, by go_num, by rw [HS1.out], rfl, rfl⟩
            case measure => simp [intOf]; omega
        · obtain rfl : k = L.length := by omega
          rw [List.take_length]
          go_wp2_with fail
          go_ret2
          exact ⟨rfl, m, rfl⟩
    · have e1 : ∀ t, totE t L = 0 := fun t => by
        unfold totE
        rw [if_neg hE]
      rw [e1, e1]
      have hE2 : (segE L == 0) = false := by simp [hE]
      have h0 : 0 < L.length := by
        rcases Nat.eq_zero_or_pos L.length with h | h
        · rw [List.length_eq_zero_iff.1 h] at hE
          exact absurd rfl hE
        · exact h
      have h0i : (0 : Int) < (L.length : Int) := by omega
      clear e1 hE hu hb3
      generalize segE L = x at *
      go_enter Try.func20, Try.ntmps20
      go_wp2
      go_loopw [4, 5, 6] (fun r n i wr => i = .int .i64 0 ∧ r = .int .u64 0 ∧ n = .int .u64 0 ∧ wr = w) (fun _ _ i _ => 0)
      case atStart => exact ⟨rfl, rfl, rfl, rfl⟩
      case round =>
        obtain ⟨rfl, rfl, rfl, rfl⟩ := hrel
        go_wp2_with fail
        refine (HCk.out 0).mono ?_
        rintro e w' ⟨rfl, m2, rfl⟩
        go_wp2_with fail
        go_ret2
        exact ⟨rfl, _, rfl⟩
end Go.Proofs.Yteolnghnlfeakaa
