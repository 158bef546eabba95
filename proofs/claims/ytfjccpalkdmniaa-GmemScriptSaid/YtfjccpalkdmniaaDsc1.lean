/- Contracts of desc: the words of a code: set and get. Conditions: as each theorem names them. -/
import Derived.Test.YtfjccpalkdmniaaGm8
import Derived.Deep.MidRow
namespace Go.Proofs.Ytfjccpalkdmniaa
open Go.ChangeShapes Go.WideShapes Go.ChangeAt Go.RowKit
set_option linter.unusedVariables false
set_option maxRecDepth 100000

theorem drewN_setCell (w : World) (m : Nat) (a : Addr) (v : Value) : (w.drewN m).setCell a v = (w.setCell a v).drewN m := rfl
theorem chg_dn {S : Nat → Prop} {a w : World} (h : Chg S a w) (n : Nat) : Chg S a (w.drewN n) := ⟨h.os, h.tape, h.output, h.size, h.block⟩

set_option maxHeartbeats 1000000 in
theorem set_any (b : Nat) (t : TypeId) (k n : Nat) (M : List Int) (v : Int) (w : World) (hg : w.heap[b]? = some (.cells (bv M) t (0, 0))) (hM : M.length = 16) (hk : k + n ≤ 16) (h8 : n ≤ 8) :
    Calls Try.prog 85 #[.pointer (some ⟨b, 0, none⟩), .int .i64 k, .int .i64 n, .int .u64 v] w fun e w' => e = .returned (.tuple #[]) ∧ w'.heap[b]? = some (.cells (bv (put M k (leB n v))) t (0, 0)) ∧ Chg (· = b) w w' := by
  have HG := hid_mk hg
  have hstart : w = w.setRow b (bv (put M k (leB 0 v))) := by
    rw [leB, put_nil, setRow_self _ _ _ _ _ hg]
  have HS := hid_mk hstart
  clear hstart hg
  go_enter Try.func85, Try.ntmps85
  go_wp2
  go_loopw [8, 10] (fun _ i wr => ∃ j m : Nat, j ≤ n ∧ i = .int .i64 j ∧ wr = (w.setRow b (bv (put M k (leB j v)))).drewN m) (fun _ i _ => n - (intOf i).toNat)
  case atStart => exact ⟨0, 0, Nat.zero_le _, rfl, HS.out⟩
  case round =>
    obtain ⟨j, m, hj, rfl, rfl⟩ := hrel
    have hrow := setRow_heap w b _ (bv (put M k (leB j v))) _ _ HG.out
    by_cases hlt : j < n
    · have hlen : (put M k (leB j v)).length = M.length := put_length M k _ (by rw [leB_length]; omega)
      have hcell := cellB hrow (k + j) (by omega)
      have hfr := frozenK hrow (k + j)
      have hset := fun x => setB _ b (k + j) _ x _ hrow
      have HSET := hid_mk hset
      have HROW := hid_mk hrow
      have hi1 : ((k : Int) + (j : Int)) < 16 := by omega
      clear hset hlen hrow
      have hstep : (put M k (leB j v)).set (k + j) (v / pow2 (8 * j) % 256) = put M k (leB (j + 1) v) := by
        have e := put_snoc M k (leB j v) (v / pow2 (8 * j) % 256) (by rw [leB_length]; omega)
        rw [leB_length] at e
        rw [e, leB_snoc]
      have HST := hid_mk hstep
      clear hstep
      go_wp2_with fail
      go_region
      go_wp2_with fail
      go_roundw
      case rel => exact ⟨j + 1, _, by omega, by go_num, by rw [drewN_setCell, HSET.out, setRow_setRow, two_pow_int, HST.out]⟩
      case measure => simp [intOf] <;> omega
    · obtain rfl : j = n := by omega
      go_wp2_with fail
      go_end0
      exact ⟨rfl, setRow_heap w b _ (bv (put M k (leB j v))) _ _ HG.out, chg_dn (Chg.setRow _ _ _) _⟩

set_option maxHeartbeats 1000000 in
theorem get_any (b : Nat) (t : TypeId) (k n : Nat) (M : List Int) (w : World) (hg : w.heap[b]? = some (.cells (bv M) t (0, 0))) (hM : M.length = 16) (hB : isBytes M) (hk : k + n ≤ 16) (h8 : n ≤ 8) :
    Calls Try.prog 86 #[.pointer (some ⟨b, 0, none⟩), .int .i64 k, .int .i64 n] w fun e w' => e = .returned (.int .u64 (le ((M.drop k).take n))) ∧ w = w' := by
  have HG := hid_mk hg
  have hlen : ((M.drop k).take n).length = n := by simp; omega
  have HB := hid_mk (isBytes_take (isBytes_drop hB k) n)
  have HL := hid_mk hlen
  have HC := hid_mk (fun (j : Nat) (hj : j < n) => show M.getD (k + j) 0 = ((M.drop k).take n).getD j 0 by
    simp only [List.getD_eq_getElem?_getD, List.getElem?_take, List.getElem?_drop]
    rw [if_pos hj])
  generalize (M.drop k).take n = l at *
  clear hg hlen hB
  go_enter Try.func86, Try.ntmps86
  go_wp2
  go_loop [7, 8, 10] (fun x _ i => ∃ j : Nat, j ≤ n ∧ i = .int .i64 j ∧ x = .int .u64 (le (l.take j))) (fun _ _ i => n - (intOf i).toNat)
  case atStart => exact ⟨0, Nat.zero_le _, rfl, rfl⟩
  case round =>
    obtain ⟨j, hj, rfl, rfl⟩ := hrel
    by_cases hlt : j < n
    · have hcell := cellB HG.out (k + j) (by omega)
      rw [HC.out j hlt] at hcell
      have hi1 : ((k : Int) + (j : Int)) < 16 := by omega
      have hst := le_step l HB.out j (by rw [HL.out]; exact hlt) (by rw [HL.out]; exact h8)
      rw [show min (8 * j) 64 = 8 * j by omega] at hst
      have HST := hid_mk hst
      clear hst
      have hb := isBytes_at HB.out j
      generalize l.getD j 0 = y at *
      go_wp2_with fail
      go_round
      case rel => exact ⟨j + 1, by omega, by go_num, by rw [HST.out]⟩
      case measure => simp [intOf] <;> omega
    · obtain rfl : j = n := by omega
      go_wp2_with fail
      go_ret
      refine ⟨ret_eq ?_, rfl⟩
      rw [List.take_of_length_le (by rw [HL.out]; exact Nat.le_refl _)]
      rfl
end Go.Proofs.Ytfjccpalkdmniaa
