/- Sg7 Sg8 Wk3: joined texts. Conditions: as each theorem names them. -/
import Derived.Test.YtfhhgcgbgmilcaaGreatKp23
import Derived.Test.YtfhhgcgbgmilcaaGreatKp15
import Derived.Laws.StructEq
import Derived.Deep.RegionHeld3
/- kit.SameSegs. Conditions: as each theorem names them. -/
namespace Go.Proofs.YtfhhgcgbgmilcaaGreat
open Go.ChangeShapes Go.WideShapes Go.ChangeAt Go.RowKit
set_option linter.unusedVariables false
set_option maxRecDepth 100000

def sgB (s t : Sg) : Bool := s.a == t.a && (s.n == t.n && s.t == t.t)
theorem sgB_iff {s t : Sg} : sgB s t = true ↔ s = t := by
  obtain ⟨a, n, x⟩ := s
  obtain ⟨b, m, y⟩ := t
  simp [sgB]
def sameS : List Sg → List Sg → Bool
  | [], [] => true
  | s :: l, t :: o => sgB s t && sameS l o
  | [], _ :: _ => false
  | _ :: _, [] => false
theorem sameS_iff : ∀ {L O : List Sg}, sameS L O = true ↔ L = O
  | [], [] => by simp [sameS]
  | s :: l, t :: o => by
    simp only [sameS, Bool.and_eq_true, sgB_iff, sameS_iff (L := l) (O := o), List.cons.injEq]
  | [], _ :: _ => by simp [sameS]
  | _ :: _, [] => by simp [sameS]
theorem sameS_self (L : List Sg) : sameS L L = true := sameS_iff.2 rfl
theorem sameS_len {L O : List Sg} (h : L.length ≠ O.length) : sameS L O = false := by
  cases hc : sameS L O
  · rfl
  · exact absurd (congrArg List.length (sameS_iff.1 hc)) h
theorem sameS_step {L O : List Sg} {k : Nat} (hk : k < L.length) (ho : k < O.length) : sameS (L.drop k) (O.drop k) = (sgB (sat L k) (sat O k) && sameS (L.drop (k + 1)) (O.drop (k + 1))) := by
  rw [drop_sat hk, drop_sat ho]
  rfl

theorem fieldsSg : Tryz.prog.underlying 28 = some (.struct (Tryz.prog.fieldsOf 28)) := by kernel_rfl
theorem stoodSg : Tryz.prog.stoodInHeld 28 = false := by kernel_rfl
abbrev sV (s : Sg) : Value := .agg #[.int .u64 s.a, .int .u32 s.n, .bool s.t]
theorem neqSg (x y x' y' : Int) (z z' : Bool) (w : World) : (binOp .neq 28 (.agg #[.int .u64 x, .int .u32 y, .bool z]) (.agg #[.int .u64 x', .int .u32 y', .bool z'])).run Tryz.prog w = .ok (.bool (!(x == x' && (y == y' && z == z')))) w := by
  rw [run_neq_struct, run_equalIn_agg w 9999 28 _ _ fieldsSg stoodSg]
  have hf := fieldsSg
  rw [Tryz.underlying28] at hf
  simp at hf
  rw [← hf]
  simp [Op.eqFields, go_sem, Tryz.underlying25, Tryz.underlying26, Tryz.underlying4]
  by_cases h1 : x = x' <;> by_cases h2 : y = y' <;> by_cases h3 : z = z' <;> simp [h1, h2, h3]

set_option maxHeartbeats 4000000 in
theorem ksame_any (v1 v2 : Value) (L O : List Sg) (w : World) (h1 : SegsAt w v1 L) (h2 : SegsAt w v2 O) (hl : L.length ≤ 1000) :
    Calls Tryz.prog 14 #[v1, v2] w fun e w' => e = .returned (.bool (sameS L O)) ∧ ∃ m, w' = w.drewN m := by
  by_cases hn : L.length = O.length
  · rcases h1 with ⟨⟨va, vc, rfl, _⟩, rfl⟩ | ⟨b, o, c, rfl, hb1, hb2, hb3⟩
    · have hO : O = [] := List.length_eq_zero_iff.1 hn.symm
      subst hO
      obtain ⟨vb, vd, rfl⟩ := h2.len
      go_enter Tryz.func14, Tryz.ntmps14
      go_wp2
      go_loop [5] (fun i => i = .int .i64 0) (fun i => 0)
      case atStart => rfl
      case round =>
        obtain rfl := hrel
        go_wp2
        go_ret
        exact ⟨rfl, 0, rfl⟩
    · rcases h2 with ⟨⟨va, vc, rfl, _⟩, rfl⟩ | ⟨b2, o2, c2, rfl, hd1, hd2, hd3⟩
      · have hL : L = [] := List.length_eq_zero_iff.1 hn
        subst hL
        go_enter Tryz.func14, Tryz.ntmps14
        go_wp2
        go_loop [5] (fun i => i = .int .i64 0) (fun i => 0)
        case atStart => rfl
        case round =>
          obtain rfl := hrel
          go_wp2
          go_ret
          exact ⟨rfl, 0, rfl⟩
      · have HC := hid_mk hb3
        have HD := hid_mk hd3
        have hmx : (L.length : Int) ≤ 1000 := by omega
        have hne : ((O.length : Int) != (O.length : Int)) = false := by simp
        have HN := hid_mk hn
        have hni : (L.length : Int) = (O.length : Int) := by omega
        have hmo : (O.length : Int) ≤ 1000 := by omega
        rw [hn] at hb2 ⊢
        clear hb3 hd3 hn
        go_enter Tryz.func14, Tryz.ntmps14
        go_wp2
        go_loopw [5] (fun i wr => ∃ (k m : Nat), k ≤ O.length ∧ i = .int .i64 k ∧ wr = w.drewN m ∧ Hid (sameS L O = sameS (L.drop k) (O.drop k))) (fun i _ => O.length - (intOf i).toNat)
        case atStart => exact ⟨0, 0, Nat.zero_le _, rfl, rfl, rfl⟩
        case round =>
          obtain ⟨k, m, hk, rfl, rfl, heq⟩ := hrel
          by_cases hlt : k < O.length
          · obtain ⟨p0, p1, p2⟩ := HC.out k (by have := HN.out; omega)
            obtain ⟨q0, q1, q2⟩ := HD.out k hlt
            have hst := sameS_step (L := L) (O := O) (k := k) (by have := HN.out; omega) hlt
            have hq := neqSg (sat L k).a (sat L k).n (sat O k).a (sat O k).n (sat L k).t (sat O k).t
            rw [show ((sat L k).a == (sat O k).a && ((sat L k).n == (sat O k).n && (sat L k).t == (sat O k).t)) = sgB (sat L k) (sat O k) from rfl] at hq
            have hni2 : (k : Int) < (L.length : Int) := by omega
            cases hs : sgB (sat L k) (sat O k)
            · rw [hs] at hst hq
              have HF : Hid (false = sameS L O) := by
                show false = sameS L O
                rw [heq.out, hst]
                rfl
              clear hst heq hs hni
              generalize sat L k = s1 at *
              generalize sat O k = s2 at *
              go_wp2_with fail
              go_quiet (fail)
              go_wp2_with fail
              go_ret
              exact ⟨ret_eq (congrArg Value.bool HF.out), _, drewN_drewN _ _ _⟩
            · rw [hs] at hst hq
              have HX : Hid (sameS L O = sameS (L.drop (k + 1)) (O.drop (k + 1))) := by
                show sameS L O = _
                rw [heq.out, hst]
                rfl
              clear hst heq hs hni
              generalize sat L k = s1 at *
              generalize sat O k = s2 at *
              go_wp2_with fail
              go_quiet (fail)
              go_wp2_with fail
              go_roundw
              case rel => exact ⟨k + 1, _, by omega, by go_num, rfl, HX⟩
              case measure => simp [intOf]; omega
          · obtain rfl : k = O.length := by omega
            have HF : Hid (true = sameS L O) := by
              show true = sameS L O
              rw [heq.out, List.drop_length, List.drop_of_length_le (by have := HN.out; omega)]
              rfl
            go_wp2_with fail
            go_ret
            exact ⟨ret_eq (congrArg Value.bool HF.out), m, rfl⟩
  · obtain ⟨va, vc, rfl⟩ := h1.len
    obtain ⟨vb, vd, rfl⟩ := h2.len
    have HF : Hid (false = sameS L O) := (sameS_len hn).symm
    have hni : ((L.length : Int) != (O.length : Int)) = true := by
      simp
      omega
    clear h1 h2
    go_enter Tryz.func14, Tryz.ntmps14
    go_wp2
    go_ret
    exact ⟨ret_eq (congrArg Value.bool HF.out), 0, rfl⟩
end Go.Proofs.YtfhhgcgbgmilcaaGreat

/- The reference's In of layer 5. Conditions: as each theorem names them. -/
namespace Go.Proofs.YtfhhgcgbgmilcaaGreat
open Go.ChangeShapes Go.WideShapes Go.ChangeAt Go.RowKit
set_option linter.unusedVariables false
set_option maxRecDepth 100000

theorem allIn_append (R : List (Int × Int)) (a b : List Sg) : allIn R (a ++ b) = (allIn R a && allIn R b) := by
  unfold allIn
  exact List.all_append
theorem allIn_step {R : List (Int × Int)} {L : List Sg} {k : Nat} (h : k < L.length) : allIn R (L.take (k + 1)) = (allIn R (L.take k) && (loc R (sat L k).a (sat L k).n).isSome) := by
  rw [take_sat h, allIn_append]
  simp [allIn]
theorem allIn_no {R : List (Int × Int)} {L : List Sg} {k : Nat} (h : k < L.length) (hn : (loc R (sat L k).a (sat L k).n).isSome = false) : allIn R L = false := by
  have e := allIn_append R (L.take (k + 1)) (L.drop (k + 1))
  rw [List.take_append_drop, allIn_step h, hn] at e
  rw [e]
  simp
abbrev StI (w : World) (b p q : Nat) (x y : Value) (base rp lb bb cL cB : Nat) (aB : Option Addr) (D : Nat → Nat) (R : List (Int × Int)) (M : List Int) (W : World) : Prop := Below w.heap.size w W ∧ (W.cell? ⟨b, p, none⟩ = some x ∧ W.cell? ⟨b, q, none⟩ = some y ∧ b < W.heap.size) ∧ IsRef W base rp lb bb cL cB aB D R M
theorem StI.keep {w : World} {b p q : Nat} {x y : Value} {base rp lb bb cL cB : Nat} {aB : Option Addr} {D : Nat → Nat} {R : List (Int × Int)} {M : List Int} {W W' : World} (h : StI w b p q x y base rp lb bb cL cB aB D R M W) (hb : Below W.heap.size W W') : StI w b p q x y base rp lb bb cL cB aB D R M W' :=
  ⟨below_then h.1 hb, ⟨(hb.cell (p := ⟨b, p, none⟩) h.2.1.2.2).trans h.2.1.1, (hb.cell (p := ⟨b, q, none⟩) h.2.1.2.2).trans h.2.1.2.1, Nat.lt_of_lt_of_le h.2.1.2.2 hb.size⟩, h.2.2.below hb⟩

end Go.Proofs.YtfhhgcgbgmilcaaGreat

/- The reference of layer 10: entries, end. Conditions: as each theorem names them. -/
namespace Go.Proofs.YtfhhgcgbgmilcaaGreat
open Go.ChangeShapes Go.WideShapes Go.ChangeAt Go.RowKit
set_option linter.unusedVariables false
set_option maxRecDepth 100000

theorem wenE_cases (R : List (Int × Int)) (a l : Int) : (wenE R a l = 0 ∧ l ≠ 0 ∧ l % 16 = 0 ∧ l / 16 ≤ 64 ∧ (loc R a l).isSome = true) ∨ (wenE R a l = 4 ∧ (l = 0 ∨ (l ≠ 0 ∧ l % 16 ≠ 0) ∨ (l ≠ 0 ∧ l % 16 = 0 ∧ 64 < l / 16))) ∨ (wenE R a l = 5 ∧ l ≠ 0 ∧ l % 16 = 0 ∧ l / 16 ≤ 64 ∧ (loc R a l).isSome = false) := by
  unfold wenE
  by_cases h : l = 0 ∨ l % 16 ≠ 0 ∨ 64 < l / 16
  · rw [if_pos h]
    right
    left
    exact ⟨rfl, by omega⟩
  · rw [if_neg h]
    cases hs : (loc R a l).isSome
    · right
      right
      exact ⟨by simp, by omega, by omega, by omega, rfl⟩
    · left
      exact ⟨by simp, by omega, by omega, by omega, rfl⟩
end Go.Proofs.YtfhhgcgbgmilcaaGreat
