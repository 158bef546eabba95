/- Contracts of gmem's accesses that only read: word, Load, Has, Read, Image. Conditions: as each theorem names them. -/
import Derived.Test.YtfjccpalkdmniaaGm2
import Derived.OwnWalk
import Derived.WalkSpells
import Derived.Laws.CopyOwn
import Derived.Deep.WholeRow
namespace Go.Proofs.Ytfjccpalkdmniaa
open Go.ChangeShapes Go.WideShapes Go.ChangeAt Go.RowKit
set_option linter.unusedVariables false

theorem eqnil (w : World) (a : Option Addr) (n c : Nat) : (binOp .eql 37 (.slice a n c) (.slice none 0 0)).run Try.prog w = .ok (.bool a.isNone) w := Lib.run_eql_slice_nil w 37 5 a n c 0 0 Try.underlying37
theorem neqnil (w : World) (a : Option Addr) (n c : Nat) : (binOp .neq 37 (.slice a n c) (.slice none 0 0)).run Try.prog w = .ok (.bool (!a.isNone)) w := run_neq_slice_nil_any w 37 5 a n c 0 0 Try.underlying37
/-- is it the width of a word? -/
def wid (n : Int) : Bool := n == 1 || n == 2 || n == 4 || n == 8
theorem wid_iff {n : Int} : wid n = true ↔ n = 1 ∨ n = 2 ∨ n = 4 ∨ n = 8 := by
  unfold wid
  simp
  omega
/-- what 'word' returns, and its error -/
def accE (L : List (Int × Int)) (a n : Int) : Int := if wid n then (if (loc L a n).isSome then 0 else 5) else 2
def accV (ib : Nat) (L : List (Int × Int)) (a n : Int) : Value := if wid n then findV ib n (loc L a n) else .slice none 0 0

theorem word_nil (a n : Int) (w : World) : Calls Try.prog 64 #[.pointer none, .int .u64 a, .int .i64 n] w fun e w' => e = .returned (.tuple #[.slice none 0 0, .int .i64 1]) ∧ w = w' := by
  go_enter Try.func64, Try.ntmps64
  go_wp2_with (go_at_call 68; refine (made_nil _).mono ?_; rintro e w' ⟨rfl, rfl⟩)
  go_ret2
  exact ⟨rfl, rfl⟩

set_option maxHeartbeats 1000000 in
theorem word_any (p ib qb : Nat) (L : List (Int × Int)) (M : List Int) (a n : Int) (w : World) (h : IsMem w p ib qb L M) (ha : U64 a) :
    Calls Try.prog 64 #[.pointer (some ⟨p, 0, none⟩), .int .u64 a, .int .i64 n] w fun e w' => e = .returned (.tuple #[accV ib L a n, .int .i64 (accE L a n)]) ∧ Below w.heap.size w w' := by
  have H : Hid (IsMem w p ib qb L M) := h
  have hm := made_yes p w (by rw [cellK h.obj 0]; rfl)
  clear h
  have heqn := eqnil
  by_cases hw : wid n = true
  · have HW : Hid (wid n = true) := hw
    have hn4 := wid_iff.1 hw
    clear hw
    cases hl : loc L a n with
    | none =>
      have HL : Hid (loc L a n = none) := hl
      have hf := find_any p ib qb L M a n w H.out ha (by omega)
      rw [hl] at hf
      clear hl
      rcases hn4 with rfl | rfl | rfl | rfl
      all_goals
        go_enter Try.func64, Try.ntmps64
        go_wp2_with (first | (go_at_call 68; refine hm.mono ?_; rintro e w' ⟨rfl, rfl⟩) | (go_at_call 69; refine hf.mono ?_; unfold findV; rintro e w' ⟨rfl, hb⟩))
        go_ret2
        refine ⟨ret_eq ?_, hb⟩
        unfold accV accE findV
        rw [HW.out, HL.out]
        rfl
    | some k =>
      have HL : Hid (loc L a n = some k) := hl
      have hf := find_any p ib qb L M a n w H.out ha (by omega)
      rw [hl] at hf
      clear hl
      rcases hn4 with rfl | rfl | rfl | rfl
      all_goals
        go_enter Try.func64, Try.ntmps64
        go_wp2_with (first | (go_at_call 68; refine hm.mono ?_; rintro e w' ⟨rfl, rfl⟩) | (go_at_call 69; refine hf.mono ?_; unfold findV; rintro e w' ⟨rfl, hb⟩))
        go_ret2
        refine ⟨ret_eq ?_, hb⟩
        unfold accV accE findV
        rw [HW.out, HL.out]
        rfl
  · have hn4 : ¬ (n = 1 ∨ n = 2 ∨ n = 4 ∨ n = 8) := fun h => hw (wid_iff.2 h)
    have HW : Hid (wid n = false) := hid_mk (by simpa using hw)
    clear hw
    have b1 : (n == 1) = false := by simp; omega
    have b2 : (n == 2) = false := by simp; omega
    have b4 : (n == 4) = false := by simp; omega
    have b8 : (n == 8) = false := by simp; omega
    go_enter Try.func64, Try.ntmps64
    go_wp2_with (first | (go_at_call 68; refine hm.mono ?_; rintro e w' ⟨rfl, rfl⟩))
    go_ret2
    refine ⟨ret_eq ?_, Below.refl _ _⟩
    unfold accV accE
    rw [HW.out]
    rfl

/-! ## Load -/
def loadV (L : List (Int × Int)) (M : List Int) (a n : Int) : Int :=
  if wid n then (match loc L a n with | some k => le ((M.drop k).take n.toNat) | none => 0) else 0
theorem load_nil (a n : Int) (w : World) : Calls Try.prog 17 #[.pointer none, .int .u64 a, .int .i64 n] w fun e w' => e = .returned (.tuple #[.int .u64 0, .int .i64 1]) ∧ w = w' := by
  go_enter Try.func17, Try.ntmps17
  go_wp2_with (go_at_call 64; refine (word_nil _ _ _).mono ?_; rintro e w' ⟨rfl, rfl⟩)
  go_ret2
  exact ⟨rfl, rfl⟩
theorem load_any (p ib qb : Nat) (L : List (Int × Int)) (M : List Int) (a n : Int) (w : World) (h : IsMem w p ib qb L M) (ha : U64 a) :
    Calls Try.prog 17 #[.pointer (some ⟨p, 0, none⟩), .int .u64 a, .int .i64 n] w fun e w' => e = .returned (.tuple #[.int .u64 (loadV L M a n), .int .i64 (accE L a n)]) ∧ Below w.heap.size w w' := by
  have H : Hid (IsMem w p ib qb L M) := h
  have hw := word_any p ib qb L M a n w h ha
  clear h
  by_cases hn : wid n = true
  · have HW : Hid (wid n = true) := hn
    have hn4 := wid_iff.1 hn
    cases hl : loc L a n with
    | none =>
      have HL : Hid (loc L a n = none) := hl
      unfold accV accE findV at hw
      rw [hn, hl] at hw
      clear hl hn
      simp only [if_true, Option.isSome_none, Bool.false_eq_true, if_false] at hw
      go_enter Try.func17, Try.ntmps17
      go_wp2_with (go_at_call 64; refine hw.mono ?_; rintro e w' ⟨rfl, hb⟩)
      go_ret2
      refine ⟨ret_eq ?_, hb⟩
      unfold loadV accE
      rw [HW.out, HL.out]
      rfl
    | some k =>
      have HL : Hid (loc L a n = some k) := hl
      have hroom := loc_room hl (by omega)
      have hlen := H.out.len
      unfold accV accE findV at hw
      rw [hn, hl] at hw
      clear hl hn
      simp only [if_true, Option.isSome_some] at hw
      have hd := fun (u : World) (hi : IsMem u p ib qb L M) => decode_any ib k n.toNat n.toNat ((M.drop k).take n.toNat) u (by simp; omega) (isBytes_take (isBytes_drop H.out.rng k) _) (by omega) (fun i hi' => by
        rw [cellB hi.img (k + i) (by omega)]
        congr 2
        simp only [List.getD_eq_getElem?_getD, List.getElem?_take, List.getElem?_drop]
        rw [if_pos hi'])
      have HD : Hid (∀ (u : World) (hi : IsMem u p ib qb L M), Calls Try.prog 65 #[.slice (some ⟨ib, k, none⟩) n.toNat n.toNat] u fun e w' => e = .returned (.int .u64 (le ((M.drop k).take n.toNat))) ∧ u = w') := hd
      clear hd hlen hroom
      go_enter Try.func17, Try.ntmps17
      go_wp2_with (first | (go_at_call 64; refine hw.mono ?_; rintro e w' ⟨rfl, hb⟩) | (go_at_call 65; refine (HD.out _ (H.out.below (by assumption))).mono ?_; rintro e w'' ⟨rfl, rfl⟩))
      go_ret2
      refine ⟨ret_eq ?_, hb⟩
      unfold loadV accE
      rw [HW.out, HL.out]
      rfl
  · have HW : Hid (wid n = false) := hid_mk (by simpa using hn)
    unfold accV accE at hw
    rw [HW.out] at hw
    clear hn
    simp only [Bool.false_eq_true, if_false] at hw
    go_enter Try.func17, Try.ntmps17
    go_wp2_with (go_at_call 64; refine hw.mono ?_; rintro e w' ⟨rfl, hb⟩)
    go_ret2
    refine ⟨ret_eq ?_, hb⟩
    unfold loadV accE
    rw [HW.out]
    rfl

/-! ## Has -/
theorem has_nil (a n : Int) (w : World) : Calls Try.prog 26 #[.pointer none, .int .u64 a, .int .u64 n] w fun e w' => e = .returned (.bool false) ∧ w = w' := by
  go_enter Try.func26, Try.ntmps26
  go_wp2_with (go_at_call 68; refine (made_nil _).mono ?_; rintro e w' ⟨rfl, rfl⟩)
  go_ret
  exact ⟨rfl, rfl⟩
theorem has_any (p ib qb : Nat) (L : List (Int × Int)) (M : List Int) (a n : Int) (w : World) (h : IsMem w p ib qb L M) (ha : U64 a) (hn : U64 n) :
    Calls Try.prog 26 #[.pointer (some ⟨p, 0, none⟩), .int .u64 a, .int .u64 n] w fun e w' => e = .returned (.bool (loc L a n).isSome) ∧ Below w.heap.size w w' := by
  have hm := made_yes p w (by rw [cellK h.obj 0]; rfl)
  have hf := find_any p ib qb L M a n w h ha hn
  have hneq := neqnil
  clear h
  cases hl : loc L a n
  all_goals
    rw [hl] at hf
    unfold findV at hf
    clear hl
    go_enter Try.func26, Try.ntmps26
    go_wp2_with (first | (go_at_call 68; refine hm.mono ?_; rintro e w' ⟨rfl, rfl⟩) | (go_at_call 69; refine hf.mono ?_; rintro e w' ⟨rfl, hb⟩))
    go_ret
    exact ⟨rfl, hb⟩
end Go.Proofs.Ytfjccpalkdmniaa
