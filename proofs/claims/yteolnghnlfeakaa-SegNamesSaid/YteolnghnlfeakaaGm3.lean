/- Contracts of gmem's accesses that only read: word, Load, Has, Read, Image. Conditions: as each theorem names them. -/
import Derived.Test.YteolnghnlfeakaaGm2
import Derived.OwnWalk
import Derived.WalkSpells
import Derived.Laws.CopyOwn
import Derived.Deep.WholeRow
namespace Go.Proofs.Yteolnghnlfeakaa
open Go.ChangeShapes Go.WideShapes Go.ChangeAt Go.RowKit
set_option linter.unusedVariables false

theorem eqnil (w : World) (a : Option Addr) (n c : Nat) : (binOp .eql 38 (.slice a n c) (.slice none 0 0)).run Try.prog w = .ok (.bool a.isNone) w := Lib.run_eql_slice_nil w 38 5 a n c 0 0 Try.underlying38
theorem neqnil (w : World) (a : Option Addr) (n c : Nat) : (binOp .neq 38 (.slice a n c) (.slice none 0 0)).run Try.prog w = .ok (.bool (!a.isNone)) w := run_neq_slice_nil_any w 38 5 a n c 0 0 Try.underlying38
/-- is it the width of a word? -/
def wid (n : Int) : Bool := n == 1 || n == 2 || n == 4 || n == 8
theorem wid_iff {n : Int} : wid n = true ↔ n = 1 ∨ n = 2 ∨ n = 4 ∨ n = 8 := by
  unfold wid
  simp
  omega
/-- what 'word' returns, and its error -/
def accE (L : List (Int × Int)) (a n : Int) : Int := if wid n then (if (loc L a n).isSome then 0 else 5) else 2
def accV (ib : Nat) (L : List (Int × Int)) (a n : Int) : Value := if wid n then findV ib n (loc L a n) else .slice none 0 0

/-! ## Load -/
def loadV (L : List (Int × Int)) (M : List Int) (a n : Int) : Int :=
  if wid n then (match loc L a n with | some k => le ((M.drop k).take n.toNat) | none => 0) else 0
/-! ## Has -/
theorem has_nil (a n : Int) (w : World) : Calls Try.prog 54 #[.pointer none, .int .u64 a, .int .u64 n] w fun e w' => e = .returned (.bool false) ∧ w = w' := by
  go_enter Try.func54, Try.ntmps54
  go_wp2_with (go_at_call 39; refine (made_nil _).mono ?_; rintro e w' ⟨rfl, rfl⟩)
  go_ret
  exact ⟨rfl, rfl⟩
theorem has_any (p ib qb : Nat) (L : List (Int × Int)) (M : List Int) (a n : Int) (w : World) (h : IsMem w p ib qb L M) (ha : U64 a) (hn : U64 n) :
    Calls Try.prog 54 #[.pointer (some ⟨p, 0, none⟩), .int .u64 a, .int .u64 n] w fun e w' => e = .returned (.bool (loc L a n).isSome) ∧ Below w.heap.size w w' := by
  have hm := made_yes p w (by rw [cellK h.obj 0]; rfl)
  have hf := find_any p ib qb L M a n w h ha hn
  have hneq := neqnil
  clear h
  cases hl : loc L a n
  all_goals
    rw [hl] at hf
    unfold findV at hf
    clear hl
    go_enter Try.func54, Try.ntmps54
    go_wp2_with (first | (go_at_call 39; refine hm.mono ?_; rintro e w' ⟨rfl, rfl⟩) | (go_at_call 40; refine hf.mono ?_; rintro e w' ⟨rfl, hb⟩))
    go_ret
    exact ⟨rfl, hb⟩
end Go.Proofs.Yteolnghnlfeakaa
