/- Blocks of bytes: what make, copy, clear and a store do to them, as equations of runs. Conditions: as each theorem names them. -/
import Derived.Test.YtfbimocgcnaogaaRows
import Derived.Test.YtfbimocgcnaogaaLe
import Derived.Test.YtfbimocgcnaogaaWld
import Derived.WalkKit
import Derived.ProofKit
import Derived.Laws.CopyOwn
import Derived.Laws.MakeOwn
import Derived.Laws.OwnMore
import Derived.Deep.WholeRow
import Derived.Lib.SliceRun
namespace Go.Proofs.Ytfbimocgcnaogaa
open Go.ChangeShapes Go.WideShapes Go.ChangeAt Go.RowKit
set_option linter.unusedVariables false
set_option maxRecDepth 100000

/-- bytes as a block's cells -/
def bv (M : List Int) : Array Value := (M.map (Value.int .u8)).toArray
theorem bv_size (M : List Int) : (bv M).size = M.length := by simp [bv]
/-- M with l laid over it from k on -/
def put (M : List Int) (k : Nat) (l : List Int) : List Int := M.take k ++ l ++ M.drop (k + l.length)
theorem put_nil (M : List Int) (k : Nat) : put M k [] = M := by simp [put]
theorem put_length (M : List Int) (k : Nat) (l : List Int) (h : k + l.length ≤ M.length) : (put M k l).length = M.length := by
  simp [put]
  omega
theorem put_bytes {M : List Int} {k : Nat} {l : List Int} (hM : isBytes M) (hl : isBytes l) : isBytes (put M k l) := isBytes_append (isBytes_append (isBytes_take hM _) hl) (isBytes_drop hM _)
theorem put_snoc (M : List Int) (k : Nat) (l : List Int) (x : Int) (h : k + l.length < M.length) : (put M k l).set (k + l.length) x = put M k (l ++ [x]) := by
  unfold put
  have e1 : (M.take k ++ l).length = k + l.length := by simp; omega
  have hd : M.drop (k + l.length) = M[k + l.length] :: M.drop (k + l.length + 1) := by
    rw [List.drop_eq_getElem_cons h]
  rw [List.set_append_right _ _ (by omega), e1, Nat.sub_self, hd]
  simp [Nat.add_assoc]
theorem put_put (M : List Int) (k : Nat) (a b : List Int) (h : k + a.length + b.length ≤ M.length) : put (put M k a) (k + a.length) b = put M k (a ++ b) := by
  unfold put
  have e1 : (M.take k ++ a).length = k + a.length := by simp; omega
  have e2 : (M.take k ++ a ++ M.drop (k + a.length)).take (k + a.length) = M.take k ++ a := by
    rw [List.take_append_of_le_length (by omega), List.take_of_length_le (by omega)]
  have e3 : (M.take k ++ a ++ M.drop (k + a.length)).drop (k + a.length + b.length) = M.drop (k + (a ++ b).length) := by
    rw [List.drop_append, List.drop_of_length_le (by omega), e1, List.drop_drop, List.nil_append]
    congr 1
    simp
    omega
  rw [e2, e3]
  simp
theorem put_getD (M : List Int) (k : Nat) (l : List Int) (h : k + l.length ≤ M.length) (i : Nat) : (put M k l).getD i 0 = if k ≤ i ∧ i < k + l.length then l.getD (i - k) 0 else M.getD i 0 := by
  unfold put
  simp only [List.getD_eq_getElem?_getD]
  congr 1
  have e1 : (M.take k).length = k := by simp; omega
  rw [List.append_assoc, List.getElem?_append, e1]
  by_cases h1 : i < k
  · rw [if_pos h1, if_neg (by omega), List.getElem?_take, if_pos h1]
  · rw [if_neg h1, List.getElem?_append]
    by_cases h2 : i < k + l.length
    · rw [if_pos (by omega), if_pos (by omega)]
    · rw [if_neg (by omega), if_neg (by omega), List.getElem?_drop, show k + l.length + (i - k - l.length) = i from by omega]
theorem put_all (M l : List Int) (h : l.length = M.length) : put M 0 l = l := by
  unfold put
  rw [List.take_zero, List.nil_append, List.drop_of_length_le (by omega), List.append_nil]

theorem Chg.setRow (w : World) (g : Nat) (cs : Array Value) : Chg (· = g) w (w.setRow g cs) :=
  ⟨rfl, rfl, rfl, by simp, fun k hk hne => setRow_other w g k cs hne⟩

theorem infoU8 : (Try.prog.info? 5).map (·.size) = some 1 := by kernel_rfl
theorem rowU8 : (Try.prog.info? 5).map (fun i => (i.zero, i.size, i.bytes)) = some (some (.int .u8 0), 1, 1) := by kernel_rfl
theorem zeroU8 (w : World) : (zeroValue 5).run Try.prog w = .ok (.int .u8 0) w := by kernel_rfl

theorem setB (w : World) (g i : Nat) (M : List Int) (x : Int) (t : TypeId) (hg : w.heap[g]? = some (.cells (bv M) t (0, 0))) : w.setCell ⟨g, i, none⟩ (.int .u8 x) = w.setRow g (bv (M.set i x)) := by
  rw [setCell_eq_setRow w g i _ t (0, 0) _ hg]
  congr 1
  simp [bv, List.map_set]

end Go.Proofs.Ytfbimocgcnaogaa
