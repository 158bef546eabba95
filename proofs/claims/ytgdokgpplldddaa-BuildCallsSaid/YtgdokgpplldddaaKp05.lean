/- Bw Bl: joined texts. Conditions: as each theorem names them. -/
import Derived.Test.YtgdokgpplldddaaKp02
import Derived.Test.YtgdokgpplldddaaKp01
import Derived.Test.YtgdokgpplldddaaRows
import Derived.WalkKit
import Derived.ProofKit
import Derived.Laws.CopyOwn
import Derived.Laws.MakeOwn
import Derived.Laws.OwnMore
import Derived.Deep.WholeRow
import Derived.Lib.SliceRun
import Derived.Lib.BitFns
import Derived.Lib.Strings
import Derived.Lib.Slices
import Derived.Lib.Small
import Derived.Lib.Walk
/- Blocks of bytes: what make, copy, clear and a store do to them, as equations of runs. Conditions: as each theorem names them. -/
namespace Go.Proofs.Ytgdokgpplldddaa
open Go.ChangeShapes Go.WideShapes Go.ChangeAt Go.RowKit
set_option linter.unusedVariables false
set_option maxRecDepth 100000

/-- bytes as a block's cells -/
def bv (M : List Int) : Array Value := (M.map (Value.int .u8)).toArray
theorem bv_size (M : List Int) : (bv M).size = M.length := by simp [bv]
/-- M with l laid over it from k on -/
def put (M : List Int) (k : Nat) (l : List Int) : List Int := M.take k ++ l ++ M.drop (k + l.length)
theorem put_nil (M : List Int) (k : Nat) : put M k [] = M := by simp [put]
theorem put_length (M : List Int) (k : Nat) (l : List Int) (h : k + l.length ≤ M.length) : (put M k l).length = M.length := by
  simp [put]
  omega
theorem put_bytes {M : List Int} {k : Nat} {l : List Int} (hM : isBytes M) (hl : isBytes l) : isBytes (put M k l) := isBytes_append (isBytes_append (isBytes_take hM _) hl) (isBytes_drop hM _)
theorem put_snoc (M : List Int) (k : Nat) (l : List Int) (x : Int) (h : k + l.length < M.length) : (put M k l).set (k + l.length) x = put M k (l ++ [x]) := by
  unfold put
  have e1 : (M.take k ++ l).length = k + l.length := by simp; omega
  have hd : M.drop (k + l.length) = M[k + l.length] :: M.drop (k + l.length + 1) := by
    rw [List.drop_eq_getElem_cons h]
  rw [List.set_append_right _ _ (by omega), e1, Nat.sub_self, hd]
  simp [Nat.add_assoc]
theorem put_put (M : List Int) (k : Nat) (a b : List Int) (h : k + a.length + b.length ≤ M.length) : put (put M k a) (k + a.length) b = put M k (a ++ b) := by
  unfold put
  have e1 : (M.take k ++ a).length = k + a.length := by simp; omega
  have e2 : (M.take k ++ a ++ M.drop (k + a.length)).take (k + a.length) = M.take k ++ a := by
    rw [List.take_append_of_le_length (by omega), List.take_of_length_le (by omega)]
  have e3 : (M.take k ++ a ++ M.drop (k + a.length)).drop (k + a.length + b.length) = M.drop (k + (a ++ b).length) := by
    rw [List.drop_append, List.drop_of_length_le (by omega), e1, List.drop_drop, List.nil_append]
    congr 1
    simp
    omega
  rw [e2, e3]
  simp
theorem put_getD (M : List Int) (k : Nat) (l : List Int) (h : k + l.length ≤ M.length) (i : Nat) : (put M k l).getD i 0 = if k ≤ i ∧ i < k + l.length then l.getD (i - k) 0 else M.getD i 0 := by
  unfold put
  simp only [List.getD_eq_getElem?_getD]
  congr 1
  have e1 : (M.take k).length = k := by simp; omega
  rw [List.append_assoc, List.getElem?_append, e1]
  by_cases h1 : i < k
  · rw [if_pos h1, if_neg (by omega), List.getElem?_take, if_pos h1]
  · rw [if_neg h1, List.getElem?_append]
    by_cases h2 : i < k + l.length
    · rw [if_pos (by omega), if_pos (by omega)]
    · rw [if_neg (by omega), if_neg (by omega), List.getElem?_drop, show k + l.length + (i - k - l.length) = i from by omega]
theorem put_all (M l : List Int) (h : l.length = M.length) : put M 0 l = l := by
  unfold put
  rw [List.take_zero, List.nil_append, List.drop_of_length_le (by omega), List.append_nil]

theorem Chg.setRow (w : World) (g : Nat) (cs : Array Value) : Chg (· = g) w (w.setRow g cs) :=
  ⟨rfl, rfl, rfl, by simp, fun k hk hne => setRow_other w g k cs hne⟩

theorem infoU8 : (Try.prog.info? 5).map (·.size) = some 1 := by kernel_rfl
theorem rowU8 : (Try.prog.info? 5).map (fun i => (i.zero, i.size, i.bytes)) = some (some (.int .u8 0), 1, 1) := by kernel_rfl
theorem zeroU8 (w : World) : (zeroValue 5).run Try.prog w = .ok (.int .u8 0) w := by kernel_rfl

theorem setB (w : World) (g i : Nat) (M : List Int) (x : Int) (t : TypeId) (hg : w.heap[g]? = some (.cells (bv M) t (0, 0))) : w.setCell ⟨g, i, none⟩ (.int .u8 x) = w.setRow g (bv (M.set i x)) := by
  rw [setCell_eq_setRow w g i _ t (0, 0) _ hg]
  congr 1
  simp [bv, List.map_set]

/-- copy(d, s): l is what the source holds, as far as the target reaches -/
theorem copyB (w : World) (ty : TypeId) (g o dLen dCap b o2 sLen sCap : Nat) (M l : List Int) (t : TypeId) (hg : w.heap[g]? = some (.cells (bv M) t (0, 0)))
    (hl : l.length = min sLen dLen) (hs : ∀ j, j < l.length → w.cell? ⟨b, o2 + j, none⟩ = some (.int .u8 (l.getD j 0))) (hfit : o + l.length ≤ M.length) :
    (Builtin.copy_ #[49, 49] ty #[.slice (some ⟨g, o, none⟩) dLen dCap, .slice (some ⟨b, o2, none⟩) sLen sCap]).run Try.prog w = .ok (goInt l.length) (w.setRow g (bv (put M o l))) := by
  have h := run_copy_row (P := Try.prog) w 49 49 ty 5 g o dLen dCap ⟨b, o2, none⟩ sLen sCap (bv M) t (l.map (Value.int .u8)) Try.underlying49 infoU8 hg
    (by simp only [List.length_map]; exact hl) (fun j v hj => by
      have hjl : j < l.length := by
        have := (List.getElem?_eq_some_iff.1 hj).1
        simpa using this
      rw [show (⟨b, o2, none⟩ : Addr).add j = ⟨b, o2 + j, none⟩ from by unfold Addr.add; split <;> simp_all, hs j hjl]
      simp [hjl] at hj
      subst hj
      simp [List.getD, hjl]) (by simp [bv]; exact hfit) (fun v hv => by
      obtain ⟨x, _, rfl⟩ := List.mem_map.1 hv
      rfl)
  rw [h]
  simp only [List.length_map]
  congr 2
  simp [bv, put]

/-- clear(s) -/
theorem clearB (w : World) (ty : TypeId) (g o n c : Nat) (M : List Int) (t : TypeId) (hg : w.heap[g]? = some (.cells (bv M) t (0, 0))) (hfit : o + n ≤ M.length) :
    (Builtin.clear_ #[49] ty #[.slice (some ⟨g, o, none⟩) n c]).run Try.prog w = .ok (.tuple #[]) (w.setRow g (bv (put M o (List.replicate n 0)))) := by
  cases n with
  | zero =>
    simp only [List.replicate_zero, put_nil]
    rw [setRow_self w g (bv M) t (0, 0) hg]
    simp [Builtin.clear_, run_underlying Try.underlying49]
  | succ n =>
    have hst := run_storeCells_at Try.prog g o t (List.replicate (n + 1) (.int .u8 0)) 0 (bv M) w hg (by simp [bv]; omega) (by intro v hv; rw [List.eq_of_mem_replicate hv]; rfl)
    have hzc : (Builtin.zeroCells #[Value.int .u8 0] (n + 1)).toList = List.replicate (n + 1) (.int .u8 0) := by
      simp [Builtin.zeroCells]
      apply List.ext_getElem
      · simp
      · intro i h1 h2
        simp [Nat.mod_one]
    simp only [Nat.add_zero] at hst
    simp [Builtin.clear_, run_underlying Try.underlying49, Value.cells, hzc, hst]
    congr 1
    simp [bv, put]

/-- make([]byte, n) -/
theorem makeB (w : World) (k : IntKind) (n : Nat) (h : n ≤ 281474976710656) :
    (Instr.makeSlice 49 (.int k (n : Int)) (.int k (n : Int))).run Try.prog w = .ok (.slice (some ⟨w.heap.size, 0, none⟩) n n) (w.alloc (.cells (bv (List.replicate n 0)) 5)) := by
  obtain ⟨i0, hi, hz0, hz1, hz2⟩ := info_parts rowU8
  have hr := run_make (P := Try.prog) w 49 5 i0 (.int .u8 0) Try.underlying49 hi hz0 k k n n (by omega) (Int.le_refl _) (by rw [hz2]; omega) (by omega)
  rw [hr]
  simp only [Int.toNat_natCast, hz1, Nat.mul_one]
  congr 3
  apply Array.ext'
  rw [show (Value.int IntKind.u8 0).cells = #[.int .u8 0] from rfl, toList_madeCells_one]
  simp [bv]
/-- make([]byte, n), and a copy of n bytes into it -/
theorem copyNew (w : World) (ty : TypeId) (n b o2 sLen sCap : Nat) (l : List Int) (hl : l.length = n) (hn : n ≤ sLen) (hb : b < w.heap.size) (hs : ∀ j, j < n → w.cell? ⟨b, o2 + j, none⟩ = some (.int .u8 (l.getD j 0))) :
    (Builtin.copy_ #[49, 49] ty #[.slice (some ⟨w.heap.size, 0, none⟩) n n, .slice (some ⟨b, o2, none⟩) sLen sCap]).run Try.prog (w.alloc (.cells (bv (List.replicate n 0)) 5)) = .ok (goInt n) (w.alloc (.cells (bv l) 5)) := by
  have h := copyB (w.alloc (.cells (bv (List.replicate n 0)) 5)) ty w.heap.size 0 n n b o2 sLen sCap (List.replicate n 0) l 5 (heap_alloc_new _ _) (by omega)
    (fun j hj => ((Below.alloc (Below.refl _ _) (Nat.le_refl _) _ : Below w.heap.size w (w.alloc (.cells (bv (List.replicate n 0)) 5))).cell (p := ⟨b, o2 + j, none⟩) hb).trans (hs j (by omega))) (by simp; omega)
  rw [put_all _ _ (by simp; omega), World.setRow_alloc_new, hl] at h
  exact h
end Go.Proofs.Ytgdokgpplldddaa

/- The contract of math/bits.Len64: no more than 64 bits, and the number lies below that power. Condition: a number of 64 bits. -/
namespace Go.Proofs.Ytgdokgpplldddaa
open Go.ChangeShapes Go.WideShapes Go.ChangeAt Go.RowKit
set_option linter.unusedVariables false

theorem len_lt : ∀ n : Fin 256, n.val < 2 ^ Lib.bitLen n.val := by decide +kernel
/-- the last byte's length, a power of 256 further up -/
theorem len_up (x b : Int) (k : Nat) (h0 : 0 ≤ b) (h1 : b ≤ 255) (hx0 : 0 ≤ x) (hx : x < (b + 1) * ((2 ^ k : Nat) : Int)) : ∃ n : Nat, (Lib.bitLen b.toNat : Int) + k = n ∧ n ≤ 8 + k ∧ x.toNat < 2 ^ n := by
  have hl := len_lt ⟨b.toNat, by omega⟩
  have hle := Lib.bitLen_le8' b h0 h1
  refine ⟨Lib.bitLen b.toNat + k, by omega, by omega, ?_⟩
  simp only at hl
  rw [Nat.pow_add]
  have h3 : (b.toNat + 1) * 2 ^ k ≤ 2 ^ Lib.bitLen b.toNat * 2 ^ k := Nat.mul_le_mul_right _ hl
  have h4 : (x.toNat : Int) < (((b.toNat + 1) * 2 ^ k : Nat) : Int) := by
    rw [Int.natCast_mul]
    have e : ((b.toNat + 1 : Nat) : Int) = b + 1 := by omega
    rw [e]
    omega
  omega

theorem tab_size : Lib.len8tab.size = 256 := by decide +kernel
theorem tab_fin : ∀ i : Fin 256, (Lib.len8tab[i.val]'(by rw [tab_size]; exact i.isLt)).toNat = Lib.bitLen i.val := by decide +kernel
theorem tab_at (b : Int) (h : b.toNat < Lib.len8tab.size) : ((Lib.len8tab[b.toNat]'h).toNat : Int) = Lib.bitLen b.toNat := by
  have := tab_fin ⟨b.toNat, by rw [tab_size] at h; exact h⟩
  simp only at this
  omega
theorem len_fin (w : World) (x b : Int) (k : Nat) (h : b.toNat < Lib.len8tab.size) (hk : k ≤ 56) (hk0 : 1 ≤ k) (hb0 : 0 ≤ b) (hb1 : b ≤ 255) (h0 : 0 ≤ x) (hx : x < (b + 1) * ((2 ^ k : Nat) : Int)) :
    ∃ n : Nat, Ending.returned (.int .i64 (wrap64 ((k : Int) + wrap64 ((Lib.len8tab[b.toNat]'h).toNat : Int)))) = .returned (.int .i64 n) ∧ (n ≤ 64 ∧ x.toNat < 2 ^ n) ∧ w = w := by
  obtain ⟨n, h1, h2, h3⟩ := len_up x b k hb0 hb1 h0 hx
  have hle := Lib.bitLen_le8' b hb0 hb1
  refine ⟨n, ret_eq ?_, ⟨by omega, h3⟩, rfl⟩
  rw [tab_at b h, IntWalk.wrap64_in (Lib.bitLen b.toNat : Int) (by omega), IntWalk.wrap64_in _ (by omega)]
  congr 1
  omega
theorem len_fin0 (w : World) (x : Int) (h : x.toNat < Lib.len8tab.size) (hb1 : x ≤ 255) (h0 : 0 ≤ x) :
    ∃ n : Nat, Ending.returned (.int .i64 (wrap64 (wrap64 ((Lib.len8tab[x.toNat]'h).toNat : Int)))) = .returned (.int .i64 n) ∧ (n ≤ 64 ∧ x.toNat < 2 ^ n) ∧ w = w := by
  obtain ⟨n, h1, h2, h3⟩ := len_up x x 0 h0 hb1 h0 (by simp; omega)
  have hle := Lib.bitLen_le8' x h0 hb1
  refine ⟨n, ret_eq ?_, ⟨by omega, h3⟩, rfl⟩
  rw [tab_at x h, IntWalk.wrap64_in (Lib.bitLen x.toNat : Int) (by omega), IntWalk.wrap64_in _ (by omega)]
  congr 1

end Go.Proofs.Ytgdokgpplldddaa
