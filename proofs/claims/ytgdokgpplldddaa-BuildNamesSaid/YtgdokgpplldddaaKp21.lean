/- Sg6 Sg7: joined texts. Conditions: as each theorem names them. -/
import Derived.Test.YtgdokgpplldddaaKp20
import Derived.Laws.StructEq
/- The reference's Cut of layer 5. Conditions: as each theorem names them. -/
namespace Go.Proofs.Ytgdokgpplldddaa
open Go.ChangeShapes Go.WideShapes Go.ChangeAt Go.RowKit
set_option linter.unusedVariables false
set_option maxRecDepth 100000

/-- what Cut holds when it comes to segment k -/
structure CutInv (L : List Sg) (f0 n0 : Int) (k : Nat) (f n : Int) (acc : List Sg) : Prop where
  uf : U64 f
  un : U64 n
  len : acc.length ≤ k
  eq : cutS L f0 n0 = acc ++ cutS (L.drop k) f n
theorem CutInv.skip {L : List Sg} {f0 n0 : Int} {k : Nat} {f n : Int} {acc : List Sg} (h : CutInv L f0 n0 k f n acc) (hk : k < L.length) (hu : isSgs L) (hf : (sat L k).n ≤ f) : CutInv L f0 n0 (k + 1) (f - (sat L k).n) n acc := by
  have h1 := h.uf
  obtain ⟨_, h2, h3⟩ := sat_is hu k
  refine ⟨⟨by omega, by omega⟩, h.un, Nat.le_succ_of_le h.len, ?_⟩
  rw [h.eq, drop_sat hk, cutS_le hf]
theorem CutInv.some {L : List Sg} {f0 n0 : Int} {k : Nat} {f n : Int} {acc : List Sg} (h : CutInv L f0 n0 k f n acc) (hk : k < L.length) (hu : isSgs L) (hf : f < (sat L k).n) {q : Int} (hq : min ((sat L k).n - f) n = q) (h0 : 0 < q) : CutInv L f0 n0 (k + 1) 0 (n - q) (acc ++ [⟨(sat L k).a + f, q, (sat L k).t⟩]) := by
  have h1 := h.uf
  have h2 := h.un
  refine ⟨by decide, ⟨by omega, by omega⟩, by have := h.len; simp; omega, ?_⟩
  rw [h.eq, drop_sat hk, cutS_some hf hq h0, List.append_assoc]
  rfl
theorem CutInv.none {L : List Sg} {f0 n0 : Int} {k : Nat} {f n : Int} {acc : List Sg} (h : CutInv L f0 n0 k f n acc) (hk : k < L.length) (hu : isSgs L) (hf : f < (sat L k).n) {q : Int} (hq : min ((sat L k).n - f) n = q) (h0 : q ≤ 0) : CutInv L f0 n0 (k + 1) 0 (n - q) acc := by
  have h1 := h.uf
  have h2 := h.un
  refine ⟨by decide, ⟨by omega, by omega⟩, Nat.le_succ_of_le h.len, ?_⟩
  rw [h.eq, drop_sat hk, cutS_none hf hq h0]

end Go.Proofs.Ytgdokgpplldddaa

/- kit.SameSegs. Conditions: as each theorem names them. -/
namespace Go.Proofs.Ytgdokgpplldddaa
open Go.ChangeShapes Go.WideShapes Go.ChangeAt Go.RowKit
set_option linter.unusedVariables false
set_option maxRecDepth 100000

def sgB (s t : Sg) : Bool := s.a == t.a && (s.n == t.n && s.t == t.t)
theorem sgB_iff {s t : Sg} : sgB s t = true ↔ s = t := by
  obtain ⟨a, n, x⟩ := s
  obtain ⟨b, m, y⟩ := t
  simp [sgB]
def sameS : List Sg → List Sg → Bool
  | [], [] => true
  | s :: l, t :: o => sgB s t && sameS l o
  | [], _ :: _ => false
  | _ :: _, [] => false
theorem sameS_iff : ∀ {L O : List Sg}, sameS L O = true ↔ L = O
  | [], [] => by simp [sameS]
  | s :: l, t :: o => by
    simp only [sameS, Bool.and_eq_true, sgB_iff, sameS_iff (L := l) (O := o), List.cons.injEq]
  | [], _ :: _ => by simp [sameS]
  | _ :: _, [] => by simp [sameS]
theorem sameS_self (L : List Sg) : sameS L L = true := sameS_iff.2 rfl
theorem sameS_len {L O : List Sg} (h : L.length ≠ O.length) : sameS L O = false := by
  cases hc : sameS L O
  · rfl
  · exact absurd (congrArg List.length (sameS_iff.1 hc)) h
theorem sameS_step {L O : List Sg} {k : Nat} (hk : k < L.length) (ho : k < O.length) : sameS (L.drop k) (O.drop k) = (sgB (sat L k) (sat O k) && sameS (L.drop (k + 1)) (O.drop (k + 1))) := by
  rw [drop_sat hk, drop_sat ho]
  rfl

theorem fieldsSg : Try.prog.underlying 63 = some (.struct (Try.prog.fieldsOf 63)) := by kernel_rfl
theorem stoodSg : Try.prog.stoodInHeld 63 = false := by kernel_rfl
abbrev sV (s : Sg) : Value := .agg #[.int .u64 s.a, .int .u32 s.n, .bool s.t]
theorem neqSg (x y x' y' : Int) (z z' : Bool) (w : World) : (binOp .neq 63 (.agg #[.int .u64 x, .int .u32 y, .bool z]) (.agg #[.int .u64 x', .int .u32 y', .bool z'])).run Try.prog w = .ok (.bool (!(x == x' && (y == y' && z == z')))) w := by
  rw [run_neq_struct, run_equalIn_agg w 9999 63 _ _ fieldsSg stoodSg]
  have hf := fieldsSg
  rw [Try.underlying63] at hf
  simp at hf
  rw [← hf]
  simp [Op.eqFields, go_sem, Try.underlying34, Try.underlying35, Try.underlying4]
  by_cases h1 : x = x' <;> by_cases h2 : y = y' <;> by_cases h3 : z = z' <;> simp [h1, h2, h3]

end Go.Proofs.Ytgdokgpplldddaa
