/- Contracts of package gmem's small functions. Conditions: as each theorem names them. -/
import Derived.Test.YtfbimocgcnaogaaRows
import Derived.Test.YtfbimocgcnaogaaReg
import Derived.Test.YtfbimocgcnaogaaWld
import Derived.WalkKit
import Derived.ProofKit
import Derived.OpenShut
import Derived.Below
import Derived.Deep.DeepCutAuto
import Derived.Outline
import Derived.Shelf.Abstract
import Derived.LaidEqlPtr
import Derived.Deep.QuietTactic
import Derived.BigQuiet
namespace Go.Proofs.Ytfbimocgcnaogaa
open Go.ChangeShapes Go.WideShapes Go.ChangeAt Go.RowKit
set_option linter.unusedVariables false

/-- the memory's own block -/
abbrev memCells (p ib qb n k : Nat) : List Value := [.pointer (some ⟨p, 0, none⟩), .slice (some ⟨ib, 0, none⟩) n n, .slice (some ⟨qb, 0, none⟩) k k]
/-- the regions, as the memory keeps them -/
def partCells (ib : Nat) : Nat → List (Int × Int) → List Value
  | _, [] => []
  | o, r :: l => .int .u64 r.1 :: .int .u64 (r.1 + r.2 - 1) :: .slice (some ⟨ib, o, none⟩) r.2.toNat r.2.toNat :: partCells ib (o + r.2.toNat) l
theorem partCells_length (ib : Nat) : ∀ (o : Nat) (l : List (Int × Int)), (partCells ib o l).length = 3 * l.length
  | _, [] => rfl
  | o, r :: l => by
    simp only [partCells, List.length_cons, partCells_length ib _ l]
    omega
theorem partCells_at (ib : Nat) : ∀ (o : Nat) (l : List (Int × Int)) (i : Nat), i < l.length → (partCells ib o l)[i * 3]? = some (.int .u64 (at_ l i).1) ∧ (partCells ib o l)[i * 3 + 1]? = some (.int .u64 ((at_ l i).1 + (at_ l i).2 - 1)) ∧ (partCells ib o l)[i * 3 + 2]? = some (.slice (some ⟨ib, o + off l i, none⟩) (at_ l i).2.toNat (at_ l i).2.toNat)
  | _, [], i, h => by simp at h
  | o, r :: l, 0, _ => by simp [partCells, at_, off, sumR]
  | o, r :: l, i + 1, h => by
    have := partCells_at ib (o + r.2.toNat) l i (by simpa using h)
    have e : (i + 1) * 3 = i * 3 + 1 + 1 + 1 := by omega
    rw [at_succ, off_succ_cons, ← Nat.add_assoc, e]
    simpa [partCells] using this

/-! ## last -/
def lastI (a n : Int) : Int := IntKind.u64.wrap (a + IntKind.u64.wrap (n - 1))
theorem lastI_ok {a n : Int} (h0 : 0 ≤ a) (h1 : 1 ≤ n) (h2 : a + n ≤ 18446744073709551616) : lastI a n = a + n - 1 := by
  unfold lastI
  rw [IntKind.wrap_u64, IntKind.wrap_u64]
  omega
/-! ## made -/
theorem drewN_drewN (w : World) (a b : Nat) : (w.drewN a).drewN b = w.drewN (a + b) := by
  show ({ w with drawn := w.drawn + a + b } : World) = { w with drawn := w.drawn + (a + b) }
  rw [Nat.add_assoc]
/-! ## decode -/
/-! ## the search over the ends -/
/-! ## sort.Search -/
end Go.Proofs.Ytfbimocgcnaogaa
