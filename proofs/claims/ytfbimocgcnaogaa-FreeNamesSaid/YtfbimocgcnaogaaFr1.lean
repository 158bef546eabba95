/- Feature bits of the reference, layer 6: bits, a bit, Has, All. Conditions: as each theorem names them. -/
import Derived.Test.YtfbimocgcnaogaaRows
import Derived.Test.YtfbimocgcnaogaaWld
import Derived.Test.YtfbimocgcnaogaaFt0
import Derived.ProofKit
import Derived.OwnWalk
namespace Go.Proofs.Ytfbimocgcnaogaa
open Go.ChangeShapes Go.WideShapes Go.ChangeAt Go.RowKit
set_option linter.unusedVariables false
set_option maxRecDepth 100000

/-- a slice of ints, nil too, that reads as L -/
def IntsAt (w : World) (v : Value) (L : List Nat) : Prop :=
  ((∃ a c, v = .slice a 0 c ∧ (a = none → c = 0)) ∧ L = []) ∨ ∃ b o c : Nat, v = .slice (some ⟨b, o, none⟩) L.length c ∧ b < w.heap.size ∧ L.length ≤ c ∧ ∀ j, j < L.length → w.cell? ⟨b, o + j, none⟩ = some (.int .i64 (L.getD j 0 : Nat))
theorem IntsAt.below {w w' : World} {v : Value} {L : List Nat} (h : IntsAt w v L) (hb : Below w.heap.size w w') : IntsAt w' v L := by
  rcases h with h | ⟨b, o, c, h1, h2, h3, h4⟩
  · exact Or.inl h
  · have := hb.size
    exact Or.inr ⟨b, o, c, h1, by omega, h3, fun j hj => (hb.cell (p := ⟨b, o + j, none⟩) h2).trans (h4 j hj)⟩
/-- a literal of ints -/
theorem ints_lit (w : World) (L : List Nat) (t : TypeId) : IntsAt (w.alloc (.cells (L.map fun x : Nat => Value.int .i64 (x : Int)).toArray t)) (.slice (some ⟨w.heap.size, 0, none⟩) L.length L.length) L := by
  refine Or.inr ⟨w.heap.size, 0, L.length, rfl, by simp, Nat.le_refl _, fun j hj => ?_⟩
  have h := heap_alloc_new w (.cells (L.map fun x : Nat => Value.int .i64 (x : Int)).toArray t)
  rw [cellK h, Nat.zero_add]
  simp [hj, List.getD]
/-- the set of bits of a list -/
def orF (L : List Nat) : Nat := L.foldl (fun s b => s ||| 2 ^ b) 0
theorem orF_take {L : List Nat} {k : Nat} (hk : k < L.length) : orF (L.take (k + 1)) = orF (L.take k) ||| 2 ^ L.getD k 0 := by
  unfold orF
  rw [List.take_succ_eq_append_getElem hk, List.foldl_append]
  simp [List.getD, hk]
theorem orF_all (L : List Nat) : orF (L.take L.length) = orF L := by rw [List.take_length]
theorem orF_lt {L : List Nat} (h : ∀ x ∈ L, x < 64) : orF L < N64 := by
  have key : ∀ (L : List Nat) (s : Nat), s < N64 → (∀ x ∈ L, x < 64) → L.foldl (fun s b => s ||| 2 ^ b) s < N64 := by
    intro L
    induction L with
    | nil => exact fun s hs _ => hs
    | cons a L ih => exact fun s hs h => ih _ (or_lt hs (one_lt (h a (by simp)))) fun x hx => h x (by simp [hx])
  exact key L 0 (by decide) h
theorem shl_one64 {n : Nat} (h : n < 64) : IntKind.u64.wrap ((2 : Int) ^ n) = ((2 ^ n : Nat) : Int) := by
  have h1 : 2 ^ n < 18446744073709551616 := one_lt h
  rw [IntKind.wrap_u64]
  have e : ((2 ^ n : Nat) : Int) = (2 : Int) ^ n := by simp
  rw [← e]
  generalize 2 ^ n = z at *
  omega
/-- a bit of a number, as the walk finds it -/
theorem bit_tmod (s n : Nat) : (((s : Int) / 2 ^ n).tmod 2 == 1) = s.testBit n := by
  have e : ((2 ^ n : Nat) : Int) = (2 : Int) ^ n := by simp
  rw [← e, ← Int.natCast_ediv, Nat.testBit_eq_decide_div_mod_eq]
  generalize s / 2 ^ n = z
  rw [Int.tmod_eq_emod_of_nonneg (by omega)]
  by_cases h : z % 2 = 1
  · rw [decide_eq_true h]
    simp
    omega
  · rw [decide_eq_false h]
    simp
    omega

/-- Has' answer -/
def hasF (s : Nat) (b : Int) : Bool := decide (0 ≤ b) && decide (b < 64) && s.testBit b.toNat
theorem hasF_nat {s n : Nat} (h : n < 64) : hasF s n = s.testBit n := by
  unfold hasF
  rw [decide_eq_true (by omega), decide_eq_true (by omega)]
  simp
end Go.Proofs.Ytfbimocgcnaogaa
