/- Parts of a list of descriptors, as slices. Conditions: as each theorem names them. -/
import Derived.Test.YtfjccpalkdmniaaDsc13
namespace Go.Proofs.Ytfjccpalkdmniaa
open Go.ChangeShapes Go.WideShapes Go.ChangeAt Go.RowKit
set_option linter.unusedVariables false
set_option maxRecDepth 100000

theorem slices {w : World} {va : Option Addr} {vc : Nat} {L : List Dsc} (hv : DescsAt w (.slice va L.length vc) L) (q : Nat) (hq : q ≤ L.length) (h300 : L.length ≤ 300) :
    ∃ v1 v2, (∀ u, (Instr.sliceAt 63 (.slice va L.length vc) none (some (.int .i64 (q : Int))) none).run Try.prog u = .ok v1 u) ∧ DescsAt w v1 (L.take q) ∧
      (∀ u, (Instr.sliceAt 63 (.slice va L.length vc) (some (.int .i64 (q : Int))) none none).run Try.prog u = .ok v2 u) ∧ DescsAt w v2 (L.drop q) := by
  have hqi : (q : Int) ≤ (L.length : Int) := by omega
  rcases hv with ⟨⟨a, c, he, hac⟩, rfl⟩ | ⟨b, o, c, he, h2, h3, h4⟩
  · cases he
    obtain rfl : q = 0 := by simpa using hq
    cases va with
    | none =>
      obtain rfl := hac rfl
      refine ⟨.slice none 0 0, .slice none 0 0, fun u => ?_, Or.inl ⟨⟨_, _, rfl, fun _ => rfl⟩, rfl⟩, fun u => ?_, Or.inl ⟨⟨_, _, rfl, fun _ => rfl⟩, rfl⟩⟩
      · simp [go_sem]
      · simp [go_sem]
    | some a =>
      refine ⟨.slice (some a) 0 vc, .slice (some a) 0 vc, fun u => ?_, Or.inl ⟨⟨_, _, rfl, fun h => by cases h⟩, rfl⟩, fun u => ?_, Or.inl ⟨⟨_, _, rfl, fun h => by cases h⟩, rfl⟩⟩
      · simp [go_sem]
      · simp [go_sem]
  · cases he
    have hci : (L.length : Int) ≤ (vc : Int) := by omega
    have hqc : (q : Int) ≤ (vc : Int) := by omega
    by_cases hvq : vc = q
    · have hql : L.length = q := by omega
      have hdr : L.drop q = [] := by rw [← hql, List.drop_length]
      refine ⟨.slice (some ⟨b, o, none⟩) q vc, .slice (some ⟨b, o, none⟩) 0 0, fun u => ?_, DescsAt.front q hq h2 h3 h4, fun u => ?_, Or.inl ⟨⟨_, _, rfl, fun h => by cases h⟩, hdr⟩⟩
      · simp [go_sem, hqc]
      · simp [go_sem, hvq, hql]
    · refine ⟨.slice (some ⟨b, o, none⟩) q vc, .slice (some ⟨b, o + q * 4, none⟩) (L.length - q) (vc - q), fun u => ?_, DescsAt.front q hq h2 h3 h4, fun u => ?_, DescsAt.back q hq h2 h3 h4⟩
      · simp [go_sem, hqc]
      · simp [go_sem, hqi, hvq]

/-- two cells set, in two blocks -/
theorem set2 (u : World) (bw bv i : Nat) (X Y o1 o2 : Value) (hne : bw ≠ bv) (h1 : u.cell? ⟨bw, i, none⟩ = some o1) (h2 : u.cell? ⟨bv, i, none⟩ = some o2) :
    (∀ j, ((u.setCell ⟨bw, i, none⟩ X).setCell ⟨bv, i, none⟩ Y).drew.cell? ⟨bw, j, none⟩ = if j = i then some X else u.cell? ⟨bw, j, none⟩) ∧
    ∀ j, ((u.setCell ⟨bw, i, none⟩ X).setCell ⟨bv, i, none⟩ Y).drew.cell? ⟨bv, j, none⟩ = if j = i then some Y else u.cell? ⟨bv, j, none⟩ := by
  have hw : ∀ j j', (⟨bv, j, none⟩ : Addr) ≠ ⟨bw, j', none⟩ := fun j j' e => hne (by cases e; rfl)
  have hv : ∀ j j', (⟨bw, j, none⟩ : Addr) ≠ ⟨bv, j', none⟩ := fun j j' e => hne (by cases e; rfl)
  refine ⟨fun j => ?_, fun j => ?_⟩
  · show ((u.setCell ⟨bw, i, none⟩ X).setCell ⟨bv, i, none⟩ Y).cell? ⟨bw, j, none⟩ = _
    rw [World.cell?_setCell_other _ _ _ _ (hw i j)]
    by_cases hj : j = i
    · subst hj
      rw [if_pos rfl, World.cell?_setCell_same _ _ _ h1]
    · rw [if_neg hj, World.cell?_setCell_other _ _ _ _ (fun e => hj (by cases e; rfl))]
  · show ((u.setCell ⟨bw, i, none⟩ X).setCell ⟨bv, i, none⟩ Y).cell? ⟨bv, j, none⟩ = _
    have h2' : (u.setCell ⟨bw, i, none⟩ X).cell? ⟨bv, i, none⟩ = some o2 := by rw [World.cell?_setCell_other _ _ _ _ (hv i i)]; exact h2
    by_cases hj : j = i
    · subst hj
      rw [if_pos rfl, World.cell?_setCell_same _ _ _ h2']
    · rw [if_neg hj, World.cell?_setCell_other _ _ _ _ (fun e => hj (by cases e; rfl)), World.cell?_setCell_other _ _ _ _ (hv i j)]
theorem byte_shl32 (x : Int) (i : Nat) (hi : i < 4) (h0 : 0 ≤ x) (h1 : x < 256) : IntKind.u32.wrap (x * 2 ^ (8 * i)) = pow2 (8 * i) * x := by
  have h := sh_lt (y := x) (k := i) (n := 4) ⟨h0, h1⟩ hi
  have e := sh_cast (y := x) (k := i) ⟨h0, h1⟩
  have h4 : (2 : Nat) ^ (8 * 4) = 4294967296 := by decide
  rw [two_pow_int, Int.mul_comm, IntKind.wrap_u32, e]
  omega
theorem byte_shl16 (x : Int) (i : Nat) (hi : i < 2) (h0 : 0 ≤ x) (h1 : x < 256) : IntKind.u16.wrap (x * 2 ^ (8 * i)) = pow2 (8 * i) * x := by
  have h := sh_lt (y := x) (k := i) (n := 2) ⟨h0, h1⟩ hi
  have e := sh_cast (y := x) (k := i) ⟨h0, h1⟩
  have h4 : (2 : Nat) ^ (8 * 2) = 65536 := by decide
  rw [two_pow_int, Int.mul_comm, IntKind.wrap_u16, e]
  omega
end Go.Proofs.Ytfjccpalkdmniaa
