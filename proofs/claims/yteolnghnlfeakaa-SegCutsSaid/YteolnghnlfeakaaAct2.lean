/- Layer 2's acts as they came in; small; the closure of GmemHolds. Conditions: as each theorem names them. -/
import Derived.Test.YteolnghnlfeakaaOwn
import Derived.Test.YteolnghnlfeakaaArg
import Derived.Test.YteolnghnlfeakaaKit
namespace Go.Proofs.Yteolnghnlfeakaa
open Go.ChangeShapes Go.WideShapes Go.ChangeAt Go.RowKit
set_option linter.unusedVariables false
set_option maxRecDepth 100000

/-- one act: its fields, and what its bytes read as -/
structure ActT where
  kind : Int
  at_ : Int
  n : Int
  v : Int
  b : Value
  l : List Int
instance : Inhabited ActT := ⟨⟨0, 0, 0, 0, .slice none 0 0, []⟩⟩
def actAt (A : List ActT) (i : Nat) : ActT := A.getD i default
def isAct (w : World) (x : ActT) : Prop := U64 x.at_ ∧ U64 x.v ∧ (-9223372036854775808 ≤ x.kind ∧ x.kind < 9223372036854775808) ∧ (-9223372036854775808 ≤ x.n ∧ x.n < 9223372036854775808) ∧ BytesAt w x.b x.l ∧ isBytes x.l ∧ x.l.length ≤ maxLen
/-- a slice of acts that reads as A -/
def ActsAt (w : World) (v : Value) (A : List ActT) : Prop :=
  ((∃ a c, v = .slice a 0 c ∧ (a = none → c = 0)) ∧ A = []) ∨ ∃ b o c : Nat, v = .slice (some ⟨b, o, none⟩) A.length c ∧ b < w.heap.size ∧ A.length ≤ c ∧ ∀ j, j < A.length → (w.cell? ⟨b, o + j * 5, none⟩ = some (.int .i64 (actAt A j).kind) ∧ w.cell? ⟨b, o + j * 5 + 1, none⟩ = some (.int .u64 (actAt A j).at_) ∧ w.cell? ⟨b, o + j * 5 + 2, none⟩ = some (.int .i64 (actAt A j).n) ∧ w.cell? ⟨b, o + j * 5 + 3, none⟩ = some (.int .u64 (actAt A j).v) ∧ w.cell? ⟨b, o + j * 5 + 4, none⟩ = some (actAt A j).b)
def isActs (w : World) (A : List ActT) : Prop := ∀ j, j < A.length → isAct w (actAt A j)

theorem isAct.below {w w' : World} {x : ActT} (h : isAct w x) (hb : Below w.heap.size w w') : isAct w' x := ⟨h.1, h.2.1, h.2.2.1, h.2.2.2.1, h.2.2.2.2.1.below hb, h.2.2.2.2.2⟩
theorem isActs.below {w w' : World} {A : List ActT} (h : isActs w A) (hb : Below w.heap.size w w') : isActs w' A := fun j hj => (h j hj).below hb
theorem ActsAt.below {w w' : World} {v : Value} {A : List ActT} (h : ActsAt w v A) (hb : Below w.heap.size w w') : ActsAt w' v A := by
  rcases h with h | ⟨b, o, c, h1, h2, h3, h4⟩
  · exact Or.inl h
  · have := hb.size
    refine Or.inr ⟨b, o, c, h1, by omega, h3, fun j hj => ?_⟩
    obtain ⟨g0, g1, g2, g3, g4⟩ := h4 j hj
    exact ⟨(hb.cell (p := ⟨_, _, none⟩) h2).trans g0, (hb.cell (p := ⟨_, _, none⟩) h2).trans g1, (hb.cell (p := ⟨_, _, none⟩) h2).trans g2, (hb.cell (p := ⟨_, _, none⟩) h2).trans g3, (hb.cell (p := ⟨_, _, none⟩) h2).trans g4⟩

section
variable {H : Type} {enc : TypeId × Value → H} {W : World} {r : Reach} {b0 : Nat} {v : Value} {d : DataW H} {p : List MemPlace}
theorem list5 {α : Type} {l : List α} (h : l.length = 5) : ∃ a b c d e, l = [a, b, c, d, e] := by
  match l, h with
  | [a, b, c, d, e], _ => exact ⟨a, b, c, d, e, rfl⟩
end

theorem RegsAt.len {w : World} {v : Value} {L : List (Int × Int)} (h : RegsAt w v L) : ∃ a c, v = .slice a L.length c := by
  rcases h with ⟨⟨a, c, rfl, _⟩, rfl⟩ | ⟨b, o, c, rfl, _⟩
  · exact ⟨a, c, rfl⟩
  · exact ⟨_, _, rfl⟩
theorem ActsAt.len {w : World} {v : Value} {A : List ActT} (h : ActsAt w v A) : ∃ a c, v = .slice a A.length c := by
  rcases h with ⟨⟨a, c, rfl, _⟩, rfl⟩ | ⟨b, o, c, rfl, _⟩
  · exact ⟨a, c, rfl⟩
  · exact ⟨_, _, rfl⟩
/-! ## small -/
theorem BytesAt.len {w : World} {v : Value} {l : List Int} (h : BytesAt w v l) : ∃ a c, v = .slice a l.length c := by
  rcases h with ⟨⟨a, c, rfl, _⟩, rfl⟩ | ⟨b, o, c, rfl, _⟩
  · exact ⟨a, c, rfl⟩
  · exact ⟨_, _, rfl⟩
/-- few acts, each of few bytes -/
def smallB (A : List ActT) : Bool := decide (∀ j, j < min A.length 81 → (actAt A j).l.length ≤ 2000) && decide (A.length ≤ 80)
end Go.Proofs.Yteolnghnlfeakaa
