/- Contracts of gmem's accesses that write, and of those that copy: encode, Store, Write, Read, Image. Conditions: as each theorem names them. -/
import Derived.Test.YtfbimocgcnaogaaGm3
import Derived.Test.YtfbimocgcnaogaaBw
import Derived.Test.YtfbimocgcnaogaaBl
namespace Go.Proofs.Ytfbimocgcnaogaa
open Go.ChangeShapes Go.WideShapes Go.ChangeAt Go.RowKit
set_option linter.unusedVariables false

/-! ## Store -/
def storeM (L : List (Int × Int)) (M : List Int) (a n v : Int) : List Int :=
  if wid n then (match loc L a n with | some k => put M k (leB n.toNat v) | none => M) else M
/-! ## Write -/
/-- a slice of bytes, nil too, that reads as l -/
def BytesAt (w : World) (v : Value) (l : List Int) : Prop :=
  ((∃ a c, v = .slice a 0 c ∧ (a = none → c = 0)) ∧ l = []) ∨ ∃ b o c : Nat, v = .slice (some ⟨b, o, none⟩) l.length c ∧ b < w.heap.size ∧ l.length ≤ c ∧ ∀ j, j < l.length → w.cell? ⟨b, o + j, none⟩ = some (.int .u8 (l.getD j 0))
theorem BytesAt.below {w w' : World} {v : Value} {l : List Int} (h : BytesAt w v l) (hb : Below w.heap.size w w') : BytesAt w' v l := by
  rcases h with h | ⟨b, o, c, h1, h2, h3, h4⟩
  · exact Or.inl h
  · have := hb.size
    exact Or.inr ⟨b, o, c, h1, by omega, h3, fun j hj => (hb.cell (p := ⟨b, o + j, none⟩) h2).trans (h4 j hj)⟩
def writeE (L : List (Int × Int)) (a : Int) (l : List Int) : Int := if l.isEmpty then 0 else (if (loc L a l.length).isSome then 0 else 5)
def writeM (L : List (Int × Int)) (M : List Int) (a : Int) (l : List Int) : List Int := match loc L a l.length with | some k => put M k l | none => M
theorem loc_empty (L : List (Int × Int)) (a n : Int) (h : n < 1) : loc L a n = none := loc_no fun i _ hc => by omega

/-! ## Read -/
def readE (L : List (Int × Int)) (a n : Int) : Int := if n < 0 then 2 else if n = 0 then 0 else if (loc L a n).isSome then 0 else 5
def readL (L : List (Int × Int)) (M : List Int) (a n : Int) : List Int := match loc L a n with | some k => (M.drop k).take n.toNat | none => []
theorem readL_bytes {L : List (Int × Int)} {M : List Int} {a n : Int} (h : isBytes M) : isBytes (readL L M a n) := by
  unfold readL
  cases loc L a n
  · exact isBytes_nil
  · exact isBytes_take (isBytes_drop h _) _
/-- new bytes: a slice of the call's own -/
def NewBytes (B : Nat) (w : World) (v : Value) (l : List Int) : Prop :=
  (v = .slice none 0 0 ∧ l = []) ∨ ∃ b c : Nat, v = .slice (some ⟨b, 0, none⟩) l.length c ∧ B ≤ b ∧ l.length ≤ c ∧ ∃ cs : List Value, w.heap[b]? = some (.cells (l.map (Value.int .u8) ++ cs).toArray 5 (0, 0)) ∧ c = l.length + cs.length
theorem NewBytes.at {B : Nat} {w : World} {v : Value} {l : List Int} (h : NewBytes B w v l) : BytesAt w v l := by
  rcases h with h | ⟨b, c, h1, h2, h3, cs, h4, _⟩
  · exact Or.inl ⟨⟨none, 0, h.1, fun _ => rfl⟩, h.2⟩
  · refine Or.inr ⟨b, 0, c, h1, lt_blk h4, h3, fun j hj => ?_⟩
    rw [cellK h4, List.getElem?_append_left (by simp; omega)]
    simp [hj, List.getD]
theorem NewBytes.below {B : Nat} {w w' : World} {v : Value} {l : List Int} (h : NewBytes B w v l) (hb : Below w.heap.size w w') : NewBytes B w' v l := by
  rcases h with h | ⟨b, c, h1, h2, h3, cs, h4, h5⟩
  · exact Or.inl h
  · exact Or.inr ⟨b, c, h1, h2, h3, cs, keepB hb h4, h5⟩

/-! ## Image -/
end Go.Proofs.Ytfbimocgcnaogaa
