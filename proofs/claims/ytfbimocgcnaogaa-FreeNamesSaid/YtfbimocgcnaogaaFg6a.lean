/- What a drawn end with joined lists keeps; two parts of a list lie apart. Conditions: as each theorem names them. -/
import Derived.Test.YtfbimocgcnaogaaFg5
import Derived.Test.YtfbimocgcnaogaaFe5
namespace Go.Proofs.Ytfbimocgcnaogaa
open Go.ChangeShapes Go.WideShapes Go.ChangeAt Go.RowKit
set_option linter.unusedVariables false
set_option maxRecDepth 100000

theorem eval_const (A : Act) (c : Value) : A.eval (.const c) = c := rfl
/-- two slices with elements lie in two blocks -/
def Apart (v u : Value) : Prop := ∀ a n c a2 n2 c2, v = .slice (some a) n c → u = .slice (some a2) n2 c2 → 0 < n → 0 < n2 → a.block ≠ a2.block
theorem apart_nil (u : Value) : Apart (.slice none 0 0) u := fun a n c a2 n2 c2 e => by cases e
theorem JnZ.own {B : Nat} {w : World} {x : Value} {M : List Int} (h : JnZ B w x M) (hM : M ≠ []) : OwnZ B w x M := by
  rcases h with h | ⟨h, _⟩
  · exact h
  · exact absurd h hM
/-- by what they hold: none of the one is one of the other -/
theorem apart_of {B B2 : Nat} {w : World} {v u : Value} {L M : List Int} (hv : OwnZ B w v L) (hu : JnZ B2 w u M) (hd : ∀ x ∈ L, x ∉ M) : Apart v u := fun a n c a2 n2 c2 ev eu hn hn2 e => by
  rcases hv.at with ⟨_, e1⟩ | ⟨g, c1, e1, _, _, _, h1⟩
  · rw [e1] at ev
    cases ev
  · rw [e1] at ev
    cases ev
    rcases hu with hu | ⟨_, b, e2⟩
    · rcases hu.at with ⟨_, e2⟩ | ⟨g2, c3, e2, _, _, _, h2⟩
      · rw [e2] at eu
        cases eu
      · rw [e2] at eu
        cases eu
        have e : g = g2 := e
        subst e
        have k1 := h1 0 hn
        rw [h2 0 hn2] at k1
        injection k1 with k1
        injection k1 with _ k1
        exact hd _ (getD_mem hn) (by rw [← k1]; exact getD_mem hn2)
    · rw [e2] at eu
      cases eu
      omega
theorem apart_cut {B B2 : Nat} {w : World} {v u : Value} {L : List Int} {q : Nat} (hv : OwnZ B w v (L.take q)) (hu : JnZ B2 w u (L.drop q)) (hn : L.Nodup) : Apart v u := by
  rw [← List.take_append_drop q L] at hn
  exact apart_of hv hu (fun x hx hm => (List.nodup_append.1 hn).2.2 x hx x hm rfl)
theorem JnZ.chg {B : Nat} {X : Nat → Prop} {w w' : World} {v : Value} {L : List Int} (h : JnZ B w v L) (hc : Chg X w w') (hX : ∀ b, B ≤ b → ¬ X b) : JnZ B w' v L := by
  rcases h with h | h
  · exact Or.inl (h.keep fun g _ hg hlt => hc.block g hlt (hX g hg))
  · exact Or.inr h
theorem up_jn (B : Nat) (L : List Int) : Up (fun v W => JnZ B W v L) := fun _ _ _ hb h => h.below hb
theorem putFr_jn {rb B : Nat} {L : List Int} (h : rb < B) : Ch (PutFr rb) (fun v W => JnZ B W v L) := fun _ _ _ hp hv => hv.chg hp.chg (fun b hb e => by omega)
theorem up_jagg (S : Int) (B : Nat) (L : List Int) : Up (fun v W => ∃ x, v = .agg #[.int .i64 S, x] ∧ JnZ B W x L) := fun _ _ _ hb ⟨x, e, h⟩ => ⟨x, e, h.below hb⟩
theorem putFr_jagg {S : Int} {rb B : Nat} {L : List Int} (h : rb < B) : Ch (PutFr rb) (fun v W => ∃ x, v = .agg #[.int .i64 S, x] ∧ JnZ B W x L) := fun _ _ _ hp ⟨x, e, hv⟩ => ⟨x, e, hv.chg hp.chg (fun b hb e => by omega)⟩
theorem up_jblk (rb : Nat) (S : Int) (B : Nat) (L : List Int) (t : TypeId) : Up (fun _ W => ∃ x, BlkAt W rb [.int .i64 S, x] t ∧ JnZ B W x L) := fun _ _ _ hb ⟨x, e, h⟩ => ⟨x, e.below hb, h.below hb⟩
end Go.Proofs.Ytfbimocgcnaogaa
