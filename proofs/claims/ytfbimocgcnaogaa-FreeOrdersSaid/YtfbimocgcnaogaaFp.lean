/- What a drawn end that builds lists of ints and stores a free list keeps. Conditions: as each theorem names them. -/
import Derived.Test.YtfbimocgcnaogaaAz
import Derived.Test.YtfbimocgcnaogaaOutl3
namespace Go.Proofs.Ytfbimocgcnaogaa
open Go.ChangeShapes Go.WideShapes Go.ChangeAt Go.RowKit
set_option linter.unusedVariables false
set_option maxRecDepth 100000

/-- two cells of block rb are written -/
def PutFr (rb : Nat) (w w' : World) : Prop := ∃ x y, w' = (w.setCell ⟨rb, 0, none⟩ x).setCell ⟨rb, 1, none⟩ y
theorem Chg.setCell {X : Nat → Prop} {w w' : World} (h : Chg X w w') {b o : Nat} (hb : X b ∨ w.heap.size ≤ b) (x : Value) : Chg X w (w'.setCell ⟨b, o, none⟩ x) := by
  refine ⟨h.os, h.tape, h.output, by simpa using h.size, fun k hk hX => ?_⟩
  have hne : k ≠ b := fun e => by
    rcases hb with hb | hb
    · exact hX (e ▸ hb)
    · omega
  rw [Below.heap_setCell w' ⟨b, o, none⟩ x k hne]
  exact h.block k hk hX
theorem PutFr.chg {rb : Nat} {w w' : World} (h : PutFr rb w w') : Chg (· = rb) w w' := by
  obtain ⟨x, y, rfl⟩ := h
  exact ((Chg.refl (· = rb) w).setCell (Or.inl rfl) x).setCell (Or.inl rfl) y
theorem up_slice0 : Up (fun v _ => ∃ g, v = .slice (some ⟨g, 0, none⟩) 0 0) := fun _ _ _ _ h => h
theorem up_intsN (B : Nat) (L : List Int) : Up (fun v W => IntsN B W v L) := fun _ _ _ hb h => h.below hb
theorem putFr_intsN {rb B : Nat} {L : List Int} (h : rb < B) : Ch (PutFr rb) (fun v W => IntsN B W v L) := fun _ _ _ hp hv => hv.chg hp.chg (fun b hb e => by omega)
theorem up_agg (S : Int) (B : Nat) (L : List Int) : Up (fun v W => ∃ x, v = .agg #[.int .i64 S, x] ∧ IntsN B W x L) := fun _ _ _ hb ⟨x, e, h⟩ => ⟨x, e, h.below hb⟩
theorem putFr_agg {S : Int} {rb B : Nat} {L : List Int} (h : rb < B) : Ch (PutFr rb) (fun v W => ∃ x, v = .agg #[.int .i64 S, x] ∧ IntsN B W x L) := fun _ _ _ hp ⟨x, e, hv⟩ => ⟨x, e, hv.chg hp.chg (fun b hb e => by omega)⟩
theorem up_blk (rb : Nat) (S : Int) (B : Nat) (L : List Int) (t : TypeId) : Up (fun _ W => ∃ x, BlkAt W rb [.int .i64 S, x] t ∧ IntsN B W x L) := fun _ _ _ hb ⟨x, e, h⟩ => ⟨x, e.below hb, h.below hb⟩
/-- where such an end stands: a box with the free list, a result to be written -/
structure TkS (w : World) (B bx rb : Nat) (S : Int) (v : Value) (W : World) : Prop where
  box : BlkAt W bx [.int .i64 S, v] 24
  old : Below w.heap.size w W
  sz : B ≤ W.heap.size
  res : ∃ x y, BlkAt W rb [x, y] 24
theorem TkS.c0 {w W : World} {B bx rb : Nat} {S : Int} {v : Value} (h : TkS w B bx rb S v W) : W.cell? ⟨bx, 0, none⟩ = some (.int .i64 S) := h.box.cell 0
theorem TkS.c1 {w W : World} {B bx rb : Nat} {S : Int} {v : Value} (h : TkS w B bx rb S v W) : W.cell? ⟨bx, 1, none⟩ = some v := h.box.cell 1
theorem TkS.below {w W W' : World} {B bx rb : Nat} {S : Int} {v : Value} (h : TkS w B bx rb S v W) (hb : Below W.heap.size W W') : TkS w B bx rb S v W' := by
  obtain ⟨x, y, hr⟩ := h.res
  exact ⟨h.box.below hb, below_then h.old hb, Nat.le_trans h.sz hb.size, x, y, hr.below hb⟩
theorem TkS.put {w W W' : World} {B bx rb : Nat} {S : Int} {v : Value} (h : TkS w B bx rb S v W) (hne : bx ≠ rb) (hw : w.heap.size ≤ rb) (hp : PutFr rb W W') : TkS w B bx rb S v W' := by
  obtain ⟨x, y, hr⟩ := h.res
  obtain ⟨x', y', rfl⟩ := hp
  refine ⟨(h.box.other hne _).other hne _, (h.old.setCell hw _).setCell hw _, ?_, x', y', (hr.set 0 _).set 1 _⟩
  simpa using h.sz
theorem app_empty {B : Nat} {W : World} (g : Nat) {u : Value} {M : List Int} (hu : IntsZ W u M) (hB : B ≤ W.heap.size) (hl : M.length ≤ 1000000) :
    ∃ v' w', (∀ ty, (Builtin.append_ #[22, 22] ty #[.slice (some ⟨g, 0, none⟩) 0 0, u]).run Try.prog W = .ok v' w') ∧ IntsN B w' v' M ∧ Below W.heap.size W w' := by
  obtain ⟨v', w', h1, h2, h3⟩ := app_full (w := W) (a := some ⟨g, 0, none⟩) (c := 0) (L := []) (Or.inl ⟨⟨_, _, rfl, fun h => by cases h⟩, rfl⟩) rfl hu (by simp; omega)
  refine ⟨v', w', h1, ?_, h2⟩
  rcases h3 with ⟨rfl, rfl, rfl⟩ | ⟨_, h3⟩
  · exact Or.inl ⟨⟨_, _, rfl, fun h => by cases h⟩, rfl⟩
  · exact h3.n.mono hB
end Go.Proofs.Ytfbimocgcnaogaa
