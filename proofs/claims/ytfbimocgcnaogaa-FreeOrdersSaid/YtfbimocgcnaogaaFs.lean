/- Drawn regions of layer 8's laws: two appends to a row of the call's own; an append under a guard. Conditions: as each theorem names them. -/
import Derived.Test.YtfbimocgcnaogaaFel
import Derived.Test.YtfbimocgcnaogaaFe5
import Derived.Test.YtfbimocgcnaogaaFo0
namespace Go.Proofs.Ytfbimocgcnaogaa
open Go.ChangeShapes Go.WideShapes Go.ChangeAt Go.RowKit
set_option linter.unusedVariables false
set_option maxRecDepth 100000

theorem app_rowBK {B B2 : Nat} {W : World} {v u : Value} {G L : List Int} (hv : RowA B W v G) (hu : IntsZ W u L) (hB : B ≤ W.heap.size) (hg : G.length ≤ 1000000) (hl : L.length ≤ 1000000) :
    ∃ v' w', (∀ ty, (Builtin.append_ #[22, 22] ty #[v, u]).run Try.prog W = .ok v' w') ∧ IntsK B2 w' v' (G ++ L) ∧ Chg (fun b => B ≤ b) W w' := by
  rcases hv with hv | ⟨rfl, g, rfl⟩
  · obtain ⟨v', w', h1, h2, h3⟩ := app_own hv hu hB (by omega)
    refine ⟨v', w', h1, h2.k, ⟨h3.os, h3.tape, h3.output, h3.size, fun k hk hX => h3.block k hk (fun e => hX ?_)⟩⟩
    rcases hv.2 with ⟨rfl, _⟩ | ⟨g, cap, cur, rfl, hg, _⟩
    · cases e
    · simp [Value.ownBlock] at e
      omega
  · obtain ⟨v', w', h1, h2, h3⟩ := app_emptyK (B := B2) g hu hl
    exact ⟨v', w', h1, h2, Chg.of_below h3⟩
theorem chg_below {B : Nat} {w0 w w' : World} (h : Below B w0 w) (hB : B ≤ w0.heap.size) (hc : Chg (fun b => B ≤ b) w w') : Below B w0 w' := h.trans (hc.below (by have := h.size; omega) (fun k hk => by omega))
/-- append by an equation of its run, under a guard that holds -/
theorem wpList_append_run_w {P : Program} {w w' : World} {ops : Array Oper} {rest : List Oper} {o : Oper} {a : Act} {Q : Exit → Act → World → Prop} {v u v' : Value} (hw : Region.wanted o (yielded ops a.tmps) = true) (s x : Operand) (t : TypeId)
    (ho : o.op = .call { callee := .builtin .append, args := #[s, x], argTypes := #[t, t] }) (hs : a.eval s = v) (hx : a.eval x = u)
    (hrun : (Builtin.append_ #[t, t] o.type #[v, u]).run P w = .ok v' w') (h : wpList P ops Q rest (a.put o.dst v') w') : wpList P ops Q (o :: rest) a w := by
  refine wpList_step fun K hK => ?_
  simp only [hw, if_true]
  unfold Oper.wp
  simp [execOp, ho, resolve, invoke, builtin, hs, hx, hrun, Result.andThen]
  exact hK _ _ h
/-- two slices apart: by what was there before the one was made -/
theorem apart_old {B : Nat} {u w : World} {e v : Value} {T L : List Int} (h : OwnZ B w e T) (hB : u.heap.size ≤ B) (hv : IntsZ u v L) : Apart e v := fun a n c a2 n2 c2 ee ev hn hn2 he => by
  rcases h.at with ⟨_, e1⟩ | ⟨g, c1, e1, hg, _⟩
  · rw [e1] at ee
    cases ee
  · rw [e1] at ee
    cases ee
    rcases hv with ⟨⟨x, y, e2, _⟩, _⟩ | ⟨b, o, c3, e2, hb, _⟩
    · rw [e2] at ev
      cases ev
      omega
    · rw [e2] at ev
      cases ev
      have he : g = b := he
      omega
theorem apart_from {B : Nat} {u : World} {e z q : Value} {T : List Int} (h : OwnZ B u e T) (hf : From u z [q]) (ha : Apart e q) : Apart e z := fun a n c a2 n2 c2 ee ez hn hn2 he => by
  rcases hf a2 n2 c2 ez hn2 with h1 | ⟨u1, a3, n3, c3, hm, e3, h3, h4⟩
  · rcases h.at with ⟨_, e1⟩ | ⟨g, c1, e1, _, hg, _⟩
    · rw [e1] at ee
      cases ee
    · rw [e1] at ee
      cases ee
      have he : g = a2.block := he
      omega
  · rw [List.mem_singleton] at hm
    subst hm
    exact ha a n c a3 n3 c3 ee e3 hn h3 (he.trans h4.symm)
theorem OwnZ.setCell {B : Nat} {w : World} {v : Value} {L : List Int} (h : OwnZ B w v L) {b i : Nat} {C : List Value} (hb : BlkAt w b C 24) {B0 : Nat} (hB : B0 ≤ b) (x : Value) : OwnZ B (w.setCell ⟨b, i, none⟩ x) v L := by
  refine ⟨h.1, ?_⟩
  rcases h.2 with hn | ⟨gg, cap, cur, rfl, hg, hh, rest⟩
  · exact .inl hn
  · exact .inr ⟨gg, cap, cur, rfl, hg, (Below.heap_setCell w ⟨b, i, none⟩ x gg (not_free hh hb)).trans hh, rest⟩
/-- a row that has elements has grown: what lies apart stays -/
theorem IntsK.gr {B : Nat} {w w' : World} {e v : Value} {L : List Int} (h : IntsK B w v L) (hg : w.grownBy w' e.ownBlock) {g n c : Nat} (he : e = .slice (some ⟨g, 0, none⟩) n c) (hn : 0 < n) (ha : Apart e v) : IntsK B w' v L := by
  subst he
  have hk : ∀ a n2 c2, v = .slice (some a) n2 c2 → 0 < n2 → a.block < w.heap.size → w'.heap[a.block]? = w.heap[a.block]? := fun a n2 c2 ev hn2 hlt => hg.block a.block hlt (fun e => by
    have h1 := ha _ _ _ _ _ _ rfl ev hn hn2
    simp [Value.ownBlock] at e
    exact h1 e.symm)
  refine ⟨?_, fun a n2 c2 ev hn2 => ?_⟩
  · rcases h.1 with h0 | ⟨b, o, c1, h1, h2, h3, h4⟩
    · exact Or.inl h0
    · refine Or.inr ⟨b, o, c1, h1, Nat.lt_of_lt_of_le h2 hg.size, h3, fun j hj => ?_⟩
      exact (World.cell?_of_block (a := ⟨b, o + j, none⟩) (hk ⟨b, o, none⟩ _ _ h1 (by omega) h2)).trans (h4 j hj)
  · rcases h.2 a n2 c2 ev hn2 with h1 | ⟨cs, fr, h1⟩
    · exact Or.inl h1
    · exact Or.inr ⟨cs, fr, (hk a n2 c2 ev hn2 (lt_blk h1)).trans h1⟩
theorem BlkAt.gr {B : Nat} {w w' : World} {e : Value} {T : List Int} {b : Nat} {C : List Value} (h : BlkAt w b C 24) (hg : w.grownBy w' e.ownBlock) (ho : OwnZ B w e T) : BlkAt w' b C 24 := by
  refine (hg.block b h.lt (fun e1 => ?_)).trans h
  rcases ho.2 with ⟨rfl, _⟩ | ⟨gg, cap, cur, rfl, _, hh, _⟩
  · cases e1
  · simp [Value.ownBlock] at e1
    exact not_free hh h e1.symm
/-- appended to a row with elements -/
theorem app_ownK {B : Nat} {w : World} {v u : Value} {L M : List Int} (hv : OwnZ B w v L) (h0 : 0 < L.length) (hu : IntsZ w u M) (hl : L.length + M.length ≤ 2000000) :
    ∃ v' w', (∀ ty, (Builtin.append_ #[22, 22] ty #[v, u]).run Try.prog w = .ok v' w') ∧ (∀ B2, IntsK B2 w' v' (L ++ M)) ∧ w.grownBy w' v.ownBlock ∧ Below B w w' ∧ (∃ g c, v = .slice (some ⟨g, 0, none⟩) L.length c) := by
  have hB : B ≤ w.heap.size := by
    rcases hv.at with ⟨e, _⟩ | ⟨g, c, e, h1, h2, _⟩
    · rw [e] at h0
      simp at h0
    · omega
  obtain ⟨v', w', h1, h2, h3⟩ := app_own hv hu hB hl
  refine ⟨v', w', h1, fun B2 => h2.k, h3, grown_below h3 hB (fun k hk => ?_), ?_⟩
  · rcases hv.2 with ⟨rfl, _⟩ | ⟨g, cap, cur, rfl, hg, _⟩
    · cases hk
    · simp [Value.ownBlock] at hk
      omega
  · rcases hv.at with ⟨e, _⟩ | ⟨g, c, e, _⟩
    · rw [e] at h0
      simp at h0
    · exact ⟨g, c, e⟩
/-- box bp is written whole -/
def PutAt (bp : Nat) (w w' : World) : Prop := ∃ x y C, BlkAt w bp C 24 ∧ w' = (w.setCell ⟨bp, 0, none⟩ x).setCell ⟨bp, 1, none⟩ y
theorem putAt_k {bp B : Nat} {L : List Int} (hB : B ≤ bp) : Ch (PutAt bp) (fun v W => IntsK B W v L) := fun v w w' hp h => by
  obtain ⟨x, y, C, hc, rfl⟩ := hp
  exact (h.setCell (i := 0) hc hB x).setCell (i := 1) (hc.set 0 x) hB y
theorem putAtT_k {bp B : Nat} {L : List Int} {S E : Int} (hB : B ≤ bp) : Ch (PutAt bp) (fun v W => ∃ x, v = .tuple #[.agg #[.int .i64 S, x], .int .i64 E] ∧ IntsK B W x L) := fun _ _ _ hp ⟨x, e, h⟩ => ⟨x, e, putAt_k hB x _ _ hp h⟩
theorem putAtA_k {bp B : Nat} {L : List Int} {S : Int} (hB : B ≤ bp) : Ch (PutAt bp) (fun v W => ∃ x, v = .agg #[.int .i64 S, x] ∧ IntsK B W x L) := fun _ _ _ hp ⟨x, e, h⟩ => ⟨x, e, putAt_k hB x _ _ hp h⟩
/-- only box bp may have been written since U -/
structure Box1 (U : World) (bp : Nat) (W : World) : Prop where
  chg : Chg (· = bp) U W
  box : ∃ x y, BlkAt W bp [x, y] 24
theorem Box1.below {U W W' : World} {bp : Nat} (h : Box1 U bp W) (hb : Below W.heap.size W W') : Box1 U bp W' := by
  obtain ⟨x, y, hx⟩ := h.box
  exact ⟨h.chg.trans (Chg.of_below hb), x, y, hx.below hb⟩
theorem Box1.put {U W W' : World} {bp : Nat} (h : Box1 U bp W) (hp : PutAt bp W W') : Box1 U bp W' := by
  obtain ⟨x, y, hx⟩ := h.box
  obtain ⟨x', y', C, _, rfl⟩ := hp
  exact ⟨(h.chg.setCell (Or.inl rfl) _).setCell (Or.inl rfl) _, x', y', (hx.set 0 _).set 1 _⟩
theorem IntsK.box1 {U W : World} {bp B : Nat} {v : Value} {L : List Int} {C : List Value} (h : IntsK B U v L) (hw : Box1 U bp W) (hc : BlkAt U bp C 24) (hB : B ≤ bp) : IntsK B W v L := by
  have hne : ∀ a n c, v = .slice (some a) n c → 0 < n → a.block ≠ bp := fun a n c e hn => by
    rcases h.2 a n c e hn with h1 | ⟨cs, fr, h1⟩
    · omega
    · exact not_free h1 hc
  refine ⟨?_, fun a n c e hn => ?_⟩
  · rcases h.1 with h0 | ⟨g, o, c, h1, h2, h3, h4⟩
    · exact Or.inl h0
    · by_cases hl : L.length = 0
      · exact Or.inl ⟨⟨some ⟨g, o, none⟩, c, by rw [h1, hl], fun e => by cases e⟩, List.length_eq_zero_iff.1 hl⟩
      · have hgb : g ≠ bp := hne _ _ _ h1 (by omega)
        have := hw.chg.size
        exact Or.inr ⟨g, o, c, h1, by omega, h3, fun j hj => (hw.chg.cell h2 hgb).trans (h4 j hj)⟩
  · rcases h.2 a n c e hn with h1 | ⟨cs, fr, h1⟩
    · exact Or.inl h1
    · exact Or.inr ⟨cs, fr, hw.chg.keep h1 (hne a n c e hn)⟩
theorem BlkAt.box1 {U W : World} {bp b : Nat} {C : List Value} {t : TypeId} (h : BlkAt U b C t) (hw : Box1 U bp W) (hne : b ≠ bp) : BlkAt W b C t := hw.chg.keep h hne
theorem Box1.old {U W : World} {bp B : Nat} {w : World} (hw : Box1 U bp W) (h : Below B w U) (hB : B ≤ bp) (hs : B ≤ w.heap.size) : Below B w W := h.trans (hw.chg.below (by have := h.size; omega) (fun k hk e => by omega))
theorem up_at (bp B : Nat) (L : List Int) (S : Int) : Up (fun _ W => ∃ x, BlkAt W bp [.int .i64 S, x] 24 ∧ IntsK B W x L) := fun _ _ _ hb ⟨x, h1, h⟩ => ⟨x, h1.below hb, h.below hb⟩
theorem pick_nat (n : Int) (m : Nat) (w : World) (h1 : 0 < m) (h2 : m ≤ 1000000) : ∃ k : Nat, k < m ∧ n % (m : Int) = k := by
  have h := Int.emod_nonneg n (show (m : Int) ≠ 0 by omega)
  have h3 := Int.emod_lt_of_pos n (show (0 : Int) < m by omega)
  exact ⟨(n % (m : Int)).toNat, by omega, by omega⟩
end Go.Proofs.Ytfbimocgcnaogaa
