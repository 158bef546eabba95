/- Lists of ints in blocks of ints: kept where a box of another type is written. Conditions: as each theorem names them. -/
import Derived.Test.YtfbimocgcnaogaaFp
namespace Go.Proofs.Ytfbimocgcnaogaa
open Go.ChangeShapes Go.WideShapes Go.ChangeAt Go.RowKit
set_option linter.unusedVariables false
set_option maxRecDepth 100000

/-- its block, if it has elements, is one of ints -/
def typI (w : World) (v : Value) : Prop := ∀ a n c, v = .slice (some a) n c → 0 < n → ∃ cs fr, w.heap[a.block]? = some (.cells cs 3 fr)
/-- a slice of ints whose block, if it has elements, lies below B or is one of ints -/
def IntsK (B : Nat) (w : World) (v : Value) (L : List Int) : Prop := IntsZ w v L ∧ ∀ a n c, v = .slice (some a) n c → 0 < n → a.block < B ∨ ∃ cs fr, w.heap[a.block]? = some (.cells cs 3 fr)
/-- v's block, if it has elements, is new since w, or one of the others' -/
def From (w : World) (v : Value) (us : List Value) : Prop := ∀ a n c, v = .slice (some a) n c → 0 < n → w.heap.size ≤ a.block ∨ ∃ u a2 n2 c2, u ∈ us ∧ u = .slice (some a2) n2 c2 ∧ 0 < n2 ∧ a2.block = a.block
theorem typI.keep {w w' : World} {v : Value} (h : typI w v) (hk : ∀ (b : Nat) (cs : Array Value) (fr : Nat × Nat), w.heap[b]? = some (.cells cs 3 fr) → ∃ cs' : Array Value, w'.heap[b]? = some (.cells cs' 3 fr)) : typI w' v := fun a n c e hn => by
  obtain ⟨cs, fr, hh⟩ := h a n c e hn
  obtain ⟨cs', h'⟩ := hk _ _ _ hh
  exact ⟨cs', fr, h'⟩
theorem IntsK.below {B : Nat} {w w' : World} {v : Value} {L : List Int} (h : IntsK B w v L) (hb : Below w.heap.size w w') : IntsK B w' v L := ⟨h.1.below hb, fun a n c e hn => by
  rcases h.2 a n c e hn with h1 | ⟨cs, fr, h1⟩
  · exact Or.inl h1
  · exact Or.inr ⟨cs, fr, (hb.block _ (lt_blk h1)).trans h1⟩⟩
theorem IntsK.mono {B B2 : Nat} {w : World} {v : Value} {L : List Int} (h : IntsK B w v L) (hB : B ≤ B2) : IntsK B2 w v L := ⟨h.1, fun a n c e hn => by
  rcases h.2 a n c e hn with h1 | h1
  · exact Or.inl (by omega)
  · exact Or.inr h1⟩
theorem IntsK.len {B : Nat} {w : World} {v : Value} {L : List Int} (h : IntsK B w v L) : ∃ a c, v = .slice a L.length c := h.1.len
theorem IntsK.nil (B : Nat) (w : World) : IntsK B w (.slice none 0 0) [] := ⟨IntsZ.nil w, fun a n c e => by cases e⟩
theorem IntsK.of {w : World} {v : Value} {L : List Int} (h : IntsZ w v L) : IntsK w.heap.size w v L := ⟨h, fun a n c e hn => by
  rcases h with ⟨⟨a2, c2, e2, _⟩, _⟩ | ⟨b, o, c2, e2, hb, _⟩
  · rw [e2] at e
    cases e
    omega
  · rw [e2] at e
    cases e
    exact Or.inl hb⟩
theorem intFree : (3 : TypeId) ≠ 24 := by decide
theorem not_free {w : World} {g b : Nat} {cs : Array Value} {fr : Nat × Nat} {C : List Value} (hg : w.heap[g]? = some (.cells cs 3 fr)) (hb : BlkAt w b C 24) : g ≠ b := fun e => by
  subst e
  have h2 : w.heap[g]? = some (.cells C.toArray 24 (0, 0)) := hb
  rw [hg] at h2
  injection h2 with h2
  injection h2 with _ h3
  exact intFree h3
/-- a box of a free list, not below B, is written -/
theorem IntsK.setCell {B : Nat} {w : World} {v : Value} {L : List Int} (h : IntsK B w v L) {b i : Nat} {C : List Value} (hb : BlkAt w b C 24) (hB : B ≤ b) (x : Value) : IntsK B (w.setCell ⟨b, i, none⟩ x) v L := by
  have hne : ∀ a n c, v = .slice (some a) n c → 0 < n → a.block ≠ b := fun a n c e hn => by
    rcases h.2 a n c e hn with h1 | ⟨cs, fr, h1⟩
    · omega
    · exact not_free h1 hb
  refine ⟨?_, fun a n c e hn => ?_⟩
  · rcases h.1 with h0 | ⟨g, o, c, h1, h2, h3, h4⟩
    · exact Or.inl h0
    · by_cases hl : L.length = 0
      · exact Or.inl ⟨⟨some ⟨g, o, none⟩, c, by rw [h1, hl], fun e => by cases e⟩, List.length_eq_zero_iff.1 hl⟩
      · have hgb : g ≠ b := hne _ _ _ h1 (by omega)
        refine Or.inr ⟨g, o, c, h1, by simpa using h2, h3, fun j hj => ?_⟩
        rw [World.cell?_of_block (Below.heap_setCell w ⟨b, i, none⟩ x g hgb)]
        exact h4 j hj
  · rcases h.2 a n c e hn with h1 | ⟨cs, fr, h1⟩
    · exact Or.inl h1
    · refine Or.inr ⟨cs, fr, ?_⟩
      rw [Below.heap_setCell w ⟨b, i, none⟩ x a.block (hne a n c e hn)]
      exact h1
theorem OwnZ.k {B B2 : Nat} {w : World} {v : Value} {l : List Int} (h : OwnZ B w v l) : IntsK B2 w v l := by
  refine ⟨h.n.z, fun a n c e hn => ?_⟩
  rcases h.2 with ⟨rfl, _⟩ | ⟨g, cap, cur, rfl, _, hh, _⟩
  · cases e
  · cases e
    exact Or.inr ⟨cur, (0, 0), hh⟩
theorem OwnZ.from {w w' : World} {v : Value} {l : List Int} (h : OwnZ w.heap.size w' v l) (us : List Value) : From w v us := fun a n c e hn => by
  rcases h.2 with ⟨rfl, _⟩ | ⟨g, cap, cur, rfl, hg, hh, _⟩
  · cases e
  · cases e
    exact Or.inl hg
theorem IntsK.lit (B : Nat) (w : World) (L : List Int) : IntsK B (w.alloc (.cells (L.map (Value.int .i64)).toArray 3)) (.slice (some ⟨w.heap.size, 0, none⟩) L.length L.length) L :=
  ⟨IntsZ.lit w L 3, fun a n c e hn => by
    cases e
    exact Or.inr ⟨_, _, heap_alloc_new w _⟩⟩
/-- a part of it, as a slice -/
theorem slicesK {B : Nat} {w : World} {va : Option Addr} {vc : Nat} {L : List Int} (hv : IntsK B w (.slice va L.length vc) L) (q : Nat) (hq : q ≤ L.length) :
    ∃ v1 v2, (∀ u, (Instr.sliceAt 22 (.slice va L.length vc) none (some (.int .i64 (q : Int))) none).run Try.prog u = .ok v1 u) ∧ IntsK B w v1 (L.take q) ∧
      (∀ u, (Instr.sliceAt 22 (.slice va L.length vc) (some (.int .i64 (q : Int))) none none).run Try.prog u = .ok v2 u) ∧ IntsK B w v2 (L.drop q) ∧ (∀ b, v1.ownBlock = some b → (Value.slice va L.length vc).ownBlock = some b) ∧ (∀ b, v2.ownBlock = some b → (Value.slice va L.length vc).ownBlock = some b) := by
  have hqi : (q : Int) ≤ (L.length : Int) := by omega
  obtain ⟨hz, ht⟩ := hv
  rcases hz with ⟨⟨a, c, he, hac⟩, rfl⟩ | ⟨b, o, c, he, h2, h3, h4⟩
  · cases he
    obtain rfl : q = 0 := by simpa using hq
    cases va with
    | none =>
      obtain rfl := hac rfl
      refine ⟨.slice none 0 0, .slice none 0 0, fun u => ?_, IntsK.nil _ _, fun u => ?_, IntsK.nil _ _, (fun b e => by cases e), (fun b e => by cases e)⟩
      · simp [go_sem]
      · simp [go_sem]
    | some a =>
      refine ⟨.slice (some a) 0 vc, .slice (some a) 0 vc, fun u => ?_, ⟨Or.inl ⟨⟨_, _, rfl, fun h => by cases h⟩, rfl⟩, (fun a n c e hn => by cases e; omega)⟩, fun u => ?_, ⟨Or.inl ⟨⟨_, _, rfl, fun h => by cases h⟩, rfl⟩, (fun a n c e hn => by cases e; omega)⟩, fun b e => e, fun b e => e⟩
      · simp [go_sem]
      · simp [go_sem]
  · cases he
    have hci : (L.length : Int) ≤ (vc : Int) := by omega
    have hqc : (q : Int) ≤ (vc : Int) := by omega
    have tt : ∀ (o' n c' : Nat), n ≤ L.length → ∀ a n' c2, (Value.slice (some ⟨b, o', none⟩) n c') = .slice (some a) n' c2 → 0 < n' → a.block < B ∨ ∃ cs fr, w.heap[a.block]? = some (.cells cs 3 fr) := fun o' n c' hle a' n' c2 e hn => by
      cases e
      exact ht ⟨b, o, none⟩ _ _ rfl (by omega)
    by_cases hvq : vc = q
    · have hql : L.length = q := by omega
      have hdr : L.drop q = [] := by rw [← hql, List.drop_length]
      refine ⟨.slice (some ⟨b, o, none⟩) q vc, .slice (some ⟨b, o, none⟩) 0 0, fun u => ?_, ⟨IntsZ.front (c := vc) q vc hq h2 (by omega) h4, tt _ _ _ (by omega)⟩, fun u => ?_, ⟨Or.inl ⟨⟨_, _, rfl, fun h => by cases h⟩, hdr⟩, tt _ _ _ (by omega)⟩, fun b e => e, fun b e => e⟩
      · simp [go_sem, hqc]
      · simp [go_sem, hvq, hql]
    · refine ⟨.slice (some ⟨b, o, none⟩) q vc, .slice (some ⟨b, o + q, none⟩) (L.length - q) (vc - q), fun u => ?_, ⟨IntsZ.front (c := vc) q vc hq h2 (by omega) h4, tt _ _ _ (by omega)⟩, fun u => ?_, ⟨IntsZ.back (c := vc) q (vc - q) hq h2 (by omega) h4, tt _ _ _ (by omega)⟩, fun b e => e, fun b e => e⟩
      · simp [go_sem, hqc]
      · simp [go_sem, hqi, hvq]

/-! ### a box of a free list: loaded, made within a region, written -/
theorem infoFr : (Try.prog.info? 24).map (·.size) = some 2 := by kernel_rfl
theorem rangeFr {w : World} {b : Nat} {x y : Value} (h : BlkAt w b [x, y] 24) : w.rangeAt b 0 [x, y] := fun j v hv => by
  match j, hv with
  | 0, hv => simp at hv; subst hv; exact h.cell 0
  | 1, hv => simp at hv; subst hv; exact h.cell 1
theorem loadFr {w : World} {b : Nat} {x y : Value} (h : BlkAt w b [x, y] 24) : (Instr.loadAt 24 (.pointer (some ⟨b, 0, none⟩))).run Try.prog w = .ok (.agg #[x, y]) w := run_loadAt_mid w b 0 _ [x, y] _ (rangeFr h) Try.underlying24 rfl infoFr
/-- a box, not below B, is written whole -/
def PutB (B : Nat) (w w' : World) : Prop := ∃ b x y C, B ≤ b ∧ BlkAt w b C 24 ∧ w' = (w.setCell ⟨b, 0, none⟩ x).setCell ⟨b, 1, none⟩ y
theorem PutB.chg {B : Nat} {w w' : World} (h : PutB B w w') : Chg (fun b => B ≤ b) w w' := by
  obtain ⟨b, x, y, C, hB, _, rfl⟩ := h
  exact ((Chg.refl (fun b => B ≤ b) w).setCell (Or.inl hB) x).setCell (Or.inl hB) y
theorem putB_k {B B2 : Nat} {L : List Int} (hB : B2 ≤ B) : Ch (PutB B) (fun v W => IntsK B2 W v L) := fun v w w' hp h => by
  obtain ⟨b, x, y, C, hb, hc, rfl⟩ := hp
  exact (h.setCell (i := 0) hc (by omega) x).setCell (i := 1) (hc.set 0 x) (by omega) y
theorem up_k (B : Nat) (L : List Int) : Up (fun v W => IntsK B W v L) := fun _ _ _ hb h => h.below hb
theorem upT_k (B : Nat) (L : List Int) (S E : Int) : Up (fun v W => ∃ x, v = .tuple #[.agg #[.int .i64 S, x], .int .i64 E] ∧ IntsK B W x L) := fun _ _ _ hb ⟨x, e, h⟩ => ⟨x, e, h.below hb⟩
theorem putT_k {B B2 : Nat} {L : List Int} {S E : Int} (hB : B2 ≤ B) : Ch (PutB B) (fun v W => ∃ x, v = .tuple #[.agg #[.int .i64 S, x], .int .i64 E] ∧ IntsK B2 W x L) := fun _ _ _ hp ⟨x, e, h⟩ => ⟨x, e, putB_k hB x _ _ hp h⟩
theorem upA_k (B : Nat) (L : List Int) (S : Int) : Up (fun v W => ∃ x, v = .agg #[.int .i64 S, x] ∧ IntsK B W x L) := fun _ _ _ hb ⟨x, e, h⟩ => ⟨x, e, h.below hb⟩
theorem putA_k {B B2 : Nat} {L : List Int} {S : Int} (hB : B2 ≤ B) : Ch (PutB B) (fun v W => ∃ x, v = .agg #[.int .i64 S, x] ∧ IntsK B2 W x L) := fun _ _ _ hp ⟨x, e, h⟩ => ⟨x, e, putB_k hB x _ _ hp h⟩
theorem up_new (B : Nat) : Up (fun v W => ∃ b x y, v = .pointer (some ⟨b, 0, none⟩) ∧ B ≤ b ∧ BlkAt W b [x, y] 24) := fun _ _ _ hb ⟨b, x, y, e, h1, h⟩ => ⟨b, x, y, e, h1, h.below hb⟩
theorem put_new (B B2 : Nat) : Ch (PutB B) (fun v W => ∃ b x y, v = .pointer (some ⟨b, 0, none⟩) ∧ B2 ≤ b ∧ BlkAt W b [x, y] 24) := fun _ w w' hp ⟨b, x, y, e, h1, h⟩ => by
  obtain ⟨g, x2, y2, C, _, hc, rfl⟩ := hp
  by_cases hg : b = g
  · subst hg
    exact ⟨b, _, _, e, h1, (h.set 0 x2).set 1 y2⟩
  · exact ⟨b, x, y, e, h1, (h.other hg _).other hg _⟩
theorem up_full (B : Nat) (L : List Int) (S : Int) : Up (fun v W => ∃ b x, v = .pointer (some ⟨b, 0, none⟩) ∧ BlkAt W b [.int .i64 S, x] 24 ∧ IntsK B W x L) := fun _ _ _ hb ⟨b, x, e, h1, h⟩ => ⟨b, x, e, h1.below hb, h.below hb⟩
theorem app_emptyK {B : Nat} {W : World} (g : Nat) {u : Value} {M : List Int} (hu : IntsZ W u M) (hl : M.length ≤ 1000000) :
    ∃ v' w', (∀ ty, (Builtin.append_ #[22, 22] ty #[.slice (some ⟨g, 0, none⟩) 0 0, u]).run Try.prog W = .ok v' w') ∧ IntsK B w' v' M ∧ Below W.heap.size W w' := by
  obtain ⟨v', w', h1, h2, h3⟩ := app_full (w := W) (a := some ⟨g, 0, none⟩) (c := 0) (L := []) (Or.inl ⟨⟨_, _, rfl, fun h => by cases h⟩, rfl⟩) rfl hu (by simp; omega)
  refine ⟨v', w', h1, ?_, h2⟩
  rcases h3 with ⟨rfl, rfl, rfl⟩ | ⟨_, h3⟩
  · exact ⟨Or.inl ⟨⟨_, _, rfl, fun h => by cases h⟩, rfl⟩, fun a n c e hn => by cases e; simp at hn⟩
  · exact h3.k
theorem putB_below {B : Nat} {w0 w w' : World} (h : Below B w0 w) (hB : B ≤ w0.heap.size) (hp : PutB B w w') : Below B w0 w' := h.trans (hp.chg.below (by have := h.size; omega) (fun k hk => by omega))
theorem sameL_self (L : List Int) : sameL L L = true := decide_eq_true rfl
theorem sameF_self (S : Int) (L : List Int) : sameF S L S L = true := by
  unfold sameF
  rw [sameL_self, decide_eq_true rfl]
  rfl
theorem takA_len {S : Int} {L : List Int} {n : Int} : (takA S L n).length ≤ L.length ∧ (takR S L n).length ≤ L.length := by
  unfold takA takR
  split
  · exact ⟨by rw [List.length_take]; omega, by rw [List.length_drop]; omega⟩
  · simp
theorem givR_len {S : Int} {L G : List Int} : (givR S L G).length ≤ L.length + G.length := by
  unfold givR
  split
  · rw [List.length_append]
    omega
  · simp
end Go.Proofs.Ytfbimocgcnaogaa
