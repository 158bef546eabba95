/- What FreeOnce holds between two calls: all numbers, taken or free. Conditions: as each theorem names them. -/
import Derived.Test.YtfbimocgcnaogaaFs
import Derived.Maps.OwnSet
import Derived.Maps.Views
namespace Go.Proofs.Ytfbimocgcnaogaa
open Go.ChangeShapes Go.WideShapes Go.ChangeAt Go.RowKit Go.Maps
set_option linter.unusedVariables false
set_option maxRecDepth 100000

/-! ### plain facts -/
structure GoodF (S : Int) (O L : List Int) : Prop where
  chk : chkL S L = true
  all : chkL S (O ++ L) = true
  len : (O.length : Int) + L.length = S
theorem chkL_sub {S : Int} {L M : List Int} (h : chkL S L = true) (hs : M.Sublist L) : chkL S M = true := by
  obtain ⟨h1, h2, h3, h4⟩ := chkL_iff.1 h
  have := hs.length_le
  exact chkL_iff.2 ⟨h1, by omega, fun x hx => h3 x (hs.subset hx), h4.sublist hs⟩
theorem GoodF.start {S : Int} (h : newLB S = true) : GoodF S [] (newLL S) := ⟨(newLL_chk h).1, by simpa using (newLL_chk h).1, by simpa using (newLL_chk h).2⟩
theorem GoodF.take {S : Int} {O L : List Int} (h : GoodF S O L) {n : Nat} (hn : n ≤ L.length) : GoodF S (O ++ L.take n) (L.drop n) := by
  refine ⟨chkL_drop h.chk n, ?_, ?_⟩
  · rw [List.append_assoc, List.take_append_drop]
    exact h.all
  · have := h.len
    rw [List.length_append, List.length_take, List.length_drop]
    omega
theorem GoodF.give {S : Int} {O L : List Int} (h : GoodF S O L) {q : Nat} (hq : q ≤ O.length) : GoodF S (O.take q) (O.drop q ++ L) := by
  refine ⟨chkL_sub h.all ((List.drop_sublist q O).append (List.Sublist.refl L)), ?_, ?_⟩
  · rw [← List.append_assoc, List.take_append_drop]
    exact h.all
  · have := h.len
    rw [List.length_append, List.length_take, List.length_drop]
    omega
theorem GoodF.giv {S : Int} {O L : List Int} (h : GoodF S O L) (q : Nat) : givB S L (O.drop q) = true := by
  obtain ⟨h1, h2, h3, h4⟩ := chkL_iff.1 h.all
  obtain ⟨g1, g2, g3⟩ := List.nodup_append.1 h4
  exact givB_iff.2 ⟨h.chk, fun x hx => h3 x (List.mem_append_left _ (List.mem_of_mem_drop hx)), fun x hx hm => g3 x (List.mem_of_mem_drop hx) x hm rfl, g1.sublist (List.drop_sublist q O)⟩
/-- each taken number: not seen before, not free, within -/
theorem GoodF.at {S : Int} {O L : List Int} (h : GoodF S O L) {k : Nat} (hk : k < O.length) : O.getD k 0 ∉ O.take k ∧ isL S L (O.getD k 0) = false ∧ 0 ≤ O.getD k 0 ∧ O.getD k 0 < S := by
  obtain ⟨h1, h2, h3, h4⟩ := chkL_iff.1 h.all
  obtain ⟨g1, g2, g3⟩ := List.nodup_append.1 h4
  have hm := getD_mem hk
  refine ⟨fun hx => ?_, ?_, h3 _ (List.mem_append_left _ hm)⟩
  · have h5 : (O.take (k + 1)).Nodup := g1.sublist (List.take_sublist _ _)
    rw [take_succD hk] at h5
    exact (List.nodup_append.1 h5).2.2 _ hx _ (by simp) rfl
  · unfold isL inB
    rw [decide_eq_false (fun hx => g3 _ hm _ hx rfl), Bool.and_false]
theorem GoodF.cnt {S : Int} {O L : List Int} (h : GoodF S O L) : cntL S L = S - O.length ∧ chkLE S L = 0 := by
  have := h.len
  unfold cntL chkLE
  rw [if_pos h.chk, if_pos h.chk]
  exact ⟨by omega, rfl⟩
theorem tak_full {S : Int} {L : List Int} {n : Nat} (h : chkL S L = true) (h1 : 1 ≤ n) (h2 : L.length < n) : takE S L n = 7 ∧ takS S L n = 0 ∧ takA S L n = [] ∧ takR S L n = [] := by
  have e : takB S L n = false := by
    unfold takB
    rw [decide_eq_false (show ¬ (n : Int) ≤ L.length by omega), Bool.and_false]
  refine ⟨?_, ?_, ?_, ?_⟩
  · unfold takE
    rw [h, decide_eq_true (show (1 : Int) ≤ n by omega), if_pos (show (true && true) = true from rfl), if_neg (by omega)]
  · unfold takS
    rw [e]
    rfl
  · unfold takA
    rw [e]
    rfl
  · unfold takR
    rw [e]
    rfl

/-! ### the list of what is taken -/
/-- full; or a row of the call's own, and the free list lies elsewhere -/
def OutV (B : Nat) (w : World) (v : Value) (O : List Int) (f : Value) : Prop :=
  IntsK B w v O ∧ ((∃ a, v = .slice a O.length O.length) ∨ (OwnZ B w v O ∧ ∀ a n c, f = .slice (some a) n c → 0 < n → v.ownBlock ≠ some a.block))
theorem OutV.below {B : Nat} {w w' : World} {v f : Value} {O : List Int} (h : OutV B w v O f) (hb : Below w.heap.size w w') : OutV B w' v O f := ⟨h.1.below hb, by
  rcases h.2 with h1 | ⟨h1, h2⟩
  · exact Or.inl h1
  · exact Or.inr ⟨h1.below hb, h2⟩⟩
theorem own_typed {B : Nat} {w : World} {v : Value} {l : List Int} (h : OwnZ B w v l) {g : Nat} (hg : v.ownBlock = some g) : B ≤ g ∧ g < w.heap.size ∧ ∃ cs fr, w.heap[g]? = some (.cells cs 3 fr) := by
  rcases h.2 with ⟨rfl, _⟩ | ⟨g', cap, cur, rfl, hB, hh, _⟩
  · cases hg
  · cases hg
    exact ⟨hB, lt_blk hh, cur, _, hh⟩
theorem OwnZ.putAt {B bp : Nat} {w w' : World} {v : Value} {l : List Int} (h : OwnZ B w v l) (hp : PutAt bp w w') : OwnZ B w' v l := by
  obtain ⟨x, y, C, hc, rfl⟩ := hp
  refine h.keep fun g hg hB hlt => ?_
  obtain ⟨_, _, cs, fr, hh⟩ := own_typed h hg
  have hne := not_free hh hc
  exact (Below.heap_setCell _ ⟨bp, 1, none⟩ y g hne).trans (Below.heap_setCell _ ⟨bp, 0, none⟩ x g hne)
theorem OutV.putAt {B bp : Nat} {w w' : World} {v f : Value} {O : List Int} (h : OutV B w v O f) (hB : B ≤ bp) (hp : PutAt bp w w') : OutV B w' v O f := ⟨putAt_k hB _ _ _ hp h.1, by
  rcases h.2 with h1 | ⟨h1, h2⟩
  · exact Or.inl h1
  · exact Or.inr ⟨h1.putAt hp, h2⟩⟩
/-- taken ones are put behind it: only its own block is written -/
theorem OutV.app {B : Nat} {w : World} {v f u : Value} {O A : List Int} (h : OutV B w v O f) (hu : IntsZ w u A) (hA : A ≠ []) (hB : B ≤ w.heap.size) (hl : O.length + A.length ≤ 2000000) :
    ∃ v' w', (∀ ty, (Builtin.append_ #[22, 22] ty #[v, u]).run Try.prog w = .ok v' w') ∧ OwnZ B w' v' (O ++ A) ∧ Chg (fun b => ¬ (∃ a, v = .slice a O.length O.length) ∧ v.ownBlock = some b) w w' ∧ (v'.ownBlock = v.ownBlock ∨ ∀ b, v'.ownBlock = some b → w.heap.size ≤ b) ∧ ((∃ a, v = .slice a O.length O.length) → ∀ b, v'.ownBlock = some b → w.heap.size ≤ b) := by
  by_cases hf : ∃ a, v = .slice a O.length O.length
  · obtain ⟨a, rfl⟩ := hf
    obtain ⟨v', w', h1, h2, h3⟩ := app_full h.1.1 rfl hu hl
    rcases h3 with ⟨e, _⟩ | ⟨_, h3⟩
    · exact absurd e hA
    · exact ⟨v', w', h1, h3.mono hB, Chg.of_below h2, Or.inr (fun b hb => (own_typed h3 hb).1), fun _ b hb => (own_typed h3 hb).1⟩
  · rcases h.2 with h1 | ⟨h1, h2⟩
    · exact absurd h1 hf
    · obtain ⟨v', w', r1, r2, r3⟩ := app_own h1 hu hB hl
      refine ⟨v', w', r1, r2, ⟨r3.os, r3.tape, r3.output, r3.size, fun k hk hX => r3.block k hk (fun e => hX ⟨hf, e.symm⟩)⟩, ?_, fun h' => absurd h' hf⟩
      rcases h1.2 with ⟨rfl, h0⟩ | ⟨g, cap, cur, rfl, hg, hh, hcap, hm, hs, ht⟩
      · exact absurd ⟨none, by rw [h0]⟩ hf
      · obtain ⟨i0, hi, hz0, hz1, hz2⟩ := info_parts rowI64
        rcases hu with ⟨_, e⟩ | ⟨b2, o2, c2, rfl, g2, g3, g4⟩
        · exact absurd e hA
        have hcells := newsZ g4
        by_cases hroom : O.length + A.length ≤ cap
        · left
          have hr := run_append_room_cells (P := Try.prog) w 22 3 3 i0 Try.underlying22 hi g 0 O.length cap ⟨b2, o2, none⟩ A.length c2 (A.map (Value.int .i64)) (by rw [hz1]; simp) hcells oneZ hroom (fun j hj => by
            have hlt : 0 + O.length * i0.size + j < cur.size := by rw [hz1, hs]; simp at hj; omega
            rw [cell_of_row w g _ _ _ _ hh, Array.getElem?_eq_getElem hlt]
            rfl) (fun j hj => frozenK hh _)
          have := r1 3
          rw [hr] at this
          injection this with e1 e2
          rw [← e1]
          rfl
        · right
          have h4 : ∀ j, j < O.length → w.cell? ⟨g, 0 + j, none⟩ = some (.int .i64 (O.getD j 0)) := fun j hj => by
            rcases h1.at with ⟨rfl, e⟩ | ⟨g', c', e, _, _, _, h5⟩
            · simp at hj
            · cases e
              rw [Nat.zero_add]
              exact h5 j hj
          obtain ⟨v2, w2, q1, q2, q3⟩ := run_append_arg_grows (P := Try.prog) w 22 3 3 i0 _ 1 8 Try.underlying22 hi hz0 hz1 hz2 rfl (by decide) ⟨g, 0, none⟩ O.length cap (O.map (Value.int .i64)) (by simp) (newsZ h4) ⟨b2, o2, none⟩ A.length c2 (A.map (Value.int .i64)) (by simp) hcells (by omega) (by simp only [maxLen]; omega) (by omega)
          have := r1 3
          rw [q1] at this
          injection this with e1 e2
          rw [← List.map_append, ← List.length_append] at q2
          rw [← e1]
          exact fun b hb => (own_typed (l := O ++ A) q2 hb).1

/-- what FreeOnce holds between two calls -/
structure OnS (w0 : World) (bf : Nat) (S : Int) (vf : Value) (L : List Int) (vo : Value) (O : List Int) (W : World) : Prop where
  old : Below w0.heap.size w0 W
  box : BlkAt W bf [.int .i64 S, vf] 24
  gb : w0.heap.size ≤ bf
  lf : IntsK w0.heap.size W vf L
  lo : OutV w0.heap.size W vo O vf
  good : GoodF S O L
theorem OnS.below {w0 W W' : World} {bf : Nat} {S : Int} {vf vo : Value} {L O : List Int} (h : OnS w0 bf S vf L vo O W) (hb : Below W.heap.size W W') : OnS w0 bf S vf L vo O W' :=
  ⟨below_then h.old hb, h.box.below hb, h.gb, h.lf.below hb, h.lo.below hb, h.good⟩
/-- the block that is written when something is put behind the taken ones -/
def OG (vo : Value) (O : List Int) (b : Nat) : Prop := ¬ (∃ a, vo = .slice a O.length O.length) ∧ vo.ownBlock = some b
/-- since U only box bf and the row of the taken ones may have been written -/
structure Two (U : World) (bf : Nat) (vo : Value) (O : List Int) (W : World) : Prop where
  chg : Chg (fun b => b = bf ∨ OG vo O b) U W
  box : ∃ x y, BlkAt W bf [x, y] 24
theorem Two.below {U W W' : World} {bf : Nat} {vo : Value} {O : List Int} (h : Two U bf vo O W) (hb : Below W.heap.size W W') : Two U bf vo O W' := by
  obtain ⟨x, y, hx⟩ := h.box
  exact ⟨h.chg.trans (Chg.of_below hb), x, y, hx.below hb⟩
theorem Two.put {U W W' : World} {bf : Nat} {vo : Value} {O : List Int} (h : Two U bf vo O W) (hp : PutAt bf W W') : Two U bf vo O W' := by
  obtain ⟨x, y, hx⟩ := h.box
  obtain ⟨x', y', C, _, rfl⟩ := hp
  exact ⟨(h.chg.setCell (Or.inl (Or.inl rfl)) _).setCell (Or.inl (Or.inl rfl)) _, x', y', (hx.set 0 _).set 1 _⟩
theorem Two.row {U W W' : World} {bf : Nat} {vo : Value} {O : List Int} (h : Two U bf vo O W) (hn : ¬ OG vo O bf) (hc : Chg (OG vo O) W W') : Two U bf vo O W' := by
  obtain ⟨x, y, hx⟩ := h.box
  exact ⟨h.chg.trans (hc.mono fun k _ hk => Or.inr hk), x, y, hc.keep hx hn⟩
/-- a list that lies elsewhere -/
def Away (bf : Nat) (vo : Value) (O : List Int) (v : Value) : Prop := ∀ a n c, v = .slice (some a) n c → 0 < n → a.block ≠ bf ∧ ¬ OG vo O a.block
theorem IntsK.two {U W : World} {bf B : Nat} {vo v : Value} {O L : List Int} (h : IntsK B U v L) (hw : Two U bf vo O W) (ha : Away bf vo O v) : IntsK B W v L := by
  refine ⟨?_, fun a n c e hn => ?_⟩
  · rcases h.1 with h0 | ⟨g, o, c, h1, h2, h3, h4⟩
    · exact Or.inl h0
    · by_cases hl : L.length = 0
      · exact Or.inl ⟨⟨some ⟨g, o, none⟩, c, by rw [h1, hl], fun e => by cases e⟩, List.length_eq_zero_iff.1 hl⟩
      · obtain ⟨n1, n2⟩ := ha _ _ _ h1 (by omega)
        have := hw.chg.size
        exact Or.inr ⟨g, o, c, h1, by omega, h3, fun j hj => (hw.chg.cell h2 (fun e => by rcases e with e | e; exact n1 e; exact n2 e)).trans (h4 j hj)⟩
  · obtain ⟨n1, n2⟩ := ha a n c e hn
    rcases h.2 a n c e hn with h1 | ⟨cs, fr, h1⟩
    · exact Or.inl h1
    · exact Or.inr ⟨cs, fr, hw.chg.keep h1 (fun e => by rcases e with e | e; exact n1 e; exact n2 e)⟩
theorem OutV.og {B : Nat} {w : World} {v f : Value} {O : List Int} (h : OutV B w v O f) {b : Nat} (hb : OG v O b) : B ≤ b ∧ b < w.heap.size ∧ (∃ cs fr, w.heap[b]? = some (.cells cs 3 fr)) ∧ ∀ a n c, f = .slice (some a) n c → 0 < n → b ≠ a.block := by
  rcases h.2 with h1 | ⟨h1, h2⟩
  · exact absurd h1 hb.1
  · obtain ⟨t1, t2, t3⟩ := own_typed h1 hb.2
    exact ⟨t1, t2, t3, fun a n c e hn e2 => h2 a n c e hn (by rw [hb.2, e2])⟩
/-- what Take gave lies elsewhere -/
theorem away_from {w0 W W' : World} {bf : Nat} {S : Int} {vf vo v : Value} {L O M : List Int} (h : OnS w0 bf S vf L vo O W) (hb : Below W.heap.size W W') (hf : From W v [vf]) (hk : IntsK w0.heap.size W' v M) : Away bf vo O v := fun a n c e hn => by
  have hbox := h.box.below hb
  refine ⟨fun e2 => ?_, fun hog => ?_⟩
  · rcases hk.2 a n c e hn with h1 | ⟨cs, fr, h1⟩
    · have := h.gb
      omega
    · exact not_free h1 hbox e2
  · obtain ⟨o1, o2, o3, o4⟩ := h.lo.og hog
    rcases hf a n c e hn with h1 | ⟨u, a2, n2, c2, hu, h1, h2, h3⟩
    · omega
    · rw [List.mem_singleton] at hu
      subst hu
      exact o4 _ _ _ h1 h2 h3.symm
/-- so many were taken: they are put behind the others, and the rest is free -/
theorem OnS.taken {w0 U W : World} {bf : Nat} {S : Int} {vf vo x v' : Value} {L O A M : List Int} (h : OnS w0 bf S vf L vo O U) (ht : Two U bf vo O W) (hx : IntsK w0.heap.size U x M) (hax : Away bf vo O x) (hbox : BlkAt W bf [.int .i64 S, x] 24)
    (hown : OwnZ w0.heap.size W v' (O ++ A)) (h1 : v'.ownBlock = vo.ownBlock ∨ ∀ b, v'.ownBlock = some b → U.heap.size ≤ b) (h2 : (∃ a, vo = .slice a O.length O.length) → ∀ b, v'.ownBlock = some b → U.heap.size ≤ b) (hg : GoodF S (O ++ A) M) : OnS w0 bf S x M v' (O ++ A) W := by
  refine ⟨h.old.trans (ht.chg.below h.old.size (fun k hk e => ?_)), hbox, h.gb, hx.two ht hax, ⟨hown.k, Or.inr ⟨hown, fun a n c e hn hb => ?_⟩⟩, hg⟩
  · rcases e with e | e
    · have := h.gb
      omega
    · have := (h.lo.og e).1
      omega
  · have hlt : a.block < U.heap.size := by
      rcases hx.1 with ⟨⟨a2, c2, e2, _⟩, _⟩ | ⟨b, o, c2, e2, h3, _⟩
      · rw [e2] at e
        cases e
        omega
      · rw [e2] at e
        cases e
        exact h3
    by_cases hf : ∃ a, vo = .slice a O.length O.length
    · have := h2 hf _ hb
      omega
    · rcases h1 with h1 | h1
      · exact (hax a n c e hn).2 ⟨hf, by rw [← h1]; exact hb⟩
      · have := h1 _ hb
        omega
/-- the first q, and no room behind them -/
theorem slice3 {B : Nat} {w : World} {va : Option Addr} {vc : Nat} {L : List Int} (hv : IntsK B w (.slice va L.length vc) L) (q : Nat) (hq : q ≤ L.length) (hl : L.length ≤ 1000000) :
    ∃ a, (∀ u, (Instr.sliceAt 22 (.slice va L.length vc) none (some (.int .i64 (q : Int))) (some (.int .i64 (q : Int)))).run Try.prog u = .ok (.slice a q q) u) ∧ IntsK B w (.slice a q q) (L.take q) := by
  have hqi : (q : Int) ≤ (L.length : Int) := by omega
  have hlt : (L.take q).length = q := by rw [List.length_take]; omega
  obtain ⟨hz, ht⟩ := hv
  rcases hz with ⟨⟨a, c, he, hac⟩, rfl⟩ | ⟨b, o, c, he, h2, h3, h4⟩
  · cases he
    obtain rfl : q = 0 := by simpa using hq
    cases va with
    | none =>
      obtain rfl := hac rfl
      refine ⟨none, fun u => ?_, IntsK.nil _ _⟩
      simp [go_sem]
    | some a =>
      refine ⟨some a, fun u => ?_, ⟨Or.inl ⟨⟨_, _, rfl, fun h => by cases h⟩, rfl⟩, (fun a n c e hn => by cases e; omega)⟩⟩
      simp [go_sem]
  · cases he
    have hqc : (q : Int) ≤ (vc : Int) := by omega
    refine ⟨some ⟨b, o, none⟩, fun u => ?_, ⟨IntsZ.front (c := vc) q q hq h2 (Nat.le_refl _) h4, fun a' n' c2 e hn => ?_⟩⟩
    · simp [go_sem, hqc]
    · cases e
      exact ht ⟨b, o, none⟩ _ _ rfl (by omega)
/-- so many were given back -/
theorem OnS.given {w0 U W : World} {bf bx : Nat} {S : Int} {vf vo x : Value} {L O M : List Int} {a : Option Addr} {q : Nat} (h : OnS w0 bf S vf L vo O U) (ht : Box1 U bf W) (hx : IntsK w0.heap.size U x M) (hbox : BlkAt W bf [.int .i64 S, x] 24) (ho : IntsK w0.heap.size U (.slice a q q) (O.take q)) (hq : q ≤ O.length) (hg : GoodF S (O.take q) M) : OnS w0 bf S x M (.slice a q q) (O.take q) W :=
  have hl : (O.take q).length = q := by rw [List.length_take]; omega
  ⟨ht.old h.old h.gb (Nat.le_refl _), hbox, h.gb, hx.box1 ht h.box h.gb, ⟨ho.box1 ht h.box h.gb, Or.inl ⟨a, by rw [hl]⟩⟩, hg⟩
/-- which of the taken ones have been seen -/
structure SeenS (wc : World) (mb : Nat) (O : List Int) (j : Nat) (W : World) : Prop where
  bel : Below wc.heap.size wc W
  gm : wc.heap.size ≤ mb
  map : ∃ n f, MapSetI W mb n f ∧ n ≤ j ∧ ∀ x, I64 x → (f x = true ↔ x ∈ O.take j)
theorem SeenS.start (wc : World) (O : List Int) : SeenS wc wc.heap.size O 0 (wc.alloc (.map #[] 0)) := ⟨below_box wc _, Nat.le_refl _, 0, _, MapSetI.made wc, Nat.le_refl _, fun x _ => by simp⟩
theorem SeenS.below {wc W W' : World} {mb j : Nat} {O : List Int} (h : SeenS wc mb O j W) (hb : Below W.heap.size W W') : SeenS wc mb O j W' := by
  obtain ⟨n, f, h1, h2, h3⟩ := h.map
  exact ⟨h.bel.trans (hb.mono h.bel.size), h.gm, n, f, h1.keep (hb.block mb h1.lt), h2, h3⟩
theorem SeenS.no {wc W : World} {mb j : Nat} {O : List Int} (h : SeenS wc mb O j W) {x : Int} (hx : I64 x) (hn : x ∉ O.take j) : (Instr.lookup 39 (.map (some mb)) (.int .i64 x) false).run Try.prog W = .ok (.bool false) W := by
  obtain ⟨n, f, h1, h2, h3⟩ := h.map
  have e : f x = false := by
    cases hf : f x with
    | false => rfl
    | true => exact absurd ((h3 x hx).1 hf) hn
  have := h1.lookup x hx
  rw [e] at this
  exact this
theorem SeenS.next {wc W : World} {mb j : Nat} {O : List Int} (h : SeenS wc mb O j W) (hj : j < O.length) (hl : O.length ≤ 1000) (hx : I64 (O.getD j 0)) :
    ∃ w', (Instr.mapUpdate 39 (.map (some mb)) (.int .i64 (O.getD j 0)) (.bool true)).run Try.prog W = .ok () w' ∧ SeenS wc mb O (j + 1) w' := by
  obtain ⟨n, f, h1, h2, h3⟩ := h.map
  obtain ⟨w', e1, e2, e3⟩ := h1.update (by omega) (O.getD j 0) hx
  refine ⟨w', e1, h.bel.trans (e3.below h.bel.size (fun k hk e => by have := h.gm; omega)), h.gm, n + 1, _, e2, by omega, fun z hz => ?_⟩
  rw [take_succD hj, List.mem_append, List.mem_singleton]
  by_cases e : z = O.getD j 0
  · simp [e]
  · rw [if_neg e]
    constructor
    · exact fun hh => Or.inl ((h3 z hz).1 hh)
    · rintro (hh | hh)
      · exact (h3 z hz).2 hh
      · exact absurd hh e
theorem nextF (n : Nat) (h : n < 2000000) : Value.int .i64 (wrap64 ((n : Int) + 1)) = .int .i64 ((n + 1 : Nat) : Int) := by
  have e : wrap64 ((n : Int) + 1) = (n : Int) + 1 := IntWalk.wrap64_in _ ⟨by omega, by omega⟩
  rw [e]
  rfl
end Go.Proofs.Ytfbimocgcnaogaa
