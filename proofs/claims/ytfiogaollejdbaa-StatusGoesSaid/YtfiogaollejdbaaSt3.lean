/- What StatusGoes holds in a round: three boxes; bits of a status as the walk finds them; what a step does to a state. Conditions: as each theorem names them. -/
import Derived.Test.YtfiogaollejdbaaSt2
namespace Go.Proofs.Ytfiogaollejdbaa
open Go.ChangeShapes Go.WideShapes Go.ChangeAt Go.RowKit
set_option linter.unusedVariables false
set_option maxRecDepth 100000

/-- an act in a box -/
abbrev ActBox (w : World) (b : Nat) (x : Act7) : Prop := BlkAt w b [.int .i64 x.kind, .int .u8 x.w, .int .u64 x.x, .bool x.n] 41
structure RB (w wr : World) (db ab wb : Nat) (k o g s g2 s2 : Int) (x : Act7) : Prop where
  bel : Below w.heap.size w wr
  ld : w.heap.size ≤ db
  da : db < ab
  aw : ab < wb
  d : BoxAt wr db k o g s
  a : ActBox wr ab x
  b : BoxAt wr wb k o g2 s2
theorem RB.below {w wr u : World} {db ab wb : Nat} {k o g s g2 s2 : Int} {x : Act7} (h : RB w wr db ab wb k o g s g2 s2 x) (hb : Below wr.heap.size wr u) : RB w u db ab wb k o g s g2 s2 x :=
  ⟨below_two h.bel hb, h.ld, h.da, h.aw, h.d.below hb, h.a.below hb, h.b.below hb⟩
theorem RB.putD {w wr : World} {db ab wb : Nat} {k o g s g2 s2 : Int} {x : Act7} (h : RB w wr db ab wb k o g s g2 s2 x) (g' s' : Int) : RB w (putDev wr db k o g' s') db ab wb k o g' s' g2 s2 x := by
  have h1 := h.da
  have h2 := h.aw
  exact ⟨below_put h.bel h.ld _ _ _ _, h.ld, h.da, h.aw, box_put h.d _ _ _ _, blk_put h.a (by omega) _ _ _ _, blk_put h.b (by omega) _ _ _ _⟩
theorem RB.setS {w wr : World} {db ab wb : Nat} {k o g s g2 s2 : Int} {x : Act7} (h : RB w wr db ab wb k o g s g2 s2 x) (s' : Int) : RB w (wr.setCell ⟨wb, 3, none⟩ (.int .u8 s')) db ab wb k o g s g2 s' x := by
  have h1 := h.da
  have h2 := h.aw
  have h3 := h.ld
  exact ⟨h.bel.setCell (show w.heap.size ≤ wb by omega) _, h.ld, h.da, h.aw, h.d.other (by omega) _, h.a.other (by omega) _, h.b.set 3 _⟩
theorem act_all {w : World} {b : Nat} {x : Act7} (h : ActBox w b x) : b < w.heap.size ∧ w.cell? ⟨b, 0, none⟩ = some (.int .i64 x.kind) ∧ w.cell? ⟨b, 1, none⟩ = some (.int .u8 x.w) ∧ w.cell? ⟨b, 2, none⟩ = some (.int .u64 x.x) ∧ w.cell? ⟨b, 3, none⟩ = some (.bool x.n) :=
  ⟨h.lt, h.cell 0, h.cell 1, h.cell 2, h.cell 3⟩
/-- a round begins: the act and the state copied -/
theorem rb_new {w wr : World} {db : Nat} {k o g s : Int} {x : Act7} (hb : Below w.heap.size w wr) (hl : w.heap.size ≤ db) (hd : BoxAt wr db k o g s) :
    RB w ((wr.alloc (.cells #[.int .i64 x.kind, .int .u8 x.w, .int .u64 x.x, .bool x.n] 41)).alloc (.cells #[.int .i64 k, .int .u64 o, .int .u64 g, .int .u8 s] 24)) db wr.heap.size (wr.heap.size + 1) k o g s g s x := by
  have h1 := below_box wr (.cells #[.int .i64 x.kind, .int .u8 x.w, .int .u64 x.x, .bool x.n] 41)
  have h2 := below_box (wr.alloc (.cells #[.int .i64 x.kind, .int .u8 x.w, .int .u64 x.x, .bool x.n] 41)) (.cells #[.int .i64 k, .int .u64 o, .int .u64 g, .int .u8 s] 24)
  have hn := box_new (wr.alloc (.cells #[.int .i64 x.kind, .int .u8 x.w, .int .u64 x.x, .bool x.n] 41)) k o g s _ rfl
  rw [sizeA] at hn
  exact ⟨below_two (below_two hb h1) h2, hl, hd.lt, by omega, (hd.below h1).below h2, (blk_new wr [.int .i64 x.kind, .int .u8 x.w, .int .u64 x.x, .bool x.n] _).below h2, hn⟩

/-! ### bits of a status, as the walk finds them -/
theorem neI (a : Nat) : ((a : Int) != 0) = !decide (a = 0) := by
  by_cases h : a = 0
  · simp [h]
  · simp [h]
theorem eqI (a : Nat) : ((a : Int) == 0) = decide (a = 0) := by
  by_cases h : a = 0
  · simp [h]
  · simp [h]
theorem bitAll : ∀ s : Fin 256, decide (s.val &&& 1 = 0) = !s.val.testBit 0 ∧ decide (s.val &&& 2 = 0) = !s.val.testBit 1 ∧ decide (s.val &&& 4 = 0) = !s.val.testBit 2 ∧ decide (s.val &&& 8 = 0) = !s.val.testBit 3 := by decide +kernel
theorem u8ne1 {s : Nat} (hs : s < 256) : (bits .and .u8 (s : Int) 1 != 0) = s.testBit 0 := by
  rw [show (1 : Int) = ((1 : Nat) : Int) from rfl, u8_and_nat s 1 hs (by decide), neI, (bitAll ⟨s, hs⟩).1, Bool.not_not]
theorem u8ne2 {s : Nat} (hs : s < 256) : (bits .and .u8 (s : Int) 2 != 0) = s.testBit 1 := by
  rw [show (2 : Int) = ((2 : Nat) : Int) from rfl, u8_and_nat s 2 hs (by decide), neI, (bitAll ⟨s, hs⟩).2.1, Bool.not_not]
theorem u8ne4 {s : Nat} (hs : s < 256) : (bits .and .u8 (s : Int) 4 != 0) = s.testBit 2 := by
  rw [show (4 : Int) = ((4 : Nat) : Int) from rfl, u8_and_nat s 4 hs (by decide), neI, (bitAll ⟨s, hs⟩).2.2.1, Bool.not_not]
theorem u8ne8 {s : Nat} (hs : s < 256) : (bits .and .u8 (s : Int) 8 != 0) = s.testBit 3 := by
  rw [show (8 : Int) = ((8 : Nat) : Int) from rfl, u8_and_nat s 8 hs (by decide), neI, (bitAll ⟨s, hs⟩).2.2.2, Bool.not_not]
theorem u8eq1 {s : Nat} (hs : s < 256) : (bits .and .u8 (s : Int) 1 == 0) = !s.testBit 0 := by
  rw [show (1 : Int) = ((1 : Nat) : Int) from rfl, u8_and_nat s 1 hs (by decide), eqI, (bitAll ⟨s, hs⟩).1]
theorem u8eq8 {s : Nat} (hs : s < 256) : (bits .and .u8 (s : Int) 8 == 0) = !s.testBit 3 := by
  rw [show (8 : Int) = ((8 : Nat) : Int) from rfl, u8_and_nat s 8 hs (by decide), eqI, (bitAll ⟨s, hs⟩).2.2.2]
theorem u8runs {s : Nat} (hs : s < 256) : (bits .and .u8 (s : Int) 196 == 4) = decide (s &&& 196 = 4) := by
  rw [show (196 : Int) = ((196 : Nat) : Int) from rfl, u8_and_nat s 196 hs (by decide)]
  by_cases h : s &&& 196 = 4
  · rw [h]
    rfl
  · rw [decide_eq_false h]
    simp
    omega
theorem u8or64 {s : Nat} (hs : s < 256) : bits .or .u8 (s : Int) 64 = ((s ||| 64 : Nat) : Int) := by
  rw [show (64 : Int) = ((64 : Nat) : Int) from rfl, u8_or_nat s 64 hs (by decide)]
theorem or64_lt {s : Nat} (hs : s < 256) : s ||| 64 < 256 := Nat.or_lt_two_pow (n := 8) hs (by decide)

/-! ### a step of StatusGoes -/
/-- what a round finds behind a step, if it was no reset: was = (g, s), now = (g', s') -/
structure Stepped (k : Int) (o g s g' s' : Nat) (ask : Bool) (w : Nat) : Prop where
  ok : chkB ⟨k, o, g', s'⟩ = true
  lt : s' < 256
  glt : g' < N64
  lost : (bits .andNot .u8 (s : Int) (s' : Int) != 0) = false
  come : ask = true → (bits .andNot .u8 (s' : Int) (s : Int) != 0) = false
  word : ask = false → (bits .andNot .u8 (bits .andNot .u8 (s' : Int) (s : Int)) (w : Int) != 0) = false
  guest : ask = false → g' = g
  free : g' ≠ g → s.testBit 3 = false
theorem andNot_self {s : Nat} (hs : s < 256) : (bits .andNot .u8 (s : Int) (s : Int) != 0) = false := by
  rw [u8_andNot_nat s s hs hs]
  have key : ∀ s : Fin 256, s.val &&& (255 - s.val) = 0 := by decide +kernel
  rw [key ⟨s, hs⟩]
  rfl
theorem stepped_ask {k : Int} {o g s x : Nat} (h : chkB ⟨k, o, g, s⟩ = true) (hs : s < 256) (hg : g < N64) (hx : x < N64) (w : Nat) : Stepped k o g s (askD ⟨k, o, g, s⟩ x).g s true w ∧ askD ⟨k, o, g, s⟩ x = ⟨k, o, (askD ⟨k, o, g, s⟩ x).g, s⟩ := by
  have e : askD ⟨k, o, g, s⟩ x = ⟨k, o, (askD ⟨k, o, g, s⟩ x).g, s⟩ := by
    unfold askD
    split <;> rfl
  refine ⟨⟨?_, hs, ?_, andNot_self hs, fun _ => andNot_self hs, (fun h => by cases h), (fun h => by cases h), fun hne => ?_⟩, e⟩
  · rw [← e]
    exact ask_ok x h hs
  · unfold askD
    split
    · exact hx
    · exact hg
  · unfold askD at hne
    split at hne
    · rename_i h1
      simp only [Bool.and_eq_true, Bool.not_eq_true'] at h1
      exact h1.2
    · exact absurd rfl hne
theorem stepped_write {k : Int} {o g s w : Nat} (h : chkB ⟨k, o, g, s⟩ = true) (hs : s < 256) (hg : g < N64) (hw : w < 256) (h0 : w ≠ 0) : Stepped k o g s g (wrS (acceptF k o g) s w) false w ∧ wrD ⟨k, o, g, s⟩ w = ⟨k, o, g, wrS (acceptF k o g) s w⟩ := by
  have hw1 := wr_ok h hs hw h0
  have ht : wrS (acceptF k o g) s w < 256 := wrS_lt hs
  have h2 := hw1.2.2
  unfold wrAll at h2
  simp only [Bool.and_eq_true, decide_eq_true_eq] at h2
  have e1 : s &&& (255 - wrS (acceptF k o g) s w) = 0 := h2.1.1.1.2
  have e2 : (wrS (acceptF k o g) s w &&& (255 - s)) &&& (255 - w) = 0 := h2.1.1.2
  refine ⟨⟨hw1.2.1, ht, hg, ?_, (fun h => by cases h), fun _ => ?_, fun _ => rfl, fun h => absurd rfl h⟩, hw1.1⟩
  · rw [u8_andNot_nat _ _ hs ht, e1]
    rfl
  · rw [u8_andNot_nat _ _ ht hs, u8_andNot_nat _ _ (Nat.lt_of_le_of_lt Nat.and_le_left ht) hw, e2]
    rfl
theorem wr_zero {k : Int} {o g s : Nat} (h : chkB ⟨k, o, g, s⟩ = true) : wrD ⟨k, o, g, s⟩ 0 = ⟨k, o, 0, 0⟩ ∧ chkB ⟨k, o, 0, 0⟩ = true := wr_reset h
/-- what a state that may be says -/
theorem says {k : Int} {o g s : Nat} (h : chkB ⟨k, o, g, s⟩ = true) (hs : s < 256) : (s.testBit 3 = true → acceptF k o g = true) ∧ (s.testBit 2 = true → s.testBit 3 = true) ∧ (s.testBit 1 = true → s.testBit 0 = true) ∧ runsB ⟨k, o, g, s⟩ = decide (s &&& 196 = 4) := by
  have h1 := h
  unfold chkB at h1
  rw [Bool.and_eq_true] at h1
  have h2 := stB_says _ _ ⟨s, hs⟩ h1.2
  refine ⟨h2.1, h2.2.1, h2.2.2.1, ?_⟩
  unfold runsB
  rw [h, Bool.true_and]
  exact h2.2.2.2.2
/-- what a step leaves: a reset, or else -/
def Post7 (k : Int) (o g s g' s' : Nat) (ask : Bool) (w : Nat) : Prop :=
  (ask = false ∧ w = 0 ∧ g' = 0 ∧ s' = 0 ∧ chkB ⟨k, o, 0, 0⟩ = true) ∨ (¬ (ask = false ∧ w = 0) ∧ Stepped k o g s g' s' ask w)
theorem Post7.ok {k : Int} {o g s g' s' : Nat} {ask : Bool} {w : Nat} (h : Post7 k o g s g' s' ask w) : chkB ⟨k, o, g', s'⟩ = true ∧ s' < 256 ∧ g' < N64 := by
  rcases h with ⟨_, _, rfl, rfl, h⟩ | ⟨_, h⟩
  · exact ⟨h, by decide, by simp only [N64]; decide⟩
  · exact ⟨h.ok, h.lt, h.glt⟩
theorem nextI (n : Nat) (h : n < 2000000) : Value.int .i64 (wrap64 ((n : Int) + 1)) = .int .i64 ((n + 1 : Nat) : Int) := by
  have e : wrap64 ((n : Int) + 1) = (n : Int) + 1 := IntWalk.wrap64_in _ ⟨by omega, by omega⟩
  rw [e]
  rfl
theorem keep7 {w u v : World} {db : Nat} {k o g s : Value} (h : Below w.heap.size w u ∧ db < u.heap.size ∧ u.cell? ⟨db, 0, none⟩ = some k ∧ u.cell? ⟨db, 1, none⟩ = some o ∧ u.cell? ⟨db, 2, none⟩ = some g ∧ u.cell? ⟨db, 3, none⟩ = some s) (hb : Below u.heap.size u v) :
    Below w.heap.size w v ∧ db < v.heap.size ∧ v.cell? ⟨db, 0, none⟩ = some k ∧ v.cell? ⟨db, 1, none⟩ = some o ∧ v.cell? ⟨db, 2, none⟩ = some g ∧ v.cell? ⟨db, 3, none⟩ = some s := by
  obtain ⟨h1, h2, h3, h4, h5, h6⟩ := h
  exact ⟨below_two h1 hb, Nat.lt_of_lt_of_le h2 hb.size, (hb.cell (p := ⟨db, 0, none⟩) h2).trans h3, (hb.cell (p := ⟨db, 1, none⟩) h2).trans h4, (hb.cell (p := ⟨db, 2, none⟩) h2).trans h5, (hb.cell (p := ⟨db, 3, none⟩) h2).trans h6⟩
end Go.Proofs.Ytfiogaollejdbaa
