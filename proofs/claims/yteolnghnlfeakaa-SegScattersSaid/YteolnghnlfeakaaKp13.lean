/- Sg7 Pg4: joined texts. Conditions: as each theorem names them. -/
import Derived.Test.YteolnghnlfeakaaKp11
import Derived.Test.YteolnghnlfeakaaKp12
import Derived.Laws.StructEq
import Derived.RegionTactic
import Derived.ChangeAlike
/- kit.SameSegs. Conditions: as each theorem names them. -/
namespace Go.Proofs.Yteolnghnlfeakaa
open Go.ChangeShapes Go.WideShapes Go.ChangeAt Go.RowKit
set_option linter.unusedVariables false
set_option maxRecDepth 100000

def sgB (s t : Sg) : Bool := s.a == t.a && (s.n == t.n && s.t == t.t)
theorem sgB_iff {s t : Sg} : sgB s t = true ↔ s = t := by
  obtain ⟨a, n, x⟩ := s
  obtain ⟨b, m, y⟩ := t
  simp [sgB]
def sameS : List Sg → List Sg → Bool
  | [], [] => true
  | s :: l, t :: o => sgB s t && sameS l o
  | [], _ :: _ => false
  | _ :: _, [] => false
theorem sameS_iff : ∀ {L O : List Sg}, sameS L O = true ↔ L = O
  | [], [] => by simp [sameS]
  | s :: l, t :: o => by
    simp only [sameS, Bool.and_eq_true, sgB_iff, sameS_iff (L := l) (O := o), List.cons.injEq]
  | [], _ :: _ => by simp [sameS]
  | _ :: _, [] => by simp [sameS]
theorem sameS_self (L : List Sg) : sameS L L = true := sameS_iff.2 rfl
theorem sameS_len {L O : List Sg} (h : L.length ≠ O.length) : sameS L O = false := by
  cases hc : sameS L O
  · rfl
  · exact absurd (congrArg List.length (sameS_iff.1 hc)) h
theorem sameS_step {L O : List Sg} {k : Nat} (hk : k < L.length) (ho : k < O.length) : sameS (L.drop k) (O.drop k) = (sgB (sat L k) (sat O k) && sameS (L.drop (k + 1)) (O.drop (k + 1))) := by
  rw [drop_sat hk, drop_sat ho]
  rfl

theorem fieldsSg : Try.prog.underlying 32 = some (.struct (Try.prog.fieldsOf 32)) := by kernel_rfl
theorem stoodSg : Try.prog.stoodInHeld 32 = false := by kernel_rfl
abbrev sV (s : Sg) : Value := .agg #[.int .u64 s.a, .int .u32 s.n, .bool s.t]
theorem neqSg (x y x' y' : Int) (z z' : Bool) (w : World) : (binOp .neq 32 (.agg #[.int .u64 x, .int .u32 y, .bool z]) (.agg #[.int .u64 x', .int .u32 y', .bool z'])).run Try.prog w = .ok (.bool (!(x == x' && (y == y' && z == z')))) w := by
  rw [run_neq_struct, run_equalIn_agg w 9999 32 _ _ fieldsSg stoodSg]
  have hf := fieldsSg
  rw [Try.underlying32] at hf
  simp at hf
  rw [← hf]
  simp [Op.eqFields, go_sem, Try.underlying26, Try.underlying30, Try.underlying4]
  by_cases h1 : x = x' <;> by_cases h2 : y = y' <;> by_cases h3 : z = z' <;> simp [h1, h2, h3]

set_option maxHeartbeats 4000000 in
theorem ksame_any (v1 v2 : Value) (L O : List Sg) (w : World) (h1 : SegsAt w v1 L) (h2 : SegsAt w v2 O) (hl : L.length ≤ 1000) :
    Calls Try.prog 23 #[v1, v2] w fun e w' => e = .returned (.bool (sameS L O)) ∧ ∃ m, w' = w.drewN m := by
  by_cases hn : L.length = O.length
  · rcases h1 with ⟨⟨va, vc, rfl, _⟩, rfl⟩ | ⟨b, o, c, rfl, hb1, hb2, hb3⟩
    · have hO : O = [] := List.length_eq_zero_iff.1 hn.symm
      subst hO
      obtain ⟨vb, vd, rfl⟩ := h2.len
      go_enter Try.func23, Try.ntmps23
      go_wp2
      go_loop [5] (fun i => i = .int .i64 0) (fun i => 0)
      case atStart => rfl
      case round =>
        obtain rfl := hrel
        go_wp2
        go_ret
        exact ⟨rfl, 0, rfl⟩
    · rcases h2 with ⟨⟨va, vc, rfl, _⟩, rfl⟩ | ⟨b2, o2, c2, rfl, hd1, hd2, hd3⟩
      · have hL : L = [] := List.length_eq_zero_iff.1 hn
        subst hL
        go_enter Try.func23, Try.ntmps23
        go_wp2
        go_loop [5] (fun i => i = .int .i64 0) (fun i => 0)
        case atStart => rfl
        case round =>
          obtain rfl := hrel
          go_wp2
          go_ret
          exact ⟨rfl, 0, rfl⟩
      · have HC := hid_mk hb3
        have HD := hid_mk hd3
        have hmx : (L.length : Int) ≤ 1000 := by omega
        have hne : ((O.length : Int) != (O.length : Int)) = false := by simp
        have HN := hid_mk hn
        have hni : (L.length : Int) = (O.length : Int) := by omega
        have hmo : (O.length : Int) ≤ 1000 := by omega
        rw [hn] at hb2 ⊢
        clear hb3 hd3 hn
        go_enter Try.func23, Try.ntmps23
        go_wp2
        go_loopw [5] (fun i wr => ∃ (k m : Nat), k ≤ O.length ∧ i = .int .i64 k ∧ wr = w.drewN m ∧ Hid (sameS L O = sameS (L.drop k) (O.drop k))) (fun i _ => O.length - (intOf i).toNat)
        case atStart => exact ⟨0, 0, Nat.zero_le _, rfl, rfl, rfl⟩
        case round =>
          obtain ⟨k, m, hk, rfl, rfl, heq⟩ := hrel
          by_cases hlt : k < O.length
          · obtain ⟨p0, p1, p2⟩ := HC.out k (by have := HN.out; omega)
            obtain ⟨q0, q1, q2⟩ := HD.out k hlt
            have hst := sameS_step (L := L) (O := O) (k := k) (by have := HN.out; omega) hlt
            have hq := neqSg (sat L k).a (sat L k).n (sat O k).a (sat O k).n (sat L k).t (sat O k).t
            rw [show ((sat L k).a == (sat O k).a && ((sat L k).n == (sat O k).n && (sat L k).t == (sat O k).t)) = sgB (sat L k) (sat O k) from rfl] at hq
            have hni2 : (k : Int) < (L.length : Int) := by omega
            cases hs : sgB (sat L k) (sat O k)
            · rw [hs] at hst hq
              have HF : Hid (false = sameS L O) := by
                show false = sameS L O
                rw [heq.out, hst]
                rfl
              clear hst heq hs hni
              generalize sat L k = s1 at *
              generalize sat O k = s2 at *
              go_wp2_with fail
              go_quiet (fail)
              go_wp2_with fail
              go_ret
              exact ⟨ret_eq (congrArg Value.bool HF.out), _, drewN_drewN _ _ _⟩
            · rw [hs] at hst hq
              have HX : Hid (sameS L O = sameS (L.drop (k + 1)) (O.drop (k + 1))) := by
                show sameS L O = _
                rw [heq.out, hst]
                rfl
              clear hst heq hs hni
              generalize sat L k = s1 at *
              generalize sat O k = s2 at *
              go_wp2_with fail
              go_quiet (fail)
              go_wp2_with fail
              go_roundw
              case rel => exact ⟨k + 1, _, by omega, by go_num, rfl, HX⟩
              case measure => simp [intOf]; omega
          · obtain rfl : k = O.length := by omega
            have HF : Hid (true = sameS L O) := by
              show true = sameS L O
              rw [heq.out, List.drop_length, List.drop_of_length_le (by have := HN.out; omega)]
              rfl
            go_wp2_with fail
            go_ret
            exact ⟨ret_eq (congrArg Value.bool HF.out), m, rfl⟩
  · obtain ⟨va, vc, rfl⟩ := h1.len
    obtain ⟨vb, vd, rfl⟩ := h2.len
    have HF : Hid (false = sameS L O) := (sameS_len hn).symm
    have hni : ((L.length : Int) != (O.length : Int)) = true := by
      simp
      omega
    clear h1 h2
    go_enter Try.func23, Try.ntmps23
    go_wp2
    go_ret
    exact ⟨ret_eq (congrArg Value.bool HF.out), 0, rfl⟩
end Go.Proofs.Yteolnghnlfeakaa

/- Package seg's rest: one segment, or a part of it, consumed (next). Conditions: as each theorem names them. -/
namespace Go.Proofs.Yteolnghnlfeakaa
open Go.ChangeShapes Go.WideShapes Go.ChangeAt Go.RowKit
set_option linter.unusedVariables false
set_option maxRecDepth 100000

theorem Chg.allocR {S : Nat → Prop} {a w : World} (h : Chg S a w) (o : Obj) : Chg S a (w.alloc o) :=
  h.trans (Chg.of_below ((Below.refl _ _).alloc (Nat.le_refl _) _))
theorem Chg.setR {S : Nat → Prop} {a w : World} (h : Chg S a w) {p : Addr} (hp : S p.block ∨ a.heap.size ≤ p.block) (u : Value) : Chg S a (w.setCell p u) :=
  ⟨h.os, h.tape, h.output, by rw [World.size_setCell]; exact h.size, fun k hk hs => by
    rw [Below.heap_setCell _ _ _ _ (fun e => by
      rcases hp with hp | hp
      · rw [← e] at hp
        exact hs hp
      · omega)]
    exact h.block k hk hs⟩
theorem Chg.drewR {S : Nat → Prop} {a w : World} (h : Chg S a w) : Chg S a w.drew := ⟨h.os, h.tape, h.output, h.size, h.block⟩

/-- the segments that are left: cell rb holds a slice of block g -/
structure IsRest (w : World) (rb g : Nat) (L : List Sg) : Prop where
  fr : w.frozen? ⟨rb, 0, none⟩ = false
  ne : rb ≠ g
  lt : rb < w.heap.size
  val : ∃ a c, w.cell? ⟨rb, 0, none⟩ = some (.slice a L.length c) ∧ (0 < L.length → ∃ o, a = some ⟨g, o, none⟩ ∧ L.length ≤ c ∧ g < w.heap.size ∧ (∀ i, w.frozen? ⟨g, i, none⟩ = false) ∧ ∀ j, j < L.length → at3 w g (o + j * 3) (sat L j))
abbrev RestC (rb g : Nat) : Nat → Prop := fun k => k = rb ∨ k = g
theorem IsRest.keep {w w' : World} {rb g : Nat} {L : List Sg} (h : IsRest w rb g L) (hb : Below w.heap.size w w') : IsRest w' rb g L := by
  obtain ⟨a, c, h1, h2⟩ := h.val
  have hz := hb.size
  refine ⟨(hb.frozen (p := ⟨rb, 0, none⟩) h.lt).trans h.fr, h.ne, Nat.lt_of_lt_of_le h.lt hz, a, c, (hb.cell (p := ⟨rb, 0, none⟩) h.lt).trans h1, fun hl => ?_⟩
  obtain ⟨o, e, hc, hg, hf, hj⟩ := h2 hl
  exact ⟨o, e, hc, by omega, fun i => (hb.frozen (p := ⟨g, i, none⟩) hg).trans (hf i), fun j hj1 => (hj j hj1).below hb hg⟩

def nxS (s : Sg) (n : Int) : Sg := if s.n ≤ n then s else ⟨s.a, n, s.t⟩
def nxR (s : Sg) (l : List Sg) (n : Int) : List Sg := if s.n ≤ n then l else ⟨s.a + n, s.n - n, s.t⟩ :: l

/-- s[1:] of what is left -/
theorem tail_slice (g o m c : Nat) (hm : m + 1 ≤ c) (hc : m ≤ 1000) : ∃ a1 c1, (∀ u, (Instr.sliceAt 81 (.slice (some ⟨g, o, none⟩) (m + 1) c) (some (.int .i64 1)) none none).run Try.prog u = .ok (.slice a1 m c1) u) ∧ (0 < m → a1 = some ⟨g, o + 3, none⟩ ∧ m ≤ c1) := by
  by_cases h1 : c = 1
  · subst h1
    obtain rfl : m = 0 := by omega
    exact ⟨some ⟨g, o, none⟩, 0, fun u => by simp [go_sem], fun h => absurd h (by omega)⟩
  · have hci : (1 : Int) ≤ (m : Int) + 1 := by omega
    have hcc : (m : Int) + 1 ≤ (c : Int) := by omega
    have h1' : ¬ c = 1 := h1
    exact ⟨some ⟨g, o + 3, none⟩, c - 1, fun u => by simp [go_sem, hci, h1'], fun _ => ⟨rfl, by omega⟩⟩

theorem rest_tail {w : World} {rb g o m c c1 : Nat} {a1 : Option Addr} {s : Sg} {l : List Sg} (hfr : w.frozen? ⟨rb, 0, none⟩ = false) (hne : rb ≠ g) (hlt : rb < w.heap.size) {v0 : Value} (h1 : w.cell? ⟨rb, 0, none⟩ = some v0) (hg : g < w.heap.size)
    (hf : ∀ i, w.frozen? ⟨g, i, none⟩ = false) (hj : ∀ j, j < (s :: l).length → at3 w g (o + j * 3) (sat (s :: l) j)) (h2 : 0 < l.length → a1 = some ⟨g, o + 3, none⟩ ∧ l.length ≤ c1) :
    IsRest (w.setCell ⟨rb, 0, none⟩ (.slice a1 l.length c1)) rb g l ∧ Chg (RestC rb g) w (w.setCell ⟨rb, 0, none⟩ (.slice a1 l.length c1)) := by
  have hc : ∀ i, (w.setCell ⟨rb, 0, none⟩ (.slice a1 l.length c1)).cell? ⟨g, i, none⟩ = w.cell? ⟨g, i, none⟩ := fun i => World.cell?_setCell_other _ _ _ _ (fun e => hne (by cases e; rfl))
  refine ⟨⟨by rw [World.frozen?_setCell]; exact hfr, hne, by rw [World.size_setCell]; exact hlt, a1, c1, World.cell?_setCell_same _ _ _ h1, fun hl => ?_⟩, (Chg.refl _ _).setR (Or.inl (Or.inl rfl)) _⟩
  obtain ⟨e, hc1⟩ := h2 hl
  refine ⟨o + 3, e, hc1, by rw [World.size_setCell]; exact hg, fun i => by rw [World.frozen?_setCell]; exact hf i, fun j hj1 => ?_⟩
  have hq := hj (j + 1) (by simp; omega)
  rw [show o + (j + 1) * 3 = o + 3 + j * 3 from by omega, show sat (s :: l) (j + 1) = sat l j from rfl] at hq
  exact ⟨(hc _).trans hq.1, (hc _).trans hq.2.1, (hc _).trans hq.2.2⟩
theorem rest_cut {w : World} {rb g o c : Nat} {s s2 : Sg} {l : List Sg} (hfr : w.frozen? ⟨rb, 0, none⟩ = false) (hne : rb ≠ g) (hlt : rb < w.heap.size) (h1 : w.cell? ⟨rb, 0, none⟩ = some (.slice (some ⟨g, o, none⟩) (l.length + 1) c)) (hg : g < w.heap.size) (hc : l.length + 1 ≤ c)
    (hf : ∀ i, w.frozen? ⟨g, i, none⟩ = false) (hj : ∀ j, j < (s :: l).length → at3 w g (o + j * 3) (sat (s :: l) j)) (ht : s2.t = s.t) :
    IsRest ((w.setCell ⟨g, o, none⟩ (.int .u64 s2.a)).setCell ⟨g, o + 1, none⟩ (.int .u32 s2.n)) rb g (s2 :: l) ∧ Chg (RestC rb g) w ((w.setCell ⟨g, o, none⟩ (.int .u64 s2.a)).setCell ⟨g, o + 1, none⟩ (.int .u32 s2.n)) := by
  have hn : ∀ i j, (⟨g, i, none⟩ : Addr) ≠ ⟨rb, j, none⟩ := fun i j e => hne (by cases e; rfl)
  have ho : ∀ i, i ≠ o → i ≠ o + 1 → ((w.setCell ⟨g, o, none⟩ (.int .u64 s2.a)).setCell ⟨g, o + 1, none⟩ (.int .u32 s2.n)).cell? ⟨g, i, none⟩ = w.cell? ⟨g, i, none⟩ := fun i h1 h2 => by
    rw [World.cell?_setCell_other _ _ _ _ (fun e => h2 (by cases e; rfl)), World.cell?_setCell_other _ _ _ _ (fun e => h1 (by cases e; rfl))]
  obtain ⟨d0, d1, d2⟩ := hj 0 (by simp)
  simp only [Nat.zero_mul, Nat.add_zero] at d0 d1 d2
  refine ⟨⟨by rw [World.frozen?_setCell, World.frozen?_setCell]; exact hfr, hne, by rw [World.size_setCell, World.size_setCell]; exact hlt, some ⟨g, o, none⟩, c, ?_, fun _ => ⟨o, rfl, by simpa using hc, by rw [World.size_setCell, World.size_setCell]; exact hg, fun i => by rw [World.frozen?_setCell, World.frozen?_setCell]; exact hf i, fun j hj1 => ?_⟩⟩, ((Chg.refl _ _).setR (Or.inl (Or.inr rfl)) _).setR (Or.inl (Or.inr rfl)) _⟩
  · rw [World.cell?_setCell_other _ _ _ _ (hn _ _), World.cell?_setCell_other _ _ _ _ (hn _ _)]
    exact h1
  · cases j with
    | zero =>
      simp only [Nat.zero_mul, Nat.add_zero]
      refine ⟨?_, ?_, ?_⟩
      · rw [World.cell?_setCell_other _ _ _ _ (fun e => by injection e with _ e; omega)]
        exact World.cell?_setCell_same _ _ _ d0
      · refine World.cell?_setCell_same _ _ _ (u := .int .u32 (sat (s :: l) 0).n) ?_
        rw [World.cell?_setCell_other _ _ _ _ (fun e => by injection e with _ e; omega)]
        exact d1
      · rw [ho _ (by omega) (by omega)]
        exact d2.trans (by rw [show sat (s2 :: l) 0 = s2 from rfl, ht]; rfl)
    | succ j =>
      obtain ⟨q0, q1, q2⟩ := hj (j + 1) (by simpa using hj1)
      exact ⟨(ho _ (by omega) (by omega)).trans q0, (ho _ (by omega) (by omega)).trans q1, (ho _ (by omega) (by omega)).trans q2⟩

set_option maxHeartbeats 1000000 in
theorem pnext_all (rb g : Nat) (s : Sg) (l : List Sg) (n : Int) (w : World) (hr : IsRest w rb g (s :: l)) (hs : isSg s) (hn : U64 n) (hle : s.n ≤ n) (hl : l.length ≤ 1000) :
    Calls Try.prog 58 #[.pointer (some ⟨rb, 0, none⟩), .int .u64 n] w fun e w' => e = .returned (sV s) ∧ IsRest w' rb g l ∧ Chg (RestC rb g) w w' := by
  obtain ⟨a, c, h1, h2⟩ := hr.val
  obtain ⟨o, rfl, hc, hg, hf, hj⟩ := h2 (by simp)
  rw [List.length_cons] at h1 hc
  obtain ⟨a1, c1, hsl, hsl2⟩ := tail_slice g o l.length c hc hl
  obtain ⟨d0, d1, d2⟩ := hj 0 (by simp)
  simp only [Nat.zero_mul, Nat.add_zero] at d0 d1 d2
  have e0 : sat (s :: l) 0 = s := rfl
  rw [e0] at d0 d1 d2
  have hfr := hr.fr
  have hlt := hr.lt
  have hne := hr.ne
  have HT := hid_mk (rest_tail hfr hne hlt h1 hg hf hj hsl2 (c := c) (m := 0))
  obtain ⟨x, y, t⟩ := s
  obtain ⟨⟨x0, x1⟩, y0, y1⟩ := hs
  simp only at x0 x1 y0 y1 d0 d1 d2 hle
  have hyw : IntKind.u64.wrap y = y := by rw [IntKind.wrap_u64]; omega
  have hd : decide (y ≤ n) = true := by simpa using hle
  have hli : (0 : Int) < (l.length : Int) + 1 := by omega
  clear hr h2 hj hf hsl2 e0
  go_enter Try.func58, Try.ntmps58
  go_wp2
  exact bodyPost_ret (v := sV ⟨x, y, t⟩) (by simp [results, Try.results58, go_sem]) rfl ⟨rfl, (HT.out.1.keep ((Below.refl _ _).alloc (Nat.le_refl _) _)).keep ((Below.refl _ _).alloc (Nat.le_refl _) _), (HT.out.2.allocR _).allocR _⟩

set_option maxHeartbeats 1000000 in
theorem pnext_part (rb g : Nat) (s : Sg) (l : List Sg) (n : Int) (w : World) (hr : IsRest w rb g (s :: l)) (hs : isSg s) (hs2 : s.a + s.n ≤ 18446744073709551616) (hn : U64 n) (hlt1 : n < s.n) (hl : l.length ≤ 1000) :
    Calls Try.prog 58 #[.pointer (some ⟨rb, 0, none⟩), .int .u64 n] w fun e w' => e = .returned (sV ⟨s.a, n, s.t⟩) ∧ IsRest w' rb g (⟨s.a + n, s.n - n, s.t⟩ :: l) ∧ Chg (RestC rb g) w w' := by
  obtain ⟨a, c, h1, h2⟩ := hr.val
  obtain ⟨o, rfl, hc, hg, hf, hj⟩ := h2 (by simp)
  rw [List.length_cons] at h1 hc
  obtain ⟨d0, d1, d2⟩ := hj 0 (by simp)
  simp only [Nat.zero_mul, Nat.add_zero] at d0 d1 d2
  have e0 : sat (s :: l) 0 = s := rfl
  rw [e0] at d0 d1 d2
  have hfr := hr.fr
  have hlt := hr.lt
  have hne := hr.ne
  have f0 := hf o
  have f1 := hf (o + 1)
  have HT := hid_mk (rest_cut (s2 := ⟨s.a + n, s.n - n, s.t⟩) hfr hne hlt h1 hg hc hf hj rfl)
  obtain ⟨x, y, t⟩ := s
  obtain ⟨⟨x0, x1⟩, y0, y1⟩ := hs
  obtain ⟨n0, n1⟩ := hn
  simp only at x0 x1 y0 y1 d0 d1 d2 hlt1 hs2
  have hyw : IntKind.u64.wrap y = y := by rw [IntKind.wrap_u64]; omega
  have hnw : IntKind.u32.wrap n = n := by rw [IntKind.wrap_u32]; omega
  have hw1 : IntKind.u64.wrap (x + n) = x + n := by rw [IntKind.wrap_u64]; omega
  have hw2 : IntKind.u32.wrap (y - n) = y - n := by rw [IntKind.wrap_u32]; omega
  have hd : decide (y ≤ n) = false := by simp; omega
  have hli : (0 : Int) < (l.length : Int) + 1 := by omega
  clear hr h2 hj hf e0
  go_enter Try.func58, Try.ntmps58
  go_wp2
  go_region
  go_wp2
  refine bodyPost_ret (v := sV ⟨x, n, t⟩) (by simp [results, Try.results58, go_sem]) rfl ⟨rfl, ?_, ?_⟩
  · exact (HT.out.1.keep ((Below.refl _ _).alloc (Nat.le_refl _) _)).keep (((Below.refl _ _).alloc (Nat.le_refl _) _).drew)
  · exact ((HT.out.2.allocR _).allocR _).drewR
end Go.Proofs.Yteolnghnlfeakaa
