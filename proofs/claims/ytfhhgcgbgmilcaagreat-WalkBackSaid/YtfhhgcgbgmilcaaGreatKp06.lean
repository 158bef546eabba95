/- Own Sg0 Dsc5: joined texts. Conditions: as each theorem names them. -/
import Derived.Test.YtfhhgcgbgmilcaaGreatKp05
import Derived.Test.YtfhhgcgbgmilcaaGreatKp02
import Derived.Test.YtfhhgcgbgmilcaaGreatKp01
import Derived.Laws.AppendOwn
import Derived.Laws.OwnMore
import Derived.Deep.RegionHeld3
import Derived.OwnWalk
import Derived.Test.YtfhhgcgbgmilcaaGreatRows
import Derived.WalkKit
import Derived.ProofKit
/- Contracts of the kit's copies: Own, Regions; and of its looks: LightRegions, SameRegions. Conditions: as each theorem names them. -/
namespace Go.Proofs.YtfhhgcgbgmilcaaGreat
open Go.ChangeShapes Go.WideShapes Go.ChangeAt Go.RowKit
set_option linter.unusedVariables false
set_option maxRecDepth 100000

/-- append by an equation of its run -/
theorem wpList_append_run {P : Program} {w w' : World} {ops : Array Oper} {rest : List Oper} {o : Oper} {a : Act} {Q : Exit → Act → World → Prop} {v u v' : Value} (hgd : o.guard = none) (s x : Operand) (t : TypeId)
    (ho : o.op = .call { callee := .builtin .append, args := #[s, x], argTypes := #[t, t] }) (hs : a.eval s = v) (hx : a.eval x = u)
    (hrun : (Builtin.append_ #[t, t] o.type #[v, u]).run P w = .ok v' w') (h : wpList P ops Q rest (a.put o.dst v') w') : wpList P ops Q (o :: rest) a w := by
  refine wpList_plain hgd fun K hK => ?_
  unfold Oper.wp
  simp [execOp, ho, resolve, invoke, builtin, hs, hx, hrun, Result.andThen]
  exact hK _ _ h

theorem newBytes_of {B : Nat} {w : World} {v : Value} {n : Nat} {l : List Int} (h : w.ownsRow B 5 1 v n (l.map (Value.int .u8))) : NewBytes B w v l := by
  obtain ⟨h1, h2⟩ := h
  simp at h1
  rcases h2 with ⟨rfl, rfl⟩ | ⟨g, cap, cur, rfl, hg, hh, hn, hm, hs, ht⟩
  · left
    exact ⟨rfl, List.length_eq_zero_iff.1 h1⟩
  · right
    subst h1
    simp only [Nat.mul_one] at hs ht
    refine ⟨g, cap, rfl, hg, hn, cur.toList.drop l.length, ?_, ?_⟩
    · rw [hh, ← ht, List.take_append_drop]
    · simp [hs]
      omega
theorem grown_below {w w' : World} {row : Option Nat} {B : Nat} (hg : w.grownBy w' row) (hB : B ≤ w.heap.size) (hr : ∀ k, row = some k → B ≤ k) : Below B w w' := (Below.refl B w).grown hg hB hr
theorem news_of {W : World} {b o c : Nat} {l : List Int} (h : ∀ j, j < l.length → W.cell? ⟨b, o + j, none⟩ = some (.int .u8 (l.getD j 0))) : ∀ j u, (l.map (Value.int .u8))[j]? = some u → W.cell? ((⟨b, o, none⟩ : Addr).add j) = some u := fun j u hu => by
  have hj : j < l.length := by
    have := (List.getElem?_eq_some_iff.1 hu).1
    simpa using this
  rw [show (⟨b, o, none⟩ : Addr).add j = ⟨b, o + j, none⟩ from by unfold Addr.add; split <;> simp_all, h j hj]
  simp [hj] at hu
  subst hu
  simp [List.getD, hj]
theorem one_of {k : IntKind} {l : List Int} : ∀ u ∈ l.map (Value.int k), u.oneCell' = true := fun u hu => by
  obtain ⟨x, _, rfl⟩ := List.mem_map.1 hu
  rfl

/-! ## Regions -/
theorem rowReg2 : (Tryz.prog.info? 80).map (fun i => (i.zero, i.size, i.bytes)) = some (some (.agg #[.int .u64 0, .int .u64 0]), 2, 16) := rowReg
theorem newRegs_of {B : Nat} {w : World} {v : Value} {n : Nat} {L : List (Int × Int)} (h : w.ownsRow B 80 2 v n (regCells L)) : RegsAt w v L := by
  obtain ⟨h1, h2⟩ := h
  rw [regCells_length] at h1
  have hn : n = L.length := by omega
  subst hn
  rcases h2 with ⟨rfl, h0⟩ | ⟨g, cap, cur, rfl, hg, hh, hn, hm, hs, ht⟩
  · left
    exact ⟨⟨none, 0, rfl, fun _ => rfl⟩, List.length_eq_zero_iff.1 h0⟩
  · refine regsAt_row (cs := cur.toList.drop (L.length * 2)) (t := 80) (fr := (0, 0)) ?_ hn
    rw [hh, ← ht, List.take_append_drop]
theorem newsR_of {W : World} {b o c : Nat} {L : List (Int × Int)} (h : ∀ j, j < L.length → W.cell? ⟨b, o + j * 2, none⟩ = some (.int .u64 (at_ L j).1) ∧ W.cell? ⟨b, o + j * 2 + 1, none⟩ = some (.int .u64 (at_ L j).2)) : ∀ j u, (regCells L)[j]? = some u → W.cell? ((⟨b, o, none⟩ : Addr).add j) = some u := fun j u hu => by
  have hl := regCells_length L
  have hj : j < L.length * 2 := by
    have := (List.getElem?_eq_some_iff.1 hu).1
    omega
  rw [show (⟨b, o, none⟩ : Addr).add j = ⟨b, o + j, none⟩ from by unfold Addr.add; split <;> simp_all]
  have hr := regCells_at L (j / 2) (by omega)
  have hc := h (j / 2) (by omega)
  rcases Nat.mod_two_eq_zero_or_one j with hm | hm
  · have e : j = j / 2 * 2 := by omega
    rw [e] at hu ⊢
    rw [hc.1]
    rw [hr.1] at hu
    exact hu
  · have e : j = j / 2 * 2 + 1 := by omega
    rw [e] at hu ⊢
    rw [← Nat.add_assoc, hc.2]
    rw [hr.2] at hu
    exact hu
theorem oneR_of : ∀ {L : List (Int × Int)}, ∀ u ∈ regCells L, u.oneCell' = true
  | [], u, hu => by cases hu
  | r :: L, u, hu => by
    simp only [regCells, List.mem_cons] at hu
    rcases hu with rfl | rfl | hu
    · rfl
    · rfl
    · exact oneR_of u hu

/-! ## LightRegions -/
def lightSum : List (Int × Int) → Int
  | [] => 0
  | r :: l => min r.2 1073741824 + lightSum l
theorem lightSum_take (L : List (Int × Int)) (k : Nat) (h : k < L.length) : lightSum (L.take (k + 1)) = lightSum (L.take k) + min (at_ L k).2 1073741824 := by
  induction L generalizing k with
  | nil => simp at h
  | cons r l ih =>
    cases k with
    | zero => simp [lightSum, at_]
    | succ k =>
      have := ih k (by simpa using h)
      simp only [List.take_succ_cons, lightSum, at_succ, this]
      omega
theorem lightSum_bd : ∀ {L : List (Int × Int)}, isRegs L → 0 ≤ lightSum L ∧ lightSum L ≤ 1073741824 * L.length
  | [], _ => by simp [lightSum]
  | r :: l, h => by
    have h1 := h r (by simp)
    have h2 := lightSum_bd (L := l) (fun x hx => h x (by simp [hx]))
    have h3 : 0 ≤ r.2 := h1.2.1
    simp only [lightSum, List.length_cons]
    omega
def lightB (L : List (Int × Int)) (most : Int) : Bool := decide (L.length ≤ 40) && decide (lightSum L ≤ most)
theorem isRegs_take {L : List (Int × Int)} (h : isRegs L) (k : Nat) : isRegs (L.take k) := fun r hr => h r (List.mem_of_mem_take hr)
end Go.Proofs.YtfhhgcgbgmilcaaGreat

/- Lists of segments: where they lie in memory; which are valid; their bytes; parts and cuts. Plain facts. Conditions: as each lemma names them. -/
namespace Go.Proofs.YtfhhgcgbgmilcaaGreat
open Go.ChangeShapes Go.WideShapes Go.ChangeAt Go.RowKit
set_option linter.unusedVariables false
set_option maxRecDepth 100000

/-- a segment: its address, its length, is it written? -/
structure Sg where
  a : Int
  n : Int
  t : Bool
def sat (L : List Sg) (i : Nat) : Sg := L.getD i ⟨0, 0, false⟩
def isSg (s : Sg) : Prop := U64 s.a ∧ 0 ≤ s.n ∧ s.n < 4294967296
def isSgs (L : List Sg) : Prop := ∀ s ∈ L, isSg s
theorem sat_is {L : List Sg} (h : isSgs L) (i : Nat) : isSg (sat L i) := by
  unfold sat
  by_cases hi : i < L.length
  · rw [List.getD_eq_getElem?_getD, List.getElem?_eq_getElem hi]
    exact h _ (List.getElem_mem hi)
  · rw [List.getD_eq_getElem?_getD, List.getElem?_eq_none (by omega)]
    exact ⟨by decide, by decide, by decide⟩
theorem isSgs_cons {s : Sg} {L : List Sg} (h : isSgs (s :: L)) : isSg s ∧ isSgs L := ⟨h s (by simp), fun x hx => h x (by simp [hx])⟩
theorem isSgs_drop {L : List Sg} (h : isSgs L) (k : Nat) : isSgs (L.drop k) := fun s hs => h s (List.mem_of_mem_drop hs)
theorem drop_sat {L : List Sg} {k : Nat} (h : k < L.length) : L.drop k = sat L k :: L.drop (k + 1) := by
  rw [List.drop_eq_getElem_cons h]
  simp [sat, List.getD, h]
/-- three cells of a block hold a segment -/
def at3 (w : World) (b o : Nat) (s : Sg) : Prop := w.cell? ⟨b, o, none⟩ = some (.int .u64 s.a) ∧ w.cell? ⟨b, o + 1, none⟩ = some (.int .u32 s.n) ∧ w.cell? ⟨b, o + 2, none⟩ = some (.bool s.t)
theorem at3.below {w w' : World} {b o : Nat} {s : Sg} {B : Nat} (h : at3 w b o s) (hb : Below B w w') (hB : b < B) : at3 w' b o s :=
  ⟨(hb.cell (p := ⟨b, o, none⟩) hB).trans h.1, (hb.cell (p := ⟨b, o + 1, none⟩) hB).trans h.2.1, (hb.cell (p := ⟨b, o + 2, none⟩) hB).trans h.2.2⟩
/-- a slice of segments, nil too, that reads as L -/
def SegsAt (w : World) (v : Value) (L : List Sg) : Prop :=
  ((∃ a c, v = .slice a 0 c ∧ (a = none → c = 0)) ∧ L = []) ∨ ∃ b o c : Nat, v = .slice (some ⟨b, o, none⟩) L.length c ∧ b < w.heap.size ∧ L.length ≤ c ∧ ∀ j, j < L.length → at3 w b (o + j * 3) (sat L j)
theorem SegsAt.below {w w' : World} {v : Value} {L : List Sg} (h : SegsAt w v L) (hb : Below w.heap.size w w') : SegsAt w' v L := by
  rcases h with h | ⟨b, o, c, h1, h2, h3, h4⟩
  · exact Or.inl h
  · have := hb.size
    exact Or.inr ⟨b, o, c, h1, by omega, h3, fun j hj => (h4 j hj).below hb h2⟩
theorem SegsAt.chg {w w' : World} {v : Value} {L : List Sg} {S : Nat → Prop} (h : SegsAt w v L) (hc : Chg S w w') (hS : ∀ b o n c, v = .slice (some ⟨b, o, none⟩) n c → ¬ S b) : SegsAt w' v L := by
  rcases h with h | ⟨b, o, c, h1, h2, h3, h4⟩
  · exact Or.inl h
  · have hn := hS _ _ _ _ h1
    have hz := hc.size
    exact Or.inr ⟨b, o, c, h1, by omega, h3, fun j hj => ⟨(hc.cell h2 hn).trans (h4 j hj).1, (hc.cell h2 hn).trans (h4 j hj).2.1, (hc.cell h2 hn).trans (h4 j hj).2.2⟩⟩
theorem SegsAt.len {w : World} {v : Value} {L : List Sg} (h : SegsAt w v L) : ∃ a c, v = .slice a L.length c := by
  rcases h with ⟨⟨a, c, rfl, _⟩, rfl⟩ | ⟨b, o, c, rfl, _⟩
  · exact ⟨a, c, rfl⟩
  · exact ⟨_, c, rfl⟩

/-! ### valid buffers -/
def sgC (prev : Bool) (S : Int) : List Sg → Int
  | [] => if 4294967296 ≤ S then 2 else 0
  | s :: l => if s.n = 0 ∨ 18446744073709551616 < s.a + s.n ∨ (prev = true ∧ s.t = false) then 2 else sgC s.t (S + s.n) l
/-- Check's answer -/
def segE (L : List Sg) : Int := if 64 < L.length then 3 else sgC false 0 L
theorem sgC_is : ∀ (L : List Sg) (p : Bool) (S : Int), sgC p S L = 0 ∨ sgC p S L = 2
  | [], p, S => by
    unfold sgC
    split
    · exact Or.inr rfl
    · exact Or.inl rfl
  | s :: l, p, S => by
    unfold sgC
    split
    · exact Or.inr rfl
    · exact sgC_is l _ _
theorem segE_is (L : List Sg) : segE L = 0 ∨ segE L = 2 ∨ segE L = 3 := by
  unfold segE
  split
  · exact Or.inr (Or.inr rfl)
  · rcases sgC_is L false 0 with h | h
    · exact Or.inl h
    · exact Or.inr (Or.inl h)
/-- a valid buffer, behind a segment -/
def okS (prev : Bool) : List Sg → Prop
  | [] => True
  | s :: l => (1 ≤ s.n ∧ s.a + s.n ≤ 18446744073709551616 ∧ (prev = true → s.t = true)) ∧ okS s.t l
def sumS : List Sg → Int
  | [] => 0
  | s :: l => s.n + sumS l
theorem sgC_ok : ∀ {L : List Sg} {p : Bool} {S : Int}, isSgs L → (sgC p S L = 0 ↔ okS p L ∧ S + sumS L < 4294967296)
  | [], p, S, h => by
    unfold sgC okS sumS
    split <;> simp <;> omega
  | s :: l, p, S, h => by
    obtain ⟨h1, h2⟩ := isSgs_cons h
    have ih := sgC_ok (L := l) (p := s.t) (S := S + s.n) h2
    unfold sgC okS sumS
    have hn := h1.2.1
    by_cases hc : s.n = 0 ∨ 18446744073709551616 < s.a + s.n ∨ (p = true ∧ s.t = false)
    · rw [if_pos hc]
      constructor
      · intro h; cases h
      · rintro ⟨⟨⟨q1, q2, q3⟩, _⟩, _⟩
        rcases hc with hc | hc | ⟨hc1, hc2⟩
        · omega
        · omega
        · rw [q3 hc1] at hc2
          cases hc2
    · rw [if_neg hc, ih]
      simp only [not_or, not_and] at hc
      constructor
      · rintro ⟨q1, q2⟩
        refine ⟨⟨⟨by omega, by omega, fun hp => ?_⟩, q1⟩, by omega⟩
        have := hc.2.2 hp
        simpa using this
      · rintro ⟨⟨_, q1⟩, q2⟩
        exact ⟨q1, by omega⟩
theorem segE_ok {L : List Sg} (h : isSgs L) : segE L = 0 ↔ L.length ≤ 64 ∧ okS false L ∧ sumS L < 4294967296 := by
  unfold segE
  split
  · constructor
    · intro h; cases h
    · rintro ⟨h1, _⟩; omega
  · rw [sgC_ok h]
    constructor
    · rintro ⟨q1, q2⟩
      exact ⟨by omega, q1, by omega⟩
    · rintro ⟨_, q1, q2⟩
      exact ⟨q1, by omega⟩
theorem okS_at : ∀ {L : List Sg} {p : Bool}, okS p L → ∀ i, i < L.length → 1 ≤ (sat L i).n ∧ (sat L i).a + (sat L i).n ≤ 18446744073709551616
  | [], p, _, i, hi => by simp at hi
  | s :: l, p, h, i, hi => by
    cases i with
    | zero => exact ⟨h.1.1, h.1.2.1⟩
    | succ i => exact okS_at h.2 i (by simpa using hi)
theorem sumS_nonneg : ∀ {L : List Sg}, isSgs L → 0 ≤ sumS L
  | [], _ => by simp [sumS]
  | s :: l, h => by
    obtain ⟨h1, h2⟩ := isSgs_cons h
    have := sumS_nonneg h2
    have hn := h1.2.1
    unfold sumS
    omega
theorem sumS_take {L : List Sg} {k : Nat} (h : k < L.length) : sumS (L.take (k + 1)) = sumS (L.take k) + (sat L k).n := by
  induction L generalizing k with
  | nil => simp at h
  | cons s l ih =>
    cases k with
    | zero => simp [sumS, sat]
    | succ k =>
      have := ih (k := k) (by simpa using h)
      simp only [List.take_succ_cons, sumS, this]
      have e : sat (s :: l) (k + 1) = sat l k := rfl
      rw [e]
      omega

/-! ### parts, cuts -/
def totS (t : Bool) : List Sg → Int
  | [] => 0
  | s :: l => (if s.t = t then s.n else 0) + totS t l
/-- Total's answers -/
def totE (t : Bool) (L : List Sg) : Int := if segE L = 0 then totS t L else 0
def partS (t : Bool) (L : List Sg) : List Sg := L.filter fun s => s.t == t
/-- Part's answer -/
def partE (t : Bool) (L : List Sg) : List Sg := if segE L = 0 then partS t L else []
def cutS : List Sg → Int → Int → List Sg
  | [], _, _ => []
  | s :: l, f, n => if s.n ≤ f then cutS l (f - s.n) n else (if 0 < min (s.n - f) n then [⟨s.a + f, min (s.n - f) n, s.t⟩] else []) ++ cutS l 0 (n - min (s.n - f) n)
/-- Cut's answer -/
def cutE (L : List Sg) (f n : Int) : List Sg := if segE L = 0 then cutS L f n else []

/-! ### in memory -/
def allIn (R : List (Int × Int)) (L : List Sg) : Bool := L.all fun s => (loc R s.a s.n).isSome
/-- In's answer, where there is a memory -/
def inE (R : List (Int × Int)) (L : List Sg) : Int := if segE L = 0 then (if allIn R L = true then 0 else 5) else segE L
def gatS (R : List (Int × Int)) (M : List Int) : List Sg → List Int
  | [] => []
  | s :: l => (if s.t = true then [] else readL R M s.a s.n) ++ gatS R M l
/-- Gather's answer -/
def gatL (R : List (Int × Int)) (M : List Int) (L : List Sg) : List Int := if inE R L = 0 then gatS R M L else []
def scatS (R : List (Int × Int)) (M : List Int) (b : List Int) : List Sg → List Int
  | [] => M
  | s :: l => if s.t = true then scatS R (writeM R M s.a (b.take s.n.toNat)) (b.drop s.n.toNat) l else scatS R M b l
/-- the bytes behind Scatter -/
def scatM (R : List (Int × Int)) (M : List Int) (L : List Sg) (b : List Int) : List Int := if inE R L = 0 then scatS R M b L else M
def scatN (R : List (Int × Int)) (L : List Sg) (b : List Int) : Int := if inE R L = 0 then min (b.length : Int) (totS true L) else 0
end Go.Proofs.YtfhhgcgbgmilcaaGreat

/- Contracts of desc: the flags of a packed descriptor (Mark, Avail, Used); words of used elements and events. Conditions: as each theorem names them. -/
namespace Go.Proofs.YtfhhgcgbgmilcaaGreat
open Go.ChangeShapes Go.WideShapes Go.ChangeAt Go.RowKit
set_option linter.unusedVariables false
set_option maxRecDepth 100000

/-- the owner's flags -/
def mkN (w u : Bool) : Nat := (if w then 128 else 0) ||| (if w == u then 32768 else 0)
def markN (n : Nat) (w u : Bool) : Nat := (n &&& 32639) ||| mkN w u
def ownN (n : Nat) : Nat := n &&& 32896
theorem and16_lt {n m k : Nat} (h : m < k) : n &&& m < k := Nat.lt_of_le_of_lt Nat.and_le_right h
theorem mkN_lt (w u : Bool) : mkN w u < 65536 := by cases w <;> cases u <;> decide
theorem markN_lt (n : Nat) (w u : Bool) : markN n w u < 65536 := Nat.or_lt_two_pow (n := 16) (and16_lt (by decide)) (mkN_lt w u)

theorem when_any (f : Int) (b : Bool) (w : World) : Calls Tryz.prog 109 #[.int .u16 f, .bool b] w fun e w' => e = .returned (.int .u16 (if b then f else 0)) ∧ w = w' := by
  cases b
  all_goals
    go_enter Tryz.func109, Tryz.ntmps109
    go_wp2_with fail
    go_ret
    exact ⟨rfl, rfl⟩
theorem mark_any (a b : Bool) (w : World) : Calls Tryz.prog 102 #[.bool a, .bool b] w fun e w' => e = .returned (.int .u16 ((mkN a b : Nat) : Int)) ∧ w = w' := by
  have h1 := fun (u : World) => when_any 128 a u
  have h2 := fun (u : World) => when_any 32768 (a == b) u
  have H1 := hid_mk h1
  have H2 := hid_mk h2
  clear h1 h2
  cases a <;> cases b
  all_goals
    go_enter Tryz.func102, Tryz.ntmps102
    go_wp2_with fail
    refine (H1.out _).mono ?_
    rintro e w1 ⟨rfl, rfl⟩
    go_wp2_with fail
    refine (H2.out _).mono ?_
    rintro e w1 ⟨rfl, rfl⟩
    go_wp2_with fail
    go_ret
    exact ⟨rfl, rfl⟩
theorem Mark_any (n : Nat) (a b : Bool) (w : World) (hn : n < 65536) : Calls Tryz.prog 83 #[.int .u16 n, .bool a, .bool b] w fun e w' => e = .returned (.int .u16 ((markN n a b : Nat) : Int)) ∧ w = w' := by
  have h1 := mark_any a b w
  have e1 : bits .andNot .u16 (n : Int) 32896 = ((n &&& 32639 : Nat) : Int) := u16_andNot_nat n 32896 hn (by omega)
  have e2 : bits .or .u16 ((n &&& 32639 : Nat) : Int) ((mkN a b : Nat) : Int) = ((markN n a b : Nat) : Int) := u16_or_nat _ _ (and16_lt (by decide)) (mkN_lt a b)
  have hm : IntKind.u16.wrap ((markN n a b : Nat) : Int) = ((markN n a b : Nat) : Int) := by
    have := markN_lt n a b
    rw [IntKind.wrap_u16]
    omega
  have H1 := hid_mk h1
  clear h1
  go_enter Tryz.func83, Tryz.ntmps83
  go_wp2_with fail
  refine H1.out.mono ?_
  rintro e w1 ⟨rfl, rfl⟩
  go_wp2_with fail
  go_ret
  exact ⟨rfl, rfl⟩
/-! ## plain facts on the flags -/
theorem own_mark (n : Nat) (a b : Bool) : ownN (markN n a b) = mkN a b := by
  unfold ownN markN
  rw [Nat.and_or_distrib_right, Nat.and_assoc]
  have e : (32639 : Nat) &&& 32896 = 0 := by decide
  rw [e, Nat.and_zero, Nat.zero_or]
  cases a <;> cases b <;> decide
theorem rest_mark (n : Nat) (a b : Bool) : markN n a b &&& 32639 = n &&& 32639 := by
  unfold markN
  rw [Nat.and_or_distrib_right, Nat.and_assoc]
  have e : (32639 : Nat) &&& 32639 = 32639 := by decide
  have e2 : mkN a b &&& 32639 = 0 := by cases a <;> cases b <;> decide
  rw [e, e2, Nat.or_zero]
theorem mark_mark (n : Nat) (a b c d : Bool) : markN (markN n a b) c d = markN n c d := by
  have h := rest_mark n a b
  show (markN n a b &&& 32639) ||| mkN c d = (n &&& 32639) ||| mkN c d
  rw [h]
end Go.Proofs.YtfhhgcgbgmilcaaGreat
