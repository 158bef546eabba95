/- Gm8 Own: joined texts. Conditions: as each theorem names them. -/
import Derived.Test.YtgdokgpplldddaaKp07
import Derived.Laws.BytesArg
import Derived.Laws.AppendOwn
import Derived.Laws.OwnMore
import Derived.Deep.RegionHeld3
import Derived.OwnWalk
/- The statements' common examples: two, lives; New where the regions are not valid. Conditions: as each theorem names them. -/
namespace Go.Proofs.Ytgdokgpplldddaa
open Go.ChangeShapes Go.WideShapes Go.ChangeAt Go.RowKit
set_option linter.unusedVariables false
set_option maxRecDepth 100000

/-- a change of what was made since -/
theorem Chg.since {S : Nat → Prop} {w a b : World} (h : Below w.heap.size w a) (hc : Chg S a b) (hS : ∀ k, S k → w.heap.size ≤ k) : Below w.heap.size w b :=
  h.trans (hc.below h.size (fun k hk hs => by have := hS k hs; omega))
theorem Chg.since1 {w a b : World} {ib : Nat} (h : Below w.heap.size w a) (hc : Chg (· = ib) a b) (hi : w.heap.size ≤ ib) : Below w.heap.size w b := hc.since h (fun k hk => by omega)

abbrev L2 : List (Int × Int) := [(100, 8), (108, 4)]
theorem isRegs_L2 : isRegs L2 := by
  intro r hr
  simp [L2] at hr
  rcases hr with rfl | rfl <;> simp [U64]

/-! ## words for closed regions, and for bytes as a string -/
def isRegsB (L : List (Int × Int)) : Bool := L.all fun r => decide (0 ≤ r.1 ∧ r.1 < 18446744073709551616 ∧ 0 ≤ r.2 ∧ r.2 < 18446744073709551616)
theorem isRegs_of {L : List (Int × Int)} (h : isRegsB L = true) : isRegs L := by
  intro r hr
  have := List.all_eq_true.1 h r hr
  simp at this
  exact ⟨⟨this.1, this.2.1⟩, this.2.2.1, this.2.2.2⟩
theorem isBytes_of {l : List Int} (h : (l.all fun x => decide (0 ≤ x ∧ x < 256)) = true) : isBytes l := by
  intro r hr
  have := List.all_eq_true.1 h r hr
  simpa using this
theorem regsLit (w : World) (L : List (Int × Int)) (t : TypeId) : RegsAt (w.alloc (.cells (regCells L).toArray t)) (.slice (some ⟨w.heap.size, 0, none⟩) L.length L.length) L :=
  regsAt_row (cs := []) (by rw [List.append_nil]; exact heap_alloc_new _ _) (Nat.le_refl _)
theorem bytesLit (w : World) (l : List Int) (t : TypeId) : BytesAt (w.alloc (.cells (bv l) t)) (.slice (some ⟨w.heap.size, 0, none⟩) l.length l.length) l :=
  Or.inr ⟨w.heap.size, 0, l.length, rfl, by rw [sizeA]; omega, Nat.le_refl _, fun j hj => by rw [Nat.zero_add]; exact cellB (M := l) (heap_alloc_new w _) j hj⟩
theorem NewBytes.len {B : Nat} {w : World} {v : Value} {l : List Int} (h : NewBytes B w v l) : ∃ a c, v = .slice a l.length c := by
  rcases h with ⟨rfl, rfl⟩ | ⟨b, c, rfl, _⟩
  · exact ⟨none, 0, rfl⟩
  · exact ⟨_, _, rfl⟩
theorem convN {B : Nat} {w : World} {v : Value} {l : List Int} (h : NewBytes B w v l) : (convert 49 9 v).run Try.prog w = .ok (.string (strOfNums l)) w := by
  rcases h with ⟨rfl, rfl⟩ | ⟨b, c, rfl, _, _, cs, h4, _⟩
  · exact run_convert_bytes_nil w 49 5 Try.underlying49 Try.underlying5 0 0 9 Try.underlying9
  · exact run_convert_bytes_arg w 49 5 Try.underlying49 Try.underlying5 b 0 l.length c l rfl (fun i hi => by
      rw [cellK h4, Nat.zero_add, List.getElem?_append_left (by simp; omega)]
      simp [hi, List.getD]) 9 Try.underlying9
theorem NewBytes.form {B : Nat} {w : World} {v : Value} {l : List Int} (h : NewBytes B w v l) (hl : 0 < l.length) : ∃ b c : Nat, v = .slice (some ⟨b, 0, none⟩) l.length c ∧ B ≤ b ∧ b < w.heap.size ∧ l.length ≤ c ∧ ∀ j, j < l.length → w.cell? ⟨b, j, none⟩ = some (.int .u8 (l.getD j 0)) := by
  rcases h with ⟨_, rfl⟩ | ⟨b, c, h1, h2, h3, cs, h4, _⟩
  · simp at hl
  · refine ⟨b, c, h1, h2, lt_blk h4, h3, fun j hj => ?_⟩
    rw [cellK h4, List.getElem?_append_left (by simp; omega)]
    simp [hj, List.getD]
/-- a new block, and a call behind it -/
theorem below_new {w a b : World} {o : Obj} (h : Below w.heap.size w a) (hb : Below (a.alloc o).heap.size (a.alloc o) b) : Below w.heap.size w b :=
  (h.alloc h.size o).trans (hb.mono (by rw [sizeA]; have := h.size; omega))
theorem below_then {w a b : World} (h : Below w.heap.size w a) (hb : Below a.heap.size a b) : Below w.heap.size w b := h.trans (hb.mono h.size)
end Go.Proofs.Ytgdokgpplldddaa

/- Contracts of the kit's copies: Own, Regions; and of its looks: LightRegions, SameRegions. Conditions: as each theorem names them. -/
namespace Go.Proofs.Ytgdokgpplldddaa
open Go.ChangeShapes Go.WideShapes Go.ChangeAt Go.RowKit
set_option linter.unusedVariables false
set_option maxRecDepth 100000

/-- append by an equation of its run -/
theorem wpList_append_run {P : Program} {w w' : World} {ops : Array Oper} {rest : List Oper} {o : Oper} {a : Act} {Q : Exit → Act → World → Prop} {v u v' : Value} (hgd : o.guard = none) (s x : Operand) (t : TypeId)
    (ho : o.op = .call { callee := .builtin .append, args := #[s, x], argTypes := #[t, t] }) (hs : a.eval s = v) (hx : a.eval x = u)
    (hrun : (Builtin.append_ #[t, t] o.type #[v, u]).run P w = .ok v' w') (h : wpList P ops Q rest (a.put o.dst v') w') : wpList P ops Q (o :: rest) a w := by
  refine wpList_plain hgd fun K hK => ?_
  unfold Oper.wp
  simp [execOp, ho, resolve, invoke, builtin, hs, hx, hrun, Result.andThen]
  exact hK _ _ h

theorem newBytes_of {B : Nat} {w : World} {v : Value} {n : Nat} {l : List Int} (h : w.ownsRow B 5 1 v n (l.map (Value.int .u8))) : NewBytes B w v l := by
  obtain ⟨h1, h2⟩ := h
  simp at h1
  rcases h2 with ⟨rfl, rfl⟩ | ⟨g, cap, cur, rfl, hg, hh, hn, hm, hs, ht⟩
  · left
    exact ⟨rfl, List.length_eq_zero_iff.1 h1⟩
  · right
    subst h1
    simp only [Nat.mul_one] at hs ht
    refine ⟨g, cap, rfl, hg, hn, cur.toList.drop l.length, ?_, ?_⟩
    · rw [hh, ← ht, List.take_append_drop]
    · simp [hs]
      omega
theorem grown_below {w w' : World} {row : Option Nat} {B : Nat} (hg : w.grownBy w' row) (hB : B ≤ w.heap.size) (hr : ∀ k, row = some k → B ≤ k) : Below B w w' := (Below.refl B w).grown hg hB hr
theorem news_of {W : World} {b o c : Nat} {l : List Int} (h : ∀ j, j < l.length → W.cell? ⟨b, o + j, none⟩ = some (.int .u8 (l.getD j 0))) : ∀ j u, (l.map (Value.int .u8))[j]? = some u → W.cell? ((⟨b, o, none⟩ : Addr).add j) = some u := fun j u hu => by
  have hj : j < l.length := by
    have := (List.getElem?_eq_some_iff.1 hu).1
    simpa using this
  rw [show (⟨b, o, none⟩ : Addr).add j = ⟨b, o + j, none⟩ from by unfold Addr.add; split <;> simp_all, h j hj]
  simp [hj] at hu
  subst hu
  simp [List.getD, hj]
theorem one_of {k : IntKind} {l : List Int} : ∀ u ∈ l.map (Value.int k), u.oneCell' = true := fun u hu => by
  obtain ⟨x, _, rfl⟩ := List.mem_map.1 hu
  rfl

/-! ## Regions -/
theorem newsR_of {W : World} {b o c : Nat} {L : List (Int × Int)} (h : ∀ j, j < L.length → W.cell? ⟨b, o + j * 2, none⟩ = some (.int .u64 (at_ L j).1) ∧ W.cell? ⟨b, o + j * 2 + 1, none⟩ = some (.int .u64 (at_ L j).2)) : ∀ j u, (regCells L)[j]? = some u → W.cell? ((⟨b, o, none⟩ : Addr).add j) = some u := fun j u hu => by
  have hl := regCells_length L
  have hj : j < L.length * 2 := by
    have := (List.getElem?_eq_some_iff.1 hu).1
    omega
  rw [show (⟨b, o, none⟩ : Addr).add j = ⟨b, o + j, none⟩ from by unfold Addr.add; split <;> simp_all]
  have hr := regCells_at L (j / 2) (by omega)
  have hc := h (j / 2) (by omega)
  rcases Nat.mod_two_eq_zero_or_one j with hm | hm
  · have e : j = j / 2 * 2 := by omega
    rw [e] at hu ⊢
    rw [hc.1]
    rw [hr.1] at hu
    exact hu
  · have e : j = j / 2 * 2 + 1 := by omega
    rw [e] at hu ⊢
    rw [← Nat.add_assoc, hc.2]
    rw [hr.2] at hu
    exact hu
theorem oneR_of : ∀ {L : List (Int × Int)}, ∀ u ∈ regCells L, u.oneCell' = true
  | [], u, hu => by cases hu
  | r :: L, u, hu => by
    simp only [regCells, List.mem_cons] at hu
    rcases hu with rfl | rfl | hu
    · rfl
    · rfl
    · exact oneR_of u hu

/-! ## LightRegions -/
def lightSum : List (Int × Int) → Int
  | [] => 0
  | r :: l => min r.2 1073741824 + lightSum l
theorem lightSum_take (L : List (Int × Int)) (k : Nat) (h : k < L.length) : lightSum (L.take (k + 1)) = lightSum (L.take k) + min (at_ L k).2 1073741824 := by
  induction L generalizing k with
  | nil => simp at h
  | cons r l ih =>
    cases k with
    | zero => simp [lightSum, at_]
    | succ k =>
      have := ih k (by simpa using h)
      simp only [List.take_succ_cons, lightSum, at_succ, this]
      omega
theorem lightSum_bd : ∀ {L : List (Int × Int)}, isRegs L → 0 ≤ lightSum L ∧ lightSum L ≤ 1073741824 * L.length
  | [], _ => by simp [lightSum]
  | r :: l, h => by
    have h1 := h r (by simp)
    have h2 := lightSum_bd (L := l) (fun x hx => h x (by simp [hx]))
    have h3 : 0 ≤ r.2 := h1.2.1
    simp only [lightSum, List.length_cons]
    omega
def lightB (L : List (Int × Int)) (most : Int) : Bool := decide (L.length ≤ 40) && decide (lightSum L ≤ most)
theorem isRegs_take {L : List (Int × Int)} (h : isRegs L) (k : Nat) : isRegs (L.take k) := fun r hr => h r (List.mem_of_mem_take hr)
end Go.Proofs.Ytgdokgpplldddaa
