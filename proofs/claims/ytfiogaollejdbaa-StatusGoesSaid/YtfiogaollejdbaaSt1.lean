/- A device's state as a value: compared, opened; a list of acts of layer 7. Conditions: as each theorem names them. -/
import Derived.Test.YtfiogaollejdbaaSt0
import Derived.Test.YtfiogaollejdbaaKit
import Derived.Test.YtfiogaollejdbaaArg
import Derived.Test.YtfiogaollejdbaaOwn
namespace Go.Proofs.Ytfiogaollejdbaa
open Go.ChangeShapes Go.WideShapes Go.ChangeAt Go.RowKit
set_option linter.unusedVariables false
set_option maxRecDepth 100000

/-- are they the same? -/
def sameDv (x y : Dv) : Bool := x.k == y.k && x.o == y.o && x.g == y.g && x.s == y.s
theorem sameDv_self (x : Dv) : sameDv x x = true := by simp [sameDv]
theorem fieldsDv : Try.prog.underlying 24 = some (.struct (Try.prog.fieldsOf 24)) := by kernel_rfl
theorem stoodDv : Try.prog.stoodInHeld 24 = false := by kernel_rfl
theorem eqDv (x y : Dv) (w : World) : (binOp .eql 24 (dvV x) (dvV y)).run Try.prog w = .ok (.bool (sameDv x y)) w := by
  unfold dvV
  rw [run_eql_struct, run_equalIn_agg w 9999 24 _ _ fieldsDv stoodDv]
  have hf := fieldsDv
  rw [Try.underlying24] at hf
  simp at hf
  rw [← hf]
  simp [Op.eqFields, go_sem, Try.underlying3, Try.underlying22, Try.underlying5, sameDv]
  by_cases h1 : x.k = y.k <;> by_cases h2 : x.o = y.o <;> by_cases h3 : x.g = y.g <;> by_cases h4 : x.s = y.s <;> simp [h1, h2, h3, h4, Int.ofNat_inj]

section
variable {H : Type} {enc : TypeId × Value → H} {W : World} {r : Reach} {b0 : Nat} {v : Value} {d : DataW H} {p : List MemPlace}
theorem open_dev (hval : Value.okWide Try.prog W r b0 24 v) (h : DataW.Trod enc Try.prog W 0 (fun _ => true) true 24 v d p) : ∃ x : Dv, v = dvV x ∧ isDv x := by
  obtain ⟨c0, c1, c2, c3, y0, y1, y2, y3, m, rfl, rfl, rfl, h0, h1, h2, h3⟩ := Go.Joins.open_agg4 Try.underlying24 (by kernel_rfl) (by kernel_rfl) hval h
  obtain ⟨n0, e0, _, w0⟩ := DataW.trod_int Try.underlying3 h0
  obtain ⟨n1, e1, _, w1⟩ := DataW.trod_int Try.underlying22 h1
  obtain ⟨n2, e2, _, w2⟩ := DataW.trod_int Try.underlying22 h2
  obtain ⟨n3, e3, _, w3⟩ := DataW.trod_int Try.underlying5 h3
  simp at e0 e1 e2 e3
  subst e0 e1 e2 e3
  have u1 := bounds_u64 w1
  have u2 := bounds_u64 w2
  have u3 := bounds_u8 w3
  refine ⟨⟨n0, n1.toNat, n2.toNat, n3.toNat⟩, ?_, ⟨by simp only [N64]; omega, by simp only [N64]; omega, by simp only; omega⟩⟩
  unfold dvV
  rw [Int.toNat_of_nonneg (show 0 ≤ n1 by omega), Int.toNat_of_nonneg (show 0 ≤ n2 by omega), Int.toNat_of_nonneg (show 0 ≤ n3 by omega)]
end

/-- one act of layer 7 -/
structure Act7 where
  kind : Int
  w : Nat
  x : Nat
  n : Bool
instance : Inhabited Act7 := ⟨⟨0, 0, 0, false⟩⟩
def act7 (A : List Act7) (i : Nat) : Act7 := A.getD i default
def isAct7 (x : Act7) : Prop := x.w < 256 ∧ x.x < N64
def Acts7At (w : World) (v : Value) (A : List Act7) : Prop :=
  ((∃ a c, v = .slice a 0 c ∧ (a = none → c = 0)) ∧ A = []) ∨ ∃ b o c : Nat, v = .slice (some ⟨b, o, none⟩) A.length c ∧ b < w.heap.size ∧ A.length ≤ c ∧ ∀ j, j < A.length → (w.cell? ⟨b, o + j * 4, none⟩ = some (.int .i64 (act7 A j).kind) ∧ w.cell? ⟨b, o + j * 4 + 1, none⟩ = some (.int .u8 (act7 A j).w) ∧ w.cell? ⟨b, o + j * 4 + 2, none⟩ = some (.int .u64 (act7 A j).x) ∧ w.cell? ⟨b, o + j * 4 + 3, none⟩ = some (.bool (act7 A j).n))
section
variable {H : Type} {enc : TypeId × Value → H} {W : World} {r : Reach} {b0 : Nat} {v : Value} {d : DataW H} {p : List MemPlace}
theorem list4s {α : Type} {l : List α} (h : l.length = 4) : ∃ a b c d, l = [a, b, c, d] := by
  match l, h with
  | [a, b, c, d], _ => exact ⟨a, b, c, d, rfl⟩
theorem open_acts7 (hval : Value.okWide Try.prog W r b0 37 v) (h : DataW.Trod enc Try.prog W 0 (fun _ => true) true 37 v d p) :
    ∃ A, Acts7At W v A ∧ (∀ j, j < A.length → isAct7 (act7 A j)) ∧ A.length ≤ maxLen := by
  obtain ⟨a, len, cap, rfl⟩ := okWide_slice Try.underlying37 hval
  obtain ⟨fuel, hf⟩ := h
  rcases Go.Deep.open_slice Try.underlying37 hf with ⟨hcs, _⟩ | ⟨a', len', cap', m, n, D, Pl, hcs, _, hle, hmax, hm, _, hx⟩
  · simp [Value.cells] at hcs
    obtain ⟨rfl, rfl, rfl⟩ := hcs
    exact ⟨[], Or.inl ⟨⟨_, _, rfl, fun _ => rfl⟩, rfl⟩, (fun j hj => by simp at hj), by simp⟩
  · simp [Value.cells] at hcs
    obtain ⟨rfl, rfl, rfl⟩ := hcs
    simp only [if_true] at hm
    subst hm
    have hC : Try.prog.cellsOf 41 = 4 := by kernel_rfl
    have hC8 : Try.prog.cellsOf 5 = 1 := by kernel_rfl
    have hC6 : Try.prog.cellsOf 22 = 1 := by kernel_rfl
    have hC3 : Try.prog.cellsOf 3 = 1 := by kernel_rfl
    have hC4 : Try.prog.cellsOf 4 = 1 := by kernel_rfl
    have each : ∀ i, i < len → ∃ x : Act7, (W.cell? (a'.add (i * 4)) = some (.int .i64 x.kind) ∧ W.cell? (a'.add (i * 4 + 1)) = some (.int .u8 x.w) ∧ W.cell? (a'.add (i * 4 + 2)) = some (.int .u64 x.x) ∧ W.cell? (a'.add (i * 4 + 3)) = some (.bool x.n)) ∧ isAct7 x := fun i hi => by
      obtain ⟨cs', h1, h2⟩ := hx i (by omega)
      rw [hC] at h1
      obtain ⟨_, hlen, hcell⟩ := World.cells?_some h1
      obtain ⟨v0, v1, v2, v3, rfl⟩ := list4s hlen
      obtain ⟨xs, k, hk, hxy, _, hxl, hfd⟩ := DataW.trod_struct Try.underlying41 h2
      obtain ⟨y0, y1, y2, y3, rfl⟩ := list4s hxl
      have g0 := hfd 0 _ rfl
      have g1 := hfd 1 _ rfl
      have g2 := hfd 2 _ rfl
      have g3 := hfd 3 _ rfl
      simp [hC3, hC6, hC8, hC4] at g0 g1 g2 g3
      obtain ⟨n0, e0, _, w0⟩ := DataW.trod_int Try.underlying3 g0
      obtain ⟨n1, e1, _, w1⟩ := DataW.trod_int Try.underlying5 g1
      obtain ⟨n2, e2, _, w2⟩ := DataW.trod_int Try.underlying22 g2
      obtain ⟨n3, e3, _⟩ := DataW.trod_bool Try.underlying4 g3
      simp at e0 e1 e2 e3
      subst e0 e1 e2 e3
      have c0 := hcell 0 (by omega)
      have c1 := hcell 1 (by omega)
      have c2 := hcell 2 (by omega)
      have c3 := hcell 3 (by omega)
      rw [Go.Deep.add_add] at c0 c1 c2 c3
      have u1 := bounds_u8 w1
      have u2 := bounds_u64 w2
      refine ⟨⟨n0, n1.toNat, n2.toNat, n3⟩, ⟨c0, ?_, ?_, c3⟩, ⟨by simp only; omega, by simp only [N64]; omega⟩⟩
      · rw [Int.toNat_of_nonneg (show 0 ≤ n1 by omega)]
        exact c1
      · rw [Int.toNat_of_nonneg (show 0 ≤ n2 by omega)]
        exact c2
    obtain ⟨f, hf2⟩ := Go.Deep.choose_lt each
    have hlen : ((List.range len).map f).length = len := by simp
    have hat : ∀ i, i < len → act7 ((List.range len).map f) i = f i := fun i hi => by simp [act7, List.getD, hi]
    refine ⟨(List.range len).map f, ?_, (fun j hj => by rw [hlen] at hj; rw [hat j hj]; exact (hf2 j hj).2), by rw [hlen]; omega⟩
    by_cases h0 : len = 0
    · subst h0
      exact Or.inl ⟨⟨_, _, rfl, fun h => by cases h⟩, rfl⟩
    · obtain ⟨b, off, spot⟩ := a'
      have hspot : spot = none := by simpa [Addr.add] using World.cell?_spot (hf2 0 (by omega)).1.1
      subst hspot
      have h00 := (hf2 0 (by omega)).1.1
      rw [add_plain] at h00
      refine Or.inr ⟨b, off, m, by rw [hlen], World.block_lt_of_cell? W _ h00, by omega, fun j hj => ?_⟩
      rw [hlen] at hj
      have h1 := (hf2 j hj).1
      simp only [add_plain] at h1
      rw [hat j hj]
      exact ⟨h1.1, by rw [Nat.add_assoc]; exact h1.2.1, by rw [Nat.add_assoc]; exact h1.2.2.1, by rw [Nat.add_assoc]; exact h1.2.2.2⟩
end
theorem Acts7At.below {w w' : World} {v : Value} {A : List Act7} (h : Acts7At w v A) (hb : Below w.heap.size w w') : Acts7At w' v A := by
  rcases h with h | ⟨b, o, c, h1, h2, h3, h4⟩
  · exact Or.inl h
  · have := hb.size
    refine Or.inr ⟨b, o, c, h1, by omega, h3, fun j hj => ?_⟩
    obtain ⟨g0, g1, g2, g3⟩ := h4 j hj
    exact ⟨(hb.cell (p := ⟨_, _, none⟩) h2).trans g0, (hb.cell (p := ⟨_, _, none⟩) h2).trans g1, (hb.cell (p := ⟨_, _, none⟩) h2).trans g2, (hb.cell (p := ⟨_, _, none⟩) h2).trans g3⟩
theorem Acts7At.len {w : World} {v : Value} {A : List Act7} (h : Acts7At w v A) : ∃ a c, v = .slice a A.length c := by
  rcases h with ⟨⟨a, c, rfl, _⟩, rfl⟩ | ⟨b, o, c, rfl, _⟩
  · exact ⟨a, c, rfl⟩
  · exact ⟨_, _, rfl⟩
end Go.Proofs.Ytfiogaollejdbaa
