/- Contracts of the kit's copies: Own, Regions; and of its looks: LightRegions, SameRegions. Conditions: as each theorem names them. -/
import Derived.Test.YtfbimocgcnaogaaGm8
import Derived.Laws.AppendOwn
import Derived.Laws.OwnMore
import Derived.Deep.RegionHeld3
import Derived.OwnWalk
namespace Go.Proofs.Ytfbimocgcnaogaa
open Go.ChangeShapes Go.WideShapes Go.ChangeAt Go.RowKit
set_option linter.unusedVariables false
set_option maxRecDepth 100000

/-- append by an equation of its run -/
theorem wpList_append_run {P : Program} {w w' : World} {ops : Array Oper} {rest : List Oper} {o : Oper} {a : Act} {Q : Exit → Act → World → Prop} {v u v' : Value} (hgd : o.guard = none) (s x : Operand) (t : TypeId)
    (ho : o.op = .call { callee := .builtin .append, args := #[s, x], argTypes := #[t, t] }) (hs : a.eval s = v) (hx : a.eval x = u)
    (hrun : (Builtin.append_ #[t, t] o.type #[v, u]).run P w = .ok v' w') (h : wpList P ops Q rest (a.put o.dst v') w') : wpList P ops Q (o :: rest) a w := by
  refine wpList_plain hgd fun K hK => ?_
  unfold Oper.wp
  simp [execOp, ho, resolve, invoke, builtin, hs, hx, hrun, Result.andThen]
  exact hK _ _ h

theorem newBytes_of {B : Nat} {w : World} {v : Value} {n : Nat} {l : List Int} (h : w.ownsRow B 5 1 v n (l.map (Value.int .u8))) : NewBytes B w v l := by
  obtain ⟨h1, h2⟩ := h
  simp at h1
  rcases h2 with ⟨rfl, rfl⟩ | ⟨g, cap, cur, rfl, hg, hh, hn, hm, hs, ht⟩
  · left
    exact ⟨rfl, List.length_eq_zero_iff.1 h1⟩
  · right
    subst h1
    simp only [Nat.mul_one] at hs ht
    refine ⟨g, cap, rfl, hg, hn, cur.toList.drop l.length, ?_, ?_⟩
    · rw [hh, ← ht, List.take_append_drop]
    · simp [hs]
      omega
theorem grown_below {w w' : World} {row : Option Nat} {B : Nat} (hg : w.grownBy w' row) (hB : B ≤ w.heap.size) (hr : ∀ k, row = some k → B ≤ k) : Below B w w' := (Below.refl B w).grown hg hB hr
theorem news_of {W : World} {b o c : Nat} {l : List Int} (h : ∀ j, j < l.length → W.cell? ⟨b, o + j, none⟩ = some (.int .u8 (l.getD j 0))) : ∀ j u, (l.map (Value.int .u8))[j]? = some u → W.cell? ((⟨b, o, none⟩ : Addr).add j) = some u := fun j u hu => by
  have hj : j < l.length := by
    have := (List.getElem?_eq_some_iff.1 hu).1
    simpa using this
  rw [show (⟨b, o, none⟩ : Addr).add j = ⟨b, o + j, none⟩ from by unfold Addr.add; split <;> simp_all, h j hj]
  simp [hj] at hu
  subst hu
  simp [List.getD, hj]
theorem one_of {k : IntKind} {l : List Int} : ∀ u ∈ l.map (Value.int k), u.oneCell' = true := fun u hu => by
  obtain ⟨x, _, rfl⟩ := List.mem_map.1 hu
  rfl

/-! ## Regions -/
theorem newsR_of {W : World} {b o c : Nat} {L : List (Int × Int)} (h : ∀ j, j < L.length → W.cell? ⟨b, o + j * 2, none⟩ = some (.int .u64 (at_ L j).1) ∧ W.cell? ⟨b, o + j * 2 + 1, none⟩ = some (.int .u64 (at_ L j).2)) : ∀ j u, (regCells L)[j]? = some u → W.cell? ((⟨b, o, none⟩ : Addr).add j) = some u := fun j u hu => by
  have hl := regCells_length L
  have hj : j < L.length * 2 := by
    have := (List.getElem?_eq_some_iff.1 hu).1
    omega
  rw [show (⟨b, o, none⟩ : Addr).add j = ⟨b, o + j, none⟩ from by unfold Addr.add; split <;> simp_all]
  have hr := regCells_at L (j / 2) (by omega)
  have hc := h (j / 2) (by omega)
  rcases Nat.mod_two_eq_zero_or_one j with hm | hm
  · have e : j = j / 2 * 2 := by omega
    rw [e] at hu ⊢
    rw [hc.1]
    rw [hr.1] at hu
    exact hu
  · have e : j = j / 2 * 2 + 1 := by omega
    rw [e] at hu ⊢
    rw [← Nat.add_assoc, hc.2]
    rw [hr.2] at hu
    exact hu
theorem oneR_of : ∀ {L : List (Int × Int)}, ∀ u ∈ regCells L, u.oneCell' = true
  | [], u, hu => by cases hu
  | r :: L, u, hu => by
    simp only [regCells, List.mem_cons] at hu
    rcases hu with rfl | rfl | hu
    · rfl
    · rfl
    · exact oneR_of u hu

/-! ## LightRegions -/
def lightSum : List (Int × Int) → Int
  | [] => 0
  | r :: l => min r.2 1073741824 + lightSum l
theorem lightSum_take (L : List (Int × Int)) (k : Nat) (h : k < L.length) : lightSum (L.take (k + 1)) = lightSum (L.take k) + min (at_ L k).2 1073741824 := by
  induction L generalizing k with
  | nil => simp at h
  | cons r l ih =>
    cases k with
    | zero => simp [lightSum, at_]
    | succ k =>
      have := ih k (by simpa using h)
      simp only [List.take_succ_cons, lightSum, at_succ, this]
      omega
theorem lightSum_bd : ∀ {L : List (Int × Int)}, isRegs L → 0 ≤ lightSum L ∧ lightSum L ≤ 1073741824 * L.length
  | [], _ => by simp [lightSum]
  | r :: l, h => by
    have h1 := h r (by simp)
    have h2 := lightSum_bd (L := l) (fun x hx => h x (by simp [hx]))
    have h3 : 0 ≤ r.2 := h1.2.1
    simp only [lightSum, List.length_cons]
    omega
def lightB (L : List (Int × Int)) (most : Int) : Bool := decide (L.length ≤ 40) && decide (lightSum L ≤ most)
theorem isRegs_take {L : List (Int × Int)} (h : isRegs L) (k : Nat) : isRegs (L.take k) := fun r hr => h r (List.mem_of_mem_take hr)
end Go.Proofs.Ytfbimocgcnaogaa
