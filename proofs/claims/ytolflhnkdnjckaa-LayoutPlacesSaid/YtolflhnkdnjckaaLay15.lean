/- Plain facts of rings that are laid out: they are valid; where each element lies. Conditions: as each lemma names them. -/
import Derived.Test.YtolflhnkdnjckaaLay14
namespace Go.Proofs.Ytolflhnkdnjckaa
open Go.ChangeShapes Go.WideShapes Go.ChangeAt Go.RowKit
set_option linter.unusedVariables false
set_option maxRecDepth 100000

theorem pl_parts {pk : Bool} {n b : Int} (h : plOk pk n b = true) : szB pk n = true ∧ b + 16 ≤ 18446744073709551616 ∧ alV b 16 = 16 * ((b + 16 - 1) / 16) ∧ alV b 16 + totL pk n ≤ 18446744073709551616 := by
  unfold plOk at h
  simp only [Bool.and_eq_true, decide_eq_true_eq] at h
  obtain ⟨h1, h2, h3⟩ := h
  rw [alOk_num powB16] at h2
  have h4 := of_decide_eq_true h2
  exact ⟨h1, h4, (alV_num powB16 h4).1, h3⟩
theorem pl_mk {pk : Bool} {n b : Int} (h1 : szB pk n = true) (h2 : b + 16 ≤ 18446744073709551616) (h3 : 16 * ((b + 16 - 1) / 16) + totL pk n ≤ 18446744073709551616) : plOk pk n b = true := by
  unfold plOk
  rw [h1, alOk_num powB16, decide_eq_true h2, (alV_num powB16 h2).1, decide_eq_true h3]
  rfl
theorem placed_ok {pk : Bool} {n b : Int} (hb : 0 ≤ b) (h : plOk pk n b = true) : okRg pk n (alV b 16) (alV b 16 + 16 * n) (alV b 16 + cO pk n) = true := by
  obtain ⟨h1, h2, h3, h4⟩ := pl_parts h
  obtain ⟨t1, t2, t3, t4, t5, t6, t7, t8⟩ := tot_rng h1
  obtain ⟨r1, r2, r3⟩ := part_rng h1
  have hu := uG_is pk
  unfold okRg
  rw [h1]
  have : okL (alV b 16) (pD pk n) (alV b 16 + 16 * n) (pG pk n) (alV b 16 + cO pk n) (pC pk n) (uG pk) = true := by
    unfold okL
    refine decide_eq_true ⟨⟨by omega, by omega⟩, ⟨?_, by omega, Or.inr (by omega)⟩, by omega, by omega, Or.inr (by omega), Or.inr (by omega)⟩
    rcases hu with h | h <;> rw [h] <;> omega
  rw [this]
  rfl

/-- the part of an element: its address, its bytes -/
def elB (pk : Bool) (d g c x : Int) : Int := if x = 1 then d else if pk then (if x = 10 then g else c) else if x ≤ 5 then g else c
/-- an element's place in its part -/
def elOff (n x i : Int) : Int := if x = 1 then 16 * i else if x = 3 then 2 else if x = 4 then 4 + 2 * i else if x = 5 then 4 + 2 * n else if x = 7 then 2 else if x = 8 then 4 + 8 * i else if x = 9 then 4 + 8 * n else 0
theorem wh_parts {pk : Bool} {n d g c x i : Int} (h : whOk pk n d g c x i = true) : okRg pk n d g c = true ∧ 0 ≤ i ∧ i < (elP pk n d g c x).2.2 ∧ isEl x := by
  unfold whOk at h
  simp only [Bool.and_eq_true, decide_eq_true_eq] at h
  refine ⟨h.1, h.2.1, h.2.2, ?_⟩
  by_cases hx : isEl x
  · exact hx
  · unfold isEl at hx
    simp only [not_or] at hx
    have e : (elP pk n d g c x).2.2 = 0 := by cases pk <;> simp [elP, hx]
    omega
theorem whA_eq {pk : Bool} {n d g c x i : Int} (h : whOk pk n d g c x i = true) (hd : U64 d) (hg : U64 g) (hc : U64 c) :
    whA pk n d g c x i = elB pk d g c x + elOff n x i ∧ 0 ≤ elOff n x i ∧ 1 ≤ (elP pk n d g c x).2.1 ∧ (elP pk n d g c x).2.1 ≤ 16 ∧ elOff n x i + (elP pk n d g c x).2.1 ≤ elB pk (pD pk n) (pG pk n) (pC pk n) x := by
  obtain ⟨hk, hi, hin, hx⟩ := wh_parts h
  obtain ⟨hs, hl⟩ := ok_parts hk
  obtain ⟨t1, t2, t3, t4, t5, t6, t7, t8⟩ := tot_rng hs
  obtain ⟨r1, r2, r3⟩ := part_rng hs
  obtain ⟨⟨_, l1⟩, ⟨_, l2, _⟩, _, l3, _⟩ := okL_t hl
  have e : whA pk n d g c x i = IntKind.u64.wrap ((elP pk n d g c x).1 + IntKind.u64.wrap (wrap64 ((elP pk n d g c x).2.1 * i))) := by
    unfold whA
    rw [if_pos h]
  have gf : pG false n = if szB false n = true then 6 + 2 * n else 0 := rfl
  have cf : pC false n = if szB false n = true then 6 + 8 * n else 0 := rfl
  rw [e]
  clear e h hk hl
  rcases hx with rfl | rfl | rfl | rfl | rfl | rfl | rfl | rfl | rfl | rfl | rfl <;> cases pk <;> simp [elP] at hin <;> simp [elP, elB, elOff] <;> (try simp [hs] at gf cf) <;> (try simp only [IntKind.wrap_u64]) <;> (try unfold wrap64) <;> omega
end Go.Proofs.Ytolflhnkdnjckaa
