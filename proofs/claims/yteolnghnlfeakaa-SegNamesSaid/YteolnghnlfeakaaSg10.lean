/- The reference's Scatter of layer 5. Conditions: as each theorem names them. -/
import Derived.Test.YteolnghnlfeakaaSg9
namespace Go.Proofs.Yteolnghnlfeakaa
open Go.ChangeShapes Go.WideShapes Go.ChangeAt Go.RowKit
set_option linter.unusedVariables false
set_option maxRecDepth 100000

/-- a part of a slice of bytes -/
theorem sliceMid {w : World} {va : Option Addr} {vc : Nat} {l : List Int} (hv : BytesAt w (.slice va l.length vc) l) (i k : Nat) (h : i + k ≤ l.length) :
    ∃ v1, (∀ u, (Instr.sliceAt 38 (.slice va l.length vc) (some (.int .i64 (i : Int))) (some (.int .i64 ((i : Int) + (k : Int)))) none).run Try.prog u = .ok v1 u) ∧ BytesAt w v1 ((l.drop i).take k) ∧ (∀ b o n c, v1 = .slice (some ⟨b, o, none⟩) n c → ∃ o', va = some ⟨b, o', none⟩) := by
  have hik : (i : Int) ≤ (i : Int) + (k : Int) := by omega
  have hlen : ((l.drop i).take k).length = k := by
    rw [List.length_take, List.length_drop]
    omega
  rcases hv with ⟨⟨a, c, he, hac⟩, rfl⟩ | ⟨b, o, c, he, h2, h3, h4⟩
  · cases he
    obtain rfl : i = 0 := by simp at h; omega
    obtain rfl : k = 0 := by simpa using h
    cases va with
    | none =>
      obtain rfl := hac rfl
      refine ⟨.slice none 0 0, fun u => ?_, Or.inl ⟨⟨_, _, rfl, fun _ => rfl⟩, rfl⟩, fun b o n c e => (by cases e)⟩
      simp [go_sem]
    | some a =>
      refine ⟨.slice (some a) 0 vc, fun u => ?_, Or.inl ⟨⟨_, _, rfl, fun h => by cases h⟩, rfl⟩, fun b o n c e => (by cases e; exact ⟨_, rfl⟩)⟩
      simp [go_sem]
  · cases he
    have hci : (i : Int) + (k : Int) ≤ (vc : Int) := by omega
    by_cases hvq : vc = i
    · obtain rfl : k = 0 := by omega
      refine ⟨.slice (some ⟨b, o, none⟩) 0 0, fun u => ?_, Or.inl ⟨⟨_, _, rfl, fun h => by cases h⟩, ?_⟩, fun b1 o1 n c e => (by cases e; exact ⟨_, rfl⟩)⟩
      · simp [go_sem, hvq]
      · simp
    · refine ⟨.slice (some ⟨b, o + i, none⟩) k (vc - i), fun u => ?_, Or.inr ⟨b, o + i, vc - i, ?_, h2, by rw [hlen]; omega, fun j hj => ?_⟩, fun b1 o1 n c e => (by cases e; exact ⟨_, rfl⟩)⟩
      · simp [go_sem, hci, hik, hvq]
        omega
      · rw [hlen]
      · rw [hlen] at hj
        rw [Nat.add_assoc, h4 (i + j) (by omega)]
        congr 2
        rw [List.getD_eq_getElem?_getD, List.getD_eq_getElem?_getD, List.getElem?_take_of_lt hj, List.getElem?_drop]

theorem writeM_two (R : List (Int × Int)) (M : List Int) (a : Int) (l : List Int) (h : ∀ k, loc R a l.length = some k → k + l.length ≤ M.length) : writeM R (writeM R M a l) a l = writeM R M a l := by
  unfold writeM
  cases hl : loc R a l.length with
  | none => rfl
  | some k =>
    have hk := h k hl
    show put (put M k l) k l = put M k l
    unfold put
    have e1 : (M.take k).length = k := by
      rw [List.length_take]
      omega
    rw [List.append_assoc, List.append_assoc]
    congr 1
    · rw [List.take_append_of_le_length (by omega), List.take_of_length_le (by omega)]
    · congr 1
      have e3 : (M.take k ++ (l ++ M.drop (k + l.length))) = (M.take k ++ l) ++ M.drop (k + l.length) := by rw [List.append_assoc]
      rw [e3, List.drop_append_of_le_length (by rw [List.length_append, e1]; omega), List.drop_of_length_le (by rw [List.length_append, e1]; omega), List.nil_append]
theorem ref_loc {w : World} {base rp lb bb cL cB : Nat} {aB : Option Addr} {D : Nat → Nat} {R : List (Int × Int)} {M : List Int} (h : IsRef w base rp lb bb cL cB aB D R M) (a : Int) (l : List Int) : ∀ k, loc R a l.length = some k → k + l.length ≤ M.length := fun k hk => by
  have := loc_room hk (by omega)
  rw [h.len]
  simpa using this

/-- what Scatter holds when it comes to segment k: nn bytes written, the bytes M' -/
structure ScatInv (R : List (Int × Int)) (M : List Int) (L : List Sg) (l : List Int) (k nn : Nat) (M' : List Int) : Prop where
  le : nn ≤ l.length
  cnt : (nn : Int) = min (l.length : Int) (totS true (L.take k))
  eq : scatS R M l L = scatS R M' (l.drop nn) (L.drop k)
theorem ScatInv.start (R : List (Int × Int)) (M : List Int) (L : List Sg) (l : List Int) : ScatInv R M L l 0 0 M := ⟨Nat.zero_le _, by simp [totS]; omega, rfl⟩
theorem ScatInv.read {R : List (Int × Int)} {M : List Int} {L : List Sg} {l : List Int} {k nn : Nat} {M' : List Int} (h : ScatInv R M L l k nn M') (hk : k < L.length) (ht : (sat L k).t = false) : ScatInv R M L l (k + 1) nn M' := by
  refine ⟨h.le, ?_, ?_⟩
  · rw [h.cnt, totS_step hk, ht, if_neg (by decide), Int.add_zero]
  · rw [h.eq, drop_sat hk]
    show (if (sat L k).t = true then _ else _) = _
    rw [ht, if_neg (by decide)]
theorem ScatInv.write {R : List (Int × Int)} {M : List Int} {L : List Sg} {l : List Int} {k nn : Nat} {M' : List Int} (h : ScatInv R M L l k nn M') (hk : k < L.length) (hu : isSgs L) (ht : (sat L k).t = true) {q : Nat} (hq : (q : Int) = min ((l.length : Int) - nn) (sat L k).n) : ScatInv R M L l (k + 1) (nn + q) (writeM R M' (sat L k).a ((l.drop nn).take q)) := by
  have h1 := h.le
  have h2 := (sat_is hu k).2.1
  have h3 := totS_le hu true k
  refine ⟨by omega, ?_, ?_⟩
  · have hc := h.cnt
    rw [totS_step hk, ht, if_pos rfl]
    omega
  · rw [h.eq, drop_sat hk]
    show (if (sat L k).t = true then scatS R (writeM R M' (sat L k).a ((l.drop nn).take (sat L k).n.toNat)) ((l.drop nn).drop (sat L k).n.toNat) (L.drop (k + 1)) else _) = _
    rw [ht, if_pos rfl]
    have e1 : (l.drop nn).take (sat L k).n.toNat = (l.drop nn).take q := by
      by_cases hc : (sat L k).n.toNat = q
      · rw [hc]
      · rw [List.take_of_length_le (by rw [List.length_drop]; omega), List.take_of_length_le (by rw [List.length_drop]; omega)]
    have e2 : (l.drop nn).drop (sat L k).n.toNat = l.drop (nn + q) := by
      rw [List.drop_drop]
      by_cases hc : (sat L k).n.toNat = q
      · rw [hc]
      · rw [List.drop_of_length_le (by omega), List.drop_of_length_le (by omega)]
    rw [e1, e2]
theorem ScatInv.done {R : List (Int × Int)} {M : List Int} {L : List Sg} {l : List Int} {nn : Nat} {M' : List Int} (h : ScatInv R M L l L.length nn M') : scatS R M l L = M' ∧ (nn : Int) = min (l.length : Int) (totS true L) := by
  have h1 := h.eq
  have h2 := h.cnt
  rw [List.drop_length] at h1
  rw [List.take_length] at h2
  exact ⟨h1, h2⟩
end Go.Proofs.Yteolnghnlfeakaa
