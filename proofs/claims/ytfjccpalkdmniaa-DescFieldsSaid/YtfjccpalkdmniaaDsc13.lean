/- One byte of a descriptor changed; parts of a list; strings joined. Conditions: as each theorem names them. -/
import Derived.Test.YtfjccpalkdmniaaDsc12
import Derived.Test.YtfjccpalkdmniaaXr
namespace Go.Proofs.Ytfjccpalkdmniaa
open Go.ChangeShapes Go.WideShapes Go.ChangeAt Go.RowKit
set_option linter.unusedVariables false
set_option maxRecDepth 100000

/-- the descriptor with one byte of it changed -/
def upd (d : Dsc) (k : Nat) (y : Int) : Dsc :=
  if k < 8 then { d with a := bits .xor .u64 d.a (pow2 (8 * k) * y) }
  else if k < 12 then { d with l := bits .xor .u32 d.l (pow2 (8 * (k - 8)) * y) }
  else if k < 14 then { d with f := bits .xor .u16 d.f (pow2 (8 * (k - 12)) * y) }
  else { d with n := bits .xor .u16 d.n (pow2 (8 * (k - 14)) * y) }
theorem dB_parts {d : Dsc} (h : isDsc d) : le (((dB d).drop 0).take 8) = d.a ∧ le (((dB d).drop 8).take 4) = d.l ∧ le (((dB d).drop 12).take 2) = d.f ∧ le (((dB d).drop 14).take 2) = d.n := by
  have h1 := dR_dB h
  unfold dR at h1
  exact ⟨congrArg Dsc.a h1, congrArg Dsc.l h1, congrArg Dsc.f h1, congrArg Dsc.n h1⟩
theorem dR_upd {d : Dsc} (h : isDsc d) (k : Nat) (y : Int) (hk : k < 16) (hy : 0 ≤ y ∧ y < 256) : dR ((dB d).set k (bits .xor .u8 ((dB d).getD k 0) y)) = upd d k y := by
  obtain ⟨p0, p1, p2, p3⟩ := dB_parts h
  have hl := dB_length d
  have hB := dB_bytes d
  have hp : ∀ o n, isBytes (((dB d).drop o).take n) := fun o n => isBytes_take (isBytes_drop hB o) n
  have hlen : ∀ o n, o + n ≤ 16 → (((dB d).drop o).take n).length = n := fun o n h => by simp; omega
  have hk0 : k < (dB d).length := by omega
  by_cases c1 : k < 8
  · have e := le_xor64 (hp 0 8) (hlen 0 8 (by omega)) (k - 0) y hy (by omega)
    rw [part_at _ 0 8 k (by omega) (by omega), p0] at e
    have hu : upd d k y = { d with a := bits .xor .u64 d.a (pow2 (8 * k) * y) } := by simp [upd, c1]
    rw [hu]
    unfold dR
    rw [part_set_in _ 0 8 k _ (by omega) (by omega) hk0, part_set_out _ 8 4 k _ (by omega), part_set_out _ 12 2 k _ (by omega), part_set_out _ 14 2 k _ (by omega), e, p1, p2, p3]
    rfl
  · by_cases c2 : k < 12
    · have e := le_xor32 (hp 8 4) (hlen 8 4 (by omega)) (k - 8) y hy (by omega)
      rw [part_at _ 8 4 k (by omega) (by omega), p1] at e
      have hu : upd d k y = { d with l := bits .xor .u32 d.l (pow2 (8 * (k - 8)) * y) } := by simp [upd, c1, c2]
      rw [hu]
      unfold dR
      rw [part_set_out _ 0 8 k _ (by omega), part_set_in _ 8 4 k _ (by omega) (by omega) hk0, part_set_out _ 12 2 k _ (by omega), part_set_out _ 14 2 k _ (by omega), e, p0, p2, p3]
    · by_cases c3 : k < 14
      · have e := le_xor16 (hp 12 2) (hlen 12 2 (by omega)) (k - 12) y hy (by omega)
        rw [part_at _ 12 2 k (by omega) (by omega), p2] at e
        have hu : upd d k y = { d with f := bits .xor .u16 d.f (pow2 (8 * (k - 12)) * y) } := by simp [upd, c1, c2, c3]
        rw [hu]
        unfold dR
        rw [part_set_out _ 0 8 k _ (by omega), part_set_out _ 8 4 k _ (by omega), part_set_in _ 12 2 k _ (by omega) (by omega) hk0, part_set_out _ 14 2 k _ (by omega), e, p0, p1, p3]
      · have e := le_xor16 (hp 14 2) (hlen 14 2 (by omega)) (k - 14) y hy (by omega)
        rw [part_at _ 14 2 k (by omega) (by omega), p3] at e
        have hu : upd d k y = { d with n := bits .xor .u16 d.n (pow2 (8 * (k - 14)) * y) } := by simp [upd, c1, c2, c3]
        rw [hu]
        unfold dR
        rw [part_set_out _ 0 8 k _ (by omega), part_set_out _ 8 4 k _ (by omega), part_set_out _ 12 2 k _ (by omega), part_set_in _ 14 2 k _ (by omega) (by omega) hk0, e, p0, p1, p2]
theorem strOf_append (a b : List Int) : strOfNums (a ++ b) = strOfNums a ++ strOfNums b := by
  have h : (strOfNums (a ++ b)).data = (strOfNums a ++ strOfNums b).data := by
    rw [ByteArray.data_append]
    simp [strOfNums]
  cases hx : strOfNums (a ++ b)
  cases hy : strOfNums a ++ strOfNums b
  rw [hx, hy] at h
  simp only at h
  rw [h]
theorem DescsAt.front {w : World} {b o c : Nat} {L : List Dsc} (k : Nat) (hk : k ≤ L.length) (h2 : b < w.heap.size) (h3 : L.length ≤ c) (h4 : ∀ j, j < L.length → at4 w b (o + j * 4) (dat L j)) : DescsAt w (.slice (some ⟨b, o, none⟩) k c) (L.take k) := by
  have hl : (L.take k).length = k := by rw [List.length_take]; omega
  refine Or.inr ⟨b, o, c, by rw [hl], h2, by rw [hl]; omega, fun j hj => ?_⟩
  rw [hl] at hj
  have : dat (L.take k) j = dat L j := by
    simp only [dat, List.getD_eq_getElem?_getD, List.getElem?_take]
    rw [if_pos hj]
  rw [this]
  exact h4 j (by omega)
theorem DescsAt.back {w : World} {b o c : Nat} {L : List Dsc} (k : Nat) (hk : k ≤ L.length) (h2 : b < w.heap.size) (h3 : L.length ≤ c) (h4 : ∀ j, j < L.length → at4 w b (o + j * 4) (dat L j)) : DescsAt w (.slice (some ⟨b, o + k * 4, none⟩) (L.length - k) (c - k)) (L.drop k) := by
  have hl : (L.drop k).length = L.length - k := by rw [List.length_drop]
  refine Or.inr ⟨b, o + k * 4, c - k, by rw [hl], h2, by rw [hl]; omega, fun j hj => ?_⟩
  rw [hl] at hj
  have : dat (L.drop k) j = dat L (k + j) := by
    simp only [dat, List.getD_eq_getElem?_getD, List.getElem?_drop]
  rw [this, show o + k * 4 + j * 4 = o + (k + j) * 4 from by omega]
  exact h4 (k + j) (by omega)
end Go.Proofs.Ytfjccpalkdmniaa
