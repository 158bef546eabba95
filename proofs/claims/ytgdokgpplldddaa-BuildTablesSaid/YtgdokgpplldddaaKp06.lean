/- Gm4 Gm5: joined texts. Conditions: as each theorem names them. -/
import Derived.Test.YtgdokgpplldddaaKp04
import Derived.Test.YtgdokgpplldddaaKp05
import Derived.Deep.RegionHeld3
/- Contracts of gmem's accesses that write, and of those that copy: encode, Store, Write, Read, Image. Conditions: as each theorem names them. -/
namespace Go.Proofs.Ytgdokgpplldddaa
open Go.ChangeShapes Go.WideShapes Go.ChangeAt Go.RowKit
set_option linter.unusedVariables false

/-! ## Store -/
def storeM (L : List (Int × Int)) (M : List Int) (a n v : Int) : List Int :=
  if wid n then (match loc L a n with | some k => put M k (leB n.toNat v) | none => M) else M
/-! ## Write -/
/-- a slice of bytes, nil too, that reads as l -/
def BytesAt (w : World) (v : Value) (l : List Int) : Prop :=
  ((∃ a c, v = .slice a 0 c ∧ (a = none → c = 0)) ∧ l = []) ∨ ∃ b o c : Nat, v = .slice (some ⟨b, o, none⟩) l.length c ∧ b < w.heap.size ∧ l.length ≤ c ∧ ∀ j, j < l.length → w.cell? ⟨b, o + j, none⟩ = some (.int .u8 (l.getD j 0))
theorem BytesAt.below {w w' : World} {v : Value} {l : List Int} (h : BytesAt w v l) (hb : Below w.heap.size w w') : BytesAt w' v l := by
  rcases h with h | ⟨b, o, c, h1, h2, h3, h4⟩
  · exact Or.inl h
  · have := hb.size
    exact Or.inr ⟨b, o, c, h1, by omega, h3, fun j hj => (hb.cell (p := ⟨b, o + j, none⟩) h2).trans (h4 j hj)⟩
def writeE (L : List (Int × Int)) (a : Int) (l : List Int) : Int := if l.isEmpty then 0 else (if (loc L a l.length).isSome then 0 else 5)
def writeM (L : List (Int × Int)) (M : List Int) (a : Int) (l : List Int) : List Int := match loc L a l.length with | some k => put M k l | none => M
theorem loc_empty (L : List (Int × Int)) (a n : Int) (h : n < 1) : loc L a n = none := loc_no fun i _ hc => by omega

/-! ## Read -/
def readE (L : List (Int × Int)) (a n : Int) : Int := if n < 0 then 2 else if n = 0 then 0 else if (loc L a n).isSome then 0 else 5
def readL (L : List (Int × Int)) (M : List Int) (a n : Int) : List Int := match loc L a n with | some k => (M.drop k).take n.toNat | none => []
theorem readL_bytes {L : List (Int × Int)} {M : List Int} {a n : Int} (h : isBytes M) : isBytes (readL L M a n) := by
  unfold readL
  cases loc L a n
  · exact isBytes_nil
  · exact isBytes_take (isBytes_drop h _) _
/-- new bytes: a slice of the call's own -/
def NewBytes (B : Nat) (w : World) (v : Value) (l : List Int) : Prop :=
  (v = .slice none 0 0 ∧ l = []) ∨ ∃ b c : Nat, v = .slice (some ⟨b, 0, none⟩) l.length c ∧ B ≤ b ∧ l.length ≤ c ∧ ∃ cs : List Value, w.heap[b]? = some (.cells (l.map (Value.int .u8) ++ cs).toArray 5 (0, 0)) ∧ c = l.length + cs.length
theorem NewBytes.at {B : Nat} {w : World} {v : Value} {l : List Int} (h : NewBytes B w v l) : BytesAt w v l := by
  rcases h with h | ⟨b, c, h1, h2, h3, cs, h4, _⟩
  · exact Or.inl ⟨⟨none, 0, h.1, fun _ => rfl⟩, h.2⟩
  · refine Or.inr ⟨b, 0, c, h1, lt_blk h4, h3, fun j hj => ?_⟩
    rw [cellK h4, List.getElem?_append_left (by simp; omega)]
    simp [hj, List.getD]
theorem NewBytes.below {B : Nat} {w w' : World} {v : Value} {l : List Int} (h : NewBytes B w v l) (hb : Below w.heap.size w w') : NewBytes B w' v l := by
  rcases h with h | ⟨b, c, h1, h2, h3, cs, h4, h5⟩
  · exact Or.inl h
  · exact Or.inr ⟨b, c, h1, h2, h3, cs, keepB hb h4, h5⟩

/-! ## Image -/
end Go.Proofs.Ytgdokgpplldddaa

/- Contracts of gmem's Check, total, New and Regions. Conditions: as each theorem names them. -/
namespace Go.Proofs.Ytgdokgpplldddaa
open Go.ChangeShapes Go.WideShapes Go.ChangeAt Go.RowKit
set_option linter.unusedVariables false

/-- a slice of regions, nil too, that reads as L -/
def RegsAt (w : World) (v : Value) (L : List (Int × Int)) : Prop :=
  ((∃ a c, v = .slice a 0 c ∧ (a = none → c = 0)) ∧ L = []) ∨ ∃ b o c : Nat, v = .slice (some ⟨b, o, none⟩) L.length c ∧ b < w.heap.size ∧ L.length ≤ c ∧ ∀ j, j < L.length → w.cell? ⟨b, o + j * 2, none⟩ = some (.int .u64 (at_ L j).1) ∧ w.cell? ⟨b, o + j * 2 + 1, none⟩ = some (.int .u64 (at_ L j).2)
theorem RegsAt.below {w w' : World} {v : Value} {L : List (Int × Int)} (h : RegsAt w v L) (hb : Below w.heap.size w w') : RegsAt w' v L := by
  rcases h with h | ⟨b, o, c, h1, h2, h3, h4⟩
  · exact Or.inl h
  · have := hb.size
    exact Or.inr ⟨b, o, c, h1, by omega, h3, fun j hj => ⟨(hb.cell (p := ⟨b, o + j * 2, none⟩) h2).trans (h4 j hj).1, (hb.cell (p := ⟨b, o + j * 2 + 1, none⟩) h2).trans (h4 j hj).2⟩⟩
/-- words of 64 bits -/
def isRegs (L : List (Int × Int)) : Prop := ∀ r ∈ L, U64 r.1 ∧ U64 r.2
theorem isRegs_at {L : List (Int × Int)} (h : isRegs L) (i : Nat) : U64 (at_ L i).1 ∧ U64 (at_ L i).2 := by
  by_cases hi : i < L.length
  · have e : at_ L i = L[i] := by simp [at_, List.getD, hi]
    rw [e]
    exact h _ (List.getElem_mem hi)
  · have e : at_ L i = (0, 0) := by simp [at_, List.getD, hi]
    rw [e]
    simp [U64]

/-! ## total -/
theorem sumR_take_succ (L : List (Int × Int)) (k : Nat) (h : k < L.length) : sumR (L.take (k + 1)) = sumR (L.take k) + (at_ L k).2.toNat := off_step L k h
/-! ## Check -/
/-- what Check has seen when it comes to region k with so much room -/
structure ChkInv (L : List (Int × Int)) (k : Nat) (R : Int) : Prop where
  r0 : 0 ≤ R
  r1 : R ≤ 1048576
  same : okR (-1) 1048576 L = okR (if k = 0 then -1 else lastI (at_ L (k - 1)).1 (at_ L (k - 1)).2) R (L.drop k)
theorem ChkInv.start (L : List (Int × Int)) : ChkInv L 0 1048576 := ⟨by omega, by omega, rfl⟩
theorem drop_cons (L : List (Int × Int)) (k : Nat) (h : k < L.length) : L.drop k = at_ L k :: L.drop (k + 1) := by
  rw [List.drop_eq_getElem_cons h]
  simp [at_, List.getD, h]
theorem ChkInv.stop {L : List (Int × Int)} {k : Nat} {R : Int} (h : ChkInv L k R) (hk : k < L.length) (hu : isRegs L) (hc : (at_ L k).2 = 0 ∨ R < (at_ L k).2 ∨ lastI (at_ L k).1 (at_ L k).2 < (at_ L k).1 ∨ (k ≠ 0 ∧ (at_ L k).1 ≤ lastI (at_ L (k - 1)).1 (at_ L (k - 1)).2)) : okR (-1) 1048576 L = false := by
  rw [h.same, drop_cons L k hk]
  refine okR_cons_false ?_
  have hr0 := h.r0
  have hr1 := h.r1
  rintro ⟨h1, h2, h3, h4⟩
  have hw := lastI_ok (isRegs_at hu k).1.1 h1 h3
  rcases hc with hc | hc | hc | hc
  · omega
  · omega
  · omega
  · rw [if_neg hc.1] at h4
    omega
theorem ChkInv.next {L : List (Int × Int)} {k : Nat} {R : Int} (h : ChkInv L k R) (hk : k < L.length) (hu : isRegs L) (h1 : (at_ L k).2 ≠ 0) (h2 : (at_ L k).2 ≤ R) (h3 : (at_ L k).1 ≤ lastI (at_ L k).1 (at_ L k).2) (h4 : k = 0 ∨ lastI (at_ L (k - 1)).1 (at_ L (k - 1)).2 < (at_ L k).1) : ChkInv L (k + 1) (R - (at_ L k).2) := by
  have hU := isRegs_at hu k
  have hr0 := h.r0
  have hr1 := h.r1
  have hend : (at_ L k).1 + (at_ L k).2 ≤ 18446744073709551616 := by
    rcases Int.lt_or_le 18446744073709551616 ((at_ L k).1 + (at_ L k).2) with hgt | hle
    · have e : lastI (at_ L k).1 (at_ L k).2 = (at_ L k).1 + (at_ L k).2 - 1 - 18446744073709551616 := by
        unfold lastI
        rw [IntKind.wrap_u64, IntKind.wrap_u64]
        omega
      omega
    · exact hle
  have hw := lastI_ok hU.1.1 (show 1 ≤ (at_ L k).2 by omega) hend
  refine ⟨by omega, by omega, ?_⟩
  rw [h.same, drop_cons L k hk, if_neg (show ¬ k + 1 = 0 by omega), okR_cons_true ⟨by omega, h2, hend, ?_⟩]
  · rw [Nat.add_sub_cancel, hw]
  · by_cases hz : k = 0
    · rw [if_pos hz]
      omega
    · rw [if_neg hz]
      omega
theorem ChkInv.done {L : List (Int × Int)} {R : Int} (h : ChkInv L L.length R) : okR (-1) 1048576 L = true := by
  rw [h.same, List.drop_length]
  rfl
def chkE (L : List (Int × Int)) : Int := if L.length ≤ 16 ∧ okR (-1) 1048576 L = true then 0 else 2

/-- what a drawn region may rely on stays so behind a call that leaves old memory alone -/
theorem keep2 {u w w' : World} {b o o' : Nat} {x y : Value} (h : Below u.heap.size u w ∧ w.cell? ⟨b, o, none⟩ = some x ∧ w.cell? ⟨b, o', none⟩ = some y ∧ b < w.heap.size) (hb : Below w.heap.size w w') :
    Below u.heap.size u w' ∧ w'.cell? ⟨b, o, none⟩ = some x ∧ w'.cell? ⟨b, o', none⟩ = some y ∧ b < w'.heap.size :=
  ⟨h.1.trans (hb.mono h.1.size), (hb.cell (p := ⟨b, o, none⟩) h.2.2.2).trans h.2.1, (hb.cell (p := ⟨b, o', none⟩) h.2.2.2).trans h.2.2.1, Nat.lt_of_lt_of_le h.2.2.2 hb.size⟩

theorem keep4 {u w w' : World} {b o1 o2 d o3 o4 : Nat} {x y z t : Value} (h : Below u.heap.size u w ∧ (w.cell? ⟨b, o1, none⟩ = some x ∧ w.cell? ⟨b, o2, none⟩ = some y ∧ b < w.heap.size) ∧ w.cell? ⟨d, o3, none⟩ = some z ∧ w.cell? ⟨d, o4, none⟩ = some t ∧ d < w.heap.size) (hb : Below w.heap.size w w') :
    Below u.heap.size u w' ∧ (w'.cell? ⟨b, o1, none⟩ = some x ∧ w'.cell? ⟨b, o2, none⟩ = some y ∧ b < w'.heap.size) ∧ w'.cell? ⟨d, o3, none⟩ = some z ∧ w'.cell? ⟨d, o4, none⟩ = some t ∧ d < w'.heap.size :=
  ⟨h.1.trans (hb.mono h.1.size), ⟨(hb.cell (p := ⟨b, o1, none⟩) h.2.1.2.2).trans h.2.1.1, (hb.cell (p := ⟨b, o2, none⟩) h.2.1.2.2).trans h.2.1.2.1, Nat.lt_of_lt_of_le h.2.1.2.2 hb.size⟩, (hb.cell (p := ⟨d, o3, none⟩) h.2.2.2.2).trans h.2.2.1, (hb.cell (p := ⟨d, o4, none⟩) h.2.2.2.2).trans h.2.2.2.1, Nat.lt_of_lt_of_le h.2.2.2.2 hb.size⟩

end Go.Proofs.Ytgdokgpplldddaa
