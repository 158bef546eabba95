/- Rf3 Rf4: joined texts. Conditions: as each theorem names them. -/
import Derived.Test.YteolnghnlfeakaaKp16
import Derived.Test.YteolnghnlfeakaaKp18
/- The reference's memory of layer 2: what a write does to its pieces; Load. Conditions: as each theorem names them. -/
namespace Go.Proofs.Yteolnghnlfeakaa
open Go.ChangeShapes Go.WideShapes Go.ChangeAt Go.RowKit
set_option linter.unusedVariables false

theorem ext_getD {a b : List Int} (hl : a.length = b.length) (h : ∀ i, i < a.length → a.getD i 0 = b.getD i 0) : a = b := by
  apply List.ext_getElem hl
  intro i h1 h2
  have := h i h1
  simpa [List.getD, h1, h2] using this
theorem part_put_same {L : List (Int × Int)} {M l : List Int} (hlen : M.length = sumR L) {i k : Nat} (hi : i < L.length) (hk : k + l.length ≤ (at_ L i).2.toNat) : part L (put M (off L i + k) l) i = put (part L M i) k l := by
  have hroom := off_room L i hi
  have hpl := part_len hlen hi
  have hput := put_length M (off L i + k) l (by omega)
  have h1 : (part L (put M (off L i + k) l) i).length = (at_ L i).2.toNat := part_len (hput.trans hlen) hi
  have h2 : (put (part L M i) k l).length = (at_ L i).2.toNat := by rw [put_length _ _ _ (by omega), hpl]
  refine ext_getD (h1.trans h2.symm) fun j hj => ?_
  rw [h1] at hj
  rw [part_getD hj, put_getD _ _ _ (by omega), put_getD _ _ _ (by omega), part_getD hj]
  by_cases hc : k ≤ j ∧ j < k + l.length
  · rw [if_pos (by omega), if_pos hc]
    congr 1
    omega
  · rw [if_neg (by omega), if_neg hc]
theorem part_put_other {L : List (Int × Int)} {M l : List Int} (hlen : M.length = sumR L) {i j k : Nat} (hi : i < L.length) (hj : j < L.length) (hne : j ≠ i) (hk : k + l.length ≤ (at_ L i).2.toNat) : part L (put M (off L i + k) l) j = part L M j := by
  have hroom := off_room L i hi
  have hput := put_length M (off L i + k) l (by omega)
  have h1 : (part L (put M (off L i + k) l) j).length = (at_ L j).2.toNat := part_len (hput.trans hlen) hj
  have h2 : (part L M j).length = (at_ L j).2.toNat := part_len hlen hj
  refine ext_getD (h1.trans h2.symm) fun q hq => ?_
  rw [h1] at hq
  rw [part_getD hq, put_getD _ _ _ (by omega), part_getD hq, if_neg]
  rcases Nat.lt_or_gt_of_ne hne with hlt | hgt
  · have := off_lt_of hlt hi
    omega
  · have := off_lt_of hgt hj
    omega
theorem IsRef.put {w : World} {base rp lb bb cL cB : Nat} {aB : Option Addr} {D : Nat → Nat} {L : List (Int × Int)} {M : List Int} (h : IsRef w base rp lb bb cL cB aB D L M) {i k : Nat} {l : List Int} (hi : i < L.length) (hk : k + l.length ≤ (at_ L i).2.toNat) (hl : isBytes l) :
    IsRef (w.setRow (D i) (bv (Go.Proofs.Yteolnghnlfeakaa.put (part L M i) k l))) base rp lb bb cL cB aB D L (Go.Proofs.Yteolnghnlfeakaa.put M (off L i + k) l) := by
  have hc := Chg.setRow w (D i) (bv (Go.Proofs.Yteolnghnlfeakaa.put (part L M i) k l))
  have hroom := off_room L i hi
  have hne := h.ne i hi
  have hll := h.len
  refine ⟨(hc.cell (World.block_lt_of_cell? _ _ h.o0) (fun e => hne.1 e.symm)).trans h.o0, (hc.cell (World.block_lt_of_cell? _ _ h.o1) (fun e => hne.1 e.symm)).trans h.o1, h.aB,
    fun j hj => ⟨(hc.cell (World.block_lt_of_cell? _ _ (h.regs j hj).1) (fun e => hne.2.1 e.symm)).trans (h.regs j hj).1, (hc.cell (World.block_lt_of_cell? _ _ (h.regs j hj).2) (fun e => hne.2.1 e.symm)).trans (h.regs j hj).2⟩,
    fun j hj => (hc.cell (World.block_lt_of_cell? _ _ (h.rows j hj)) (fun e => hne.2.2.1 e.symm)).trans (h.rows j hj), fun j hj => ?_, h.inj, h.ne, h.ok, h.n16, (put_length M _ l (by omega)).trans h.len, put_bytes h.rng hl⟩
  by_cases e : j = i
  · subst e
    rw [part_put_same h.len hj hk]
    exact setRow_heap _ _ _ _ _ _ (h.parts j hj)
  · rw [part_put_other h.len hi hj e hk]
    exact hc.keep (h.parts j hj) (fun e2 => e (h.inj j i hj hi e2))

end Go.Proofs.Yteolnghnlfeakaa

/- The reference's Store of layer 2. Conditions: as each theorem names them. -/
namespace Go.Proofs.Yteolnghnlfeakaa
open Go.ChangeShapes Go.WideShapes Go.ChangeAt Go.RowKit
set_option linter.unusedVariables false

/-- the blocks that a write to the reference's memory may change -/
def Pcs (D : Nat → Nat) (L : List (Int × Int)) : Nat → Prop := fun b => ∃ j, j < L.length ∧ b = D j

end Go.Proofs.Yteolnghnlfeakaa
