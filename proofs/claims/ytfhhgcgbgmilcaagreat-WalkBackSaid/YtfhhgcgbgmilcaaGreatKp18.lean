/- Rf6 Dsc8 Dsc9: joined texts. Conditions: as each theorem names them. -/
import Derived.Test.YtfhhgcgbgmilcaaGreatKp17
import Derived.Test.YtfhhgcgbgmilcaaGreatKp08
import Derived.Laws.MakeOwn
/- The reference's Read of layer 2. Conditions: as each theorem names them. -/
namespace Go.Proofs.YtfhhgcgbgmilcaaGreat
open Go.ChangeShapes Go.WideShapes Go.ChangeAt Go.RowKit
set_option linter.unusedVariables false

end Go.Proofs.YtfhhgcgbgmilcaaGreat

/- Contracts of desc's ReadTable. Conditions: as each theorem names them. -/
namespace Go.Proofs.YtfhhgcgbgmilcaaGreat
open Go.ChangeShapes Go.WideShapes Go.ChangeAt Go.RowKit
set_option linter.unusedVariables false
set_option maxRecDepth 100000

def dCs : List Dsc → List Value
  | [] => []
  | d :: L => .int .u64 d.a :: .int .u32 d.l :: .int .u16 d.f :: .int .u16 d.n :: dCs L
theorem dCs_length : ∀ L : List Dsc, (dCs L).length = L.length * 4
  | [] => rfl
  | d :: L => by simp [dCs, dCs_length L]; omega
theorem dat_succ (d : Dsc) (L : List Dsc) (k : Nat) : dat (d :: L) (k + 1) = dat L k := by simp [dat, List.getD]
theorem dCs_at : ∀ (L : List Dsc) (k : Nat), k < L.length → (dCs L)[k * 4]? = some (.int .u64 (dat L k).a) ∧ (dCs L)[k * 4 + 1]? = some (.int .u32 (dat L k).l) ∧ (dCs L)[k * 4 + 2]? = some (.int .u16 (dat L k).f) ∧ (dCs L)[k * 4 + 3]? = some (.int .u16 (dat L k).n)
  | [], k, h => by simp at h
  | d :: L, 0, _ => by simp [dCs, dat]
  | d :: L, k + 1, h => by
    have ih := dCs_at L k (by simpa using h)
    rw [dat_succ, show (k + 1) * 4 = k * 4 + 1 + 1 + 1 + 1 from by omega]
    simp only [dCs, List.getElem?_cons_succ, show k * 4 + 1 + 1 + 1 + 1 + 1 = k * 4 + 1 + 1 + 1 + 1 + 1 from rfl, show k * 4 + 1 + 1 + 1 + 1 + 2 = k * 4 + 2 + 1 + 1 + 1 + 1 from by omega, show k * 4 + 1 + 1 + 1 + 1 + 3 = k * 4 + 3 + 1 + 1 + 1 + 1 from by omega]
    exact ih
theorem dCs_set : ∀ (L : List Dsc) (k : Nat) (d : Dsc), k < L.length → ((((dCs L).set (k * 4) (.int .u64 d.a)).set (k * 4 + 1) (.int .u32 d.l)).set (k * 4 + 2) (.int .u16 d.f)).set (k * 4 + 3) (.int .u16 d.n) = dCs (L.set k d)
  | [], k, d, h => by simp at h
  | x :: L, 0, d, _ => by simp [dCs]
  | x :: L, k + 1, d, h => by
    have ih := dCs_set L k d (by simpa using h)
    rw [show (k + 1) * 4 = k * 4 + 1 + 1 + 1 + 1 from by omega, show k * 4 + 1 + 1 + 1 + 1 + 2 = k * 4 + 2 + 1 + 1 + 1 + 1 from by omega, show k * 4 + 1 + 1 + 1 + 1 + 3 = k * 4 + 3 + 1 + 1 + 1 + 1 from by omega]
    simp only [dCs, List.set_cons_succ, ih]
theorem setV (w : World) (g i : Nat) (C : List Value) (x : Value) (t : TypeId) (hg : w.heap[g]? = some (.cells C.toArray t (0, 0))) : w.setCell ⟨g, i, none⟩ x = w.setRow g (C.set i x).toArray := by
  rw [setCell_eq_setRow w g i _ t (0, 0) _ hg]
  congr 1
  simp
/-- a row of descriptors -/
abbrev DRow (w : World) (b : Nat) (L : List Dsc) : Prop := w.heap[b]? = some (.cells (dCs L).toArray 44 (0, 0))
theorem set4 (w : World) (g : Nat) (L : List Dsc) (k : Nat) (d : Dsc) (hg : DRow w g L) (hk : k < L.length) :
    (((w.setCell ⟨g, k * 4, none⟩ (.int .u64 d.a)).setCell ⟨g, k * 4 + 1, none⟩ (.int .u32 d.l)).setCell ⟨g, k * 4 + 2, none⟩ (.int .u16 d.f)).setCell ⟨g, k * 4 + 3, none⟩ (.int .u16 d.n) = w.setRow g (dCs (L.set k d)).toArray := by
  rw [setV w g _ _ _ _ hg, setV _ g _ _ _ _ (setRow_heap _ _ _ _ _ _ hg), setRow_setRow, setV _ g _ _ _ _ (setRow_heap _ _ _ _ _ _ hg), setRow_setRow, setV _ g _ _ _ _ (setRow_heap _ _ _ _ _ _ hg), setRow_setRow, dCs_set L k d hk]
theorem DRow.at {w : World} {g : Nat} {L : List Dsc} (h : DRow w g L) (k : Nat) (hk : k < L.length) : at4 w g (k * 4) (dat L k) := by
  obtain ⟨h0, h1, h2, h3⟩ := dCs_at L k hk
  exact ⟨(cellK h _).trans h0, (cellK h _).trans h1, (cellK h _).trans h2, (cellK h _).trans h3⟩
theorem DRow.descs {w : World} {g n c : Nat} {L : List Dsc} (h : DRow w g L) (hn : L.length = n) (hc : n ≤ c) : DescsAt w (.slice (some ⟨g, 0, none⟩) n c) L := by
  subst hn
  exact Or.inr ⟨g, 0, c, rfl, lt_blk h, hc, fun j hj => by rw [Nat.zero_add]; exact h.at j hj⟩

theorem rowDesc : (Tryz.prog.info? 44).map (fun i => (i.zero, i.size, i.bytes)) = some (some (.agg #[.int .u64 0, .int .u32 0, .int .u16 0, .int .u16 0]), 4, 16) := by kernel_rfl
abbrev zD : Dsc := ⟨0, 0, 0, 0⟩
theorem made4 : ∀ n : Nat, (madeCells #[Value.int .u64 0, .int .u32 0, .int .u16 0, .int .u16 0] (n * 4)).toList = dCs (List.replicate n zD) := by
  intro n
  apply List.ext_getElem?
  intro i
  by_cases hi : i < n * 4
  · have h := dCs_at (List.replicate n zD) (i / 4) (by simp; omega)
    have hd : dat (List.replicate n zD) (i / 4) = zD := by simp [dat, List.getD, show i / 4 < n from by omega]
    rw [hd] at h
    rcases (show i % 4 = 0 ∨ i % 4 = 1 ∨ i % 4 = 2 ∨ i % 4 = 3 from by omega) with e | e | e | e
    · have e2 : i = i / 4 * 4 := by omega
      have g := h.1
      rw [← e2] at g
      rw [g]
      simp [madeCells, hi, e]
    · have e2 : i = i / 4 * 4 + 1 := by omega
      have g := h.2.1
      rw [← e2] at g
      rw [g]
      simp [madeCells, hi, e]
    · have e2 : i = i / 4 * 4 + 2 := by omega
      have g := h.2.2.1
      rw [← e2] at g
      rw [g]
      simp [madeCells, hi, e]
    · have e2 : i = i / 4 * 4 + 3 := by omega
      have g := h.2.2.2
      rw [← e2] at g
      rw [g]
      simp [madeCells, hi, e]
  · have h1 := size_madeCells #[Value.int .u64 0, .int .u32 0, .int .u16 0, .int .u16 0] (n * 4)
    have h2 := dCs_length (List.replicate n zD)
    rw [List.getElem?_eq_none (by rw [Array.length_toList, h1]; omega), List.getElem?_eq_none (by rw [h2]; simp; omega)]
theorem makeD (w : World) (k : IntKind) (n : Nat) (h : n ≤ 1000000) :
    (Instr.makeSlice 103 (.int k (n : Int)) (.int k (n : Int))).run Tryz.prog w = .ok (.slice (some ⟨w.heap.size, 0, none⟩) n n) (w.alloc (.cells (dCs (List.replicate n zD)).toArray 44)) := by
  obtain ⟨i0, hi, hz0, hz1, hz2⟩ := info_parts rowDesc
  have hr := run_make (P := Tryz.prog) w 103 44 i0 _ Tryz.underlying103 hi hz0 k k n n (by omega) (Int.le_refl _) (by rw [hz2]; omega) (by omega)
  rw [hr]
  simp only [Int.toNat_natCast, hz1]
  congr 3
  apply Array.ext'
  rw [← made4 n]
  rfl

/-- the descriptors of these bytes, 16 each -/
def rdT (n : Nat) (l : List Int) : List Dsc := (List.range n).map (fun i => dR ((l.drop (16 * i)).take 16))
theorem rdT_length (n : Nat) (l : List Int) : (rdT n l).length = n := by simp [rdT]
theorem rdT_at (n : Nat) (l : List Int) (k : Nat) (h : k < n) : dat (rdT n l) k = dR ((l.drop (16 * k)).take 16) := by simp [dat, rdT, List.getD, h]
/-- so far -/
def rdS (n : Nat) (l : List Int) (k : Nat) : List Dsc := (rdT n l).take k ++ List.replicate (n - k) zD
theorem rdS_length (n : Nat) (l : List Int) (k : Nat) (h : k ≤ n) : (rdS n l k).length = n := by simp [rdS, rdT_length]; omega
theorem rdS_zero (n : Nat) (l : List Int) : rdS n l 0 = List.replicate n zD := by simp [rdS]
theorem rdS_all (n : Nat) (l : List Int) : rdS n l n = rdT n l := by
  unfold rdS
  rw [Nat.sub_self, List.replicate_zero, List.append_nil, List.take_of_length_le (by rw [rdT_length]; exact Nat.le_refl _)]
theorem rdS_step (n : Nat) (l : List Int) (k : Nat) (h : k < n) : (rdS n l k).set k (dR ((l.drop (16 * k)).take 16)) = rdS n l (k + 1) := by
  unfold rdS
  have h1 : ((rdT n l).take k).length = k := by rw [List.length_take, rdT_length]; omega
  have h2 : (rdT n l).take (k + 1) = (rdT n l).take k ++ [dR ((l.drop (16 * k)).take 16)] := by
    rw [List.take_succ_eq_append_getElem (by rw [rdT_length]; exact h)]
    simp [rdT]
  rw [List.set_append_right _ _ (by omega), h1, Nat.sub_self, h2, show n - k = n - (k + 1) + 1 from by omega, List.replicate_succ]
  simp
theorem rdS_zeroAt (n : Nat) (l : List Int) (k : Nat) (h : k < n) : dat (rdS n l k) k = zD := by
  have h1 : ((rdT n l).take k).length = k := by rw [List.length_take, rdT_length]; omega
  unfold dat rdS
  rw [List.getD_eq_getElem?_getD, List.getElem?_append_right (by omega), h1, Nat.sub_self]
  simp [show 0 < n - k from by omega]

end Go.Proofs.YtfhhgcgbgmilcaaGreat

/- Contracts of desc's ReadTable for any bytes; words of used elements and events. Conditions: as each theorem names them. -/
namespace Go.Proofs.YtfhhgcgbgmilcaaGreat
open Go.ChangeShapes Go.WideShapes Go.ChangeAt Go.RowKit
set_option linter.unusedVariables false
set_option maxRecDepth 100000

def rtE (l : List Int) : Int := if l.length % 16 = 0 then 0 else 4
def rtD (l : List Int) : List Dsc := if l.length % 16 = 0 then rdT (l.length / 16) l else []

/-! ## used elements and events, as words -/
end Go.Proofs.YtfhhgcgbgmilcaaGreat
