/- Bdc We8 SgOpen: joined texts. Conditions: as each theorem names them. -/
import Derived.Test.YtfhhgcgbgmilcaaGreatKp49
import Derived.Test.YtfhhgcgbgmilcaaGreatKp43
import Derived.Test.YtfhhgcgbgmilcaaGreatKp45
import Derived.Test.YtfhhgcgbgmilcaaGreatKp48
import Derived.Test.YtfhhgcgbgmilcaaGreatKp22
import Derived.Test.YtfhhgcgbgmilcaaGreatKp06
import Derived.Test.YtfhhgcgbgmilcaaGreatKp16
import Derived.Deep.SlicePairs
import Derived.Lib.SmallJoins
/- build's functions by name: bdsplit, bdpacked, bdtable, bdptable, bdone, bdpone, bdneeds stand in what is imported. -/
namespace Go.Proofs.YtfhhgcgbgmilcaaGreat
end Go.Proofs.YtfhhgcgbgmilcaaGreat

/- WalkBack: the plain facts by name, writes that change the image alone. Conditions: as each theorem names them. -/
namespace Go.Proofs.YtfhhgcgbgmilcaaGreat
open Go.ChangeShapes Go.WideShapes Go.ChangeAt Go.RowKit
set_option linter.unusedVariables false
set_option maxRecDepth 100000

theorem ints_z10 {B : Nat} {w : World} {v : Value} {l : List Nat} (h : OwnI B w v l) : IntsZ w v (l.map fun p : Nat => (p : Int)) := by
  rcases h.at with ⟨rfl, rfl⟩ | ⟨g, c, rfl, _, h1, h2, h3⟩
  · exact Or.inl ⟨⟨_, _, rfl, fun _ => rfl⟩, rfl⟩
  · refine Or.inr ⟨g, 0, c, by simp, h1, by simpa using h2, fun j hj => ?_⟩
    have hj : j < l.length := by simpa using hj
    rw [Nat.zero_add, h3 j hj]
    simp [List.getD, hj]
theorem wyT_int (h q n m : Nat) : (wyT h q n m).map (fun p : Nat => (p : Int)) = wyI (wy h (2 * q + 1) n) m := by
  unfold wyT wyI
  rw [List.map_map]
  rfl
theorem wyI_len (W : Nat → Nat) (m : Nat) : (wyI W m).length = m := by simp [wyI]
theorem wy_ids {W : Nat → Nat} {L : List Sg} {m : Nat} (hL : L.length = m) (hm : mayE L = 0) (hW : ∀ i, W i < 64) (hj : ∀ i j, i < m → j < m → W i = W j → i = j) : splE (wyI W m) L = 0 ∧ splR (wyI W m) L = splL (wyI W m) L := by
  refine spl_yes hm (by rw [wyI_len, hL]) ?_
  rw [okT_iff (Nat.le_refl _), List.take_length]
  refine ⟨fun x hx => ?_, ?_⟩
  · obtain ⟨i, _, rfl⟩ := List.mem_map.1 hx
    have := hW i
    omega
  · unfold wyI
    rw [List.nodup_iff_pairwise_ne, List.pairwise_map]
    refine (List.nodup_iff_pairwise_ne.1 List.nodup_range).imp_of_mem (fun {a b} ha hb hne e => ?_)
    exact hne (hj a b (List.mem_range.1 ha) (List.mem_range.1 hb) (by omega))
/-- rings of 64 -/
theorem ring64 : plOk false 64 0 = true ∧ wrfE false false ((64 : Nat) : Int) 0 1024 (cO false 64) = 0 := by decide +kernel
theorem ring64p : plOk true 64 0 = true ∧ wrfE true true ((64 : Nat) : Int) 0 1024 (cO true 64) = 0 := by decide +kernel
section
variable {w0 : World} {p ib qb : Nat} {R : List (Int × Int)} {M : List Int} {u u' : World}
theorem MdS.wr9 (h : MdS w0 p ib qb R M u) (a : Int) (v : Value) (l : List Int) (ha : U64 a) (hv : BytesAt u v l) (hl : isBytes l) (hm : l.length ≤ 100000) :
    Calls Tryz.prog 9 #[.pointer (some ⟨p, 0, none⟩), .int .u64 a, v] u fun e u' => e = .returned (.int .i64 (writeE R a l)) ∧ MdS w0 p ib qb R (writeM R M a l) u' ∧ Chg (· = ib) u u' := by
  refine (write_any p ib qb R M a v l u h.mem ha hv hl (by omega)).mono ?_
  rintro e u' ⟨rfl, h1, h2⟩
  exact ⟨rfl, ⟨h1, h.old.trans (h2.below h.old.size (fun k hk e => by have e : k = ib := e; have := h.lo; omega)), h.lo⟩, h2⟩
theorem MdS.not_img (h : MdS w0 p ib qb R M u) {g j : Nat} {x : Int} (hc : u.cell? ⟨g, j, none⟩ = some (.int .i64 x)) : g ≠ ib := by
  intro e
  subst e
  have hi := h.mem.img
  rw [cellK hi, List.getElem?_map] at hc
  cases hM : M[j]? with
  | none => rw [hM] at hc; cases hc
  | some y => rw [hM] at hc; cases hc
theorem MdS.not_blk (h : MdS w0 p ib qb R M u) {g : Nat} {C : List Value} {t : TypeId} (hb : BlkAt u g C t) (ht : t ≠ 5) : g ≠ ib := by
  intro e
  subst e
  have hi := h.mem.img
  have hb : u.heap[g]? = _ := hb
  rw [hi] at hb
  injection hb with hb
  injection hb with _ hb
  exact ht hb.symm
theorem Chg.at {ib g : Nat} {C : List Value} {t : TypeId} (hc : Chg (· = ib) u u') (hb : BlkAt u g C t) (hne : g ≠ ib) : BlkAt u' g C t := hc.keep hb hne
end
/-- a row of puts in one block -/
theorem PtsAt.rowP {w : World} {a : Option Addr} {n z : Nat} {L : List Pt} (h : PtsAt w (.slice a n z) L) (h0 : 0 < L.length) : ∃ g o, a = some ⟨g, o, none⟩ ∧ g < w.heap.size ∧ ∀ k, k < L.length → at5 w g (o + k * 5) (ptat L k) := by
  rcases h with ⟨_, e⟩ | ⟨g, o, c, he, h1, h2, h3⟩
  · rw [e] at h0
    simp at h0
  · cases he
    exact ⟨g, o, rfl, h1, h3⟩
theorem loadD5 {w : World} {b o : Nat} {x : Pt} (h : at5 w b o x) : (Instr.loadAt 44 (.pointer (some ⟨b, o + 1, none⟩))).run Tryz.prog w = .ok (dV x.d) w := run_loadAt_mid w b (o + 1) _ [.int .u64 x.d.a, .int .u32 x.d.l, .int .u16 x.d.f, .int .u16 x.d.n] _ (fun j v hv => by
  obtain ⟨_, h1, h2, h3, h4⟩ := h
  match j, hv with
  | 0, hv => simp at hv; subst hv; exact h1
  | 1, hv => simp at hv; subst hv; exact h2
  | 2, hv => simp at hv; subst hv; exact h3
  | 3, hv => simp at hv; subst hv; exact h4) Tryz.underlying44 rfl infoDs10
theorem infoPk : (Tryz.prog.info? 63).map (·.size) = some 4 := by kernel_rfl
theorem loadP5 {w : World} {b o : Nat} {x : Pt} (h : at5 w b o x) : (Instr.loadAt 63 (.pointer (some ⟨b, o + 1, none⟩))).run Tryz.prog w = .ok (dV x.d) w := run_loadAt_mid w b (o + 1) _ [.int .u64 x.d.a, .int .u32 x.d.l, .int .u16 x.d.f, .int .u16 x.d.n] _ (fun j v hv => by
  obtain ⟨_, h1, h2, h3, h4⟩ := h
  match j, hv with
  | 0, hv => simp at hv; subst hv; exact h1
  | 1, hv => simp at hv; subst hv; exact h2
  | 2, hv => simp at hv; subst hv; exact h3
  | 3, hv => simp at hv; subst hv; exact h4) Tryz.underlying63 rfl infoPk
theorem at5.chg {u u' : World} {ib g o : Nat} {x : Pt} (hc : Chg (· = ib) u u') (hb : g < u.heap.size) (hne : g ≠ ib) (h : at5 u g o x) : at5 u' g o x :=
  ⟨(hc.cell hb hne).trans h.1, (hc.cell hb hne).trans h.2.1, (hc.cell hb hne).trans h.2.2.1, (hc.cell hb hne).trans h.2.2.2.1, (hc.cell hb hne).trans h.2.2.2.2⟩
theorem stb10 {L : List Sg} (h : mayE L = 0) : (stbB L).length = 16 * L.length ∧ (ptbB L).length = 16 * L.length := by
  unfold stbB ptbB
  rw [if_pos h, if_pos h, tabB_length, tabB_length, stbL_len, ptbL_len]
  exact ⟨rfl, rfl⟩
/-- a list of segments is not the image -/
theorem segs_chg {w0 : World} {p ib qb : Nat} {R : List (Int × Int)} {M : List Int} {u u' : World} (hc : Chg (· = ib) u u') (hm : MdS w0 p ib qb R M u) {v : Value} {L : List Sg} (h : SegsAt u v L) : SegsAt u' v L := by
  rcases h with h | ⟨g, o, c, rfl, h1, h2, h3⟩
  · exact Or.inl h
  · by_cases h0 : L.length = 0
    · have e : L = [] := List.length_eq_zero_iff.1 h0
      subst e
      exact Or.inl ⟨⟨_, c, rfl, fun e => by cases e⟩, rfl⟩
    · have hne : g ≠ ib := fun e => by
        subst e
        have hi := hm.mem.img
        have h4 := (h3 0 (by omega)).1
        rw [cellK hi, List.getElem?_map] at h4
        cases hM : M[o + 0 * 3]? with
        | none => rw [hM] at h4; cases h4
        | some y => rw [hM] at h4; cases h4
      refine Or.inr ⟨g, o, c, rfl, Nat.lt_of_lt_of_le h1 hc.size, h2, fun j hj => ?_⟩
      obtain ⟨a0, a1, a2⟩ := h3 j hj
      exact ⟨(hc.cell h1 hne).trans a0, (hc.cell h1 hne).trans a1, (hc.cell h1 hne).trans a2⟩
theorem at5_box {w : World} {b : Nat} {t : TypeId} {x : Pt} (h : BlkAt w b [.int .i64 x.i, .int .u64 x.d.a, .int .u32 x.d.l, .int .u16 x.d.f, .int .u16 x.d.n] t) : at5 w b 0 x := ⟨h.cell 0, h.cell 1, h.cell 2, h.cell 3, h.cell 4⟩
end Go.Proofs.YtfhhgcgbgmilcaaGreat

/- How a parameter of type []api.Seg opens. Conditions: as each theorem names them. -/
namespace Go.Proofs.YtfhhgcgbgmilcaaGreat
open Go.ChangeShapes Go.WideShapes Go.ChangeAt Go.RowKit
set_option linter.unusedVariables false
set_option maxRecDepth 100000

section
variable {H : Type} {enc : TypeId × Value → H} {W : World} {r : Reach} {b0 : Nat} {v : Value} {d : DataW H} {p : List MemPlace}
instance : Inhabited Sg := ⟨⟨0, 0, false⟩⟩
theorem list3s {α : Type} {l : List α} (h : l.length = 3) : ∃ a b c, l = [a, b, c] := by
  match l, h with
  | [a, b, c], _ => exact ⟨a, b, c, rfl⟩
theorem open_segs (hval : Value.okWide Tryz.prog W r b0 22 v) (h : DataW.Trod enc Tryz.prog W 0 (fun _ => true) true 22 v d p) :
    ∃ L, SegsAt W v L ∧ isSgs L ∧ L.length ≤ maxLen := by
  obtain ⟨a, len, cap, rfl⟩ := okWide_slice Tryz.underlying22 hval
  obtain ⟨fuel, hf⟩ := h
  rcases Go.Deep.open_slice Tryz.underlying22 hf with ⟨hcs, _⟩ | ⟨a', len', cap', m, n, D, Pl, hcs, _, hle, hmax, hm, _, hx⟩
  · simp [Value.cells] at hcs
    obtain ⟨rfl, rfl, rfl⟩ := hcs
    exact ⟨[], Or.inl ⟨⟨_, _, rfl, fun _ => rfl⟩, rfl⟩, (fun d hd => by cases hd), by simp⟩
  · simp [Value.cells] at hcs
    obtain ⟨rfl, rfl, rfl⟩ := hcs
    simp only [if_true] at hm
    subst hm
    have hC : Tryz.prog.cellsOf 28 = 3 := by kernel_rfl
    have hC64 : Tryz.prog.cellsOf 25 = 1 := by kernel_rfl
    have hC32 : Tryz.prog.cellsOf 26 = 1 := by kernel_rfl
    have hCb : Tryz.prog.cellsOf 4 = 1 := by kernel_rfl
    have each : ∀ i, i < len → ∃ x : Sg, (W.cell? (a'.add (i * 3)) = some (.int .u64 x.a) ∧ W.cell? (a'.add (i * 3 + 1)) = some (.int .u32 x.n) ∧ W.cell? (a'.add (i * 3 + 2)) = some (.bool x.t)) ∧ isSg x := fun i hi => by
      obtain ⟨cs', h1, h2⟩ := hx i (by omega)
      rw [hC] at h1
      obtain ⟨_, hlen, hcell⟩ := World.cells?_some h1
      obtain ⟨v0, v1, v2, rfl⟩ := list3s hlen
      obtain ⟨xs, k, hk, hxy, _, hxl, hfd⟩ := DataW.trod_struct Tryz.underlying28 h2
      obtain ⟨y0, y1, y2, rfl⟩ := list3s hxl
      have g0 := hfd 0 _ rfl
      have g1 := hfd 1 _ rfl
      have g2 := hfd 2 _ rfl
      simp [hC64, hC32, hCb] at g0 g1 g2
      obtain ⟨n0, e0, _, w0⟩ := DataW.trod_int Tryz.underlying25 g0
      obtain ⟨n1, e1, _, w1⟩ := DataW.trod_int Tryz.underlying26 g1
      obtain ⟨n2, e2, _⟩ := DataW.trod_bool Tryz.underlying4 g2
      simp at e0 e1 e2
      subst e0 e1 e2
      have c0 := hcell 0 (by omega)
      have c1 := hcell 1 (by omega)
      have c2 := hcell 2 (by omega)
      rw [Go.Deep.add_add] at c0 c1 c2
      have u0 := bounds_u64 w0
      have u1 := bounds_u32 w1
      exact ⟨⟨n0, n1, n2⟩, ⟨c0, c1, c2⟩, ⟨⟨by simp only; omega, by simp only; omega⟩, by simp only; omega, by simp only; omega⟩⟩
    obtain ⟨f, hf2⟩ := Go.Deep.choose_lt each
    have hlen : ((List.range len).map f).length = len := by simp
    have hat : ∀ i, i < len → sat ((List.range len).map f) i = f i := fun i hi => by simp [sat, List.getD, hi]
    refine ⟨(List.range len).map f, ?_, (fun d hd => by
      obtain ⟨i, hi, rfl⟩ := List.mem_map.1 hd
      exact (hf2 i (by simpa using hi)).2), by rw [hlen]; omega⟩
    by_cases h0 : len = 0
    · subst h0
      exact Or.inl ⟨⟨_, _, rfl, fun h => by cases h⟩, rfl⟩
    · obtain ⟨b, off, spot⟩ := a'
      have hspot : spot = none := by simpa [Addr.add] using World.cell?_spot (hf2 0 (by omega)).1.1
      subst hspot
      have h00 := (hf2 0 (by omega)).1.1
      rw [add_plain] at h00
      refine Or.inr ⟨b, off, m, by rw [hlen], World.block_lt_of_cell? W _ h00, by omega, fun j hj => ?_⟩
      rw [hlen] at hj
      have h1 := (hf2 j hj).1
      simp only [add_plain] at h1
      rw [hat j hj]
      exact ⟨h1.1, by rw [Nat.add_assoc]; exact h1.2.1, by rw [Nat.add_assoc]; exact h1.2.2⟩
end
end Go.Proofs.YtfhhgcgbgmilcaaGreat
