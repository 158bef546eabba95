/- Rf8 Rf9 Rf10: joined texts. Conditions: as each theorem names them. -/
import Derived.Test.YtfhhgcgbgmilcaaGreatKp36
import Derived.Test.YtfhhgcgbgmilcaaGreatKp08
import Derived.Maps.AppendAt
import Derived.BigRegion
import Derived.OneCell
import Derived.Deep.RegionLaw
/- The reference's Image of layer 2. Conditions: as the theorem names them. -/
namespace Go.Proofs.YtfhhgcgbgmilcaaGreat
open Go.ChangeShapes Go.WideShapes Go.ChangeAt Go.RowKit
set_option linter.unusedVariables false

end Go.Proofs.YtfhhgcgbgmilcaaGreat

/- The reference's New of layer 2. Conditions: as each theorem names them. -/
namespace Go.Proofs.YtfhhgcgbgmilcaaGreat
open Go.ChangeShapes Go.WideShapes Go.ChangeAt Go.RowKit
set_option linter.unusedVariables false
set_option maxRecDepth 100000

theorem rowBB : (Tryz.prog.info? 47).map (fun i => (i.zero, i.size, i.bytes)) = some (some (.slice none 0 0), 1, 24) := by kernel_rfl
theorem rnew_no (v : Value) (L : List (Int × Int)) (w : World) (hv : RegsAt w v L) (hu : isRegs L) (hm : L.length ≤ 4611686018427387904) (hno : chkE L ≠ 0) :
    Calls Tryz.prog 26 #[v] w fun e w' => e = .returned (.tuple #[.pointer none, .int .i64 2]) ∧ Below w.heap.size w w' := by
  have hchk := rcheck_any v L w hv hu hm
  have h2 : (chkE L != 0) = true := by simp; exact hno
  clear hv hu hm hno
  generalize chkE L = x at *
  go_enter Tryz.func26, Tryz.ntmps26
  go_wp2_with fail
  refine hchk.mono ?_
  rintro e w1 ⟨rfl, m, rfl⟩
  go_wp2_with fail
  go_ret2
  exact ⟨rfl, below_drewN _ _⟩

/-- append([]api.Region{}, l...): a row of the call's own, not nil -/
theorem append_regs (v : Value) (L : List (Int × Int)) (w : World) (hv : RegsAt w v L) (hl : L.length ≤ 1000000) :
    ∃ g cap w', (∀ ty, (Builtin.append_ #[81, 81] ty #[.slice (some ⟨w.heap.size, 0, none⟩) 0 0, v]).run Tryz.prog (w.alloc (.cells #[] 80)) = .ok (.slice (some ⟨g, 0, none⟩) L.length cap) w') ∧
      (∀ j, j < L.length → w'.cell? ⟨g, j * 2, none⟩ = some (.int .u64 (at_ L j).1) ∧ w'.cell? ⟨g, j * 2 + 1, none⟩ = some (.int .u64 (at_ L j).2)) ∧ w.heap.size ≤ g ∧ g < w'.heap.size ∧ Below w.heap.size w w' := by
  obtain ⟨i0, hi, hz0, hz1, hz2⟩ := info_parts rowReg2
  have hown := World.ownsRow_made (e := 80) (size := 2) (base := w.heap.size) w #[] 0 (Nat.le_refl _) (by simp [maxLen]) rfl
  have hbase : w.heap.size ≤ (w.alloc (.cells #[] 80)).heap.size := by rw [sizeA]; omega
  have hfin : ∀ (v' : Value) (w' : World), w'.ownsRow w.heap.size 80 2 v' L.length (regCells L) → v' ≠ .slice none 0 0 → ∃ g cap, v' = .slice (some ⟨g, 0, none⟩) L.length cap ∧
      (∀ j, j < L.length → w'.cell? ⟨g, j * 2, none⟩ = some (.int .u64 (at_ L j).1) ∧ w'.cell? ⟨g, j * 2 + 1, none⟩ = some (.int .u64 (at_ L j).2)) ∧ w.heap.size ≤ g ∧ g < w'.heap.size := by
    intro v' w' ho hne
    rcases ho.2 with ⟨rfl, h0⟩ | ⟨g, cap, cur, rfl, hg, hh, hn, hm, hs, ht⟩
    · exact absurd rfl hne
    · refine ⟨g, cap, rfl, fun j hj => ?_, hg, lt_blk hh⟩
      have hr := regCells_at L j hj
      have hlr := regCells_length L
      have hc := fun i (u : Value) (hu : (regCells L)[i]? = some u) => ho.cells (g := g) rfl i u hu
      have e : ∀ i, (⟨g, 0, none⟩ : Addr).add i = ⟨g, i, none⟩ := fun i => by unfold Addr.add; split <;> simp_all
      exact ⟨by rw [← e]; exact hc _ _ hr.1, by rw [← e]; exact hc _ _ hr.2⟩
  rcases hv with ⟨⟨a, c, rfl, hac⟩, rfl⟩ | ⟨b, o, c, rfl, hb1, hb2, hb3⟩
  · cases a with
    | none =>
      refine ⟨w.heap.size, 0, w.alloc (.cells #[] 80), fun ty => by rw [hac rfl]; exact run_append_owned_none _ w.heap.size 81 ty 80 i0 2 Tryz.underlying81 hi _ 0 [] hown, fun j hj => by simp at hj, Nat.le_refl _, by rw [sizeA]; omega, (Below.refl _ _).alloc (Nat.le_refl _) _⟩
    | some a =>
      obtain ⟨v', w', h1, h2, h3, h4⟩ := run_append_own (w.alloc (.cells #[] 80)) w.heap.size 81 81 80 i0 _ 2 16 Tryz.underlying81 hi hz0 hz1 hz2 rfl (by decide) _ 0 [] hown a 0 c [] rfl (fun j u hu => by simp at hu) (fun u hu => by cases hu) (by simp [maxLen]) (by decide) hbase
      obtain ⟨g, cap, rfl, q1, q2, q3⟩ := hfin v' w' h2 (fun e => by simpa using h4.1 e)
      exact ⟨g, cap, w', fun ty => h1, q1, q2, q3, ((Below.refl _ _).alloc (Nat.le_refl _) _).trans (grown_below h3 hbase (fun k hk => by simp [Value.ownBlock] at hk; omega))⟩
  · have hba : Below w.heap.size w (w.alloc (.cells #[] 80)) := Below.alloc (Below.refl _ _) (Nat.le_refl _) _
    have hb3' : ∀ j, j < L.length → (w.alloc (.cells #[] 80)).cell? ⟨b, o + j * 2, none⟩ = some (.int .u64 (at_ L j).1) ∧ (w.alloc (.cells #[] 80)).cell? ⟨b, o + j * 2 + 1, none⟩ = some (.int .u64 (at_ L j).2) := fun j hj =>
      ⟨(hba.cell (p := ⟨b, o + j * 2, none⟩) hb1).trans (hb3 j hj).1, (hba.cell (p := ⟨b, o + j * 2 + 1, none⟩) hb1).trans (hb3 j hj).2⟩
    obtain ⟨v', w', h1, h2, h3, h4⟩ := run_append_own (w.alloc (.cells #[] 80)) w.heap.size 81 81 80 i0 _ 2 16 Tryz.underlying81 hi hz0 hz1 hz2 rfl (by decide) _ 0 [] hown ⟨b, o, none⟩ L.length c (regCells L) (regCells_length L) (newsR_of (c := c) hb3') oneR_of (by simp [maxLen]; omega) (by omega) hbase
    rw [List.nil_append, Nat.zero_add] at h2
    obtain ⟨g, cap, rfl, q1, q2, q3⟩ := hfin v' w' h2 (fun e => by simpa using h4.1 e)
    exact ⟨g, cap, w', fun ty => h1, q1, q2, q3, ((Below.refl _ _).alloc (Nat.le_refl _) _).trans (grown_below h3 hbase (fun k hk => by simp [Value.ownBlock] at hk; omega))⟩
end Go.Proofs.YtfhhgcgbgmilcaaGreat

/- The reference's New of layer 2, where the regions are valid. Conditions: as each theorem names them. -/
namespace Go.Proofs.YtfhhgcgbgmilcaaGreat
open Go.ChangeShapes Go.WideShapes Go.ChangeAt Go.RowKit
set_option linter.unusedVariables false
set_option maxRecDepth 100000

/-- an append at a step of a region that draws, by its run's equation -/
theorem step_append_run {P : Program} {ops : Array Oper} {o : Oper} {a : Act} {w w' : World} {v u v' : Value} {K : Act → World → Prop} {Q : Exit → Act → World → Prop} {E : Prop} (hgd : o.guard = none) (s x : Operand) (t : TypeId)
    (ho : o.op = .call { callee := .builtin .append, args := #[s, x], argTypes := #[t, t] }) (hs : a.eval s = v) (hx : a.eval x = u) (hrun : (Builtin.append_ #[t, t] o.type #[v, u]).run P w = .ok v' w') (h : K (a.put o.dst v') w') :
    if Region.wanted o (yielded ops a.tmps) = true then Oper.wp P o a w K Q else E := by
  have hw : Region.wanted o (yielded ops a.tmps) = true := by simp [Region.wanted, hgd]
  rw [if_pos hw]
  unfold Oper.wp
  simp [execOp, ho, resolve, invoke, builtin, hs, hx, hrun, Result.andThen]
  exact h

/-- so many pieces have been made -/
structure RN (w : World) (rp lb cL : Nat) (L : List (Int × Int)) (k : Nat) (s : Value) (D : Nat → Nat) : Prop where
  o0 : w.cell? ⟨rp, 0, none⟩ = some (.slice (some ⟨lb, 0, none⟩) L.length cL)
  o1 : w.cell? ⟨rp, 1, none⟩ = some s
  f1 : w.frozen? ⟨rp, 1, none⟩ = false
  own : w.ownsRow (rp + 1) 47 1 s k ((List.range k).map (fun j => Value.slice (some ⟨D j, 0, none⟩) (at_ L j).2.toNat (at_ L j).2.toNat))
  regs : ∀ j, j < L.length → w.cell? ⟨lb, j * 2, none⟩ = some (.int .u64 (at_ L j).1) ∧ w.cell? ⟨lb, j * 2 + 1, none⟩ = some (.int .u64 (at_ L j).2)
  parts : ∀ j, j < k → w.heap[D j]? = some (.cells (bv (List.replicate (at_ L j).2.toNat 0)) 5 (0, 0))
  inj : ∀ i j, i < k → j < k → D i = D j → i = j
  ne : ∀ j, j < k → rp < D j ∧ D j < w.heap.size ∧ s.ownBlock ≠ some (D j)
  lt : lb < rp
  sz : rp < w.heap.size

theorem RN.step {w w3 : World} {rp lb cL k n : Nat} {L : List (Int × Int)} {s v' : Value} {D : Nat → Nat} {C : Obj} (h : RN w rp lb cL L k s D) (hk : k < L.length) (hn : (at_ L k).2.toNat = n)
    (hown : w3.ownsRow (rp + 1) 47 1 v' (k + 1) ((List.range k).map (fun j => Value.slice (some ⟨D j, 0, none⟩) (at_ L j).2.toNat (at_ L j).2.toNat) ++ [Value.slice (some ⟨w.heap.size, 0, none⟩) n n]))
    (hg : (((w.alloc (.cells (bv (List.replicate n 0)) 5)).alloc C).drew).grownBy w3 s.ownBlock) (hat : v'.ownBlock = s.ownBlock ∨ v'.ownBlock = some (w.heap.size + 2)) :
    RN (w3.setCell ⟨rp, 1, none⟩ v') rp lb cL L (k + 1) v' (fun j => if j = k then w.heap.size else D j) := by
  have hW : (((w.alloc (.cells (bv (List.replicate n 0)) 5)).alloc C).drew).heap.size = w.heap.size + 1 + 1 := by
    show ((w.alloc _).alloc C).heap.size = _
    rw [sizeA, sizeA]
  have hsb : ∀ b, s.ownBlock = some b → rp + 1 ≤ b ∧ b < w.heap.size := fun b hb => h.own.lt b hb
  have hold : ∀ b, b < w.heap.size → s.ownBlock ≠ some b → w3.heap[b]? = w.heap[b]? := fun b hb hne => by
    rw [hg.block b (by rw [hW]; omega) (fun e => hne e.symm)]
    show ((w.alloc _).alloc C).heap[b]? = _
    rw [heap_alloc_old _ _ (by rw [sizeA]; omega), heap_alloc_old _ _ hb]
  have hnew : w3.heap[w.heap.size]? = some (.cells (bv (List.replicate n 0)) 5 (0, 0)) := by
    rw [hg.block w.heap.size (by rw [hW]; omega) (fun e => by have := hsb _ e.symm; omega)]
    show ((w.alloc _).alloc C).heap[w.heap.size]? = _
    rw [heap_alloc_old _ _ (by rw [sizeA]; omega)]
    exact heap_alloc_new _ _
  have hz : w.heap.size + 1 + 1 ≤ w3.heap.size := by have := hg.size; rw [hW] at this; exact this
  have hrp : w3.heap[rp]? = w.heap[rp]? := hold rp h.sz (fun e => by have := hsb _ e; omega)
  have hlb : w3.heap[lb]? = w.heap[lb]? := hold lb (by have := h.lt; have := h.sz; omega) (fun e => by have := hsb _ e; have := h.lt; omega)
  have hcell : ∀ b o, w3.heap[b]? = w.heap[b]? → w3.cell? ⟨b, o, none⟩ = w.cell? ⟨b, o, none⟩ := fun b o e => World.cell?_of_block e
  have hs4 : ∀ b, b ≠ rp → (w3.setCell ⟨rp, 1, none⟩ v').heap[b]? = w3.heap[b]? := fun b hb => heap_setCell_other _ _ _ _ hb
  have hvb : ∀ b, v'.ownBlock = some b → rp + 1 ≤ b ∧ b < w3.heap.size := fun b hb => hown.lt b hb
  have h01 : (⟨rp, 1, none⟩ : Addr) ≠ ⟨rp, 0, none⟩ := fun e => by cases e
  refine ⟨?_, ?_, ?_, ?_, ?_, ?_, ?_, ?_, h.lt, ?_⟩
  · rw [World.cell?_setCell_other _ _ _ _ h01, hcell rp 0 hrp]
    exact h.o0
  · exact World.cell?_setCell_same _ _ _ ((hcell rp 1 hrp).trans h.o1)
  · rw [World.frozen?_setCell, World.frozen?_of_block hrp]
    exact h.f1
  · have hxs : ((List.range (k + 1)).map (fun j => Value.slice (some ⟨if j = k then w.heap.size else D j, 0, none⟩) (at_ L j).2.toNat (at_ L j).2.toNat)) = (List.range k).map (fun j => Value.slice (some ⟨D j, 0, none⟩) (at_ L j).2.toNat (at_ L j).2.toNat) ++ [Value.slice (some ⟨w.heap.size, 0, none⟩) n n] := by
      rw [List.range_succ, List.map_append]
      congr 1
      · apply List.map_congr_left
        intro j hj
        rw [if_neg (by have := List.mem_range.1 hj; omega)]
      · simp [hn]
    rw [hxs]
    refine ownsRow_setCell_other hown (fun e => ?_) _
    have := (hvb _ e).1
    simp at this
    omega
  · intro j hj
    have hne : lb ≠ rp := by have := h.lt; omega
    have e := hs4 lb hne
    exact ⟨((World.cell?_of_block e).trans (hcell lb _ hlb)).trans (h.regs j hj).1, ((World.cell?_of_block e).trans (hcell lb _ hlb)).trans (h.regs j hj).2⟩
  · intro j hj
    by_cases hjk : j = k
    · subst hjk
      rw [if_pos rfl, hs4 _ (by have := h.sz; omega), hnew, hn]
    · rw [if_neg hjk]
      have hd := h.ne j (by omega)
      rw [hs4 _ (by omega), hold _ hd.2.1 hd.2.2]
      exact h.parts j (by omega)
  · intro i j hi hj
    by_cases hik : i = k <;> by_cases hjk : j = k
    · intro _; omega
    · rw [if_pos hik, if_neg hjk]
      intro e
      have := (h.ne j (by omega)).2.1
      omega
    · rw [if_neg hik, if_pos hjk]
      intro e
      have := (h.ne i (by omega)).2.1
      omega
    · rw [if_neg hik, if_neg hjk]
      exact h.inj i j (by omega) (by omega)
  · intro j hj
    rw [World.size_setCell]
    by_cases hjk : j = k
    · rw [if_pos hjk]
      refine ⟨h.sz, by omega, fun e => ?_⟩
      rcases hat with he | he
      · rw [he] at e
        have := (hsb _ e).2
        omega
      · rw [he] at e
        simp only [Option.some.injEq] at e
        omega
    · rw [if_neg hjk]
      have hd := h.ne j (by omega)
      refine ⟨hd.1, by omega, fun e => ?_⟩
      rcases hat with he | he
      · rw [he] at e
        exact hd.2.2 e
      · rw [he] at e
        simp only [Option.some.injEq] at e
        omega
  · rw [World.size_setCell]
    have := h.sz
    omega

theorem part_zero (L : List (Int × Int)) (j : Nat) (hj : j < L.length) : part L (List.replicate (sumR L) 0) j = List.replicate (at_ L j).2.toNat 0 := by
  have := off_room L j hj
  unfold part
  rw [List.drop_replicate, List.take_replicate]
  congr 1
  omega
theorem RN.ref {w : World} {rp lb cL : Nat} {L : List (Int × Int)} {s : Value} {D : Nat → Nat} (h : RN w rp lb cL L L.length s D) {base : Nat} (hb : base ≤ rp) (hok : okR (-1) 1048576 L = true) (h16 : L.length ≤ 16) :
    ∃ bb cB aB, (0 < L.length → base ≤ bb) ∧ IsRef w base rp lb bb cL cB aB D L (List.replicate (sumR L) 0) := by
  have hparts : ∀ j, j < L.length → w.heap[D j]? = some (.cells ((part L (List.replicate (sumR L) 0) j).map (Value.int .u8)).toArray 5 (0, 0)) := fun j hj => by
    rw [part_zero L j hj]
    exact h.parts j hj
  have hbytes : isBytes (List.replicate (sumR L) 0) := fun x hx => by
    rw [List.eq_of_mem_replicate hx]
    omega
  rcases h.own.2 with ⟨hs, h0⟩ | ⟨g, cap, cur, hs, hg, hh, hn, hm, hsz, ht⟩
  · refine ⟨0, 0, none, fun hp => by omega, h.o0, ?_, fun hp => by omega, h.regs, fun j hj => by omega, hparts, h.inj, fun j hj => by omega, hok, h16, by simp, hbytes⟩
    rw [h.o1, hs, h0]
  · refine ⟨g, cap, some ⟨g, 0, none⟩, fun _ => by omega, h.o0, ?_, fun _ => rfl, h.regs, fun j hj => ?_, hparts, h.inj, fun j hj => ?_, hok, h16, by simp, hbytes⟩
    · rw [h.o1, hs]
    · have hc := h.own.cells (g := g) (by rw [hs]; rfl) j (.slice (some ⟨D j, 0, none⟩) (at_ L j).2.toNat (at_ L j).2.toNat) (by simp [hj])
      rw [show (⟨g, 0, none⟩ : Addr).add j = ⟨g, j, none⟩ from by unfold Addr.add; split <;> simp_all] at hc
      exact hc
    · have hd := h.ne j hj
      have hlt := h.lt
      refine ⟨by omega, by omega, fun e => hd.2.2 ?_, by omega⟩
      rw [hs, e]
      rfl

set_option maxHeartbeats 4000000 in
theorem rnew_any (v : Value) (L : List (Int × Int)) (w : World) (hv : RegsAt w v L) (hu : isRegs L) (hok : okR (-1) 1048576 L = true) (h16 : L.length ≤ 16) (hcE : chkE L = 0) (hN : ∀ j, j < L.length → 0 ≤ (at_ L j).2 ∧ (at_ L j).2 ≤ 1048576) :
    Calls Tryz.prog 26 #[v] w fun e w' => ∃ rp lb bb cL cB aB D, e = .returned (.tuple #[.pointer (some ⟨rp, 0, none⟩), .int .i64 0]) ∧ (w.heap.size ≤ rp ∧ w.heap.size ≤ lb ∧ (0 < L.length → w.heap.size ≤ bb)) ∧ IsRef w' w.heap.size rp lb bb cL cB aB D L (List.replicate (sumR L) 0) ∧ Below w.heap.size w w' := by
  have hchk := rcheck_any v L w hv hu (by omega)
  rw [hcE] at hchk
  obtain ⟨i0, hi, hz0, hz1, hz2⟩ := info_parts rowBB
  have HI := hid_mk hi
  have HZ := hid_mk (And.intro hz0 (And.intro hz1 hz2))
  have HV := hid_mk hv
  have HOK := hid_mk hok
  have H16 := hid_mk h16
  have HN := hid_mk hN
  obtain ⟨va, vc, rfl⟩ := hv.len
  have h16i : (L.length : Int) ≤ 16 := by omega
  clear hi hz0 hz1 hz2 hv hok hcE hN hu
  go_enter Tryz.func26, Tryz.ntmps26
  go_wp2_with fail
  refine hchk.mono ?_
  rintro e w1 ⟨rfl, m, hm⟩
  have hb1 : Below w.heap.size w w1 := by rw [hm]; exact below_drewN _ _
  obtain ⟨lb, cL, w2, hrun, hregs, hlb1, hlb2, hb2⟩ := append_regs (.slice va L.length vc) L w1 (HV.out.below hb1) (by omega)
  have HR := hid_mk hrun
  have HB2 := hid_mk (below_then hb1 hb2)
  have hz1 := hb1.size
  have HRG := hid_mk hregs
  clear hchk hm hb2 hrun hregs
  go_wp2_with (at_builtin; refine wpList_append_run (v := .slice (some ⟨w1.heap.size, 0, none⟩) 0 0) (u := .slice va L.length vc) (v' := .slice (some ⟨lb, 0, none⟩) L.length cL) (w' := w2) rfl (.tmp 9) (.tmp 10) 81 rfl (by first | rfl | go_simp) (by first | rfl | go_simp) (HR.out _) ?_)
  obtain ⟨rp, hrp⟩ : ∃ rp, rp = w2.heap.size := ⟨_, rfl⟩
  obtain ⟨w3, hw3⟩ : ∃ w3, w3 = w2.alloc (.cells #[.slice (some ⟨lb, 0, none⟩) L.length cL, .slice none 0 0] 141) := ⟨_, rfl⟩
  have hRN : RN w3 rp lb cL L 0 (.slice none 0 0) (fun _ => 0) := by
    rw [hw3, hrp]
    refine ⟨by simp [go_sem], by simp [go_sem], by simp [go_sem], World.ownsRow_nil _ _ _ _, fun j hj => ?_, fun j hj => by omega, fun i j hi => by omega, fun j hj => by omega, hlb2, by rw [sizeA]; omega⟩
    have hal : Below w2.heap.size w2 (w2.alloc (.cells #[.slice (some ⟨lb, 0, none⟩) L.length cL, .slice none 0 0] 141)) := (Below.refl _ _).alloc (Nat.le_refl _) _
    exact ⟨(hal.cell (p := ⟨lb, j * 2, none⟩) hlb2).trans (HRG.out j hj).1, (hal.cell (p := ⟨lb, j * 2 + 1, none⟩) hlb2).trans (HRG.out j hj).2⟩
  have HRN := hid_mk hRN
  have hb3 : Below w.heap.size w w3 := by rw [hw3]; exact HB2.out.alloc HB2.out.size _
  have HB3 := hid_mk hb3
  have hrpb : w.heap.size ≤ rp := by rw [hrp]; exact HB2.out.size
  rw [← hrp, ← hw3]
  have hlbb : w.heap.size ≤ lb := Nat.le_trans hz1 hlb1
  clear hRN hb3 hw3 hrp hlb1 hlb2 hz1
  go_loopw [5] (fun i wr => ∃ (k : Nat) (s : Value) (D : Nat → Nat), k ≤ L.length ∧ i = .int .i64 k ∧ Hid (RN wr rp lb cL L k s D) ∧ Below w.heap.size w wr) (fun i _ => L.length - (intOf i).toNat)
  case atStart => exact ⟨0, _, _, Nat.zero_le _, rfl, HRN, HB3.out⟩
  case round =>
    obtain ⟨k, s, D, hk, rfl, hR, hbel⟩ := hrel
    by_cases hlt : k < L.length
    · rcases HV.out with ⟨_, hL⟩ | ⟨b, o, c, he, hb1, hb2, hb3⟩
      · rw [hL] at hlt
        simp at hlt
      cases he
      have hN := HN.out k hlt
      obtain ⟨n, hn⟩ : ∃ n : Nat, (at_ L k).2 = (n : Int) := ⟨(at_ L k).2.toNat, by omega⟩
      have hnt : (at_ L k).2.toNat = n := by omega
      have q1 := (hbel.cell (p := ⟨b, o + k * 2 + 1, none⟩) hb1).trans (hb3 k hlt).2
      rw [hn] at q1
      have hzr := hbel.size
      have hbz : b < wr.heap.size := by omega
      have hki : (k : Int) < (L.length : Int) := by omega
      have hmk := fun u => makeB u .u64 n (by omega)
      have o1 := hR.out.o1
      have f1 := hR.out.f1
      have hsz := hR.out.sz
      have hra : ∃ g2 c2 w4, (∀ ty, (Builtin.append_ #[139, 139] ty #[s, .slice (some ⟨wr.heap.size + 1, 0, none⟩) 1 1]).run Tryz.prog (((wr.alloc (.cells (bv (List.replicate n 0)) 5)).alloc (.cells #[.slice (some ⟨wr.heap.size, 0, none⟩) n n] 47)).drew) = .ok (.slice (some ⟨g2, 0, none⟩) (k + 1) c2) w4) ∧
          w4.cell? ⟨rp, 1, none⟩ = some s ∧ w4.frozen? ⟨rp, 1, none⟩ = false ∧ Hid (RN (w4.setCell ⟨rp, 1, none⟩ (.slice (some ⟨g2, 0, none⟩) (k + 1) c2)) rp lb cL L (k + 1) (.slice (some ⟨g2, 0, none⟩) (k + 1) c2) (fun j => if j = k then wr.heap.size else D j)) ∧ Hid (Below w.heap.size w w4) := by
        have hown := ((hR.out.own.alloc (.cells (bv (List.replicate n 0)) 5)).alloc (.cells #[.slice (some ⟨wr.heap.size, 0, none⟩) n n] 47)).drew
        have hW : (((wr.alloc (.cells (bv (List.replicate n 0)) 5)).alloc (.cells #[.slice (some ⟨wr.heap.size, 0, none⟩) n n] 47)).drew).heap.size = wr.heap.size + 1 + 1 := by
          show ((wr.alloc _).alloc _).heap.size = _
          rw [sizeA, sizeA]
        obtain ⟨v', w4, h1, h2, h3, _, h5⟩ := run_append_own_at (P := Tryz.prog) _ (rp + 1) 139 139 47 i0 _ 1 24 Tryz.underlying139 HI.out HZ.out.1 HZ.out.2.1 HZ.out.2.2 rfl (by decide) s _ _ hown ⟨wr.heap.size + 1, 0, none⟩ 1 1 [.slice (some ⟨wr.heap.size, 0, none⟩) n n] rfl (fun j u hu => by
          have hj : j = 0 := by
            have := (List.getElem?_eq_some_iff.1 hu).1
            simpa using this
          subst hj
          rw [show (⟨wr.heap.size + 1, 0, none⟩ : Addr).add 0 = ⟨wr.heap.size + 1, 0, none⟩ from by unfold Addr.add; split <;> simp_all]
          show ((wr.alloc _).alloc _).cell? _ = _
          rw [cellK (cs := [.slice (some ⟨wr.heap.size, 0, none⟩) n n]) (heap_alloc_at _ _ _ (sizeA _ _)) 0]
          exact hu) (fun u hu => by
          rw [List.mem_singleton] at hu
          subst hu
          rfl) (by simp [maxLen]; omega) (by omega) (by rw [hW]; omega)
        obtain ⟨g2, c2, rfl⟩ : ∃ g2 c2, v' = .slice (some ⟨g2, 0, none⟩) (k + 1) c2 := by
          rcases h2.2 with ⟨_, h0⟩ | ⟨g, cap, cur, he, _⟩
          · omega
          · exact ⟨g, cap, he⟩
        have hso : ∀ q, s.ownBlock = some q → rp + 1 ≤ q ∧ q < wr.heap.size := fun q hq => hR.out.own.lt q hq
        have hfar : w4.heap[rp]? = wr.heap[rp]? := by
          rw [h3.block rp (by rw [hW]; omega) (fun e => by have := hso _ e.symm; omega)]
          show ((wr.alloc _).alloc _).heap[rp]? = _
          rw [heap_alloc_old _ _ (by rw [sizeA]; omega), heap_alloc_old _ _ hsz]
        refine ⟨g2, c2, w4, fun ty => h1, (World.cell?_of_block hfar).trans o1, (World.frozen?_of_block hfar).trans f1, hid_mk (hR.out.step hlt hnt h2 h3 (by rw [hW] at h5; exact h5)), hid_mk ?_⟩
        have hq : Below w.heap.size w (((wr.alloc (.cells (bv (List.replicate n 0)) 5)).alloc (.cells #[.slice (some ⟨wr.heap.size, 0, none⟩) n n] 47)).drew) := ((hbel.alloc hzr _).alloc (by rw [sizeA]; omega) _).drew
        exact hq.trans (grown_below h3 (by rw [hW]; omega) (fun q hq => by have := hso q hq; omega))
      obtain ⟨g2, c2, w4, happ, c4, f4, HR4, HB4⟩ := hra
      clear hb3 hN hnt hn
      have HAP := hid_mk happ
      clear happ
      go_wp2_with fail
      go_region_law (refine step_append_run (v := s) (u := .slice (some ⟨wr.heap.size + 1, 0, none⟩) 1 1) (v' := .slice (some ⟨g2, 0, none⟩) (k + 1) c2) (w' := w4) rfl (.tmp 24) (.tmp 31) 139 rfl (by first | rfl | go_simp) (by first | rfl | go_simp) (HAP.out _) ?_)
      all_goals go_wp2_with fail
      all_goals go_roundw
      all_goals first
        | exact ⟨k + 1, _, _, by omega, by go_num, HR4, HB4.out.setCell (by omega) _⟩
        | (simp [intOf] <;> omega)
    · obtain rfl : k = L.length := by omega
      go_wp2_with fail
      go_ret2
      obtain ⟨bb, cB, aB, hbb, hI⟩ := hR.out.ref hrpb HOK.out H16.out
      exact ⟨rp, lb, bb, cL, cB, aB, D, rfl, ⟨hrpb, hlbb, hbb⟩, hI, hbel⟩
end Go.Proofs.YtfhhgcgbgmilcaaGreat
