/- Rf10 Outl: joined texts. Conditions: as each theorem names them. -/
import Derived.Test.YteolnghnlfeakaaKp29
import Derived.Test.YteolnghnlfeakaaKp31
import Derived.Test.YteolnghnlfeakaaKp02
import Derived.OneCell
import Derived.Deep.RegionLaw
import Derived.Orders
/- The reference's New of layer 2, where the regions are valid. Conditions: as each theorem names them. -/
namespace Go.Proofs.Yteolnghnlfeakaa
open Go.ChangeShapes Go.WideShapes Go.ChangeAt Go.RowKit
set_option linter.unusedVariables false
set_option maxRecDepth 100000

/-- an append at a step of a region that draws, by its run's equation -/
theorem step_append_run {P : Program} {ops : Array Oper} {o : Oper} {a : Act} {w w' : World} {v u v' : Value} {K : Act → World → Prop} {Q : Exit → Act → World → Prop} {E : Prop} (hgd : o.guard = none) (s x : Operand) (t : TypeId)
    (ho : o.op = .call { callee := .builtin .append, args := #[s, x], argTypes := #[t, t] }) (hs : a.eval s = v) (hx : a.eval x = u) (hrun : (Builtin.append_ #[t, t] o.type #[v, u]).run P w = .ok v' w') (h : K (a.put o.dst v') w') :
    if Region.wanted o (yielded ops a.tmps) = true then Oper.wp P o a w K Q else E := by
  have hw : Region.wanted o (yielded ops a.tmps) = true := by simp [Region.wanted, hgd]
  rw [if_pos hw]
  unfold Oper.wp
  simp [execOp, ho, resolve, invoke, builtin, hs, hx, hrun, Result.andThen]
  exact h

/-- so many pieces have been made -/
structure RN (w : World) (rp lb cL : Nat) (L : List (Int × Int)) (k : Nat) (s : Value) (D : Nat → Nat) : Prop where
  o0 : w.cell? ⟨rp, 0, none⟩ = some (.slice (some ⟨lb, 0, none⟩) L.length cL)
  o1 : w.cell? ⟨rp, 1, none⟩ = some s
  f1 : w.frozen? ⟨rp, 1, none⟩ = false
  own : w.ownsRow (rp + 1) 38 1 s k ((List.range k).map (fun j => Value.slice (some ⟨D j, 0, none⟩) (at_ L j).2.toNat (at_ L j).2.toNat))
  regs : ∀ j, j < L.length → w.cell? ⟨lb, j * 2, none⟩ = some (.int .u64 (at_ L j).1) ∧ w.cell? ⟨lb, j * 2 + 1, none⟩ = some (.int .u64 (at_ L j).2)
  parts : ∀ j, j < k → w.heap[D j]? = some (.cells (bv (List.replicate (at_ L j).2.toNat 0)) 5 (0, 0))
  inj : ∀ i j, i < k → j < k → D i = D j → i = j
  ne : ∀ j, j < k → rp < D j ∧ D j < w.heap.size ∧ s.ownBlock ≠ some (D j)
  lt : lb < rp
  sz : rp < w.heap.size

theorem RN.step {w w3 : World} {rp lb cL k n : Nat} {L : List (Int × Int)} {s v' : Value} {D : Nat → Nat} {C : Obj} (h : RN w rp lb cL L k s D) (hk : k < L.length) (hn : (at_ L k).2.toNat = n)
    (hown : w3.ownsRow (rp + 1) 38 1 v' (k + 1) ((List.range k).map (fun j => Value.slice (some ⟨D j, 0, none⟩) (at_ L j).2.toNat (at_ L j).2.toNat) ++ [Value.slice (some ⟨w.heap.size, 0, none⟩) n n]))
    (hg : (((w.alloc (.cells (bv (List.replicate n 0)) 5)).alloc C).drew).grownBy w3 s.ownBlock) (hat : v'.ownBlock = s.ownBlock ∨ v'.ownBlock = some (w.heap.size + 2)) :
    RN (w3.setCell ⟨rp, 1, none⟩ v') rp lb cL L (k + 1) v' (fun j => if j = k then w.heap.size else D j) := by
  have hW : (((w.alloc (.cells (bv (List.replicate n 0)) 5)).alloc C).drew).heap.size = w.heap.size + 1 + 1 := by
    show ((w.alloc _).alloc C).heap.size = _
    rw [sizeA, sizeA]
  have hsb : ∀ b, s.ownBlock = some b → rp + 1 ≤ b ∧ b < w.heap.size := fun b hb => h.own.lt b hb
  have hold : ∀ b, b < w.heap.size → s.ownBlock ≠ some b → w3.heap[b]? = w.heap[b]? := fun b hb hne => by
    rw [hg.block b (by rw [hW]; omega) (fun e => hne e.symm)]
    show ((w.alloc _).alloc C).heap[b]? = _
    rw [heap_alloc_old _ _ (by rw [sizeA]; omega), heap_alloc_old _ _ hb]
  have hnew : w3.heap[w.heap.size]? = some (.cells (bv (List.replicate n 0)) 5 (0, 0)) := by
    rw [hg.block w.heap.size (by rw [hW]; omega) (fun e => by have := hsb _ e.symm; omega)]
    show ((w.alloc _).alloc C).heap[w.heap.size]? = _
    rw [heap_alloc_old _ _ (by rw [sizeA]; omega)]
    exact heap_alloc_new _ _
  have hz : w.heap.size + 1 + 1 ≤ w3.heap.size := by have := hg.size; rw [hW] at this; exact this
  have hrp : w3.heap[rp]? = w.heap[rp]? := hold rp h.sz (fun e => by have := hsb _ e; omega)
  have hlb : w3.heap[lb]? = w.heap[lb]? := hold lb (by have := h.lt; have := h.sz; omega) (fun e => by have := hsb _ e; have := h.lt; omega)
  have hcell : ∀ b o, w3.heap[b]? = w.heap[b]? → w3.cell? ⟨b, o, none⟩ = w.cell? ⟨b, o, none⟩ := fun b o e => World.cell?_of_block e
  have hs4 : ∀ b, b ≠ rp → (w3.setCell ⟨rp, 1, none⟩ v').heap[b]? = w3.heap[b]? := fun b hb => heap_setCell_other _ _ _ _ hb
  have hvb : ∀ b, v'.ownBlock = some b → rp + 1 ≤ b ∧ b < w3.heap.size := fun b hb => hown.lt b hb
  have h01 : (⟨rp, 1, none⟩ : Addr) ≠ ⟨rp, 0, none⟩ := fun e => by cases e
  refine ⟨?_, ?_, ?_, ?_, ?_, ?_, ?_, ?_, h.lt, ?_⟩
  · rw [World.cell?_setCell_other _ _ _ _ h01, hcell rp 0 hrp]
    exact h.o0
  · exact World.cell?_setCell_same _ _ _ ((hcell rp 1 hrp).trans h.o1)
  · rw [World.frozen?_setCell, World.frozen?_of_block hrp]
    exact h.f1
  · have hxs : ((List.range (k + 1)).map (fun j => Value.slice (some ⟨if j = k then w.heap.size else D j, 0, none⟩) (at_ L j).2.toNat (at_ L j).2.toNat)) = (List.range k).map (fun j => Value.slice (some ⟨D j, 0, none⟩) (at_ L j).2.toNat (at_ L j).2.toNat) ++ [Value.slice (some ⟨w.heap.size, 0, none⟩) n n] := by
      rw [List.range_succ, List.map_append]
      congr 1
      · apply List.map_congr_left
        intro j hj
        rw [if_neg (by have := List.mem_range.1 hj; omega)]
      · simp [hn]
    rw [hxs]
    refine ownsRow_setCell_other hown (fun e => ?_) _
    have := (hvb _ e).1
    simp at this
    omega
  · intro j hj
    have hne : lb ≠ rp := by have := h.lt; omega
    have e := hs4 lb hne
    exact ⟨((World.cell?_of_block e).trans (hcell lb _ hlb)).trans (h.regs j hj).1, ((World.cell?_of_block e).trans (hcell lb _ hlb)).trans (h.regs j hj).2⟩
  · intro j hj
    by_cases hjk : j = k
    · subst hjk
      rw [if_pos rfl, hs4 _ (by have := h.sz; omega), hnew, hn]
    · rw [if_neg hjk]
      have hd := h.ne j (by omega)
      rw [hs4 _ (by omega), hold _ hd.2.1 hd.2.2]
      exact h.parts j (by omega)
  · intro i j hi hj
    by_cases hik : i = k <;> by_cases hjk : j = k
    · intro _; omega
    · rw [if_pos hik, if_neg hjk]
      intro e
      have := (h.ne j (by omega)).2.1
      omega
    · rw [if_neg hik, if_pos hjk]
      intro e
      have := (h.ne i (by omega)).2.1
      omega
    · rw [if_neg hik, if_neg hjk]
      exact h.inj i j (by omega) (by omega)
  · intro j hj
    rw [World.size_setCell]
    by_cases hjk : j = k
    · rw [if_pos hjk]
      refine ⟨h.sz, by omega, fun e => ?_⟩
      rcases hat with he | he
      · rw [he] at e
        have := (hsb _ e).2
        omega
      · rw [he] at e
        simp only [Option.some.injEq] at e
        omega
    · rw [if_neg hjk]
      have hd := h.ne j (by omega)
      refine ⟨hd.1, by omega, fun e => ?_⟩
      rcases hat with he | he
      · rw [he] at e
        exact hd.2.2 e
      · rw [he] at e
        simp only [Option.some.injEq] at e
        omega
  · rw [World.size_setCell]
    have := h.sz
    omega

theorem part_zero (L : List (Int × Int)) (j : Nat) (hj : j < L.length) : part L (List.replicate (sumR L) 0) j = List.replicate (at_ L j).2.toNat 0 := by
  have := off_room L j hj
  unfold part
  rw [List.drop_replicate, List.take_replicate]
  congr 1
  omega
theorem RN.ref {w : World} {rp lb cL : Nat} {L : List (Int × Int)} {s : Value} {D : Nat → Nat} (h : RN w rp lb cL L L.length s D) {base : Nat} (hb : base ≤ rp) (hok : okR (-1) 1048576 L = true) (h16 : L.length ≤ 16) :
    ∃ bb cB aB, (0 < L.length → base ≤ bb) ∧ IsRef w base rp lb bb cL cB aB D L (List.replicate (sumR L) 0) := by
  have hparts : ∀ j, j < L.length → w.heap[D j]? = some (.cells ((part L (List.replicate (sumR L) 0) j).map (Value.int .u8)).toArray 5 (0, 0)) := fun j hj => by
    rw [part_zero L j hj]
    exact h.parts j hj
  have hbytes : isBytes (List.replicate (sumR L) 0) := fun x hx => by
    rw [List.eq_of_mem_replicate hx]
    omega
  rcases h.own.2 with ⟨hs, h0⟩ | ⟨g, cap, cur, hs, hg, hh, hn, hm, hsz, ht⟩
  · refine ⟨0, 0, none, fun hp => by omega, h.o0, ?_, fun hp => by omega, h.regs, fun j hj => by omega, hparts, h.inj, fun j hj => by omega, hok, h16, by simp, hbytes⟩
    rw [h.o1, hs, h0]
  · refine ⟨g, cap, some ⟨g, 0, none⟩, fun _ => by omega, h.o0, ?_, fun _ => rfl, h.regs, fun j hj => ?_, hparts, h.inj, fun j hj => ?_, hok, h16, by simp, hbytes⟩
    · rw [h.o1, hs]
    · have hc := h.own.cells (g := g) (by rw [hs]; rfl) j (.slice (some ⟨D j, 0, none⟩) (at_ L j).2.toNat (at_ L j).2.toNat) (by simp [hj])
      rw [show (⟨g, 0, none⟩ : Addr).add j = ⟨g, j, none⟩ from by unfold Addr.add; split <;> simp_all] at hc
      exact hc
    · have hd := h.ne j hj
      have hlt := h.lt
      refine ⟨by omega, by omega, fun e => hd.2.2 ?_, by omega⟩
      rw [hs, e]
      rfl

set_option maxHeartbeats 4000000 in
theorem rnew_any (v : Value) (L : List (Int × Int)) (w : World) (hv : RegsAt w v L) (hu : isRegs L) (hok : okR (-1) 1048576 L = true) (h16 : L.length ≤ 16) (hcE : chkE L = 0) (hN : ∀ j, j < L.length → 0 ≤ (at_ L j).2 ∧ (at_ L j).2 ≤ 1048576) :
    Calls Try.prog 19 #[v] w fun e w' => ∃ rp lb bb cL cB aB D, e = .returned (.tuple #[.pointer (some ⟨rp, 0, none⟩), .int .i64 0]) ∧ (w.heap.size ≤ rp ∧ w.heap.size ≤ lb ∧ (0 < L.length → w.heap.size ≤ bb)) ∧ IsRef w' w.heap.size rp lb bb cL cB aB D L (List.replicate (sumR L) 0) ∧ Below w.heap.size w w' := by
  have hchk := rcheck_any v L w hv hu (by omega)
  rw [hcE] at hchk
  obtain ⟨i0, hi, hz0, hz1, hz2⟩ := info_parts rowBB
  have HI := hid_mk hi
  have HZ := hid_mk (And.intro hz0 (And.intro hz1 hz2))
  have HV := hid_mk hv
  have HOK := hid_mk hok
  have H16 := hid_mk h16
  have HN := hid_mk hN
  obtain ⟨va, vc, rfl⟩ := hv.len
  have h16i : (L.length : Int) ≤ 16 := by omega
  clear hi hz0 hz1 hz2 hv hok hcE hN hu
  go_enter Try.func19, Try.ntmps19
  go_wp2_with fail
  refine hchk.mono ?_
  rintro e w1 ⟨rfl, m, hm⟩
  have hb1 : Below w.heap.size w w1 := by rw [hm]; exact below_drewN _ _
  obtain ⟨lb, cL, w2, hrun, hregs, hlb1, hlb2, hb2⟩ := append_regs (.slice va L.length vc) L w1 (HV.out.below hb1) (by omega)
  have HR := hid_mk hrun
  have HB2 := hid_mk (below_then hb1 hb2)
  have hz1 := hb1.size
  have HRG := hid_mk hregs
  clear hchk hm hb2 hrun hregs
  go_wp2_with (at_builtin; refine wpList_append_run (v := .slice (some ⟨w1.heap.size, 0, none⟩) 0 0) (u := .slice va L.length vc) (v' := .slice (some ⟨lb, 0, none⟩) L.length cL) (w' := w2) rfl (.tmp 9) (.tmp 10) 29 rfl (by first | rfl | go_simp) (by first | rfl | go_simp) (HR.out _) ?_)
  obtain ⟨rp, hrp⟩ : ∃ rp, rp = w2.heap.size := ⟨_, rfl⟩
  obtain ⟨w3, hw3⟩ : ∃ w3, w3 = w2.alloc (.cells #[.slice (some ⟨lb, 0, none⟩) L.length cL, .slice none 0 0] 79) := ⟨_, rfl⟩
  have hRN : RN w3 rp lb cL L 0 (.slice none 0 0) (fun _ => 0) := by
    rw [hw3, hrp]
    refine ⟨by simp [go_sem], by simp [go_sem], by simp [go_sem], World.ownsRow_nil _ _ _ _, fun j hj => ?_, fun j hj => by omega, fun i j hi => by omega, fun j hj => by omega, hlb2, by rw [sizeA]; omega⟩
    have hal : Below w2.heap.size w2 (w2.alloc (.cells #[.slice (some ⟨lb, 0, none⟩) L.length cL, .slice none 0 0] 79)) := (Below.refl _ _).alloc (Nat.le_refl _) _
    exact ⟨(hal.cell (p := ⟨lb, j * 2, none⟩) hlb2).trans (HRG.out j hj).1, (hal.cell (p := ⟨lb, j * 2 + 1, none⟩) hlb2).trans (HRG.out j hj).2⟩
  have HRN := hid_mk hRN
  have hb3 : Below w.heap.size w w3 := by rw [hw3]; exact HB2.out.alloc HB2.out.size _
  have HB3 := hid_mk hb3
  have hrpb : w.heap.size ≤ rp := by rw [hrp]; exact HB2.out.size
  rw [← hrp, ← hw3]
  have hlbb : w.heap.size ≤ lb := Nat.le_trans hz1 hlb1
  clear hRN hb3 hw3 hrp hlb1 hlb2 hz1
  go_loopw [5] (fun i wr => ∃ (k : Nat) (s : Value) (D : Nat → Nat), k ≤ L.length ∧ i = .int .i64 k ∧ Hid (RN wr rp lb cL L k s D) ∧ Below w.heap.size w wr) (fun i _ => L.length - (intOf i).toNat)
  case atStart => exact ⟨0, _, _, Nat.zero_le _, rfl, HRN, HB3.out⟩
  case round =>
    obtain ⟨k, s, D, hk, rfl, hR, hbel⟩ := hrel
    by_cases hlt : k < L.length
    · rcases HV.out with ⟨_, hL⟩ | ⟨b, o, c, he, hb1, hb2, hb3⟩
      · rw [hL] at hlt
        simp at hlt
      cases he
      have hN := HN.out k hlt
      obtain ⟨n, hn⟩ : ∃ n : Nat, (at_ L k).2 = (n : Int) := ⟨(at_ L k).2.toNat, by omega⟩
      have hnt : (at_ L k).2.toNat = n := by omega
      have q1 := (hbel.cell (p := ⟨b, o + k * 2 + 1, none⟩) hb1).trans (hb3 k hlt).2
      rw [hn] at q1
      have hzr := hbel.size
      have hbz : b < wr.heap.size := by omega
      have hki : (k : Int) < (L.length : Int) := by omega
      have hmk := fun u => makeB u .u64 n (by omega)
      have o1 := hR.out.o1
      have f1 := hR.out.f1
      have hsz := hR.out.sz
      have hra : ∃ g2 c2 w4, (∀ ty, (Builtin.append_ #[77, 77] ty #[s, .slice (some ⟨wr.heap.size + 1, 0, none⟩) 1 1]).run Try.prog (((wr.alloc (.cells (bv (List.replicate n 0)) 5)).alloc (.cells #[.slice (some ⟨wr.heap.size, 0, none⟩) n n] 38)).drew) = .ok (.slice (some ⟨g2, 0, none⟩) (k + 1) c2) w4) ∧
          w4.cell? ⟨rp, 1, none⟩ = some s ∧ w4.frozen? ⟨rp, 1, none⟩ = false ∧ Hid (RN (w4.setCell ⟨rp, 1, none⟩ (.slice (some ⟨g2, 0, none⟩) (k + 1) c2)) rp lb cL L (k + 1) (.slice (some ⟨g2, 0, none⟩) (k + 1) c2) (fun j => if j = k then wr.heap.size else D j)) ∧ Hid (Below w.heap.size w w4) := by
        have hown := ((hR.out.own.alloc (.cells (bv (List.replicate n 0)) 5)).alloc (.cells #[.slice (some ⟨wr.heap.size, 0, none⟩) n n] 38)).drew
        have hW : (((wr.alloc (.cells (bv (List.replicate n 0)) 5)).alloc (.cells #[.slice (some ⟨wr.heap.size, 0, none⟩) n n] 38)).drew).heap.size = wr.heap.size + 1 + 1 := by
          show ((wr.alloc _).alloc _).heap.size = _
          rw [sizeA, sizeA]
        obtain ⟨v', w4, h1, h2, h3, _, h5⟩ := run_append_own_at (P := Try.prog) _ (rp + 1) 77 77 38 i0 _ 1 24 Try.underlying77 HI.out HZ.out.1 HZ.out.2.1 HZ.out.2.2 rfl (by decide) s _ _ hown ⟨wr.heap.size + 1, 0, none⟩ 1 1 [.slice (some ⟨wr.heap.size, 0, none⟩) n n] rfl (fun j u hu => by
          have hj : j = 0 := by
            have := (List.getElem?_eq_some_iff.1 hu).1
            simpa using this
          subst hj
          rw [show (⟨wr.heap.size + 1, 0, none⟩ : Addr).add 0 = ⟨wr.heap.size + 1, 0, none⟩ from by unfold Addr.add; split <;> simp_all]
          show ((wr.alloc _).alloc _).cell? _ = _
          rw [cellK (cs := [.slice (some ⟨wr.heap.size, 0, none⟩) n n]) (heap_alloc_at _ _ _ (sizeA _ _)) 0]
          exact hu) (fun u hu => by
          rw [List.mem_singleton] at hu
          subst hu
          rfl) (by simp [maxLen]; omega) (by omega) (by rw [hW]; omega)
        obtain ⟨g2, c2, rfl⟩ : ∃ g2 c2, v' = .slice (some ⟨g2, 0, none⟩) (k + 1) c2 := by
          rcases h2.2 with ⟨_, h0⟩ | ⟨g, cap, cur, he, _⟩
          · omega
          · exact ⟨g, cap, he⟩
        have hso : ∀ q, s.ownBlock = some q → rp + 1 ≤ q ∧ q < wr.heap.size := fun q hq => hR.out.own.lt q hq
        have hfar : w4.heap[rp]? = wr.heap[rp]? := by
          rw [h3.block rp (by rw [hW]; omega) (fun e => by have := hso _ e.symm; omega)]
          show ((wr.alloc _).alloc _).heap[rp]? = _
          rw [heap_alloc_old _ _ (by rw [sizeA]; omega), heap_alloc_old _ _ hsz]
        refine ⟨g2, c2, w4, fun ty => h1, (World.cell?_of_block hfar).trans o1, (World.frozen?_of_block hfar).trans f1, hid_mk (hR.out.step hlt hnt h2 h3 (by rw [hW] at h5; exact h5)), hid_mk ?_⟩
        have hq : Below w.heap.size w (((wr.alloc (.cells (bv (List.replicate n 0)) 5)).alloc (.cells #[.slice (some ⟨wr.heap.size, 0, none⟩) n n] 38)).drew) := ((hbel.alloc hzr _).alloc (by rw [sizeA]; omega) _).drew
        exact hq.trans (grown_below h3 (by rw [hW]; omega) (fun q hq => by have := hso q hq; omega))
      obtain ⟨g2, c2, w4, happ, c4, f4, HR4, HB4⟩ := hra
      clear hb3 hN hnt hn
      have HAP := hid_mk happ
      clear happ
      go_wp2_with fail
      go_region_law (refine step_append_run (v := s) (u := .slice (some ⟨wr.heap.size + 1, 0, none⟩) 1 1) (v' := .slice (some ⟨g2, 0, none⟩) (k + 1) c2) (w' := w4) rfl (.tmp 24) (.tmp 31) 77 rfl (by first | rfl | go_simp) (by first | rfl | go_simp) (HAP.out _) ?_)
      all_goals go_wp2_with fail
      all_goals go_roundw
      all_goals first
        | exact ⟨k + 1, _, _, by omega, by go_num, HR4, HB4.out.setCell (by omega) _⟩
        | (simp [intOf] <;> omega)
    · obtain rfl : k = L.length := by omega
      go_wp2_with fail
      go_ret2
      obtain ⟨bb, cB, aB, hbb, hI⟩ := hR.out.ref hrpb HOK.out H16.out
      exact ⟨rp, lb, bb, cL, cB, aB, D, rfl, ⟨hrpb, hlbb, hbb⟩, hI, hbel⟩
end Go.Proofs.Yteolnghnlfeakaa

/- A region that draws its order, by an outline: each operation's own step, wherever it comes up; what it leaves holds in every later world. No program in sight. -/
namespace Go.Proofs.Yteolnghnlfeakaa
open Go Go.RowKit
set_option linter.unusedVariables false

/-- what holds of a value in every later world -/
def Up (p : Value → World → Prop) : Prop := ∀ v w w', Below w.heap.size w w' → p v w → p v w'
theorem up_eq (c : Value) : Up (fun v _ => v = c) := fun _ _ _ _ h => h

section
variable {P : Program} {ops : Array Oper} {Q : Exit → Act → World → Prop} {a0 : Act} {S : World → Prop} {R : Nat → Value → World → Prop}

/-- what is known when some operations have come up -/
structure OInv (ops : Array Oper) (a0 : Act) (S : World → Prop) (R : Nat → Value → World → Prop) (listed : Array Bool) (a : Act) (w : World) : Prop where
  s : S w
  size : listed.size = ops.size
  tsize : a.tmps.size = a0.tmps.size
  dfr : a.defers = a0.defers
  old : ∀ k, (∀ i o, ops[i]? = some o → o.dst = some k → listed.getD i false = false) → a.tmps[k]? = a0.tmps[k]?
  new : ∀ i o d, ops[i]? = some o → o.dst = some d → listed.getD i false = true → R i (a.eval (.tmp d)) w

/-- an operation's step, wherever it comes up -/
def OStep (P : Program) (ops : Array Oper) (Q : Exit → Act → World → Prop) (a0 : Act) (S : World → Prop) (R : Nat → Value → World → Prop) (i : Nat) (o : Oper) : Prop :=
  ∀ listed a w, OInv ops a0 S R listed a w → (∀ e ∈ o.after, Region.binds .any e = true → listed.getD e.on false = true) →
    wpOp P ops Q i (fun a' w' => ∃ v, a' = a.put o.dst v ∧ R i v w' ∧ Below w.heap.size w w') a w

/-- each operation waits for earlier ones alone; each has a slot of its own, in the frame -/
def outB (ops : Array Oper) (n : Nat) : Bool :=
  (List.range ops.size).all fun i => match ops[i]? with
    | none => true
    | some o => (o.after.all fun e => decide (e.on < i)) && (match o.dst with | none => true | some d => decide (d < n) && (List.range i).all fun j => (ops[j]?).bind (·.dst) != some d)
theorem outB_spec {n : Nat} (h : outB ops n = true) {i : Nat} {o : Oper} (hi : ops[i]? = some o) :
    (∀ e ∈ o.after, e.on < i) ∧ ∀ d, o.dst = some d → d < n ∧ ∀ j oj, j < i → ops[j]? = some oj → oj.dst ≠ some d := by
  have hlt : i < ops.size := (Array.getElem?_eq_some_iff.1 hi).1
  have h1 := List.all_eq_true.1 h i (List.mem_range.2 hlt)
  simp only [hi, Bool.and_eq_true] at h1
  refine ⟨fun e he => by simpa using Array.all_eq_true_iff_forall_mem.1 h1.1 e he, fun d hd => ?_⟩
  have h2 := h1.2
  simp only [hd, Bool.and_eq_true, decide_eq_true_eq] at h2
  refine ⟨h2.1, fun j oj hj hoj hdj => ?_⟩
  have h3 := List.all_eq_true.1 h2.2 j (List.mem_range.2 hj)
  simp [hoj, hdj] at h3

theorem OInv.step (hok : outB ops a0.tmps.size = true) (hS : ∀ w w', Below w.heap.size w w' → S w → S w') (hR : ∀ i, Up (R i)) {listed : Array Bool} {a : Act} {w w' : World} {i : Nat} {o : Oper} {v : Value}
    (h : OInv ops a0 S R listed a w) (hi : ops[i]? = some o) (hv : R i v w') (hb : Below w.heap.size w w') : OInv ops a0 S R (listed.setIfInBounds i true) (a.put o.dst v) w' := by
  have hspec := outB_spec hok hi
  have hilt : i < ops.size := (Array.getElem?_eq_some_iff.1 hi).1
  have hset : (listed.setIfInBounds i true).getD i false = true := by
    have := h.size
    simp [show i < listed.size by omega]
  refine ⟨hS w w' hb h.s, by simpa using h.size, ?_, ?_, ?_, ?_⟩
  · have := h.tsize
    cases hd : o.dst <;> simp [Act.put, this]
  · rw [← h.dfr]
    cases hd : o.dst <;> rfl
  · intro k hk
    have hne : o.dst ≠ some k := fun e => by
      have := hk i o hi e
      rw [hset] at this
      cases this
    rw [← h.old k (fun j oj hj hdj => by
      by_cases hji : i = j
      · subst hji
        rw [hi] at hj
        cases hj
        exact absurd hdj hne
      · rw [← getD_set_ne false hji]
        exact hk j oj hj hdj)]
    cases hd : o.dst with
    | none => rfl
    | some d =>
      have : d ≠ k := fun e => hne (by rw [hd, e])
      simp [Act.put, Array.getElem?_setIfInBounds_ne this]
  · intro j oj d hj hd hl
    by_cases hji : i = j
    · subst hji
      rw [hi] at hj
      cases hj
      have hdl : d < a.tmps.size := by rw [h.tsize]; exact (hspec.2 d hd).1
      have e : (a.put o.dst v).eval (.tmp d) = v := by
        simp [hd, Act.put, Act.eval, hdl]
      rw [e]
      exact hv
    · rw [getD_set_ne false hji] at hl
      have hne : ∀ d', o.dst = some d' → Operand.tmp d ≠ Operand.tmp d' := fun d' hd' e => by
        cases e
        rcases Nat.lt_or_gt_of_ne hji with hlt | hgt
        · exact (((outB_spec hok hj).2 d hd).2 i o hlt hi) hd'
        · exact ((hspec.2 d hd').2 j oj hgt hj) hd
      rw [Act.eval_put hne]
      exact hR j _ w w' hb (h.new j oj d hj hd hl)

theorem all_listed {n : Nat} (hok : outB ops n = true) {listed : Array Bool} (hs : listed.size = ops.size) (hr : Region.ready .any ops listed = []) : ∀ i, i < ops.size → listed.getD i false = true := by
  intro i
  induction i using Nat.strongRecOn with
  | ind i ih =>
    intro hi
    cases hl : listed.getD i false with
    | true => rfl
    | false =>
      exfalso
      have ho : ops[i]? = some ops[i] := Array.getElem?_eq_getElem hi
      have hmem : i ∈ Region.ready .any ops listed := by
        rw [mem_ready]
        refine ⟨?_, ops[i], ho, fun e he _ => ?_⟩
        · have hil : i < listed.size := by omega
          simp [hil] at hl ⊢
          exact hl
        · have := (outB_spec hok ho).1 e he
          exact ih e.on this (by omega)
      rw [hr] at hmem
      cases hmem

/-- how many have not come up yet -/
def unl (n : Nat) (listed : Array Bool) : Nat := ((List.range n).filter fun i => !listed.getD i false).length
theorem filter_lt {α : Type} {p q : α → Bool} : ∀ {l : List α}, (∀ x ∈ l, q x = true → p x = true) → (∃ x ∈ l, p x = true ∧ q x = false) → (l.filter q).length < (l.filter p).length
  | [], _, ⟨x, hx, _⟩ => by cases hx
  | y :: l, h, hex => by
    have hle : (l.filter q).length ≤ (l.filter p).length := by
      clear hex
      induction l with
      | nil => simp
      | cons z l ih =>
        have ih' := ih (fun x hx => h x (by
          rcases List.mem_cons.1 hx with e | e
          · simp [e]
          · simp [e]))
        have hz := h z (by simp)
        cases hq : q z <;> cases hp : p z
        · simp [hq, hp]; exact ih'
        · simp [hq, hp]; omega
        · rw [hz hq] at hp; cases hp
        · simp [hq, hp]; exact ih'
    cases hq : q y <;> cases hp : p y
    · have hex' : ∃ x ∈ l, p x = true ∧ q x = false := by
        obtain ⟨x, hx, h1, h2⟩ := hex
        rcases List.mem_cons.1 hx with e | e
        · rw [e, hp] at h1; cases h1
        · exact ⟨x, e, h1, h2⟩
      have := filter_lt (l := l) (fun x hx => h x (by simp [hx])) hex'
      simp [hq, hp]; exact this
    · simp [hq, hp]; omega
    · have := h y (by simp) hq
      rw [this] at hp; cases hp
    · have hex' : ∃ x ∈ l, p x = true ∧ q x = false := by
        obtain ⟨x, hx, h1, h2⟩ := hex
        rcases List.mem_cons.1 hx with e | e
        · rw [e, hq] at h2; cases h2
        · exact ⟨x, e, h1, h2⟩
      have := filter_lt (l := l) (fun x hx => h x (by simp [hx])) hex'
      simp [hq, hp]; exact this
theorem unl_set {n i : Nat} {listed : Array Bool} (hn : listed.size = n) (hi : i < n) (hl : listed.getD i false = false) : unl n (listed.setIfInBounds i true) < unl n listed := by
  refine filter_lt (fun x hx h => ?_) ⟨i, List.mem_range.2 hi, by simp only [hl, Bool.not_false], ?_⟩
  · cases hx2 : listed.getD x false with
    | false => rfl
    | true =>
      rw [getD_set_true hx2] at h
      cases h
  · simp [show i < listed.size by omega]

theorem outline_any (hok : outB ops a0.tmps.size = true) (hS : ∀ w w', Below w.heap.size w w' → S w → S w') (hR : ∀ i, Up (R i))
    (hstep : ∀ i o, ops[i]? = some o → OStep P ops Q a0 S R i o) (hend : ∀ listed a w, OInv ops a0 S R listed a w → (∀ i, i < ops.size → listed.getD i false = true) → Q .normal a w) :
    ∀ (fuel : Nat) (listed : Array Bool) (a : Act) (w : World), unl ops.size listed ≤ fuel → OInv ops a0 S R listed a w → wpAny P .any ops Q fuel listed a w := by
  intro fuel
  induction fuel with
  | zero =>
    intro listed a w hu h
    have hnil : Region.ready .any ops listed = [] := by
      cases hr : Region.ready .any ops listed with
      | nil => rfl
      | cons i l =>
        exfalso
        have hm : i ∈ Region.ready .any ops listed := by rw [hr]; simp
        obtain ⟨h0, o, ho, _⟩ := mem_ready.1 hm
        have hlt : i < ops.size := (Array.getElem?_eq_some_iff.1 ho).1
        have hs := h.size
        have hl : listed.getD i false = false := by
          have : i < listed.size := by omega
          simp [this] at h0 ⊢
          exact h0
        have := unl_set hs hlt hl
        omega
    exact ⟨hnil, hend listed a w h (all_listed hok h.size hnil)⟩
  | succ fuel ih =>
    intro listed a w hu h
    refine ⟨fun hnil => hend listed a w h (all_listed hok h.size hnil), fun i hi => ?_⟩
    obtain ⟨h0, o, ho, hall⟩ := mem_ready.1 hi
    have hlt : i < ops.size := (Array.getElem?_eq_some_iff.1 ho).1
    have hs := h.size
    have hl : listed.getD i false = false := by
      have : i < listed.size := by omega
      simp [this] at h0 ⊢
      exact h0
    have hun := unl_set hs hlt hl
    refine wpOp_mono ?_ (hstep i o ho listed a w h hall)
    rintro a' w' ⟨v, rfl, hv, hb⟩
    exact ih _ _ _ (by omega) (h.step hok hS hR ho hv hb)

/-- a list's operations, each with its number -/
def OAll (f : Nat → Oper → Prop) : Nat → List Oper → Prop
  | _, [] => True
  | i, o :: r => f i o ∧ OAll f (i + 1) r
theorem OAll.at {f : Nat → Oper → Prop} : ∀ {l : List Oper} {k : Nat}, OAll f k l → ∀ i o, l[i]? = some o → f (k + i) o
  | [], _, _, i, o, h => by simp at h
  | x :: l, k, h, 0, o, ho => by
    simp at ho
    subst ho
    exact h.1
  | x :: l, k, h, i + 1, o, ho => by
    have := OAll.at h.2 i o (by simpa using ho)
    rw [show k + (i + 1) = k + 1 + i from by omega]
    exact this
/-- the assertions, as a list -/
def RL (l : List (Value → World → Prop)) (i : Nat) : Value → World → Prop := (l[i]?).getD (fun _ _ => True)
def AllUp : List (Value → World → Prop) → Prop
  | [] => True
  | p :: l => Up p ∧ AllUp l
theorem AllUp.at : ∀ {l : List (Value → World → Prop)}, AllUp l → ∀ i, Up (RL l i)
  | [], _, i => by simp [RL, Up]
  | p :: l, h, 0 => by simpa [RL] using h.1
  | p :: l, h, i + 1 => by
    have := AllUp.at h.2 i
    simpa [RL] using this

theorem start_inv (w : World) (n : Nat) (hn : ops.size = n) (hs : S w) : OInv ops a0 S R (Array.replicate n false) a0 w :=
  ⟨hs, by simp [hn], rfl, rfl, fun _ _ => rfl, fun i o d hi _ hl => by
    exfalso
    have hlt : i < ops.size := (Array.getElem?_eq_some_iff.1 hi).1
    simp [show i < n by omega] at hl⟩
/-- THE RULE -/
theorem wp_region_outl {id : Nat} {w : World} (l : List (Value → World → Prop)) (S : World → Prop) (hm : P.follows .mixedOrders = true) (hok : outB ops a0.tmps.size = true) (hl : AllUp l) (hS : ∀ w w', Below w.heap.size w w' → S w → S w') (hs : S w.drew)
    (hstep : OAll (OStep P ops Q a0 S (RL l)) 0 ops.toList) (hend : ∀ listed a w, OInv ops a0 S (RL l) listed a w → (∀ i, i < ops.size → listed.getD i false = true) → Q .normal a w) : (Code.region id ops true).wp P Q a0 w := by
  refine wp_region_any hm (outline_any hok hS (AllUp.at hl) (fun i o hi => ?_) hend ops.size _ _ _ ?_ (start_inv _ _ rfl hs))
  · have := OAll.at hstep i o (by simpa using hi)
    rw [Nat.zero_add] at this
    exact this
  · unfold unl
    exact Nat.le_trans (List.length_filter_le _ _) (by simp)

/-! ## the steps -/
def noDst (ops : Array Oper) (k : Nat) : Bool := ops.all fun o => o.dst != some k
theorem OInv.base {listed : Array Bool} {a : Act} {w : World} (h : OInv ops a0 S R listed a w) (k : Nat) (hk : noDst ops k = true) : a.eval (.tmp k) = a0.eval (.tmp k) := by
  have := h.old k (fun i o hi hd => by
    have := Array.all_eq_true_iff_forall_mem.1 hk o (Array.mem_of_getElem? hi)
    simp [hd] at this)
  simp only [Act.eval, Array.getD_eq_getD_getElem?, this]
def aft (o : Oper) (j : Nat) : Bool := o.after.any fun e => Region.binds .any e && e.on == j
theorem aft_of {o : Oper} {j : Nat} {listed : Array Bool} (hall : ∀ e ∈ o.after, Region.binds .any e = true → listed.getD e.on false = true) (h : aft o j = true) : listed.getD j false = true := by
  obtain ⟨e, he, hb⟩ := Array.any_eq_true'.1 h
  simp only [Bool.and_eq_true, beq_iff_eq] at hb
  rw [← hb.2]
  exact hall e he hb.1
theorem OInv.get {listed : Array Bool} {a : Act} {w : World} {o : Oper} (h : OInv ops a0 S R listed a w) (hall : ∀ e ∈ o.after, Region.binds .any e = true → listed.getD e.on false = true) (j d : Nat)
    (hj : (ops[j]?).bind (·.dst) = some d) (ha : aft o j = true) : R j (a.eval (.tmp d)) w := by
  cases ho : ops[j]? with
  | none => simp [ho] at hj
  | some oj =>
    simp [ho] at hj
    exact h.new j oj d ho hj (aft_of hall ha)
theorem OInv.fin {listed : Array Bool} {a : Act} {w : World} (h : OInv ops a0 S R listed a w) (j d : Nat) (hj : (ops[j]?).bind (·.dst) = some d) (hl : listed.getD j false = true) : R j (a.eval (.tmp d)) w := by
  cases ho : ops[j]? with
  | none => simp [ho] at hj
  | some oj =>
    simp [ho] at hj
    exact h.new j oj d ho hj hl
theorem wanted_none {o : Oper} {a : Act} (h : o.guard = none) : Region.wanted o (yielded ops a.tmps) = true := by simp [Region.wanted, h]
theorem wanted_some {o : Oper} {a : Act} {g d : Nat} {b : Bool} (h : o.guard = some (g, b)) (hg : (ops[g]?).bind (·.dst) = some d) (he : a.eval (.tmp d) = .bool b) : Region.wanted o (yielded ops a.tmps) = true := by
  have hs : a.tmps[d]? = some (.bool b) := by
    simp only [Act.eval, Array.getD_eq_getD_getElem?] at he
    cases hd : a.tmps[d]? with
    | none => rw [hd] at he; cases he
    | some x => rw [hd] at he; simpa using he
  simp [Region.wanted, h, yielded, hg, hs]
/-- an operation that leaves a value, and the world as it is -/
theorem ostep_val {i : Nat} {o : Oper} (v : Value) (hi : ops[i]? = some o)
    (h : ∀ listed a w, OInv ops a0 S R listed a w → (∀ e ∈ o.after, Region.binds .any e = true → listed.getD e.on false = true) → Region.wanted o (yielded ops a.tmps) = true ∧ (execOp a.eval o).run P w = .ok (.value v) w ∧ R i v w) : OStep P ops Q a0 S R i o := by
  intro listed a w hinv hall
  obtain ⟨h1, h2, h3⟩ := h listed a w hinv hall
  unfold wpOp
  simp only [hi, h1, if_true]
  refine Or.inl ?_
  unfold Oper.wp
  rw [h2]
  exact ⟨v, rfl, h3, Below.refl _ _⟩
/-- the same, the value left open -/
theorem ostep_ex {i : Nat} {o : Oper} (hi : ops[i]? = some o)
    (h : ∀ listed a w, OInv ops a0 S R listed a w → (∀ e ∈ o.after, Region.binds .any e = true → listed.getD e.on false = true) → Region.wanted o (yielded ops a.tmps) = true ∧ ∃ v, (execOp a.eval o).run P w = .ok (.value v) w ∧ R i v w) : OStep P ops Q a0 S R i o := by
  intro listed a w hinv hall
  obtain ⟨h1, v, h2, h3⟩ := h listed a w hinv hall
  unfold wpOp
  simp only [hi, h1, if_true]
  refine Or.inl ?_
  unfold Oper.wp
  rw [h2]
  exact ⟨v, rfl, h3, Below.refl _ _⟩
/-- a function with a body -/
def callB (P : Program) (f : Nat) : Bool := match P.funcs[f]? with | some fn => !(fn.name == "runtime.NumGoroutine") && fn.body.isSome | none => false
theorem run_callFunc_body {f : Nat} (h : callB P f = true) (args : Array Value) (w : World) : (callFunc f args).run P w = .ok (.enter f args) w := by
  unfold callB at h
  cases hf : P.funcs[f]? with
  | none => simp [hf] at h
  | some fn =>
    simp only [hf, Bool.and_eq_true, Bool.not_eq_true'] at h
    have h1 : ¬ fn.name = "runtime.NumGoroutine" := by simpa using h.1
    have h2 : ¬ fn.body = none := fun e => by simp [e] at h
    simp [callFunc, run_program, hf, h1, h2]
/-- a call -/
theorem ostep_call {i : Nat} {o : Oper} (f : Nat) (hcb : callB P f = true) (xs : Array Operand) (ts : Array TypeId) (hi : ops[i]? = some o) (ho : o.op = .call { callee := .value (.func f), args := xs, argTypes := ts })
    (h : ∀ listed a w, OInv ops a0 S R listed a w → (∀ e ∈ o.after, Region.binds .any e = true → listed.getD e.on false = true) → Region.wanted o (yielded ops a.tmps) = true ∧ ∃ vals, xs.map a.eval = vals ∧ Calls P f vals w fun e w' => ∃ v, e = .returned v ∧ R i v w' ∧ Below w.heap.size w w') : OStep P ops Q a0 S R i o := by
  intro listed a w hinv hall
  obtain ⟨h1, vals, h2, h3⟩ := h listed a w hinv hall
  unfold wpOp
  simp only [hi, h1, if_true]
  refine Or.inl ?_
  unfold Oper.wp execOp
  have hr : ((do let d ← resolve a.eval { callee := .value (.func f), args := xs, argTypes := ts } o.type; invoke d.target d.args : Sem Next)).run P w = .ok (.enter f vals) w := by
    rw [← h2]
    simp [resolve, Act.eval, Deferred.ofValue, invoke, run_callFunc_body hcb]
  simp only [ho, hr, Oper.upon]
  refine h3.mono ?_
  rintro e w' ⟨v, rfl, hv, hb⟩
  exact ⟨v, rfl, hv, hb⟩
end
end Go.Proofs.Yteolnghnlfeakaa
