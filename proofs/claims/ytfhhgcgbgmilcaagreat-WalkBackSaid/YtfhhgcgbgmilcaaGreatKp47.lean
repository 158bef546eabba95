/- Bh8 Bh3 Bh2: joined texts. Conditions: as each theorem names them. -/
import Derived.Test.YtfhhgcgbgmilcaaGreatKp46
import Derived.Test.YtfhhgcgbgmilcaaGreatKp44
import Derived.Test.YtfhhgcgbgmilcaaGreatKp22
/- build's chains of a packed ring and of tables. Conditions: as each theorem names them. Written by mkbh8.py. -/
namespace Go.Proofs.YtfhhgcgbgmilcaaGreat
open Go.ChangeShapes Go.WideShapes Go.ChangeAt Go.RowKit
set_option linter.unusedVariables false
set_option maxRecDepth 100000

/-- where a round's last region stands: the segment's box, the chain's box, old memory, the row -/
structure ChD (w : World) (bx cb db : Nat) (B C : List Value) (t tc t2 : TypeId) (W : World) : Prop where
  box : BlkAt W bx B t
  cbx : BlkAt W cb C tc
  old : Below w.heap.size w W
  res : ∃ C2, BlkAt W db C2 t2
theorem ChD.below {w W W' : World} {bx cb db : Nat} {B C : List Value} {t tc t2 : TypeId} (h : ChD w bx cb db B C t tc t2 W) (hb : Below W.heap.size W W') : ChD w bx cb db B C t tc t2 W' := by
  obtain ⟨C2, hr⟩ := h.res
  exact ⟨h.box.below hb, h.cbx.below hb, below_then h.old hb, C2, hr.below hb⟩
theorem ChD.put {w W W' : World} {bx cb db : Nat} {B C : List Value} {t tc t2 : TypeId} (h : ChD w bx cb db B C t tc t2 W) (hne : bx ≠ db) (hnc : cb ≠ db) (hw : w.heap.size ≤ db) (hp : PutC db W W') : ChD w bx cb db B C t tc t2 W' := by
  obtain ⟨L, rfl⟩ := hp
  induction L generalizing W with
  | nil => exact h
  | cons q L ih =>
    refine ih ?_
    obtain ⟨C2, hr⟩ := h.res
    exact ⟨h.box.other hne _, h.cbx.other hnc _, h.old.setCell hw _, _, hr.set q.1 q.2⟩
theorem up_row (db : Nat) (C : List Value) (t : TypeId) : Up (fun _ W => BlkAt W db C t) := fun _ _ _ hb h => h.below hb
theorem dD_at {L : List Dsc} {k : Nat} : L.getD k zD = dat L k := rfl
theorem stbL_at2 {L : List Sg} {k : Nat} (h : k < L.length) : dat (stbL L) k = ⟨(sat L k).a, (sat L k).n, (flgN (sat L k).t (nxB L k) : Nat), if nxB L k = true then (k : Int) + 1 else 0⟩ := by
  unfold stbL dat
  rw [List.getD_eq_getElem?_getD, List.getElem?_map]
  have h1 : (splL (numI L.length) L)[k]? = some (splD (numI L.length) L k) := by simp [splL, h]
  rw [h1]
  show (splD (numI L.length) L k).d = _
  unfold splD
  simp only
  congr 1
  by_cases hx : nxB L k = true
  · rw [if_pos hx, if_pos hx]
    have h2 : k + 1 < L.length := of_decide_eq_true hx
    simp [numI, List.getD, h2]
  · rw [if_neg hx, if_neg hx]
theorem ptbL_at2 {L : List Sg} {k : Nat} (h : k < L.length) : dat (ptbL L) k = ptbD L k := by simp [dat, ptbL, List.getD, h]
theorem meth_packed (n : Nat) (x : Value) (W : World) : (method (n + 1) 117 x "dumbwaiter/build.put").run Tryz.prog W = .ok (48, x) W := by kernel_rfl
set_option maxHeartbeats 4000000 in
theorem bchain2 (p n id : Int) (b : Bool) (u : Value) (L : List Sg) (w : World) (hu : SegsAt w u L) (h0 : 0 < L.length) (hl : L.length ≤ 1000) (hp : okP p n = true) (hfit : (L.length : Int) ≤ n) (hid : 0 ≤ id ∧ id < 32768) :
    Calls Tryz.prog 44 #[.agg #[.int .i64 p, .bool b, .int .i64 n, .int .i64 id], u] w fun e w' => e = .returned (.slice (some ⟨w.heap.size + 1, 0, none⟩) L.length L.length) ∧ BlkAt w' (w.heap.size + 1) (ptCells (pckL p n b id L)) 65 ∧ Below w.heap.size w w' := by
  rcases hu with ⟨_, rfl⟩ | ⟨ub, uo, uc, rfl, hu1, hu2, hu3⟩
  · simp at h0
  have hmk := fun W => makePutP W .i64 L.length (by omega)
  have HU := hid_mk hu3
  have HL := hid_mk hl
  have HS := hid_mk bsegpart
  have hlen := pckL_len p n b id L
  have HZ := hid_mk (rowS_zero zPt (pckL p n b id L))
  rw [hlen] at HZ
  have HST := hid_mk (fun k (h : k < L.length) => rowS_step (z := zPt) (X := pckL p n b id L) (k := k) (by rw [hlen]; exact h))
  have HRL := hid_mk (fun k (h : k ≤ L.length) => rowS_length (z := zPt) (X := pckL p n b id L) (k := k) (by rw [hlen]; exact h))
  rw [hlen] at HRL
  have HAL := hid_mk (rowS_all zPt (pckL p n b id L))
  rw [hlen] at HAL
  clear hu3 hlen hl
  have hl2 : (L.length : Int) ≤ 1000 := by have := HL.out; omega
  have HC0 : Hid (BlkAt (w.alloc (.cells #[.int .i64 p, .bool b, .int .i64 n, .int .i64 id] 117)) w.heap.size [.int .i64 p, .bool b, .int .i64 n, .int .i64 id] 117) := hid_mk (blk_new _ _ _)
  have HB0 : Hid (Below w.heap.size w (w.alloc (.cells #[.int .i64 p, .bool b, .int .i64 n, .int .i64 id] 117))) := hid_mk (below_box _ _)
  obtain ⟨cb, hcb⟩ : ∃ cb, w.heap.size = cb := ⟨_, rfl⟩
  obtain ⟨db, hdb⟩ : ∃ db, cb + 1 = db := ⟨_, rfl⟩
  have HDb : Hid (w.heap.size ≤ db) := hid_mk (by omega)
  have HNC : Hid (cb ≠ db) := hid_mk (by omega)
  rw [hcb] at HC0
  go_enter Tryz.func44, Tryz.ntmps44
  go_wp2_with fail
  go_loopw [6, 7, 13] (fun _ _ i wr => ∃ k : Nat, k ≤ L.length ∧ i = .int .i64 k ∧ Hid (BlkAt wr db (ptCells (rowS zPt (pckL p n b id L) k)) 65) ∧ Hid (BlkAt wr cb [.int .i64 p, .bool b, .int .i64 n, .int .i64 id] 117) ∧ Hid (Below w.heap.size w wr)) (fun _ _ i _ => L.length - (intOf i).toNat)
  case atStart => exact ⟨0, Nat.zero_le _, rfl, hid_mk (by rw [HZ.out, ← hdb, ← hcb]; exact (by have := blk_new (w.alloc (.cells #[.int .i64 p, .bool b, .int .i64 n, .int .i64 id] 117)) (ptCells (List.replicate L.length zPt)) 65; simpa using this)), hid_mk (HC0.out.below (below_box _ _)), hid_mk (HB0.out.alloc (by simp) _)⟩
  case round =>
    obtain ⟨k, hk, rfl, hrow, hcx, hold⟩ := hrel
    by_cases hlt : k < L.length
    · obtain ⟨c0, c1, c2⟩ := (HU.out k hlt).below hold.out hu1
      have hux : ub < wr.heap.size := Nat.lt_of_lt_of_le hu1 hold.out.size
      have hki : (k : Int) < (L.length : Int) := by omega
      have hnx : decide ((k : Int) < (L.length : Int) - 1) = nxB L k := by
        unfold nxB
        rw [decide_eq_decide]
        omega
      have hk6 : (k : Int) < 1000 := by omega
      have hk7 : k < 1000 := by have := HL.out; omega
      have HS1 := hid_mk (HS.out (sat L k) (nxB L k))
      have HP := hid_mk (fun W => bpcput p n id (sat L k).a (sat L k).n b k (flgN (sat L k).t (nxB L k)) W (flgN_lt _ _) hp (by omega) hid)
      have HX := hid_mk (HST.out k hlt)
      rw [ptD_at, pckL_at hlt] at HX
      unfold pckD at HX
      have HLen := hid_mk (HRL.out k hk)
      generalize (markN (flgN (sat L k).t (nxB L k)) (goW p k n b) false) = mf at *
      generalize (goA p k n) = ga at *
      generalize flgN (sat L k).t (nxB L k) = f at *
      generalize (sat L k).a = sa at *
      generalize (sat L k).n = sn at *
      generalize (sat L k).t = st at *
      generalize nxB L k = nx at *
      have hm := meth_packed
      have hws : w.heap.size ≤ wr.heap.size := hold.out.size
      have hdw : db < wr.heap.size := hrow.out.lt
      have HNE : Hid (wr.heap.size ≠ db) := hid_mk (by omega)
      have HES : Hid (ChD w wr.heap.size cb db [.int .u64 sa, .int .u32 sn, .bool st] [.int .i64 p, .bool b, .int .i64 n, .int .i64 id] 28 117 65 (wr.alloc (.cells #[.int .u64 sa, .int .u32 sn, .bool st] 28)).drew) := hid_mk ⟨(blk_new _ _ _).below (Below.refl _ _).drew, (hcx.out.below (below_box _ _)).below (Below.refl _ _).drew, (hold.out.alloc hold.out.size _).drew, _, (hrow.out.below (below_box _ _)).below (Below.refl _ _).drew⟩
      have HRW : Hid (BlkAt (wr.alloc (.cells #[.int .u64 sa, .int .u32 sn, .bool st] 28)).drew db (ptCells (rowS zPt (pckL p n b id L) k)) 65) := hid_mk ((hrow.out.below (below_box _ _)).below (Below.refl _ _).drew)
      clear HS hrow hcx hold hws hdw HZ HST HRL HAL
      go_wp2_with fail
      refine wp_region_outl3 4 [(14, PutC db)] [] [(14, fun W => BlkAt W db (ptCells (rowS zPt (pckL p n b id L) k)) 65)]
          [(fun v _ => v = .slice (some ⟨db, 0, none⟩) L.length L.length),
          (fun v _ => v = .int .i64 (k : Int)),
          (fun v _ => v = .agg #[.int .i64 p, .bool b, .int .i64 n, .int .i64 id]),
          (fun v _ => v = .iface 117 (.agg #[.int .i64 p, .bool b, .int .i64 n, .int .i64 id])),
          (fun v _ => v = .int .i64 (k : Int)),
          (fun v _ => v = .agg #[.int .u64 sa, .int .u32 sn, .bool st]),
          (fun v _ => v = .int .i64 (k : Int)),
          (fun v _ => v = .slice (some ⟨ub, uo, none⟩) L.length uc),
          (fun v _ => v = .int .i64 (L.length : Int)),
          (fun v _ => v = .int .i64 ((L.length : Int) - 1)),
          (fun v _ => v = .bool nx),
          (fun v _ => v = paV sa sn f),
          (fun v _ => v = pV ⟨ga, ⟨sa, sn, id, (mf : Nat)⟩⟩),
          (fun v _ => v = .pointer (some ⟨db, k * 5, none⟩)),
          (fun _ W => BlkAt W db (ptCells (rowS zPt (pckL p n b id L) (k + 1))) 65)]
          (ChD w wr.heap.size cb db [.int .u64 sa, .int .u32 sn, .bool st] [.int .i64 p, .bool b, .int .i64 n, .int .i64 id] 28 117 65) (by kernel_rfl) (by kernel_rfl) (by kernel_rfl) ?_ (fun u u' hb h => h.below hb) (HES.out) ?_ ?_ ?_ ?_ ?_
      · refine And.intro (up_eq _) ?_
        refine And.intro (up_eq _) ?_
        refine And.intro (up_eq _) ?_
        refine And.intro (up_eq _) ?_
        refine And.intro (up_eq _) ?_
        refine And.intro (up_eq _) ?_
        refine And.intro (up_eq _) ?_
        refine And.intro (up_eq _) ?_
        refine And.intro (up_eq _) ?_
        refine And.intro (up_eq _) ?_
        refine And.intro (up_eq _) ?_
        refine And.intro (up_eq _) ?_
        refine And.intro (up_eq _) ?_
        refine And.intro (up_eq _) ?_
        refine And.intro (up_row _ _ _) ?_
        trivial
      · refine And.intro (And.intro (fun u u' hb h => h.below hb) (fun p hp hne u u' ht h => absurd (by rw [List.mem_singleton] at hp; rw [hp]) hne)) ?_
        trivial
      · refine And.intro (HRW.out) ?_
        trivial
      · refine And.intro (And.intro ?_ (fun u u' hp h => h.put HNE.out HNC.out HDb.out hp)) ?_
        · refine And.intro (fun _ _ _ => ch_eq _ _) ?_
          refine And.intro (fun _ _ _ => ch_eq _ _) ?_
          refine And.intro (fun _ _ _ => ch_eq _ _) ?_
          refine And.intro (fun _ _ _ => ch_eq _ _) ?_
          refine And.intro (fun _ _ _ => ch_eq _ _) ?_
          refine And.intro (fun _ _ _ => ch_eq _ _) ?_
          refine And.intro (fun _ _ _ => ch_eq _ _) ?_
          refine And.intro (fun _ _ _ => ch_eq _ _) ?_
          refine And.intro (fun _ _ _ => ch_eq _ _) ?_
          refine And.intro (fun _ _ _ => ch_eq _ _) ?_
          refine And.intro (fun _ _ _ => ch_eq _ _) ?_
          refine And.intro (fun _ _ _ => ch_eq _ _) ?_
          refine And.intro (fun _ _ _ => ch_eq _ _) ?_
          refine And.intro (fun _ _ _ => ch_eq _ _) ?_
          refine And.intro (fun h _ _ => absurd rfl h) ?_
          trivial
        trivial
      · refine And.intro ?_ (And.intro ?_ (And.intro ?_ (And.intro ?_ (And.intro ?_ (And.intro ?_ (And.intro ?_ (And.intro ?_ (And.intro ?_ (And.intro ?_ (And.intro ?_ (And.intro ?_ (And.intro ?_ (And.intro ?_ (And.intro ?_ (True.intro)))))))))))))))
        · refine qstep_val (.slice (some ⟨db, 0, none⟩) L.length L.length) (by kernel_rfl) (by kernel_rfl) rfl (fun _ A1 W1 inv hnl hall => ⟨wanted_none rfl, ?_, rfl⟩)
          have h5 : A1.eval (.tmp 5) = .slice (some ⟨db, 0, none⟩) L.length L.length := (inv.base 5 (by kernel_rfl)).trans rfl
          simp only [execOp, h5, Sem.run_pure]
        · refine qstep_val (.int .i64 (k : Int)) (by kernel_rfl) (by kernel_rfl) rfl (fun _ A1 W1 inv hnl hall => ⟨wanted_none rfl, ?_, rfl⟩)
          have h6 : A1.eval (.tmp 6) = .int .i64 (k : Int) := (inv.base 6 (by kernel_rfl)).trans rfl
          simp only [execOp, h6, Sem.run_pure]
        · refine qstep_val (.agg #[.int .i64 p, .bool b, .int .i64 n, .int .i64 id]) (by kernel_rfl) (by kernel_rfl) rfl (fun _ A1 W1 inv hnl hall => ⟨wanted_none rfl, ?_, rfl⟩)
          have h2 : A1.eval (.tmp 2) = .pointer (some ⟨cb, 0, none⟩) := (inv.base 2 (by kernel_rfl)).trans rfl
          have g0 := inv.s.cbx.cell 0
          have g1 := inv.s.cbx.cell 1
          have g2 := inv.s.cbx.cell 2
          have g3 := inv.s.cbx.cell 3
          simp at g0 g1 g2 g3
          simp only [execOp, h2]
          simp [go_sem, g0, g1, g2, g3]
        · refine qstep_val (.iface 117 (.agg #[.int .i64 p, .bool b, .int .i64 n, .int .i64 id])) (by kernel_rfl) (by kernel_rfl) rfl (fun _ A1 W1 inv hnl hall => ⟨wanted_none rfl, ?_, rfl⟩)
          have h20 : A1.eval (.tmp 20) = .agg #[.int .i64 p, .bool b, .int .i64 n, .int .i64 id] := inv.get hall 2 20 (by kernel_rfl) (by kernel_rfl) rfl
          simp only [execOp, h20]
          rfl
        · refine qstep_val (.int .i64 (k : Int)) (by kernel_rfl) (by kernel_rfl) rfl (fun _ A1 W1 inv hnl hall => ⟨wanted_none rfl, ?_, rfl⟩)
          have h6 : A1.eval (.tmp 6) = .int .i64 (k : Int) := (inv.base 6 (by kernel_rfl)).trans rfl
          simp only [execOp, h6, Sem.run_pure]
        · refine qstep_val (.agg #[.int .u64 sa, .int .u32 sn, .bool st]) (by kernel_rfl) (by kernel_rfl) rfl (fun _ A1 W1 inv hnl hall => ⟨wanted_none rfl, ?_, rfl⟩)
          have h7 : A1.eval (.tmp 7) = .pointer (some ⟨wr.heap.size, 0, none⟩) := (inv.base 7 (by kernel_rfl)).trans rfl
          have g0 := inv.s.box.cell 0
          have g1 := inv.s.box.cell 1
          have g2 := inv.s.box.cell 2
          simp at g0 g1 g2
          simp only [execOp, h7]
          simp [go_sem, g0, g1, g2]
        · refine qstep_val (.int .i64 (k : Int)) (by kernel_rfl) (by kernel_rfl) rfl (fun _ A1 W1 inv hnl hall => ⟨wanted_none rfl, ?_, rfl⟩)
          have h6 : A1.eval (.tmp 6) = .int .i64 (k : Int) := (inv.base 6 (by kernel_rfl)).trans rfl
          simp only [execOp, h6, Sem.run_pure]
        · refine qstep_val (.slice (some ⟨ub, uo, none⟩) L.length uc) (by kernel_rfl) (by kernel_rfl) rfl (fun _ A1 W1 inv hnl hall => ⟨wanted_none rfl, ?_, rfl⟩)
          have h1 : A1.eval (.tmp 1) = .slice (some ⟨ub, uo, none⟩) L.length uc := (inv.base 1 (by kernel_rfl)).trans rfl
          simp only [execOp, h1, Sem.run_pure]
        · refine qstep_val (.int .i64 (L.length : Int)) (by kernel_rfl) (by kernel_rfl) rfl (fun _ A1 W1 inv hnl hall => ⟨wanted_none rfl, ?_, rfl⟩)
          have h25 : A1.eval (.tmp 25) = .slice (some ⟨ub, uo, none⟩) L.length uc := inv.get hall 7 25 (by kernel_rfl) (by kernel_rfl) rfl
          simp only [execOp]
          simp [resolve, invoke, builtin, h25, Result.andThen]
          simp [go_sem]
        · refine qstep_val (.int .i64 ((L.length : Int) - 1)) (by kernel_rfl) (by kernel_rfl) rfl (fun _ A1 W1 inv hnl hall => ⟨wanted_none rfl, ?_, rfl⟩)
          have h26 : A1.eval (.tmp 26) = .int .i64 (L.length : Int) := inv.get hall 8 26 (by kernel_rfl) (by kernel_rfl) rfl
          simp only [execOp, h26, eval_c2]
          have hw : IntKind.i64.wrap ((L.length : Int) - 1) = (L.length : Int) - 1 := IntWalk.i64_in _ (by have := HL.out; omega)
          simp [go_sem, hw]
        · refine qstep_val (.bool nx) (by kernel_rfl) (by kernel_rfl) rfl (fun _ A1 W1 inv hnl hall => ⟨wanted_none rfl, ?_, rfl⟩)
          have h24 : A1.eval (.tmp 24) = .int .i64 (k : Int) := inv.get hall 6 24 (by kernel_rfl) (by kernel_rfl) rfl
          have h27 : A1.eval (.tmp 27) = .int .i64 ((L.length : Int) - 1) := inv.get hall 9 27 (by kernel_rfl) (by kernel_rfl) rfl
          simp only [execOp, h24, h27]
          simp [go_sem, hnx]
        · refine qstep_call 62 (by kernel_rfl) _ _ (by kernel_rfl) (by kernel_rfl) rfl rfl (fun _ A1 W1 inv hnl hall => ⟨wanted_none rfl, #[.agg #[.int .u64 sa, .int .u32 sn, .bool st], .bool nx], ?_, ?_⟩)
          · have h23 : A1.eval (.tmp 23) = .agg #[.int .u64 sa, .int .u32 sn, .bool st] := inv.get hall 5 23 (by kernel_rfl) (by kernel_rfl) rfl
            have h28 : A1.eval (.tmp 28) = .bool nx := inv.get hall 10 28 (by kernel_rfl) (by kernel_rfl) rfl
            simp [h23, h28]
          · refine (HS1.out _).mono ?_
            rintro e u ⟨rfl, hb⟩
            exact ⟨_, rfl, rfl, hb⟩
        · refine qstep_inv 48 (by kernel_rfl) 21 _ _ _ (by kernel_rfl) (by kernel_rfl) rfl rfl (fun _ A1 W1 inv hnl hall => ⟨wanted_none rfl, 117, .agg #[.int .i64 p, .bool b, .int .i64 n, .int .i64 id], .agg #[.int .i64 p, .bool b, .int .i64 n, .int .i64 id], #[.int .i64 k, paV sa sn f], ?_, ?_, ?_, ?_⟩)
          · have h21 : A1.eval (.tmp 21) = .iface 117 (.agg #[.int .i64 p, .bool b, .int .i64 n, .int .i64 id]) := inv.get hall 3 21 (by kernel_rfl) (by kernel_rfl) rfl
            exact h21
          · exact hm _ _ _
          · have h22 : A1.eval (.tmp 22) = .int .i64 (k : Int) := inv.get hall 4 22 (by kernel_rfl) (by kernel_rfl) rfl
            have h29 : A1.eval (.tmp 29) = paV sa sn f := inv.get hall 11 29 (by kernel_rfl) (by kernel_rfl) rfl
            simp [h22, h29]
          · refine (HP.out _).mono ?_
            rintro e u ⟨rfl, hb⟩
            exact ⟨_, rfl, rfl, hb⟩
        · refine qstep_val (.pointer (some ⟨db, k * 5, none⟩)) (by kernel_rfl) (by kernel_rfl) rfl (fun _ A1 W1 inv hnl hall => ⟨wanted_none rfl, ?_, rfl⟩)
          have h18 : A1.eval (.tmp 18) = .slice (some ⟨db, 0, none⟩) L.length L.length := inv.get hall 0 18 (by kernel_rfl) (by kernel_rfl) rfl
          have h19 : A1.eval (.tmp 19) = .int .i64 (k : Int) := inv.get hall 1 19 (by kernel_rfl) (by kernel_rfl) rfl
          simp only [execOp, h18, h19]
          simp [go_sem, hlt]
        · refine qstep_skip (by kernel_rfl) (by kernel_rfl) rfl (fun _ A1 W1 inv hnl hall => ⟨wanted_none rfl, ?_⟩)
          have h31 : A1.eval (.tmp 31) = .pointer (some ⟨db, k * 5, none⟩) := inv.get hall 13 31 (by kernel_rfl) (by kernel_rfl) rfl
          have h30 : A1.eval (.tmp 30) = pV ⟨ga, ⟨sa, sn, id, (mf : Nat)⟩⟩ := inv.get hall 12 30 (by kernel_rfl) (by kernel_rfl) rfl
          have hrow := inv.pre1 (j := 14) hnl (List.mem_singleton.2 rfl) (Or.inl rfl)
          have hend := put_row5 ⟨ga, ⟨sa, sn, id, (mf : Nat)⟩⟩ hrow (k := k) (by rw [HLen.out]; exact hlt)
          rw [HX.out] at hend
          obtain ⟨⟨y0, y1, y2, y3, y4, hlt2, k0, k1, k2, k3, k4⟩, f0, f1, f2, f3, f4⟩ := row5 hrow (k := k) (by rw [HLen.out]; exact hlt)
          refine ⟨_, ?_, hend, ⟨[(_, _), (_, _), (_, _), (_, _), (_, _)], rfl⟩⟩
          simp only [execOp, h31, h30]
          simp [go_sem, k0, k1, k2, k3, k4, f0, f1, f2, f3, f4]
      · intro listed A1 W1 inv hall
        have e18 : A1.eval (.tmp 18) = .slice (some ⟨db, 0, none⟩) L.length L.length := inv.fin 0 18 (by kernel_rfl) (hall 0 (Nat.lt_of_lt_of_eq (by decide : 0 < 15) (by kernel_rfl))) rfl
        have e19 : A1.eval (.tmp 19) = .int .i64 (k : Int) := inv.fin 1 19 (by kernel_rfl) (hall 1 (Nat.lt_of_lt_of_eq (by decide : 1 < 15) (by kernel_rfl))) rfl
        have e20 : A1.eval (.tmp 20) = .agg #[.int .i64 p, .bool b, .int .i64 n, .int .i64 id] := inv.fin 2 20 (by kernel_rfl) (hall 2 (Nat.lt_of_lt_of_eq (by decide : 2 < 15) (by kernel_rfl))) rfl
        have e21 : A1.eval (.tmp 21) = .iface 117 (.agg #[.int .i64 p, .bool b, .int .i64 n, .int .i64 id]) := inv.fin 3 21 (by kernel_rfl) (hall 3 (Nat.lt_of_lt_of_eq (by decide : 3 < 15) (by kernel_rfl))) rfl
        have e22 : A1.eval (.tmp 22) = .int .i64 (k : Int) := inv.fin 4 22 (by kernel_rfl) (hall 4 (Nat.lt_of_lt_of_eq (by decide : 4 < 15) (by kernel_rfl))) rfl
        have e23 : A1.eval (.tmp 23) = .agg #[.int .u64 sa, .int .u32 sn, .bool st] := inv.fin 5 23 (by kernel_rfl) (hall 5 (Nat.lt_of_lt_of_eq (by decide : 5 < 15) (by kernel_rfl))) rfl
        have e24 : A1.eval (.tmp 24) = .int .i64 (k : Int) := inv.fin 6 24 (by kernel_rfl) (hall 6 (Nat.lt_of_lt_of_eq (by decide : 6 < 15) (by kernel_rfl))) rfl
        have e25 : A1.eval (.tmp 25) = .slice (some ⟨ub, uo, none⟩) L.length uc := inv.fin 7 25 (by kernel_rfl) (hall 7 (Nat.lt_of_lt_of_eq (by decide : 7 < 15) (by kernel_rfl))) rfl
        have e26 : A1.eval (.tmp 26) = .int .i64 (L.length : Int) := inv.fin 8 26 (by kernel_rfl) (hall 8 (Nat.lt_of_lt_of_eq (by decide : 8 < 15) (by kernel_rfl))) rfl
        have e27 : A1.eval (.tmp 27) = .int .i64 ((L.length : Int) - 1) := inv.fin 9 27 (by kernel_rfl) (hall 9 (Nat.lt_of_lt_of_eq (by decide : 9 < 15) (by kernel_rfl))) rfl
        have e28 : A1.eval (.tmp 28) = .bool nx := inv.fin 10 28 (by kernel_rfl) (hall 10 (Nat.lt_of_lt_of_eq (by decide : 10 < 15) (by kernel_rfl))) rfl
        have e29 : A1.eval (.tmp 29) = paV sa sn f := inv.fin 11 29 (by kernel_rfl) (hall 11 (Nat.lt_of_lt_of_eq (by decide : 11 < 15) (by kernel_rfl))) rfl
        have e30 : A1.eval (.tmp 30) = pV ⟨ga, ⟨sa, sn, id, (mf : Nat)⟩⟩ := inv.fin 12 30 (by kernel_rfl) (hall 12 (Nat.lt_of_lt_of_eq (by decide : 12 < 15) (by kernel_rfl))) rfl
        have e31 : A1.eval (.tmp 31) = .pointer (some ⟨db, k * 5, none⟩) := inv.fin 13 31 (by kernel_rfl) (hall 13 (Nat.lt_of_lt_of_eq (by decide : 13 < 15) (by kernel_rfl))) rfl
        have hst14 := inv.fin0 14 (by kernel_rfl) (hall 14 (Nat.lt_of_lt_of_eq (by decide : 14 < 15) (by kernel_rfl))) rfl
        have HF := inv.frame hall
        have HS9 := hid_mk inv.s
        simp only [putEnd, e18, e19, e20, e21, e22, e23, e24, e25, e26, e27, e28, e29, e30, e31, Act.put, List.setIfInBounds_toArray, List.set_cons_succ, List.set_cons_zero] at HF
        clear e18 e19 e20 e21 e22 e23 e24 e25 e26 e27 e28 e29 e30 e31 inv hall
        subst HF
        have HE9 := hid_mk hst14
        have HC9 := hid_mk HS9.out.cbx
        have HO9 := hid_mk HS9.out.old
        clear HS9 hst14
        go_wp2_with fail
        go_roundw
        case rel => exact ⟨k + 1, by omega, by simp, HE9, HC9, HO9⟩
        case measure => simp [intOf]; omega
    · obtain rfl : k = L.length := by omega
      have HR := hid_mk hrow.out
      rw [HAL.out] at HR
      go_wp2_with fail
      go_ret
      exact ⟨ret_eq (by rw [hcb, hdb]; rfl), by rw [hcb, hdb]; exact HR.out, hold.out⟩
theorem meth_stab (n : Nat) (x : Value) (W : World) : (method (n + 1) 106 x "dumbwaiter/build.put").run Tryz.prog W = .ok (133, x) W := by kernel_rfl
set_option maxHeartbeats 4000000 in
theorem bchain3 (u : Value) (L : List Sg) (w : World) (hu : SegsAt w u L) (h0 : 0 < L.length) (hl : L.length ≤ 1000) :
    Calls Tryz.prog 37 #[.agg #[], u] w fun e w' => e = .returned (.slice (some ⟨w.heap.size + 1, 0, none⟩) L.length L.length) ∧ BlkAt w' (w.heap.size + 1) (dCs (stbL L)) 44 ∧ Below w.heap.size w w' := by
  rcases hu with ⟨_, rfl⟩ | ⟨ub, uo, uc, rfl, hu1, hu2, hu3⟩
  · simp at h0
  have hmk := fun W => makeD W .i64 L.length (by omega)
  have HU := hid_mk hu3
  have HL := hid_mk hl
  have HS := hid_mk bsegpart
  have hlen := stbL_len L
  have HZ := hid_mk (rowS_zero zD (stbL L))
  rw [hlen] at HZ
  have HST := hid_mk (fun k (h : k < L.length) => rowS_step (z := zD) (X := stbL L) (k := k) (by rw [hlen]; exact h))
  have HRL := hid_mk (fun k (h : k ≤ L.length) => rowS_length (z := zD) (X := stbL L) (k := k) (by rw [hlen]; exact h))
  rw [hlen] at HRL
  have HAL := hid_mk (rowS_all zD (stbL L))
  rw [hlen] at HAL
  clear hu3 hlen hl
  have hl2 : (L.length : Int) ≤ 1000 := by have := HL.out; omega
  have HC0 : Hid (BlkAt (w.alloc (.cells #[] 106)) w.heap.size [] 106) := hid_mk (blk_new _ _ _)
  have HB0 : Hid (Below w.heap.size w (w.alloc (.cells #[] 106))) := hid_mk (below_box _ _)
  obtain ⟨cb, hcb⟩ : ∃ cb, w.heap.size = cb := ⟨_, rfl⟩
  obtain ⟨db, hdb⟩ : ∃ db, cb + 1 = db := ⟨_, rfl⟩
  have HDb : Hid (w.heap.size ≤ db) := hid_mk (by omega)
  have HNC : Hid (cb ≠ db) := hid_mk (by omega)
  rw [hcb] at HC0
  go_enter Tryz.func37, Tryz.ntmps37
  go_wp2_with fail
  go_loopw [6, 7, 13] (fun _ _ i wr => ∃ k : Nat, k ≤ L.length ∧ i = .int .i64 k ∧ Hid (BlkAt wr db (dCs (rowS zD (stbL L) k)) 44) ∧ Hid (BlkAt wr cb [] 106) ∧ Hid (Below w.heap.size w wr)) (fun _ _ i _ => L.length - (intOf i).toNat)
  case atStart => exact ⟨0, Nat.zero_le _, rfl, hid_mk (by rw [HZ.out, ← hdb, ← hcb]; exact (by have := blk_new (w.alloc (.cells #[] 106)) (dCs (List.replicate L.length zD)) 44; simpa using this)), hid_mk (HC0.out.below (below_box _ _)), hid_mk (HB0.out.alloc (by simp) _)⟩
  case round =>
    obtain ⟨k, hk, rfl, hrow, hcx, hold⟩ := hrel
    by_cases hlt : k < L.length
    · obtain ⟨c0, c1, c2⟩ := (HU.out k hlt).below hold.out hu1
      have hux : ub < wr.heap.size := Nat.lt_of_lt_of_le hu1 hold.out.size
      have hki : (k : Int) < (L.length : Int) := by omega
      have hnx : decide ((k : Int) < (L.length : Int) - 1) = nxB L k := by
        unfold nxB
        rw [decide_eq_decide]
        omega
      have hk6 : (k : Int) < 1000 := by omega
      have hk7 : k < 1000 := by have := HL.out; omega
      have HS1 := hid_mk (HS.out (sat L k) (nxB L k))
      have HP := hid_mk (fun W => bstput k (if nxB L k = true then (k : Int) + 1 else 0) (sat L k).a (sat L k).n (flgN (sat L k).t (nxB L k)) (nxB L k) W (by omega) (fun h => if_pos h) (fun h => if_neg (by rw [h]; decide)) (flg_next _ _))
      have HX := hid_mk (HST.out k hlt)
      rw [dD_at, stbL_at2 hlt] at HX
      have HLen := hid_mk (HRL.out k hk)
      generalize (if nxB L k = true then (k : Int) + 1 else 0) = x1 at *
      generalize flgN (sat L k).t (nxB L k) = f at *
      generalize (sat L k).a = sa at *
      generalize (sat L k).n = sn at *
      generalize (sat L k).t = st at *
      generalize nxB L k = nx at *
      have hm := meth_stab
      have hws : w.heap.size ≤ wr.heap.size := hold.out.size
      have hdw : db < wr.heap.size := hrow.out.lt
      have HNE : Hid (wr.heap.size ≠ db) := hid_mk (by omega)
      have HES : Hid (ChD w wr.heap.size cb db [.int .u64 sa, .int .u32 sn, .bool st] [] 28 106 44 (wr.alloc (.cells #[.int .u64 sa, .int .u32 sn, .bool st] 28)).drew) := hid_mk ⟨(blk_new _ _ _).below (Below.refl _ _).drew, (hcx.out.below (below_box _ _)).below (Below.refl _ _).drew, (hold.out.alloc hold.out.size _).drew, _, (hrow.out.below (below_box _ _)).below (Below.refl _ _).drew⟩
      have HRW : Hid (BlkAt (wr.alloc (.cells #[.int .u64 sa, .int .u32 sn, .bool st] 28)).drew db (dCs (rowS zD (stbL L) k)) 44) := hid_mk ((hrow.out.below (below_box _ _)).below (Below.refl _ _).drew)
      clear HS hrow hcx hold hws hdw HZ HST HRL HAL
      go_wp2_with fail
      refine wp_region_outl3 4 [(14, PutC db)] [] [(14, fun W => BlkAt W db (dCs (rowS zD (stbL L) k)) 44)]
          [(fun v _ => v = .slice (some ⟨db, 0, none⟩) L.length L.length),
          (fun v _ => v = .int .i64 (k : Int)),
          (fun v _ => v = .agg #[]),
          (fun v _ => v = .iface 106 (.agg #[])),
          (fun v _ => v = .int .i64 (k : Int)),
          (fun v _ => v = .agg #[.int .u64 sa, .int .u32 sn, .bool st]),
          (fun v _ => v = .int .i64 (k : Int)),
          (fun v _ => v = .slice (some ⟨ub, uo, none⟩) L.length uc),
          (fun v _ => v = .int .i64 (L.length : Int)),
          (fun v _ => v = .int .i64 ((L.length : Int) - 1)),
          (fun v _ => v = .bool nx),
          (fun v _ => v = paV sa sn f),
          (fun v _ => v = dV ⟨sa, sn, f, x1⟩),
          (fun v _ => v = .pointer (some ⟨db, k * 4, none⟩)),
          (fun _ W => BlkAt W db (dCs (rowS zD (stbL L) (k + 1))) 44)]
          (ChD w wr.heap.size cb db [.int .u64 sa, .int .u32 sn, .bool st] [] 28 106 44) (by kernel_rfl) (by kernel_rfl) (by kernel_rfl) ?_ (fun u u' hb h => h.below hb) (HES.out) ?_ ?_ ?_ ?_ ?_
      · refine And.intro (up_eq _) ?_
        refine And.intro (up_eq _) ?_
        refine And.intro (up_eq _) ?_
        refine And.intro (up_eq _) ?_
        refine And.intro (up_eq _) ?_
        refine And.intro (up_eq _) ?_
        refine And.intro (up_eq _) ?_
        refine And.intro (up_eq _) ?_
        refine And.intro (up_eq _) ?_
        refine And.intro (up_eq _) ?_
        refine And.intro (up_eq _) ?_
        refine And.intro (up_eq _) ?_
        refine And.intro (up_eq _) ?_
        refine And.intro (up_eq _) ?_
        refine And.intro (up_row _ _ _) ?_
        trivial
      · refine And.intro (And.intro (fun u u' hb h => h.below hb) (fun p hp hne u u' ht h => absurd (by rw [List.mem_singleton] at hp; rw [hp]) hne)) ?_
        trivial
      · refine And.intro (HRW.out) ?_
        trivial
      · refine And.intro (And.intro ?_ (fun u u' hp h => h.put HNE.out HNC.out HDb.out hp)) ?_
        · refine And.intro (fun _ _ _ => ch_eq _ _) ?_
          refine And.intro (fun _ _ _ => ch_eq _ _) ?_
          refine And.intro (fun _ _ _ => ch_eq _ _) ?_
          refine And.intro (fun _ _ _ => ch_eq _ _) ?_
          refine And.intro (fun _ _ _ => ch_eq _ _) ?_
          refine And.intro (fun _ _ _ => ch_eq _ _) ?_
          refine And.intro (fun _ _ _ => ch_eq _ _) ?_
          refine And.intro (fun _ _ _ => ch_eq _ _) ?_
          refine And.intro (fun _ _ _ => ch_eq _ _) ?_
          refine And.intro (fun _ _ _ => ch_eq _ _) ?_
          refine And.intro (fun _ _ _ => ch_eq _ _) ?_
          refine And.intro (fun _ _ _ => ch_eq _ _) ?_
          refine And.intro (fun _ _ _ => ch_eq _ _) ?_
          refine And.intro (fun _ _ _ => ch_eq _ _) ?_
          refine And.intro (fun h _ _ => absurd rfl h) ?_
          trivial
        trivial
      · refine And.intro ?_ (And.intro ?_ (And.intro ?_ (And.intro ?_ (And.intro ?_ (And.intro ?_ (And.intro ?_ (And.intro ?_ (And.intro ?_ (And.intro ?_ (And.intro ?_ (And.intro ?_ (And.intro ?_ (And.intro ?_ (And.intro ?_ (True.intro)))))))))))))))
        · refine qstep_val (.slice (some ⟨db, 0, none⟩) L.length L.length) (by kernel_rfl) (by kernel_rfl) rfl (fun _ A1 W1 inv hnl hall => ⟨wanted_none rfl, ?_, rfl⟩)
          have h5 : A1.eval (.tmp 5) = .slice (some ⟨db, 0, none⟩) L.length L.length := (inv.base 5 (by kernel_rfl)).trans rfl
          simp only [execOp, h5, Sem.run_pure]
        · refine qstep_val (.int .i64 (k : Int)) (by kernel_rfl) (by kernel_rfl) rfl (fun _ A1 W1 inv hnl hall => ⟨wanted_none rfl, ?_, rfl⟩)
          have h6 : A1.eval (.tmp 6) = .int .i64 (k : Int) := (inv.base 6 (by kernel_rfl)).trans rfl
          simp only [execOp, h6, Sem.run_pure]
        · refine qstep_val (.agg #[]) (by kernel_rfl) (by kernel_rfl) rfl (fun _ A1 W1 inv hnl hall => ⟨wanted_none rfl, ?_, rfl⟩)
          have h2 : A1.eval (.tmp 2) = .pointer (some ⟨cb, 0, none⟩) := (inv.base 2 (by kernel_rfl)).trans rfl
          simp only [execOp, h2]
          simp [go_sem]
        · refine qstep_val (.iface 106 (.agg #[])) (by kernel_rfl) (by kernel_rfl) rfl (fun _ A1 W1 inv hnl hall => ⟨wanted_none rfl, ?_, rfl⟩)
          have h20 : A1.eval (.tmp 20) = .agg #[] := inv.get hall 2 20 (by kernel_rfl) (by kernel_rfl) rfl
          simp only [execOp, h20]
          rfl
        · refine qstep_val (.int .i64 (k : Int)) (by kernel_rfl) (by kernel_rfl) rfl (fun _ A1 W1 inv hnl hall => ⟨wanted_none rfl, ?_, rfl⟩)
          have h6 : A1.eval (.tmp 6) = .int .i64 (k : Int) := (inv.base 6 (by kernel_rfl)).trans rfl
          simp only [execOp, h6, Sem.run_pure]
        · refine qstep_val (.agg #[.int .u64 sa, .int .u32 sn, .bool st]) (by kernel_rfl) (by kernel_rfl) rfl (fun _ A1 W1 inv hnl hall => ⟨wanted_none rfl, ?_, rfl⟩)
          have h7 : A1.eval (.tmp 7) = .pointer (some ⟨wr.heap.size, 0, none⟩) := (inv.base 7 (by kernel_rfl)).trans rfl
          have g0 := inv.s.box.cell 0
          have g1 := inv.s.box.cell 1
          have g2 := inv.s.box.cell 2
          simp at g0 g1 g2
          simp only [execOp, h7]
          simp [go_sem, g0, g1, g2]
        · refine qstep_val (.int .i64 (k : Int)) (by kernel_rfl) (by kernel_rfl) rfl (fun _ A1 W1 inv hnl hall => ⟨wanted_none rfl, ?_, rfl⟩)
          have h6 : A1.eval (.tmp 6) = .int .i64 (k : Int) := (inv.base 6 (by kernel_rfl)).trans rfl
          simp only [execOp, h6, Sem.run_pure]
        · refine qstep_val (.slice (some ⟨ub, uo, none⟩) L.length uc) (by kernel_rfl) (by kernel_rfl) rfl (fun _ A1 W1 inv hnl hall => ⟨wanted_none rfl, ?_, rfl⟩)
          have h1 : A1.eval (.tmp 1) = .slice (some ⟨ub, uo, none⟩) L.length uc := (inv.base 1 (by kernel_rfl)).trans rfl
          simp only [execOp, h1, Sem.run_pure]
        · refine qstep_val (.int .i64 (L.length : Int)) (by kernel_rfl) (by kernel_rfl) rfl (fun _ A1 W1 inv hnl hall => ⟨wanted_none rfl, ?_, rfl⟩)
          have h25 : A1.eval (.tmp 25) = .slice (some ⟨ub, uo, none⟩) L.length uc := inv.get hall 7 25 (by kernel_rfl) (by kernel_rfl) rfl
          simp only [execOp]
          simp [resolve, invoke, builtin, h25, Result.andThen]
          simp [go_sem]
        · refine qstep_val (.int .i64 ((L.length : Int) - 1)) (by kernel_rfl) (by kernel_rfl) rfl (fun _ A1 W1 inv hnl hall => ⟨wanted_none rfl, ?_, rfl⟩)
          have h26 : A1.eval (.tmp 26) = .int .i64 (L.length : Int) := inv.get hall 8 26 (by kernel_rfl) (by kernel_rfl) rfl
          simp only [execOp, h26, eval_c2]
          have hw : IntKind.i64.wrap ((L.length : Int) - 1) = (L.length : Int) - 1 := IntWalk.i64_in _ (by have := HL.out; omega)
          simp [go_sem, hw]
        · refine qstep_val (.bool nx) (by kernel_rfl) (by kernel_rfl) rfl (fun _ A1 W1 inv hnl hall => ⟨wanted_none rfl, ?_, rfl⟩)
          have h24 : A1.eval (.tmp 24) = .int .i64 (k : Int) := inv.get hall 6 24 (by kernel_rfl) (by kernel_rfl) rfl
          have h27 : A1.eval (.tmp 27) = .int .i64 ((L.length : Int) - 1) := inv.get hall 9 27 (by kernel_rfl) (by kernel_rfl) rfl
          simp only [execOp, h24, h27]
          simp [go_sem, hnx]
        · refine qstep_call 62 (by kernel_rfl) _ _ (by kernel_rfl) (by kernel_rfl) rfl rfl (fun _ A1 W1 inv hnl hall => ⟨wanted_none rfl, #[.agg #[.int .u64 sa, .int .u32 sn, .bool st], .bool nx], ?_, ?_⟩)
          · have h23 : A1.eval (.tmp 23) = .agg #[.int .u64 sa, .int .u32 sn, .bool st] := inv.get hall 5 23 (by kernel_rfl) (by kernel_rfl) rfl
            have h28 : A1.eval (.tmp 28) = .bool nx := inv.get hall 10 28 (by kernel_rfl) (by kernel_rfl) rfl
            simp [h23, h28]
          · refine (HS1.out _).mono ?_
            rintro e u ⟨rfl, hb⟩
            exact ⟨_, rfl, rfl, hb⟩
        · refine qstep_inv 133 (by kernel_rfl) 21 _ _ _ (by kernel_rfl) (by kernel_rfl) rfl rfl (fun _ A1 W1 inv hnl hall => ⟨wanted_none rfl, 106, .agg #[], .agg #[], #[.int .i64 k, paV sa sn f], ?_, ?_, ?_, ?_⟩)
          · have h21 : A1.eval (.tmp 21) = .iface 106 (.agg #[]) := inv.get hall 3 21 (by kernel_rfl) (by kernel_rfl) rfl
            exact h21
          · exact hm _ _ _
          · have h22 : A1.eval (.tmp 22) = .int .i64 (k : Int) := inv.get hall 4 22 (by kernel_rfl) (by kernel_rfl) rfl
            have h29 : A1.eval (.tmp 29) = paV sa sn f := inv.get hall 11 29 (by kernel_rfl) (by kernel_rfl) rfl
            simp [h22, h29]
          · refine (HP.out _).mono ?_
            rintro e u ⟨rfl, hb⟩
            exact ⟨_, rfl, rfl, hb⟩
        · refine qstep_val (.pointer (some ⟨db, k * 4, none⟩)) (by kernel_rfl) (by kernel_rfl) rfl (fun _ A1 W1 inv hnl hall => ⟨wanted_none rfl, ?_, rfl⟩)
          have h18 : A1.eval (.tmp 18) = .slice (some ⟨db, 0, none⟩) L.length L.length := inv.get hall 0 18 (by kernel_rfl) (by kernel_rfl) rfl
          have h19 : A1.eval (.tmp 19) = .int .i64 (k : Int) := inv.get hall 1 19 (by kernel_rfl) (by kernel_rfl) rfl
          simp only [execOp, h18, h19]
          simp [go_sem, hlt]
        · refine qstep_skip (by kernel_rfl) (by kernel_rfl) rfl (fun _ A1 W1 inv hnl hall => ⟨wanted_none rfl, ?_⟩)
          have h31 : A1.eval (.tmp 31) = .pointer (some ⟨db, k * 4, none⟩) := inv.get hall 13 31 (by kernel_rfl) (by kernel_rfl) rfl
          have h30 : A1.eval (.tmp 30) = dV ⟨sa, sn, f, x1⟩ := inv.get hall 12 30 (by kernel_rfl) (by kernel_rfl) rfl
          have hrow := inv.pre1 (j := 14) hnl (List.mem_singleton.2 rfl) (Or.inl rfl)
          have hend := put_row4 ⟨sa, sn, f, x1⟩ hrow (k := k) (by rw [HLen.out]; exact hlt)
          rw [HX.out] at hend
          obtain ⟨⟨y0, y1, y2, y3, hlt2, k0, k1, k2, k3⟩, f0, f1, f2, f3⟩ := row4 hrow (k := k) (by rw [HLen.out]; exact hlt)
          refine ⟨_, ?_, hend, ⟨[(_, _), (_, _), (_, _), (_, _)], rfl⟩⟩
          simp only [execOp, h31, h30]
          simp [go_sem, k0, k1, k2, k3, f0, f1, f2, f3]
      · intro listed A1 W1 inv hall
        have e18 : A1.eval (.tmp 18) = .slice (some ⟨db, 0, none⟩) L.length L.length := inv.fin 0 18 (by kernel_rfl) (hall 0 (Nat.lt_of_lt_of_eq (by decide : 0 < 15) (by kernel_rfl))) rfl
        have e19 : A1.eval (.tmp 19) = .int .i64 (k : Int) := inv.fin 1 19 (by kernel_rfl) (hall 1 (Nat.lt_of_lt_of_eq (by decide : 1 < 15) (by kernel_rfl))) rfl
        have e20 : A1.eval (.tmp 20) = .agg #[] := inv.fin 2 20 (by kernel_rfl) (hall 2 (Nat.lt_of_lt_of_eq (by decide : 2 < 15) (by kernel_rfl))) rfl
        have e21 : A1.eval (.tmp 21) = .iface 106 (.agg #[]) := inv.fin 3 21 (by kernel_rfl) (hall 3 (Nat.lt_of_lt_of_eq (by decide : 3 < 15) (by kernel_rfl))) rfl
        have e22 : A1.eval (.tmp 22) = .int .i64 (k : Int) := inv.fin 4 22 (by kernel_rfl) (hall 4 (Nat.lt_of_lt_of_eq (by decide : 4 < 15) (by kernel_rfl))) rfl
        have e23 : A1.eval (.tmp 23) = .agg #[.int .u64 sa, .int .u32 sn, .bool st] := inv.fin 5 23 (by kernel_rfl) (hall 5 (Nat.lt_of_lt_of_eq (by decide : 5 < 15) (by kernel_rfl))) rfl
        have e24 : A1.eval (.tmp 24) = .int .i64 (k : Int) := inv.fin 6 24 (by kernel_rfl) (hall 6 (Nat.lt_of_lt_of_eq (by decide : 6 < 15) (by kernel_rfl))) rfl
        have e25 : A1.eval (.tmp 25) = .slice (some ⟨ub, uo, none⟩) L.length uc := inv.fin 7 25 (by kernel_rfl) (hall 7 (Nat.lt_of_lt_of_eq (by decide : 7 < 15) (by kernel_rfl))) rfl
        have e26 : A1.eval (.tmp 26) = .int .i64 (L.length : Int) := inv.fin 8 26 (by kernel_rfl) (hall 8 (Nat.lt_of_lt_of_eq (by decide : 8 < 15) (by kernel_rfl))) rfl
        have e27 : A1.eval (.tmp 27) = .int .i64 ((L.length : Int) - 1) := inv.fin 9 27 (by kernel_rfl) (hall 9 (Nat.lt_of_lt_of_eq (by decide : 9 < 15) (by kernel_rfl))) rfl
        have e28 : A1.eval (.tmp 28) = .bool nx := inv.fin 10 28 (by kernel_rfl) (hall 10 (Nat.lt_of_lt_of_eq (by decide : 10 < 15) (by kernel_rfl))) rfl
        have e29 : A1.eval (.tmp 29) = paV sa sn f := inv.fin 11 29 (by kernel_rfl) (hall 11 (Nat.lt_of_lt_of_eq (by decide : 11 < 15) (by kernel_rfl))) rfl
        have e30 : A1.eval (.tmp 30) = dV ⟨sa, sn, f, x1⟩ := inv.fin 12 30 (by kernel_rfl) (hall 12 (Nat.lt_of_lt_of_eq (by decide : 12 < 15) (by kernel_rfl))) rfl
        have e31 : A1.eval (.tmp 31) = .pointer (some ⟨db, k * 4, none⟩) := inv.fin 13 31 (by kernel_rfl) (hall 13 (Nat.lt_of_lt_of_eq (by decide : 13 < 15) (by kernel_rfl))) rfl
        have hst14 := inv.fin0 14 (by kernel_rfl) (hall 14 (Nat.lt_of_lt_of_eq (by decide : 14 < 15) (by kernel_rfl))) rfl
        have HF := inv.frame hall
        have HS9 := hid_mk inv.s
        simp only [putEnd, e18, e19, e20, e21, e22, e23, e24, e25, e26, e27, e28, e29, e30, e31, Act.put, List.setIfInBounds_toArray, List.set_cons_succ, List.set_cons_zero] at HF
        clear e18 e19 e20 e21 e22 e23 e24 e25 e26 e27 e28 e29 e30 e31 inv hall
        subst HF
        have HE9 := hid_mk hst14
        have HC9 := hid_mk HS9.out.cbx
        have HO9 := hid_mk HS9.out.old
        clear HS9 hst14
        go_wp2_with fail
        go_roundw
        case rel => exact ⟨k + 1, by omega, by simp, HE9, HC9, HO9⟩
        case measure => simp [intOf]; omega
    · obtain rfl : k = L.length := by omega
      have HR := hid_mk hrow.out
      rw [HAL.out] at HR
      go_wp2_with fail
      go_ret
      exact ⟨ret_eq (by rw [hcb, hdb]; rfl), by rw [hcb, hdb]; exact HR.out, hold.out⟩
theorem meth_ptab (n : Nat) (x : Value) (W : World) : (method (n + 1) 121 x "dumbwaiter/build.put").run Tryz.prog W = .ok (134, x) W := by kernel_rfl
set_option maxHeartbeats 4000000 in
theorem bchain4 (u : Value) (L : List Sg) (w : World) (hu : SegsAt w u L) (h0 : 0 < L.length) (hl : L.length ≤ 1000) :
    Calls Tryz.prog 46 #[.agg #[], u] w fun e w' => e = .returned (.slice (some ⟨w.heap.size + 1, 0, none⟩) L.length L.length) ∧ BlkAt w' (w.heap.size + 1) (dCs (ptbL L)) 63 ∧ Below w.heap.size w w' := by
  rcases hu with ⟨_, rfl⟩ | ⟨ub, uo, uc, rfl, hu1, hu2, hu3⟩
  · simp at h0
  have hmk := fun W => makePacked W .i64 L.length (by omega)
  have HU := hid_mk hu3
  have HL := hid_mk hl
  have HS := hid_mk bsegpart
  have hlen := ptbL_len L
  have HZ := hid_mk (rowS_zero zD (ptbL L))
  rw [hlen] at HZ
  have HST := hid_mk (fun k (h : k < L.length) => rowS_step (z := zD) (X := ptbL L) (k := k) (by rw [hlen]; exact h))
  have HRL := hid_mk (fun k (h : k ≤ L.length) => rowS_length (z := zD) (X := ptbL L) (k := k) (by rw [hlen]; exact h))
  rw [hlen] at HRL
  have HAL := hid_mk (rowS_all zD (ptbL L))
  rw [hlen] at HAL
  clear hu3 hlen hl
  have hl2 : (L.length : Int) ≤ 1000 := by have := HL.out; omega
  have HC0 : Hid (BlkAt (w.alloc (.cells #[] 121)) w.heap.size [] 121) := hid_mk (blk_new _ _ _)
  have HB0 : Hid (Below w.heap.size w (w.alloc (.cells #[] 121))) := hid_mk (below_box _ _)
  obtain ⟨cb, hcb⟩ : ∃ cb, w.heap.size = cb := ⟨_, rfl⟩
  obtain ⟨db, hdb⟩ : ∃ db, cb + 1 = db := ⟨_, rfl⟩
  have HDb : Hid (w.heap.size ≤ db) := hid_mk (by omega)
  have HNC : Hid (cb ≠ db) := hid_mk (by omega)
  rw [hcb] at HC0
  go_enter Tryz.func46, Tryz.ntmps46
  go_wp2_with fail
  go_loopw [6, 7, 13] (fun _ _ i wr => ∃ k : Nat, k ≤ L.length ∧ i = .int .i64 k ∧ Hid (BlkAt wr db (dCs (rowS zD (ptbL L) k)) 63) ∧ Hid (BlkAt wr cb [] 121) ∧ Hid (Below w.heap.size w wr)) (fun _ _ i _ => L.length - (intOf i).toNat)
  case atStart => exact ⟨0, Nat.zero_le _, rfl, hid_mk (by rw [HZ.out, ← hdb, ← hcb]; exact (by have := blk_new (w.alloc (.cells #[] 121)) (dCs (List.replicate L.length zD)) 63; simpa using this)), hid_mk (HC0.out.below (below_box _ _)), hid_mk (HB0.out.alloc (by simp) _)⟩
  case round =>
    obtain ⟨k, hk, rfl, hrow, hcx, hold⟩ := hrel
    by_cases hlt : k < L.length
    · obtain ⟨c0, c1, c2⟩ := (HU.out k hlt).below hold.out hu1
      have hux : ub < wr.heap.size := Nat.lt_of_lt_of_le hu1 hold.out.size
      have hki : (k : Int) < (L.length : Int) := by omega
      have hnx : decide ((k : Int) < (L.length : Int) - 1) = nxB L k := by
        unfold nxB
        rw [decide_eq_decide]
        omega
      have hk6 : (k : Int) < 1000 := by omega
      have hk7 : k < 1000 := by have := HL.out; omega
      have HS1 := hid_mk (HS.out (sat L k) (nxB L k))
      have HP := hid_mk (fun W => bptput (k : Int) (sat L k).a (sat L k).n (sat L k).t (nxB L k) W)
      have HX := hid_mk (HST.out k hlt)
      rw [dD_at, ptbL_at2 hlt] at HX
      unfold ptbD at HX
      have HLen := hid_mk (HRL.out k hk)
      generalize (flgN (sat L k).t false) = g at *
      generalize flgN (sat L k).t (nxB L k) = f at *
      generalize (sat L k).a = sa at *
      generalize (sat L k).n = sn at *
      generalize (sat L k).t = st at *
      generalize nxB L k = nx at *
      have hm := meth_ptab
      have hws : w.heap.size ≤ wr.heap.size := hold.out.size
      have hdw : db < wr.heap.size := hrow.out.lt
      have HNE : Hid (wr.heap.size ≠ db) := hid_mk (by omega)
      have HES : Hid (ChD w wr.heap.size cb db [.int .u64 sa, .int .u32 sn, .bool st] [] 28 121 63 (wr.alloc (.cells #[.int .u64 sa, .int .u32 sn, .bool st] 28)).drew) := hid_mk ⟨(blk_new _ _ _).below (Below.refl _ _).drew, (hcx.out.below (below_box _ _)).below (Below.refl _ _).drew, (hold.out.alloc hold.out.size _).drew, _, (hrow.out.below (below_box _ _)).below (Below.refl _ _).drew⟩
      have HRW : Hid (BlkAt (wr.alloc (.cells #[.int .u64 sa, .int .u32 sn, .bool st] 28)).drew db (dCs (rowS zD (ptbL L) k)) 63) := hid_mk ((hrow.out.below (below_box _ _)).below (Below.refl _ _).drew)
      clear HS hrow hcx hold hws hdw HZ HST HRL HAL
      go_wp2_with fail
      refine wp_region_outl3 4 [(14, PutC db)] [] [(14, fun W => BlkAt W db (dCs (rowS zD (ptbL L) k)) 63)]
          [(fun v _ => v = .slice (some ⟨db, 0, none⟩) L.length L.length),
          (fun v _ => v = .int .i64 (k : Int)),
          (fun v _ => v = .agg #[]),
          (fun v _ => v = .iface 121 (.agg #[])),
          (fun v _ => v = .int .i64 (k : Int)),
          (fun v _ => v = .agg #[.int .u64 sa, .int .u32 sn, .bool st]),
          (fun v _ => v = .int .i64 (k : Int)),
          (fun v _ => v = .slice (some ⟨ub, uo, none⟩) L.length uc),
          (fun v _ => v = .int .i64 (L.length : Int)),
          (fun v _ => v = .int .i64 ((L.length : Int) - 1)),
          (fun v _ => v = .bool nx),
          (fun v _ => v = paV sa sn f),
          (fun v _ => v = dV ⟨sa, sn, 0, (g : Nat)⟩),
          (fun v _ => v = .pointer (some ⟨db, k * 4, none⟩)),
          (fun _ W => BlkAt W db (dCs (rowS zD (ptbL L) (k + 1))) 63)]
          (ChD w wr.heap.size cb db [.int .u64 sa, .int .u32 sn, .bool st] [] 28 121 63) (by kernel_rfl) (by kernel_rfl) (by kernel_rfl) ?_ (fun u u' hb h => h.below hb) (HES.out) ?_ ?_ ?_ ?_ ?_
      · refine And.intro (up_eq _) ?_
        refine And.intro (up_eq _) ?_
        refine And.intro (up_eq _) ?_
        refine And.intro (up_eq _) ?_
        refine And.intro (up_eq _) ?_
        refine And.intro (up_eq _) ?_
        refine And.intro (up_eq _) ?_
        refine And.intro (up_eq _) ?_
        refine And.intro (up_eq _) ?_
        refine And.intro (up_eq _) ?_
        refine And.intro (up_eq _) ?_
        refine And.intro (up_eq _) ?_
        refine And.intro (up_eq _) ?_
        refine And.intro (up_eq _) ?_
        refine And.intro (up_row _ _ _) ?_
        trivial
      · refine And.intro (And.intro (fun u u' hb h => h.below hb) (fun p hp hne u u' ht h => absurd (by rw [List.mem_singleton] at hp; rw [hp]) hne)) ?_
        trivial
      · refine And.intro (HRW.out) ?_
        trivial
      · refine And.intro (And.intro ?_ (fun u u' hp h => h.put HNE.out HNC.out HDb.out hp)) ?_
        · refine And.intro (fun _ _ _ => ch_eq _ _) ?_
          refine And.intro (fun _ _ _ => ch_eq _ _) ?_
          refine And.intro (fun _ _ _ => ch_eq _ _) ?_
          refine And.intro (fun _ _ _ => ch_eq _ _) ?_
          refine And.intro (fun _ _ _ => ch_eq _ _) ?_
          refine And.intro (fun _ _ _ => ch_eq _ _) ?_
          refine And.intro (fun _ _ _ => ch_eq _ _) ?_
          refine And.intro (fun _ _ _ => ch_eq _ _) ?_
          refine And.intro (fun _ _ _ => ch_eq _ _) ?_
          refine And.intro (fun _ _ _ => ch_eq _ _) ?_
          refine And.intro (fun _ _ _ => ch_eq _ _) ?_
          refine And.intro (fun _ _ _ => ch_eq _ _) ?_
          refine And.intro (fun _ _ _ => ch_eq _ _) ?_
          refine And.intro (fun _ _ _ => ch_eq _ _) ?_
          refine And.intro (fun h _ _ => absurd rfl h) ?_
          trivial
        trivial
      · refine And.intro ?_ (And.intro ?_ (And.intro ?_ (And.intro ?_ (And.intro ?_ (And.intro ?_ (And.intro ?_ (And.intro ?_ (And.intro ?_ (And.intro ?_ (And.intro ?_ (And.intro ?_ (And.intro ?_ (And.intro ?_ (And.intro ?_ (True.intro)))))))))))))))
        · refine qstep_val (.slice (some ⟨db, 0, none⟩) L.length L.length) (by kernel_rfl) (by kernel_rfl) rfl (fun _ A1 W1 inv hnl hall => ⟨wanted_none rfl, ?_, rfl⟩)
          have h5 : A1.eval (.tmp 5) = .slice (some ⟨db, 0, none⟩) L.length L.length := (inv.base 5 (by kernel_rfl)).trans rfl
          simp only [execOp, h5, Sem.run_pure]
        · refine qstep_val (.int .i64 (k : Int)) (by kernel_rfl) (by kernel_rfl) rfl (fun _ A1 W1 inv hnl hall => ⟨wanted_none rfl, ?_, rfl⟩)
          have h6 : A1.eval (.tmp 6) = .int .i64 (k : Int) := (inv.base 6 (by kernel_rfl)).trans rfl
          simp only [execOp, h6, Sem.run_pure]
        · refine qstep_val (.agg #[]) (by kernel_rfl) (by kernel_rfl) rfl (fun _ A1 W1 inv hnl hall => ⟨wanted_none rfl, ?_, rfl⟩)
          have h2 : A1.eval (.tmp 2) = .pointer (some ⟨cb, 0, none⟩) := (inv.base 2 (by kernel_rfl)).trans rfl
          simp only [execOp, h2]
          simp [go_sem]
        · refine qstep_val (.iface 121 (.agg #[])) (by kernel_rfl) (by kernel_rfl) rfl (fun _ A1 W1 inv hnl hall => ⟨wanted_none rfl, ?_, rfl⟩)
          have h20 : A1.eval (.tmp 20) = .agg #[] := inv.get hall 2 20 (by kernel_rfl) (by kernel_rfl) rfl
          simp only [execOp, h20]
          rfl
        · refine qstep_val (.int .i64 (k : Int)) (by kernel_rfl) (by kernel_rfl) rfl (fun _ A1 W1 inv hnl hall => ⟨wanted_none rfl, ?_, rfl⟩)
          have h6 : A1.eval (.tmp 6) = .int .i64 (k : Int) := (inv.base 6 (by kernel_rfl)).trans rfl
          simp only [execOp, h6, Sem.run_pure]
        · refine qstep_val (.agg #[.int .u64 sa, .int .u32 sn, .bool st]) (by kernel_rfl) (by kernel_rfl) rfl (fun _ A1 W1 inv hnl hall => ⟨wanted_none rfl, ?_, rfl⟩)
          have h7 : A1.eval (.tmp 7) = .pointer (some ⟨wr.heap.size, 0, none⟩) := (inv.base 7 (by kernel_rfl)).trans rfl
          have g0 := inv.s.box.cell 0
          have g1 := inv.s.box.cell 1
          have g2 := inv.s.box.cell 2
          simp at g0 g1 g2
          simp only [execOp, h7]
          simp [go_sem, g0, g1, g2]
        · refine qstep_val (.int .i64 (k : Int)) (by kernel_rfl) (by kernel_rfl) rfl (fun _ A1 W1 inv hnl hall => ⟨wanted_none rfl, ?_, rfl⟩)
          have h6 : A1.eval (.tmp 6) = .int .i64 (k : Int) := (inv.base 6 (by kernel_rfl)).trans rfl
          simp only [execOp, h6, Sem.run_pure]
        · refine qstep_val (.slice (some ⟨ub, uo, none⟩) L.length uc) (by kernel_rfl) (by kernel_rfl) rfl (fun _ A1 W1 inv hnl hall => ⟨wanted_none rfl, ?_, rfl⟩)
          have h1 : A1.eval (.tmp 1) = .slice (some ⟨ub, uo, none⟩) L.length uc := (inv.base 1 (by kernel_rfl)).trans rfl
          simp only [execOp, h1, Sem.run_pure]
        · refine qstep_val (.int .i64 (L.length : Int)) (by kernel_rfl) (by kernel_rfl) rfl (fun _ A1 W1 inv hnl hall => ⟨wanted_none rfl, ?_, rfl⟩)
          have h25 : A1.eval (.tmp 25) = .slice (some ⟨ub, uo, none⟩) L.length uc := inv.get hall 7 25 (by kernel_rfl) (by kernel_rfl) rfl
          simp only [execOp]
          simp [resolve, invoke, builtin, h25, Result.andThen]
          simp [go_sem]
        · refine qstep_val (.int .i64 ((L.length : Int) - 1)) (by kernel_rfl) (by kernel_rfl) rfl (fun _ A1 W1 inv hnl hall => ⟨wanted_none rfl, ?_, rfl⟩)
          have h26 : A1.eval (.tmp 26) = .int .i64 (L.length : Int) := inv.get hall 8 26 (by kernel_rfl) (by kernel_rfl) rfl
          simp only [execOp, h26, eval_c2]
          have hw : IntKind.i64.wrap ((L.length : Int) - 1) = (L.length : Int) - 1 := IntWalk.i64_in _ (by have := HL.out; omega)
          simp [go_sem, hw]
        · refine qstep_val (.bool nx) (by kernel_rfl) (by kernel_rfl) rfl (fun _ A1 W1 inv hnl hall => ⟨wanted_none rfl, ?_, rfl⟩)
          have h24 : A1.eval (.tmp 24) = .int .i64 (k : Int) := inv.get hall 6 24 (by kernel_rfl) (by kernel_rfl) rfl
          have h27 : A1.eval (.tmp 27) = .int .i64 ((L.length : Int) - 1) := inv.get hall 9 27 (by kernel_rfl) (by kernel_rfl) rfl
          simp only [execOp, h24, h27]
          simp [go_sem, hnx]
        · refine qstep_call 62 (by kernel_rfl) _ _ (by kernel_rfl) (by kernel_rfl) rfl rfl (fun _ A1 W1 inv hnl hall => ⟨wanted_none rfl, #[.agg #[.int .u64 sa, .int .u32 sn, .bool st], .bool nx], ?_, ?_⟩)
          · have h23 : A1.eval (.tmp 23) = .agg #[.int .u64 sa, .int .u32 sn, .bool st] := inv.get hall 5 23 (by kernel_rfl) (by kernel_rfl) rfl
            have h28 : A1.eval (.tmp 28) = .bool nx := inv.get hall 10 28 (by kernel_rfl) (by kernel_rfl) rfl
            simp [h23, h28]
          · refine (HS1.out _).mono ?_
            rintro e u ⟨rfl, hb⟩
            exact ⟨_, rfl, rfl, hb⟩
        · refine qstep_inv 134 (by kernel_rfl) 21 _ _ _ (by kernel_rfl) (by kernel_rfl) rfl rfl (fun _ A1 W1 inv hnl hall => ⟨wanted_none rfl, 121, .agg #[], .agg #[], #[.int .i64 k, paV sa sn f], ?_, ?_, ?_, ?_⟩)
          · have h21 : A1.eval (.tmp 21) = .iface 121 (.agg #[]) := inv.get hall 3 21 (by kernel_rfl) (by kernel_rfl) rfl
            exact h21
          · exact hm _ _ _
          · have h22 : A1.eval (.tmp 22) = .int .i64 (k : Int) := inv.get hall 4 22 (by kernel_rfl) (by kernel_rfl) rfl
            have h29 : A1.eval (.tmp 29) = paV sa sn f := inv.get hall 11 29 (by kernel_rfl) (by kernel_rfl) rfl
            simp [h22, h29]
          · refine (HP.out _).mono ?_
            rintro e u ⟨rfl, hb⟩
            exact ⟨_, rfl, rfl, hb⟩
        · refine qstep_val (.pointer (some ⟨db, k * 4, none⟩)) (by kernel_rfl) (by kernel_rfl) rfl (fun _ A1 W1 inv hnl hall => ⟨wanted_none rfl, ?_, rfl⟩)
          have h18 : A1.eval (.tmp 18) = .slice (some ⟨db, 0, none⟩) L.length L.length := inv.get hall 0 18 (by kernel_rfl) (by kernel_rfl) rfl
          have h19 : A1.eval (.tmp 19) = .int .i64 (k : Int) := inv.get hall 1 19 (by kernel_rfl) (by kernel_rfl) rfl
          simp only [execOp, h18, h19]
          simp [go_sem, hlt]
        · refine qstep_skip (by kernel_rfl) (by kernel_rfl) rfl (fun _ A1 W1 inv hnl hall => ⟨wanted_none rfl, ?_⟩)
          have h31 : A1.eval (.tmp 31) = .pointer (some ⟨db, k * 4, none⟩) := inv.get hall 13 31 (by kernel_rfl) (by kernel_rfl) rfl
          have h30 : A1.eval (.tmp 30) = dV ⟨sa, sn, 0, (g : Nat)⟩ := inv.get hall 12 30 (by kernel_rfl) (by kernel_rfl) rfl
          have hrow := inv.pre1 (j := 14) hnl (List.mem_singleton.2 rfl) (Or.inl rfl)
          have hend := put_row4 ⟨sa, sn, 0, (g : Nat)⟩ hrow (k := k) (by rw [HLen.out]; exact hlt)
          rw [HX.out] at hend
          obtain ⟨⟨y0, y1, y2, y3, hlt2, k0, k1, k2, k3⟩, f0, f1, f2, f3⟩ := row4 hrow (k := k) (by rw [HLen.out]; exact hlt)
          refine ⟨_, ?_, hend, ⟨[(_, _), (_, _), (_, _), (_, _)], rfl⟩⟩
          simp only [execOp, h31, h30]
          simp [go_sem, k0, k1, k2, k3, f0, f1, f2, f3]
      · intro listed A1 W1 inv hall
        have e18 : A1.eval (.tmp 18) = .slice (some ⟨db, 0, none⟩) L.length L.length := inv.fin 0 18 (by kernel_rfl) (hall 0 (Nat.lt_of_lt_of_eq (by decide : 0 < 15) (by kernel_rfl))) rfl
        have e19 : A1.eval (.tmp 19) = .int .i64 (k : Int) := inv.fin 1 19 (by kernel_rfl) (hall 1 (Nat.lt_of_lt_of_eq (by decide : 1 < 15) (by kernel_rfl))) rfl
        have e20 : A1.eval (.tmp 20) = .agg #[] := inv.fin 2 20 (by kernel_rfl) (hall 2 (Nat.lt_of_lt_of_eq (by decide : 2 < 15) (by kernel_rfl))) rfl
        have e21 : A1.eval (.tmp 21) = .iface 121 (.agg #[]) := inv.fin 3 21 (by kernel_rfl) (hall 3 (Nat.lt_of_lt_of_eq (by decide : 3 < 15) (by kernel_rfl))) rfl
        have e22 : A1.eval (.tmp 22) = .int .i64 (k : Int) := inv.fin 4 22 (by kernel_rfl) (hall 4 (Nat.lt_of_lt_of_eq (by decide : 4 < 15) (by kernel_rfl))) rfl
        have e23 : A1.eval (.tmp 23) = .agg #[.int .u64 sa, .int .u32 sn, .bool st] := inv.fin 5 23 (by kernel_rfl) (hall 5 (Nat.lt_of_lt_of_eq (by decide : 5 < 15) (by kernel_rfl))) rfl
        have e24 : A1.eval (.tmp 24) = .int .i64 (k : Int) := inv.fin 6 24 (by kernel_rfl) (hall 6 (Nat.lt_of_lt_of_eq (by decide : 6 < 15) (by kernel_rfl))) rfl
        have e25 : A1.eval (.tmp 25) = .slice (some ⟨ub, uo, none⟩) L.length uc := inv.fin 7 25 (by kernel_rfl) (hall 7 (Nat.lt_of_lt_of_eq (by decide : 7 < 15) (by kernel_rfl))) rfl
        have e26 : A1.eval (.tmp 26) = .int .i64 (L.length : Int) := inv.fin 8 26 (by kernel_rfl) (hall 8 (Nat.lt_of_lt_of_eq (by decide : 8 < 15) (by kernel_rfl))) rfl
        have e27 : A1.eval (.tmp 27) = .int .i64 ((L.length : Int) - 1) := inv.fin 9 27 (by kernel_rfl) (hall 9 (Nat.lt_of_lt_of_eq (by decide : 9 < 15) (by kernel_rfl))) rfl
        have e28 : A1.eval (.tmp 28) = .bool nx := inv.fin 10 28 (by kernel_rfl) (hall 10 (Nat.lt_of_lt_of_eq (by decide : 10 < 15) (by kernel_rfl))) rfl
        have e29 : A1.eval (.tmp 29) = paV sa sn f := inv.fin 11 29 (by kernel_rfl) (hall 11 (Nat.lt_of_lt_of_eq (by decide : 11 < 15) (by kernel_rfl))) rfl
        have e30 : A1.eval (.tmp 30) = dV ⟨sa, sn, 0, (g : Nat)⟩ := inv.fin 12 30 (by kernel_rfl) (hall 12 (Nat.lt_of_lt_of_eq (by decide : 12 < 15) (by kernel_rfl))) rfl
        have e31 : A1.eval (.tmp 31) = .pointer (some ⟨db, k * 4, none⟩) := inv.fin 13 31 (by kernel_rfl) (hall 13 (Nat.lt_of_lt_of_eq (by decide : 13 < 15) (by kernel_rfl))) rfl
        have hst14 := inv.fin0 14 (by kernel_rfl) (hall 14 (Nat.lt_of_lt_of_eq (by decide : 14 < 15) (by kernel_rfl))) rfl
        have HF := inv.frame hall
        have HS9 := hid_mk inv.s
        simp only [putEnd, e18, e19, e20, e21, e22, e23, e24, e25, e26, e27, e28, e29, e30, e31, Act.put, List.setIfInBounds_toArray, List.set_cons_succ, List.set_cons_zero] at HF
        clear e18 e19 e20 e21 e22 e23 e24 e25 e26 e27 e28 e29 e30 e31 inv hall
        subst HF
        have HE9 := hid_mk hst14
        have HC9 := hid_mk HS9.out.cbx
        have HO9 := hid_mk HS9.out.old
        clear HS9 hst14
        go_wp2_with fail
        go_roundw
        case rel => exact ⟨k + 1, by omega, by simp, HE9, HC9, HO9⟩
        case measure => simp [intOf]; omega
    · obtain rfl : k = L.length := by omega
      have HR := hid_mk hrow.out
      rw [HAL.out] at HR
      go_wp2_with fail
      go_ret
      exact ⟨ret_eq (by rw [hcb, hdb]; rfl), by rw [hcb, hdb]; exact HR.out, hold.out⟩
end Go.Proofs.YtfhhgcgbgmilcaaGreat

/- build's first: the first check that fails. Conditions: as each theorem names them. -/
namespace Go.Proofs.YtfhhgcgbgmilcaaGreat
open Go.ChangeShapes Go.WideShapes Go.ChangeAt Go.RowKit
set_option linter.unusedVariables false
set_option maxRecDepth 100000

/-- the first that is not 0 -/
def firE : List Int → Int
  | [] => 0
  | e :: l => if e = 0 then firE l else e
theorem firE_drop {E : List Int} {k : Nat} (h : k < E.length) : firE (E.drop k) = if E.getD k 0 = 0 then firE (E.drop (k + 1)) else E.getD k 0 := by
  rw [List.drop_eq_getElem_cons h]
  simp [firE, List.getD, h]
set_option maxHeartbeats 1000000 in
theorem bfirst (b n : Nat) (E : List Int) (w : World) (hn : E.length = n) (hl : n ≤ 100) (hb : b < w.heap.size) (hc : ∀ k, k < n → ∃ x, w.cell? ⟨b, k, none⟩ = some x ∧ Chk w x (E.getD k 0)) :
    Calls Tryz.prog 24 #[.slice (some ⟨b, 0, none⟩) n n] w fun e w' => e = .returned (.int .i64 (firE E)) ∧ Below w.heap.size w w' := by
  have HC := hid_mk hc
  have HL := hid_mk hl
  clear hc hl
  go_enter Tryz.func24, Tryz.ntmps24
  go_wp2
  go_loopw [4, 5, 8] (fun _ _ i wr => ∃ k : Nat, k ≤ n ∧ i = .int .i64 k ∧ Hid (Below w.heap.size w wr) ∧ Hid (firE E = firE (E.drop k))) (fun _ _ i _ => n - (intOf i).toNat)
  case atStart => exact ⟨0, Nat.zero_le _, rfl, hid_mk (Below.refl _ _), hid_mk rfl⟩
  case round =>
    obtain ⟨k, hk, rfl, hold, hno⟩ := hrel
    by_cases hlt : k < n
    · obtain ⟨x, hx, f, caps, rfl, ef, hf⟩ := HC.out k hlt
      have c0 := (hold.out.cell (p := ⟨b, k, none⟩) hb).trans hx
      have hki : (k : Int) < (n : Int) := by omega
      have hk6 : (k : Int) < 100 := by have := HL.out; omega
      have HF := hid_mk (hf wr hold.out)
      have HD := hid_mk (firE_drop (E := E) (k := k) (by omega))
      clear hx hf
      generalize E.getD k 0 = z at *
      by_cases hz : z = 0
      · subst hz
        have HE : Hid (firE E = firE (E.drop (k + 1))) := hid_mk (by rw [hno.out, HD.out, if_pos rfl])
        clear HD
        go_wp2_with (go_at_fn f; refine HF.out.mono ?_; rintro e w1 ⟨rfl, g⟩; have HG := hid_mk (hold.out.trans (g.mono hold.out.size)); clear g)
        go_roundw
        case rel => exact ⟨k + 1, by omega, by simp, HG, HE⟩
        case measure => simp [intOf]; omega
      · have HE : Hid (firE E = z) := hid_mk (by rw [hno.out, HD.out, if_neg hz])
        have hb2 : (z != 0) = true := by simp; exact hz
        clear HD hz
        go_wp2_with (go_at_fn f; refine HF.out.mono ?_; rintro e w1 ⟨rfl, g⟩; have HG := hid_mk (hold.out.trans (g.mono hold.out.size)); clear g)
        go_ret
        exact ⟨ret_eq (by rw [HE.out]; rfl), HG.out⟩
    · obtain rfl : k = n := by omega
      have HE : Hid (firE E = 0) := hid_mk (by rw [hno.out, List.drop_eq_nil_of_le (by omega)]; rfl)
      go_wp2_with fail
      go_ret
      exact ⟨ret_eq (by rw [HE.out]; rfl), hold.out⟩
end Go.Proofs.YtfhhgcgbgmilcaaGreat

/- build's areNumbers and first. Conditions: as each theorem names them. -/
namespace Go.Proofs.YtfhhgcgbgmilcaaGreat
open Go.ChangeShapes Go.WideShapes Go.ChangeAt Go.RowKit
set_option linter.unusedVariables false
set_option maxRecDepth 100000

/-- where a number stands in a list; -1 if nowhere -/
def idxI (L : List Int) (x : Int) : Int := if inB L x = true then 0 else -1
set_option maxHeartbeats 1000000 in
theorem bindex (v : Value) (L : List Int) (x : Int) (w : World) (hv : IntsZ w v L) (hl : L.length ≤ 100000) :
    Calls Tryz.prog 88 #[v, .int .i64 x] w fun e w' => ∃ r : Int, e = .returned (.int .i64 r) ∧ decide (0 ≤ r) = inB L x ∧ w' = w := by
  rcases hv with ⟨⟨va, vc, rfl, _⟩, rfl⟩ | ⟨b, o, c, rfl, hb1, hb2, hb3⟩
  · go_enter Tryz.func88, Tryz.ntmps88
    go_wp2
    go_loopw [5, 8] (fun _ i wr => i = .int .i64 0 ∧ wr = w) (fun _ _ _ => 0)
    case atStart => exact ⟨rfl, rfl⟩
    case round =>
      obtain ⟨rfl, rfl⟩ := hrel
      go_wp2
      go_ret
      exact ⟨_, rfl, rfl, rfl⟩
  · have HC := hid_mk hb3
    have HL := hid_mk hl
    clear hb3 hl
    go_enter Tryz.func88, Tryz.ntmps88
    go_wp2
    go_loopw [5, 8] (fun _ i wr => ∃ k : Nat, k ≤ L.length ∧ i = .int .i64 k ∧ wr = w ∧ Hid (inB (L.take k) x = false)) (fun _ i _ => L.length - (intOf i).toNat)
    case atStart => exact ⟨0, Nat.zero_le _, rfl, rfl, hid_mk (by simp [inB])⟩
    case round =>
      obtain ⟨k, hk, rfl, rfl, hno⟩ := hrel
      by_cases hlt : k < L.length
      · have c0 := HC.out k hlt
        have hki : (k : Int) < (L.length : Int) := by omega
        have hk6 : (k : Int) < 1000000 := by
          have := HL.out
          omega
        have HT := hid_mk (inB_take (n := x) hlt)
        have HIN : Hid (L.getD k 0 = x → inB L x = true) := hid_mk (fun e => by
          unfold inB
          rw [decide_eq_true_eq, ← e, List.getD_eq_getElem?_getD, List.getElem?_eq_getElem hlt]
          exact List.getElem_mem hlt)
        generalize L.getD k 0 = y at *
        have hb := beq_dec x y
        by_cases he : x = y
        · rw [decide_eq_true he] at hb
          have HE := hid_mk (HIN.out he.symm)
          clear he HT HIN hno
          go_wp2
          go_ret
          exact ⟨_, rfl, by rw [HE.out]; simp, rfl⟩
        · rw [decide_eq_false he] at hb
          have HE : Hid (inB (L.take (k + 1)) x = false) := hid_mk (by rw [HT.out, hno.out, decide_eq_false (fun e => he e.symm)]; rfl)
          clear he HT HIN hno
          go_wp2
          go_roundw
          case rel => exact ⟨k + 1, by omega, by simp, trivial, HE⟩
          case measure => simp [intOf]; omega
      · obtain rfl : k = L.length := by omega
        have HE := hno
        rw [List.take_length] at HE
        go_wp2
        go_ret
        exact ⟨_, rfl, by rw [HE.out]; rfl, rfl⟩
theorem bcontains (v : Value) (L : List Int) (x : Int) (w : World) (hv : IntsZ w v L) (hl : L.length ≤ 100000) :
    Calls Tryz.prog 61 #[v, .int .i64 x] w fun e w' => e = .returned (.bool (inB L x)) ∧ w' = w := by
  have HC := hid_mk (bindex v L x w hv hl)
  obtain ⟨va, vc, rfl⟩ := hv.len
  generalize inB L x = z at *
  clear hv hl
  go_enter Tryz.func61, Tryz.ntmps61
  go_wp2_with fail
  refine HC.out.mono ?_
  rintro e w2 ⟨r, rfl, hz, rfl⟩
  cases z
  · go_wp2_with fail
    go_ret
    exact ⟨rfl, rfl⟩
  · go_wp2_with fail
    go_ret
    exact ⟨rfl, rfl⟩

/-- areNumbers -/
def idsT (I : List Int) (n : Nat) : Bool := decide (I.length = n) && okT 32768 I I.length
set_option maxHeartbeats 1000000 in
theorem barenum1 (b c n : Nat) (v : Value) (I : List Int) (u : World) (hc : u.cell? ⟨b, 0, none⟩ = some v) (hd : u.cell? ⟨c, 0, none⟩ = some (.int .i64 (n : Int))) (hb : b < u.heap.size) (hv : IntsZ u v I) (hi : I.length ≤ 1000) :
    Calls Tryz.prog 60 #[.pointer (some ⟨b, 0, none⟩), .pointer (some ⟨c, 0, none⟩)] u fun e u' => e = .returned (.int .i64 (unlE (idsT I n))) ∧ Below u.heap.size u u' := by
  by_cases hne : I.length = n
  · have HT : Hid (idsT I n = okT 32768 I I.length) := hid_mk (by unfold idsT; rw [decide_eq_true hne, Bool.true_and])
    rw [HT.out]
    subst hne
    have hb1 : ((I.length : Int) != (I.length : Int)) = false := by simp
    rcases hv with ⟨⟨va, vc, rfl, _⟩, rfl⟩ | ⟨vb, o, vcap, rfl, hv1, hv2, hv3⟩
    · clear HT
      go_enter Tryz.func60, Tryz.ntmps60
      go_wp2
      go_loopw [3, 4, 12] (fun _ _ i wr => i = .int .i64 0 ∧ wr = u) (fun _ _ _ _ => 0)
      case atStart => exact ⟨rfl, rfl⟩
      case round =>
        obtain ⟨rfl, rfl⟩ := hrel
        go_wp2
        go_ret
        exact ⟨rfl, Below.refl _ _⟩
    · have HC := hid_mk hv3
      have HI := hid_mk hi
      have HBel := hid_mk (fun x y => bisbelX x 32768 y)
      have HBel1 := hid_mk (fun p q x y h1 h2 => bisbel1 p q x 32768 y h1 h2)
      clear hv3 hi HT
      obtain ⟨uu, huu⟩ : ∃ uu : World, uu = u := ⟨_, rfl⟩
      have HCell : Hid (u.cell? ⟨b, 0, none⟩ = some (.slice (some ⟨vb, o, none⟩) I.length vcap)) := hid_mk hc
      go_enter Tryz.func60, Tryz.ntmps60
      go_wp2
      go_loopw [3, 4, 5, 12] (fun _ _ _ i wr => ∃ k : Nat, k ≤ I.length ∧ i = .int .i64 k ∧ Hid (Below u.heap.size u wr) ∧ Hid (okT 32768 I k = true)) (fun _ _ _ i _ => I.length - (intOf i).toNat)
      case atStart => exact ⟨0, Nat.zero_le _, rfl, hid_mk (Below.refl _ _), hid_mk rfl⟩
      case round =>
        obtain ⟨k, hk, rfl, hold, hok⟩ := hrel
        by_cases hlt : k < I.length
        · have c0 := (hold.out.cell (p := ⟨vb, o + k, none⟩) hv1).trans (HC.out k hlt)
          have hvw : vb < wr.heap.size := Nat.lt_of_lt_of_le hv1 hold.out.size
          have hbw : b < wr.heap.size := Nat.lt_of_lt_of_le hb hold.out.size
          have cb := (hold.out.cell (p := ⟨b, 0, none⟩) hb).trans hc
          have hki : (k : Int) < (I.length : Int) := by omega
          have hk6 : (k : Int) < 1000 := by have := HI.out; omega
          have HST := hid_mk (okT_succ 32768 I k)
          have HN2 := hid_mk (fun h => okT_no (S := 32768) (L := I) hlt h)
          have HTk : Hid (∀ W : World, Below u.heap.size u W → IntsZ W (.slice (some ⟨vb, o, none⟩) ((I.take k).length) vcap) (I.take k)) := hid_mk (fun W hW => Or.inr ⟨vb, o, vcap, rfl, Nat.lt_of_lt_of_le hv1 hW.size, by rw [List.length_take]; omega, fun j hj => by
            rw [List.length_take] at hj
            rw [hW.cell (p := ⟨vb, o + j, none⟩) hv1, HC.out j (by omega)]
            simp [List.getD, show j < k from by omega]⟩)
          have htl : (I.take k).length = k := by rw [List.length_take]; omega
          rw [htl] at HTk
          have HCon := hid_mk (fun W x (hW : Below u.heap.size u W) => bcontains _ (I.take k) x W (HTk.out W hW) (by rw [htl]; have := HI.out; omega))
          have hk4 : (k : Int) ≤ (vcap : Int) := by omega
          have hk5 : k ≤ vcap := by omega
          generalize I.getD k 0 = x at *
          cases ho : okI 32768 x
          · have HE := hid_mk (HN2.out (by rw [ho]; rfl))
            have HB1 := hid_mk (fun p q y h1 h2 => HBel1.out p q x y h1 h2)
            rw [ho] at HB1
            clear ho HN2 HST HTk HCon htl HBel1
            go_wp2_with fail
            refine (HBel.out _ _).mono ?_
            rintro e w1 ⟨rfl, g1, g2, g3, g4⟩
            have HG := hid_mk g1
            clear g1
            go_wp2_with fail
            refine (HB1.out _ _ _ g2 g3).mono ?_
            rintro e w2 ⟨rfl, rfl⟩
            go_wp2_with fail
            go_ret
            exact ⟨ret_eq (by rw [HE.out]; rfl), hold.out.trans (HG.out.mono hold.out.size)⟩
          · have HB1 := hid_mk (fun p q y h1 h2 => HBel1.out p q x y h1 h2)
            rw [ho] at HB1 HST HN2
            clear ho HTk htl HBel1
            cases hin : inB (I.take k) x
            · rw [hin] at HST HN2 
              have HE : Hid (okT 32768 I (k + 1) = true) := hid_mk (by rw [HST.out, hok.out]; rfl)
              have HC1 := hid_mk (fun W hW => HCon.out W x hW)
              rw [hin] at HC1
              clear hin HST HN2 HCon
              go_wp2_with fail
              refine (HBel.out _ _).mono ?_
              rintro e w1 ⟨rfl, g1, g2, g3, g4⟩
              have HG := hid_mk (hold.out.trans (g1.mono hold.out.size))
              have cb1 := (g1.cell (p := ⟨b, 0, none⟩) hbw).trans cb
              have hbw1 : b < w1.heap.size := Nat.lt_of_lt_of_le hbw g1.size
              clear g1 cb
              go_wp2_with fail
              refine (HB1.out _ _ _ g2 g3).mono ?_
              rintro e w2 ⟨rfl, rfl⟩
              go_wp2_with fail
              refine (HC1.out _ HG.out).mono ?_
              rintro e w3 ⟨rfl, rfl⟩
              go_wp2_with fail
              go_roundw
              case rel => exact ⟨k + 1, by omega, by simp, HG, HE⟩
              case measure => simp [intOf]; omega
            · rw [hin] at HST HN2
              have HE := hid_mk (HN2.out rfl)
              have HC1 := hid_mk (fun W hW => HCon.out W x hW)
              rw [hin] at HC1
              clear hin HST HN2 HCon
              go_wp2_with fail
              refine (HBel.out _ _).mono ?_
              rintro e w1 ⟨rfl, g1, g2, g3, g4⟩
              have HG := hid_mk (hold.out.trans (g1.mono hold.out.size))
              have cb1 := (g1.cell (p := ⟨b, 0, none⟩) hbw).trans cb
              have hbw1 : b < w1.heap.size := Nat.lt_of_lt_of_le hbw g1.size
              clear g1 cb
              go_wp2_with fail
              refine (HB1.out _ _ _ g2 g3).mono ?_
              rintro e w2 ⟨rfl, rfl⟩
              go_wp2_with fail
              refine (HC1.out _ HG.out).mono ?_
              rintro e w3 ⟨rfl, rfl⟩
              go_wp2_with fail
              go_ret
              exact ⟨ret_eq (by rw [HE.out]; rfl), HG.out⟩
        · obtain rfl : k = I.length := by omega
          go_wp2_with fail
          go_ret
          exact ⟨ret_eq (by rw [hok.out]; rfl), hold.out⟩
  · have HE : Hid (idsT I n = false) := hid_mk (by unfold idsT; rw [decide_eq_false hne]; rfl)
    obtain ⟨va, vc, rfl⟩ := hv.len
    have hb1 : ((I.length : Int) != (n : Int)) = true := by simp; omega
    clear hv
    go_enter Tryz.func60, Tryz.ntmps60
    go_wp2
    go_ret
    exact ⟨ret_eq (by rw [HE.out]; rfl), Below.refl _ _⟩
theorem barenum (n : Nat) (v : Value) (I : List Int) (w : World) (hv : IntsZ w v I) (hi : I.length ≤ 1000) :
    Calls Tryz.prog 28 #[v, .int .i64 (n : Int)] w fun e w' => ∃ x, e = .returned x ∧ Chk w' x (unlE (idsT I n)) ∧ Below w.heap.size w w' := by
  have hmf : ∀ (fn : Fn) (first cap : Array Value) (w : World), (Instr.makeFunc fn first cap).run Tryz.prog w = .ok (.func fn first cap) w := fun _ _ _ _ => rfl
  have HV := hid_mk hv
  obtain ⟨va, vc, rfl⟩ := hv.len
  clear hv
  go_enter Tryz.func28, Tryz.ntmps28
  go_wp2
  go_ret
  have hB := (below_box w (.cells #[.slice va I.length vc] 35)).alloc (by simp) (.cells #[.int .i64 (n : Int)] 3)
  refine ⟨_, rfl, ⟨60, _, rfl, fun args u => run_callFunc_body (by kernel_rfl) args u, fun u hu => barenum1 w.heap.size (w.heap.size + 1) n _ I u ?_ ?_ ?_ ((HV.out.below hB).below hu) hi⟩, hB⟩
  · rw [hu.cell (by simp <;> omega)]
    go_simp
  · rw [hu.cell (by simp <;> omega)]
    go_simp
  · exact Nat.lt_of_lt_of_le (by simp <;> omega) hu.size
end Go.Proofs.YtfhhgcgbgmilcaaGreat
