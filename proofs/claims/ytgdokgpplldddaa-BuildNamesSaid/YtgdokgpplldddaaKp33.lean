/- Bh7 Bh8: joined texts. Conditions: as each theorem names them. -/
import Derived.Test.YtgdokgpplldddaaKp32
/- build's chain of a split ring. Conditions: as each theorem names them. -/
namespace Go.Proofs.Ytgdokgpplldddaa
open Go.ChangeShapes Go.WideShapes Go.ChangeAt Go.RowKit
set_option linter.unusedVariables false
set_option maxRecDepth 100000

theorem flg_next (t nx : Bool) : (bits .and .u16 (flgN t nx : Nat) 1 != 0) = nx := by cases t <;> cases nx <;> decide +kernel
theorem ptD_at {L : List Pt} {k : Nat} : L.getD k zPt = ptat L k := rfl
theorem meth1 (n : Nat) (x : Value) (W : World) : (method (n + 1) 76 x "dumbwaiter/build.put").run Try.prog W = .ok (40, x) W := by kernel_rfl
set_option maxHeartbeats 2000000 in
theorem bchain1 (v u : Value) (I : List Int) (L : List Sg) (w : World) (hv : IntsZ w v I) (hu : SegsAt w u L) (hn : I.length = L.length) (h0 : 0 < L.length) (hl : L.length ≤ 1000) (hok : ∀ j, j < L.length → 0 ≤ I.getD j 0 ∧ I.getD j 0 < 32768) :
    Calls Try.prog 34 #[v, u] w fun e w' => e = .returned (.slice (some ⟨w.heap.size, 0, none⟩) L.length L.length) ∧ BlkAt w' w.heap.size (ptCells (splL I L)) 40 ∧ Below w.heap.size w w' := by
  rcases hv with ⟨_, rfl⟩ | ⟨vb, vo, vc, rfl, hv1, hv2, hv3⟩
  · simp at hn
    omega
  rcases hu with ⟨_, rfl⟩ | ⟨ub, uo, uc, rfl, hu1, hu2, hu3⟩
  · simp at h0
  have hmk := fun W => makePut W .i64 L.length (by omega)
  have HV := hid_mk hv3
  have HU := hid_mk hu3
  have HOK := hid_mk hok
  have HL := hid_mk hl
  have HN := hid_mk hn
  have HS := hid_mk bsegpart
  have hlen := splL_len I L
  have HZ := hid_mk (rowS_zero zPt (splL I L))
  rw [hlen] at HZ
  have HST := hid_mk (fun k (h : k < L.length) => rowS_step (z := zPt) (X := splL I L) (k := k) (by rw [hlen]; exact h))
  have HAT := hid_mk (fun k (h : k < L.length) => splL_at (I := I) h)
  have HRL := hid_mk (fun k (h : k ≤ L.length) => rowS_length (z := zPt) (X := splL I L) (k := k) (by rw [hlen]; exact h))
  rw [hlen] at HRL
  have HAL := hid_mk (rowS_all zPt (splL I L))
  rw [hlen] at HAL
  clear hv3 hu3 hok hlen hl
  have hl2 : (L.length : Int) ≤ 1000 := by have := HL.out; omega
  rw [hn] at hv2 ⊢
  obtain ⟨db, hdb⟩ : ∃ db, w.heap.size = db := ⟨_, rfl⟩
  have HDb : Hid (w.heap.size ≤ db) := hid_mk (by omega)
  go_enter Try.func34, Try.ntmps34
  go_wp2_with fail
  go_loopw [6, 7, 13] (fun _ _ i wr => ∃ k : Nat, k ≤ L.length ∧ i = .int .i64 k ∧ Hid (BlkAt wr db (ptCells (rowS zPt (splL I L) k)) 40) ∧ Hid (Below w.heap.size w wr)) (fun _ _ i _ => L.length - (intOf i).toNat)
  case atStart => exact ⟨0, Nat.zero_le _, rfl, hid_mk (by rw [HZ.out, ← hdb]; exact blk_new _ _ _), hid_mk (below_box _ _)⟩
  case round =>
    obtain ⟨k, hk, rfl, hrow, hold⟩ := hrel
    by_cases hlt : k < L.length
    · obtain ⟨c0, c1, c2⟩ := (HU.out k hlt).below hold.out hu1
      have hux : ub < wr.heap.size := Nat.lt_of_lt_of_le hu1 hold.out.size
      have hki : (k : Int) < (L.length : Int) := by omega
      have hnx : decide ((k : Int) < (L.length : Int) - 1) = nxB L k := by
        unfold nxB
        rw [decide_eq_decide]
        omega
      have hk6 : (k : Int) < 1000 := by omega
      have HS1 := hid_mk (HS.out (sat L k) (nxB L k))
      have HV0 := hid_mk (HV.out k (by omega))
      have HP := hid_mk (fun W (hW : Below w.heap.size w W) => bscput vb vo vc L.length k (I.getD k 0) (if nxB L k = true then I.getD (k + 1) 0 else 0) (sat L k).a (sat L k).n (flgN (sat L k).t (nxB L k)) (nxB L k) W (Nat.lt_of_lt_of_le hv1 hW.size) ((hW.cell (p := ⟨vb, vo + k, none⟩) hv1).trans HV0.out) hlt HL.out (fun h => by
        rw [if_pos h]
        have h2 : k + 1 < L.length := of_decide_eq_true h
        exact ⟨h2, (hW.cell (p := ⟨vb, vo + (k + 1), none⟩) hv1).trans (HV.out (k + 1) (by omega)), HOK.out (k + 1) h2⟩) (fun h => by rw [if_neg (by rw [h]; decide)]) (flg_next _ _))
      have HX := hid_mk (HST.out k hlt)
      rw [ptD_at, HAT.out k hlt] at HX
      unfold splD at HX
      have hlen := HRL.out k hk
      generalize (if nxB L k = true then I.getD (k + 1) 0 else 0) = x1 at *
      generalize flgN (sat L k).t (nxB L k) = f at *
      generalize (sat L k).a = sa at *
      generalize (sat L k).n = sn at *
      generalize (sat L k).t = st at *
      generalize I.getD k 0 = x at *
      generalize nxB L k = nx at *
      have hm := meth1
      clear HS HV0
      go_wp2_with fail
      refine (HS1.out _).mono ?_
      rintro e w1 ⟨rfl, hb1⟩
      have HB1 := hid_mk (below_then (hold.out.alloc hold.out.size (.cells #[.int .u64 sa, .int .u32 sn, .bool st] 63)) hb1)
      have HR1 := hid_mk ((hrow.out.below (below_box _ (.cells #[.int .u64 sa, .int .u32 sn, .bool st] 63))).below hb1)
      clear hb1 hrow hold
      go_wp2_with fail
      refine (HP.out _ HB1.out).mono ?_
      rintro e w2 ⟨rfl, hb2⟩
      have HB2 := hid_mk (below_then HB1.out hb2)
      have HR2 := hid_mk (HR1.out.below hb2)
      have HF := hid_mk (put_row5 ⟨x, ⟨sa, sn, f, x1⟩⟩ HR2.out (k := k) (by omega))
      rw [HX.out] at HF
      obtain ⟨⟨d0, d1, d2, d3, d4, hlt2, k0, k1, k2, k3, k4⟩, f0, f1, f2, f3, f4⟩ := row5 HR2.out (k := k) (by omega)
      clear hb2 HR1 HB1 hnx hux c0 c1 c2
      go_wp2_with fail
      go_roundw
      case rel => exact ⟨k + 1, by omega, by simp, HF, hid_mk (((((HB2.out.setCell HDb.out _).setCell HDb.out _).setCell HDb.out _).setCell HDb.out _).setCell HDb.out _)⟩
      case measure => simp [intOf]; omega
    · obtain rfl : k = L.length := by omega
      have HR := hid_mk hrow.out
      rw [HAL.out] at HR
      go_wp2_with fail
      go_ret
      exact ⟨ret_eq (by rw [hdb]; rfl), by rw [hdb]; exact HR.out, hold.out⟩
end Go.Proofs.Ytgdokgpplldddaa

/- build's chains of a packed ring and of tables. Conditions: as each theorem names them. Written by mkbh8.py. -/
namespace Go.Proofs.Ytgdokgpplldddaa
open Go.ChangeShapes Go.WideShapes Go.ChangeAt Go.RowKit
set_option linter.unusedVariables false
set_option maxRecDepth 100000

/-- where a round's last region stands: the segment's box, the chain's box, old memory, the row -/
structure ChD (w : World) (bx cb db : Nat) (B C : List Value) (t tc t2 : TypeId) (W : World) : Prop where
  box : BlkAt W bx B t
  cbx : BlkAt W cb C tc
  old : Below w.heap.size w W
  res : ∃ C2, BlkAt W db C2 t2
theorem ChD.below {w W W' : World} {bx cb db : Nat} {B C : List Value} {t tc t2 : TypeId} (h : ChD w bx cb db B C t tc t2 W) (hb : Below W.heap.size W W') : ChD w bx cb db B C t tc t2 W' := by
  obtain ⟨C2, hr⟩ := h.res
  exact ⟨h.box.below hb, h.cbx.below hb, below_then h.old hb, C2, hr.below hb⟩
theorem ChD.put {w W W' : World} {bx cb db : Nat} {B C : List Value} {t tc t2 : TypeId} (h : ChD w bx cb db B C t tc t2 W) (hne : bx ≠ db) (hnc : cb ≠ db) (hw : w.heap.size ≤ db) (hp : PutC db W W') : ChD w bx cb db B C t tc t2 W' := by
  obtain ⟨L, rfl⟩ := hp
  induction L generalizing W with
  | nil => exact h
  | cons q L ih =>
    refine ih ?_
    obtain ⟨C2, hr⟩ := h.res
    exact ⟨h.box.other hne _, h.cbx.other hnc _, h.old.setCell hw _, _, hr.set q.1 q.2⟩
theorem up_row (db : Nat) (C : List Value) (t : TypeId) : Up (fun _ W => BlkAt W db C t) := fun _ _ _ hb h => h.below hb
theorem dD_at {L : List Dsc} {k : Nat} : L.getD k zD = dat L k := rfl
theorem stbL_at2 {L : List Sg} {k : Nat} (h : k < L.length) : dat (stbL L) k = ⟨(sat L k).a, (sat L k).n, (flgN (sat L k).t (nxB L k) : Nat), if nxB L k = true then (k : Int) + 1 else 0⟩ := by
  unfold stbL dat
  rw [List.getD_eq_getElem?_getD, List.getElem?_map]
  have h1 : (splL (numI L.length) L)[k]? = some (splD (numI L.length) L k) := by simp [splL, h]
  rw [h1]
  show (splD (numI L.length) L k).d = _
  unfold splD
  simp only
  congr 1
  by_cases hx : nxB L k = true
  · rw [if_pos hx, if_pos hx]
    have h2 : k + 1 < L.length := of_decide_eq_true hx
    simp [numI, List.getD, h2]
  · rw [if_neg hx, if_neg hx]
theorem ptbL_at2 {L : List Sg} {k : Nat} (h : k < L.length) : dat (ptbL L) k = ptbD L k := by simp [dat, ptbL, List.getD, h]
theorem meth_packed (n : Nat) (x : Value) (W : World) : (method (n + 1) 82 x "dumbwaiter/build.put").run Try.prog W = .ok (42, x) W := by kernel_rfl
set_option maxHeartbeats 4000000 in
theorem bchain2 (p n id : Int) (b : Bool) (u : Value) (L : List Sg) (w : World) (hu : SegsAt w u L) (h0 : 0 < L.length) (hl : L.length ≤ 1000) (hp : okP p n = true) (hfit : (L.length : Int) ≤ n) (hid : 0 ≤ id ∧ id < 32768) :
    Calls Try.prog 38 #[.agg #[.int .i64 p, .bool b, .int .i64 n, .int .i64 id], u] w fun e w' => e = .returned (.slice (some ⟨w.heap.size + 1, 0, none⟩) L.length L.length) ∧ BlkAt w' (w.heap.size + 1) (ptCells (pckL p n b id L)) 46 ∧ Below w.heap.size w w' := by
  rcases hu with ⟨_, rfl⟩ | ⟨ub, uo, uc, rfl, hu1, hu2, hu3⟩
  · simp at h0
  have hmk := fun W => makePutP W .i64 L.length (by omega)
  have HU := hid_mk hu3
  have HL := hid_mk hl
  have HS := hid_mk bsegpart
  have hlen := pckL_len p n b id L
  have HZ := hid_mk (rowS_zero zPt (pckL p n b id L))
  rw [hlen] at HZ
  have HST := hid_mk (fun k (h : k < L.length) => rowS_step (z := zPt) (X := pckL p n b id L) (k := k) (by rw [hlen]; exact h))
  have HRL := hid_mk (fun k (h : k ≤ L.length) => rowS_length (z := zPt) (X := pckL p n b id L) (k := k) (by rw [hlen]; exact h))
  rw [hlen] at HRL
  have HAL := hid_mk (rowS_all zPt (pckL p n b id L))
  rw [hlen] at HAL
  clear hu3 hlen hl
  have hl2 : (L.length : Int) ≤ 1000 := by have := HL.out; omega
  have HC0 : Hid (BlkAt (w.alloc (.cells #[.int .i64 p, .bool b, .int .i64 n, .int .i64 id] 82)) w.heap.size [.int .i64 p, .bool b, .int .i64 n, .int .i64 id] 82) := hid_mk (blk_new _ _ _)
  have HB0 : Hid (Below w.heap.size w (w.alloc (.cells #[.int .i64 p, .bool b, .int .i64 n, .int .i64 id] 82))) := hid_mk (below_box _ _)
  obtain ⟨cb, hcb⟩ : ∃ cb, w.heap.size = cb := ⟨_, rfl⟩
  obtain ⟨db, hdb⟩ : ∃ db, cb + 1 = db := ⟨_, rfl⟩
  have HDb : Hid (w.heap.size ≤ db) := hid_mk (by omega)
  have HNC : Hid (cb ≠ db) := hid_mk (by omega)
  rw [hcb] at HC0
  go_enter Try.func38, Try.ntmps38
  go_wp2_with fail
  go_loopw [6, 7, 13] (fun _ _ i wr => ∃ k : Nat, k ≤ L.length ∧ i = .int .i64 k ∧ Hid (BlkAt wr db (ptCells (rowS zPt (pckL p n b id L) k)) 46) ∧ Hid (BlkAt wr cb [.int .i64 p, .bool b, .int .i64 n, .int .i64 id] 82) ∧ Hid (Below w.heap.size w wr)) (fun _ _ i _ => L.length - (intOf i).toNat)
  case atStart => exact ⟨0, Nat.zero_le _, rfl, hid_mk (by rw [HZ.out, ← hdb, ← hcb]; exact (by have := blk_new (w.alloc (.cells #[.int .i64 p, .bool b, .int .i64 n, .int .i64 id] 82)) (ptCells (List.replicate L.length zPt)) 46; simpa using this)), hid_mk (HC0.out.below (below_box _ _)), hid_mk (HB0.out.alloc (by simp) _)⟩
  case round =>
    obtain ⟨k, hk, rfl, hrow, hcx, hold⟩ := hrel
    by_cases hlt : k < L.length
    · obtain ⟨c0, c1, c2⟩ := (HU.out k hlt).below hold.out hu1
      have hux : ub < wr.heap.size := Nat.lt_of_lt_of_le hu1 hold.out.size
      have hki : (k : Int) < (L.length : Int) := by omega
      have hnx : decide ((k : Int) < (L.length : Int) - 1) = nxB L k := by
        unfold nxB
        rw [decide_eq_decide]
        omega
      have hk6 : (k : Int) < 1000 := by omega
      have hk7 : k < 1000 := by have := HL.out; omega
      have HS1 := hid_mk (HS.out (sat L k) (nxB L k))
      have HP := hid_mk (fun W => bpcput p n id (sat L k).a (sat L k).n b k (flgN (sat L k).t (nxB L k)) W (flgN_lt _ _) hp (by omega) hid)
      have HX := hid_mk (HST.out k hlt)
      rw [ptD_at, pckL_at hlt] at HX
      unfold pckD at HX
      have HLen := hid_mk (HRL.out k hk)
      generalize (markN (flgN (sat L k).t (nxB L k)) (goW p k n b) false) = mf at *
      generalize (goA p k n) = ga at *
      generalize flgN (sat L k).t (nxB L k) = f at *
      generalize (sat L k).a = sa at *
      generalize (sat L k).n = sn at *
      generalize (sat L k).t = st at *
      generalize nxB L k = nx at *
      have hm := meth_packed
      have hws : w.heap.size ≤ wr.heap.size := hold.out.size
      have hdw : db < wr.heap.size := hrow.out.lt
      have HNE : Hid (wr.heap.size ≠ db) := hid_mk (by omega)
      have HES : Hid (ChD w wr.heap.size cb db [.int .u64 sa, .int .u32 sn, .bool st] [.int .i64 p, .bool b, .int .i64 n, .int .i64 id] 63 82 46 (wr.alloc (.cells #[.int .u64 sa, .int .u32 sn, .bool st] 63)).drew) := hid_mk ⟨(blk_new _ _ _).below (Below.refl _ _).drew, (hcx.out.below (below_box _ _)).below (Below.refl _ _).drew, (hold.out.alloc hold.out.size _).drew, _, (hrow.out.below (below_box _ _)).below (Below.refl _ _).drew⟩
      have HRW : Hid (BlkAt (wr.alloc (.cells #[.int .u64 sa, .int .u32 sn, .bool st] 63)).drew db (ptCells (rowS zPt (pckL p n b id L) k)) 46) := hid_mk ((hrow.out.below (below_box _ _)).below (Below.refl _ _).drew)
      clear HS hrow hcx hold hws hdw HZ HST HRL HAL
      go_wp2_with fail
      refine wp_region_outl3 4 [(14, PutC db)] [] [(14, fun W => BlkAt W db (ptCells (rowS zPt (pckL p n b id L) k)) 46)]
          [(fun v _ => v = .slice (some ⟨db, 0, none⟩) L.length L.length),
          (fun v _ => v = .int .i64 (k : Int)),
          (fun v _ => v = .agg #[.int .i64 p, .bool b, .int .i64 n, .int .i64 id]),
          (fun v _ => v = .iface 82 (.agg #[.int .i64 p, .bool b, .int .i64 n, .int .i64 id])),
          (fun v _ => v = .int .i64 (k : Int)),
          (fun v _ => v = .agg #[.int .u64 sa, .int .u32 sn, .bool st]),
          (fun v _ => v = .int .i64 (k : Int)),
          (fun v _ => v = .slice (some ⟨ub, uo, none⟩) L.length uc),
          (fun v _ => v = .int .i64 (L.length : Int)),
          (fun v _ => v = .int .i64 ((L.length : Int) - 1)),
          (fun v _ => v = .bool nx),
          (fun v _ => v = paV sa sn f),
          (fun v _ => v = pV ⟨ga, ⟨sa, sn, id, (mf : Nat)⟩⟩),
          (fun v _ => v = .pointer (some ⟨db, k * 5, none⟩)),
          (fun _ W => BlkAt W db (ptCells (rowS zPt (pckL p n b id L) (k + 1))) 46)]
          (ChD w wr.heap.size cb db [.int .u64 sa, .int .u32 sn, .bool st] [.int .i64 p, .bool b, .int .i64 n, .int .i64 id] 63 82 46) (by kernel_rfl) (by kernel_rfl) (by kernel_rfl) ?_ (fun u u' hb h => h.below hb) (HES.out) ?_ ?_ ?_ ?_ ?_
      · refine And.intro (up_eq _) ?_
        refine And.intro (up_eq _) ?_
        refine And.intro (up_eq _) ?_
        refine And.intro (up_eq _) ?_
        refine And.intro (up_eq _) ?_
        refine And.intro (up_eq _) ?_
        refine And.intro (up_eq _) ?_
        refine And.intro (up_eq _) ?_
        refine And.intro (up_eq _) ?_
        refine And.intro (up_eq _) ?_
        refine And.intro (up_eq _) ?_
        refine And.intro (up_eq _) ?_
        refine And.intro (up_eq _) ?_
        refine And.intro (up_eq _) ?_
        refine And.intro (up_row _ _ _) ?_
        trivial
      · refine And.intro (And.intro (fun u u' hb h => h.below hb) (fun p hp hne u u' ht h => absurd (by rw [List.mem_singleton] at hp; rw [hp]) hne)) ?_
        trivial
      · refine And.intro (HRW.out) ?_
        trivial
      · refine And.intro (And.intro ?_ (fun u u' hp h => h.put HNE.out HNC.out HDb.out hp)) ?_
        · refine And.intro (fun _ _ _ => ch_eq _ _) ?_
          refine And.intro (fun _ _ _ => ch_eq _ _) ?_
          refine And.intro (fun _ _ _ => ch_eq _ _) ?_
          refine And.intro (fun _ _ _ => ch_eq _ _) ?_
          refine And.intro (fun _ _ _ => ch_eq _ _) ?_
          refine And.intro (fun _ _ _ => ch_eq _ _) ?_
          refine And.intro (fun _ _ _ => ch_eq _ _) ?_
          refine And.intro (fun _ _ _ => ch_eq _ _) ?_
          refine And.intro (fun _ _ _ => ch_eq _ _) ?_
          refine And.intro (fun _ _ _ => ch_eq _ _) ?_
          refine And.intro (fun _ _ _ => ch_eq _ _) ?_
          refine And.intro (fun _ _ _ => ch_eq _ _) ?_
          refine And.intro (fun _ _ _ => ch_eq _ _) ?_
          refine And.intro (fun _ _ _ => ch_eq _ _) ?_
          refine And.intro (fun h _ _ => absurd rfl h) ?_
          trivial
        trivial
      · refine And.intro ?_ (And.intro ?_ (And.intro ?_ (And.intro ?_ (And.intro ?_ (And.intro ?_ (And.intro ?_ (And.intro ?_ (And.intro ?_ (And.intro ?_ (And.intro ?_ (And.intro ?_ (And.intro ?_ (And.intro ?_ (And.intro ?_ (True.intro)))))))))))))))
        · refine qstep_val (.slice (some ⟨db, 0, none⟩) L.length L.length) (by kernel_rfl) (by kernel_rfl) rfl (fun _ A1 W1 inv hnl hall => ⟨wanted_none rfl, ?_, rfl⟩)
          have h5 : A1.eval (.tmp 5) = .slice (some ⟨db, 0, none⟩) L.length L.length := (inv.base 5 (by kernel_rfl)).trans rfl
          simp only [execOp, h5, Sem.run_pure]
        · refine qstep_val (.int .i64 (k : Int)) (by kernel_rfl) (by kernel_rfl) rfl (fun _ A1 W1 inv hnl hall => ⟨wanted_none rfl, ?_, rfl⟩)
          have h6 : A1.eval (.tmp 6) = .int .i64 (k : Int) := (inv.base 6 (by kernel_rfl)).trans rfl
          simp only [execOp, h6, Sem.run_pure]
        · refine qstep_val (.agg #[.int .i64 p, .bool b, .int .i64 n, .int .i64 id]) (by kernel_rfl) (by kernel_rfl) rfl (fun _ A1 W1 inv hnl hall => ⟨wanted_none rfl, ?_, rfl⟩)
          have h2 : A1.eval (.tmp 2) = .pointer (some ⟨cb, 0, none⟩) := (inv.base 2 (by kernel_rfl)).trans rfl
          have g0 := inv.s.cbx.cell 0
          have g1 := inv.s.cbx.cell 1
          have g2 := inv.s.cbx.cell 2
          have g3 := inv.s.cbx.cell 3
          simp at g0 g1 g2 g3
          simp only [execOp, h2]
          simp [go_sem, g0, g1, g2, g3]
        · refine qstep_val (.iface 82 (.agg #[.int .i64 p, .bool b, .int .i64 n, .int .i64 id])) (by kernel_rfl) (by kernel_rfl) rfl (fun _ A1 W1 inv hnl hall => ⟨wanted_none rfl, ?_, rfl⟩)
          have h20 : A1.eval (.tmp 20) = .agg #[.int .i64 p, .bool b, .int .i64 n, .int .i64 id] := inv.get hall 2 20 (by kernel_rfl) (by kernel_rfl) rfl
          simp only [execOp, h20]
          rfl
        · refine qstep_val (.int .i64 (k : Int)) (by kernel_rfl) (by kernel_rfl) rfl (fun _ A1 W1 inv hnl hall => ⟨wanted_none rfl, ?_, rfl⟩)
          have h6 : A1.eval (.tmp 6) = .int .i64 (k : Int) := (inv.base 6 (by kernel_rfl)).trans rfl
          simp only [execOp, h6, Sem.run_pure]
        · refine qstep_val (.agg #[.int .u64 sa, .int .u32 sn, .bool st]) (by kernel_rfl) (by kernel_rfl) rfl (fun _ A1 W1 inv hnl hall => ⟨wanted_none rfl, ?_, rfl⟩)
          have h7 : A1.eval (.tmp 7) = .pointer (some ⟨wr.heap.size, 0, none⟩) := (inv.base 7 (by kernel_rfl)).trans rfl
          have g0 := inv.s.box.cell 0
          have g1 := inv.s.box.cell 1
          have g2 := inv.s.box.cell 2
          simp at g0 g1 g2
          simp only [execOp, h7]
          simp [go_sem, g0, g1, g2]
        · refine qstep_val (.int .i64 (k : Int)) (by kernel_rfl) (by kernel_rfl) rfl (fun _ A1 W1 inv hnl hall => ⟨wanted_none rfl, ?_, rfl⟩)
          have h6 : A1.eval (.tmp 6) = .int .i64 (k : Int) := (inv.base 6 (by kernel_rfl)).trans rfl
          simp only [execOp, h6, Sem.run_pure]
        · refine qstep_val (.slice (some ⟨ub, uo, none⟩) L.length uc) (by kernel_rfl) (by kernel_rfl) rfl (fun _ A1 W1 inv hnl hall => ⟨wanted_none rfl, ?_, rfl⟩)
          have h1 : A1.eval (.tmp 1) = .slice (some ⟨ub, uo, none⟩) L.length uc := (inv.base 1 (by kernel_rfl)).trans rfl
          simp only [execOp, h1, Sem.run_pure]
        · refine qstep_val (.int .i64 (L.length : Int)) (by kernel_rfl) (by kernel_rfl) rfl (fun _ A1 W1 inv hnl hall => ⟨wanted_none rfl, ?_, rfl⟩)
          have h25 : A1.eval (.tmp 25) = .slice (some ⟨ub, uo, none⟩) L.length uc := inv.get hall 7 25 (by kernel_rfl) (by kernel_rfl) rfl
          simp only [execOp]
          simp [resolve, invoke, builtin, h25, Result.andThen]
          simp [go_sem]
        · refine qstep_val (.int .i64 ((L.length : Int) - 1)) (by kernel_rfl) (by kernel_rfl) rfl (fun _ A1 W1 inv hnl hall => ⟨wanted_none rfl, ?_, rfl⟩)
          have h26 : A1.eval (.tmp 26) = .int .i64 (L.length : Int) := inv.get hall 8 26 (by kernel_rfl) (by kernel_rfl) rfl
          simp only [execOp, h26, eval_c2]
          have hw : IntKind.i64.wrap ((L.length : Int) - 1) = (L.length : Int) - 1 := IntWalk.i64_in _ (by have := HL.out; omega)
          simp [go_sem, hw]
        · refine qstep_val (.bool nx) (by kernel_rfl) (by kernel_rfl) rfl (fun _ A1 W1 inv hnl hall => ⟨wanted_none rfl, ?_, rfl⟩)
          have h24 : A1.eval (.tmp 24) = .int .i64 (k : Int) := inv.get hall 6 24 (by kernel_rfl) (by kernel_rfl) rfl
          have h27 : A1.eval (.tmp 27) = .int .i64 ((L.length : Int) - 1) := inv.get hall 9 27 (by kernel_rfl) (by kernel_rfl) rfl
          simp only [execOp, h24, h27]
          simp [go_sem, hnx]
        · refine qstep_call 60 (by kernel_rfl) _ _ (by kernel_rfl) (by kernel_rfl) rfl rfl (fun _ A1 W1 inv hnl hall => ⟨wanted_none rfl, #[.agg #[.int .u64 sa, .int .u32 sn, .bool st], .bool nx], ?_, ?_⟩)
          · have h23 : A1.eval (.tmp 23) = .agg #[.int .u64 sa, .int .u32 sn, .bool st] := inv.get hall 5 23 (by kernel_rfl) (by kernel_rfl) rfl
            have h28 : A1.eval (.tmp 28) = .bool nx := inv.get hall 10 28 (by kernel_rfl) (by kernel_rfl) rfl
            simp [h23, h28]
          · refine (HS1.out _).mono ?_
            rintro e u ⟨rfl, hb⟩
            exact ⟨_, rfl, rfl, hb⟩
        · refine qstep_inv 42 (by kernel_rfl) 21 _ _ _ (by kernel_rfl) (by kernel_rfl) rfl rfl (fun _ A1 W1 inv hnl hall => ⟨wanted_none rfl, 82, .agg #[.int .i64 p, .bool b, .int .i64 n, .int .i64 id], .agg #[.int .i64 p, .bool b, .int .i64 n, .int .i64 id], #[.int .i64 k, paV sa sn f], ?_, ?_, ?_, ?_⟩)
          · have h21 : A1.eval (.tmp 21) = .iface 82 (.agg #[.int .i64 p, .bool b, .int .i64 n, .int .i64 id]) := inv.get hall 3 21 (by kernel_rfl) (by kernel_rfl) rfl
            exact h21
          · exact hm _ _ _
          · have h22 : A1.eval (.tmp 22) = .int .i64 (k : Int) := inv.get hall 4 22 (by kernel_rfl) (by kernel_rfl) rfl
            have h29 : A1.eval (.tmp 29) = paV sa sn f := inv.get hall 11 29 (by kernel_rfl) (by kernel_rfl) rfl
            simp [h22, h29]
          · refine (HP.out _).mono ?_
            rintro e u ⟨rfl, hb⟩
            exact ⟨_, rfl, rfl, hb⟩
        · refine qstep_val (.pointer (some ⟨db, k * 5, none⟩)) (by kernel_rfl) (by kernel_rfl) rfl (fun _ A1 W1 inv hnl hall => ⟨wanted_none rfl, ?_, rfl⟩)
          have h18 : A1.eval (.tmp 18) = .slice (some ⟨db, 0, none⟩) L.length L.length := inv.get hall 0 18 (by kernel_rfl) (by kernel_rfl) rfl
          have h19 : A1.eval (.tmp 19) = .int .i64 (k : Int) := inv.get hall 1 19 (by kernel_rfl) (by kernel_rfl) rfl
          simp only [execOp, h18, h19]
          simp [go_sem, hlt]
        · refine qstep_skip (by kernel_rfl) (by kernel_rfl) rfl (fun _ A1 W1 inv hnl hall => ⟨wanted_none rfl, ?_⟩)
          have h31 : A1.eval (.tmp 31) = .pointer (some ⟨db, k * 5, none⟩) := inv.get hall 13 31 (by kernel_rfl) (by kernel_rfl) rfl
          have h30 : A1.eval (.tmp 30) = pV ⟨ga, ⟨sa, sn, id, (mf : Nat)⟩⟩ := inv.get hall 12 30 (by kernel_rfl) (by kernel_rfl) rfl
          have hrow := inv.pre1 (j := 14) hnl (List.mem_singleton.2 rfl) (Or.inl rfl)
          have hend := put_row5 ⟨ga, ⟨sa, sn, id, (mf : Nat)⟩⟩ hrow (k := k) (by rw [HLen.out]; exact hlt)
          rw [HX.out] at hend
          obtain ⟨⟨y0, y1, y2, y3, y4, hlt2, k0, k1, k2, k3, k4⟩, f0, f1, f2, f3, f4⟩ := row5 hrow (k := k) (by rw [HLen.out]; exact hlt)
          refine ⟨_, ?_, hend, ⟨[(_, _), (_, _), (_, _), (_, _), (_, _)], rfl⟩⟩
          simp only [execOp, h31, h30]
          simp [go_sem, k0, k1, k2, k3, k4, f0, f1, f2, f3, f4]
      · intro listed A1 W1 inv hall
        have e18 : A1.eval (.tmp 18) = .slice (some ⟨db, 0, none⟩) L.length L.length := inv.fin 0 18 (by kernel_rfl) (hall 0 (Nat.lt_of_lt_of_eq (by decide : 0 < 15) (by kernel_rfl))) rfl
        have e19 : A1.eval (.tmp 19) = .int .i64 (k : Int) := inv.fin 1 19 (by kernel_rfl) (hall 1 (Nat.lt_of_lt_of_eq (by decide : 1 < 15) (by kernel_rfl))) rfl
        have e20 : A1.eval (.tmp 20) = .agg #[.int .i64 p, .bool b, .int .i64 n, .int .i64 id] := inv.fin 2 20 (by kernel_rfl) (hall 2 (Nat.lt_of_lt_of_eq (by decide : 2 < 15) (by kernel_rfl))) rfl
        have e21 : A1.eval (.tmp 21) = .iface 82 (.agg #[.int .i64 p, .bool b, .int .i64 n, .int .i64 id]) := inv.fin 3 21 (by kernel_rfl) (hall 3 (Nat.lt_of_lt_of_eq (by decide : 3 < 15) (by kernel_rfl))) rfl
        have e22 : A1.eval (.tmp 22) = .int .i64 (k : Int) := inv.fin 4 22 (by kernel_rfl) (hall 4 (Nat.lt_of_lt_of_eq (by decide : 4 < 15) (by kernel_rfl))) rfl
        have e23 : A1.eval (.tmp 23) = .agg #[.int .u64 sa, .int .u32 sn, .bool st] := inv.fin 5 23 (by kernel_rfl) (hall 5 (Nat.lt_of_lt_of_eq (by decide : 5 < 15) (by kernel_rfl))) rfl
        have e24 : A1.eval (.tmp 24) = .int .i64 (k : Int) := inv.fin 6 24 (by kernel_rfl) (hall 6 (Nat.lt_of_lt_of_eq (by decide : 6 < 15) (by kernel_rfl))) rfl
        have e25 : A1.eval (.tmp 25) = .slice (some ⟨ub, uo, none⟩) L.length uc := inv.fin 7 25 (by kernel_rfl) (hall 7 (Nat.lt_of_lt_of_eq (by decide : 7 < 15) (by kernel_rfl))) rfl
        have e26 : A1.eval (.tmp 26) = .int .i64 (L.length : Int) := inv.fin 8 26 (by kernel_rfl) (hall 8 (Nat.lt_of_lt_of_eq (by decide : 8 < 15) (by kernel_rfl))) rfl
        have e27 : A1.eval (.tmp 27) = .int .i64 ((L.length : Int) - 1) := inv.fin 9 27 (by kernel_rfl) (hall 9 (Nat.lt_of_lt_of_eq (by decide : 9 < 15) (by kernel_rfl))) rfl
        have e28 : A1.eval (.tmp 28) = .bool nx := inv.fin 10 28 (by kernel_rfl) (hall 10 (Nat.lt_of_lt_of_eq (by decide : 10 < 15) (by kernel_rfl))) rfl
        have e29 : A1.eval (.tmp 29) = paV sa sn f := inv.fin 11 29 (by kernel_rfl) (hall 11 (Nat.lt_of_lt_of_eq (by decide : 11 < 15) (by kernel_rfl))) rfl
        have e30 : A1.eval (.tmp 30) = pV ⟨ga, ⟨sa, sn, id, (mf : Nat)⟩⟩ := inv.fin 12 30 (by kernel_rfl) (hall 12 (Nat.lt_of_lt_of_eq (by decide : 12 < 15) (by kernel_rfl))) rfl
        have e31 : A1.eval (.tmp 31) = .pointer (some ⟨db, k * 5, none⟩) := inv.fin 13 31 (by kernel_rfl) (hall 13 (Nat.lt_of_lt_of_eq (by decide : 13 < 15) (by kernel_rfl))) rfl
        have hst14 := inv.fin0 14 (by kernel_rfl) (hall 14 (Nat.lt_of_lt_of_eq (by decide : 14 < 15) (by kernel_rfl))) rfl
        have HF := inv.frame hall
        have HS9 := hid_mk inv.s
        simp only [putEnd, e18, e19, e20, e21, e22, e23, e24, e25, e26, e27, e28, e29, e30, e31, Act.put, List.setIfInBounds_toArray, List.set_cons_succ, List.set_cons_zero] at HF
        clear e18 e19 e20 e21 e22 e23 e24 e25 e26 e27 e28 e29 e30 e31 inv hall
        subst HF
        have HE9 := hid_mk hst14
        have HC9 := hid_mk HS9.out.cbx
        have HO9 := hid_mk HS9.out.old
        clear HS9 hst14
        go_wp2_with fail
        go_roundw
        case rel => exact ⟨k + 1, by omega, by simp, HE9, HC9, HO9⟩
        case measure => simp [intOf]; omega
    · obtain rfl : k = L.length := by omega
      have HR := hid_mk hrow.out
      rw [HAL.out] at HR
      go_wp2_with fail
      go_ret
      exact ⟨ret_eq (by rw [hcb, hdb]; rfl), by rw [hcb, hdb]; exact HR.out, hold.out⟩
theorem meth_stab (n : Nat) (x : Value) (W : World) : (method (n + 1) 92 x "dumbwaiter/build.put").run Try.prog W = .ok (98, x) W := by kernel_rfl
set_option maxHeartbeats 4000000 in
theorem bchain3 (u : Value) (L : List Sg) (w : World) (hu : SegsAt w u L) (h0 : 0 < L.length) (hl : L.length ≤ 1000) :
    Calls Try.prog 44 #[.agg #[], u] w fun e w' => e = .returned (.slice (some ⟨w.heap.size + 1, 0, none⟩) L.length L.length) ∧ BlkAt w' (w.heap.size + 1) (dCs (stbL L)) 38 ∧ Below w.heap.size w w' := by
  rcases hu with ⟨_, rfl⟩ | ⟨ub, uo, uc, rfl, hu1, hu2, hu3⟩
  · simp at h0
  have hmk := fun W => makeD W .i64 L.length (by omega)
  have HU := hid_mk hu3
  have HL := hid_mk hl
  have HS := hid_mk bsegpart
  have hlen := stbL_len L
  have HZ := hid_mk (rowS_zero zD (stbL L))
  rw [hlen] at HZ
  have HST := hid_mk (fun k (h : k < L.length) => rowS_step (z := zD) (X := stbL L) (k := k) (by rw [hlen]; exact h))
  have HRL := hid_mk (fun k (h : k ≤ L.length) => rowS_length (z := zD) (X := stbL L) (k := k) (by rw [hlen]; exact h))
  rw [hlen] at HRL
  have HAL := hid_mk (rowS_all zD (stbL L))
  rw [hlen] at HAL
  clear hu3 hlen hl
  have hl2 : (L.length : Int) ≤ 1000 := by have := HL.out; omega
  have HC0 : Hid (BlkAt (w.alloc (.cells #[] 92)) w.heap.size [] 92) := hid_mk (blk_new _ _ _)
  have HB0 : Hid (Below w.heap.size w (w.alloc (.cells #[] 92))) := hid_mk (below_box _ _)
  obtain ⟨cb, hcb⟩ : ∃ cb, w.heap.size = cb := ⟨_, rfl⟩
  obtain ⟨db, hdb⟩ : ∃ db, cb + 1 = db := ⟨_, rfl⟩
  have HDb : Hid (w.heap.size ≤ db) := hid_mk (by omega)
  have HNC : Hid (cb ≠ db) := hid_mk (by omega)
  rw [hcb] at HC0
  go_enter Try.func44, Try.ntmps44
  go_wp2_with fail
  go_loopw [6, 7, 13] (fun _ _ i wr => ∃ k : Nat, k ≤ L.length ∧ i = .int .i64 k ∧ Hid (BlkAt wr db (dCs (rowS zD (stbL L) k)) 38) ∧ Hid (BlkAt wr cb [] 92) ∧ Hid (Below w.heap.size w wr)) (fun _ _ i _ => L.length - (intOf i).toNat)
  case atStart => exact ⟨0, Nat.zero_le _, rfl, hid_mk (by rw [HZ.out, ← hdb, ← hcb]; exact (by have := blk_new (w.alloc (.cells #[] 92)) (dCs (List.replicate L.length zD)) 38; simpa using this)), hid_mk (HC0.out.below (below_box _ _)), hid_mk (HB0.out.alloc (by simp) _)⟩
  case round =>
    obtain ⟨k, hk, rfl, hrow, hcx, hold⟩ := hrel
    by_cases hlt : k < L.length
    · obtain ⟨c0, c1, c2⟩ := (HU.out k hlt).below hold.out hu1
      have hux : ub < wr.heap.size := Nat.lt_of_lt_of_le hu1 hold.out.size
      have hki : (k : Int) < (L.length : Int) := by omega
      have hnx : decide ((k : Int) < (L.length : Int) - 1) = nxB L k := by
        unfold nxB
        rw [decide_eq_decide]
        omega
      have hk6 : (k : Int) < 1000 := by omega
      have hk7 : k < 1000 := by have := HL.out; omega
      have HS1 := hid_mk (HS.out (sat L k) (nxB L k))
      have HP := hid_mk (fun W => bstput k (if nxB L k = true then (k : Int) + 1 else 0) (sat L k).a (sat L k).n (flgN (sat L k).t (nxB L k)) (nxB L k) W (by omega) (fun h => if_pos h) (fun h => if_neg (by rw [h]; decide)) (flg_next _ _))
      have HX := hid_mk (HST.out k hlt)
      rw [dD_at, stbL_at2 hlt] at HX
      have HLen := hid_mk (HRL.out k hk)
      generalize (if nxB L k = true then (k : Int) + 1 else 0) = x1 at *
      generalize flgN (sat L k).t (nxB L k) = f at *
      generalize (sat L k).a = sa at *
      generalize (sat L k).n = sn at *
      generalize (sat L k).t = st at *
      generalize nxB L k = nx at *
      have hm := meth_stab
      have hws : w.heap.size ≤ wr.heap.size := hold.out.size
      have hdw : db < wr.heap.size := hrow.out.lt
      have HNE : Hid (wr.heap.size ≠ db) := hid_mk (by omega)
      have HES : Hid (ChD w wr.heap.size cb db [.int .u64 sa, .int .u32 sn, .bool st] [] 63 92 38 (wr.alloc (.cells #[.int .u64 sa, .int .u32 sn, .bool st] 63)).drew) := hid_mk ⟨(blk_new _ _ _).below (Below.refl _ _).drew, (hcx.out.below (below_box _ _)).below (Below.refl _ _).drew, (hold.out.alloc hold.out.size _).drew, _, (hrow.out.below (below_box _ _)).below (Below.refl _ _).drew⟩
      have HRW : Hid (BlkAt (wr.alloc (.cells #[.int .u64 sa, .int .u32 sn, .bool st] 63)).drew db (dCs (rowS zD (stbL L) k)) 38) := hid_mk ((hrow.out.below (below_box _ _)).below (Below.refl _ _).drew)
      clear HS hrow hcx hold hws hdw HZ HST HRL HAL
      go_wp2_with fail
      refine wp_region_outl3 4 [(14, PutC db)] [] [(14, fun W => BlkAt W db (dCs (rowS zD (stbL L) k)) 38)]
          [(fun v _ => v = .slice (some ⟨db, 0, none⟩) L.length L.length),
          (fun v _ => v = .int .i64 (k : Int)),
          (fun v _ => v = .agg #[]),
          (fun v _ => v = .iface 92 (.agg #[])),
          (fun v _ => v = .int .i64 (k : Int)),
          (fun v _ => v = .agg #[.int .u64 sa, .int .u32 sn, .bool st]),
          (fun v _ => v = .int .i64 (k : Int)),
          (fun v _ => v = .slice (some ⟨ub, uo, none⟩) L.length uc),
          (fun v _ => v = .int .i64 (L.length : Int)),
          (fun v _ => v = .int .i64 ((L.length : Int) - 1)),
          (fun v _ => v = .bool nx),
          (fun v _ => v = paV sa sn f),
          (fun v _ => v = dV ⟨sa, sn, f, x1⟩),
          (fun v _ => v = .pointer (some ⟨db, k * 4, none⟩)),
          (fun _ W => BlkAt W db (dCs (rowS zD (stbL L) (k + 1))) 38)]
          (ChD w wr.heap.size cb db [.int .u64 sa, .int .u32 sn, .bool st] [] 63 92 38) (by kernel_rfl) (by kernel_rfl) (by kernel_rfl) ?_ (fun u u' hb h => h.below hb) (HES.out) ?_ ?_ ?_ ?_ ?_
      · refine And.intro (up_eq _) ?_
        refine And.intro (up_eq _) ?_
        refine And.intro (up_eq _) ?_
        refine And.intro (up_eq _) ?_
        refine And.intro (up_eq _) ?_
        refine And.intro (up_eq _) ?_
        refine And.intro (up_eq _) ?_
        refine And.intro (up_eq _) ?_
        refine And.intro (up_eq _) ?_
        refine And.intro (up_eq _) ?_
        refine And.intro (up_eq _) ?_
        refine And.intro (up_eq _) ?_
        refine And.intro (up_eq _) ?_
        refine And.intro (up_eq _) ?_
        refine And.intro (up_row _ _ _) ?_
        trivial
      · refine And.intro (And.intro (fun u u' hb h => h.below hb) (fun p hp hne u u' ht h => absurd (by rw [List.mem_singleton] at hp; rw [hp]) hne)) ?_
        trivial
      · refine And.intro (HRW.out) ?_
        trivial
      · refine And.intro (And.intro ?_ (fun u u' hp h => h.put HNE.out HNC.out HDb.out hp)) ?_
        · refine And.intro (fun _ _ _ => ch_eq _ _) ?_
          refine And.intro (fun _ _ _ => ch_eq _ _) ?_
          refine And.intro (fun _ _ _ => ch_eq _ _) ?_
          refine And.intro (fun _ _ _ => ch_eq _ _) ?_
          refine And.intro (fun _ _ _ => ch_eq _ _) ?_
          refine And.intro (fun _ _ _ => ch_eq _ _) ?_
          refine And.intro (fun _ _ _ => ch_eq _ _) ?_
          refine And.intro (fun _ _ _ => ch_eq _ _) ?_
          refine And.intro (fun _ _ _ => ch_eq _ _) ?_
          refine And.intro (fun _ _ _ => ch_eq _ _) ?_
          refine And.intro (fun _ _ _ => ch_eq _ _) ?_
          refine And.intro (fun _ _ _ => ch_eq _ _) ?_
          refine And.intro (fun _ _ _ => ch_eq _ _) ?_
          refine And.intro (fun _ _ _ => ch_eq _ _) ?_
          refine And.intro (fun h _ _ => absurd rfl h) ?_
          trivial
        trivial
      · refine And.intro ?_ (And.intro ?_ (And.intro ?_ (And.intro ?_ (And.intro ?_ (And.intro ?_ (And.intro ?_ (And.intro ?_ (And.intro ?_ (And.intro ?_ (And.intro ?_ (And.intro ?_ (And.intro ?_ (And.intro ?_ (And.intro ?_ (True.intro)))))))))))))))
        · refine qstep_val (.slice (some ⟨db, 0, none⟩) L.length L.length) (by kernel_rfl) (by kernel_rfl) rfl (fun _ A1 W1 inv hnl hall => ⟨wanted_none rfl, ?_, rfl⟩)
          have h5 : A1.eval (.tmp 5) = .slice (some ⟨db, 0, none⟩) L.length L.length := (inv.base 5 (by kernel_rfl)).trans rfl
          simp only [execOp, h5, Sem.run_pure]
        · refine qstep_val (.int .i64 (k : Int)) (by kernel_rfl) (by kernel_rfl) rfl (fun _ A1 W1 inv hnl hall => ⟨wanted_none rfl, ?_, rfl⟩)
          have h6 : A1.eval (.tmp 6) = .int .i64 (k : Int) := (inv.base 6 (by kernel_rfl)).trans rfl
          simp only [execOp, h6, Sem.run_pure]
        · refine qstep_val (.agg #[]) (by kernel_rfl) (by kernel_rfl) rfl (fun _ A1 W1 inv hnl hall => ⟨wanted_none rfl, ?_, rfl⟩)
          have h2 : A1.eval (.tmp 2) = .pointer (some ⟨cb, 0, none⟩) := (inv.base 2 (by kernel_rfl)).trans rfl
          simp only [execOp, h2]
          simp [go_sem]
        · refine qstep_val (.iface 92 (.agg #[])) (by kernel_rfl) (by kernel_rfl) rfl (fun _ A1 W1 inv hnl hall => ⟨wanted_none rfl, ?_, rfl⟩)
          have h20 : A1.eval (.tmp 20) = .agg #[] := inv.get hall 2 20 (by kernel_rfl) (by kernel_rfl) rfl
          simp only [execOp, h20]
          rfl
        · refine qstep_val (.int .i64 (k : Int)) (by kernel_rfl) (by kernel_rfl) rfl (fun _ A1 W1 inv hnl hall => ⟨wanted_none rfl, ?_, rfl⟩)
          have h6 : A1.eval (.tmp 6) = .int .i64 (k : Int) := (inv.base 6 (by kernel_rfl)).trans rfl
          simp only [execOp, h6, Sem.run_pure]
        · refine qstep_val (.agg #[.int .u64 sa, .int .u32 sn, .bool st]) (by kernel_rfl) (by kernel_rfl) rfl (fun _ A1 W1 inv hnl hall => ⟨wanted_none rfl, ?_, rfl⟩)
          have h7 : A1.eval (.tmp 7) = .pointer (some ⟨wr.heap.size, 0, none⟩) := (inv.base 7 (by kernel_rfl)).trans rfl
          have g0 := inv.s.box.cell 0
          have g1 := inv.s.box.cell 1
          have g2 := inv.s.box.cell 2
          simp at g0 g1 g2
          simp only [execOp, h7]
          simp [go_sem, g0, g1, g2]
        · refine qstep_val (.int .i64 (k : Int)) (by kernel_rfl) (by kernel_rfl) rfl (fun _ A1 W1 inv hnl hall => ⟨wanted_none rfl, ?_, rfl⟩)
          have h6 : A1.eval (.tmp 6) = .int .i64 (k : Int) := (inv.base 6 (by kernel_rfl)).trans rfl
          simp only [execOp, h6, Sem.run_pure]
        · refine qstep_val (.slice (some ⟨ub, uo, none⟩) L.length uc) (by kernel_rfl) (by kernel_rfl) rfl (fun _ A1 W1 inv hnl hall => ⟨wanted_none rfl, ?_, rfl⟩)
          have h1 : A1.eval (.tmp 1) = .slice (some ⟨ub, uo, none⟩) L.length uc := (inv.base 1 (by kernel_rfl)).trans rfl
          simp only [execOp, h1, Sem.run_pure]
        · refine qstep_val (.int .i64 (L.length : Int)) (by kernel_rfl) (by kernel_rfl) rfl (fun _ A1 W1 inv hnl hall => ⟨wanted_none rfl, ?_, rfl⟩)
          have h25 : A1.eval (.tmp 25) = .slice (some ⟨ub, uo, none⟩) L.length uc := inv.get hall 7 25 (by kernel_rfl) (by kernel_rfl) rfl
          simp only [execOp]
          simp [resolve, invoke, builtin, h25, Result.andThen]
          simp [go_sem]
        · refine qstep_val (.int .i64 ((L.length : Int) - 1)) (by kernel_rfl) (by kernel_rfl) rfl (fun _ A1 W1 inv hnl hall => ⟨wanted_none rfl, ?_, rfl⟩)
          have h26 : A1.eval (.tmp 26) = .int .i64 (L.length : Int) := inv.get hall 8 26 (by kernel_rfl) (by kernel_rfl) rfl
          simp only [execOp, h26, eval_c2]
          have hw : IntKind.i64.wrap ((L.length : Int) - 1) = (L.length : Int) - 1 := IntWalk.i64_in _ (by have := HL.out; omega)
          simp [go_sem, hw]
        · refine qstep_val (.bool nx) (by kernel_rfl) (by kernel_rfl) rfl (fun _ A1 W1 inv hnl hall => ⟨wanted_none rfl, ?_, rfl⟩)
          have h24 : A1.eval (.tmp 24) = .int .i64 (k : Int) := inv.get hall 6 24 (by kernel_rfl) (by kernel_rfl) rfl
          have h27 : A1.eval (.tmp 27) = .int .i64 ((L.length : Int) - 1) := inv.get hall 9 27 (by kernel_rfl) (by kernel_rfl) rfl
          simp only [execOp, h24, h27]
          simp [go_sem, hnx]
        · refine qstep_call 60 (by kernel_rfl) _ _ (by kernel_rfl) (by kernel_rfl) rfl rfl (fun _ A1 W1 inv hnl hall => ⟨wanted_none rfl, #[.agg #[.int .u64 sa, .int .u32 sn, .bool st], .bool nx], ?_, ?_⟩)
          · have h23 : A1.eval (.tmp 23) = .agg #[.int .u64 sa, .int .u32 sn, .bool st] := inv.get hall 5 23 (by kernel_rfl) (by kernel_rfl) rfl
            have h28 : A1.eval (.tmp 28) = .bool nx := inv.get hall 10 28 (by kernel_rfl) (by kernel_rfl) rfl
            simp [h23, h28]
          · refine (HS1.out _).mono ?_
            rintro e u ⟨rfl, hb⟩
            exact ⟨_, rfl, rfl, hb⟩
        · refine qstep_inv 98 (by kernel_rfl) 21 _ _ _ (by kernel_rfl) (by kernel_rfl) rfl rfl (fun _ A1 W1 inv hnl hall => ⟨wanted_none rfl, 92, .agg #[], .agg #[], #[.int .i64 k, paV sa sn f], ?_, ?_, ?_, ?_⟩)
          · have h21 : A1.eval (.tmp 21) = .iface 92 (.agg #[]) := inv.get hall 3 21 (by kernel_rfl) (by kernel_rfl) rfl
            exact h21
          · exact hm _ _ _
          · have h22 : A1.eval (.tmp 22) = .int .i64 (k : Int) := inv.get hall 4 22 (by kernel_rfl) (by kernel_rfl) rfl
            have h29 : A1.eval (.tmp 29) = paV sa sn f := inv.get hall 11 29 (by kernel_rfl) (by kernel_rfl) rfl
            simp [h22, h29]
          · refine (HP.out _).mono ?_
            rintro e u ⟨rfl, hb⟩
            exact ⟨_, rfl, rfl, hb⟩
        · refine qstep_val (.pointer (some ⟨db, k * 4, none⟩)) (by kernel_rfl) (by kernel_rfl) rfl (fun _ A1 W1 inv hnl hall => ⟨wanted_none rfl, ?_, rfl⟩)
          have h18 : A1.eval (.tmp 18) = .slice (some ⟨db, 0, none⟩) L.length L.length := inv.get hall 0 18 (by kernel_rfl) (by kernel_rfl) rfl
          have h19 : A1.eval (.tmp 19) = .int .i64 (k : Int) := inv.get hall 1 19 (by kernel_rfl) (by kernel_rfl) rfl
          simp only [execOp, h18, h19]
          simp [go_sem, hlt]
        · refine qstep_skip (by kernel_rfl) (by kernel_rfl) rfl (fun _ A1 W1 inv hnl hall => ⟨wanted_none rfl, ?_⟩)
          have h31 : A1.eval (.tmp 31) = .pointer (some ⟨db, k * 4, none⟩) := inv.get hall 13 31 (by kernel_rfl) (by kernel_rfl) rfl
          have h30 : A1.eval (.tmp 30) = dV ⟨sa, sn, f, x1⟩ := inv.get hall 12 30 (by kernel_rfl) (by kernel_rfl) rfl
          have hrow := inv.pre1 (j := 14) hnl (List.mem_singleton.2 rfl) (Or.inl rfl)
          have hend := put_row4 ⟨sa, sn, f, x1⟩ hrow (k := k) (by rw [HLen.out]; exact hlt)
          rw [HX.out] at hend
          obtain ⟨⟨y0, y1, y2, y3, hlt2, k0, k1, k2, k3⟩, f0, f1, f2, f3⟩ := row4 hrow (k := k) (by rw [HLen.out]; exact hlt)
          refine ⟨_, ?_, hend, ⟨[(_, _), (_, _), (_, _), (_, _)], rfl⟩⟩
          simp only [execOp, h31, h30]
          simp [go_sem, k0, k1, k2, k3, f0, f1, f2, f3]
      · intro listed A1 W1 inv hall
        have e18 : A1.eval (.tmp 18) = .slice (some ⟨db, 0, none⟩) L.length L.length := inv.fin 0 18 (by kernel_rfl) (hall 0 (Nat.lt_of_lt_of_eq (by decide : 0 < 15) (by kernel_rfl))) rfl
        have e19 : A1.eval (.tmp 19) = .int .i64 (k : Int) := inv.fin 1 19 (by kernel_rfl) (hall 1 (Nat.lt_of_lt_of_eq (by decide : 1 < 15) (by kernel_rfl))) rfl
        have e20 : A1.eval (.tmp 20) = .agg #[] := inv.fin 2 20 (by kernel_rfl) (hall 2 (Nat.lt_of_lt_of_eq (by decide : 2 < 15) (by kernel_rfl))) rfl
        have e21 : A1.eval (.tmp 21) = .iface 92 (.agg #[]) := inv.fin 3 21 (by kernel_rfl) (hall 3 (Nat.lt_of_lt_of_eq (by decide : 3 < 15) (by kernel_rfl))) rfl
        have e22 : A1.eval (.tmp 22) = .int .i64 (k : Int) := inv.fin 4 22 (by kernel_rfl) (hall 4 (Nat.lt_of_lt_of_eq (by decide : 4 < 15) (by kernel_rfl))) rfl
        have e23 : A1.eval (.tmp 23) = .agg #[.int .u64 sa, .int .u32 sn, .bool st] := inv.fin 5 23 (by kernel_rfl) (hall 5 (Nat.lt_of_lt_of_eq (by decide : 5 < 15) (by kernel_rfl))) rfl
        have e24 : A1.eval (.tmp 24) = .int .i64 (k : Int) := inv.fin 6 24 (by kernel_rfl) (hall 6 (Nat.lt_of_lt_of_eq (by decide : 6 < 15) (by kernel_rfl))) rfl
        have e25 : A1.eval (.tmp 25) = .slice (some ⟨ub, uo, none⟩) L.length uc := inv.fin 7 25 (by kernel_rfl) (hall 7 (Nat.lt_of_lt_of_eq (by decide : 7 < 15) (by kernel_rfl))) rfl
        have e26 : A1.eval (.tmp 26) = .int .i64 (L.length : Int) := inv.fin 8 26 (by kernel_rfl) (hall 8 (Nat.lt_of_lt_of_eq (by decide : 8 < 15) (by kernel_rfl))) rfl
        have e27 : A1.eval (.tmp 27) = .int .i64 ((L.length : Int) - 1) := inv.fin 9 27 (by kernel_rfl) (hall 9 (Nat.lt_of_lt_of_eq (by decide : 9 < 15) (by kernel_rfl))) rfl
        have e28 : A1.eval (.tmp 28) = .bool nx := inv.fin 10 28 (by kernel_rfl) (hall 10 (Nat.lt_of_lt_of_eq (by decide : 10 < 15) (by kernel_rfl))) rfl
        have e29 : A1.eval (.tmp 29) = paV sa sn f := inv.fin 11 29 (by kernel_rfl) (hall 11 (Nat.lt_of_lt_of_eq (by decide : 11 < 15) (by kernel_rfl))) rfl
        have e30 : A1.eval (.tmp 30) = dV ⟨sa, sn, f, x1⟩ := inv.fin 12 30 (by kernel_rfl) (hall 12 (Nat.lt_of_lt_of_eq (by decide : 12 < 15) (by kernel_rfl))) rfl
        have e31 : A1.eval (.tmp 31) = .pointer (some ⟨db, k * 4, none⟩) := inv.fin 13 31 (by kernel_rfl) (hall 13 (Nat.lt_of_lt_of_eq (by decide : 13 < 15) (by kernel_rfl))) rfl
        have hst14 := inv.fin0 14 (by kernel_rfl) (hall 14 (Nat.lt_of_lt_of_eq (by decide : 14 < 15) (by kernel_rfl))) rfl
        have HF := inv.frame hall
        have HS9 := hid_mk inv.s
        simp only [putEnd, e18, e19, e20, e21, e22, e23, e24, e25, e26, e27, e28, e29, e30, e31, Act.put, List.setIfInBounds_toArray, List.set_cons_succ, List.set_cons_zero] at HF
        clear e18 e19 e20 e21 e22 e23 e24 e25 e26 e27 e28 e29 e30 e31 inv hall
        subst HF
        have HE9 := hid_mk hst14
        have HC9 := hid_mk HS9.out.cbx
        have HO9 := hid_mk HS9.out.old
        clear HS9 hst14
        go_wp2_with fail
        go_roundw
        case rel => exact ⟨k + 1, by omega, by simp, HE9, HC9, HO9⟩
        case measure => simp [intOf]; omega
    · obtain rfl : k = L.length := by omega
      have HR := hid_mk hrow.out
      rw [HAL.out] at HR
      go_wp2_with fail
      go_ret
      exact ⟨ret_eq (by rw [hcb, hdb]; rfl), by rw [hcb, hdb]; exact HR.out, hold.out⟩
theorem meth_ptab (n : Nat) (x : Value) (W : World) : (method (n + 1) 101 x "dumbwaiter/build.put").run Try.prog W = .ok (99, x) W := by kernel_rfl
set_option maxHeartbeats 4000000 in
theorem bchain4 (u : Value) (L : List Sg) (w : World) (hu : SegsAt w u L) (h0 : 0 < L.length) (hl : L.length ≤ 1000) :
    Calls Try.prog 50 #[.agg #[], u] w fun e w' => e = .returned (.slice (some ⟨w.heap.size + 1, 0, none⟩) L.length L.length) ∧ BlkAt w' (w.heap.size + 1) (dCs (ptbL L)) 44 ∧ Below w.heap.size w w' := by
  rcases hu with ⟨_, rfl⟩ | ⟨ub, uo, uc, rfl, hu1, hu2, hu3⟩
  · simp at h0
  have hmk := fun W => makePacked W .i64 L.length (by omega)
  have HU := hid_mk hu3
  have HL := hid_mk hl
  have HS := hid_mk bsegpart
  have hlen := ptbL_len L
  have HZ := hid_mk (rowS_zero zD (ptbL L))
  rw [hlen] at HZ
  have HST := hid_mk (fun k (h : k < L.length) => rowS_step (z := zD) (X := ptbL L) (k := k) (by rw [hlen]; exact h))
  have HRL := hid_mk (fun k (h : k ≤ L.length) => rowS_length (z := zD) (X := ptbL L) (k := k) (by rw [hlen]; exact h))
  rw [hlen] at HRL
  have HAL := hid_mk (rowS_all zD (ptbL L))
  rw [hlen] at HAL
  clear hu3 hlen hl
  have hl2 : (L.length : Int) ≤ 1000 := by have := HL.out; omega
  have HC0 : Hid (BlkAt (w.alloc (.cells #[] 101)) w.heap.size [] 101) := hid_mk (blk_new _ _ _)
  have HB0 : Hid (Below w.heap.size w (w.alloc (.cells #[] 101))) := hid_mk (below_box _ _)
  obtain ⟨cb, hcb⟩ : ∃ cb, w.heap.size = cb := ⟨_, rfl⟩
  obtain ⟨db, hdb⟩ : ∃ db, cb + 1 = db := ⟨_, rfl⟩
  have HDb : Hid (w.heap.size ≤ db) := hid_mk (by omega)
  have HNC : Hid (cb ≠ db) := hid_mk (by omega)
  rw [hcb] at HC0
  go_enter Try.func50, Try.ntmps50
  go_wp2_with fail
  go_loopw [6, 7, 13] (fun _ _ i wr => ∃ k : Nat, k ≤ L.length ∧ i = .int .i64 k ∧ Hid (BlkAt wr db (dCs (rowS zD (ptbL L) k)) 44) ∧ Hid (BlkAt wr cb [] 101) ∧ Hid (Below w.heap.size w wr)) (fun _ _ i _ => L.length - (intOf i).toNat)
  case atStart => exact ⟨0, Nat.zero_le _, rfl, hid_mk (by rw [HZ.out, ← hdb, ← hcb]; exact (by have := blk_new (w.alloc (.cells #[] 101)) (dCs (List.replicate L.length zD)) 44; simpa using this)), hid_mk (HC0.out.below (below_box _ _)), hid_mk (HB0.out.alloc (by simp) _)⟩
  case round =>
    obtain ⟨k, hk, rfl, hrow, hcx, hold⟩ := hrel
    by_cases hlt : k < L.length
    · obtain ⟨c0, c1, c2⟩ := (HU.out k hlt).below hold.out hu1
      have hux : ub < wr.heap.size := Nat.lt_of_lt_of_le hu1 hold.out.size
      have hki : (k : Int) < (L.length : Int) := by omega
      have hnx : decide ((k : Int) < (L.length : Int) - 1) = nxB L k := by
        unfold nxB
        rw [decide_eq_decide]
        omega
      have hk6 : (k : Int) < 1000 := by omega
      have hk7 : k < 1000 := by have := HL.out; omega
      have HS1 := hid_mk (HS.out (sat L k) (nxB L k))
      have HP := hid_mk (fun W => bptput (k : Int) (sat L k).a (sat L k).n (sat L k).t (nxB L k) W)
      have HX := hid_mk (HST.out k hlt)
      rw [dD_at, ptbL_at2 hlt] at HX
      unfold ptbD at HX
      have HLen := hid_mk (HRL.out k hk)
      generalize (flgN (sat L k).t false) = g at *
      generalize flgN (sat L k).t (nxB L k) = f at *
      generalize (sat L k).a = sa at *
      generalize (sat L k).n = sn at *
      generalize (sat L k).t = st at *
      generalize nxB L k = nx at *
      have hm := meth_ptab
      have hws : w.heap.size ≤ wr.heap.size := hold.out.size
      have hdw : db < wr.heap.size := hrow.out.lt
      have HNE : Hid (wr.heap.size ≠ db) := hid_mk (by omega)
      have HES : Hid (ChD w wr.heap.size cb db [.int .u64 sa, .int .u32 sn, .bool st] [] 63 101 44 (wr.alloc (.cells #[.int .u64 sa, .int .u32 sn, .bool st] 63)).drew) := hid_mk ⟨(blk_new _ _ _).below (Below.refl _ _).drew, (hcx.out.below (below_box _ _)).below (Below.refl _ _).drew, (hold.out.alloc hold.out.size _).drew, _, (hrow.out.below (below_box _ _)).below (Below.refl _ _).drew⟩
      have HRW : Hid (BlkAt (wr.alloc (.cells #[.int .u64 sa, .int .u32 sn, .bool st] 63)).drew db (dCs (rowS zD (ptbL L) k)) 44) := hid_mk ((hrow.out.below (below_box _ _)).below (Below.refl _ _).drew)
      clear HS hrow hcx hold hws hdw HZ HST HRL HAL
      go_wp2_with fail
      refine wp_region_outl3 4 [(14, PutC db)] [] [(14, fun W => BlkAt W db (dCs (rowS zD (ptbL L) k)) 44)]
          [(fun v _ => v = .slice (some ⟨db, 0, none⟩) L.length L.length),
          (fun v _ => v = .int .i64 (k : Int)),
          (fun v _ => v = .agg #[]),
          (fun v _ => v = .iface 101 (.agg #[])),
          (fun v _ => v = .int .i64 (k : Int)),
          (fun v _ => v = .agg #[.int .u64 sa, .int .u32 sn, .bool st]),
          (fun v _ => v = .int .i64 (k : Int)),
          (fun v _ => v = .slice (some ⟨ub, uo, none⟩) L.length uc),
          (fun v _ => v = .int .i64 (L.length : Int)),
          (fun v _ => v = .int .i64 ((L.length : Int) - 1)),
          (fun v _ => v = .bool nx),
          (fun v _ => v = paV sa sn f),
          (fun v _ => v = dV ⟨sa, sn, 0, (g : Nat)⟩),
          (fun v _ => v = .pointer (some ⟨db, k * 4, none⟩)),
          (fun _ W => BlkAt W db (dCs (rowS zD (ptbL L) (k + 1))) 44)]
          (ChD w wr.heap.size cb db [.int .u64 sa, .int .u32 sn, .bool st] [] 63 101 44) (by kernel_rfl) (by kernel_rfl) (by kernel_rfl) ?_ (fun u u' hb h => h.below hb) (HES.out) ?_ ?_ ?_ ?_ ?_
      · refine And.intro (up_eq _) ?_
        refine And.intro (up_eq _) ?_
        refine And.intro (up_eq _) ?_
        refine And.intro (up_eq _) ?_
        refine And.intro (up_eq _) ?_
        refine And.intro (up_eq _) ?_
        refine And.intro (up_eq _) ?_
        refine And.intro (up_eq _) ?_
        refine And.intro (up_eq _) ?_
        refine And.intro (up_eq _) ?_
        refine And.intro (up_eq _) ?_
        refine And.intro (up_eq _) ?_
        refine And.intro (up_eq _) ?_
        refine And.intro (up_eq _) ?_
        refine And.intro (up_row _ _ _) ?_
        trivial
      · refine And.intro (And.intro (fun u u' hb h => h.below hb) (fun p hp hne u u' ht h => absurd (by rw [List.mem_singleton] at hp; rw [hp]) hne)) ?_
        trivial
      · refine And.intro (HRW.out) ?_
        trivial
      · refine And.intro (And.intro ?_ (fun u u' hp h => h.put HNE.out HNC.out HDb.out hp)) ?_
        · refine And.intro (fun _ _ _ => ch_eq _ _) ?_
          refine And.intro (fun _ _ _ => ch_eq _ _) ?_
          refine And.intro (fun _ _ _ => ch_eq _ _) ?_
          refine And.intro (fun _ _ _ => ch_eq _ _) ?_
          refine And.intro (fun _ _ _ => ch_eq _ _) ?_
          refine And.intro (fun _ _ _ => ch_eq _ _) ?_
          refine And.intro (fun _ _ _ => ch_eq _ _) ?_
          refine And.intro (fun _ _ _ => ch_eq _ _) ?_
          refine And.intro (fun _ _ _ => ch_eq _ _) ?_
          refine And.intro (fun _ _ _ => ch_eq _ _) ?_
          refine And.intro (fun _ _ _ => ch_eq _ _) ?_
          refine And.intro (fun _ _ _ => ch_eq _ _) ?_
          refine And.intro (fun _ _ _ => ch_eq _ _) ?_
          refine And.intro (fun _ _ _ => ch_eq _ _) ?_
          refine And.intro (fun h _ _ => absurd rfl h) ?_
          trivial
        trivial
      · refine And.intro ?_ (And.intro ?_ (And.intro ?_ (And.intro ?_ (And.intro ?_ (And.intro ?_ (And.intro ?_ (And.intro ?_ (And.intro ?_ (And.intro ?_ (And.intro ?_ (And.intro ?_ (And.intro ?_ (And.intro ?_ (And.intro ?_ (True.intro)))))))))))))))
        · refine qstep_val (.slice (some ⟨db, 0, none⟩) L.length L.length) (by kernel_rfl) (by kernel_rfl) rfl (fun _ A1 W1 inv hnl hall => ⟨wanted_none rfl, ?_, rfl⟩)
          have h5 : A1.eval (.tmp 5) = .slice (some ⟨db, 0, none⟩) L.length L.length := (inv.base 5 (by kernel_rfl)).trans rfl
          simp only [execOp, h5, Sem.run_pure]
        · refine qstep_val (.int .i64 (k : Int)) (by kernel_rfl) (by kernel_rfl) rfl (fun _ A1 W1 inv hnl hall => ⟨wanted_none rfl, ?_, rfl⟩)
          have h6 : A1.eval (.tmp 6) = .int .i64 (k : Int) := (inv.base 6 (by kernel_rfl)).trans rfl
          simp only [execOp, h6, Sem.run_pure]
        · refine qstep_val (.agg #[]) (by kernel_rfl) (by kernel_rfl) rfl (fun _ A1 W1 inv hnl hall => ⟨wanted_none rfl, ?_, rfl⟩)
          have h2 : A1.eval (.tmp 2) = .pointer (some ⟨cb, 0, none⟩) := (inv.base 2 (by kernel_rfl)).trans rfl
          simp only [execOp, h2]
          simp [go_sem]
        · refine qstep_val (.iface 101 (.agg #[])) (by kernel_rfl) (by kernel_rfl) rfl (fun _ A1 W1 inv hnl hall => ⟨wanted_none rfl, ?_, rfl⟩)
          have h20 : A1.eval (.tmp 20) = .agg #[] := inv.get hall 2 20 (by kernel_rfl) (by kernel_rfl) rfl
          simp only [execOp, h20]
          rfl
        · refine qstep_val (.int .i64 (k : Int)) (by kernel_rfl) (by kernel_rfl) rfl (fun _ A1 W1 inv hnl hall => ⟨wanted_none rfl, ?_, rfl⟩)
          have h6 : A1.eval (.tmp 6) = .int .i64 (k : Int) := (inv.base 6 (by kernel_rfl)).trans rfl
          simp only [execOp, h6, Sem.run_pure]
        · refine qstep_val (.agg #[.int .u64 sa, .int .u32 sn, .bool st]) (by kernel_rfl) (by kernel_rfl) rfl (fun _ A1 W1 inv hnl hall => ⟨wanted_none rfl, ?_, rfl⟩)
          have h7 : A1.eval (.tmp 7) = .pointer (some ⟨wr.heap.size, 0, none⟩) := (inv.base 7 (by kernel_rfl)).trans rfl
          have g0 := inv.s.box.cell 0
          have g1 := inv.s.box.cell 1
          have g2 := inv.s.box.cell 2
          simp at g0 g1 g2
          simp only [execOp, h7]
          simp [go_sem, g0, g1, g2]
        · refine qstep_val (.int .i64 (k : Int)) (by kernel_rfl) (by kernel_rfl) rfl (fun _ A1 W1 inv hnl hall => ⟨wanted_none rfl, ?_, rfl⟩)
          have h6 : A1.eval (.tmp 6) = .int .i64 (k : Int) := (inv.base 6 (by kernel_rfl)).trans rfl
          simp only [execOp, h6, Sem.run_pure]
        · refine qstep_val (.slice (some ⟨ub, uo, none⟩) L.length uc) (by kernel_rfl) (by kernel_rfl) rfl (fun _ A1 W1 inv hnl hall => ⟨wanted_none rfl, ?_, rfl⟩)
          have h1 : A1.eval (.tmp 1) = .slice (some ⟨ub, uo, none⟩) L.length uc := (inv.base 1 (by kernel_rfl)).trans rfl
          simp only [execOp, h1, Sem.run_pure]
        · refine qstep_val (.int .i64 (L.length : Int)) (by kernel_rfl) (by kernel_rfl) rfl (fun _ A1 W1 inv hnl hall => ⟨wanted_none rfl, ?_, rfl⟩)
          have h25 : A1.eval (.tmp 25) = .slice (some ⟨ub, uo, none⟩) L.length uc := inv.get hall 7 25 (by kernel_rfl) (by kernel_rfl) rfl
          simp only [execOp]
          simp [resolve, invoke, builtin, h25, Result.andThen]
          simp [go_sem]
        · refine qstep_val (.int .i64 ((L.length : Int) - 1)) (by kernel_rfl) (by kernel_rfl) rfl (fun _ A1 W1 inv hnl hall => ⟨wanted_none rfl, ?_, rfl⟩)
          have h26 : A1.eval (.tmp 26) = .int .i64 (L.length : Int) := inv.get hall 8 26 (by kernel_rfl) (by kernel_rfl) rfl
          simp only [execOp, h26, eval_c2]
          have hw : IntKind.i64.wrap ((L.length : Int) - 1) = (L.length : Int) - 1 := IntWalk.i64_in _ (by have := HL.out; omega)
          simp [go_sem, hw]
        · refine qstep_val (.bool nx) (by kernel_rfl) (by kernel_rfl) rfl (fun _ A1 W1 inv hnl hall => ⟨wanted_none rfl, ?_, rfl⟩)
          have h24 : A1.eval (.tmp 24) = .int .i64 (k : Int) := inv.get hall 6 24 (by kernel_rfl) (by kernel_rfl) rfl
          have h27 : A1.eval (.tmp 27) = .int .i64 ((L.length : Int) - 1) := inv.get hall 9 27 (by kernel_rfl) (by kernel_rfl) rfl
          simp only [execOp, h24, h27]
          simp [go_sem, hnx]
        · refine qstep_call 60 (by kernel_rfl) _ _ (by kernel_rfl) (by kernel_rfl) rfl rfl (fun _ A1 W1 inv hnl hall => ⟨wanted_none rfl, #[.agg #[.int .u64 sa, .int .u32 sn, .bool st], .bool nx], ?_, ?_⟩)
          · have h23 : A1.eval (.tmp 23) = .agg #[.int .u64 sa, .int .u32 sn, .bool st] := inv.get hall 5 23 (by kernel_rfl) (by kernel_rfl) rfl
            have h28 : A1.eval (.tmp 28) = .bool nx := inv.get hall 10 28 (by kernel_rfl) (by kernel_rfl) rfl
            simp [h23, h28]
          · refine (HS1.out _).mono ?_
            rintro e u ⟨rfl, hb⟩
            exact ⟨_, rfl, rfl, hb⟩
        · refine qstep_inv 99 (by kernel_rfl) 21 _ _ _ (by kernel_rfl) (by kernel_rfl) rfl rfl (fun _ A1 W1 inv hnl hall => ⟨wanted_none rfl, 101, .agg #[], .agg #[], #[.int .i64 k, paV sa sn f], ?_, ?_, ?_, ?_⟩)
          · have h21 : A1.eval (.tmp 21) = .iface 101 (.agg #[]) := inv.get hall 3 21 (by kernel_rfl) (by kernel_rfl) rfl
            exact h21
          · exact hm _ _ _
          · have h22 : A1.eval (.tmp 22) = .int .i64 (k : Int) := inv.get hall 4 22 (by kernel_rfl) (by kernel_rfl) rfl
            have h29 : A1.eval (.tmp 29) = paV sa sn f := inv.get hall 11 29 (by kernel_rfl) (by kernel_rfl) rfl
            simp [h22, h29]
          · refine (HP.out _).mono ?_
            rintro e u ⟨rfl, hb⟩
            exact ⟨_, rfl, rfl, hb⟩
        · refine qstep_val (.pointer (some ⟨db, k * 4, none⟩)) (by kernel_rfl) (by kernel_rfl) rfl (fun _ A1 W1 inv hnl hall => ⟨wanted_none rfl, ?_, rfl⟩)
          have h18 : A1.eval (.tmp 18) = .slice (some ⟨db, 0, none⟩) L.length L.length := inv.get hall 0 18 (by kernel_rfl) (by kernel_rfl) rfl
          have h19 : A1.eval (.tmp 19) = .int .i64 (k : Int) := inv.get hall 1 19 (by kernel_rfl) (by kernel_rfl) rfl
          simp only [execOp, h18, h19]
          simp [go_sem, hlt]
        · refine qstep_skip (by kernel_rfl) (by kernel_rfl) rfl (fun _ A1 W1 inv hnl hall => ⟨wanted_none rfl, ?_⟩)
          have h31 : A1.eval (.tmp 31) = .pointer (some ⟨db, k * 4, none⟩) := inv.get hall 13 31 (by kernel_rfl) (by kernel_rfl) rfl
          have h30 : A1.eval (.tmp 30) = dV ⟨sa, sn, 0, (g : Nat)⟩ := inv.get hall 12 30 (by kernel_rfl) (by kernel_rfl) rfl
          have hrow := inv.pre1 (j := 14) hnl (List.mem_singleton.2 rfl) (Or.inl rfl)
          have hend := put_row4 ⟨sa, sn, 0, (g : Nat)⟩ hrow (k := k) (by rw [HLen.out]; exact hlt)
          rw [HX.out] at hend
          obtain ⟨⟨y0, y1, y2, y3, hlt2, k0, k1, k2, k3⟩, f0, f1, f2, f3⟩ := row4 hrow (k := k) (by rw [HLen.out]; exact hlt)
          refine ⟨_, ?_, hend, ⟨[(_, _), (_, _), (_, _), (_, _)], rfl⟩⟩
          simp only [execOp, h31, h30]
          simp [go_sem, k0, k1, k2, k3, f0, f1, f2, f3]
      · intro listed A1 W1 inv hall
        have e18 : A1.eval (.tmp 18) = .slice (some ⟨db, 0, none⟩) L.length L.length := inv.fin 0 18 (by kernel_rfl) (hall 0 (Nat.lt_of_lt_of_eq (by decide : 0 < 15) (by kernel_rfl))) rfl
        have e19 : A1.eval (.tmp 19) = .int .i64 (k : Int) := inv.fin 1 19 (by kernel_rfl) (hall 1 (Nat.lt_of_lt_of_eq (by decide : 1 < 15) (by kernel_rfl))) rfl
        have e20 : A1.eval (.tmp 20) = .agg #[] := inv.fin 2 20 (by kernel_rfl) (hall 2 (Nat.lt_of_lt_of_eq (by decide : 2 < 15) (by kernel_rfl))) rfl
        have e21 : A1.eval (.tmp 21) = .iface 101 (.agg #[]) := inv.fin 3 21 (by kernel_rfl) (hall 3 (Nat.lt_of_lt_of_eq (by decide : 3 < 15) (by kernel_rfl))) rfl
        have e22 : A1.eval (.tmp 22) = .int .i64 (k : Int) := inv.fin 4 22 (by kernel_rfl) (hall 4 (Nat.lt_of_lt_of_eq (by decide : 4 < 15) (by kernel_rfl))) rfl
        have e23 : A1.eval (.tmp 23) = .agg #[.int .u64 sa, .int .u32 sn, .bool st] := inv.fin 5 23 (by kernel_rfl) (hall 5 (Nat.lt_of_lt_of_eq (by decide : 5 < 15) (by kernel_rfl))) rfl
        have e24 : A1.eval (.tmp 24) = .int .i64 (k : Int) := inv.fin 6 24 (by kernel_rfl) (hall 6 (Nat.lt_of_lt_of_eq (by decide : 6 < 15) (by kernel_rfl))) rfl
        have e25 : A1.eval (.tmp 25) = .slice (some ⟨ub, uo, none⟩) L.length uc := inv.fin 7 25 (by kernel_rfl) (hall 7 (Nat.lt_of_lt_of_eq (by decide : 7 < 15) (by kernel_rfl))) rfl
        have e26 : A1.eval (.tmp 26) = .int .i64 (L.length : Int) := inv.fin 8 26 (by kernel_rfl) (hall 8 (Nat.lt_of_lt_of_eq (by decide : 8 < 15) (by kernel_rfl))) rfl
        have e27 : A1.eval (.tmp 27) = .int .i64 ((L.length : Int) - 1) := inv.fin 9 27 (by kernel_rfl) (hall 9 (Nat.lt_of_lt_of_eq (by decide : 9 < 15) (by kernel_rfl))) rfl
        have e28 : A1.eval (.tmp 28) = .bool nx := inv.fin 10 28 (by kernel_rfl) (hall 10 (Nat.lt_of_lt_of_eq (by decide : 10 < 15) (by kernel_rfl))) rfl
        have e29 : A1.eval (.tmp 29) = paV sa sn f := inv.fin 11 29 (by kernel_rfl) (hall 11 (Nat.lt_of_lt_of_eq (by decide : 11 < 15) (by kernel_rfl))) rfl
        have e30 : A1.eval (.tmp 30) = dV ⟨sa, sn, 0, (g : Nat)⟩ := inv.fin 12 30 (by kernel_rfl) (hall 12 (Nat.lt_of_lt_of_eq (by decide : 12 < 15) (by kernel_rfl))) rfl
        have e31 : A1.eval (.tmp 31) = .pointer (some ⟨db, k * 4, none⟩) := inv.fin 13 31 (by kernel_rfl) (hall 13 (Nat.lt_of_lt_of_eq (by decide : 13 < 15) (by kernel_rfl))) rfl
        have hst14 := inv.fin0 14 (by kernel_rfl) (hall 14 (Nat.lt_of_lt_of_eq (by decide : 14 < 15) (by kernel_rfl))) rfl
        have HF := inv.frame hall
        have HS9 := hid_mk inv.s
        simp only [putEnd, e18, e19, e20, e21, e22, e23, e24, e25, e26, e27, e28, e29, e30, e31, Act.put, List.setIfInBounds_toArray, List.set_cons_succ, List.set_cons_zero] at HF
        clear e18 e19 e20 e21 e22 e23 e24 e25 e26 e27 e28 e29 e30 e31 inv hall
        subst HF
        have HE9 := hid_mk hst14
        have HC9 := hid_mk HS9.out.cbx
        have HO9 := hid_mk HS9.out.old
        clear HS9 hst14
        go_wp2_with fail
        go_roundw
        case rel => exact ⟨k + 1, by omega, by simp, HE9, HC9, HO9⟩
        case measure => simp [intOf]; omega
    · obtain rfl : k = L.length := by omega
      have HR := hid_mk hrow.out
      rw [HAL.out] at HR
      go_wp2_with fail
      go_ret
      exact ⟨ret_eq (by rw [hcb, hdb]; rfl), by rw [hcb, hdb]; exact HR.out, hold.out⟩
end Go.Proofs.Ytgdokgpplldddaa
