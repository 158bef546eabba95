/-
  PROVED: dumbwaiterlaw07.StatusSteps returns true.
-/
import Derived.Test.YtfiogaollejdbaaRows
import Derived.Test.YtfiogaollejdbaaStl
import Derived.WalkKit
import Derived.ProofKit
import Derived.OpenShut
import Derived.ShutString
import Derived.ChangeOld
import Derived.Below
import Derived.Carry
import Derived.Lib.SmallJoins
namespace Go.Proofs.Ytfiogaollejdbaa.statusSteps
open Go.ChangeShapes Go.WideShapes Go.ChangeAt Go.RowKit
set_option linter.unusedVariables false


set_option maxRecDepth 100000 in
set_option maxHeartbeats 2000000 in
theorem walk_no (w : World) (d : Dv) (b : Nat) (hd : isDv d) (hb : b < 256) (hc : chkB d = false ∨ b = 0) :
    Calls Try.prog 5 #[dvV d, .int .u8 b] w fun e w' => e = .returned (.bool true) ∧ Below w.heap.size w w' := by
  have HC := hid_mk (scheck d hd)
  have HL := hid_mk lives7_any
  obtain ⟨k, o, g, s⟩ := d
  have hcc : (chkB ⟨k, o, g, s⟩ = false ∧ schE ⟨k, o, g, s⟩ = 2) ∨ (b = 0 ∧ schE ⟨k, o, g, s⟩ = 0) := by
    unfold schE
    cases h : chkB ⟨k, o, g, s⟩
    · exact Or.inl ⟨rfl, rfl⟩
    · rcases hc with h2 | h2
      · rw [h] at h2
        cases h2
      · exact Or.inr ⟨h2, rfl⟩
  clear hc
  rcases hcc with ⟨_, e⟩ | ⟨rfl, e⟩
  · rw [e] at HC
    clear e
    unfold dvV at HC ⊢
    simp only at HC ⊢
    go_enter Try.func5, Try.ntmps5
    go_wp2_with fail
    refine (HL.out _).mono ?_
    rintro e w1 ⟨rfl, hb1⟩
    have X1 := (box_new w k o g s _ rfl).below hb1
    obtain ⟨x0, x1, x2, x3, x4⟩ := box_all X1
    have B1 := hid_mk (below_two (below_box w _) hb1)
    clear hb1
    go_wp2_with fail
    refine (HC.out _).mono ?_
    rintro e w2 ⟨rfl, hb2⟩
    go_wp2_with fail
    go_ret
    exact ⟨rfl, below_two B1.out hb2⟩
  · rw [e] at HC
    clear e
    unfold dvV at HC ⊢
    simp only at HC ⊢
    go_enter Try.func5, Try.ntmps5
    go_wp2_with fail
    refine (HL.out _).mono ?_
    rintro e w1 ⟨rfl, hb1⟩
    have X1 := (box_new w k o g s _ rfl).below hb1
    obtain ⟨x0, x1, x2, x3, x4⟩ := box_all X1
    have B1 := hid_mk (below_two (below_box w _) hb1)
    clear hb1
    go_wp2_with fail
    refine (HC.out _).mono ?_
    rintro e w2 ⟨rfl, hb2⟩
    go_wp2_with fail
    go_ret
    exact ⟨rfl, below_two B1.out hb2⟩

set_option maxRecDepth 100000 in
set_option maxHeartbeats 2000000 in
theorem walk_main (w : World) (d : Dv) (b : Nat) (hd : isDv d) (hb : b < 256) (hc : chkB d = true) (hb0 : b ≠ 0) :
    Calls Try.prog 5 #[dvV d, .int .u8 b] w fun e w' => e = .returned (.bool true) ∧ Below w.heap.size w w' := by
  have HC := hid_mk (scheck d hd)
  rw [show schE d = 0 by unfold schE; rw [if_pos hc]] at HC
  have HL := hid_mk lives7_any
  have hx := wr_ok hc hd.s hb hb0
  have hst := hid_mk (steps_ok (w := b) hc hd.s)
  have h5 : stepsS (accD d) b d.s 5 = wrS (accD d) d.s b := by
    unfold chkB at hc
    rw [Bool.and_eq_true] at hc
    exact steps_all (accD d) (decide (d.g = 0)) ⟨d.s, hd.s⟩ hc.2 ⟨b, hb⟩
  have H5 := hid_mk h5
  have hR := wr_reset hc
  have hD := hd
  obtain ⟨k, o, g, s⟩ := d
  have hts : wrS (accD ⟨k, o, g, s⟩) s b < 256 := wrS_lt hd.s
  have h2w : wrS (accD ⟨k, o, g, s⟩) (wrS (accD ⟨k, o, g, s⟩) s b) b = wrS (accD ⟨k, o, g, s⟩) s b := by
    have h2 := hx.2.2
    unfold wrAll at h2
    simp only [Bool.and_eq_true, decide_eq_true_eq] at h2
    exact h2.1.2
  simp only at hst H5 hR hx hd
  have ha : ∀ s', accD ⟨k, o, g, s'⟩ = accD ⟨k, o, g, s⟩ := fun _ => rfl
  obtain ⟨a, hA⟩ : ∃ a, a = accD ⟨k, o, g, s⟩ := ⟨_, rfl⟩
  rw [← hA] at hst H5 hx h2w hts ha
  obtain ⟨t, ht⟩ : ∃ t, t = wrS a s b := ⟨_, rfl⟩
  rw [← ht] at hx H5 h2w hts
  have HWd := hid_mk (fun u => swrite ⟨k, o, g, s⟩ b hD hb u)
  rw [hx.1] at HWd
  have HWx := hid_mk (fun u => swrite ⟨k, o, g, t⟩ b ⟨hD.o, hD.g, hts⟩ hb u)
  rw [(wr_ok hx.2.1 hts hb hb0).1] at HWx
  simp only [ha, h2w] at HWx
  have HWx0 := hid_mk (fun u => swrite ⟨k, o, g, t⟩ 0 ⟨hD.o, hD.g, hts⟩ (by decide) u)
  rw [(wr_reset hx.2.1).1] at HWx0
  have HWd0 := hid_mk (fun u => swrite ⟨k, o, g, s⟩ 0 hD (by decide) u)
  rw [hR.1] at HWd0
  have HCx := hid_mk (scheck ⟨k, o, g, t⟩ ⟨hD.o, hD.g, hts⟩)
  rw [show schE ⟨k, o, g, t⟩ = 0 by unfold schE; rw [if_pos hx.2.1]] at HCx
  have HWs := hid_mk (fun (s' c : Nat) (h1 : chkB ⟨k, o, g, s'⟩ = true) (h2 : s' < 256) (h3 : c < 256) (h4 : c ≠ 0) (u : World) => swrite ⟨k, o, g, s'⟩ c ⟨hD.o, hD.g, h2⟩ h3 u)
  have hWs : ∀ (s' c : Nat) (h1 : chkB ⟨k, o, g, s'⟩ = true) (h2 : s' < 256) (h3 : c < 256) (h4 : c ≠ 0) (u : World), Calls Try.prog 13 #[.agg #[.int .i64 k, .int .u64 o, .int .u64 g, .int .u8 s'], .int .u8 c] u fun e u' => e = .returned (.agg #[.int .i64 k, .int .u64 o, .int .u64 g, .int .u8 (wrS a s' c)]) ∧ Below u.heap.size u u' := fun s' c h1 h2 h3 h4 u => by
    have h := HWs.out s' c h1 h2 h3 h4 u
    rw [(wr_ok h1 h2 h3 h4).1, ha] at h
    exact h
  have HWs := hid_mk hWs
  have HB := hid_mk (And.intro hb hb0)
  unfold dvV at HC HWd HWx HWx0 HWd0 HCx ⊢
  simp only at HC HWd HWx HWx0 HWd0 HCx ⊢
  clear hc hx h5 hR hD hd hts h2w ha hA ht hWs hb0
  go_enter Try.func5, Try.ntmps5
  go_wp2_with fail
  refine (HL.out _).mono ?_
  rintro e w1 ⟨rfl, hb1⟩
  have Xd := hid_mk ((box_new w k o g s _ rfl).below hb1)
  have B1 := hid_mk (below_two (below_box w _) hb1)
  have hz1 : w.heap.size < w1.heap.size := Xd.out.lt
  clear hb1
  obtain ⟨x0, x1, x2, x3, x4⟩ := box_all Xd.out
  go_wp2_with fail
  refine (HC.out _).mono ?_
  rintro e w2 ⟨rfl, hb2⟩
  clear x0 x1 x2 x3 x4
  replace Xd := hid_mk (Xd.out.below hb2)
  have B2 := hid_mk (below_two B1.out hb2)
  have hz2 : w.heap.size < w2.heap.size := Xd.out.lt
  clear hb2 hz1 B1
  have hbz : ((b : Int) == 0) = false := by
    have := HB.out
    simp
    omega
  obtain ⟨x0, x1, x2, x3, x4⟩ := box_all Xd.out
  go_wp2_with fail
  clear x0 x1 x2 x3 x4
  have hbl := (below_box w2 (.cells #[.int .i64 k, .int .u64 o, .int .u64 g, .int .u8 s] 24))
  have hbl2 := below_two hbl (below_box _ (.cells #[.int .u8 1, .int .u8 2, .int .u8 8, .int .u8 4, .int .u8 128] 5))
  have Xo := hid_mk ((box_new w2 k o g s _ rfl).below (below_box _ (.cells #[.int .u8 1, .int .u8 2, .int .u8 8, .int .u8 4, .int .u8 128] 5)))
  replace Xd := hid_mk (Xd.out.below hbl2)
  have B3 := hid_mk (below_two B2.out hbl2)
  have hlit := heap_alloc_new (w2.alloc (.cells #[.int .i64 k, .int .u64 o, .int .u64 g, .int .u8 s] 24)) (.cells [Value.int .u8 1, .int .u8 2, .int .u8 8, .int .u8 4, .int .u8 128].toArray 5)
  rw [sizeA] at hlit
  have HLt := hid_mk hlit
  clear hbl hbl2 hlit B2
  generalize hw3 : ((w2.alloc (.cells #[.int .i64 k, .int .u64 o, .int .u64 g, .int .u8 s] 24)).alloc (.cells #[.int .u8 1, .int .u8 2, .int .u8 8, .int .u8 4, .int .u8 128] 5)) = w3 at *
  clear hw3
  have hlo : w.heap.size < w2.heap.size := hz2
  obtain ⟨ob, hob⟩ : ∃ ob, ob = w2.heap.size := ⟨_, rfl⟩
  rw [← hob] at HLt Xo hlo ⊢
  clear hob hz2
  obtain ⟨lb, hlb⟩ : ∃ lb, lb = ob + 1 := ⟨_, rfl⟩
  rw [← hlb] at HLt ⊢
  have HNE := hid_mk (show ob ≠ lb by omega)
  clear hlb
  have H0 : Hid (s = stepsS a b s 0) := hid_mk rfl
  obtain ⟨db, hdb⟩ : ∃ db, db = w.heap.size := ⟨_, rfl⟩
  rw [← hdb] at Xd hlo ⊢
  have HDB := hid_mk hdb
  have hlw := lt_blk HLt.out
  have hne1 : ob ≠ lb := HNE.out
  have HN := hid_mk (And.intro HNE.out (show ob ≠ db by omega))
  clear hdb hlw hne1
  go_loopw [7, 21] (fun y i wr => ∃ (j t1 : Nat), j ≤ 5 ∧ Hid (t1 = stepsS a b s j) ∧ i = .int .i64 j ∧ Hid (BoxAt wr ob k o g t1 ∧ BoxAt wr db k o g s ∧ Below db w wr ∧ wr.heap[lb]? = some (.cells [Value.int .u8 1, .int .u8 2, .int .u8 8, .int .u8 4, .int .u8 128].toArray 5)) ) (fun _ i _ => 5 - (intOf i).toNat)
  case atStart => exact ⟨0, s, by omega, H0, rfl, hid_mk ⟨Xo.out, Xd.out, by rw [HDB.out]; exact B3.out, HLt.out⟩⟩
  case round =>
    clear Xo Xd B3 HLt H0
    obtain ⟨j, t1, hj, ht1, rfl, HS⟩ := hrel
    by_cases hj5 : j < 5
    · obtain ⟨q1, q2, q3, q4⟩ := HS.out
      have hj5i : (j : Int) < 5 := by omega
      have hlit : wr.cell? ⟨lb, j, none⟩ = some (.int .u8 (bitL.getD j 0 : Nat)) := by
        rw [cellK q4]
        match j, hj5 with
        | 0, _ => rfl
        | 1, _ => rfl
        | 2, _ => rfl
        | 3, _ => rfl
        | 4, _ => rfl
      have hll := lt_blk q4
      have hbb : bitL.getD j 0 ≠ 0 ∧ bitL.getD j 0 < 256 := by
        have key : ∀ j : Fin 5, bitL.getD j.val 0 ≠ 0 ∧ bitL.getD j.val 0 < 256 := by decide
        exact key ⟨j, hj5⟩
      have hs1 := hst.out j (by omega)
      have HNx := hid_mk (stepsS_succ (a := a) (w := b) (s := s) hj5)
      have hand := u8_and_nat b (bitL.getD j 0) HB.out.1 hbb.2
      rw [← ht1.out] at hs1 HNx
      obtain ⟨x0, x1, x2, x3, x4⟩ := box_all q1
      unfold stepS at HNx
      have HC2 := hid_mk (HWs.out t1 (bitL.getD j 0) hs1.1 hs1.2 hbb.2 hbb.1)
      clear q2 q3 q4 hs1
      generalize bitL.getD j 0 = c at *
      by_cases hz : b &&& c = 0
      · have hm : (bits .and .u8 (b : Int) (c : Int) != 0) = false := by
          rw [hand, hz]
          rfl
        rw [if_pos (decide_eq_true hz)] at HNx
        clear hz hand hbb
        go_wp2_with fail
        go_roundw
        case rel => exact ⟨j + 1, t1, by omega, hid_mk HNx.out.symm, by simp, HS⟩
        case measure => simp [intOf]; omega
      · have hm : (bits .and .u8 (b : Int) (c : Int) != 0) = true := by
          rw [hand]
          simp
          omega
        rw [if_neg (by simpa using hz)] at HNx
        clear hz hand hbb
        go_wp2_with fail
        refine (HC2.out _).mono ?_
        rintro e w4 ⟨rfl, hb4⟩
        have HS4 : Hid (BoxAt w4 ob k o g t1 ∧ BoxAt w4 db k o g s ∧ Below db w w4 ∧ w4.heap[lb]? = some (.cells [Value.int .u8 1, .int .u8 2, .int .u8 8, .int .u8 4, .int .u8 128].toArray 5)) := by
          obtain ⟨g1, g2, g3, g4⟩ := HS.out
          exact hid_mk ⟨g1.below hb4, g2.below hb4, g3.trans (hb4.mono (by have := g2.lt; omega)), keepB hb4 g4⟩
        obtain ⟨y0, y1, y2, y3, y4⟩ := box_all HS4.out.1
        obtain ⟨f0, f1, f2, f3⟩ := box_free HS4.out.1
        clear hb4
        go_wp2_with fail
        go_roundw
        case rel =>
          obtain ⟨g1, g2, g3, g4⟩ := HS4.out
          exact ⟨j + 1, wrS a t1 c, by omega, hid_mk HNx.out.symm, by simp, hid_mk ⟨box_put g1 _ _ _ _, blk_put g2 (Ne.symm HN.out.2) _ _ _ _, below_put g3 (by omega) _ _ _ _, blk_put g4 (Ne.symm HN.out.1) _ _ _ _⟩⟩
        case measure => simp [intOf]; omega
    · obtain rfl : j = 5 := by omega
      have e := ht1.out
      rw [H5.out] at e
      replace e := e.symm
      subst e
      obtain ⟨q1, q2, q3, q4⟩ := HS.out
      have B4 := hid_mk (show Below w.heap.size w wr by rw [← HDB.out]; exact q3)
      have Xo := hid_mk q1
      have Xd := hid_mk q2
      clear q1 q2 q3 q4 HS ht1 hst H5 HWs HNE
      obtain ⟨x0, x1, x2, x3, x4⟩ := box_all Xd.out
      go_wp2_with fail
      refine (HWd.out _).mono ?_
      rintro e w5 ⟨rfl, hb5⟩
      clear x0 x1 x2 x3 x4
      have Xx := hid_mk (box_new w5 k o g t _ rfl)
      replace Xo := hid_mk ((Xo.out.below hb5).below (below_box w5 (.cells #[.int .i64 k, .int .u64 o, .int .u64 g, .int .u8 t] 24)))
      replace Xd := hid_mk ((Xd.out.below hb5).below (below_box w5 (.cells #[.int .i64 k, .int .u64 o, .int .u64 g, .int .u8 t] 24)))
      have B := hid_mk (below_two (below_two B4.out hb5) (below_box w5 (.cells #[.int .i64 k, .int .u64 o, .int .u64 g, .int .u8 t] 24)))
      clear hb5 B4
      go_wp2_with fail
      generalize hw6 : w5.alloc (.cells #[.int .i64 k, .int .u64 o, .int .u64 g, .int .u8 t] 24) = w6 at *
      clear hw6
      generalize w5.heap.size = xb at *
      refine wp_region_outl
        [(fun v _ => v = .agg #[.int .i64 k, .int .u64 o, .int .u64 g, .int .u8 t]),
        (fun v _ => v = .agg #[.int .i64 k, .int .u64 o, .int .u64 g, .int .u8 t]),
        (fun v _ => v = .bool true),
        (fun v _ => v = .bool true),
        (fun v _ => v = .agg #[.int .i64 k, .int .u64 o, .int .u64 g, .int .u8 t]),
        (fun v _ => v = .int .u8 b),
        (fun v _ => v = .agg #[.int .i64 k, .int .u64 o, .int .u64 g, .int .u8 t]),
        (fun v _ => v = .agg #[.int .i64 k, .int .u64 o, .int .u64 g, .int .u8 t]),
        (fun v _ => v = .bool true),
        (fun v _ => v = .bool true),
        (fun v _ => v = .bool true),
        (fun v _ => v = .agg #[.int .i64 k, .int .u64 o, .int .u64 g, .int .u8 t]),
        (fun v _ => v = .agg #[.int .i64 k, .int .u64 o, .int .u64 0, .int .u8 0]),
        (fun v _ => v = .agg #[.int .i64 k, .int .u64 o, .int .u64 g, .int .u8 s]),
        (fun v _ => v = .agg #[.int .i64 k, .int .u64 o, .int .u64 0, .int .u8 0]),
        (fun v _ => v = .bool true),
        (fun v _ => v = .bool true),
        (fun v _ => v = .bool true),
        (fun v _ => v = .agg #[.int .i64 k, .int .u64 o, .int .u64 g, .int .u8 t]),
        (fun v _ => v = .int .i64 0),
        (fun v _ => v = .bool true),
        (fun v _ => v = .bool true),
        (fun v _ => v = .bool true)]
        (fun u => Below w6.heap.size w6 u) (by kernel_rfl) (by kernel_rfl) ?_ (fun u u' hb h => h.trans (hb.mono h.size)) ((Below.refl _ _).drew) ?_ ?_
      · refine And.intro (up_eq _) ?_
        refine And.intro (up_eq _) ?_
        refine And.intro (up_eq _) ?_
        refine And.intro (up_eq _) ?_
        refine And.intro (up_eq _) ?_
        refine And.intro (up_eq _) ?_
        refine And.intro (up_eq _) ?_
        refine And.intro (up_eq _) ?_
        refine And.intro (up_eq _) ?_
        refine And.intro (up_eq _) ?_
        refine And.intro (up_eq _) ?_
        refine And.intro (up_eq _) ?_
        refine And.intro (up_eq _) ?_
        refine And.intro (up_eq _) ?_
        refine And.intro (up_eq _) ?_
        refine And.intro (up_eq _) ?_
        refine And.intro (up_eq _) ?_
        refine And.intro (up_eq _) ?_
        refine And.intro (up_eq _) ?_
        refine And.intro (up_eq _) ?_
        refine And.intro (up_eq _) ?_
        refine And.intro (up_eq _) ?_
        refine And.intro (up_eq _) ?_
        trivial
      · refine And.intro ?_ (And.intro ?_ (And.intro ?_ (And.intro ?_ (And.intro ?_ (And.intro ?_ (And.intro ?_ (And.intro ?_ (And.intro ?_ (And.intro ?_ (And.intro ?_ (And.intro ?_ (And.intro ?_ (And.intro ?_ (And.intro ?_ (And.intro ?_ (And.intro ?_ (And.intro ?_ (And.intro ?_ (And.intro ?_ (And.intro ?_ (And.intro ?_ (And.intro ?_ (True.intro)))))))))))))))))))))))
        · refine ostep_val (.agg #[.int .i64 k, .int .u64 o, .int .u64 g, .int .u8 t]) (by kernel_rfl) (fun _ A1 W1 inv hall => ⟨wanted_none rfl, ?_, rfl⟩)
          have h8 : A1.eval (.tmp 8) = .pointer (some ⟨xb, 0, none⟩) := (inv.base 8 (by kernel_rfl)).trans rfl
          simp only [execOp, h8, Sem.run_bind, loadDev (Xx.out.below inv.s), Result.andThen_ok, Sem.run_pure]
        · refine ostep_val (.agg #[.int .i64 k, .int .u64 o, .int .u64 g, .int .u8 t]) (by kernel_rfl) (fun _ A1 W1 inv hall => ⟨wanted_none rfl, ?_, rfl⟩)
          have h5 : A1.eval (.tmp 5) = .pointer (some ⟨ob, 0, none⟩) := (inv.base 5 (by kernel_rfl)).trans rfl
          simp only [execOp, h5, Sem.run_bind, loadDev (Xo.out.below inv.s), Result.andThen_ok, Sem.run_pure]
        · refine ostep_val (.bool true) (by kernel_rfl) (fun _ A1 W1 inv hall => ⟨wanted_none rfl, ?_, rfl⟩)
          have h36 : A1.eval (.tmp 36) = .agg #[.int .i64 k, .int .u64 o, .int .u64 g, .int .u8 t] := inv.get hall 0 36 (by kernel_rfl) (by kernel_rfl)
          have h37 : A1.eval (.tmp 37) = .agg #[.int .i64 k, .int .u64 o, .int .u64 g, .int .u8 t] := inv.get hall 1 37 (by kernel_rfl) (by kernel_rfl)
          simp only [execOp, h36, h37, Sem.run_bind, run_eqGuard_agg W1 .eql _ _ _ _ _ guardDev, eq_dev, Result.andThen_ok, Sem.run_pure]
        · refine ostep_val (.bool true) (by kernel_rfl) (fun _ A1 W1 inv hall => ⟨wanted_none rfl, ?_, rfl⟩)
          have h38 : A1.eval (.tmp 38) = .bool true := inv.get hall 2 38 (by kernel_rfl) (by kernel_rfl)
          simp only [execOp, h38, Sem.run_pure]
        · refine ostep_val (.agg #[.int .i64 k, .int .u64 o, .int .u64 g, .int .u8 t]) (by kernel_rfl) (fun _ A1 W1 inv hall => ⟨wanted_some (g := 3) (d := 39) (b := true) rfl (by kernel_rfl) (inv.get hall 3 39 (by kernel_rfl) (by kernel_rfl)), ?_, rfl⟩)
          have h8 : A1.eval (.tmp 8) = .pointer (some ⟨xb, 0, none⟩) := (inv.base 8 (by kernel_rfl)).trans rfl
          simp only [execOp, h8, Sem.run_bind, loadDev (Xx.out.below inv.s), Result.andThen_ok, Sem.run_pure]
        · refine ostep_val (.int .u8 b) (by kernel_rfl) (fun _ A1 W1 inv hall => ⟨wanted_some (g := 3) (d := 39) (b := true) rfl (by kernel_rfl) (inv.get hall 3 39 (by kernel_rfl) (by kernel_rfl)), ?_, rfl⟩)
          have h1 : A1.eval (.tmp 1) = .int .u8 b := (inv.base 1 (by kernel_rfl)).trans rfl
          simp only [execOp, h1, Sem.run_pure]
        · refine ostep_call 13 (by kernel_rfl) _ _ (by kernel_rfl) rfl (fun _ A1 W1 inv hall => ⟨wanted_some (g := 3) (d := 39) (b := true) rfl (by kernel_rfl) (inv.get hall 3 39 (by kernel_rfl) (by kernel_rfl)), #[.agg #[.int .i64 k, .int .u64 o, .int .u64 g, .int .u8 t], .int .u8 b], ?_, ?_⟩)
          · have h40 : A1.eval (.tmp 40) = .agg #[.int .i64 k, .int .u64 o, .int .u64 g, .int .u8 t] := inv.get hall 4 40 (by kernel_rfl) (by kernel_rfl)
            have h41 : A1.eval (.tmp 41) = .int .u8 b := inv.get hall 5 41 (by kernel_rfl) (by kernel_rfl)
            simp [h40, h41]
          · refine (HWx.out _).mono ?_
            rintro e u ⟨rfl, hb⟩
            exact ⟨_, rfl, rfl, hb⟩
        · refine ostep_val (.agg #[.int .i64 k, .int .u64 o, .int .u64 g, .int .u8 t]) (by kernel_rfl) (fun _ A1 W1 inv hall => ⟨wanted_some (g := 3) (d := 39) (b := true) rfl (by kernel_rfl) (inv.get hall 3 39 (by kernel_rfl) (by kernel_rfl)), ?_, rfl⟩)
          have h8 : A1.eval (.tmp 8) = .pointer (some ⟨xb, 0, none⟩) := (inv.base 8 (by kernel_rfl)).trans rfl
          simp only [execOp, h8, Sem.run_bind, loadDev (Xx.out.below inv.s), Result.andThen_ok, Sem.run_pure]
        · refine ostep_val (.bool true) (by kernel_rfl) (fun _ A1 W1 inv hall => ⟨wanted_some (g := 3) (d := 39) (b := true) rfl (by kernel_rfl) (inv.get hall 3 39 (by kernel_rfl) (by kernel_rfl)), ?_, rfl⟩)
          have h42 : A1.eval (.tmp 42) = .agg #[.int .i64 k, .int .u64 o, .int .u64 g, .int .u8 t] := inv.get hall 6 42 (by kernel_rfl) (by kernel_rfl)
          have h43 : A1.eval (.tmp 43) = .agg #[.int .i64 k, .int .u64 o, .int .u64 g, .int .u8 t] := inv.get hall 7 43 (by kernel_rfl) (by kernel_rfl)
          simp only [execOp, h42, h43, Sem.run_bind, run_eqGuard_agg W1 .eql _ _ _ _ _ guardDev, eq_dev, Result.andThen_ok, Sem.run_pure]
        · refine ostep_val (.bool true) (by kernel_rfl) (fun _ A1 W1 inv hall => ⟨wanted_none rfl, ?_, rfl⟩)
          have h39 : A1.eval (.tmp 39) = .bool true := inv.get hall 3 39 (by kernel_rfl) (by kernel_rfl)
          have h44 : A1.eval (.tmp 44) = .bool true := inv.get hall 8 44 (by kernel_rfl) (by kernel_rfl)
          simp only [execOp, h39, h44]
          simp [asBool]
        · refine ostep_val (.bool true) (by kernel_rfl) (fun _ A1 W1 inv hall => ⟨wanted_none rfl, ?_, rfl⟩)
          have h45 : A1.eval (.tmp 45) = .bool true := inv.get hall 9 45 (by kernel_rfl) (by kernel_rfl)
          simp only [execOp, h45, Sem.run_pure]
        · refine ostep_val (.agg #[.int .i64 k, .int .u64 o, .int .u64 g, .int .u8 t]) (by kernel_rfl) (fun _ A1 W1 inv hall => ⟨wanted_some (g := 10) (d := 46) (b := true) rfl (by kernel_rfl) (inv.get hall 10 46 (by kernel_rfl) (by kernel_rfl)), ?_, rfl⟩)
          have h8 : A1.eval (.tmp 8) = .pointer (some ⟨xb, 0, none⟩) := (inv.base 8 (by kernel_rfl)).trans rfl
          simp only [execOp, h8, Sem.run_bind, loadDev (Xx.out.below inv.s), Result.andThen_ok, Sem.run_pure]
        · refine ostep_call 13 (by kernel_rfl) _ _ (by kernel_rfl) rfl (fun _ A1 W1 inv hall => ⟨wanted_some (g := 10) (d := 46) (b := true) rfl (by kernel_rfl) (inv.get hall 10 46 (by kernel_rfl) (by kernel_rfl)), #[.agg #[.int .i64 k, .int .u64 o, .int .u64 g, .int .u8 t], .int .u8 0], ?_, ?_⟩)
          · have h47 : A1.eval (.tmp 47) = .agg #[.int .i64 k, .int .u64 o, .int .u64 g, .int .u8 t] := inv.get hall 11 47 (by kernel_rfl) (by kernel_rfl)
            simp [h47, eval_cst]
          · refine (HWx0.out _).mono ?_
            rintro e u ⟨rfl, hb⟩
            exact ⟨_, rfl, rfl, hb⟩
        · refine ostep_val (.agg #[.int .i64 k, .int .u64 o, .int .u64 g, .int .u8 s]) (by kernel_rfl) (fun _ A1 W1 inv hall => ⟨wanted_some (g := 10) (d := 46) (b := true) rfl (by kernel_rfl) (inv.get hall 10 46 (by kernel_rfl) (by kernel_rfl)), ?_, rfl⟩)
          have h2 : A1.eval (.tmp 2) = .pointer (some ⟨db, 0, none⟩) := (inv.base 2 (by kernel_rfl)).trans rfl
          simp only [execOp, h2, Sem.run_bind, loadDev (Xd.out.below inv.s), Result.andThen_ok, Sem.run_pure]
        · refine ostep_call 13 (by kernel_rfl) _ _ (by kernel_rfl) rfl (fun _ A1 W1 inv hall => ⟨wanted_some (g := 10) (d := 46) (b := true) rfl (by kernel_rfl) (inv.get hall 10 46 (by kernel_rfl) (by kernel_rfl)), #[.agg #[.int .i64 k, .int .u64 o, .int .u64 g, .int .u8 s], .int .u8 0], ?_, ?_⟩)
          · have h49 : A1.eval (.tmp 49) = .agg #[.int .i64 k, .int .u64 o, .int .u64 g, .int .u8 s] := inv.get hall 13 49 (by kernel_rfl) (by kernel_rfl)
            simp [h49, eval_cst]
          · refine (HWd0.out _).mono ?_
            rintro e u ⟨rfl, hb⟩
            exact ⟨_, rfl, rfl, hb⟩
        · refine ostep_val (.bool true) (by kernel_rfl) (fun _ A1 W1 inv hall => ⟨wanted_some (g := 10) (d := 46) (b := true) rfl (by kernel_rfl) (inv.get hall 10 46 (by kernel_rfl) (by kernel_rfl)), ?_, rfl⟩)
          have h48 : A1.eval (.tmp 48) = .agg #[.int .i64 k, .int .u64 o, .int .u64 0, .int .u8 0] := inv.get hall 12 48 (by kernel_rfl) (by kernel_rfl)
          have h50 : A1.eval (.tmp 50) = .agg #[.int .i64 k, .int .u64 o, .int .u64 0, .int .u8 0] := inv.get hall 14 50 (by kernel_rfl) (by kernel_rfl)
          simp only [execOp, h48, h50, Sem.run_bind, run_eqGuard_agg W1 .eql _ _ _ _ _ guardDev, eq_dev, Result.andThen_ok, Sem.run_pure]
        · refine ostep_val (.bool true) (by kernel_rfl) (fun _ A1 W1 inv hall => ⟨wanted_none rfl, ?_, rfl⟩)
          have h46 : A1.eval (.tmp 46) = .bool true := inv.get hall 10 46 (by kernel_rfl) (by kernel_rfl)
          have h51 : A1.eval (.tmp 51) = .bool true := inv.get hall 15 51 (by kernel_rfl) (by kernel_rfl)
          simp only [execOp, h46, h51]
          simp [asBool]
        · refine ostep_val (.bool true) (by kernel_rfl) (fun _ A1 W1 inv hall => ⟨wanted_none rfl, ?_, rfl⟩)
          have h52 : A1.eval (.tmp 52) = .bool true := inv.get hall 16 52 (by kernel_rfl) (by kernel_rfl)
          simp only [execOp, h52, Sem.run_pure]
        · refine ostep_val (.agg #[.int .i64 k, .int .u64 o, .int .u64 g, .int .u8 t]) (by kernel_rfl) (fun _ A1 W1 inv hall => ⟨wanted_some (g := 17) (d := 53) (b := true) rfl (by kernel_rfl) (inv.get hall 17 53 (by kernel_rfl) (by kernel_rfl)), ?_, rfl⟩)
          have h8 : A1.eval (.tmp 8) = .pointer (some ⟨xb, 0, none⟩) := (inv.base 8 (by kernel_rfl)).trans rfl
          simp only [execOp, h8, Sem.run_bind, loadDev (Xx.out.below inv.s), Result.andThen_ok, Sem.run_pure]
        · refine ostep_call 15 (by kernel_rfl) _ _ (by kernel_rfl) rfl (fun _ A1 W1 inv hall => ⟨wanted_some (g := 17) (d := 53) (b := true) rfl (by kernel_rfl) (inv.get hall 17 53 (by kernel_rfl) (by kernel_rfl)), #[.agg #[.int .i64 k, .int .u64 o, .int .u64 g, .int .u8 t]], ?_, ?_⟩)
          · have h54 : A1.eval (.tmp 54) = .agg #[.int .i64 k, .int .u64 o, .int .u64 g, .int .u8 t] := inv.get hall 18 54 (by kernel_rfl) (by kernel_rfl)
            simp [h54]
          · refine (HCx.out _).mono ?_
            rintro e u ⟨rfl, hb⟩
            exact ⟨_, rfl, rfl, hb⟩
        · refine ostep_val (.bool true) (by kernel_rfl) (fun _ A1 W1 inv hall => ⟨wanted_some (g := 17) (d := 53) (b := true) rfl (by kernel_rfl) (inv.get hall 17 53 (by kernel_rfl) (by kernel_rfl)), ?_, rfl⟩)
          have h55 : A1.eval (.tmp 55) = .int .i64 0 := inv.get hall 19 55 (by kernel_rfl) (by kernel_rfl)
          simp only [execOp, h55]
          simp [eqGuard, go_sem]
        · refine ostep_val (.bool true) (by kernel_rfl) (fun _ A1 W1 inv hall => ⟨wanted_none rfl, ?_, rfl⟩)
          have h53 : A1.eval (.tmp 53) = .bool true := inv.get hall 17 53 (by kernel_rfl) (by kernel_rfl)
          have h56 : A1.eval (.tmp 56) = .bool true := inv.get hall 20 56 (by kernel_rfl) (by kernel_rfl)
          simp only [execOp, h53, h56]
          simp [asBool]
        · refine ostep_val (.bool true) (by kernel_rfl) (fun _ A1 W1 inv hall => ⟨wanted_none rfl, ?_, rfl⟩)
          have h57 : A1.eval (.tmp 57) = .bool true := inv.get hall 21 57 (by kernel_rfl) (by kernel_rfl)
          simp only [execOp, h57, Sem.run_pure]
      · intro listed A1 W1 inv hall
        have hlast : A1.eval (.tmp 4) = .bool true := inv.fin 22 4 (by kernel_rfl) (hall 22 (Nat.lt_of_lt_of_eq (by decide : 22 < 23) (by kernel_rfl)))
        refine (by assumption : ∀ (a : Act) (w : World), Code.wp Try.prog Code.ret _ a w → _) A1 W1 ?_
        go_wp2_with fail
        simp only [Act.eval, Array.getD_eq_getD_getElem?] at hlast
        exact bodyPost_ret (v := .bool true) (by simp [results, Try.results5, go_sem, hlast]) inv.dfr ⟨rfl, below_then B.out inv.s⟩

theorem walk (w : World) (d : Dv) (b : Int) (wb : (Lit.int .u8 b).wf = true) (hd : isDv d) :
    Calls Try.prog 5 #[dvV d, .int .u8 b] w fun e w' => e = .returned (.bool true) ∧ Below w.heap.size w w' := by
  have hb := bounds_u8 wb
  obtain ⟨n, rfl⟩ := Int.eq_ofNat_of_zero_le (show 0 ≤ b by omega)
  have hn : n < 256 := by omega
  cases hc : chkB d
  · exact walk_no w d n hd hn (Or.inl hc)
  · by_cases h0 : n = 0
    · exact walk_no w d n hd hn (Or.inr h0)
    · exact walk_main w d n hd hn hc h0

/-! ### the row's frame -/
theorem own : ownKnob Try.prog.godebug = none := by kernel_rfl
theorem laidOut : laidOutB Try.prog = true := by kernel_rfl

set_option maxRecDepth 100000 in
theorem lifted (os : Os) (started : os.Started) (H : Type) (enc : TypeId × Value → H) :
    ReturnsInHanded {} Try.checked os 5 .any (Rows.statusStepsSpec.pre6 enc Try.prog Try.f5 Rows.statusStepsRow.domain false) (Rows.statusStepsSpec.post enc Try.prog Try.f5 false true false false) := by
  refine returnsInHanded_of_change (C := Try.checked) own started (by kernel_rfl) Try.func5
    (ChangeSpec.witness6 (enc := enc) (C := Try.checked) false ⟨#[], #[.agg #[.int .i64 0, .int .u64 0, .int .u64 0, .int .u8 0], .int .u8 0], []⟩ 8 (by kernel_rfl) (by kernel_rfl) (by kernel_rfl) (by kernel_rfl)) ?_
  intro W base args ds gs before hval0 hW hcnd _
  have hval : ∀ (j : Nat) t v, Try.f5.params[j]? = some t → args[j]? = some v → Value.okWide Try.prog W .any base t v := hval0
  have hW' := hW
  obtain ⟨p, q, hA0, hV, rfl, hfz, hnd⟩ := hW
  have hA : DataW.TrodAll enc Try.prog W 0 (fun _ => true) true Try.f5.params.toList args.toList ds p := hA0
  rw [Try.params5] at hA hval
  obtain ⟨v0, vs0, d0, ds0, p0, q0, hargs, rfl, rfl, h0, r0⟩ := trodAll_cons hA
  obtain ⟨v1, vs1, d1, ds1, p1, q1, rfl, rfl, rfl, h1, r1⟩ := trodAll_cons r0
  obtain ⟨rfl, rfl, rfl⟩ := trodAll_nil r1
  obtain rfl : args = #[v0, v1] := by cases args; simp_all
  obtain ⟨rfl, rfl⟩ := trodVars_none hV
  have k0 := h0
  have lt0 : ∀ x ∈ p0, x.block < W.heap.size := by
    obtain ⟨m, hm⟩ := k0
    exact DataW.trod_lt m _ _ _ hm
  have k1 := h1
  have lt1 : ∀ x ∈ p1, x.block < W.heap.size := by
    obtain ⟨m, hm⟩ := k1
    exact DataW.trod_lt m _ _ _ hm
  obtain ⟨a0, rfl, w0⟩ := open_dev (hval 0 24 v0 rfl rfl) h0
  obtain ⟨a1, rfl, rfl, rfl, w1⟩ := open_int Try.underlying5 (hval 1 5 v1 rfl rfl) h1
  clear hA0 hval0
  refine (walk W a0 a1 w1 w0).mono fun e W' ⟨he, bel⟩ => ?_
  subst he
  exact ⟨_, rfl, _, _, _, [], _, [], hW', trodAll_mk1 (shut_bool Try.underlying4 _), (trodAll_cons_mk (Below.trod laidOut (by kernel_rfl) (of_decide_eq_true (by kernel_rfl)) k0 bel lt0) (trodAll_cons_mk (Below.trod laidOut (by kernel_rfl) (of_decide_eq_true (by kernel_rfl)) k1 bel lt1) trodAll_mk0)), rfl, bel.frame _, fun h => by cases h⟩

theorem over : Rows.statusStepsRow.holds Try.pinned (OpenSpec.ofChange Rows.statusStepsSpec) :=
  OpenClaim.holds_of_wide 5 Try.f5 rfl rfl rfl rfl rfl rfl rfl ⟨rfl, rfl, rfl, rfl, rfl⟩ rfl rfl rfl rfl rfl (by kernel_rfl) Try.func5 (by kernel_rfl)
    (of_decide_eq_true (by kernel_rfl)) (by unfold Func.isWrapper; first | (rw [if_pos (by decide +kernel)]; kernel_rfl) | (rw [if_neg (by decide +kernel)]; exact ⟨rfl, rfl⟩))
    (fun os started H enc _ => lifted os started H enc)

/-- THE STATEMENT -/
theorem statusSteps_holds : Rows.StatusStepsSaid := over
#print axioms statusSteps_holds
end Go.Proofs.Ytfiogaollejdbaa.statusSteps
