/-
  PROVED: dumbwaiterlaw08.FreeOrders returns true for any four ints, and what was in memory stays as it was. Conditions: none.
-/
import Derived.Test.YtfbimocgcnaogaaRows
import Derived.Test.YtfbimocgcnaogaaFs
import Derived.WalkKit
import Derived.ProofKit
import Derived.OpenShut
import Derived.ShutString
import Derived.ChangeOld
import Derived.Below
import Derived.Carry
import Derived.Lib.SmallJoins
namespace Go.Proofs.Ytfbimocgcnaogaa.freeOrders
open Go.ChangeShapes Go.WideShapes Go.ChangeAt Go.RowKit
set_option linter.unusedVariables false


set_option maxRecDepth 100000 in
set_option maxHeartbeats 4000000 in
theorem walk (w : World) (a0 a1 a2 a3 : Int) (w0 : (Lit.int .i64 a0).wf = true) (w1 : (Lit.int .i64 a1).wf = true) (w2 : (Lit.int .i64 a2).wf = true) (w3 : (Lit.int .i64 a3).wf = true) :
    Calls Try.prog 6 #[.int .i64 a0, .int .i64 a1, .int .i64 a2, .int .i64 a3] w fun e w' => e = .returned (.bool true) ∧ Below w.heap.size w w' := by
  clear w0 w1 w2 w3
  obtain ⟨r, hr3, hr⟩ := pick_nat a0 300 w (by decide) (by decide)
  obtain ⟨m, hm3, hm⟩ := pick_nat a1 (1 + r) w (by omega) (by omega)
  obtain ⟨k, hk3, hk⟩ := pick_nat a2 (1 + m) w (by omega) (by omega)
  obtain ⟨c, hc3, hc⟩ := pick_nat a3 (1 + m) w (by omega) (by omega)
  have HO := hid_mk (ordF (s := 1 + r) (n := 1 + m) (k := k) (c := c) (by omega) (by omega) (by omega) (by omega) hk3 hc3)
  have ec : ∀ x : Nat, ((1 + x : Nat) : Int) = 1 + (x : Int) := fun x => by omega
  rw [ec] at hm hk hc
  have HP1 := hid_mk (fun u => pick_at a0 300 r u (by decide) (by decide) hr)
  have HP2 := hid_mk (fun u => pick_at a1 (1 + (r : Int)) m u (by omega) (by omega) hm)
  have HP3 := hid_mk (fun u => pick_at a2 (1 + (m : Int)) k u (by omega) (by omega) hk)
  have HP4 := hid_mk (fun u => pick_at a3 (1 + (m : Int)) c u (by omega) (by omega) hc)
  have hr4 : (r : Int) < 300 := by omega
  have hm4 : (m : Int) < 300 := by omega
  have hk4 : (k : Int) < 1 + (m : Int) := by omega
  have hc4 : (c : Int) < 1 + (m : Int) := by omega
  obtain ⟨A, hA⟩ : ∃ A, (newLL ((1 + r : Nat) : Int)).take (1 + m) = A := ⟨_, rfl⟩
  obtain ⟨R, hR⟩ : ∃ R, (newLL ((1 + r : Nat) : Int)).drop (1 + m) = R := ⟨_, rfl⟩
  rw [hA, hR] at HO
  obtain ⟨Bk, hBk⟩ : ∃ Bk, A.drop k ++ A.take k = Bk := ⟨_, rfl⟩
  rw [hBk] at HO
  obtain ⟨o1, o2, o3, ⟨o4, o5, o6, o7⟩, o8, o9, o10, ⟨o11, o12, o13⟩, ⟨o14, o15, o16, o17⟩, ⟨o18, o19, o20⟩, ⟨o21, o22, o23⟩, o24, ⟨o25, o26, o27, o28⟩⟩ := HO.out
  have ed : ((1 + m - c : Nat) : Int) = 1 + (m : Int) - (c : Int) := by omega
  rw [ec] at o1 o2 o3 o4 o5 o6 o7 o11 o12 o13 o14 o15 o16 o17 o18 o19 o20 o21 o22 o23 o25 o26 o27 o28
  rw [ec] at o4 o5 o6 o7 o14 o15 o16 o17
  rw [ed] at o25 o26 o27 o28
  have i1 : I64 (1 + (r : Int)) := by constructor <;> omega
  have i2 : I64 (1 + (m : Int)) := by constructor <;> omega
  have i3 : I64 (1 + (m : Int) - (c : Int)) := by constructor <;> omega
  obtain ⟨L0, hL0⟩ : ∃ L0, newLL (1 + (r : Int)) = L0 := ⟨_, rfl⟩
  have l0 : L0.length ≤ 300 := by rw [← hL0, o3]; omega
  have lA : A.length ≤ 300 := by omega
  have lB : Bk.length ≤ 300 := by omega
  have lBR : (Bk ++ R).length ≤ 600 := by rw [List.length_append]; omega
  have lD : (Bk.drop c).length ≤ 300 := by rw [List.length_drop]; omega
  have lT : (Bk.take c).length ≤ 300 := by rw [List.length_take]; omega
  have lDR : (Bk.drop c ++ R).length ≤ 600 := by rw [List.length_append]; omega
  have C1 := hid_mk (fun u => frnew (1 + (r : Int)) u i1)
  rw [o1, o2, hL0] at C1
  rw [hL0] at o4 o5 o6 o7
  have C2 := hid_mk (fun (u : World) (v : Value) (hv : IntsK w.heap.size u v L0) hB => frtake w.heap.size (1 + (r : Int)) v L0 (1 + (m : Int)) u hv hB i1 i2 (by omega))
  rw [o4, o5, o6, o7] at C2
  have C3 := hid_mk (fun (u : World) (v x : Value) (hv : IntsK w.heap.size u v R) (hx : IntsK w.heap.size u x Bk) hB => frgive w.heap.size (1 + (r : Int)) v x R Bk u hv hx hB i1 (by omega) (by omega))
  rw [o11, o12, o13] at C3
  have C4 := hid_mk (fun (u : World) (v : Value) (hv : IntsK w.heap.size u v (Bk ++ R)) hB => frtake w.heap.size (1 + (r : Int)) v (Bk ++ R) (1 + (m : Int)) u hv hB i1 i2 (by omega))
  rw [o14, o15, o16, o17] at C4
  have C5 := hid_mk (fun (u : World) (v x : Value) (hv : IntsK w.heap.size u v R) (hx : IntsK w.heap.size u x (Bk.drop c)) hB => frgive w.heap.size (1 + (r : Int)) v x R (Bk.drop c) u hv hx hB i1 (by omega) (by omega))
  rw [o18, o19, o20] at C5
  have C6 := hid_mk (fun (u : World) (v x : Value) (hv : IntsK w.heap.size u v (Bk.drop c ++ R)) (hx : IntsK w.heap.size u x (Bk.take c)) hB => frgive w.heap.size (1 + (r : Int)) v x (Bk.drop c ++ R) (Bk.take c) u hv hx hB i1 (by omega) (by omega))
  rw [o21, o22, o23] at C6
  have C7 : Hid (0 < c → ∀ (u : World) (v : Value) (hv : IntsK w.heap.size u v (Bk ++ R)) (hB : w.heap.size ≤ u.heap.size), Calls Try.prog 8 #[frV (1 + (r : Int)) v, .int .i64 c] u fun e w' => ∃ v1 v2, e = .returned (.tuple #[v1, frV (1 + (r : Int)) v2, .int .i64 0]) ∧ (IntsK w.heap.size w' v1 (Bk.take c) ∧ From u v1 [v] ∧ OwnZ u.heap.size w' v1 (Bk.take c) ∧ Apart v1 v2) ∧ (IntsK w.heap.size w' v2 (Bk.drop c ++ R) ∧ From u v2 [v]) ∧ Below u.heap.size u w') := hid_mk (fun h0 u v hv hB => by
    have h := frtake w.heap.size (1 + (r : Int)) v (Bk ++ R) c u hv hB i1 (by constructor <;> omega) (by omega)
    obtain ⟨t1, t2, t3, t4⟩ := o24 h0
    rw [ec] at t1 t2 t3 t4
    rw [t1, t2, t3, t4] at h
    exact h)
  have C8 := hid_mk (fun (u : World) (v : Value) (hv : IntsK w.heap.size u v (Bk.drop c ++ R)) hB => frtake w.heap.size (1 + (r : Int)) v (Bk.drop c ++ R) (1 + (m : Int) - (c : Int)) u hv hB i1 i3 (by omega))
  rw [o25, o26, o27, o28] at C8
  have HAl := hid_mk o8
  have HBl := hid_mk o9
  have HLA : Hid (A.length ≤ 1000000) := hid_mk (by omega)
  have HLB : Hid (Bk.length ≤ 1000000) := hid_mk (by omega)
  have HLR : Hid (R.length ≤ 100000) := hid_mk (by omega)
  have HLBR : Hid ((Bk ++ R).length ≤ 100000) := hid_mk (by omega)
  have HBk := hid_mk hBk
  have HC3 := hid_mk hc3
  have HK3 := hid_mk hk3
  have HLD : Hid ((A.drop k).length ≤ 1000000) := hid_mk (by rw [List.length_drop]; omega)
  have HLT : Hid ((A.take k).length ≤ 1000000) := hid_mk (by rw [List.length_take]; omega)
  have HTD : Hid ((Bk.take c).length + (Bk.drop c).length ≤ 2000000) := hid_mk (by omega)
  clear HO o1 o2 o3 o4 o5 o6 o7 o8 o9 o10 o11 o12 o13 o14 o15 o16 o17 o18 o19 o20 o21 o22 o23 o24 o25 o26 o27 o28 hA hR hBk hL0 l0 lA lB lBR lD lT lDR i1 i2 i3 ed ec hr3 hm3 hk3 hc3 hr hm hk hc
  obtain ⟨BR, hBR⟩ : ∃ x, Bk ++ R = x := ⟨_, rfl⟩
  obtain ⟨DR, hDR⟩ : ∃ x, Bk.drop c ++ R = x := ⟨_, rfl⟩
  obtain ⟨D, hD⟩ : ∃ x, Bk.drop c = x := ⟨_, rfl⟩
  obtain ⟨T, hT⟩ : ∃ x, Bk.take c = x := ⟨_, rfl⟩
  rw [hBR] at C3 C4 C6 C7 HLBR
  rw [hDR] at C5 C6 C7 C8
  rw [hD] at C5 C8 HTD
  rw [hT] at C6 C7 HTD
  have HTDe : Hid (T ++ D = Bk) := hid_mk (by rw [← hT, ← hD, List.take_append_drop])
  have HDe := hid_mk hD
  have HTe := hid_mk hT
  clear hBR hDR hD hT
  unfold frV at C1 C2 C3 C4 C5 C6 C7 C8
  have B := hid_mk (Below.refl w.heap.size w)
  go_enter Try.func6, Try.ntmps6
  go_wp2_with fail
  refine (lives8_any _).mono ?_
  rintro e w1 ⟨rfl, hb⟩
  replace B := hid_mk (below_then B.out hb)
  clear hb
  go_wp2_with fail
  refine (HP1.out _).mono ?_
  rintro e w2 ⟨rfl, hs⟩
  have hb : Below w1.heap.size w1 w2 := by
    rw [hs]
    exact Below.refl _ _
  clear hs
  replace B := hid_mk (below_then B.out hb)
  clear hb
  go_wp2_with fail
  refine (C1.out _).mono ?_
  rintro e w3 ⟨v1, rfl, hq, _, hb⟩
  replace B := hid_mk (below_then B.out hb)
  clear hb
  obtain ⟨fa, fc, rfl⟩ := hq.len
  have Qf := hid_mk (hq.mono (Nat.zero_le w.heap.size))
  clear hq
  have hx := blk_new w3 [.int .i64 (1 + (r : Int)), .slice fa L0.length fc] 24
  have hbx := below_box w3 (.cells #[.int .i64 (1 + (r : Int)), .slice fa L0.length fc] 24)
  have Gf : Hid (w.heap.size ≤ w3.heap.size) := hid_mk B.out.size
  replace Qf := hid_mk (Qf.out.below hbx)
  replace B := hid_mk (below_then B.out hbx)
  have Xf := hid_mk hx
  clear hx hbx
  go_wp2_with fail
  refine (HP2.out _).mono ?_
  rintro e w4 ⟨rfl, hs⟩
  have hb : Below (w3.alloc (.cells #[.int .i64 (1 + (r : Int)), .slice fa L0.length fc] 24)).heap.size (w3.alloc (.cells #[.int .i64 (1 + (r : Int)), .slice fa L0.length fc] 24)) w4 := by
    rw [hs]
    exact Below.refl _ _
  clear hs
  replace Qf := hid_mk (Qf.out.below hb)
  replace Xf := hid_mk (Xf.out.below hb)
  replace B := hid_mk (below_then B.out hb)
  clear hb
  obtain ⟨lf, cf0, cf1, ff0, ff1⟩ := blk2 Xf.out
  go_wp2_with fail
  refine (C2.out _ _ Qf.out B.out.size).mono ?_
  rintro e w5 ⟨v1, v2, rfl, ⟨hq, _, _⟩, ⟨hr, _⟩, hb⟩
  clear lf cf0 cf1 ff0 ff1
  replace Qf := hid_mk (Qf.out.below hb)
  replace Xf := hid_mk (Xf.out.below hb)
  replace B := hid_mk (below_then B.out hb)
  clear hb
  obtain ⟨aa, ac, rfl⟩ := hq.len
  obtain ⟨ga, gc, rfl⟩ := hr.len
  have Qa := hid_mk hq
  have Qg := hid_mk hr
  clear hq hr
  clear Qf
  have hx := blk_new w5 [.int .i64 (1 + (r : Int)), .slice ga R.length gc] 24
  have hbx := below_box w5 (.cells #[.int .i64 (1 + (r : Int)), .slice ga R.length gc] 24)
  have Nfg := hid_mk (Nat.ne_of_lt Xf.out.lt)
  have Gg : Hid (w.heap.size ≤ w5.heap.size) := hid_mk B.out.size
  replace Qa := hid_mk (Qa.out.below hbx)
  replace Qg := hid_mk (Qg.out.below hbx)
  replace Xf := hid_mk (Xf.out.below hbx)
  replace B := hid_mk (below_then B.out hbx)
  have Xg := hid_mk hx
  clear hx hbx
  go_wp2_with fail
  refine (HP3.out _).mono ?_
  rintro e w6 ⟨rfl, hs⟩
  have hb : Below (w5.alloc (.cells #[.int .i64 (1 + (r : Int)), .slice ga R.length gc] 24)).heap.size (w5.alloc (.cells #[.int .i64 (1 + (r : Int)), .slice ga R.length gc] 24)) w6 := by
    rw [hs]
    exact Below.refl _ _
  clear hs
  replace Qa := hid_mk (Qa.out.below hb)
  replace Qg := hid_mk (Qg.out.below hb)
  replace Xf := hid_mk (Xf.out.below hb)
  replace Xg := hid_mk (Xg.out.below hb)
  replace B := hid_mk (below_then B.out hb)
  clear hb
  have hkl : k ≤ A.length := by
    have := HAl.out
    have := HK3.out
    omega
  obtain ⟨u1, u2, hs1, hv1, hs2, hv2, _, _⟩ := slicesK Qa.out k hkl
  have HS1 := hid_mk hs1
  have HS2 := hid_mk hs2
  have QD := hid_mk hv2
  have QT := hid_mk hv1
  have hkl' : (k : Int) ≤ (A.length : Int) := by omega
  clear hs1 hs2 hv1 hv2 hkl
  go_wp2_with fail
  have BU0 := B.out.size
  obtain ⟨U, hU⟩ : ∃ U, U = w6 := ⟨_, rfl⟩
  rw [← hU] at BU0 Qa Qg QD QT Xf Xg B
  rw [← hU]
  have BU := hid_mk BU0
  clear hU BU0
  refine wp_region_outl3 0 [(8, Chg (fun b => U.heap.size ≤ b))] [(4, 8)] []
      [(fun v _ => ∃ g, v = .slice (some ⟨g, 0, none⟩) 0 0),
      (fun v _ => v = .slice aa A.length ac),
      (fun v _ => v = .int .i64 (k : Int)),
      (fun v _ => v = u2),
      (fun v W => RowA U.heap.size W v (A.drop k)),
      (fun v _ => v = .slice aa A.length ac),
      (fun v _ => v = .int .i64 (k : Int)),
      (fun v _ => v = u1),
      (fun v W => IntsK w.heap.size W v (A.drop k ++ A.take k)),
      (fun v W => IntsK w.heap.size W v (A.drop k ++ A.take k))]
      (Below U.heap.size U) (by kernel_rfl) (by kernel_rfl) (by kernel_rfl) ?_ (fun u u' hb h => h.trans (hb.mono h.size)) ((Below.refl _ _).drew) ?_ ?_ ?_ ?_ ?_
  · refine And.intro (up_slice0) ?_
    refine And.intro (up_eq _) ?_
    refine And.intro (up_eq _) ?_
    refine And.intro (up_eq _) ?_
    refine And.intro (up_rowA _ _) ?_
    refine And.intro (up_eq _) ?_
    refine And.intro (up_eq _) ?_
    refine And.intro (up_eq _) ?_
    refine And.intro (up_k _ _) ?_
    refine And.intro (up_k _ _) ?_
    trivial
  · trivial
  · trivial
  · refine And.intro (And.intro ?_ (fun u u' hc h => chg_below h (Nat.le_refl _) hc)) ?_
    · refine And.intro (fun _ _ _ => fun _ _ _ _ h => h) ?_
      refine And.intro (fun _ _ _ => ch_eq _ _) ?_
      refine And.intro (fun _ _ _ => ch_eq _ _) ?_
      refine And.intro (fun _ _ _ => ch_eq _ _) ?_
      refine And.intro (fun _ h _ => absurd rfl h) ?_
      refine And.intro (fun _ _ _ => ch_eq _ _) ?_
      refine And.intro (fun _ _ _ => ch_eq _ _) ?_
      refine And.intro (fun _ _ _ => ch_eq _ _) ?_
      refine And.intro (fun h _ _ => absurd rfl h) ?_
      refine And.intro (fun _ _ h => late_absurd (by kernel_rfl) h) ?_
      trivial
    trivial
  · refine And.intro ?_ (And.intro ?_ (And.intro ?_ (And.intro ?_ (And.intro ?_ (And.intro ?_ (And.intro ?_ (And.intro ?_ (And.intro ?_ (And.intro ?_ (True.intro))))))))))
    · refine qstep_run (by kernel_rfl) (by kernel_rfl) rfl (fun _ A1 Y1 inv hnl hall => ⟨wanted_none rfl, ?_⟩)
      refine ⟨.slice (some ⟨Y1.heap.size, 0, none⟩) 0 0, Y1.alloc (.cells #[] 3), ?_, ⟨_, rfl⟩, below_box _ _⟩
      simp [execOp, go_sem]
    · refine qstep_val (.slice aa A.length ac) (by kernel_rfl) (by kernel_rfl) rfl (fun _ A1 Y1 inv hnl hall => ⟨wanted_none rfl, ?_, rfl⟩)
      have h11 : A1.eval (.tmp 11) = .slice aa A.length ac := (inv.base 11 (by kernel_rfl)).trans rfl
      simp only [execOp, h11, Sem.run_pure]
    · refine qstep_val (.int .i64 (k : Int)) (by kernel_rfl) (by kernel_rfl) rfl (fun _ A1 Y1 inv hnl hall => ⟨wanted_none rfl, ?_, rfl⟩)
      have h14 : A1.eval (.tmp 14) = .int .i64 (k : Int) := (inv.base 14 (by kernel_rfl)).trans rfl
      simp only [execOp, h14, Sem.run_pure]
    · refine qstep_val (u2) (by kernel_rfl) (by kernel_rfl) rfl (fun _ A1 Y1 inv hnl hall => ⟨wanted_none rfl, ?_, rfl⟩)
      have h55 : A1.eval (.tmp 55) = .slice aa A.length ac := inv.get hall 1 55 (by kernel_rfl) (by kernel_rfl) rfl
      have h56 : A1.eval (.tmp 56) = .int .i64 (k : Int) := inv.get hall 2 56 (by kernel_rfl) (by kernel_rfl) rfl
      have gg := HS2.out Y1
      simp only [execOp, Option.map, h55, h56]
      simp [gg, Result.andThen]
    · refine qstep_run (by kernel_rfl) (by kernel_rfl) rfl (fun _ A1 Y1 inv hnl hall => ⟨wanted_none rfl, ?_⟩)
      have h54 : (fun v _ => ∃ g, v = .slice (some ⟨g, 0, none⟩) 0 0) (A1.eval (.tmp 54)) Y1 := inv.get hall 0 54 (by kernel_rfl) (by kernel_rfl) rfl
      have h57 : A1.eval (.tmp 57) = u2 := inv.get hall 3 57 (by kernel_rfl) (by kernel_rfl) rfl
      obtain ⟨g, hg⟩ := h54
      obtain ⟨v', w', h1, h2, h3⟩ := app_rowA (B := U.heap.size) g (QD.out.below inv.s).1 inv.s.size HLD.out
      refine ⟨v', w', ?_, h2, h3⟩
      simp only [execOp]
      simp [resolve, invoke, builtin, h57, hg, h1, Result.andThen]
    · refine qstep_val (.slice aa A.length ac) (by kernel_rfl) (by kernel_rfl) rfl (fun _ A1 Y1 inv hnl hall => ⟨wanted_none rfl, ?_, rfl⟩)
      have h11 : A1.eval (.tmp 11) = .slice aa A.length ac := (inv.base 11 (by kernel_rfl)).trans rfl
      simp only [execOp, h11, Sem.run_pure]
    · refine qstep_val (.int .i64 (k : Int)) (by kernel_rfl) (by kernel_rfl) rfl (fun _ A1 Y1 inv hnl hall => ⟨wanted_none rfl, ?_, rfl⟩)
      have h14 : A1.eval (.tmp 14) = .int .i64 (k : Int) := (inv.base 14 (by kernel_rfl)).trans rfl
      simp only [execOp, h14, Sem.run_pure]
    · refine qstep_val (u1) (by kernel_rfl) (by kernel_rfl) rfl (fun _ A1 Y1 inv hnl hall => ⟨wanted_none rfl, ?_, rfl⟩)
      have h59 : A1.eval (.tmp 59) = .slice aa A.length ac := inv.get hall 5 59 (by kernel_rfl) (by kernel_rfl) rfl
      have h60 : A1.eval (.tmp 60) = .int .i64 (k : Int) := inv.get hall 6 60 (by kernel_rfl) (by kernel_rfl) rfl
      have gg := HS1.out Y1
      simp only [execOp, Option.map, h59, h60]
      simp [gg, Result.andThen]
    · refine qstep_own (by kernel_rfl) (by kernel_rfl) rfl (fun _ A1 Y1 inv hnl hall => ⟨wanted_none rfl, ?_⟩)
      have h58 : (fun v W => RowA U.heap.size W v (A.drop k)) (A1.eval (.tmp 58)) Y1 := inv.get1 (i := 8) hnl hall 4 58 (by kernel_rfl) (by kernel_rfl) rfl
      have h61 : A1.eval (.tmp 61) = u1 := inv.get hall 7 61 (by kernel_rfl) (by kernel_rfl) rfl
      obtain ⟨v', w', h1, h2, h3⟩ := app_rowBK (B2 := w.heap.size) h58 (QT.out.below inv.s).1 inv.s.size HLD.out HLT.out
      refine ⟨v', w', ?_, h2, h3⟩
      simp only [execOp]
      simp [resolve, invoke, builtin, h61, h1, Result.andThen]
    · refine qstep_ex (by kernel_rfl) (by kernel_rfl) rfl (fun _ A1 Y1 inv hnl hall => ⟨wanted_none rfl, ?_⟩)
      have h62 : (fun v W => IntsK w.heap.size W v (A.drop k ++ A.take k)) (A1.eval (.tmp 62)) Y1 := inv.get hall 8 62 (by kernel_rfl) (by kernel_rfl) rfl
      exact ⟨A1.eval (.tmp 62), by simp only [execOp, Sem.run_pure], h62⟩
  · intro listed A1 Y1 inv hall
    have e55 : A1.eval (.tmp 55) = .slice aa A.length ac := inv.fin 1 55 (by kernel_rfl) (hall 1 (Nat.lt_of_lt_of_eq (by decide : 1 < 10) (by kernel_rfl))) rfl
    have e56 : A1.eval (.tmp 56) = .int .i64 (k : Int) := inv.fin 2 56 (by kernel_rfl) (hall 2 (Nat.lt_of_lt_of_eq (by decide : 2 < 10) (by kernel_rfl))) rfl
    have e57 : A1.eval (.tmp 57) = u2 := inv.fin 3 57 (by kernel_rfl) (hall 3 (Nat.lt_of_lt_of_eq (by decide : 3 < 10) (by kernel_rfl))) rfl
    have e59 : A1.eval (.tmp 59) = .slice aa A.length ac := inv.fin 5 59 (by kernel_rfl) (hall 5 (Nat.lt_of_lt_of_eq (by decide : 5 < 10) (by kernel_rfl))) rfl
    have e60 : A1.eval (.tmp 60) = .int .i64 (k : Int) := inv.fin 6 60 (by kernel_rfl) (hall 6 (Nat.lt_of_lt_of_eq (by decide : 6 < 10) (by kernel_rfl))) rfl
    have e61 : A1.eval (.tmp 61) = u1 := inv.fin 7 61 (by kernel_rfl) (hall 7 (Nat.lt_of_lt_of_eq (by decide : 7 < 10) (by kernel_rfl))) rfl
    have p54 : (fun v _ => ∃ g, v = .slice (some ⟨g, 0, none⟩) 0 0) (A1.eval (.tmp 54)) Y1 := inv.fin 0 54 (by kernel_rfl) (hall 0 (Nat.lt_of_lt_of_eq (by decide : 0 < 10) (by kernel_rfl))) rfl
    obtain ⟨v54, e54⟩ : ∃ v, A1.eval (.tmp 54) = v := ⟨_, rfl⟩
    rw [e54] at p54
    obtain ⟨v58, e58⟩ : ∃ v, A1.eval (.tmp 58) = v := ⟨_, rfl⟩
    have p62 : (fun v W => IntsK w.heap.size W v (A.drop k ++ A.take k)) (A1.eval (.tmp 62)) Y1 := inv.fin 8 62 (by kernel_rfl) (hall 8 (Nat.lt_of_lt_of_eq (by decide : 8 < 10) (by kernel_rfl))) rfl
    obtain ⟨v62, e62⟩ : ∃ v, A1.eval (.tmp 62) = v := ⟨_, rfl⟩
    rw [e62] at p62
    have p15 : (fun v W => IntsK w.heap.size W v (A.drop k ++ A.take k)) (A1.eval (.tmp 15)) Y1 := inv.fin 9 15 (by kernel_rfl) (hall 9 (Nat.lt_of_lt_of_eq (by decide : 9 < 10) (by kernel_rfl))) rfl
    obtain ⟨v15, e15⟩ : ∃ v, A1.eval (.tmp 15) = v := ⟨_, rfl⟩
    rw [e15] at p15
    have HF := inv.frame hall
    have HS9 := hid_mk inv.s
    simp only [putEnd, e55, e56, e57, e59, e60, e61, e54, e58, e62, e15, Act.put, List.setIfInBounds_toArray, List.set_cons_succ, List.set_cons_zero] at HF
    clear e55 e56 e57 e59 e60 e61 e54 e58 e62 e15 inv hall
    subst HF
    replace Qa := hid_mk (Qa.out.below HS9.out)
    replace Qg := hid_mk (Qg.out.below HS9.out)
    replace QD := hid_mk (QD.out.below HS9.out)
    replace QT := hid_mk (QT.out.below HS9.out)
    replace Xf := hid_mk (Xf.out.below HS9.out)
    replace Xg := hid_mk (Xg.out.below HS9.out)
    replace B := hid_mk (below_then B.out HS9.out)
    rw [HBk.out] at p15
    obtain ⟨ba, bc, rfl⟩ := p15.len
    have Qb := hid_mk p15
    clear HS9 p15
    clear QD
    clear QT
    clear HS1 HS2
    obtain ⟨lg, cg0, cg1, fg0, fg1⟩ := blk2 Xg.out
    go_wp2_with fail
    refine (C3.out _ _ _ Qg.out Qb.out B.out.size).mono ?_
    rintro e w21 ⟨v1, rfl, ⟨hq, _⟩, hb⟩
    clear lg cg0 cg1 fg0 fg1
    replace Qa := hid_mk (Qa.out.below hb)
    replace Qg := hid_mk (Qg.out.below hb)
    replace Qb := hid_mk (Qb.out.below hb)
    replace Xf := hid_mk (Xf.out.below hb)
    replace Xg := hid_mk (Xg.out.below hb)
    replace B := hid_mk (below_then B.out hb)
    clear hb
    obtain ⟨xa, xc, rfl⟩ := hq.len
    have Qx := hid_mk hq
    clear hq
    have hx := blk_new w21 [.int .i64 (1 + (r : Int)), .slice xa BR.length xc] 24
    have hbx := below_box w21 (.cells #[.int .i64 (1 + (r : Int)), .slice xa BR.length xc] 24)
    have Nfx := hid_mk (Nat.ne_of_lt Xf.out.lt)
    have Ngx := hid_mk (Nat.ne_of_lt Xg.out.lt)
    have Gx : Hid (w.heap.size ≤ w21.heap.size) := hid_mk B.out.size
    replace Qa := hid_mk (Qa.out.below hbx)
    replace Qg := hid_mk (Qg.out.below hbx)
    replace Qb := hid_mk (Qb.out.below hbx)
    replace Qx := hid_mk (Qx.out.below hbx)
    replace Xf := hid_mk (Xf.out.below hbx)
    replace Xg := hid_mk (Xg.out.below hbx)
    replace B := hid_mk (below_then B.out hbx)
    have Xx := hid_mk hx
    clear hx hbx
    go_wp2_with fail
    refine (C4.out _ _ Qx.out B.out.size).mono ?_
    rintro e w22 ⟨v1, v2, rfl, ⟨hq, _, _⟩, ⟨hr, _⟩, hb⟩
    replace Qa := hid_mk (Qa.out.below hb)
    replace Qg := hid_mk (Qg.out.below hb)
    replace Qb := hid_mk (Qb.out.below hb)
    replace Qx := hid_mk (Qx.out.below hb)
    replace Xf := hid_mk (Xf.out.below hb)
    replace Xg := hid_mk (Xg.out.below hb)
    replace Xx := hid_mk (Xx.out.below hb)
    replace B := hid_mk (below_then B.out hb)
    clear hb
    obtain ⟨aaa, aac, rfl⟩ := hq.len
    obtain ⟨ya, yc, rfl⟩ := hr.len
    have Qaa := hid_mk hq
    have Qy := hid_mk hr
    clear hq hr
    have hx := blk_new w22 [.int .i64 (1 + (r : Int)), .slice ya R.length yc] 24
    have hbx := below_box w22 (.cells #[.int .i64 (1 + (r : Int)), .slice ya R.length yc] 24)
    have Nfy := hid_mk (Nat.ne_of_lt Xf.out.lt)
    have Ngy := hid_mk (Nat.ne_of_lt Xg.out.lt)
    have Nxy := hid_mk (Nat.ne_of_lt Xx.out.lt)
    have Gy : Hid (w.heap.size ≤ w22.heap.size) := hid_mk B.out.size
    replace Qa := hid_mk (Qa.out.below hbx)
    replace Qg := hid_mk (Qg.out.below hbx)
    replace Qb := hid_mk (Qb.out.below hbx)
    replace Qx := hid_mk (Qx.out.below hbx)
    replace Qaa := hid_mk (Qaa.out.below hbx)
    replace Qy := hid_mk (Qy.out.below hbx)
    replace Xf := hid_mk (Xf.out.below hbx)
    replace Xg := hid_mk (Xg.out.below hbx)
    replace Xx := hid_mk (Xx.out.below hbx)
    replace B := hid_mk (below_then B.out hbx)
    have Xy := hid_mk hx
    clear hx hbx
    go_wp2_with fail
    refine (kints _ _ Bk Bk _ Qaa.out.1 Qb.out.1 HLB.out).mono ?_
    rintro e w23 ⟨he, hb⟩
    replace Qa := hid_mk (Qa.out.below hb)
    replace Qg := hid_mk (Qg.out.below hb)
    replace Qb := hid_mk (Qb.out.below hb)
    replace Qx := hid_mk (Qx.out.below hb)
    replace Qaa := hid_mk (Qaa.out.below hb)
    replace Qy := hid_mk (Qy.out.below hb)
    replace Xf := hid_mk (Xf.out.below hb)
    replace Xg := hid_mk (Xg.out.below hb)
    replace Xx := hid_mk (Xx.out.below hb)
    replace Xy := hid_mk (Xy.out.below hb)
    replace B := hid_mk (below_then B.out hb)
    clear hb
    rw [sameL_self] at he
    subst he
    obtain ⟨ly, cy0, cy1, fy0, fy1⟩ := blk2 Xy.out
    obtain ⟨lg, cg0, cg1, fg0, fg1⟩ := blk2 Xg.out
    go_wp2_with fail
    refine (frsame (1 + (r : Int)) (1 + (r : Int)) _ _ R R _ Qy.out.1 Qg.out.1 HLR.out).mono ?_
    rintro e w24 ⟨he, hb⟩
    clear ly cy0 cy1 fy0 fy1
    clear lg cg0 cg1 fg0 fg1
    replace Qa := hid_mk (Qa.out.below hb)
    replace Qg := hid_mk (Qg.out.below hb)
    replace Qb := hid_mk (Qb.out.below hb)
    replace Qx := hid_mk (Qx.out.below hb)
    replace Qaa := hid_mk (Qaa.out.below hb)
    replace Qy := hid_mk (Qy.out.below hb)
    replace Xf := hid_mk (Xf.out.below hb)
    replace Xg := hid_mk (Xg.out.below hb)
    replace Xx := hid_mk (Xx.out.below hb)
    replace Xy := hid_mk (Xy.out.below hb)
    replace B := hid_mk (below_then B.out hb)
    clear hb
    rw [sameF_self] at he
    subst he
    clear Qaa
    clear Qy
    clear Qa
    go_wp2_with fail
    refine (HP4.out _).mono ?_
    rintro e w25 ⟨rfl, hs⟩
    have hb : Below w24.heap.size w24 w25 := by
      rw [hs]
      exact Below.refl _ _
    clear hs
    replace Qg := hid_mk (Qg.out.below hb)
    replace Qb := hid_mk (Qb.out.below hb)
    replace Qx := hid_mk (Qx.out.below hb)
    replace Xf := hid_mk (Xf.out.below hb)
    replace Xg := hid_mk (Xg.out.below hb)
    replace Xx := hid_mk (Xx.out.below hb)
    replace Xy := hid_mk (Xy.out.below hb)
    replace B := hid_mk (below_then B.out hb)
    clear hb
    obtain ⟨lg, cg0, cg1, fg0, fg1⟩ := blk2 Xg.out
    have hcl : c ≤ Bk.length := by
      have := HBl.out
      have := HC3.out
      omega
    obtain ⟨u3, u4, hs1, hv1, hs2, hv2, _, _⟩ := slicesK Qb.out c hcl
    rw [HTe.out] at hv1
    rw [HDe.out] at hv2
    have HS1 := hid_mk hs1
    have HS2 := hid_mk hs2
    have QD := hid_mk hv2
    have QT := hid_mk hv1
    have hcl' : (c : Int) ≤ (Bk.length : Int) := by omega
    clear hs1 hs2 hv1 hv2 hcl
    go_wp2_with fail
    clear lg cg0 cg1 fg0 fg1
    have BU0 := B.out.size
    obtain ⟨V, hU⟩ : ∃ V, V = w25 := ⟨_, rfl⟩
    rw [← hU] at BU0 Qg Qb Qx QD QT Xf Xg Xx Xy B
    rw [← hU]
    have BU := hid_mk BU0
    clear hU BU0
    refine wp_region_outl3 20 [(9, PutB V.heap.size)] [] []
        [(fun v _ => v = .agg #[.int .i64 (1 + (r : Int)), .slice ga R.length gc]),
        (fun v _ => v = .slice ba Bk.length bc),
        (fun v _ => v = .int .i64 (c : Int)),
        (fun v _ => v = u4),
        (fun v W => ∃ x, v = .tuple #[.agg #[.int .i64 (1 + (r : Int)), x], .int .i64 0] ∧ IntsK w.heap.size W x DR),
        (fun v W => ∃ x, v = .tuple #[.agg #[.int .i64 (1 + (r : Int)), x], .int .i64 0] ∧ IntsK w.heap.size W x DR),
        (fun v W => ∃ x, v = .agg #[.int .i64 (1 + (r : Int)), x] ∧ IntsK w.heap.size W x DR),
        (fun v _ => v = .int .i64 0),
        (fun v W => ∃ b x y, v = .pointer (some ⟨b, 0, none⟩) ∧ V.heap.size ≤ b ∧ BlkAt W b [x, y] 24),
        (fun v W => ∃ b x, v = .pointer (some ⟨b, 0, none⟩) ∧ BlkAt W b [.int .i64 (1 + (r : Int)), x] 24 ∧ IntsK w.heap.size W x DR),
        (fun v _ => v = .int .i64 0)]
        (Below V.heap.size V) (by kernel_rfl) (by kernel_rfl) (by kernel_rfl) ?_ (fun u u' hb h => h.trans (hb.mono h.size)) ((Below.refl _ _).drew) ?_ ?_ ?_ ?_ ?_
    · refine And.intro (up_eq _) ?_
      refine And.intro (up_eq _) ?_
      refine And.intro (up_eq _) ?_
      refine And.intro (up_eq _) ?_
      refine And.intro (upT_k _ _ _ _) ?_
      refine And.intro (upT_k _ _ _ _) ?_
      refine And.intro (upA_k _ _ _) ?_
      refine And.intro (up_eq _) ?_
      refine And.intro (up_new _) ?_
      refine And.intro (up_full _ _ _) ?_
      refine And.intro (up_eq _) ?_
      trivial
    · trivial
    · trivial
    · refine And.intro (And.intro ?_ (fun u u' hp h => putB_below h (Nat.le_refl _) hp)) ?_
      · refine And.intro (fun _ _ _ => ch_eq _ _) ?_
        refine And.intro (fun _ _ _ => ch_eq _ _) ?_
        refine And.intro (fun _ _ _ => ch_eq _ _) ?_
        refine And.intro (fun _ _ _ => ch_eq _ _) ?_
        refine And.intro (fun _ _ _ => putT_k BU.out) ?_
        refine And.intro (fun _ _ _ => putT_k BU.out) ?_
        refine And.intro (fun _ _ _ => putA_k BU.out) ?_
        refine And.intro (fun _ _ _ => ch_eq _ _) ?_
        refine And.intro (fun _ _ _ => put_new _ _) ?_
        refine And.intro (fun h _ _ => absurd rfl h) ?_
        refine And.intro (fun _ _ _ => ch_eq _ _) ?_
        trivial
      trivial
    · refine And.intro ?_ (And.intro ?_ (And.intro ?_ (And.intro ?_ (And.intro ?_ (And.intro ?_ (And.intro ?_ (And.intro ?_ (And.intro ?_ (And.intro ?_ (And.intro ?_ (True.intro)))))))))))
      · refine qstep_val (.agg #[.int .i64 (1 + (r : Int)), .slice ga R.length gc]) (by kernel_rfl) (by kernel_rfl) rfl (fun _ A1 Y2 inv hnl hall => ⟨wanted_none rfl, ?_, rfl⟩)
        have h12 : A1.eval (.tmp 12) = .pointer (some ⟨w5.heap.size, 0, none⟩) := (inv.base 12 (by kernel_rfl)).trans rfl
        simp only [execOp, h12, Sem.run_bind, loadFr (Xg.out.below inv.s), Result.andThen_ok, Sem.run_pure]
      · refine qstep_val (.slice ba Bk.length bc) (by kernel_rfl) (by kernel_rfl) rfl (fun _ A1 Y2 inv hnl hall => ⟨wanted_none rfl, ?_, rfl⟩)
        have h15 : A1.eval (.tmp 15) = .slice ba Bk.length bc := (inv.base 15 (by kernel_rfl)).trans rfl
        simp only [execOp, h15, Sem.run_pure]
      · refine qstep_val (.int .i64 (c : Int)) (by kernel_rfl) (by kernel_rfl) rfl (fun _ A1 Y2 inv hnl hall => ⟨wanted_none rfl, ?_, rfl⟩)
        have h19 : A1.eval (.tmp 19) = .int .i64 (c : Int) := (inv.base 19 (by kernel_rfl)).trans rfl
        simp only [execOp, h19, Sem.run_pure]
      · refine qstep_val (u4) (by kernel_rfl) (by kernel_rfl) rfl (fun _ A1 Y2 inv hnl hall => ⟨wanted_none rfl, ?_, rfl⟩)
        have h99 : A1.eval (.tmp 99) = .slice ba Bk.length bc := inv.get hall 1 99 (by kernel_rfl) (by kernel_rfl) rfl
        have h100 : A1.eval (.tmp 100) = .int .i64 (c : Int) := inv.get hall 2 100 (by kernel_rfl) (by kernel_rfl) rfl
        have gg := HS2.out Y2
        simp only [execOp, Option.map, h99, h100]
        simp [gg, Result.andThen]
      · refine qstep_call 9 (by kernel_rfl) _ _ (by kernel_rfl) (by kernel_rfl) rfl rfl (fun _ A1 Y2 inv hnl hall => ⟨wanted_none rfl, #[.agg #[.int .i64 (1 + (r : Int)), .slice ga R.length gc], u4], ?_, ?_⟩)
        · have h98 : A1.eval (.tmp 98) = .agg #[.int .i64 (1 + (r : Int)), .slice ga R.length gc] := inv.get hall 0 98 (by kernel_rfl) (by kernel_rfl) rfl
          have h101 : A1.eval (.tmp 101) = u4 := inv.get hall 3 101 (by kernel_rfl) (by kernel_rfl) rfl
          simp [h98, h101]
        · refine (C5.out _ _ _ (Qg.out.below inv.s) (QD.out.below inv.s) (Nat.le_trans BU.out inv.s.size)).mono ?_
          rintro e u ⟨x, rfl, ⟨hx, _⟩, hb⟩
          exact ⟨_, rfl, ⟨x, rfl, hx⟩, hb⟩
      · refine qstep_ex (by kernel_rfl) (by kernel_rfl) rfl (fun _ A1 Y2 inv hnl hall => ⟨wanted_none rfl, ?_⟩)
        have h102 : (fun v W => ∃ x, v = .tuple #[.agg #[.int .i64 (1 + (r : Int)), x], .int .i64 0] ∧ IntsK w.heap.size W x DR) (A1.eval (.tmp 102)) Y2 := inv.get hall 4 102 (by kernel_rfl) (by kernel_rfl) rfl
        exact ⟨A1.eval (.tmp 102), by simp only [execOp, Sem.run_pure], h102⟩
      · refine qstep_ex (by kernel_rfl) (by kernel_rfl) rfl (fun _ A1 Y2 inv hnl hall => ⟨wanted_none rfl, ?_⟩)
        have h97 : (fun v W => ∃ x, v = .tuple #[.agg #[.int .i64 (1 + (r : Int)), x], .int .i64 0] ∧ IntsK w.heap.size W x DR) (A1.eval (.tmp 97)) Y2 := inv.get hall 5 97 (by kernel_rfl) (by kernel_rfl) rfl
        obtain ⟨x, hx, hi⟩ := h97
        refine ⟨.agg #[.int .i64 (1 + (r : Int)), x], ?_, x, rfl, hi⟩
        simp only [execOp, hx]
        simp [go_sem]
      · refine qstep_val (.int .i64 0) (by kernel_rfl) (by kernel_rfl) rfl (fun _ A1 Y2 inv hnl hall => ⟨wanted_none rfl, ?_, rfl⟩)
        have h97 : (fun v W => ∃ x, v = .tuple #[.agg #[.int .i64 (1 + (r : Int)), x], .int .i64 0] ∧ IntsK w.heap.size W x DR) (A1.eval (.tmp 97)) Y2 := inv.get hall 5 97 (by kernel_rfl) (by kernel_rfl) rfl
        obtain ⟨x, hx, hi⟩ := h97
        simp only [execOp, hx]
        simp [go_sem]
      · refine qstep_run (by kernel_rfl) (by kernel_rfl) rfl (fun _ A1 Y2 inv hnl hall => ⟨wanted_none rfl, ?_⟩)
        refine ⟨.pointer (some ⟨Y2.heap.size, 0, none⟩), Y2.alloc (.cells #[.int .i64 0, .slice none 0 0] 24), ?_, ⟨_, _, _, rfl, inv.s.size, blk_new _ [.int .i64 0, .slice none 0 0] _⟩, below_box _ _⟩
        simp [execOp, go_sem]
      · refine qstep_skip (by kernel_rfl) (by kernel_rfl) rfl (fun _ A1 Y2 inv hnl hall => ⟨wanted_none rfl, ?_⟩)
        have h20 : (fun v W => ∃ b x y, v = .pointer (some ⟨b, 0, none⟩) ∧ V.heap.size ≤ b ∧ BlkAt W b [x, y] 24) (A1.eval (.tmp 20)) Y2 := inv.get hall 8 20 (by kernel_rfl) (by kernel_rfl) rfl
        have h103 : (fun v W => ∃ x, v = .agg #[.int .i64 (1 + (r : Int)), x] ∧ IntsK w.heap.size W x DR) (A1.eval (.tmp 103)) Y2 := inv.get hall 6 103 (by kernel_rfl) (by kernel_rfl) rfl
        obtain ⟨b, y0, y1, hb, hB, hr⟩ := h20
        obtain ⟨x, hx, hi⟩ := h103
        obtain ⟨_, _, hh⟩ := hi.len
        refine ⟨(Y2.setCell ⟨b, 0, none⟩ (.int .i64 (1 + (r : Int)))).setCell ⟨b, 1, none⟩ x, ?_, ⟨b, x, hb, (hr.set 0 _).set 1 _, putB_k BU.out _ _ _ ⟨b, _, _, _, hB, hr, rfl⟩ hi⟩, ⟨b, _, _, _, hB, hr, rfl⟩⟩
        simp only [execOp, hb, hx]
        rw [hh]
        have c0 := hr.cell 0
        have c1 := hr.cell 1
        have f0 := hr.free 0
        have f1 := hr.free 1
        simp at c0 c1
        simp [go_sem, c0, c1, f0, f1]
      · refine qstep_val (.int .i64 0) (by kernel_rfl) (by kernel_rfl) rfl (fun _ A1 Y2 inv hnl hall => ⟨wanted_none rfl, ?_, rfl⟩)
        have h104 : A1.eval (.tmp 104) = .int .i64 0 := inv.get hall 7 104 (by kernel_rfl) (by kernel_rfl) rfl
        simp only [execOp, h104, Sem.run_pure]
    · intro listed A1 Y2 inv hall
      have e98 : A1.eval (.tmp 98) = .agg #[.int .i64 (1 + (r : Int)), .slice ga R.length gc] := inv.fin 0 98 (by kernel_rfl) (hall 0 (Nat.lt_of_lt_of_eq (by decide : 0 < 11) (by kernel_rfl))) rfl
      have e99 : A1.eval (.tmp 99) = .slice ba Bk.length bc := inv.fin 1 99 (by kernel_rfl) (hall 1 (Nat.lt_of_lt_of_eq (by decide : 1 < 11) (by kernel_rfl))) rfl
      have e100 : A1.eval (.tmp 100) = .int .i64 (c : Int) := inv.fin 2 100 (by kernel_rfl) (hall 2 (Nat.lt_of_lt_of_eq (by decide : 2 < 11) (by kernel_rfl))) rfl
      have e101 : A1.eval (.tmp 101) = u4 := inv.fin 3 101 (by kernel_rfl) (hall 3 (Nat.lt_of_lt_of_eq (by decide : 3 < 11) (by kernel_rfl))) rfl
      have e104 : A1.eval (.tmp 104) = .int .i64 0 := inv.fin 7 104 (by kernel_rfl) (hall 7 (Nat.lt_of_lt_of_eq (by decide : 7 < 11) (by kernel_rfl))) rfl
      have e10 : A1.eval (.tmp 10) = .int .i64 0 := inv.fin 10 10 (by kernel_rfl) (hall 10 (Nat.lt_of_lt_of_eq (by decide : 10 < 11) (by kernel_rfl))) rfl
      have p102 : (fun v W => ∃ x, v = .tuple #[.agg #[.int .i64 (1 + (r : Int)), x], .int .i64 0] ∧ IntsK w.heap.size W x DR) (A1.eval (.tmp 102)) Y2 := inv.fin 4 102 (by kernel_rfl) (hall 4 (Nat.lt_of_lt_of_eq (by decide : 4 < 11) (by kernel_rfl))) rfl
      obtain ⟨v102, e102⟩ : ∃ v, A1.eval (.tmp 102) = v := ⟨_, rfl⟩
      rw [e102] at p102
      have p97 : (fun v W => ∃ x, v = .tuple #[.agg #[.int .i64 (1 + (r : Int)), x], .int .i64 0] ∧ IntsK w.heap.size W x DR) (A1.eval (.tmp 97)) Y2 := inv.fin 5 97 (by kernel_rfl) (hall 5 (Nat.lt_of_lt_of_eq (by decide : 5 < 11) (by kernel_rfl))) rfl
      obtain ⟨v97, e97⟩ : ∃ v, A1.eval (.tmp 97) = v := ⟨_, rfl⟩
      rw [e97] at p97
      have p103 : (fun v W => ∃ x, v = .agg #[.int .i64 (1 + (r : Int)), x] ∧ IntsK w.heap.size W x DR) (A1.eval (.tmp 103)) Y2 := inv.fin 6 103 (by kernel_rfl) (hall 6 (Nat.lt_of_lt_of_eq (by decide : 6 < 11) (by kernel_rfl))) rfl
      obtain ⟨v103, e103⟩ : ∃ v, A1.eval (.tmp 103) = v := ⟨_, rfl⟩
      rw [e103] at p103
      have p20 : (fun v W => ∃ b x y, v = .pointer (some ⟨b, 0, none⟩) ∧ V.heap.size ≤ b ∧ BlkAt W b [x, y] 24) (A1.eval (.tmp 20)) Y2 := inv.fin 8 20 (by kernel_rfl) (hall 8 (Nat.lt_of_lt_of_eq (by decide : 8 < 11) (by kernel_rfl))) rfl
      obtain ⟨v20, e20⟩ : ∃ v, A1.eval (.tmp 20) = v := ⟨_, rfl⟩
      rw [e20] at p20
      have hst9 := inv.fin0 9 (by kernel_rfl) (hall 9 (Nat.lt_of_lt_of_eq (by decide : 9 < 11) (by kernel_rfl))) rfl
      rw [e20] at hst9
      have HF := inv.frame hall
      have HS9 := hid_mk inv.s
      simp only [putEnd, e98, e99, e100, e101, e104, e10, e102, e97, e103, e20, Act.put, List.setIfInBounds_toArray, List.set_cons_succ, List.set_cons_zero] at HF
      clear e98 e99 e100 e101 e104 e10 e102 e97 e103 e20 inv hall
      subst HF
      obtain ⟨bp, xp, hb20, hxp, hkp⟩ := hst9
      obtain ⟨b2, _, _, e2, hbp, _⟩ := p20
      obtain rfl : b2 = bp := by
        rw [hb20] at e2
        injection e2 with e3
        injection e3 with e4
        injection e4 with e5
        exact e5.symm
      clear e2
      obtain ⟨pa, pc, rfl⟩ := hkp.len
      subst hb20
      have Ngp := hid_mk (Nat.ne_of_lt (Nat.lt_of_lt_of_le Xg.out.lt hbp))
      have Nxp := hid_mk (Nat.ne_of_lt (Nat.lt_of_lt_of_le Xx.out.lt hbp))
      have Gp : Hid (w.heap.size ≤ b2) := hid_mk (Nat.le_trans BU.out hbp)
      replace Qg := hid_mk (Qg.out.below HS9.out)
      replace Qb := hid_mk (Qb.out.below HS9.out)
      replace Qx := hid_mk (Qx.out.below HS9.out)
      replace QD := hid_mk (QD.out.below HS9.out)
      replace QT := hid_mk (QT.out.below HS9.out)
      replace Xf := hid_mk (Xf.out.below HS9.out)
      replace Xg := hid_mk (Xg.out.below HS9.out)
      replace Xx := hid_mk (Xx.out.below HS9.out)
      replace Xy := hid_mk (Xy.out.below HS9.out)
      replace B := hid_mk (below_then B.out HS9.out)
      have Xp := hid_mk hxp
      have Qp := hid_mk hkp
      clear hxp hkp HS9 hbp BU
      clear Xf Xy
      obtain ⟨lp, cp0, cp1, fp0, fp1⟩ := blk2 Xp.out
      go_wp2_with fail
      clear lp cp0 cp1 fp0 fp1
      have BU0 := B.out.size
      obtain ⟨Z, hU⟩ : ∃ Z, Z = Y2 := ⟨_, rfl⟩
      rw [← hU] at BU0 Qg Qb Qx QD QT Qp Xg Xx Xp B
      rw [← hU]
      have BU := hid_mk BU0
      clear hU BU0
      refine wp_region_outl3 20 [(8, PutAt b2)] [] [(8, fun u => BlkAt u b2 [.int .i64 (1 + (r : Int)), .slice pa DR.length pc] 24)]
          [(fun v _ => v = .agg #[.int .i64 (1 + (r : Int)), .slice pa DR.length pc]),
          (fun v _ => v = .slice ba Bk.length bc),
          (fun v _ => v = .int .i64 (c : Int)),
          (fun v _ => v = u3),
          (fun v W => ∃ x, v = .tuple #[.agg #[.int .i64 (1 + (r : Int)), x], .int .i64 0] ∧ IntsK w.heap.size W x BR),
          (fun v W => ∃ x, v = .tuple #[.agg #[.int .i64 (1 + (r : Int)), x], .int .i64 0] ∧ IntsK w.heap.size W x BR),
          (fun v W => ∃ x, v = .agg #[.int .i64 (1 + (r : Int)), x] ∧ IntsK w.heap.size W x BR),
          (fun v _ => v = .int .i64 0),
          (fun _ W => ∃ x, BlkAt W b2 [.int .i64 (1 + (r : Int)), x] 24 ∧ IntsK w.heap.size W x BR),
          (fun v _ => v = .int .i64 0)]
          (Box1 Z b2) (by kernel_rfl) (by kernel_rfl) (by kernel_rfl) ?_ (fun u u' hb h => h.below hb) (⟨(Chg.refl _ _).trans (Chg.of_below (Below.refl _ _).drew), _, _, Xp.out.below (Below.refl _ _).drew⟩) ?_ ?_ ?_ ?_ ?_
      · refine And.intro (up_eq _) ?_
        refine And.intro (up_eq _) ?_
        refine And.intro (up_eq _) ?_
        refine And.intro (up_eq _) ?_
        refine And.intro (upT_k _ _ _ _) ?_
        refine And.intro (upT_k _ _ _ _) ?_
        refine And.intro (upA_k _ _ _) ?_
        refine And.intro (up_eq _) ?_
        refine And.intro (up_at _ _ _ _) ?_
        refine And.intro (up_eq _) ?_
        trivial
      · refine And.intro (And.intro (fun u u' hb h => h.below hb) (fun p hp hne u u' ht h => absurd (by rw [List.mem_singleton] at hp; rw [hp]) hne)) ?_
        trivial
      · refine And.intro (Xp.out.below (Below.refl _ _).drew) ?_
        trivial
      · refine And.intro (And.intro ?_ (fun u u' hp h => h.put hp)) ?_
        · refine And.intro (fun _ _ _ => ch_eq _ _) ?_
          refine And.intro (fun _ _ _ => ch_eq _ _) ?_
          refine And.intro (fun _ _ _ => ch_eq _ _) ?_
          refine And.intro (fun _ _ _ => ch_eq _ _) ?_
          refine And.intro (fun _ _ _ => putAtT_k Gp.out) ?_
          refine And.intro (fun _ _ _ => putAtT_k Gp.out) ?_
          refine And.intro (fun _ _ _ => putAtA_k Gp.out) ?_
          refine And.intro (fun _ _ _ => ch_eq _ _) ?_
          refine And.intro (fun h _ _ => absurd rfl h) ?_
          refine And.intro (fun _ _ _ => ch_eq _ _) ?_
          trivial
        trivial
      · refine And.intro ?_ (And.intro ?_ (And.intro ?_ (And.intro ?_ (And.intro ?_ (And.intro ?_ (And.intro ?_ (And.intro ?_ (And.intro ?_ (And.intro ?_ (True.intro))))))))))
        · refine qstep_val (.agg #[.int .i64 (1 + (r : Int)), .slice pa DR.length pc]) (by kernel_rfl) (by kernel_rfl) rfl (fun _ A1 Y3 inv hnl hall => ⟨wanted_none rfl, ?_, rfl⟩)
          have h20 : A1.eval (.tmp 20) = .pointer (some ⟨b2, 0, none⟩) := (inv.base 20 (by kernel_rfl)).trans rfl
          have hxb := inv.pre1 (j := 8) hnl (List.mem_singleton.2 rfl) (Or.inr (by kernel_rfl))
          simp only [execOp, h20, Sem.run_bind, loadFr hxb, Result.andThen_ok, Sem.run_pure]
        · refine qstep_val (.slice ba Bk.length bc) (by kernel_rfl) (by kernel_rfl) rfl (fun _ A1 Y3 inv hnl hall => ⟨wanted_none rfl, ?_, rfl⟩)
          have h15 : A1.eval (.tmp 15) = .slice ba Bk.length bc := (inv.base 15 (by kernel_rfl)).trans rfl
          simp only [execOp, h15, Sem.run_pure]
        · refine qstep_val (.int .i64 (c : Int)) (by kernel_rfl) (by kernel_rfl) rfl (fun _ A1 Y3 inv hnl hall => ⟨wanted_none rfl, ?_, rfl⟩)
          have h19 : A1.eval (.tmp 19) = .int .i64 (c : Int) := (inv.base 19 (by kernel_rfl)).trans rfl
          simp only [execOp, h19, Sem.run_pure]
        · refine qstep_val (u3) (by kernel_rfl) (by kernel_rfl) rfl (fun _ A1 Y3 inv hnl hall => ⟨wanted_none rfl, ?_, rfl⟩)
          have h107 : A1.eval (.tmp 107) = .slice ba Bk.length bc := inv.get hall 1 107 (by kernel_rfl) (by kernel_rfl) rfl
          have h108 : A1.eval (.tmp 108) = .int .i64 (c : Int) := inv.get hall 2 108 (by kernel_rfl) (by kernel_rfl) rfl
          have gg := HS1.out Y3
          simp only [execOp, Option.map, h107, h108]
          simp [gg, Result.andThen]
        · refine qstep_call 9 (by kernel_rfl) _ _ (by kernel_rfl) (by kernel_rfl) rfl rfl (fun _ A1 Y3 inv hnl hall => ⟨wanted_none rfl, #[.agg #[.int .i64 (1 + (r : Int)), .slice pa DR.length pc], u3], ?_, ?_⟩)
          · have h106 : A1.eval (.tmp 106) = .agg #[.int .i64 (1 + (r : Int)), .slice pa DR.length pc] := inv.get hall 0 106 (by kernel_rfl) (by kernel_rfl) rfl
            have h109 : A1.eval (.tmp 109) = u3 := inv.get hall 3 109 (by kernel_rfl) (by kernel_rfl) rfl
            simp [h106, h109]
          · refine (C6.out _ _ _ (Qp.out.box1 inv.s Xp.out Gp.out) (QT.out.box1 inv.s Xp.out Gp.out) (Nat.le_trans BU.out inv.s.chg.size)).mono ?_
            rintro e u ⟨x, rfl, ⟨hx, _⟩, hb⟩
            exact ⟨_, rfl, ⟨x, rfl, hx⟩, hb⟩
        · refine qstep_ex (by kernel_rfl) (by kernel_rfl) rfl (fun _ A1 Y3 inv hnl hall => ⟨wanted_none rfl, ?_⟩)
          have h110 : (fun v W => ∃ x, v = .tuple #[.agg #[.int .i64 (1 + (r : Int)), x], .int .i64 0] ∧ IntsK w.heap.size W x BR) (A1.eval (.tmp 110)) Y3 := inv.get hall 4 110 (by kernel_rfl) (by kernel_rfl) rfl
          exact ⟨A1.eval (.tmp 110), by simp only [execOp, Sem.run_pure], h110⟩
        · refine qstep_ex (by kernel_rfl) (by kernel_rfl) rfl (fun _ A1 Y3 inv hnl hall => ⟨wanted_none rfl, ?_⟩)
          have h105 : (fun v W => ∃ x, v = .tuple #[.agg #[.int .i64 (1 + (r : Int)), x], .int .i64 0] ∧ IntsK w.heap.size W x BR) (A1.eval (.tmp 105)) Y3 := inv.get hall 5 105 (by kernel_rfl) (by kernel_rfl) rfl
          obtain ⟨x, hx, hi⟩ := h105
          refine ⟨.agg #[.int .i64 (1 + (r : Int)), x], ?_, x, rfl, hi⟩
          simp only [execOp, hx]
          simp [go_sem]
        · refine qstep_val (.int .i64 0) (by kernel_rfl) (by kernel_rfl) rfl (fun _ A1 Y3 inv hnl hall => ⟨wanted_none rfl, ?_, rfl⟩)
          have h105 : (fun v W => ∃ x, v = .tuple #[.agg #[.int .i64 (1 + (r : Int)), x], .int .i64 0] ∧ IntsK w.heap.size W x BR) (A1.eval (.tmp 105)) Y3 := inv.get hall 5 105 (by kernel_rfl) (by kernel_rfl) rfl
          obtain ⟨x, hx, hi⟩ := h105
          simp only [execOp, hx]
          simp [go_sem]
        · refine qstep_skip (by kernel_rfl) (by kernel_rfl) rfl (fun _ A1 Y3 inv hnl hall => ⟨wanted_none rfl, ?_⟩)
          have h20 : A1.eval (.tmp 20) = .pointer (some ⟨b2, 0, none⟩) := (inv.base 20 (by kernel_rfl)).trans rfl
          have h111 : (fun v W => ∃ x, v = .agg #[.int .i64 (1 + (r : Int)), x] ∧ IntsK w.heap.size W x BR) (A1.eval (.tmp 111)) Y3 := inv.get hall 6 111 (by kernel_rfl) (by kernel_rfl) rfl
          obtain ⟨y0, y1, hr⟩ := inv.s.box
          obtain ⟨x, hx, hi⟩ := h111
          obtain ⟨_, _, hh⟩ := hi.len
          refine ⟨(Y3.setCell ⟨b2, 0, none⟩ (.int .i64 (1 + (r : Int)))).setCell ⟨b2, 1, none⟩ x, ?_, ⟨x, (hr.set 0 _).set 1 _, putAt_k Gp.out _ _ _ ⟨_, _, _, hr, rfl⟩ hi⟩, ⟨_, _, _, hr, rfl⟩⟩
          simp only [execOp, h20, hx]
          rw [hh]
          have c0 := hr.cell 0
          have c1 := hr.cell 1
          have f0 := hr.free 0
          have f1 := hr.free 1
          simp at c0 c1
          simp [go_sem, c0, c1, f0, f1]
        · refine qstep_val (.int .i64 0) (by kernel_rfl) (by kernel_rfl) rfl (fun _ A1 Y3 inv hnl hall => ⟨wanted_none rfl, ?_, rfl⟩)
          have h112 : A1.eval (.tmp 112) = .int .i64 0 := inv.get hall 7 112 (by kernel_rfl) (by kernel_rfl) rfl
          simp only [execOp, h112, Sem.run_pure]
      · intro listed A1 Y3 inv hall
        have e106 : A1.eval (.tmp 106) = .agg #[.int .i64 (1 + (r : Int)), .slice pa DR.length pc] := inv.fin 0 106 (by kernel_rfl) (hall 0 (Nat.lt_of_lt_of_eq (by decide : 0 < 10) (by kernel_rfl))) rfl
        have e107 : A1.eval (.tmp 107) = .slice ba Bk.length bc := inv.fin 1 107 (by kernel_rfl) (hall 1 (Nat.lt_of_lt_of_eq (by decide : 1 < 10) (by kernel_rfl))) rfl
        have e108 : A1.eval (.tmp 108) = .int .i64 (c : Int) := inv.fin 2 108 (by kernel_rfl) (hall 2 (Nat.lt_of_lt_of_eq (by decide : 2 < 10) (by kernel_rfl))) rfl
        have e109 : A1.eval (.tmp 109) = u3 := inv.fin 3 109 (by kernel_rfl) (hall 3 (Nat.lt_of_lt_of_eq (by decide : 3 < 10) (by kernel_rfl))) rfl
        have e112 : A1.eval (.tmp 112) = .int .i64 0 := inv.fin 7 112 (by kernel_rfl) (hall 7 (Nat.lt_of_lt_of_eq (by decide : 7 < 10) (by kernel_rfl))) rfl
        have e13 : A1.eval (.tmp 13) = .int .i64 0 := inv.fin 9 13 (by kernel_rfl) (hall 9 (Nat.lt_of_lt_of_eq (by decide : 9 < 10) (by kernel_rfl))) rfl
        have p110 : (fun v W => ∃ x, v = .tuple #[.agg #[.int .i64 (1 + (r : Int)), x], .int .i64 0] ∧ IntsK w.heap.size W x BR) (A1.eval (.tmp 110)) Y3 := inv.fin 4 110 (by kernel_rfl) (hall 4 (Nat.lt_of_lt_of_eq (by decide : 4 < 10) (by kernel_rfl))) rfl
        obtain ⟨v110, e110⟩ : ∃ v, A1.eval (.tmp 110) = v := ⟨_, rfl⟩
        rw [e110] at p110
        have p105 : (fun v W => ∃ x, v = .tuple #[.agg #[.int .i64 (1 + (r : Int)), x], .int .i64 0] ∧ IntsK w.heap.size W x BR) (A1.eval (.tmp 105)) Y3 := inv.fin 5 105 (by kernel_rfl) (hall 5 (Nat.lt_of_lt_of_eq (by decide : 5 < 10) (by kernel_rfl))) rfl
        obtain ⟨v105, e105⟩ : ∃ v, A1.eval (.tmp 105) = v := ⟨_, rfl⟩
        rw [e105] at p105
        have p111 : (fun v W => ∃ x, v = .agg #[.int .i64 (1 + (r : Int)), x] ∧ IntsK w.heap.size W x BR) (A1.eval (.tmp 111)) Y3 := inv.fin 6 111 (by kernel_rfl) (hall 6 (Nat.lt_of_lt_of_eq (by decide : 6 < 10) (by kernel_rfl))) rfl
        obtain ⟨v111, e111⟩ : ∃ v, A1.eval (.tmp 111) = v := ⟨_, rfl⟩
        rw [e111] at p111
        have hst8 := inv.fin0 8 (by kernel_rfl) (hall 8 (Nat.lt_of_lt_of_eq (by decide : 8 < 10) (by kernel_rfl))) rfl
        have HF := inv.frame hall
        have HS9 := hid_mk inv.s
        simp only [putEnd, e106, e107, e108, e109, e112, e13, e110, e105, e111, Act.put, List.setIfInBounds_toArray, List.set_cons_succ, List.set_cons_zero] at HF
        clear e106 e107 e108 e109 e112 e13 e110 e105 e111 inv hall
        subst HF
        obtain ⟨xq, hxp, hkp⟩ := hst8
        obtain ⟨na, nc, rfl⟩ := hkp.len
        replace Qg := hid_mk (Qg.out.box1 HS9.out Xp.out Gp.out)
        replace Qx := hid_mk (Qx.out.box1 HS9.out Xp.out Gp.out)
        replace Qb := hid_mk (Qb.out.box1 HS9.out Xp.out Gp.out)
        replace Xg := hid_mk (Xg.out.box1 HS9.out Ngp.out)
        replace Xx := hid_mk (Xx.out.box1 HS9.out Nxp.out)
        replace B := hid_mk (HS9.out.old B.out Gp.out (Nat.le_refl _))
        replace Xp := hid_mk hxp
        replace Qp := hid_mk hkp
        clear hxp hkp HS9 BU QD QT HS1 HS2
        obtain ⟨lp, cp0, cp1, fp0, fp1⟩ := blk2 Xp.out
        obtain ⟨lx, cx0, cx1, fx0, fx1⟩ := blk2 Xx.out
        go_wp2_with fail
        refine (frsame (1 + (r : Int)) (1 + (r : Int)) _ _ BR BR _ Qp.out.1 Qx.out.1 HLBR.out).mono ?_
        rintro e w41 ⟨he, hb⟩
        clear lp cp0 cp1 fp0 fp1
        clear lx cx0 cx1 fx0 fx1
        replace Qg := hid_mk (Qg.out.below hb)
        replace Qx := hid_mk (Qx.out.below hb)
        replace Qb := hid_mk (Qb.out.below hb)
        replace Qp := hid_mk (Qp.out.below hb)
        replace Xg := hid_mk (Xg.out.below hb)
        replace Xx := hid_mk (Xx.out.below hb)
        replace Xp := hid_mk (Xp.out.below hb)
        replace B := hid_mk (below_then B.out hb)
        clear hb
        rw [sameF_self] at he
        subst he
        clear Qp
        clear Xp
        by_cases hc0 : c = 0
        · have hci : (c : Int) = 0 := by omega
          have hcb : ((c : Int) == 0) = true := by simp [hci]
          clear hci
          go_wp2_with fail
          go_ret
          exact ⟨rfl, B.out⟩
        · have hcb : ((c : Int) == 0) = false := by
            simp
            omega
          obtain ⟨lx, cx0, cx1, fx0, fx1⟩ := blk2 Xx.out
          have HT0 : Hid (0 < T.length) := hid_mk (by
            have h1 := HBl.out
            have h2 := HC3.out
            rw [← HTe.out, List.length_take]
            omega)
          have HOb := hid_mk Qb.out.1
          have HOg := hid_mk Qg.out.1
          have HU0 := hid_mk B.out.size
          obtain ⟨U0, hU0⟩ : ∃ U0, U0 = w41 := ⟨_, rfl⟩
          have HU1 : Hid (U0.heap.size = w41.heap.size) := hid_mk (by rw [hU0])
          rw [← hU0] at HOb HOg HU0
          clear hU0
          go_wp2_with fail
          refine (C7.out (Nat.pos_of_ne_zero hc0) _ _ Qx.out B.out.size).mono ?_
          rintro e w42 ⟨v1, v2, rfl, ⟨hq, _, hown, hap⟩, ⟨hr, _⟩, hb⟩
          clear lx cx0 cx1 fx0 fx1
          replace Qg := hid_mk (Qg.out.below hb)
          replace Qx := hid_mk (Qx.out.below hb)
          replace Qb := hid_mk (Qb.out.below hb)
          replace Xg := hid_mk (Xg.out.below hb)
          replace Xx := hid_mk (Xx.out.below hb)
          replace B := hid_mk (below_then B.out hb)
          clear hb
          obtain ⟨ea, ec, rfl⟩ := hq.len
          obtain ⟨qa, qc, rfl⟩ := hr.len
          have Qe := hid_mk hown
          have Qq := hid_mk hr
          rw [← HU1.out] at Qe
          have HAq := hid_mk hap
          clear hq hr hown hap
          have hx := blk_new w42 [.int .i64 (1 + (r : Int)), .slice qa DR.length qc] 24
          have hbx := below_box w42 (.cells #[.int .i64 (1 + (r : Int)), .slice qa DR.length qc] 24)
          have Ngq := hid_mk (Nat.ne_of_lt Xg.out.lt)
          have Nxq := hid_mk (Nat.ne_of_lt Xx.out.lt)
          have Gq : Hid (w.heap.size ≤ w42.heap.size) := hid_mk B.out.size
          replace Qg := hid_mk (Qg.out.below hbx)
          replace Qx := hid_mk (Qx.out.below hbx)
          replace Qb := hid_mk (Qb.out.below hbx)
          replace Qe := hid_mk (Qe.out.below hbx)
          replace Qq := hid_mk (Qq.out.below hbx)
          replace Xg := hid_mk (Xg.out.below hbx)
          replace Xx := hid_mk (Xx.out.below hbx)
          replace B := hid_mk (below_then B.out hbx)
          have Xq := hid_mk hx
          clear hx hbx
          have HOe := hid_mk Qe.out
          go_wp2_with fail
          refine (C8.out _ _ Qq.out B.out.size).mono ?_
          rintro e w43 ⟨v1, v2, rfl, ⟨hq, _, _⟩, ⟨hr, hfz⟩, hb⟩
          replace Qg := hid_mk (Qg.out.below hb)
          replace Qx := hid_mk (Qx.out.below hb)
          replace Qb := hid_mk (Qb.out.below hb)
          replace Qe := hid_mk (Qe.out.below hb)
          replace Qq := hid_mk (Qq.out.below hb)
          replace Xg := hid_mk (Xg.out.below hb)
          replace Xx := hid_mk (Xx.out.below hb)
          replace Xq := hid_mk (Xq.out.below hb)
          replace B := hid_mk (below_then B.out hb)
          clear hb
          obtain ⟨da, dc, rfl⟩ := hq.len
          obtain ⟨za, zc, rfl⟩ := hr.len
          have Qd := hid_mk hq
          have Qz := hid_mk hr
          have HAz := hid_mk (apart_from HOe.out hfz HAq.out)
          clear hq hr hfz
          obtain ⟨lq, cq0, cq1, fq0, fq1⟩ := blk2 Xq.out
          replace Qg := hid_mk ((Qg.out.setCell Xq.out (i := 0) Gq.out (.int .i64 (1 + (r : Int)))).setCell (Xq.out.set 0 (.int .i64 (1 + (r : Int)))) (i := 1) Gq.out (.slice za R.length zc))
          replace Qx := hid_mk ((Qx.out.setCell Xq.out (i := 0) Gq.out (.int .i64 (1 + (r : Int)))).setCell (Xq.out.set 0 (.int .i64 (1 + (r : Int)))) (i := 1) Gq.out (.slice za R.length zc))
          replace Qb := hid_mk ((Qb.out.setCell Xq.out (i := 0) Gq.out (.int .i64 (1 + (r : Int)))).setCell (Xq.out.set 0 (.int .i64 (1 + (r : Int)))) (i := 1) Gq.out (.slice za R.length zc))
          replace Qe := hid_mk ((Qe.out.setCell Xq.out (i := 0) Gq.out (.int .i64 (1 + (r : Int)))).setCell (Xq.out.set 0 (.int .i64 (1 + (r : Int)))) (i := 1) Gq.out (.slice za R.length zc))
          replace Qq := hid_mk ((Qq.out.setCell Xq.out (i := 0) Gq.out (.int .i64 (1 + (r : Int)))).setCell (Xq.out.set 0 (.int .i64 (1 + (r : Int)))) (i := 1) Gq.out (.slice za R.length zc))
          replace Qd := hid_mk ((Qd.out.setCell Xq.out (i := 0) Gq.out (.int .i64 (1 + (r : Int)))).setCell (Xq.out.set 0 (.int .i64 (1 + (r : Int)))) (i := 1) Gq.out (.slice za R.length zc))
          replace Qz := hid_mk ((Qz.out.setCell Xq.out (i := 0) Gq.out (.int .i64 (1 + (r : Int)))).setCell (Xq.out.set 0 (.int .i64 (1 + (r : Int)))) (i := 1) Gq.out (.slice za R.length zc))
          replace Xg := hid_mk ((Xg.out.other (i := 0) (Ngq.out) (.int .i64 (1 + (r : Int)))).other (i := 1) (Ngq.out) (.slice za R.length zc))
          replace Xx := hid_mk ((Xx.out.other (i := 0) (Nxq.out) (.int .i64 (1 + (r : Int)))).other (i := 1) (Nxq.out) (.slice za R.length zc))
          replace Xq := hid_mk ((Xq.out.set 0 (.int .i64 (1 + (r : Int)))).set 1 (.slice za R.length zc))
          replace B := hid_mk (put2 B.out Gq.out (.int .i64 (1 + (r : Int))) (.slice za R.length zc))
          obtain ⟨v', w', hrun, hk', hg', hb', g, cg, he⟩ := app_ownK Qe.out HT0.out Qd.out.1 HTD.out
          rw [HTDe.out] at hk'
          have HRun := hid_mk hrun
          have HB' := hid_mk hb'
          have HK' := hid_mk (hk' w.heap.size)
          have HG' := hid_mk hg'
          have HEe := hid_mk he
          clear hrun hb' hk' hg' he
          go_wp2_with (at_builtin; refine wpList_append_run_w (v := .slice ea T.length ec) (u := .slice da D.length dc) (v' := v') (w' := w') (by first | rfl | simp [Region.wanted, yielded]) _ _ 22 rfl (by first | rfl | go_simp) (by first | rfl | go_simp) (HRun.out _) ?_)
          clear lq cq0 cq1 fq0 fq1
          clear Qx
          clear Qq
          clear Qd
          clear Xx
          replace Qb := hid_mk (Qb.out.gr HG'.out HEe.out HT0.out (apart_old HOe.out (Nat.le_refl _) HOb.out))
          replace Qg := hid_mk (Qg.out.gr HG'.out HEe.out HT0.out (apart_old HOe.out (Nat.le_refl _) HOg.out))
          replace Qz := hid_mk (Qz.out.gr HG'.out HEe.out HT0.out HAz.out)
          replace Xg := hid_mk (Xg.out.gr HG'.out Qe.out)
          replace Xq := hid_mk (Xq.out.gr HG'.out Qe.out)
          replace B := hid_mk (B.out.trans (HB'.out.mono HU0.out))
          clear HB' HRun HG' HEe HAz HOe HOb HOg HU0
          have Qv := HK'
          clear HK' Qe
          refine (kints _ _ Bk Bk _ Qv.out.1 Qb.out.1 HLB.out).mono ?_
          rintro e w44 ⟨he, hb⟩
          replace Qg := hid_mk (Qg.out.below hb)
          replace Qb := hid_mk (Qb.out.below hb)
          replace Qz := hid_mk (Qz.out.below hb)
          replace Qv := hid_mk (Qv.out.below hb)
          replace Xg := hid_mk (Xg.out.below hb)
          replace Xq := hid_mk (Xq.out.below hb)
          replace B := hid_mk (below_then B.out hb)
          clear hb
          rw [sameL_self] at he
          subst he
          obtain ⟨lq, cq0, cq1, fq0, fq1⟩ := blk2 Xq.out
          obtain ⟨lg, cg0, cg1, fg0, fg1⟩ := blk2 Xg.out
          go_wp2_with fail
          refine (frsame (1 + (r : Int)) (1 + (r : Int)) _ _ R R _ Qz.out.1 Qg.out.1 HLR.out).mono ?_
          rintro e w45 ⟨he, hb⟩
          clear lq cq0 cq1 fq0 fq1
          clear lg cg0 cg1 fg0 fg1
          replace Qg := hid_mk (Qg.out.below hb)
          replace Qb := hid_mk (Qb.out.below hb)
          replace Qz := hid_mk (Qz.out.below hb)
          replace Qv := hid_mk (Qv.out.below hb)
          replace Xg := hid_mk (Xg.out.below hb)
          replace Xq := hid_mk (Xq.out.below hb)
          replace B := hid_mk (below_then B.out hb)
          clear hb
          rw [sameF_self] at he
          subst he
          go_wp2_with fail
          go_ret
          exact ⟨rfl, B.out⟩

/-! ### the row's frame -/
theorem own : ownKnob Try.prog.godebug = none := by kernel_rfl
theorem laidOut : laidOutB Try.prog = true := by kernel_rfl

set_option maxRecDepth 100000 in
theorem lifted (os : Os) (started : os.Started) (H : Type) (enc : TypeId × Value → H) :
    ReturnsInHanded {} Try.checked os 6 .any (Rows.freeOrdersSpec.pre6 enc Try.prog Try.f6 Rows.freeOrdersRow.domain false) (Rows.freeOrdersSpec.post enc Try.prog Try.f6 false true false false) := by
  refine returnsInHanded_of_change (C := Try.checked) own started (by kernel_rfl) Try.func6
    (ChangeSpec.witness6 (enc := enc) (C := Try.checked) false ⟨#[], #[.int .i64 0, .int .i64 0, .int .i64 0, .int .i64 0], []⟩ 8 (by kernel_rfl) (by kernel_rfl) (by kernel_rfl) (by kernel_rfl)) ?_
  intro W base args ds gs before hval0 hW hcnd _
  have hval : ∀ (j : Nat) t v, Try.f6.params[j]? = some t → args[j]? = some v → Value.okWide Try.prog W .any base t v := hval0
  have hW' := hW
  obtain ⟨p, q, hA0, hV, rfl, hfz, hnd⟩ := hW
  have hA : DataW.TrodAll enc Try.prog W 0 (fun _ => true) true Try.f6.params.toList args.toList ds p := hA0
  rw [Try.params6] at hA hval
  obtain ⟨v0, vs0, d0, ds0, p0, q0, hargs, rfl, rfl, h0, r0⟩ := trodAll_cons hA
  obtain ⟨v1, vs1, d1, ds1, p1, q1, rfl, rfl, rfl, h1, r1⟩ := trodAll_cons r0
  obtain ⟨v2, vs2, d2, ds2, p2, q2, rfl, rfl, rfl, h2, r2⟩ := trodAll_cons r1
  obtain ⟨v3, vs3, d3, ds3, p3, q3, rfl, rfl, rfl, h3, r3⟩ := trodAll_cons r2
  obtain ⟨rfl, rfl, rfl⟩ := trodAll_nil r3
  obtain rfl : args = #[v0, v1, v2, v3] := by cases args; simp_all
  obtain ⟨rfl, rfl⟩ := trodVars_none hV
  have k0 := h0
  have lt0 : ∀ x ∈ p0, x.block < W.heap.size := by
    obtain ⟨m, hm⟩ := k0
    exact DataW.trod_lt m _ _ _ hm
  have k1 := h1
  have lt1 : ∀ x ∈ p1, x.block < W.heap.size := by
    obtain ⟨m, hm⟩ := k1
    exact DataW.trod_lt m _ _ _ hm
  have k2 := h2
  have lt2 : ∀ x ∈ p2, x.block < W.heap.size := by
    obtain ⟨m, hm⟩ := k2
    exact DataW.trod_lt m _ _ _ hm
  have k3 := h3
  have lt3 : ∀ x ∈ p3, x.block < W.heap.size := by
    obtain ⟨m, hm⟩ := k3
    exact DataW.trod_lt m _ _ _ hm
  obtain ⟨a0, rfl, rfl, rfl, w0⟩ := open_int Try.underlying3 (hval 0 3 v0 rfl rfl) h0
  obtain ⟨a1, rfl, rfl, rfl, w1⟩ := open_int Try.underlying3 (hval 1 3 v1 rfl rfl) h1
  obtain ⟨a2, rfl, rfl, rfl, w2⟩ := open_int Try.underlying3 (hval 2 3 v2 rfl rfl) h2
  obtain ⟨a3, rfl, rfl, rfl, w3⟩ := open_int Try.underlying3 (hval 3 3 v3 rfl rfl) h3
  clear hA0 hval0
  refine (walk W a0 a1 a2 a3 w0 w1 w2 w3).mono fun e W' ⟨he, bel⟩ => ?_
  subst he
  exact ⟨_, rfl, _, _, _, [], _, [], hW', trodAll_mk1 (shut_bool Try.underlying4 _), (trodAll_cons_mk (Below.trod laidOut (by kernel_rfl) (of_decide_eq_true (by kernel_rfl)) k0 bel lt0) (trodAll_cons_mk (Below.trod laidOut (by kernel_rfl) (of_decide_eq_true (by kernel_rfl)) k1 bel lt1) (trodAll_cons_mk (Below.trod laidOut (by kernel_rfl) (of_decide_eq_true (by kernel_rfl)) k2 bel lt2) (trodAll_cons_mk (Below.trod laidOut (by kernel_rfl) (of_decide_eq_true (by kernel_rfl)) k3 bel lt3) trodAll_mk0)))), rfl, bel.frame _, fun h => by cases h⟩

theorem over : Rows.freeOrdersRow.holds Try.pinned (OpenSpec.ofChange Rows.freeOrdersSpec) :=
  OpenClaim.holds_of_wide 6 Try.f6 rfl rfl rfl rfl rfl rfl rfl ⟨rfl, rfl, rfl, rfl, rfl⟩ rfl rfl rfl rfl rfl (by kernel_rfl) Try.func6 (by kernel_rfl)
    (of_decide_eq_true (by kernel_rfl)) (by unfold Func.isWrapper; first | (rw [if_pos (by decide +kernel)]; kernel_rfl) | (rw [if_neg (by decide +kernel)]; exact ⟨rfl, rfl⟩))
    (fun os started H enc _ => lifted os started H enc)

/-- THE STATEMENT -/
theorem freeOrders_holds : Rows.FreeOrdersSaid := over
#print axioms freeOrders_holds
end Go.Proofs.Ytfbimocgcnaogaa.freeOrders
