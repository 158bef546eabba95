/-
  PROVED: dumbwaiterlaw10.WalkCalls returns true for every input, and what was in memory stays as it was. Conditions: none.
-/
import Derived.Test.YtfhhgcgbgmilcaaKp40
import Derived.Test.YtfhhgcgbgmilcaaRows
import Derived.WalkKit
import Derived.ProofKit
import Derived.OpenShut
import Derived.ShutString
import Derived.ChangeOld
import Derived.Below
import Derived.Carry
import Derived.Lib.SmallJoins

namespace Go.Proofs.Ytfhhgcgbgmilcaa.walkCalls
open Go.ChangeShapes Go.WideShapes Go.ChangeAt Go.RowKit
set_option linter.unusedVariables false


theorem infoRg : (Try.prog.info? 24).map (·.size) = some 5 := by kernel_rfl
theorem loadRg {w : World} {b : Nat} {x0 x1 x2 x3 x4 : Value} (h : BlkAt w b [x0, x1, x2, x3, x4] 24) : (Instr.loadAt 24 (.pointer (some ⟨b, 0, none⟩))).run Try.prog w = .ok (.agg #[x0, x1, x2, x3, x4]) w := run_loadAt_mid w b 0 _ [x0, x1, x2, x3, x4] _ (fun j v hv => by
  match j, hv with
  | 0, hv => simp at hv; subst hv; exact h.cell 0
  | 1, hv => simp at hv; subst hv; exact h.cell 1
  | 2, hv => simp at hv; subst hv; exact h.cell 2
  | 3, hv => simp at hv; subst hv; exact h.cell 3
  | 4, hv => simp at hv; subst hv; exact h.cell 4) Try.underlying24 rfl infoRg
set_option maxRecDepth 100000 in
set_option maxHeartbeats 4000000 in
theorem walk_main (w : World) (size : Int) (va : Option Addr) (vc : Nat) (L : List Spt) (hv : SpotsAt w (.slice va L.length vc) L) (hs : isSpts L) (hL : L.length ≤ 40) (head p : Int) (b table : Bool) (ih : I64 head) :
    Calls Try.prog 4 #[.int .i64 size, .slice va L.length vc, .int .i64 head, .agg #[.int .i64 p, .bool b], .bool table] w fun e w' => e = .returned (.bool true) ∧ Below w.heap.size w w' := by
  have QV := hid_mk hv
  have hLi : (L.length : Int) ≤ 40 := by omega
  obtain ⟨K, hK⟩ := Int.eq_ofNat_of_zero_le (Int.emod_nonneg size (show (8 : Int) ≠ 0 by omega))
  have hK8 : (K : Int) < 8 := by
    have := Int.emod_lt_of_pos size (show (0 : Int) < 8 by omega)
    omega
  obtain ⟨S, hS, hS1, hS2, p0⟩ := ring_size (K := K) (by omega)
  have hm0 := Int.emod_nonneg head (show S ≠ 0 by omega)
  have hm1 := Int.emod_lt_of_pos head (show 0 < S by omega)
  have HPk := hid_mk (fun u => pick_any size 8 u (by decide) (by decide))
  have HPh := hid_mk (fun u => pick_any head S u hS1 (by omega))
  rw [hK] at HPk
  obtain ⟨h, hh⟩ : ∃ h, head % S = h := ⟨_, rfl⟩
  rw [hh] at HPh hm0 hm1
  obtain ⟨Q, hQ⟩ : ∃ Q, S - h = Q := ⟨_, rfl⟩
  have p1 := ring_packed (n := Q) (by omega) (by omega)
  have hwq : IntKind.i64.wrap (S - h) = Q := by rw [hQ]; exact IntWalk.i64_in _ (by omega)
  have hwk : IntKind.u64.wrap (K : Int) = (K : Int) := by rw [IntKind.wrap_u64]; omega
  have CL0 := hid_mk (fun u (g : SpotsAt u (.slice va L.length vc) L) => laid10 S false _ L u g hs (by omega) p0)
  have CL1 := hid_mk (fun u (g : SpotsAt u (.slice va L.length vc) L) => laid10 Q true _ L u g hs (by omega) p1)
  rw [al16, Int.zero_add, Int.zero_add] at CL0 CL1
  have hc0 := cO_rng p0
  have hc1 := cO_rng p1
  obtain ⟨M0, hM0⟩ : ∃ x, laidM false L = x := ⟨_, rfl⟩
  obtain ⟨M1, hM1⟩ : ∃ x, laidM true L = x := ⟨_, rfl⟩
  rw [hM0] at CL0
  rw [hM1] at CL1
  obtain ⟨G, hG⟩ : ∃ x, 16 * S = x := ⟨_, rfl⟩
  obtain ⟨G1, hG1⟩ : ∃ x, 16 * Q = x := ⟨_, rfl⟩
  obtain ⟨C, hC⟩ : ∃ x, cO false S = x := ⟨_, rfl⟩
  obtain ⟨C1, hC1⟩ : ∃ x, cO true Q = x := ⟨_, rfl⟩
  rw [hG, hC] at CL0
  rw [hG1, hC1] at CL1
  rw [hC] at hc0
  rw [hC1] at hc1
  have uG : U64 G := ⟨by omega, by omega⟩
  have uG1 : U64 G1 := ⟨by omega, by omega⟩
  have CS := hid_mk (fun u mp ib qb (g : IsMem u mp ib qb R10 M0) => wksplit mp ib qb R10 M0 false S 0 G C head table u g (by decide) uG hc0 ih)
  have RS := hid_mk (fun u rp (g : RefM u rp R10 M0) => rsplit10 rp R10 M0 false S 0 G C head table u g (by decide) uG hc0 ih)
  have CN := hid_mk (fun u mp ib qb (g : IsMem u mp ib qb R10 M0) => wkreads mp ib qb R10 M0 false S 0 G C head table u g (by decide) uG hc0 ih)
  have RN := hid_mk (fun u rp (g : RefM u rp R10 M0) => rreads10 rp R10 M0 false S 0 G C head table u g (by decide) uG hc0 ih)
  have CP := hid_mk (fun u mp ib qb (g : IsMem u mp ib qb R10 M1) => wkpacked mp ib qb R10 M1 true Q 0 G1 C1 p b table u g (by decide) uG1 hc1)
  have RP := hid_mk (fun u rp (g : RefM u rp R10 M1) => rpacked10 rp R10 M1 true Q 0 G1 C1 p b table u g (by decide) uG1 hc1)
  have HL0 := hid_mk (wsL_len R10 M0 false S 0 G C head table)
  have HL1 := hid_mk (wpL_len R10 M1 true Q 0 G1 C1 p table)
  generalize wsE R10 M0 false S 0 G C head table = E0 at *
  generalize wsL R10 M0 false S 0 G C head table = L0 at *
  generalize ((wsN R10 M0 false S 0 G C head table : Nat) : Int) = N0 at *
  generalize wpE R10 M1 true Q 0 G1 C1 p table = E1 at *
  generalize wpL R10 M1 true Q 0 G1 C1 p table = L1 at *
  generalize wpI R10 M1 true Q 0 G1 C1 p table = I1 at *
  generalize ((wpC R10 M1 true Q 0 G1 C1 p table : Nat) : Int) = N1 at *
  clear hv hs hL ih p0 p1 hc0 hc1 uG uG1 hM0 hM1 hG hG1 hC hC1 hK hh hQ
  have HB := hid_mk (Below.refl w.heap.size w)
  go_enter Try.func4, Try.ntmps4
  have hbx := below_box w (.cells #[.int .i64 p, .bool b] 42)
  replace QV := hid_mk (QV.out.below hbx)
  replace HB := hid_mk (below_then HB.out hbx)
  have XP := hid_mk (blk_new w [.int .i64 p, .bool b] 42)
  clear hbx
  go_wp2_with fail
  refine (lives10_any _).mono ?_
  rintro e w1 ⟨rfl, hb⟩
  replace QV := hid_mk (QV.out.below hb)
  replace XP := hid_mk (XP.out.below hb)
  replace HB := hid_mk (below_then HB.out hb)
  clear hb
  go_wp2_with fail
  refine (HPk.out _).mono ?_
  rintro e w2 ⟨rfl, rfl⟩
  go_wp2_with fail
  refine (CL0.out _ QV.out).mono ?_
  rintro e w3 ⟨mp, ib, qb, rp, rfl, hm⟩
  have hbm := HB.out
  have hb := hm.old
  replace QV := hid_mk (QV.out.below hb)
  replace XP := hid_mk (XP.out.below hb)
  replace HB := hid_mk (below_then HB.out hb)
  have HM := hid_mk (hm.rebase hbm)
  clear hm hb hbm
  have HRb : Hid (w.heap.size < w3.heap.size) := hid_mk XP.out.lt
  have hbx := below_box w3 (.cells #[.bool false, .int .i64 S, .int .u64 0, .int .u64 G, .int .u64 C] 24)
  replace QV := hid_mk (QV.out.below hbx)
  replace XP := hid_mk (XP.out.below hbx)
  replace HM := hid_mk (HM.out.below hbx)
  replace HB := hid_mk (below_then HB.out hbx)
  have XR := hid_mk (blk_new w3 [.bool false, .int .i64 S, .int .u64 0, .int .u64 G, .int .u64 C] 24)
  clear hbx
  obtain ⟨XRl, XR0, XR1, XR2, XR3, XR4, XR5, XR6, XR7, XR8, XR9⟩ := cells5 XR.out
  go_wp2_with fail
  refine (CS.out _ _ _ _ HM.out.mem).mono ?_
  rintro e w4 ⟨xv, rfl, hq, hb⟩
  replace QV := hid_mk (QV.out.below hb)
  replace XP := hid_mk (XP.out.below hb)
  replace HM := hid_mk (HM.out.below hb)
  replace XR := hid_mk (XR.out.below hb)
  replace HB := hid_mk (below_then HB.out hb)
  have QX := hid_mk (hq)
  clear hb hq
  obtain ⟨xa, xc, rfl⟩ := QX.out.len
  clear XRl XR0 XR1 XR2 XR3 XR4 XR5 XR6 XR7 XR8 XR9
  obtain ⟨XRl, XR0, XR1, XR2, XR3, XR4, XR5, XR6, XR7, XR8, XR9⟩ := cells5 XR.out
  go_wp2_with fail
  refine (RS.out _ _ HM.out.refm).mono ?_
  rintro e w5 ⟨yv, rfl, hq, hb⟩
  replace QV := hid_mk (QV.out.below hb)
  replace XP := hid_mk (XP.out.below hb)
  replace HM := hid_mk (HM.out.below hb)
  replace XR := hid_mk (XR.out.below hb)
  replace QX := hid_mk (QX.out.below hb)
  replace HB := hid_mk (below_then HB.out hb)
  have QY := hid_mk (hq)
  clear hb hq
  obtain ⟨ya, yc, rfl⟩ := QY.out.len
  clear XRl XR0 XR1 XR2 XR3 XR4 XR5 XR6 XR7 XR8 XR9
  go_wp2_with fail
  have BU0 := HB.out.size
  obtain ⟨U, hU⟩ : ∃ U, U = w5 := ⟨_, rfl⟩
  rw [← hU] at BU0 QV XP HM XR QX QY HB
  rw [← hU]
  clear hU BU0
  refine wp_region_outl3 0 [] [] []
      [(fun v _ => v = .slice xa L0.length xc),
      (fun v _ => v = .slice ya L0.length yc),
      (fun v _ => v = .bool true),
      (fun v _ => v = .bool false),
      (fun v _ => v = .bool false),
      (fun v _ => v = .int .i64 E0),
      (fun v _ => v = .int .i64 E0),
      (fun v _ => v = .bool false),
      (fun v _ => v = .bool false),
      (fun v _ => v = .bool false),
      (fun v _ => v = .pointer (some ⟨mp, 0, none⟩)),
      (fun v _ => v = .agg #[.bool false, .int .i64 S, .int .u64 0, .int .u64 G, .int .u64 C]),
      (fun v _ => v = .int .i64 head),
      (fun v _ => v = .bool table),
      (fun v _ => v = .int .i64 N0),
      (fun v _ => v = .pointer (some ⟨rp, 0, none⟩)),
      (fun v _ => v = .agg #[.bool false, .int .i64 S, .int .u64 0, .int .u64 G, .int .u64 C]),
      (fun v _ => v = .int .i64 head),
      (fun v _ => v = .bool table),
      (fun v _ => v = .int .i64 N0),
      (fun v _ => v = .bool false),
      (fun v _ => v = .bool false)]
      (Below U.heap.size U) (by kernel_rfl) (by kernel_rfl) (by kernel_rfl) ?_ (fun u u' hb h => h.trans (hb.mono h.size)) ((Below.refl _ _).drew) ?_ ?_ ?_ ?_ ?_
  · refine And.intro (up_eq _) ?_
    refine And.intro (up_eq _) ?_
    refine And.intro (up_eq _) ?_
    refine And.intro (up_eq _) ?_
    refine And.intro (up_eq _) ?_
    refine And.intro (up_eq _) ?_
    refine And.intro (up_eq _) ?_
    refine And.intro (up_eq _) ?_
    refine And.intro (up_eq _) ?_
    refine And.intro (up_eq _) ?_
    refine And.intro (up_eq _) ?_
    refine And.intro (up_eq _) ?_
    refine And.intro (up_eq _) ?_
    refine And.intro (up_eq _) ?_
    refine And.intro (up_eq _) ?_
    refine And.intro (up_eq _) ?_
    refine And.intro (up_eq _) ?_
    refine And.intro (up_eq _) ?_
    refine And.intro (up_eq _) ?_
    refine And.intro (up_eq _) ?_
    refine And.intro (up_eq _) ?_
    refine And.intro (up_eq _) ?_
    trivial
  · trivial
  · trivial
  · trivial
  · refine And.intro ?_ (And.intro ?_ (And.intro ?_ (And.intro ?_ (And.intro ?_ (And.intro ?_ (And.intro ?_ (And.intro ?_ (And.intro ?_ (And.intro ?_ (And.intro ?_ (And.intro ?_ (And.intro ?_ (And.intro ?_ (And.intro ?_ (And.intro ?_ (And.intro ?_ (And.intro ?_ (And.intro ?_ (And.intro ?_ (And.intro ?_ (And.intro ?_ (True.intro))))))))))))))))))))))
    · refine qstep_val (.slice xa L0.length xc) (by kernel_rfl) (by kernel_rfl) rfl (fun _ A1 W1 inv hnl hall => ⟨wanted_none rfl, ?_, rfl⟩)
      have h16 : A1.eval (.tmp 16) = .slice xa L0.length xc := (inv.base 16 (by kernel_rfl)).trans rfl
      simp only [execOp, h16, Sem.run_pure]
    · refine qstep_val (.slice ya L0.length yc) (by kernel_rfl) (by kernel_rfl) rfl (fun _ A1 W1 inv hnl hall => ⟨wanted_none rfl, ?_, rfl⟩)
      have h18 : A1.eval (.tmp 18) = .slice ya L0.length yc := (inv.base 18 (by kernel_rfl)).trans rfl
      simp only [execOp, h18, Sem.run_pure]
    · refine qstep_call 14 (by kernel_rfl) _ _ (by kernel_rfl) (by kernel_rfl) rfl rfl (fun _ A1 W1 inv hnl hall => ⟨wanted_none rfl, #[.slice xa L0.length xc, .slice ya L0.length yc], ?_, ?_⟩)
      · have h58 : A1.eval (.tmp 58) = .slice xa L0.length xc := inv.get hall 0 58 (by kernel_rfl) (by kernel_rfl) rfl
        have h59 : A1.eval (.tmp 59) = .slice ya L0.length yc := inv.get hall 1 59 (by kernel_rfl) (by kernel_rfl) rfl
        simp [h58, h59]
      · refine (ksame10 _ _ L0 L0 _ (QX.out.below inv.s) (QY.out.below inv.s) HL0.out (sameS_iff.2 rfl)).mono ?_
        rintro e u ⟨rfl, hb⟩
        exact ⟨_, rfl, rfl, hb⟩
    · refine qstep_val (.bool false) (by kernel_rfl) (by kernel_rfl) rfl (fun _ A1 W1 inv hnl hall => ⟨wanted_none rfl, ?_, rfl⟩)
      have h60 : A1.eval (.tmp 60) = .bool true := inv.get hall 2 60 (by kernel_rfl) (by kernel_rfl) rfl
      simp only [execOp, h60]
      simp [go_sem]
    · refine qstep_val (.bool false) (by kernel_rfl) (by kernel_rfl) rfl (fun _ A1 W1 inv hnl hall => ⟨wanted_none rfl, ?_, rfl⟩)
      have h61 : A1.eval (.tmp 61) = .bool false := inv.get hall 3 61 (by kernel_rfl) (by kernel_rfl) rfl
      simp only [execOp, h61, Sem.run_pure]
    · refine qstep_val (.int .i64 E0) (by kernel_rfl) (by kernel_rfl) rfl (fun _ A1 W1 inv hnl hall => ⟨wanted_some (g := 4) (d := 62) (b := false) rfl (by kernel_rfl) (inv.get hall 4 62 (by kernel_rfl) (by kernel_rfl) rfl), ?_, rfl⟩)
      have h17 : A1.eval (.tmp 17) = .int .i64 E0 := (inv.base 17 (by kernel_rfl)).trans rfl
      simp only [execOp, h17, Sem.run_pure]
    · refine qstep_val (.int .i64 E0) (by kernel_rfl) (by kernel_rfl) rfl (fun _ A1 W1 inv hnl hall => ⟨wanted_some (g := 4) (d := 62) (b := false) rfl (by kernel_rfl) (inv.get hall 4 62 (by kernel_rfl) (by kernel_rfl) rfl), ?_, rfl⟩)
      have h19 : A1.eval (.tmp 19) = .int .i64 E0 := (inv.base 19 (by kernel_rfl)).trans rfl
      simp only [execOp, h19, Sem.run_pure]
    · refine qstep_val (.bool false) (by kernel_rfl) (by kernel_rfl) rfl (fun _ A1 W1 inv hnl hall => ⟨wanted_some (g := 4) (d := 62) (b := false) rfl (by kernel_rfl) (inv.get hall 4 62 (by kernel_rfl) (by kernel_rfl) rfl), ?_, rfl⟩)
      have h63 : A1.eval (.tmp 63) = .int .i64 E0 := inv.get hall 5 63 (by kernel_rfl) (by kernel_rfl) rfl
      have h64 : A1.eval (.tmp 64) = .int .i64 E0 := inv.get hall 6 64 (by kernel_rfl) (by kernel_rfl) rfl
      simp only [execOp, h63, h64]
      simp [eqGuard, go_sem]
    · refine qstep_val (.bool false) (by kernel_rfl) (by kernel_rfl) rfl (fun _ A1 W1 inv hnl hall => ⟨wanted_none rfl, ?_, rfl⟩)
      have h62 : A1.eval (.tmp 62) = .bool false := inv.get hall 4 62 (by kernel_rfl) (by kernel_rfl) rfl
      have h65 : A1.eval (.tmp 65) = .bool false := inv.get hall 7 65 (by kernel_rfl) (by kernel_rfl) rfl
      simp only [execOp, h62, h65]
      simp [asBool]
    · refine qstep_val (.bool false) (by kernel_rfl) (by kernel_rfl) rfl (fun _ A1 W1 inv hnl hall => ⟨wanted_none rfl, ?_, rfl⟩)
      have h66 : A1.eval (.tmp 66) = .bool false := inv.get hall 8 66 (by kernel_rfl) (by kernel_rfl) rfl
      simp only [execOp, h66, Sem.run_pure]
    · refine qstep_val (.pointer (some ⟨mp, 0, none⟩)) (by kernel_rfl) (by kernel_rfl) rfl (fun _ A1 W1 inv hnl hall => ⟨wanted_some (g := 9) (d := 67) (b := false) rfl (by kernel_rfl) (inv.get hall 9 67 (by kernel_rfl) (by kernel_rfl) rfl), ?_, rfl⟩)
      have h12 : A1.eval (.tmp 12) = .pointer (some ⟨mp, 0, none⟩) := (inv.base 12 (by kernel_rfl)).trans rfl
      simp only [execOp, h12, Sem.run_pure]
    · refine qstep_val (.agg #[.bool false, .int .i64 S, .int .u64 0, .int .u64 G, .int .u64 C]) (by kernel_rfl) (by kernel_rfl) rfl (fun _ A1 W1 inv hnl hall => ⟨wanted_some (g := 9) (d := 67) (b := false) rfl (by kernel_rfl) (inv.get hall 9 67 (by kernel_rfl) (by kernel_rfl) rfl), ?_, rfl⟩)
      have h14 : A1.eval (.tmp 14) = .pointer (some ⟨w3.heap.size, 0, none⟩) := (inv.base 14 (by kernel_rfl)).trans rfl
      simp only [execOp, h14, Sem.run_bind, loadRg (XR.out.below inv.s), Result.andThen_ok, Sem.run_pure]
    · refine qstep_val (.int .i64 head) (by kernel_rfl) (by kernel_rfl) rfl (fun _ A1 W1 inv hnl hall => ⟨wanted_some (g := 9) (d := 67) (b := false) rfl (by kernel_rfl) (inv.get hall 9 67 (by kernel_rfl) (by kernel_rfl) rfl), ?_, rfl⟩)
      have h2 : A1.eval (.tmp 2) = .int .i64 head := (inv.base 2 (by kernel_rfl)).trans rfl
      simp only [execOp, h2, Sem.run_pure]
    · refine qstep_val (.bool table) (by kernel_rfl) (by kernel_rfl) rfl (fun _ A1 W1 inv hnl hall => ⟨wanted_some (g := 9) (d := 67) (b := false) rfl (by kernel_rfl) (inv.get hall 9 67 (by kernel_rfl) (by kernel_rfl) rfl), ?_, rfl⟩)
      have h4 : A1.eval (.tmp 4) = .bool table := (inv.base 4 (by kernel_rfl)).trans rfl
      simp only [execOp, h4, Sem.run_pure]
    · refine qstep_call 15 (by kernel_rfl) _ _ (by kernel_rfl) (by kernel_rfl) rfl rfl (fun _ A1 W1 inv hnl hall => ⟨wanted_some (g := 9) (d := 67) (b := false) rfl (by kernel_rfl) (inv.get hall 9 67 (by kernel_rfl) (by kernel_rfl) rfl), #[.pointer (some ⟨mp, 0, none⟩), .agg #[.bool false, .int .i64 S, .int .u64 0, .int .u64 G, .int .u64 C], .int .i64 head, .bool table], ?_, ?_⟩)
      · have h68 : A1.eval (.tmp 68) = .pointer (some ⟨mp, 0, none⟩) := inv.get hall 10 68 (by kernel_rfl) (by kernel_rfl) rfl
        have h69 : A1.eval (.tmp 69) = .agg #[.bool false, .int .i64 S, .int .u64 0, .int .u64 G, .int .u64 C] := inv.get hall 11 69 (by kernel_rfl) (by kernel_rfl) rfl
        have h70 : A1.eval (.tmp 70) = .int .i64 head := inv.get hall 12 70 (by kernel_rfl) (by kernel_rfl) rfl
        have h71 : A1.eval (.tmp 71) = .bool table := inv.get hall 13 71 (by kernel_rfl) (by kernel_rfl) rfl
        simp [h68, h69, h70, h71]
      · refine (CN.out _ _ _ _ (HM.out.below inv.s).mem).mono ?_
        rintro e u ⟨rfl, hb⟩
        exact ⟨_, rfl, rfl, hb⟩
    · refine qstep_val (.pointer (some ⟨rp, 0, none⟩)) (by kernel_rfl) (by kernel_rfl) rfl (fun _ A1 W1 inv hnl hall => ⟨wanted_some (g := 9) (d := 67) (b := false) rfl (by kernel_rfl) (inv.get hall 9 67 (by kernel_rfl) (by kernel_rfl) rfl), ?_, rfl⟩)
      have h13 : A1.eval (.tmp 13) = .pointer (some ⟨rp, 0, none⟩) := (inv.base 13 (by kernel_rfl)).trans rfl
      simp only [execOp, h13, Sem.run_pure]
    · refine qstep_val (.agg #[.bool false, .int .i64 S, .int .u64 0, .int .u64 G, .int .u64 C]) (by kernel_rfl) (by kernel_rfl) rfl (fun _ A1 W1 inv hnl hall => ⟨wanted_some (g := 9) (d := 67) (b := false) rfl (by kernel_rfl) (inv.get hall 9 67 (by kernel_rfl) (by kernel_rfl) rfl), ?_, rfl⟩)
      have h14 : A1.eval (.tmp 14) = .pointer (some ⟨w3.heap.size, 0, none⟩) := (inv.base 14 (by kernel_rfl)).trans rfl
      simp only [execOp, h14, Sem.run_bind, loadRg (XR.out.below inv.s), Result.andThen_ok, Sem.run_pure]
    · refine qstep_val (.int .i64 head) (by kernel_rfl) (by kernel_rfl) rfl (fun _ A1 W1 inv hnl hall => ⟨wanted_some (g := 9) (d := 67) (b := false) rfl (by kernel_rfl) (inv.get hall 9 67 (by kernel_rfl) (by kernel_rfl) rfl), ?_, rfl⟩)
      have h2 : A1.eval (.tmp 2) = .int .i64 head := (inv.base 2 (by kernel_rfl)).trans rfl
      simp only [execOp, h2, Sem.run_pure]
    · refine qstep_val (.bool table) (by kernel_rfl) (by kernel_rfl) rfl (fun _ A1 W1 inv hnl hall => ⟨wanted_some (g := 9) (d := 67) (b := false) rfl (by kernel_rfl) (inv.get hall 9 67 (by kernel_rfl) (by kernel_rfl) rfl), ?_, rfl⟩)
      have h4 : A1.eval (.tmp 4) = .bool table := (inv.base 4 (by kernel_rfl)).trans rfl
      simp only [execOp, h4, Sem.run_pure]
    · refine qstep_call 19 (by kernel_rfl) _ _ (by kernel_rfl) (by kernel_rfl) rfl rfl (fun _ A1 W1 inv hnl hall => ⟨wanted_some (g := 9) (d := 67) (b := false) rfl (by kernel_rfl) (inv.get hall 9 67 (by kernel_rfl) (by kernel_rfl) rfl), #[.pointer (some ⟨rp, 0, none⟩), .agg #[.bool false, .int .i64 S, .int .u64 0, .int .u64 G, .int .u64 C], .int .i64 head, .bool table], ?_, ?_⟩)
      · have h73 : A1.eval (.tmp 73) = .pointer (some ⟨rp, 0, none⟩) := inv.get hall 15 73 (by kernel_rfl) (by kernel_rfl) rfl
        have h74 : A1.eval (.tmp 74) = .agg #[.bool false, .int .i64 S, .int .u64 0, .int .u64 G, .int .u64 C] := inv.get hall 16 74 (by kernel_rfl) (by kernel_rfl) rfl
        have h75 : A1.eval (.tmp 75) = .int .i64 head := inv.get hall 17 75 (by kernel_rfl) (by kernel_rfl) rfl
        have h76 : A1.eval (.tmp 76) = .bool table := inv.get hall 18 76 (by kernel_rfl) (by kernel_rfl) rfl
        simp [h73, h74, h75, h76]
      · refine (RN.out _ _ (HM.out.below inv.s).refm).mono ?_
        rintro e u ⟨rfl, hb⟩
        exact ⟨_, rfl, rfl, hb⟩
    · refine qstep_val (.bool false) (by kernel_rfl) (by kernel_rfl) rfl (fun _ A1 W1 inv hnl hall => ⟨wanted_some (g := 9) (d := 67) (b := false) rfl (by kernel_rfl) (inv.get hall 9 67 (by kernel_rfl) (by kernel_rfl) rfl), ?_, rfl⟩)
      have h72 : A1.eval (.tmp 72) = .int .i64 N0 := inv.get hall 14 72 (by kernel_rfl) (by kernel_rfl) rfl
      have h77 : A1.eval (.tmp 77) = .int .i64 N0 := inv.get hall 19 77 (by kernel_rfl) (by kernel_rfl) rfl
      simp only [execOp, h72, h77]
      simp [eqGuard, go_sem]
    · refine qstep_val (.bool false) (by kernel_rfl) (by kernel_rfl) rfl (fun _ A1 W1 inv hnl hall => ⟨wanted_none rfl, ?_, rfl⟩)
      have h67 : A1.eval (.tmp 67) = .bool false := inv.get hall 9 67 (by kernel_rfl) (by kernel_rfl) rfl
      have h78 : A1.eval (.tmp 78) = .bool false := inv.get hall 20 78 (by kernel_rfl) (by kernel_rfl) rfl
      simp only [execOp, h67, h78]
      simp [asBool]
  · intro listed A1 W1 inv hall
    have e58 : A1.eval (.tmp 58) = .slice xa L0.length xc := inv.fin 0 58 (by kernel_rfl) (hall 0 (Nat.lt_of_lt_of_eq (by decide : 0 < 22) (by kernel_rfl))) rfl
    have e59 : A1.eval (.tmp 59) = .slice ya L0.length yc := inv.fin 1 59 (by kernel_rfl) (hall 1 (Nat.lt_of_lt_of_eq (by decide : 1 < 22) (by kernel_rfl))) rfl
    have e60 : A1.eval (.tmp 60) = .bool true := inv.fin 2 60 (by kernel_rfl) (hall 2 (Nat.lt_of_lt_of_eq (by decide : 2 < 22) (by kernel_rfl))) rfl
    have e61 : A1.eval (.tmp 61) = .bool false := inv.fin 3 61 (by kernel_rfl) (hall 3 (Nat.lt_of_lt_of_eq (by decide : 3 < 22) (by kernel_rfl))) rfl
    have e62 : A1.eval (.tmp 62) = .bool false := inv.fin 4 62 (by kernel_rfl) (hall 4 (Nat.lt_of_lt_of_eq (by decide : 4 < 22) (by kernel_rfl))) rfl
    have e63 : A1.eval (.tmp 63) = .int .i64 E0 := inv.fin 5 63 (by kernel_rfl) (hall 5 (Nat.lt_of_lt_of_eq (by decide : 5 < 22) (by kernel_rfl))) rfl
    have e64 : A1.eval (.tmp 64) = .int .i64 E0 := inv.fin 6 64 (by kernel_rfl) (hall 6 (Nat.lt_of_lt_of_eq (by decide : 6 < 22) (by kernel_rfl))) rfl
    have e65 : A1.eval (.tmp 65) = .bool false := inv.fin 7 65 (by kernel_rfl) (hall 7 (Nat.lt_of_lt_of_eq (by decide : 7 < 22) (by kernel_rfl))) rfl
    have e66 : A1.eval (.tmp 66) = .bool false := inv.fin 8 66 (by kernel_rfl) (hall 8 (Nat.lt_of_lt_of_eq (by decide : 8 < 22) (by kernel_rfl))) rfl
    have e67 : A1.eval (.tmp 67) = .bool false := inv.fin 9 67 (by kernel_rfl) (hall 9 (Nat.lt_of_lt_of_eq (by decide : 9 < 22) (by kernel_rfl))) rfl
    have e68 : A1.eval (.tmp 68) = .pointer (some ⟨mp, 0, none⟩) := inv.fin 10 68 (by kernel_rfl) (hall 10 (Nat.lt_of_lt_of_eq (by decide : 10 < 22) (by kernel_rfl))) rfl
    have e69 : A1.eval (.tmp 69) = .agg #[.bool false, .int .i64 S, .int .u64 0, .int .u64 G, .int .u64 C] := inv.fin 11 69 (by kernel_rfl) (hall 11 (Nat.lt_of_lt_of_eq (by decide : 11 < 22) (by kernel_rfl))) rfl
    have e70 : A1.eval (.tmp 70) = .int .i64 head := inv.fin 12 70 (by kernel_rfl) (hall 12 (Nat.lt_of_lt_of_eq (by decide : 12 < 22) (by kernel_rfl))) rfl
    have e71 : A1.eval (.tmp 71) = .bool table := inv.fin 13 71 (by kernel_rfl) (hall 13 (Nat.lt_of_lt_of_eq (by decide : 13 < 22) (by kernel_rfl))) rfl
    have e72 : A1.eval (.tmp 72) = .int .i64 N0 := inv.fin 14 72 (by kernel_rfl) (hall 14 (Nat.lt_of_lt_of_eq (by decide : 14 < 22) (by kernel_rfl))) rfl
    have e73 : A1.eval (.tmp 73) = .pointer (some ⟨rp, 0, none⟩) := inv.fin 15 73 (by kernel_rfl) (hall 15 (Nat.lt_of_lt_of_eq (by decide : 15 < 22) (by kernel_rfl))) rfl
    have e74 : A1.eval (.tmp 74) = .agg #[.bool false, .int .i64 S, .int .u64 0, .int .u64 G, .int .u64 C] := inv.fin 16 74 (by kernel_rfl) (hall 16 (Nat.lt_of_lt_of_eq (by decide : 16 < 22) (by kernel_rfl))) rfl
    have e75 : A1.eval (.tmp 75) = .int .i64 head := inv.fin 17 75 (by kernel_rfl) (hall 17 (Nat.lt_of_lt_of_eq (by decide : 17 < 22) (by kernel_rfl))) rfl
    have e76 : A1.eval (.tmp 76) = .bool table := inv.fin 18 76 (by kernel_rfl) (hall 18 (Nat.lt_of_lt_of_eq (by decide : 18 < 22) (by kernel_rfl))) rfl
    have e77 : A1.eval (.tmp 77) = .int .i64 N0 := inv.fin 19 77 (by kernel_rfl) (hall 19 (Nat.lt_of_lt_of_eq (by decide : 19 < 22) (by kernel_rfl))) rfl
    have e78 : A1.eval (.tmp 78) = .bool false := inv.fin 20 78 (by kernel_rfl) (hall 20 (Nat.lt_of_lt_of_eq (by decide : 20 < 22) (by kernel_rfl))) rfl
    have e79 : A1.eval (.tmp 79) = .bool false := inv.fin 21 79 (by kernel_rfl) (hall 21 (Nat.lt_of_lt_of_eq (by decide : 21 < 22) (by kernel_rfl))) rfl
    have HF := inv.frame hall
    have HS9 := hid_mk inv.s
    simp only [putEnd, e58, e59, e60, e61, e62, e63, e64, e65, e66, e67, e68, e69, e70, e71, e72, e73, e74, e75, e76, e77, e78, e79, Act.put, List.setIfInBounds_toArray, List.set_cons_succ, List.set_cons_zero] at HF
    clear e58 e59 e60 e61 e62 e63 e64 e65 e66 e67 e68 e69 e70 e71 e72 e73 e74 e75 e76 e77 e78 e79 inv hall
    subst HF
    replace QV := hid_mk (QV.out.below HS9.out)
    replace XP := hid_mk (XP.out.below HS9.out)
    replace HM := hid_mk (HM.out.below HS9.out)
    replace XR := hid_mk (XR.out.below HS9.out)
    replace QX := hid_mk (QX.out.below HS9.out)
    replace QY := hid_mk (QY.out.below HS9.out)
    replace HB := hid_mk (below_then HB.out HS9.out)
    clear QX
    clear QY
    clear HS9
    go_wp2_with fail
    refine (HPh.out _).mono ?_
    rintro e w6 ⟨rfl, rfl⟩
    clear HM
    go_wp2_with fail
    refine (CL1.out _ QV.out).mono ?_
    rintro e w7 ⟨mp2, ib2, qb2, rp2, rfl, hm⟩
    have hlp : w3.heap.size ≤ mp2 := Nat.le_of_lt (Nat.lt_of_lt_of_le XR.out.lt hm.lo.1)
    have hbm := HB.out
    have hb := hm.old
    replace QV := hid_mk (QV.out.below hb)
    replace XP := hid_mk (XP.out.below hb)
    replace XR := hid_mk (XR.out.below hb)
    replace HB := hid_mk (below_then HB.out hb)
    have HM := hid_mk (hm.rebase hbm)
    clear hm hb hbm
    clear QV
    have hrb := HRb.out
    obtain ⟨RB, hRB⟩ : ∃ RB, w3.heap.size = RB := ⟨_, rfl⟩
    rw [hRB] at XR hlp hrb ⊢
    obtain ⟨U2, hU2, hm2, hx2, hk2⟩ := HM.out.ring XR.out (Nat.le_of_lt hrb) hlp (.bool true) (.int .i64 Q) (.int .u64 0) (.int .u64 G1) (.int .u64 C1)
    obtain ⟨PB, hPB⟩ : ∃ PB, w.heap.size = PB := ⟨_, rfl⟩
    have XP2 := hid_mk (hk2 _ _ _ (Nat.ne_of_lt hrb) XP.out)
    have hne1 : w.heap.size ≠ RB := Nat.ne_of_lt hrb
    have hne2 : RB ≠ w.heap.size := Ne.symm hne1
    have HU2 := hid_mk hU2
    have HM2 := hid_mk hm2
    have XR2 := hid_mk hx2
    clear hU2 hm2 hx2 hk2 hlp hrb HRb
    obtain ⟨XRl, XR0, XR1, XR2, XR3, XR4, XR5, XR6, XR7, XR8, XR9⟩ := cells5 XR.out
    obtain ⟨pl, p0, p1⟩ := cells2 XP.out
    rw [hPB] at pl p0 p1 hne1 hne2 ⊢
    go_wp2_with fail
    rw [← HU2.out]
    clear pl p0 p1 hne1 hne2 HM XP
    clear XRl XR0 XR1 XR2 XR3 XR4 XR5 XR6 XR7 XR8 XR9
    clear XR HU2
    have HM := HM2
    have XP := XP2
    have XR := XR2
    clear HM2 XP2 XR2
    rw [hPB] at XP
    replace HB := hid_mk HM.out.old
    refine (CP.out _ _ _ _ HM.out.mem).mono ?_
    rintro e w8 ⟨uv, rfl, hq, hb⟩
    replace HM := hid_mk (HM.out.below hb)
    replace XP := hid_mk (XP.out.below hb)
    replace XR := hid_mk (XR.out.below hb)
    replace HB := hid_mk (below_then HB.out hb)
    have QU := hid_mk (hq)
    clear hb hq
    obtain ⟨ua, uc, rfl⟩ := QU.out.len
    have hbx := below_box w8 (.cells #[.int .i64 I1, .int .i64 N1, .slice ua L1.length uc] 38)
    replace HM := hid_mk (HM.out.below hbx)
    replace XP := hid_mk (XP.out.below hbx)
    replace XR := hid_mk (XR.out.below hbx)
    replace QU := hid_mk (QU.out.below hbx)
    replace HB := hid_mk (below_then HB.out hbx)
    have XU := hid_mk (blk_new w8 [.int .i64 I1, .int .i64 N1, .slice ua L1.length uc] 38)
    clear hbx
    obtain ⟨XRl, XR0, XR1, XR2, XR3, XR4, XR5, XR6, XR7, XR8, XR9⟩ := cells5 XR.out
    obtain ⟨pl, p0, p1⟩ := cells2 XP.out
    go_wp2_with fail
    refine (RP.out _ _ HM.out.refm).mono ?_
    rintro e w9 ⟨vv, rfl, hq, hb⟩
    replace HM := hid_mk (HM.out.below hb)
    replace XP := hid_mk (XP.out.below hb)
    replace XR := hid_mk (XR.out.below hb)
    replace QU := hid_mk (QU.out.below hb)
    replace XU := hid_mk (XU.out.below hb)
    replace HB := hid_mk (below_then HB.out hb)
    have QW := hid_mk (hq)
    clear hb hq
    obtain ⟨za, zc, rfl⟩ := QW.out.len
    clear pl p0 p1
    clear XRl XR0 XR1 XR2 XR3 XR4 XR5 XR6 XR7 XR8 XR9
    have hbx := below_box w9 (.cells #[.int .i64 I1, .int .i64 N1, .slice za L1.length zc] 38)
    replace HM := hid_mk (HM.out.below hbx)
    replace XP := hid_mk (XP.out.below hbx)
    replace XR := hid_mk (XR.out.below hbx)
    replace QU := hid_mk (QU.out.below hbx)
    replace XU := hid_mk (XU.out.below hbx)
    replace QW := hid_mk (QW.out.below hbx)
    replace HB := hid_mk (below_then HB.out hbx)
    have XZ := hid_mk (blk_new w9 [.int .i64 I1, .int .i64 N1, .slice za L1.length zc] 38)
    clear hbx
    obtain ⟨ul, u0, u1, u2⟩ := cells3 XU.out
    obtain ⟨zl, z0, z1, z2⟩ := cells3 XZ.out
    go_wp2_with fail
    refine (ktaken I1 N1 I1 N1 _ _ L1 L1 _ QU.out QW.out HL1.out).mono ?_
    rintro e w10 ⟨he, hb⟩
    replace HM := hid_mk (HM.out.below hb)
    replace XP := hid_mk (XP.out.below hb)
    replace XR := hid_mk (XR.out.below hb)
    replace QU := hid_mk (QU.out.below hb)
    replace XU := hid_mk (XU.out.below hb)
    replace QW := hid_mk (QW.out.below hb)
    replace XZ := hid_mk (XZ.out.below hb)
    replace HB := hid_mk (below_then HB.out hb)
    clear hb
    rw [tkB_self] at he
    subst he
    clear ul u0 u1 u2 zl z0 z1 z2
    go_wp2_with fail
    go_ret
    exact ⟨rfl, HB.out⟩

set_option maxRecDepth 100000 in
theorem walk_long (w : World) (size : Int) (va : Option Addr) (vc n : Nat) (head p : Int) (b table : Bool) (h : 40 < n) :
    Calls Try.prog 4 #[.int .i64 size, .slice va n vc, .int .i64 head, .agg #[.int .i64 p, .bool b], .bool table] w fun e w' => e = .returned (.bool true) ∧ Below w.heap.size w w' := by
  have hi : (40 : Int) < (n : Int) := by omega
  have hb0 := hid_mk (below_box w (.cells #[.int .i64 p, .bool b] 42))
  go_enter Try.func4, Try.ntmps4
  go_wp2_with fail
  refine (lives10_any _).mono ?_
  rintro e w1 ⟨rfl, hb⟩
  have hb1 := hid_mk (below_then hb0.out hb)
  clear hb
  go_wp2_with fail
  go_ret
  exact ⟨rfl, hb1.out⟩
theorem walk (w : World) (size : Int) (v1 : Value) (L : List Spt) (hv : SpotsAt w v1 L) (hs : isSpts L) (hm : L.length ≤ maxLen) (head p : Int) (b table : Bool) (w0 : (Lit.int .i64 size).wf = true) (w2 : (Lit.int .i64 head).wf = true) (w3 : (Lit.int .i64 p).wf = true) :
    Calls Try.prog 4 #[.int .i64 size, v1, .int .i64 head, .agg #[.int .i64 p, .bool b], .bool table] w fun e w' => e = .returned (.bool true) ∧ Below w.heap.size w w' := by
  obtain ⟨va, vc, rfl⟩ := hv.len
  have b2 := bounds_i64 w2
  by_cases h : 40 < L.length
  · exact walk_long w size va vc L.length head p b table h
  · exact walk_main w size va vc L hv hs (by omega) head p b table ⟨by omega, by omega⟩

/-! ### the row's frame -/
theorem own : ownKnob Try.prog.godebug = none := by kernel_rfl
theorem laidOut : laidOutB Try.prog = true := by kernel_rfl

set_option maxRecDepth 100000 in
theorem lifted (os : Os) (started : os.Started) (H : Type) (enc : TypeId × Value → H) :
    ReturnsInHanded {} Try.checked os 4 .any (Rows.walkCallsSpec.pre6 enc Try.prog Try.f4 Rows.walkCallsRow.domain false) (Rows.walkCallsSpec.post enc Try.prog Try.f4 false true false false) := by
  refine returnsInHanded_of_change (C := Try.checked) own started (by kernel_rfl) Try.func4
    (ChangeSpec.witness6 (enc := enc) (C := Try.checked) false ⟨#[], #[.int .i64 0, .slice none 0 0, .int .i64 0, .agg #[.int .i64 0, .bool false], .bool false], []⟩ 8 (by kernel_rfl) (by kernel_rfl) (by kernel_rfl) (by kernel_rfl)) ?_
  intro W base args ds gs before hval0 hW hcnd _
  have hval : ∀ (j : Nat) t v, Try.f4.params[j]? = some t → args[j]? = some v → Value.okWide Try.prog W .any base t v := hval0
  have hW' := hW
  obtain ⟨p, q, hA0, hV, rfl, hfz, hnd⟩ := hW
  have hA : DataW.TrodAll enc Try.prog W 0 (fun _ => true) true Try.f4.params.toList args.toList ds p := hA0
  rw [Try.params4] at hA hval
  obtain ⟨v0, vs0, d0, ds0, p0, q0, hargs, rfl, rfl, h0, r0⟩ := trodAll_cons hA
  obtain ⟨v1, vs1, d1, ds1, p1, q1, rfl, rfl, rfl, h1, r1⟩ := trodAll_cons r0
  obtain ⟨v2, vs2, d2, ds2, p2, q2, rfl, rfl, rfl, h2, r2⟩ := trodAll_cons r1
  obtain ⟨v3, vs3, d3, ds3, p3, q3, rfl, rfl, rfl, h3, r3⟩ := trodAll_cons r2
  obtain ⟨v4, vs4, d4, ds4, p4, q4, rfl, rfl, rfl, h4, r4⟩ := trodAll_cons r3
  obtain ⟨rfl, rfl, rfl⟩ := trodAll_nil r4
  obtain rfl : args = #[v0, v1, v2, v3, v4] := by cases args; simp_all
  obtain ⟨rfl, rfl⟩ := trodVars_none hV
  have k0 := h0
  have lt0 : ∀ x ∈ p0, x.block < W.heap.size := by
    obtain ⟨m, hm⟩ := k0
    exact DataW.trod_lt m _ _ _ hm
  have k1 := h1
  have lt1 : ∀ x ∈ p1, x.block < W.heap.size := by
    obtain ⟨m, hm⟩ := k1
    exact DataW.trod_lt m _ _ _ hm
  have k2 := h2
  have lt2 : ∀ x ∈ p2, x.block < W.heap.size := by
    obtain ⟨m, hm⟩ := k2
    exact DataW.trod_lt m _ _ _ hm
  have k3 := h3
  have lt3 : ∀ x ∈ p3, x.block < W.heap.size := by
    obtain ⟨m, hm⟩ := k3
    exact DataW.trod_lt m _ _ _ hm
  have k4 := h4
  have lt4 : ∀ x ∈ p4, x.block < W.heap.size := by
    obtain ⟨m, hm⟩ := k4
    exact DataW.trod_lt m _ _ _ hm
  obtain ⟨a0, rfl, rfl, rfl, w0⟩ := open_int Try.underlying3 (hval 0 3 v0 rfl rfl) h0
  obtain ⟨l1, hv1, hu1, hm1⟩ := open_spots (hval 1 55 v1 rfl rfl) h1
  obtain ⟨a2, rfl, rfl, rfl, w2⟩ := open_int Try.underlying3 (hval 2 3 v2 rfl rfl) h2
  obtain ⟨c30, c31, y30, y31, m3, rfl, rfl, rfl, hy30, hy31⟩ := Go.Joins.open_agg2 Try.underlying42 (by kernel_rfl) (by kernel_rfl) (hval 3 42 v3 rfl rfl) h3
  obtain ⟨a3, e30, rfl, w3⟩ := DataW.trod_int Try.underlying3 hy30
  obtain ⟨b3, e31, rfl⟩ := DataW.trod_bool Try.underlying4 hy31
  simp at e30 e31
  subst e30 e31
  obtain ⟨a4, rfl, rfl, rfl⟩ := open_bool Try.underlying4 (hval 4 4 v4 rfl rfl) h4
  clear hA0 hval0
  refine (walk W a0 v1 l1 hv1 hu1 hm1 a2 a3 b3 a4 w0 w2 w3).mono fun e W' ⟨he, bel⟩ => ?_
  subst he
  exact ⟨_, rfl, _, _, _, [], _, [], hW', trodAll_mk1 (shut_bool Try.underlying4 _), (trodAll_cons_mk (Below.trod laidOut (by kernel_rfl) (of_decide_eq_true (by kernel_rfl)) k0 bel lt0) (trodAll_cons_mk (Below.trod laidOut (by kernel_rfl) (of_decide_eq_true (by kernel_rfl)) k1 bel lt1) (trodAll_cons_mk (Below.trod laidOut (by kernel_rfl) (of_decide_eq_true (by kernel_rfl)) k2 bel lt2) (trodAll_cons_mk (Below.trod laidOut (by kernel_rfl) (of_decide_eq_true (by kernel_rfl)) k3 bel lt3) (trodAll_cons_mk (Below.trod laidOut (by kernel_rfl) (of_decide_eq_true (by kernel_rfl)) k4 bel lt4) trodAll_mk0))))), rfl, bel.frame _, fun h => by cases h⟩

theorem over : Rows.walkCallsRow.holds Try.pinned (OpenSpec.ofChange Rows.walkCallsSpec) :=
  OpenClaim.holds_of_wide 4 Try.f4 rfl rfl rfl rfl rfl rfl rfl ⟨rfl, rfl, rfl, rfl, rfl⟩ rfl rfl rfl rfl rfl (by kernel_rfl) Try.func4 (by kernel_rfl)
    (of_decide_eq_true (by kernel_rfl)) (by unfold Func.isWrapper; first | (rw [if_pos (by decide +kernel)]; kernel_rfl) | (rw [if_neg (by decide +kernel)]; exact ⟨rfl, rfl⟩))
    (fun os started H enc _ => lifted os started H enc)

/-- THE STATEMENT -/
theorem walkCalls_holds : Rows.WalkCallsSaid := over
#print axioms walkCalls_holds
end Go.Proofs.Ytfhhgcgbgmilcaa.walkCalls
