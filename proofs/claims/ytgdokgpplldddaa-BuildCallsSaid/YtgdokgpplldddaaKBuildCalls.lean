/-
  PROVED: dumbwaiterlaw09.BuildCalls returns true for every numbers, list of segments, position and ints, and what was in memory stays as it was. Conditions: none.
-/
import Derived.Test.YtgdokgpplldddaaKp42
import Derived.Test.YtgdokgpplldddaaKp43
import Derived.Test.YtgdokgpplldddaaRows
import Derived.WalkKit
import Derived.ProofKit
import Derived.OpenShut
import Derived.ShutString
import Derived.ChangeOld
import Derived.Below
import Derived.Carry
import Derived.Lib.SmallJoins

namespace Go.Proofs.Ytgdokgpplldddaa.buildCalls
open Go.ChangeShapes Go.WideShapes Go.ChangeAt Go.RowKit
set_option linter.unusedVariables false


theorem infoPs : (Try.prog.info? 33).map (·.size) = some 2 := by kernel_rfl
theorem rangePs {w : World} {b : Nat} {x y : Value} (h : BlkAt w b [x, y] 33) : w.rangeAt b 0 [x, y] := fun j v hv => by
  match j, hv with
  | 0, hv => simp at hv; subst hv; exact h.cell 0
  | 1, hv => simp at hv; subst hv; exact h.cell 1
theorem loadPs {w : World} {b : Nat} {x y : Value} (h : BlkAt w b [x, y] 33) : (Instr.loadAt 33 (.pointer (some ⟨b, 0, none⟩))).run Try.prog w = .ok (.agg #[x, y]) w := run_loadAt_mid w b 0 _ [x, y] _ (rangePs h) Try.underlying33 rfl infoPs
theorem splR_len {I : List Int} {L : List Sg} : (splR I L).length ≤ L.length := by
  unfold splR
  split
  · rw [splL_len]
    exact Nat.le_refl _
  · simp
theorem pckR_len {p n : Int} {b : Bool} {id : Int} {L : List Sg} : (pckR p n b id L).length ≤ L.length := by
  unfold pckR
  split
  · rw [pckL_len]
    exact Nat.le_refl _
  · simp
set_option maxRecDepth 100000 in
set_option maxHeartbeats 8000000 in
theorem walk_main (w : World) (va : Option Addr) (vc : Nat) (I : List Int) (hv0 : IntsZ w (.slice va I.length vc) I) (ua : Option Addr) (uc : Nat) (L : List Sg) (hv1 : SegsAt w (.slice ua L.length uc) L) (hs : isSgs L) (p : Int) (b : Bool) (n id at_ m : Int) (hI : I.length ≤ 100) (hL : L.length ≤ 100) (ip : I64 p) (i1 : I64 n) (i2 : I64 id) (ia : U64 at_) (im : I64 m) :
    Calls Try.prog 4 #[.slice va I.length vc, .slice ua L.length uc, .agg #[.int .i64 p, .bool b], .int .i64 n, .int .i64 id, .int .u64 at_, .int .i64 m] w fun e w' => e = .returned (.bool true) ∧ Below w.heap.size w w' := by
  have QI := hid_mk hv0
  have QS := hid_mk hv1
  have hIi : (I.length : Int) ≤ 100 := by omega
  have hLi : (L.length : Int) ≤ 100 := by omega
  have HLI := hid_mk hI
  have HLs : Hid (L.length ≤ 1000) := hid_mk (by omega)
  have CS := hid_mk (fun u x y (h1 : IntsZ u x I) (h2 : SegsAt u y L) => bdsplit x y I L u h1 h2 hs (by omega) (by omega))
  have RS := hid_mk (fun u (h1 : IntsZ u (.slice va I.length vc) I) (h2 : SegsAt u (.slice ua L.length uc) L) => rsplit _ _ I L u h1 h2 hs (by omega) (by omega))
  have CP := hid_mk (fun u x (h2 : SegsAt u x L) => bdpacked p n b id x L u ip i1 i2 h2 hs (by omega))
  have RP := hid_mk (fun u (h2 : SegsAt u (.slice ua L.length uc) L) => rpacked p n b id _ L u h2 hs (by omega))
  have CT := hid_mk (fun u (h2 : SegsAt u (.slice ua L.length uc) L) => bdtable _ L u h2 hs (by omega))
  have CQ := hid_mk (fun u (h2 : SegsAt u (.slice ua L.length uc) L) => bdptable _ L u h2 hs (by omega))
  have RT : Hid (∀ u, SegsAt u (.slice ua L.length uc) L → Calls Try.prog 20 #[.slice ua L.length uc] u fun e w' => ∃ x, e = .returned (.tuple #[x, .int .i64 (mayE L)]) ∧ BytesR w' x (stbB L) ∧ Below u.heap.size u w') := hid_mk (fun u h2 => (rsplitTable _ L u h2 hs (by omega)).mono (fun e w' ⟨x, h1, h2, h3⟩ => ⟨x, h1, own_r h2, h3⟩))
  have RQ : Hid (∀ u, SegsAt u (.slice ua L.length uc) L → Calls Try.prog 22 #[.slice ua L.length uc] u fun e w' => ∃ x, e = .returned (.tuple #[x, .int .i64 (mayE L)]) ∧ BytesR w' x (ptbB L) ∧ Below u.heap.size u w') := hid_mk (fun u h2 => (rpackedTable _ L u h2 hs (by omega)).mono (fun e w' ⟨x, h1, h2, h3⟩ => ⟨x, h1, own_r h2, h3⟩))
  have CO := hid_mk (fun u => bdone id at_ m u i2 ia im)
  have RO := hid_mk (fun u => rsone id at_ m u)
  have CV := hid_mk (fun u => bdpone p n b id at_ m u ip i1 i2 ia im)
  have RV := hid_mk (fun u => rpone p n b id at_ m u)
  have CN := hid_mk (fun t u (h2 : SegsAt u (.slice ua L.length uc) L) => bdneeds _ L t u h2 hs (by omega))
  have RN : Hid (∀ t u, SegsAt u (.slice ua L.length uc) L → Calls Try.prog 25 #[.slice ua L.length uc, .bool t] u fun e w' => e = .returned (.int .i64 (neeN L t)) ∧ Below u.heap.size u w') := hid_mk (fun t u h2 => (rneeds _ L t u h2 hs (by omega)).mono (fun e w' ⟨h1, k, h2⟩ => ⟨h1, by rw [h2]; exact below_drewN _ _⟩))
  have HSl : Hid ((splR I L).length ≤ 1000) := hid_mk (by have := splR_len (I := I) (L := L); omega)
  have HPl : Hid ((pckR p n b id L).length ≤ 1000) := hid_mk (by have := pckR_len (p := p) (n := n) (b := b) (id := id) (L := L); omega)
  clear hv0 hv1 hs hI hL ip i1 i2 ia im
  generalize splE I L = SE at *
  generalize splR I L = SR at *
  generalize pckE p n id L = PE at *
  generalize pckR p n b id L = PR at *
  generalize mayE L = ME at *
  generalize oneP id at_ m = X1 at *
  generalize oneE id m = E1 at *
  generalize ponP p n b id at_ m = X2 at *
  generalize ponE p n id m = E2 at *
  obtain ⟨BS, hBS⟩ : ∃ x, stbB L = x := ⟨_, rfl⟩
  obtain ⟨BP, hBP⟩ : ∃ x, ptbB L = x := ⟨_, rfl⟩
  rw [hBS] at CT RT
  rw [hBP] at CQ RQ
  clear hBS hBP
  have q1 : ∀ u : World, (binOp .eql 40 (pV X1) (pV X1)).run Try.prog u = .ok (.bool true) u := fun u => by
    have h := eqlPt X1 X1 u
    rw [ptB_self] at h
    exact h
  have q2 : ∀ u : World, (binOp .eql 46 (pV X2) (pV X2)).run Try.prog u = .ok (.bool true) u := fun u => by
    have h := eqlPk X2 X2 u
    rw [ptB_self] at h
    exact h
  have HB := hid_mk (Below.refl w.heap.size w)
  go_enter Try.func4, Try.ntmps4
  have hbx := below_box w (.cells #[.int .i64 p, .bool b] 33)
  replace QI := hid_mk (QI.out.below hbx)
  replace QS := hid_mk (QS.out.below hbx)
  replace HB := hid_mk (below_then HB.out hbx)
  have XP := hid_mk (blk_new w [.int .i64 p, .bool b] 33)
  clear hbx
  go_wp2_with fail
  refine (lives9_any _).mono ?_
  rintro e w1 ⟨rfl, hb⟩
  replace QI := hid_mk (QI.out.below hb)
  replace QS := hid_mk (QS.out.below hb)
  replace XP := hid_mk (XP.out.below hb)
  replace HB := hid_mk (below_then HB.out hb)
  clear hb
  obtain ⟨U0, hU0⟩ : ∃ U0, U0 = (w1.alloc (.cells #[] 3)) := ⟨_, rfl⟩
  have hbx := below_box w1 (.cells #[] 3)
  rw [← hU0] at hbx
  replace QI := hid_mk (QI.out.below hbx)
  replace QS := hid_mk (QS.out.below hbx)
  replace XP := hid_mk (XP.out.below hbx)
  replace HB := hid_mk (below_then HB.out hbx)
  clear hbx
  obtain ⟨cv, W0, hrun, hq, hb0⟩ := app_empty (B := w.heap.size) w1.heap.size QI.out HB.out.size (by have := HLI.out; omega)
  obtain ⟨ca, cc, rfl⟩ := hq.len
  have HRun := hid_mk hrun
  replace QI := hid_mk (QI.out.below hb0)
  replace QS := hid_mk (QS.out.below hb0)
  replace XP := hid_mk (XP.out.below hb0)
  replace HB := hid_mk (below_then HB.out hb0)
  have QC := hid_mk (hq.z)
  clear hq hb0 hrun
  rw [hU0] at HRun
  go_wp2_with (at_builtin; refine wpList_append_run (v := .slice (some ⟨w1.heap.size, 0, none⟩) 0 0) (u := .slice va I.length vc) (v' := .slice ca I.length cc) (w' := W0) rfl _ _ 26 rfl (by first | rfl | go_simp) (by first | rfl | go_simp) (HRun.out _) ?_)
  clear HRun hU0
  refine (ksegs_any _ L _ QS.out HLs.out).mono ?_
  rintro e w2 ⟨kv, rfl, ho, hb⟩
  replace QI := hid_mk (QI.out.below hb)
  replace QS := hid_mk (QS.out.below hb)
  replace XP := hid_mk (XP.out.below hb)
  replace QC := hid_mk (QC.out.below hb)
  replace HB := hid_mk (below_then HB.out hb)
  have QK := hid_mk (ho.at)
  clear hb ho
  obtain ⟨ka, kc, rfl⟩ := QK.out.len
  go_wp2_with fail
  refine (CS.out _ _ _ QC.out QK.out).mono ?_
  rintro e w3 ⟨xv, rfl, hq, hb⟩
  replace QI := hid_mk (QI.out.below hb)
  replace QS := hid_mk (QS.out.below hb)
  replace XP := hid_mk (XP.out.below hb)
  replace QC := hid_mk (QC.out.below hb)
  replace QK := hid_mk (QK.out.below hb)
  replace HB := hid_mk (below_then HB.out hb)
  have QX := hid_mk (hq)
  clear hb hq
  obtain ⟨xa, xc, rfl⟩ := QX.out.len
  clear QC
  clear QK
  go_wp2_with fail
  refine (RS.out _ QI.out QS.out).mono ?_
  rintro e w4 ⟨yv, rfl, hq, hb⟩
  replace QI := hid_mk (QI.out.below hb)
  replace QS := hid_mk (QS.out.below hb)
  replace XP := hid_mk (XP.out.below hb)
  replace QX := hid_mk (QX.out.below hb)
  replace HB := hid_mk (below_then HB.out hb)
  have QY := hid_mk (hq.at)
  clear hb hq
  obtain ⟨ya, yc, rfl⟩ := QY.out.len
  clear QI
  go_wp2_with fail
  have BU0 := HB.out.size
  obtain ⟨U, hU⟩ : ∃ U, U = w4 := ⟨_, rfl⟩
  rw [← hU] at BU0 QS XP QX QY HB
  rw [← hU]
  clear hU BU0
  refine wp_region_outl3 0 [] [] []
      [(fun v _ => v = .agg #[.int .i64 p, .bool b]),
      (fun v _ => v = .int .i64 n),
      (fun v _ => v = .int .i64 id),
      (fun v _ => v = .slice ua L.length uc),
      (fun v W => SegsAt W v L),
      (fun v W => ∃ x, v = .tuple #[x, .int .i64 PE] ∧ PtsAt W x PR),
      (fun v W => ∃ x, v = .tuple #[x, .int .i64 PE] ∧ PtsAt W x PR),
      (fun v W => PtsAt W v PR),
      (fun v _ => v = .int .i64 PE),
      (fun v W => PtsAt W v PR),
      (fun v _ => v = .int .i64 PE)]
      (Below U.heap.size U) (by kernel_rfl) (by kernel_rfl) (by kernel_rfl) ?_ (fun u u' hb h => h.trans (hb.mono h.size)) ((Below.refl _ _).drew) ?_ ?_ ?_ ?_ ?_
  · refine And.intro (up_eq _) ?_
    refine And.intro (up_eq _) ?_
    refine And.intro (up_eq _) ?_
    refine And.intro (up_eq _) ?_
    refine And.intro (fun _ _ _ hb h => h.below hb) ?_
    refine And.intro (fun _ _ _ hb h => by obtain ⟨x, e, h⟩ := h; exact ⟨x, e, h.below hb⟩) ?_
    refine And.intro (fun _ _ _ hb h => by obtain ⟨x, e, h⟩ := h; exact ⟨x, e, h.below hb⟩) ?_
    refine And.intro (fun _ _ _ hb h => h.below hb) ?_
    refine And.intro (up_eq _) ?_
    refine And.intro (fun _ _ _ hb h => h.below hb) ?_
    refine And.intro (up_eq _) ?_
    trivial
  · trivial
  · trivial
  · trivial
  · refine And.intro ?_ (And.intro ?_ (And.intro ?_ (And.intro ?_ (And.intro ?_ (And.intro ?_ (And.intro ?_ (And.intro ?_ (And.intro ?_ (And.intro ?_ (And.intro ?_ (True.intro)))))))))))
    · refine qstep_val (.agg #[.int .i64 p, .bool b]) (by kernel_rfl) (by kernel_rfl) rfl (fun _ A1 W1 inv hnl hall => ⟨wanted_none rfl, ?_, rfl⟩)
      have h9 : A1.eval (.tmp 9) = .pointer (some ⟨w.heap.size, 0, none⟩) := (inv.base 9 (by kernel_rfl)).trans rfl
      simp only [execOp, h9, Sem.run_bind, loadPs (XP.out.below inv.s), Result.andThen_ok, Sem.run_pure]
    · refine qstep_val (.int .i64 n) (by kernel_rfl) (by kernel_rfl) rfl (fun _ A1 W1 inv hnl hall => ⟨wanted_none rfl, ?_, rfl⟩)
      have h3 : A1.eval (.tmp 3) = .int .i64 n := (inv.base 3 (by kernel_rfl)).trans rfl
      simp only [execOp, h3, Sem.run_pure]
    · refine qstep_val (.int .i64 id) (by kernel_rfl) (by kernel_rfl) rfl (fun _ A1 W1 inv hnl hall => ⟨wanted_none rfl, ?_, rfl⟩)
      have h4 : A1.eval (.tmp 4) = .int .i64 id := (inv.base 4 (by kernel_rfl)).trans rfl
      simp only [execOp, h4, Sem.run_pure]
    · refine qstep_val (.slice ua L.length uc) (by kernel_rfl) (by kernel_rfl) rfl (fun _ A1 W1 inv hnl hall => ⟨wanted_none rfl, ?_, rfl⟩)
      have h1 : A1.eval (.tmp 1) = .slice ua L.length uc := (inv.base 1 (by kernel_rfl)).trans rfl
      simp only [execOp, h1, Sem.run_pure]
    · refine qstep_call 15 (by kernel_rfl) _ _ (by kernel_rfl) (by kernel_rfl) rfl rfl (fun _ A1 W1 inv hnl hall => ⟨wanted_none rfl, #[.slice ua L.length uc], ?_, ?_⟩)
      · have h60 : A1.eval (.tmp 60) = .slice ua L.length uc := inv.get hall 3 60 (by kernel_rfl) (by kernel_rfl) rfl
        simp [h60]
      · refine (ksegs_any _ L _ (QS.out.below inv.s) HLs.out).mono ?_
        rintro e u ⟨v', rfl, ho, hb⟩
        exact ⟨_, rfl, ho.at, hb⟩
    · refine qstep_call 9 (by kernel_rfl) _ _ (by kernel_rfl) (by kernel_rfl) rfl rfl (fun _ A1 W1 inv hnl hall => ⟨wanted_none rfl, #[.agg #[.int .i64 p, .bool b], .int .i64 n, .int .i64 id, A1.eval (.tmp 61)], ?_, ?_⟩)
      · have h57 : A1.eval (.tmp 57) = .agg #[.int .i64 p, .bool b] := inv.get hall 0 57 (by kernel_rfl) (by kernel_rfl) rfl
        have h58 : A1.eval (.tmp 58) = .int .i64 n := inv.get hall 1 58 (by kernel_rfl) (by kernel_rfl) rfl
        have h59 : A1.eval (.tmp 59) = .int .i64 id := inv.get hall 2 59 (by kernel_rfl) (by kernel_rfl) rfl
        simp [h57, h58, h59]
      · have h61 : (fun v W => SegsAt W v L) (A1.eval (.tmp 61)) W1 := inv.get hall 4 61 (by kernel_rfl) (by kernel_rfl) rfl
        refine (CP.out _ _ h61).mono ?_
        rintro e u ⟨x, rfl, hq, hb⟩
        exact ⟨_, rfl, ⟨x, rfl, hq⟩, hb⟩
    · refine qstep_ex (by kernel_rfl) (by kernel_rfl) rfl (fun _ A1 W1 inv hnl hall => ⟨wanted_none rfl, ?_⟩)
      have h62 : (fun v W => ∃ x, v = .tuple #[x, .int .i64 PE] ∧ PtsAt W x PR) (A1.eval (.tmp 62)) W1 := inv.get hall 5 62 (by kernel_rfl) (by kernel_rfl) rfl
      exact ⟨A1.eval (.tmp 62), by simp only [execOp, Sem.run_pure], h62⟩
    · refine qstep_ex (by kernel_rfl) (by kernel_rfl) rfl (fun _ A1 W1 inv hnl hall => ⟨wanted_none rfl, ?_⟩)
      have h56 : (fun v W => ∃ x, v = .tuple #[x, .int .i64 PE] ∧ PtsAt W x PR) (A1.eval (.tmp 56)) W1 := inv.get hall 6 56 (by kernel_rfl) (by kernel_rfl) rfl
      obtain ⟨x, hx, hi⟩ := h56
      refine ⟨x, ?_, hi⟩
      simp only [execOp, hx]
      simp [go_sem]
    · refine qstep_val (.int .i64 PE) (by kernel_rfl) (by kernel_rfl) rfl (fun _ A1 W1 inv hnl hall => ⟨wanted_none rfl, ?_, rfl⟩)
      have h56 : (fun v W => ∃ x, v = .tuple #[x, .int .i64 PE] ∧ PtsAt W x PR) (A1.eval (.tmp 56)) W1 := inv.get hall 6 56 (by kernel_rfl) (by kernel_rfl) rfl
      obtain ⟨x, hx, hi⟩ := h56
      simp only [execOp, hx]
      simp [go_sem]
    · refine qstep_ex (by kernel_rfl) (by kernel_rfl) rfl (fun _ A1 W1 inv hnl hall => ⟨wanted_none rfl, ?_⟩)
      have h63 : (fun v W => PtsAt W v PR) (A1.eval (.tmp 63)) W1 := inv.get hall 7 63 (by kernel_rfl) (by kernel_rfl) rfl
      exact ⟨A1.eval (.tmp 63), by simp only [execOp, Sem.run_pure], h63⟩
    · refine qstep_val (.int .i64 PE) (by kernel_rfl) (by kernel_rfl) rfl (fun _ A1 W1 inv hnl hall => ⟨wanted_none rfl, ?_, rfl⟩)
      have h64 : A1.eval (.tmp 64) = .int .i64 PE := inv.get hall 8 64 (by kernel_rfl) (by kernel_rfl) rfl
      simp only [execOp, h64, Sem.run_pure]
  · intro listed A1 W1 inv hall
    have e57 : A1.eval (.tmp 57) = .agg #[.int .i64 p, .bool b] := inv.fin 0 57 (by kernel_rfl) (hall 0 (Nat.lt_of_lt_of_eq (by decide : 0 < 11) (by kernel_rfl))) rfl
    have e58 : A1.eval (.tmp 58) = .int .i64 n := inv.fin 1 58 (by kernel_rfl) (hall 1 (Nat.lt_of_lt_of_eq (by decide : 1 < 11) (by kernel_rfl))) rfl
    have e59 : A1.eval (.tmp 59) = .int .i64 id := inv.fin 2 59 (by kernel_rfl) (hall 2 (Nat.lt_of_lt_of_eq (by decide : 2 < 11) (by kernel_rfl))) rfl
    have e60 : A1.eval (.tmp 60) = .slice ua L.length uc := inv.fin 3 60 (by kernel_rfl) (hall 3 (Nat.lt_of_lt_of_eq (by decide : 3 < 11) (by kernel_rfl))) rfl
    have e64 : A1.eval (.tmp 64) = .int .i64 PE := inv.fin 8 64 (by kernel_rfl) (hall 8 (Nat.lt_of_lt_of_eq (by decide : 8 < 11) (by kernel_rfl))) rfl
    have e20 : A1.eval (.tmp 20) = .int .i64 PE := inv.fin 10 20 (by kernel_rfl) (hall 10 (Nat.lt_of_lt_of_eq (by decide : 10 < 11) (by kernel_rfl))) rfl
    have p61 : (fun v W => SegsAt W v L) (A1.eval (.tmp 61)) W1 := inv.fin 4 61 (by kernel_rfl) (hall 4 (Nat.lt_of_lt_of_eq (by decide : 4 < 11) (by kernel_rfl))) rfl
    obtain ⟨v61, e61⟩ : ∃ v, A1.eval (.tmp 61) = v := ⟨_, rfl⟩
    rw [e61] at p61
    have p62 : (fun v W => ∃ x, v = .tuple #[x, .int .i64 PE] ∧ PtsAt W x PR) (A1.eval (.tmp 62)) W1 := inv.fin 5 62 (by kernel_rfl) (hall 5 (Nat.lt_of_lt_of_eq (by decide : 5 < 11) (by kernel_rfl))) rfl
    obtain ⟨v62, e62⟩ : ∃ v, A1.eval (.tmp 62) = v := ⟨_, rfl⟩
    rw [e62] at p62
    have p56 : (fun v W => ∃ x, v = .tuple #[x, .int .i64 PE] ∧ PtsAt W x PR) (A1.eval (.tmp 56)) W1 := inv.fin 6 56 (by kernel_rfl) (hall 6 (Nat.lt_of_lt_of_eq (by decide : 6 < 11) (by kernel_rfl))) rfl
    obtain ⟨v56, e56⟩ : ∃ v, A1.eval (.tmp 56) = v := ⟨_, rfl⟩
    rw [e56] at p56
    have p63 : (fun v W => PtsAt W v PR) (A1.eval (.tmp 63)) W1 := inv.fin 7 63 (by kernel_rfl) (hall 7 (Nat.lt_of_lt_of_eq (by decide : 7 < 11) (by kernel_rfl))) rfl
    obtain ⟨v63, e63⟩ : ∃ v, A1.eval (.tmp 63) = v := ⟨_, rfl⟩
    rw [e63] at p63
    have p19 : (fun v W => PtsAt W v PR) (A1.eval (.tmp 19)) W1 := inv.fin 9 19 (by kernel_rfl) (hall 9 (Nat.lt_of_lt_of_eq (by decide : 9 < 11) (by kernel_rfl))) rfl
    obtain ⟨v19, e19⟩ : ∃ v, A1.eval (.tmp 19) = v := ⟨_, rfl⟩
    rw [e19] at p19
    have HF := inv.frame hall
    have HS9 := hid_mk inv.s
    simp only [putEnd, e57, e58, e59, e60, e64, e20, e61, e62, e56, e63, e19, Act.put, List.setIfInBounds_toArray, List.set_cons_succ, List.set_cons_zero] at HF
    clear e57 e58 e59 e60 e64 e20 e61 e62 e56 e63 e19 inv hall
    subst HF
    replace QS := hid_mk (QS.out.below HS9.out)
    replace XP := hid_mk (XP.out.below HS9.out)
    replace QX := hid_mk (QX.out.below HS9.out)
    replace QY := hid_mk (QY.out.below HS9.out)
    replace HB := hid_mk (below_then HB.out HS9.out)
    have QG := hid_mk (p19)
    clear HS9 p19
    obtain ⟨ga, gc, rfl⟩ := QG.out.len
    obtain ⟨lp, p0, p1, _⟩ := XP.out.two
    go_wp2_with fail
    refine (RP.out _ QS.out).mono ?_
    clear lp p0 p1
    rintro e w5 ⟨hv, rfl, hq, hb⟩
    replace QS := hid_mk (QS.out.below hb)
    replace XP := hid_mk (XP.out.below hb)
    replace QX := hid_mk (QX.out.below hb)
    replace QY := hid_mk (QY.out.below hb)
    replace QG := hid_mk (QG.out.below hb)
    replace HB := hid_mk (below_then HB.out hb)
    have QH := hid_mk (hq.at)
    clear hb hq
    obtain ⟨ha, hc, rfl⟩ := QH.out.len
    go_wp2_with fail
    refine (kpts_any _ _ SR SR _ QX.out QY.out HSl.out).mono ?_
    rintro e w6 ⟨he, hb⟩
    replace QS := hid_mk (QS.out.below hb)
    replace XP := hid_mk (XP.out.below hb)
    replace QX := hid_mk (QX.out.below hb)
    replace QY := hid_mk (QY.out.below hb)
    replace QG := hid_mk (QG.out.below hb)
    replace QH := hid_mk (QH.out.below hb)
    replace HB := hid_mk (below_then HB.out hb)
    clear hb
    rw [sameP_self] at he
    subst he
    go_wp2_with fail
    refine (kpks_any _ _ PR PR _ QG.out QH.out HPl.out).mono ?_
    rintro e w7 ⟨he, hb⟩
    replace QS := hid_mk (QS.out.below hb)
    replace XP := hid_mk (XP.out.below hb)
    replace QX := hid_mk (QX.out.below hb)
    replace QY := hid_mk (QY.out.below hb)
    replace QG := hid_mk (QG.out.below hb)
    replace QH := hid_mk (QH.out.below hb)
    replace HB := hid_mk (below_then HB.out hb)
    clear hb
    rw [sameP_self] at he
    subst he
    clear QX
    clear QY
    clear QG
    clear QH
    go_wp2_with fail
    refine (CT.out _ QS.out).mono ?_
    rintro e w8 ⟨tv, rfl, hq, hb⟩
    replace QS := hid_mk (QS.out.below hb)
    replace XP := hid_mk (XP.out.below hb)
    replace HB := hid_mk (below_then HB.out hb)
    have TA := hid_mk (hq)
    clear hb hq
    obtain ⟨ta, tc, rfl⟩ := TA.out.at.lenB
    go_wp2_with fail
    refine (RT.out _ QS.out).mono ?_
    rintro e w9 ⟨sv, rfl, hq, hb⟩
    replace QS := hid_mk (QS.out.below hb)
    replace XP := hid_mk (XP.out.below hb)
    replace TA := hid_mk (TA.out.below hb)
    replace HB := hid_mk (below_then HB.out hb)
    have TB := hid_mk (hq)
    clear hb hq
    obtain ⟨sa, sc, rfl⟩ := TB.out.at.lenB
    go_wp2_with fail
    refine (CQ.out _ QS.out).mono ?_
    rintro e w10 ⟨qv, rfl, hq, hb⟩
    replace QS := hid_mk (QS.out.below hb)
    replace XP := hid_mk (XP.out.below hb)
    replace TA := hid_mk (TA.out.below hb)
    replace TB := hid_mk (TB.out.below hb)
    replace HB := hid_mk (below_then HB.out hb)
    have TC := hid_mk (hq)
    clear hb hq
    obtain ⟨qa, qc, rfl⟩ := TC.out.at.lenB
    go_wp2_with fail
    refine (RQ.out _ QS.out).mono ?_
    rintro e w11 ⟨rv, rfl, hq, hb⟩
    replace QS := hid_mk (QS.out.below hb)
    replace XP := hid_mk (XP.out.below hb)
    replace TA := hid_mk (TA.out.below hb)
    replace TB := hid_mk (TB.out.below hb)
    replace TC := hid_mk (TC.out.below hb)
    replace HB := hid_mk (below_then HB.out hb)
    have TD := hid_mk (hq)
    clear hb hq
    obtain ⟨ra, rc, rfl⟩ := TD.out.at.lenB
    have vTA := convBR TA.out
    have vTB := convBR TB.out
    have vTC := convBR TC.out
    have vTD := convBR TD.out
    clear TA
    clear TB
    clear TC
    clear TD
    obtain ⟨lp, p0, p1, _⟩ := XP.out.two
    go_wp2_with fail
    refine (CO.out _).mono ?_
    clear lp p0 p1 vTA vTB vTC vTD
    rintro e w12 ⟨rfl, hb⟩
    replace QS := hid_mk (QS.out.below hb)
    replace XP := hid_mk (XP.out.below hb)
    replace HB := hid_mk (below_then HB.out hb)
    clear hb
    have hbx := below_box w12 (.cells #[.int .i64 X1.i, .int .u64 X1.d.a, .int .u32 X1.d.l, .int .u16 X1.d.f, .int .u16 X1.d.n] 40)
    replace QS := hid_mk (QS.out.below hbx)
    replace XP := hid_mk (XP.out.below hbx)
    replace HB := hid_mk (below_then HB.out hbx)
    have Xa := hid_mk (blk_new w12 (ptCells [X1]) 40)
    clear hbx
    obtain ⟨lp, p0, p1, _⟩ := XP.out.two
    go_wp2_with fail
    refine (RO.out _).mono ?_
    clear lp p0 p1
    rintro e w13 ⟨rfl, hb⟩
    replace QS := hid_mk (QS.out.below hb)
    replace XP := hid_mk (XP.out.below hb)
    replace Xa := hid_mk (Xa.out.below hb)
    replace HB := hid_mk (below_then HB.out hb)
    clear hb
    have hbx := below_box w13 (.cells #[.int .i64 X1.i, .int .u64 X1.d.a, .int .u32 X1.d.l, .int .u16 X1.d.f, .int .u16 X1.d.n] 40)
    replace QS := hid_mk (QS.out.below hbx)
    replace XP := hid_mk (XP.out.below hbx)
    replace Xa := hid_mk (Xa.out.below hbx)
    replace HB := hid_mk (below_then HB.out hbx)
    have Xb := hid_mk (blk_new w13 (ptCells [X1]) 40)
    clear hbx
    obtain ⟨lp, p0, p1, _⟩ := XP.out.two
    go_wp2_with fail
    refine (CV.out _).mono ?_
    clear lp p0 p1
    rintro e w14 ⟨rfl, hb⟩
    replace QS := hid_mk (QS.out.below hb)
    replace XP := hid_mk (XP.out.below hb)
    replace Xa := hid_mk (Xa.out.below hb)
    replace Xb := hid_mk (Xb.out.below hb)
    replace HB := hid_mk (below_then HB.out hb)
    clear hb
    have hbx := below_box w14 (.cells #[.int .i64 X2.i, .int .u64 X2.d.a, .int .u32 X2.d.l, .int .u16 X2.d.f, .int .u16 X2.d.n] 46)
    replace QS := hid_mk (QS.out.below hbx)
    replace XP := hid_mk (XP.out.below hbx)
    replace Xa := hid_mk (Xa.out.below hbx)
    replace Xb := hid_mk (Xb.out.below hbx)
    replace HB := hid_mk (below_then HB.out hbx)
    have Xc := hid_mk (blk_new w14 (ptCells [X2]) 46)
    clear hbx
    obtain ⟨lp, p0, p1, _⟩ := XP.out.two
    go_wp2_with fail
    refine (RV.out _).mono ?_
    clear lp p0 p1
    rintro e w15 ⟨rfl, hb⟩
    replace QS := hid_mk (QS.out.below hb)
    replace XP := hid_mk (XP.out.below hb)
    replace Xa := hid_mk (Xa.out.below hb)
    replace Xb := hid_mk (Xb.out.below hb)
    replace Xc := hid_mk (Xc.out.below hb)
    replace HB := hid_mk (below_then HB.out hb)
    clear hb
    have hbx := below_box w15 (.cells #[.int .i64 X2.i, .int .u64 X2.d.a, .int .u32 X2.d.l, .int .u16 X2.d.f, .int .u16 X2.d.n] 46)
    replace QS := hid_mk (QS.out.below hbx)
    replace XP := hid_mk (XP.out.below hbx)
    replace Xa := hid_mk (Xa.out.below hbx)
    replace Xb := hid_mk (Xb.out.below hbx)
    replace Xc := hid_mk (Xc.out.below hbx)
    replace HB := hid_mk (below_then HB.out hbx)
    have Xd := hid_mk (blk_new w15 (ptCells [X2]) 46)
    clear hbx
    skip
    obtain ⟨⟨_, _, _, _, _, hcc, xa, xa0, xa1, xa2, xa3, xa4⟩, _⟩ := blk5 Xa.out rfl
    cases hcc
    obtain ⟨⟨_, _, _, _, _, hcc, xb, xb0, xb1, xb2, xb3, xb4⟩, _⟩ := blk5 Xb.out rfl
    cases hcc
    obtain ⟨⟨_, _, _, _, _, hcc, xc, xc0, xc1, xc2, xc3, xc4⟩, _⟩ := blk5 Xc.out rfl
    cases hcc
    obtain ⟨⟨_, _, _, _, _, hcc, xd, xd0, xd1, xd2, xd3, xd4⟩, _⟩ := blk5 Xd.out rfl
    cases hcc
    go_wp2_with fail
    refine (CN.out false _ QS.out).mono ?_
    clear xa xa0 xa1 xa2 xa3 xa4 xb xb0 xb1 xb2 xb3 xb4 xc xc0 xc1 xc2 xc3 xc4 xd xd0 xd1 xd2 xd3 xd4
    rintro e w16 ⟨rfl, hb⟩
    replace QS := hid_mk (QS.out.below hb)
    replace XP := hid_mk (XP.out.below hb)
    replace Xa := hid_mk (Xa.out.below hb)
    replace Xb := hid_mk (Xb.out.below hb)
    replace Xc := hid_mk (Xc.out.below hb)
    replace Xd := hid_mk (Xd.out.below hb)
    replace HB := hid_mk (below_then HB.out hb)
    clear hb
    go_wp2_with fail
    refine (RN.out false _ QS.out).mono ?_
    rintro e w17 ⟨rfl, hb⟩
    replace QS := hid_mk (QS.out.below hb)
    replace XP := hid_mk (XP.out.below hb)
    replace Xa := hid_mk (Xa.out.below hb)
    replace Xb := hid_mk (Xb.out.below hb)
    replace Xc := hid_mk (Xc.out.below hb)
    replace Xd := hid_mk (Xd.out.below hb)
    replace HB := hid_mk (below_then HB.out hb)
    clear hb
    go_wp2_with fail
    refine (CN.out true _ QS.out).mono ?_
    rintro e w18 ⟨rfl, hb⟩
    replace QS := hid_mk (QS.out.below hb)
    replace XP := hid_mk (XP.out.below hb)
    replace Xa := hid_mk (Xa.out.below hb)
    replace Xb := hid_mk (Xb.out.below hb)
    replace Xc := hid_mk (Xc.out.below hb)
    replace Xd := hid_mk (Xd.out.below hb)
    replace HB := hid_mk (below_then HB.out hb)
    clear hb
    go_wp2_with fail
    refine (RN.out true _ QS.out).mono ?_
    rintro e w19 ⟨rfl, hb⟩
    replace QS := hid_mk (QS.out.below hb)
    replace XP := hid_mk (XP.out.below hb)
    replace Xa := hid_mk (Xa.out.below hb)
    replace Xb := hid_mk (Xb.out.below hb)
    replace Xc := hid_mk (Xc.out.below hb)
    replace Xd := hid_mk (Xd.out.below hb)
    replace HB := hid_mk (below_then HB.out hb)
    clear hb
    go_wp2_with fail
    go_ret
    exact ⟨rfl, HB.out⟩

set_option maxRecDepth 100000 in
theorem walk_long (w : World) (va ua : Option Addr) (vc uc nI nL : Nat) (p : Int) (b : Bool) (n id at_ m : Int) (h : 100 < nI) :
    Calls Try.prog 4 #[.slice va nI vc, .slice ua nL uc, .agg #[.int .i64 p, .bool b], .int .i64 n, .int .i64 id, .int .u64 at_, .int .i64 m] w fun e w' => e = .returned (.bool true) ∧ Below w.heap.size w w' := by
  have hi : (100 : Int) < (nI : Int) := by omega
  have hb0 := hid_mk (below_box w (.cells #[.int .i64 p, .bool b] 33))
  go_enter Try.func4, Try.ntmps4
  go_wp2_with fail
  refine (lives9_any _).mono ?_
  rintro e w1 ⟨rfl, hb⟩
  have hb1 := hid_mk (below_then hb0.out hb)
  clear hb
  go_wp2_with fail
  go_ret
  exact ⟨rfl, hb1.out⟩
set_option maxRecDepth 100000 in
theorem walk_long2 (w : World) (va ua : Option Addr) (vc uc nI nL : Nat) (p : Int) (b : Bool) (n id at_ m : Int) (h0 : nI ≤ 100) (h : 100 < nL) :
    Calls Try.prog 4 #[.slice va nI vc, .slice ua nL uc, .agg #[.int .i64 p, .bool b], .int .i64 n, .int .i64 id, .int .u64 at_, .int .i64 m] w fun e w' => e = .returned (.bool true) ∧ Below w.heap.size w w' := by
  have hi0 : (nI : Int) ≤ 100 := by omega
  have hi : (100 : Int) < (nL : Int) := by omega
  have hd : decide ((100 : Int) < (nI : Int)) = false := decide_eq_false (by omega)
  have hb0 := hid_mk (below_box w (.cells #[.int .i64 p, .bool b] 33))
  go_enter Try.func4, Try.ntmps4
  go_wp2_with fail
  refine (lives9_any _).mono ?_
  rintro e w1 ⟨rfl, hb⟩
  have hb1 := hid_mk (below_then hb0.out hb)
  clear hb
  go_wp2_with fail
  go_ret
  exact ⟨rfl, hb1.out⟩
theorem walk (w : World) (v0 : Value) (I : List Int) (hv0 : IntsZ w v0 I) (hm0 : I.length ≤ maxLen) (v1 : Value) (L : List Sg) (hv1 : SegsAt w v1 L) (hs : isSgs L) (hm1 : L.length ≤ maxLen) (p : Int) (b : Bool) (n id at_ m : Int) (w2 : (Lit.int .i64 p).wf = true) (w3 : (Lit.int .i64 n).wf = true) (w4 : (Lit.int .i64 id).wf = true) (w5 : (Lit.int .u64 at_).wf = true) (w6 : (Lit.int .i64 m).wf = true) :
    Calls Try.prog 4 #[v0, v1, .agg #[.int .i64 p, .bool b], .int .i64 n, .int .i64 id, .int .u64 at_, .int .i64 m] w fun e w' => e = .returned (.bool true) ∧ Below w.heap.size w w' := by
  obtain ⟨va, vc, rfl⟩ := hv0.len
  obtain ⟨ua, uc, rfl⟩ := hv1.len
  have b2 := bounds_i64 w2
  have b3 := bounds_i64 w3
  have b4 := bounds_i64 w4
  have b5 := bounds_u64 w5
  have b6 := bounds_i64 w6
  by_cases h : 100 < I.length
  · exact walk_long w va ua vc uc I.length L.length p b n id at_ m h
  · by_cases h2 : 100 < L.length
    · exact walk_long2 w va ua vc uc I.length L.length p b n id at_ m (by omega) h2
    · exact walk_main w va vc I hv0 ua uc L hv1 hs p b n id at_ m (by omega) (by omega) ⟨by omega, by omega⟩ ⟨by omega, by omega⟩ ⟨by omega, by omega⟩ ⟨by omega, by omega⟩ ⟨by omega, by omega⟩

/-! ### the row's frame -/
theorem own : ownKnob Try.prog.godebug = none := by kernel_rfl
theorem laidOut : laidOutB Try.prog = true := by kernel_rfl

set_option maxRecDepth 100000 in
theorem lifted (os : Os) (started : os.Started) (H : Type) (enc : TypeId × Value → H) :
    ReturnsInHanded {} Try.checked os 4 .any (Rows.buildCallsSpec.pre6 enc Try.prog Try.f4 Rows.buildCallsRow.domain false) (Rows.buildCallsSpec.post enc Try.prog Try.f4 false true false false) := by
  refine returnsInHanded_of_change (C := Try.checked) own started (by kernel_rfl) Try.func4
    (ChangeSpec.witness6 (enc := enc) (C := Try.checked) false ⟨#[], #[.slice none 0 0, .slice none 0 0, .agg #[.int .i64 0, .bool false], .int .i64 0, .int .i64 0, .int .u64 0, .int .i64 0], []⟩ 8 (by kernel_rfl) (by kernel_rfl) (by kernel_rfl) (by kernel_rfl)) ?_
  intro W base args ds gs before hval0 hW hcnd _
  have hval : ∀ (j : Nat) t v, Try.f4.params[j]? = some t → args[j]? = some v → Value.okWide Try.prog W .any base t v := hval0
  have hW' := hW
  obtain ⟨p, q, hA0, hV, rfl, hfz, hnd⟩ := hW
  have hA : DataW.TrodAll enc Try.prog W 0 (fun _ => true) true Try.f4.params.toList args.toList ds p := hA0
  rw [Try.params4] at hA hval
  obtain ⟨v0, vs0, d0, ds0, p0, q0, hargs, rfl, rfl, h0, r0⟩ := trodAll_cons hA
  obtain ⟨v1, vs1, d1, ds1, p1, q1, rfl, rfl, rfl, h1, r1⟩ := trodAll_cons r0
  obtain ⟨v2, vs2, d2, ds2, p2, q2, rfl, rfl, rfl, h2, r2⟩ := trodAll_cons r1
  obtain ⟨v3, vs3, d3, ds3, p3, q3, rfl, rfl, rfl, h3, r3⟩ := trodAll_cons r2
  obtain ⟨v4, vs4, d4, ds4, p4, q4, rfl, rfl, rfl, h4, r4⟩ := trodAll_cons r3
  obtain ⟨v5, vs5, d5, ds5, p5, q5, rfl, rfl, rfl, h5, r5⟩ := trodAll_cons r4
  obtain ⟨v6, vs6, d6, ds6, p6, q6, rfl, rfl, rfl, h6, r6⟩ := trodAll_cons r5
  obtain ⟨rfl, rfl, rfl⟩ := trodAll_nil r6
  obtain rfl : args = #[v0, v1, v2, v3, v4, v5, v6] := by cases args; simp_all
  obtain ⟨rfl, rfl⟩ := trodVars_none hV
  have k0 := h0
  have lt0 : ∀ x ∈ p0, x.block < W.heap.size := by
    obtain ⟨m, hm⟩ := k0
    exact DataW.trod_lt m _ _ _ hm
  have k1 := h1
  have lt1 : ∀ x ∈ p1, x.block < W.heap.size := by
    obtain ⟨m, hm⟩ := k1
    exact DataW.trod_lt m _ _ _ hm
  have k2 := h2
  have lt2 : ∀ x ∈ p2, x.block < W.heap.size := by
    obtain ⟨m, hm⟩ := k2
    exact DataW.trod_lt m _ _ _ hm
  have k3 := h3
  have lt3 : ∀ x ∈ p3, x.block < W.heap.size := by
    obtain ⟨m, hm⟩ := k3
    exact DataW.trod_lt m _ _ _ hm
  have k4 := h4
  have lt4 : ∀ x ∈ p4, x.block < W.heap.size := by
    obtain ⟨m, hm⟩ := k4
    exact DataW.trod_lt m _ _ _ hm
  have k5 := h5
  have lt5 : ∀ x ∈ p5, x.block < W.heap.size := by
    obtain ⟨m, hm⟩ := k5
    exact DataW.trod_lt m _ _ _ hm
  have k6 := h6
  have lt6 : ∀ x ∈ p6, x.block < W.heap.size := by
    obtain ⟨m, hm⟩ := k6
    exact DataW.trod_lt m _ _ _ hm
  obtain ⟨l0, hv0, hm0⟩ := open_intz (hval 0 26 v0 rfl rfl) h0
  obtain ⟨l1, hv1, hb1, hm1⟩ := open_segs (hval 1 27 v1 rfl rfl) h1
  obtain ⟨c20, c21, y20, y21, m2, rfl, rfl, rfl, hy20, hy21⟩ := Go.Joins.open_agg2 Try.underlying33 (by kernel_rfl) (by kernel_rfl) (hval 2 33 v2 rfl rfl) h2
  obtain ⟨a2, e20, rfl, w2⟩ := DataW.trod_int Try.underlying3 hy20
  obtain ⟨b2, e21, rfl⟩ := DataW.trod_bool Try.underlying4 hy21
  simp at e20 e21
  subst e20 e21
  obtain ⟨a3, rfl, rfl, rfl, w3⟩ := open_int Try.underlying3 (hval 3 3 v3 rfl rfl) h3
  obtain ⟨a4, rfl, rfl, rfl, w4⟩ := open_int Try.underlying3 (hval 4 3 v4 rfl rfl) h4
  obtain ⟨a5, rfl, rfl, rfl, w5⟩ := open_int Try.underlying34 (hval 5 34 v5 rfl rfl) h5
  obtain ⟨a6, rfl, rfl, rfl, w6⟩ := open_int Try.underlying3 (hval 6 3 v6 rfl rfl) h6
  clear hA0 hval0
  refine (walk W v0 l0 hv0 hm0 v1 l1 hv1 hb1 hm1 a2 b2 a3 a4 a5 a6 w2 w3 w4 w5 w6).mono fun e W' ⟨he, bel⟩ => ?_
  subst he
  exact ⟨_, rfl, _, _, _, [], _, [], hW', trodAll_mk1 (shut_bool Try.underlying4 _), (trodAll_cons_mk (Below.trod laidOut (by kernel_rfl) (of_decide_eq_true (by kernel_rfl)) k0 bel lt0) (trodAll_cons_mk (Below.trod laidOut (by kernel_rfl) (of_decide_eq_true (by kernel_rfl)) k1 bel lt1) (trodAll_cons_mk (Below.trod laidOut (by kernel_rfl) (of_decide_eq_true (by kernel_rfl)) k2 bel lt2) (trodAll_cons_mk (Below.trod laidOut (by kernel_rfl) (of_decide_eq_true (by kernel_rfl)) k3 bel lt3) (trodAll_cons_mk (Below.trod laidOut (by kernel_rfl) (of_decide_eq_true (by kernel_rfl)) k4 bel lt4) (trodAll_cons_mk (Below.trod laidOut (by kernel_rfl) (of_decide_eq_true (by kernel_rfl)) k5 bel lt5) (trodAll_cons_mk (Below.trod laidOut (by kernel_rfl) (of_decide_eq_true (by kernel_rfl)) k6 bel lt6) trodAll_mk0))))))), rfl, bel.frame _, fun h => by cases h⟩

theorem over : Rows.buildCallsRow.holds Try.pinned (OpenSpec.ofChange Rows.buildCallsSpec) :=
  OpenClaim.holds_of_wide 4 Try.f4 rfl rfl rfl rfl rfl rfl rfl ⟨rfl, rfl, rfl, rfl, rfl⟩ rfl rfl rfl rfl rfl (by kernel_rfl) Try.func4 (by kernel_rfl)
    (of_decide_eq_true (by kernel_rfl)) (by unfold Func.isWrapper; first | (rw [if_pos (by decide +kernel)]; kernel_rfl) | (rw [if_neg (by decide +kernel)]; exact ⟨rfl, rfl⟩))
    (fun os started H enc _ => lifted os started H enc)

/-- THE STATEMENT -/
theorem buildCalls_holds : Rows.BuildCallsSaid := over
#print axioms buildCalls_holds
end Go.Proofs.Ytgdokgpplldddaa.buildCalls
