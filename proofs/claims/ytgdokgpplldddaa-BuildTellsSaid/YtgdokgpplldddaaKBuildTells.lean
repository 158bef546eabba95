/-
  PROVED: dumbwaiterlaw09.BuildTells returns true for every list of segments, ints and bool, and what was in memory stays as it was. Conditions: none.
-/
import Derived.Test.YtgdokgpplldddaaKp44
import Derived.Test.YtgdokgpplldddaaKp42
import Derived.Test.YtgdokgpplldddaaRows
import Derived.WalkKit
import Derived.ProofKit
import Derived.OpenShut
import Derived.ShutString
import Derived.ChangeOld
import Derived.Below
import Derived.Carry
import Derived.Lib.SmallJoins

namespace Go.Proofs.Ytgdokgpplldddaa.buildTells
open Go.ChangeShapes Go.WideShapes Go.ChangeAt Go.RowKit
set_option linter.unusedVariables false


set_option maxRecDepth 100000 in
set_option maxHeartbeats 8000000 in
theorem walk_main (w : World) (ua : Option Addr) (uc : Nat) (L : List Sg) (hv1 : SegsAt w (.slice ua L.length uc) L) (hs : isSgs L) (a1 a2 a3 a4 : Int) (wrap : Bool) (hm : mayE L = 0) :
    Calls Try.prog 5 #[.slice ua L.length uc, .int .i64 a1, .int .i64 a2, .int .i64 a3, .int .i64 a4, .bool wrap] w fun e w' => e = .returned (.bool true) ∧ Below w.heap.size w w' := by
  have QS := hid_mk hv1
  obtain ⟨hl0, hl64⟩ := may_len hs hm
  have hLi : (L.length : Int) ≤ 64 := by omega
  obtain ⟨r, hr, hr2⟩ := pickN a1 100 (by decide)
  obtain ⟨q, hq, hq2⟩ := pickN a4 (64 + r) (by omega)
  obtain ⟨at_, ha, ha2⟩ := pickN a3 (64 + r) (by omega)
  obtain ⟨id, hi, hi2⟩ := pickN a2 (64 + r) (by omega)
  have es : ((64 + r : Nat) : Int) = 64 + (r : Int) := by omega
  rw [es] at hq2 ha2 hi2
  have HP1 := hid_mk (fun u => pick_at a1 100 r u (by decide) (by decide) hr2)
  have HP4 := hid_mk (fun u => pick_at a4 (64 + (r : Int)) q u (by omega) (by omega) hq2)
  have HP3 := hid_mk (fun u => pick_at a3 (64 + (r : Int)) at_ u (by omega) (by omega) ha2)
  have HP2 := hid_mk (fun u => pick_at a2 (64 + (r : Int)) id u (by omega) (by omega) hi2)
  have CNt : Hid (∀ u, SegsAt u (.slice ua L.length uc) L → Calls Try.prog 14 #[.slice ua L.length uc, .bool true] u fun e u' => e = .returned (.int .i64 1) ∧ Below u.heap.size u u') := hid_mk (fun u h2 => by
    have h := bdneeds _ L true u h2 hs (by omega)
    unfold neeN at h
    rw [if_pos hm] at h
    exact h)
  have CNf : Hid (∀ u, SegsAt u (.slice ua L.length uc) L → Calls Try.prog 14 #[.slice ua L.length uc, .bool false] u fun e u' => e = .returned (.int .i64 (L.length : Int)) ∧ Below u.heap.size u u') := hid_mk (fun u h2 => by
    have h := bdneeds _ L false u h2 hs (by omega)
    unfold neeN at h
    rw [if_pos hm] at h
    exact h)
  obtain ⟨e1, e2⟩ := spl_id (q := q) (by omega) hm hl64
  have CS := hid_mk (fun u x (h1 : IntsZ u x (idI q L.length)) (h2 : SegsAt u (.slice ua L.length uc) L) => bdsplit x _ (idI q L.length) L u h1 h2 hs (by rw [idI_len]; omega) (by omega))
  rw [e1, e2] at CS
  have CT := hid_mk (fun u (h2 : SegsAt u (.slice ua L.length uc) L) => bdtable _ L u h2 hs (by omega))
  rw [hm] at CT
  obtain ⟨e3, e4, e5, e6⟩ := stb_back hs hl64 hm
  have RT := hid_mk (fun u x (h1 : BytesAt u x (stbB L)) => rreadTable_any x (stbB L) u h1 e5 e6)
  rw [e3, e4] at RT
  obtain ⟨e7, e8⟩ := pck_len (p := (at_ : Int)) (n := 64 + (r : Int)) (b := wrap) (id := (id : Int)) hm (by unfold okP; rw [decide_eq_true (by omega)]) (by omega) (by omega) (by omega)
  have CK := hid_mk (fun u (h2 : SegsAt u (.slice ua L.length uc) L) => bdpacked at_ (64 + (r : Int)) wrap id _ L u ⟨by omega, by omega⟩ ⟨by omega, by omega⟩ ⟨by omega, by omega⟩ h2 hs (by omega))
  rw [e7, e8] at CK
  have CU := hid_mk (fun u (h2 : SegsAt u (.slice ua L.length uc) L) => bdptable _ L u h2 hs (by omega))
  rw [hm] at CU
  have HPl := hid_mk (stb_len hm).2
  have HPb := hid_mk (fun k (hk : k < L.length) => ptb_back hs hm k hk)
  have hr64 : (r : Int) < 100 := by omega
  have hatb : (at_ : Int) < 64 + (r : Int) := by omega
  clear hr2 hq2 ha2 hi2 es e1 e2 e3 e4 e5 e6 e7 e8
  have QS0 := QS
  have HB := hid_mk (Below.refl w.heap.size w)
  go_enter Try.func5, Try.ntmps5
  have hbx := below_box w (.cells #[.slice ua L.length uc] 27)
  replace QS := hid_mk (QS.out.below hbx)
  replace HB := hid_mk (below_then HB.out hbx)
  have X6 := hid_mk (blk_new w [.slice ua L.length uc] 27)
  clear hbx
  go_wp2_with fail
  refine (lives9_any _).mono ?_
  rintro e w1 ⟨rfl, hb⟩
  replace QS := hid_mk (QS.out.below hb)
  replace X6 := hid_mk (X6.out.below hb)
  replace HB := hid_mk (below_then HB.out hb)
  clear hb
  obtain ⟨l6, c6, _⟩ := X6.out.one
  go_wp2_with fail
  refine (CNt.out _ QS.out).mono ?_
  clear l6 c6
  rintro e w2 ⟨rfl, hb⟩
  replace QS := hid_mk (QS.out.below hb)
  replace X6 := hid_mk (X6.out.below hb)
  replace HB := hid_mk (below_then HB.out hb)
  clear hb
  skip
  go_wp2_with fail
  refine (HP1.out _).mono ?_
  rintro e w3 ⟨rfl, hs⟩
  have hb : Below w2.heap.size w2 w3 := by
    rw [hs]
    exact Below.refl _ _
  clear hs
  replace QS := hid_mk (QS.out.below hb)
  replace X6 := hid_mk (X6.out.below hb)
  replace HB := hid_mk (below_then HB.out hb)
  clear hb
  go_wp2_with fail
  obtain ⟨b6, hb6⟩ : ∃ b6, w.heap.size = b6 := ⟨_, rfl⟩
  rw [hb6] at X6 ⊢
  have HB6 := hid_mk hb6
  clear hb6
  go_loopw [13, 14] (fun s i wr => ∃ k : Nat, k ≤ L.length ∧ i = .int .i64 k ∧ Hid (OwnI (b6 + 1) wr s (idT q k)) ∧ Hid (BlkAt wr b6 [.slice ua L.length uc] 27) ∧ Hid (Below w.heap.size w wr)) (fun _ i _ => L.length - (intOf i).toNat)
  case atStart => exact ⟨0, Nat.zero_le _, rfl, hid_mk (World.ownsRow_nil _ _ _ _), X6, HB⟩
  case round =>
    obtain ⟨k, hk, rfl, hown, hbx, hold⟩ := hrel
    obtain ⟨l6, c6, _⟩ := hbx.out.one
    by_cases hlt : k < L.length
    · have hki : (k : Int) < (L.length : Int) := by omega
      obtain ⟨v', w', h1, h2, h3⟩ := app_int (q + 5 * k) hown.out (by omega) (by rw [idT_len]; omega)
      obtain ⟨oa, oc, hov⟩ := hown.out.len
      obtain ⟨na, nc, hnv⟩ := h2.len
      rw [← idT_succ] at h2 hnv
      rw [idT_len] at hov hnv
      subst hov
      subst hnv
      have hrem : ((q : Int) + (k : Int) * 5).tmod 1000 = ((q + 5 * k : Nat) : Int) := by rw [Int.tmod_eq_emod_of_nonneg (by omega)]; omega
      have HR := hid_mk h1
      have HO := hid_mk h2
      have HB3 := hid_mk (hold.out.trans (h3.mono (by have := HB6.out; omega)))
      have HX3 := hid_mk (hbx.out.own_app h3 (Nat.lt_succ_self _))
      clear h1 h2 h3 hold hown hbx
      go_wp2_with fail
      refine (HP4.out _).mono ?_
      rintro e u ⟨rfl, hs⟩
      subst hs
      go_wp2_with (at_builtin; refine wpList_append_run (v := .slice oa k oc) (u := .slice (some ⟨wr.heap.size, 0, none⟩) 1 1) (v' := .slice na (k + 1) nc) (w' := w') rfl _ _ 26 rfl (by first | rfl | go_simp) (by first | rfl | go_simp) (HR.out _) ?_)
      go_roundw
      case rel => exact ⟨k + 1, by omega, by simp, HO, HX3, HB3⟩
      case measure => simp [intOf]; omega
    · obtain rfl : k = L.length := by omega
      obtain ⟨oa, oc, hov⟩ := hown.out.len
      have QI := hid_mk (ints_z hown.out.ints)
      rw [idT_len] at hov
      subst hov
      rw [show (idT q L.length).map (fun i : Nat => (i : Int)) = idI q L.length from rfl] at QI
      replace QS := hid_mk (QS0.out.below hold.out)
      have X6 := hbx
      have HB := hold
      clear hown hbx hold hlt HP4
      go_wp2_with fail
      refine (CS.out _ _ QI.out QS.out).mono ?_
      clear l6 c6
      rintro e w11 ⟨pv, rfl, hq, hb⟩
      replace QS := hid_mk (QS.out.below hb)
      replace QI := hid_mk (QI.out.below hb)
      replace X6 := hid_mk (X6.out.below hb)
      replace HB := hid_mk (below_then HB.out hb)
      have QP := hid_mk (hq)
      clear hb hq
      obtain ⟨pa, pc, hpv⟩ := QP.out.len
      rw [splL_len] at hpv
      subst hpv
      obtain ⟨l6, c6, _⟩ := X6.out.one
      go_wp2_with fail
      refine (CT.out _ QS.out).mono ?_
      clear l6 c6
      rintro e w12 ⟨tv, rfl, hq, hb⟩
      replace QS := hid_mk (QS.out.below hb)
      replace QI := hid_mk (QI.out.below hb)
      replace X6 := hid_mk (X6.out.below hb)
      replace QP := hid_mk (QP.out.below hb)
      replace HB := hid_mk (below_then HB.out hb)
      have QT := hid_mk (hq)
      clear hb hq
      obtain ⟨ta, tc, rfl⟩ := QT.out.at.lenB
      go_wp2_with fail
      refine (RT.out _ _ QT.out.at).mono ?_
      rintro e w13 ⟨dv, rfl, hq, hb⟩
      replace QS := hid_mk (QS.out.below hb)
      replace QI := hid_mk (QI.out.below hb)
      replace X6 := hid_mk (X6.out.below hb)
      replace QP := hid_mk (QP.out.below hb)
      replace QT := hid_mk (QT.out.below hb)
      replace HB := hid_mk (below_then HB.out hb)
      have QD := hid_mk (hq)
      clear hb hq
      clear QT
      obtain ⟨da, dc, hdv⟩ := QD.out.len
      rw [stbL_len] at hdv
      subst hdv
      obtain ⟨l6, c6, _⟩ := X6.out.one
      go_wp2_with fail
      clear l6 c6
      obtain ⟨U, hU⟩ : ∃ U, U = w13 := ⟨_, rfl⟩
      rw [← hU] at QS QI X6 QP QD HB
      rw [← hU]
      clear hU
      refine wp_region_outl3 0 [] [] []
          [(fun v _ => v = .int .i64 0),
          (fun v _ => v = .bool false),
          (fun v _ => v = .bool false),
          (fun v _ => v = .int .i64 0),
          (fun v _ => v = .bool false),
          (fun v _ => v = .bool false),
          (fun v _ => v = .bool false),
          (fun v _ => v = .int .i64 0),
          (fun v _ => v = .bool false),
          (fun v _ => v = .bool false),
          (fun v _ => v = .bool false),
          (fun v _ => v = .slice pa L.length pc),
          (fun v _ => v = .int .i64 (L.length : Int)),
          (fun v _ => v = .slice ua L.length uc),
          (fun v _ => v = .int .i64 (L.length : Int)),
          (fun v _ => v = .bool false),
          (fun v _ => v = .bool false),
          (fun v _ => v = .bool false),
          (fun v _ => v = .slice da L.length dc),
          (fun v _ => v = .int .i64 (L.length : Int)),
          (fun v _ => v = .slice ua L.length uc),
          (fun v _ => v = .int .i64 (L.length : Int)),
          (fun v _ => v = .bool false),
          (fun v _ => v = .bool false),
          (fun v _ => v = .bool false),
          (fun v _ => v = .slice ua L.length uc),
          (fun v _ => v = .int .i64 (L.length : Int)),
          (fun v _ => v = .slice ua L.length uc),
          (fun v _ => v = .int .i64 (L.length : Int)),
          (fun v _ => v = .bool false),
          (fun v _ => v = .bool false)]
          (Below U.heap.size U) (by kernel_rfl) (by kernel_rfl) (by kernel_rfl) ?_ (fun u u' hb h => h.trans (hb.mono h.size)) ((Below.refl _ _).drew) ?_ ?_ ?_ ?_ ?_
      · refine And.intro (up_eq _) ?_
        refine And.intro (up_eq _) ?_
        refine And.intro (up_eq _) ?_
        refine And.intro (up_eq _) ?_
        refine And.intro (up_eq _) ?_
        refine And.intro (up_eq _) ?_
        refine And.intro (up_eq _) ?_
        refine And.intro (up_eq _) ?_
        refine And.intro (up_eq _) ?_
        refine And.intro (up_eq _) ?_
        refine And.intro (up_eq _) ?_
        refine And.intro (up_eq _) ?_
        refine And.intro (up_eq _) ?_
        refine And.intro (up_eq _) ?_
        refine And.intro (up_eq _) ?_
        refine And.intro (up_eq _) ?_
        refine And.intro (up_eq _) ?_
        refine And.intro (up_eq _) ?_
        refine And.intro (up_eq _) ?_
        refine And.intro (up_eq _) ?_
        refine And.intro (up_eq _) ?_
        refine And.intro (up_eq _) ?_
        refine And.intro (up_eq _) ?_
        refine And.intro (up_eq _) ?_
        refine And.intro (up_eq _) ?_
        refine And.intro (up_eq _) ?_
        refine And.intro (up_eq _) ?_
        refine And.intro (up_eq _) ?_
        refine And.intro (up_eq _) ?_
        refine And.intro (up_eq _) ?_
        refine And.intro (up_eq _) ?_
        trivial
      · trivial
      · trivial
      · trivial
      · refine And.intro ?_ (And.intro ?_ (And.intro ?_ (And.intro ?_ (And.intro ?_ (And.intro ?_ (And.intro ?_ (And.intro ?_ (And.intro ?_ (And.intro ?_ (And.intro ?_ (And.intro ?_ (And.intro ?_ (And.intro ?_ (And.intro ?_ (And.intro ?_ (And.intro ?_ (And.intro ?_ (And.intro ?_ (And.intro ?_ (And.intro ?_ (And.intro ?_ (And.intro ?_ (And.intro ?_ (And.intro ?_ (And.intro ?_ (And.intro ?_ (And.intro ?_ (And.intro ?_ (And.intro ?_ (And.intro ?_ (True.intro)))))))))))))))))))))))))))))))
        · refine qstep_val (.int .i64 0) (by kernel_rfl) (by kernel_rfl) rfl (fun _ A1 W1 inv hnl hall => ⟨wanted_none rfl, ?_, rfl⟩)
          have h16 : A1.eval (.tmp 16) = .int .i64 0 := (inv.base 16 (by kernel_rfl)).trans rfl
          simp only [execOp, h16, Sem.run_pure]
        · refine qstep_val (.bool false) (by kernel_rfl) (by kernel_rfl) rfl (fun _ A1 W1 inv hnl hall => ⟨wanted_none rfl, ?_, rfl⟩)
          have h78 : A1.eval (.tmp 78) = .int .i64 0 := inv.get hall 0 78 (by kernel_rfl) (by kernel_rfl) rfl
          simp only [execOp, h78, eval_c2]
          simp [go_sem]
        · refine qstep_val (.bool false) (by kernel_rfl) (by kernel_rfl) rfl (fun _ A1 W1 inv hnl hall => ⟨wanted_none rfl, ?_, rfl⟩)
          have h79 : A1.eval (.tmp 79) = .bool false := inv.get hall 1 79 (by kernel_rfl) (by kernel_rfl) rfl
          simp only [execOp, h79, Sem.run_pure]
        · refine qstep_val (.int .i64 0) (by kernel_rfl) (by kernel_rfl) rfl (fun _ A1 W1 inv hnl hall => ⟨wanted_some (g := 2) (d := 80) (b := false) rfl (by kernel_rfl) (inv.get hall 2 80 (by kernel_rfl) (by kernel_rfl) rfl), ?_, rfl⟩)
          have h18 : A1.eval (.tmp 18) = .int .i64 0 := (inv.base 18 (by kernel_rfl)).trans rfl
          simp only [execOp, h18, Sem.run_pure]
        · refine qstep_val (.bool false) (by kernel_rfl) (by kernel_rfl) rfl (fun _ A1 W1 inv hnl hall => ⟨wanted_some (g := 2) (d := 80) (b := false) rfl (by kernel_rfl) (inv.get hall 2 80 (by kernel_rfl) (by kernel_rfl) rfl), ?_, rfl⟩)
          have h81 : A1.eval (.tmp 81) = .int .i64 0 := inv.get hall 3 81 (by kernel_rfl) (by kernel_rfl) rfl
          simp only [execOp, h81, eval_c2]
          simp [go_sem]
        · refine qstep_val (.bool false) (by kernel_rfl) (by kernel_rfl) rfl (fun _ A1 W1 inv hnl hall => ⟨wanted_none rfl, ?_, rfl⟩)
          have h80 : A1.eval (.tmp 80) = .bool false := inv.get hall 2 80 (by kernel_rfl) (by kernel_rfl) rfl
          have h82 : A1.eval (.tmp 82) = .bool false := inv.get hall 4 82 (by kernel_rfl) (by kernel_rfl) rfl
          simp only [execOp, h80, h82]
          simp [asBool]
        · refine qstep_val (.bool false) (by kernel_rfl) (by kernel_rfl) rfl (fun _ A1 W1 inv hnl hall => ⟨wanted_none rfl, ?_, rfl⟩)
          have h83 : A1.eval (.tmp 83) = .bool false := inv.get hall 5 83 (by kernel_rfl) (by kernel_rfl) rfl
          simp only [execOp, h83, Sem.run_pure]
        · refine qstep_val (.int .i64 0) (by kernel_rfl) (by kernel_rfl) rfl (fun _ A1 W1 inv hnl hall => ⟨wanted_some (g := 6) (d := 84) (b := false) rfl (by kernel_rfl) (inv.get hall 6 84 (by kernel_rfl) (by kernel_rfl) rfl), ?_, rfl⟩)
          have h20 : A1.eval (.tmp 20) = .int .i64 0 := (inv.base 20 (by kernel_rfl)).trans rfl
          simp only [execOp, h20, Sem.run_pure]
        · refine qstep_val (.bool false) (by kernel_rfl) (by kernel_rfl) rfl (fun _ A1 W1 inv hnl hall => ⟨wanted_some (g := 6) (d := 84) (b := false) rfl (by kernel_rfl) (inv.get hall 6 84 (by kernel_rfl) (by kernel_rfl) rfl), ?_, rfl⟩)
          have h85 : A1.eval (.tmp 85) = .int .i64 0 := inv.get hall 7 85 (by kernel_rfl) (by kernel_rfl) rfl
          simp only [execOp, h85, eval_c2]
          simp [go_sem]
        · refine qstep_val (.bool false) (by kernel_rfl) (by kernel_rfl) rfl (fun _ A1 W1 inv hnl hall => ⟨wanted_none rfl, ?_, rfl⟩)
          have h84 : A1.eval (.tmp 84) = .bool false := inv.get hall 6 84 (by kernel_rfl) (by kernel_rfl) rfl
          have h86 : A1.eval (.tmp 86) = .bool false := inv.get hall 8 86 (by kernel_rfl) (by kernel_rfl) rfl
          simp only [execOp, h84, h86]
          simp [asBool]
        · refine qstep_val (.bool false) (by kernel_rfl) (by kernel_rfl) rfl (fun _ A1 W1 inv hnl hall => ⟨wanted_none rfl, ?_, rfl⟩)
          have h87 : A1.eval (.tmp 87) = .bool false := inv.get hall 9 87 (by kernel_rfl) (by kernel_rfl) rfl
          simp only [execOp, h87, Sem.run_pure]
        · refine qstep_val (.slice pa L.length pc) (by kernel_rfl) (by kernel_rfl) rfl (fun _ A1 W1 inv hnl hall => ⟨wanted_some (g := 10) (d := 88) (b := false) rfl (by kernel_rfl) (inv.get hall 10 88 (by kernel_rfl) (by kernel_rfl) rfl), ?_, rfl⟩)
          have h15 : A1.eval (.tmp 15) = .slice pa L.length pc := (inv.base 15 (by kernel_rfl)).trans rfl
          simp only [execOp, h15, Sem.run_pure]
        · refine qstep_val (.int .i64 (L.length : Int)) (by kernel_rfl) (by kernel_rfl) rfl (fun _ A1 W1 inv hnl hall => ⟨wanted_some (g := 10) (d := 88) (b := false) rfl (by kernel_rfl) (inv.get hall 10 88 (by kernel_rfl) (by kernel_rfl) rfl), ?_, rfl⟩)
          have h89 : A1.eval (.tmp 89) = .slice pa L.length pc := inv.get hall 11 89 (by kernel_rfl) (by kernel_rfl) rfl
          simp only [execOp]
          simp [resolve, invoke, builtin, h89, Result.andThen]
          simp [go_sem]
        · refine qstep_val (.slice ua L.length uc) (by kernel_rfl) (by kernel_rfl) rfl (fun _ A1 W1 inv hnl hall => ⟨wanted_some (g := 10) (d := 88) (b := false) rfl (by kernel_rfl) (inv.get hall 10 88 (by kernel_rfl) (by kernel_rfl) rfl), ?_, rfl⟩)
          have h6 : A1.eval (.tmp 6) = .pointer (some ⟨b6, 0, none⟩) := (inv.base 6 (by kernel_rfl)).trans rfl
          have gg := (X6.out.below inv.s).cell 0
          simp at gg
          simp only [execOp, h6]
          simp [go_sem, gg]
        · refine qstep_val (.int .i64 (L.length : Int)) (by kernel_rfl) (by kernel_rfl) rfl (fun _ A1 W1 inv hnl hall => ⟨wanted_some (g := 10) (d := 88) (b := false) rfl (by kernel_rfl) (inv.get hall 10 88 (by kernel_rfl) (by kernel_rfl) rfl), ?_, rfl⟩)
          have h91 : A1.eval (.tmp 91) = .slice ua L.length uc := inv.get hall 13 91 (by kernel_rfl) (by kernel_rfl) rfl
          simp only [execOp]
          simp [resolve, invoke, builtin, h91, Result.andThen]
          simp [go_sem]
        · refine qstep_val (.bool false) (by kernel_rfl) (by kernel_rfl) rfl (fun _ A1 W1 inv hnl hall => ⟨wanted_some (g := 10) (d := 88) (b := false) rfl (by kernel_rfl) (inv.get hall 10 88 (by kernel_rfl) (by kernel_rfl) rfl), ?_, rfl⟩)
          have h90 : A1.eval (.tmp 90) = .int .i64 (L.length : Int) := inv.get hall 12 90 (by kernel_rfl) (by kernel_rfl) rfl
          have h92 : A1.eval (.tmp 92) = .int .i64 (L.length : Int) := inv.get hall 14 92 (by kernel_rfl) (by kernel_rfl) rfl
          simp only [execOp, h90, h92]
          simp [go_sem]
        · refine qstep_val (.bool false) (by kernel_rfl) (by kernel_rfl) rfl (fun _ A1 W1 inv hnl hall => ⟨wanted_none rfl, ?_, rfl⟩)
          have h88 : A1.eval (.tmp 88) = .bool false := inv.get hall 10 88 (by kernel_rfl) (by kernel_rfl) rfl
          have h93 : A1.eval (.tmp 93) = .bool false := inv.get hall 15 93 (by kernel_rfl) (by kernel_rfl) rfl
          simp only [execOp, h88, h93]
          simp [asBool]
        · refine qstep_val (.bool false) (by kernel_rfl) (by kernel_rfl) rfl (fun _ A1 W1 inv hnl hall => ⟨wanted_none rfl, ?_, rfl⟩)
          have h94 : A1.eval (.tmp 94) = .bool false := inv.get hall 16 94 (by kernel_rfl) (by kernel_rfl) rfl
          simp only [execOp, h94, Sem.run_pure]
        · refine qstep_val (.slice da L.length dc) (by kernel_rfl) (by kernel_rfl) rfl (fun _ A1 W1 inv hnl hall => ⟨wanted_some (g := 17) (d := 95) (b := false) rfl (by kernel_rfl) (inv.get hall 17 95 (by kernel_rfl) (by kernel_rfl) rfl), ?_, rfl⟩)
          have h19 : A1.eval (.tmp 19) = .slice da L.length dc := (inv.base 19 (by kernel_rfl)).trans rfl
          simp only [execOp, h19, Sem.run_pure]
        · refine qstep_val (.int .i64 (L.length : Int)) (by kernel_rfl) (by kernel_rfl) rfl (fun _ A1 W1 inv hnl hall => ⟨wanted_some (g := 17) (d := 95) (b := false) rfl (by kernel_rfl) (inv.get hall 17 95 (by kernel_rfl) (by kernel_rfl) rfl), ?_, rfl⟩)
          have h96 : A1.eval (.tmp 96) = .slice da L.length dc := inv.get hall 18 96 (by kernel_rfl) (by kernel_rfl) rfl
          simp only [execOp]
          simp [resolve, invoke, builtin, h96, Result.andThen]
          simp [go_sem]
        · refine qstep_val (.slice ua L.length uc) (by kernel_rfl) (by kernel_rfl) rfl (fun _ A1 W1 inv hnl hall => ⟨wanted_some (g := 17) (d := 95) (b := false) rfl (by kernel_rfl) (inv.get hall 17 95 (by kernel_rfl) (by kernel_rfl) rfl), ?_, rfl⟩)
          have h6 : A1.eval (.tmp 6) = .pointer (some ⟨b6, 0, none⟩) := (inv.base 6 (by kernel_rfl)).trans rfl
          have gg := (X6.out.below inv.s).cell 0
          simp at gg
          simp only [execOp, h6]
          simp [go_sem, gg]
        · refine qstep_val (.int .i64 (L.length : Int)) (by kernel_rfl) (by kernel_rfl) rfl (fun _ A1 W1 inv hnl hall => ⟨wanted_some (g := 17) (d := 95) (b := false) rfl (by kernel_rfl) (inv.get hall 17 95 (by kernel_rfl) (by kernel_rfl) rfl), ?_, rfl⟩)
          have h98 : A1.eval (.tmp 98) = .slice ua L.length uc := inv.get hall 20 98 (by kernel_rfl) (by kernel_rfl) rfl
          simp only [execOp]
          simp [resolve, invoke, builtin, h98, Result.andThen]
          simp [go_sem]
        · refine qstep_val (.bool false) (by kernel_rfl) (by kernel_rfl) rfl (fun _ A1 W1 inv hnl hall => ⟨wanted_some (g := 17) (d := 95) (b := false) rfl (by kernel_rfl) (inv.get hall 17 95 (by kernel_rfl) (by kernel_rfl) rfl), ?_, rfl⟩)
          have h97 : A1.eval (.tmp 97) = .int .i64 (L.length : Int) := inv.get hall 19 97 (by kernel_rfl) (by kernel_rfl) rfl
          have h99 : A1.eval (.tmp 99) = .int .i64 (L.length : Int) := inv.get hall 21 99 (by kernel_rfl) (by kernel_rfl) rfl
          simp only [execOp, h97, h99]
          simp [go_sem]
        · refine qstep_val (.bool false) (by kernel_rfl) (by kernel_rfl) rfl (fun _ A1 W1 inv hnl hall => ⟨wanted_none rfl, ?_, rfl⟩)
          have h95 : A1.eval (.tmp 95) = .bool false := inv.get hall 17 95 (by kernel_rfl) (by kernel_rfl) rfl
          have h100 : A1.eval (.tmp 100) = .bool false := inv.get hall 22 100 (by kernel_rfl) (by kernel_rfl) rfl
          simp only [execOp, h95, h100]
          simp [asBool]
        · refine qstep_val (.bool false) (by kernel_rfl) (by kernel_rfl) rfl (fun _ A1 W1 inv hnl hall => ⟨wanted_none rfl, ?_, rfl⟩)
          have h101 : A1.eval (.tmp 101) = .bool false := inv.get hall 23 101 (by kernel_rfl) (by kernel_rfl) rfl
          simp only [execOp, h101, Sem.run_pure]
        · refine qstep_val (.slice ua L.length uc) (by kernel_rfl) (by kernel_rfl) rfl (fun _ A1 W1 inv hnl hall => ⟨wanted_some (g := 24) (d := 102) (b := false) rfl (by kernel_rfl) (inv.get hall 24 102 (by kernel_rfl) (by kernel_rfl) rfl), ?_, rfl⟩)
          have h6 : A1.eval (.tmp 6) = .pointer (some ⟨b6, 0, none⟩) := (inv.base 6 (by kernel_rfl)).trans rfl
          have gg := (X6.out.below inv.s).cell 0
          simp at gg
          simp only [execOp, h6]
          simp [go_sem, gg]
        · refine qstep_call 14 (by kernel_rfl) _ _ (by kernel_rfl) (by kernel_rfl) rfl rfl (fun _ A1 W1 inv hnl hall => ⟨wanted_some (g := 24) (d := 102) (b := false) rfl (by kernel_rfl) (inv.get hall 24 102 (by kernel_rfl) (by kernel_rfl) rfl), #[.slice ua L.length uc, .bool false], ?_, ?_⟩)
          · have h103 : A1.eval (.tmp 103) = .slice ua L.length uc := inv.get hall 25 103 (by kernel_rfl) (by kernel_rfl) rfl
            simp [h103, eval_c2]
          · refine (CNf.out _ (QS.out.below inv.s)).mono ?_
            rintro e u ⟨rfl, hb⟩
            exact ⟨_, rfl, rfl, hb⟩
        · refine qstep_val (.slice ua L.length uc) (by kernel_rfl) (by kernel_rfl) rfl (fun _ A1 W1 inv hnl hall => ⟨wanted_some (g := 24) (d := 102) (b := false) rfl (by kernel_rfl) (inv.get hall 24 102 (by kernel_rfl) (by kernel_rfl) rfl), ?_, rfl⟩)
          have h6 : A1.eval (.tmp 6) = .pointer (some ⟨b6, 0, none⟩) := (inv.base 6 (by kernel_rfl)).trans rfl
          have gg := (X6.out.below inv.s).cell 0
          simp at gg
          simp only [execOp, h6]
          simp [go_sem, gg]
        · refine qstep_val (.int .i64 (L.length : Int)) (by kernel_rfl) (by kernel_rfl) rfl (fun _ A1 W1 inv hnl hall => ⟨wanted_some (g := 24) (d := 102) (b := false) rfl (by kernel_rfl) (inv.get hall 24 102 (by kernel_rfl) (by kernel_rfl) rfl), ?_, rfl⟩)
          have h105 : A1.eval (.tmp 105) = .slice ua L.length uc := inv.get hall 27 105 (by kernel_rfl) (by kernel_rfl) rfl
          simp only [execOp]
          simp [resolve, invoke, builtin, h105, Result.andThen]
          simp [go_sem]
        · refine qstep_val (.bool false) (by kernel_rfl) (by kernel_rfl) rfl (fun _ A1 W1 inv hnl hall => ⟨wanted_some (g := 24) (d := 102) (b := false) rfl (by kernel_rfl) (inv.get hall 24 102 (by kernel_rfl) (by kernel_rfl) rfl), ?_, rfl⟩)
          have h104 : A1.eval (.tmp 104) = .int .i64 (L.length : Int) := inv.get hall 26 104 (by kernel_rfl) (by kernel_rfl) rfl
          have h106 : A1.eval (.tmp 106) = .int .i64 (L.length : Int) := inv.get hall 28 106 (by kernel_rfl) (by kernel_rfl) rfl
          simp only [execOp, h104, h106]
          simp [go_sem]
        · refine qstep_val (.bool false) (by kernel_rfl) (by kernel_rfl) rfl (fun _ A1 W1 inv hnl hall => ⟨wanted_none rfl, ?_, rfl⟩)
          have h102 : A1.eval (.tmp 102) = .bool false := inv.get hall 24 102 (by kernel_rfl) (by kernel_rfl) rfl
          have h107 : A1.eval (.tmp 107) = .bool false := inv.get hall 29 107 (by kernel_rfl) (by kernel_rfl) rfl
          simp only [execOp, h102, h107]
          simp [asBool]
      · intro listed A1 W1 inv hall
        have e78 : A1.eval (.tmp 78) = .int .i64 0 := inv.fin 0 78 (by kernel_rfl) (hall 0 (Nat.lt_of_lt_of_eq (by decide : 0 < 31) (by kernel_rfl))) rfl
        have e79 : A1.eval (.tmp 79) = .bool false := inv.fin 1 79 (by kernel_rfl) (hall 1 (Nat.lt_of_lt_of_eq (by decide : 1 < 31) (by kernel_rfl))) rfl
        have e80 : A1.eval (.tmp 80) = .bool false := inv.fin 2 80 (by kernel_rfl) (hall 2 (Nat.lt_of_lt_of_eq (by decide : 2 < 31) (by kernel_rfl))) rfl
        have e81 : A1.eval (.tmp 81) = .int .i64 0 := inv.fin 3 81 (by kernel_rfl) (hall 3 (Nat.lt_of_lt_of_eq (by decide : 3 < 31) (by kernel_rfl))) rfl
        have e82 : A1.eval (.tmp 82) = .bool false := inv.fin 4 82 (by kernel_rfl) (hall 4 (Nat.lt_of_lt_of_eq (by decide : 4 < 31) (by kernel_rfl))) rfl
        have e83 : A1.eval (.tmp 83) = .bool false := inv.fin 5 83 (by kernel_rfl) (hall 5 (Nat.lt_of_lt_of_eq (by decide : 5 < 31) (by kernel_rfl))) rfl
        have e84 : A1.eval (.tmp 84) = .bool false := inv.fin 6 84 (by kernel_rfl) (hall 6 (Nat.lt_of_lt_of_eq (by decide : 6 < 31) (by kernel_rfl))) rfl
        have e85 : A1.eval (.tmp 85) = .int .i64 0 := inv.fin 7 85 (by kernel_rfl) (hall 7 (Nat.lt_of_lt_of_eq (by decide : 7 < 31) (by kernel_rfl))) rfl
        have e86 : A1.eval (.tmp 86) = .bool false := inv.fin 8 86 (by kernel_rfl) (hall 8 (Nat.lt_of_lt_of_eq (by decide : 8 < 31) (by kernel_rfl))) rfl
        have e87 : A1.eval (.tmp 87) = .bool false := inv.fin 9 87 (by kernel_rfl) (hall 9 (Nat.lt_of_lt_of_eq (by decide : 9 < 31) (by kernel_rfl))) rfl
        have e88 : A1.eval (.tmp 88) = .bool false := inv.fin 10 88 (by kernel_rfl) (hall 10 (Nat.lt_of_lt_of_eq (by decide : 10 < 31) (by kernel_rfl))) rfl
        have e89 : A1.eval (.tmp 89) = .slice pa L.length pc := inv.fin 11 89 (by kernel_rfl) (hall 11 (Nat.lt_of_lt_of_eq (by decide : 11 < 31) (by kernel_rfl))) rfl
        have e90 : A1.eval (.tmp 90) = .int .i64 (L.length : Int) := inv.fin 12 90 (by kernel_rfl) (hall 12 (Nat.lt_of_lt_of_eq (by decide : 12 < 31) (by kernel_rfl))) rfl
        have e91 : A1.eval (.tmp 91) = .slice ua L.length uc := inv.fin 13 91 (by kernel_rfl) (hall 13 (Nat.lt_of_lt_of_eq (by decide : 13 < 31) (by kernel_rfl))) rfl
        have e92 : A1.eval (.tmp 92) = .int .i64 (L.length : Int) := inv.fin 14 92 (by kernel_rfl) (hall 14 (Nat.lt_of_lt_of_eq (by decide : 14 < 31) (by kernel_rfl))) rfl
        have e93 : A1.eval (.tmp 93) = .bool false := inv.fin 15 93 (by kernel_rfl) (hall 15 (Nat.lt_of_lt_of_eq (by decide : 15 < 31) (by kernel_rfl))) rfl
        have e94 : A1.eval (.tmp 94) = .bool false := inv.fin 16 94 (by kernel_rfl) (hall 16 (Nat.lt_of_lt_of_eq (by decide : 16 < 31) (by kernel_rfl))) rfl
        have e95 : A1.eval (.tmp 95) = .bool false := inv.fin 17 95 (by kernel_rfl) (hall 17 (Nat.lt_of_lt_of_eq (by decide : 17 < 31) (by kernel_rfl))) rfl
        have e96 : A1.eval (.tmp 96) = .slice da L.length dc := inv.fin 18 96 (by kernel_rfl) (hall 18 (Nat.lt_of_lt_of_eq (by decide : 18 < 31) (by kernel_rfl))) rfl
        have e97 : A1.eval (.tmp 97) = .int .i64 (L.length : Int) := inv.fin 19 97 (by kernel_rfl) (hall 19 (Nat.lt_of_lt_of_eq (by decide : 19 < 31) (by kernel_rfl))) rfl
        have e98 : A1.eval (.tmp 98) = .slice ua L.length uc := inv.fin 20 98 (by kernel_rfl) (hall 20 (Nat.lt_of_lt_of_eq (by decide : 20 < 31) (by kernel_rfl))) rfl
        have e99 : A1.eval (.tmp 99) = .int .i64 (L.length : Int) := inv.fin 21 99 (by kernel_rfl) (hall 21 (Nat.lt_of_lt_of_eq (by decide : 21 < 31) (by kernel_rfl))) rfl
        have e100 : A1.eval (.tmp 100) = .bool false := inv.fin 22 100 (by kernel_rfl) (hall 22 (Nat.lt_of_lt_of_eq (by decide : 22 < 31) (by kernel_rfl))) rfl
        have e101 : A1.eval (.tmp 101) = .bool false := inv.fin 23 101 (by kernel_rfl) (hall 23 (Nat.lt_of_lt_of_eq (by decide : 23 < 31) (by kernel_rfl))) rfl
        have e102 : A1.eval (.tmp 102) = .bool false := inv.fin 24 102 (by kernel_rfl) (hall 24 (Nat.lt_of_lt_of_eq (by decide : 24 < 31) (by kernel_rfl))) rfl
        have e103 : A1.eval (.tmp 103) = .slice ua L.length uc := inv.fin 25 103 (by kernel_rfl) (hall 25 (Nat.lt_of_lt_of_eq (by decide : 25 < 31) (by kernel_rfl))) rfl
        have e104 : A1.eval (.tmp 104) = .int .i64 (L.length : Int) := inv.fin 26 104 (by kernel_rfl) (hall 26 (Nat.lt_of_lt_of_eq (by decide : 26 < 31) (by kernel_rfl))) rfl
        have e105 : A1.eval (.tmp 105) = .slice ua L.length uc := inv.fin 27 105 (by kernel_rfl) (hall 27 (Nat.lt_of_lt_of_eq (by decide : 27 < 31) (by kernel_rfl))) rfl
        have e106 : A1.eval (.tmp 106) = .int .i64 (L.length : Int) := inv.fin 28 106 (by kernel_rfl) (hall 28 (Nat.lt_of_lt_of_eq (by decide : 28 < 31) (by kernel_rfl))) rfl
        have e107 : A1.eval (.tmp 107) = .bool false := inv.fin 29 107 (by kernel_rfl) (hall 29 (Nat.lt_of_lt_of_eq (by decide : 29 < 31) (by kernel_rfl))) rfl
        have e108 : A1.eval (.tmp 108) = .bool false := inv.fin 30 108 (by kernel_rfl) (hall 30 (Nat.lt_of_lt_of_eq (by decide : 30 < 31) (by kernel_rfl))) rfl
        have HF := inv.frame hall
        have HS9 := hid_mk inv.s
        simp only [putEnd, e78, e79, e80, e81, e82, e83, e84, e85, e86, e87, e88, e89, e90, e91, e92, e93, e94, e95, e96, e97, e98, e99, e100, e101, e102, e103, e104, e105, e106, e107, e108, Act.put, List.setIfInBounds_toArray, List.set_cons_succ, List.set_cons_zero] at HF
        clear e78 e79 e80 e81 e82 e83 e84 e85 e86 e87 e88 e89 e90 e91 e92 e93 e94 e95 e96 e97 e98 e99 e100 e101 e102 e103 e104 e105 e106 e107 e108 inv hall
        subst HF
        replace QS := hid_mk (QS.out.below HS9.out)
        replace QI := hid_mk (QI.out.below HS9.out)
        replace X6 := hid_mk (X6.out.below HS9.out)
        replace QP := hid_mk (QP.out.below HS9.out)
        replace QD := hid_mk (QD.out.below HS9.out)
        replace HB := hid_mk (below_then HB.out HS9.out)
        clear HS9
        obtain ⟨l6, c6, _⟩ := X6.out.one
        go_wp2_with fail
        clear l6 c6
        have HLen := hid_mk hl64
        go_loopw [22, 23] (fun i _ wr => ∃ k : Nat, k ≤ L.length ∧ i = .int .i64 k ∧ Hid (Below W1.heap.size W1 wr)) (fun i _ _ => L.length - (intOf i).toNat)
        case atStart => exact ⟨0, Nat.zero_le _, rfl, hid_mk (Below.refl _ _)⟩
        case round =>
          obtain ⟨k, hk, rfl, hbel⟩ := hrel
          obtain ⟨l6, c6, _⟩ := (X6.out.below hbel.out).one
          by_cases hlt : k < L.length
          · obtain ⟨b2, o2, rfl, lb2, sc⟩ := tell_s (QS.out.below hbel.out) hlt
            obtain ⟨g1, o1, rfl, lg1, pc⟩ := tell_p (QP.out.below hbel.out) (by rw [splL_len]; exact hlt)
            obtain ⟨g2, o3, rfl, lg2, dc⟩ := tell_d (QD.out.below hbel.out) (by rw [stbL_len]; exact hlt)
            obtain ⟨g3, o4, rfl, lg3, ic⟩ := tell_i (k := k) (QI.out.below hbel.out) (by rw [idI_len]; exact hlt)
            rw [idI_len] at ic
            rw [splL_at hlt] at pc
            rw [stbL_at hlt] at dc
            obtain ⟨s0, s1, s2⟩ := sc
            obtain ⟨p0, p1, p2, p3, p4⟩ := pc
            obtain ⟨d0, d1, d2, d3⟩ := dc
            have i0 := ic k hlt
            rw [idI_at hlt] at i0
            unfold splD at p0 p1 p2 p3 p4 d0 d1 d2 d3
            rw [idI_at hlt] at p0
            have hki : (k : Int) < (L.length : Int) := by omega
            have hFl := flOk_plain (sat L k).t (nxB L k)
            have hFlt := flgN_lt (sat L k).t (nxB L k)
            have hnb : nxB L k = decide (k + 1 < L.length) := rfl
            by_cases hnx : k + 1 < L.length
            · have i1 := ic (k + 1) hnx
              rw [idI_at hnx] at i1 p4
              rw [numI_at hnx] at d3
              rw [show nxB L k = true from decide_eq_true hnx, if_pos rfl] at p4 d3
              as_aux_lemma =>
              obtain ⟨pn, hpn⟩ : ∃ pn : Nat, q + 5 * (k + 1) = pn := ⟨_, rfl⟩
              rw [hpn] at i1 p4
              have hpb : (pn : Int) < 65536 := by omega
              rw [show ((k + 1 : Nat) : Int) = (k : Int) + 1 by omega] at d3
              clear hpn
              obtain ⟨xn, hxn⟩ : ∃ xn : Nat, q + 5 * k = xn := ⟨_, rfl⟩
              rw [hxn] at i0 p0
              clear hxn
              generalize hF : flgN (sat L k).t (nxB L k) = F at *
              generalize (sat L k).a = sa at *
              generalize (sat L k).n = sn at *
              generalize (sat L k).t = st at *
              obtain ⟨U1, hU1⟩ : ∃ U1, U1 = wr.alloc (.cells #[.int .u64 sa, .int .u32 sn, .int .u16 (F : Int), .int .u16 (pn : Int)] 38) := ⟨_, rfl⟩
              have HX := hid_mk (blk_new wr [.int .u64 sa, .int .u32 sn, .int .u16 (F : Int), .int .u16 (pn : Int)] 38)
              have hbx := below_box wr (.cells #[.int .u64 sa, .int .u32 sn, .int .u16 (F : Int), .int .u16 (pn : Int)] 38)
              rw [← hU1] at HX hbx
              go_wp2_with fail
              rw [← hU1]
              replace c6 := (hbx.cell (p := ⟨b6, _, none⟩) l6).trans c6
              replace l6 := Nat.lt_of_lt_of_le l6 hbx.size
              replace s0 := (hbx.cell (p := ⟨b2, _, none⟩) lb2).trans s0
              replace s1 := (hbx.cell (p := ⟨b2, _, none⟩) lb2).trans s1
              replace s2 := (hbx.cell (p := ⟨b2, _, none⟩) lb2).trans s2
              replace lb2 := Nat.lt_of_lt_of_le lb2 hbx.size
              replace p0 := (hbx.cell (p := ⟨g1, _, none⟩) lg1).trans p0
              replace p1 := (hbx.cell (p := ⟨g1, _, none⟩) lg1).trans p1
              replace p2 := (hbx.cell (p := ⟨g1, _, none⟩) lg1).trans p2
              replace p3 := (hbx.cell (p := ⟨g1, _, none⟩) lg1).trans p3
              replace p4 := (hbx.cell (p := ⟨g1, _, none⟩) lg1).trans p4
              replace lg1 := Nat.lt_of_lt_of_le lg1 hbx.size
              replace d0 := (hbx.cell (p := ⟨g2, _, none⟩) lg2).trans d0
              replace d1 := (hbx.cell (p := ⟨g2, _, none⟩) lg2).trans d1
              replace d2 := (hbx.cell (p := ⟨g2, _, none⟩) lg2).trans d2
              replace d3 := (hbx.cell (p := ⟨g2, _, none⟩) lg2).trans d3
              replace lg2 := Nat.lt_of_lt_of_le lg2 hbx.size
              replace i0 := (hbx.cell (p := ⟨g3, _, none⟩) lg3).trans i0
              replace i1 := (hbx.cell (p := ⟨g3, _, none⟩) lg3).trans i1
              replace lg3 := Nat.lt_of_lt_of_le lg3 hbx.size
              obtain ⟨db, hdb⟩ : ∃ db, wr.heap.size = db := ⟨_, rfl⟩
              rw [hdb] at HX ⊢
              obtain ⟨lx, x0, x1, x2, x3, _⟩ := blk4 HX.out
              have HQ := hid_mk (fun z : Nat => (lflags k L.length F st (nxB L k) b6 b2 o2 uc (U1.drewN z) c6 s2 hlt HLen.out hnb hFl).mono (R' := fun e w' => e = .returned (.bool true) ∧ ∃ m, w' = (U1.drewN z).drewN m) (fun e w' h => ⟨h.1, 0, h.2⟩))
              have HB2 := hid_mk (below_then hbel.out hbx)
              clear hbx hbel hFl hnb ic hU1 hdb HX
              have hni : (k : Int) + 1 < (L.length : Int) := by omega
              have hwk : IntKind.i64.wrap ((k : Int) + 1) = (k : Int) + 1 := IntWalk.i64_in _ (by omega)
              have hwp : IntKind.i64.wrap (pn : Int) = (pn : Int) := IntWalk.i64_in _ (by omega)
              have hk0 : (0 : Int) ≤ (k : Int) + 1 := by omega
              have hkn : ((k : Int) + 1).toNat = k + 1 := by omega
              have hnl : ((k : Int) + 1 == (L.length : Int)) = false := beq_false_of_ne (by omega)
              go_quiet (exact Calls.quiet_of (HQ.out _))
              go_wp2_with fail
              go_quiet (fail)
              go_wp2_with fail
              go_roundw
              case rel => exact ⟨k + 1, by omega, by first | (simp; done) | (simp; omega), hid_mk (below_dn HB2.out _)⟩
              case measure => simp [intOf]; omega
            · rw [show nxB L k = false from decide_eq_false hnx, if_neg (by decide)] at p4 d3
              as_aux_lemma =>
              obtain ⟨xn, hxn⟩ : ∃ xn : Nat, q + 5 * k = xn := ⟨_, rfl⟩
              rw [hxn] at i0 p0
              clear hxn
              generalize hF : flgN (sat L k).t (nxB L k) = F at *
              generalize (sat L k).a = sa at *
              generalize (sat L k).n = sn at *
              generalize (sat L k).t = st at *
              obtain ⟨U1, hU1⟩ : ∃ U1, U1 = wr.alloc (.cells #[.int .u64 sa, .int .u32 sn, .int .u16 (F : Int), .int .u16 0] 38) := ⟨_, rfl⟩
              have HX := hid_mk (blk_new wr [.int .u64 sa, .int .u32 sn, .int .u16 (F : Int), .int .u16 0] 38)
              have hbx := below_box wr (.cells #[.int .u64 sa, .int .u32 sn, .int .u16 (F : Int), .int .u16 0] 38)
              rw [← hU1] at HX hbx
              go_wp2_with fail
              rw [← hU1]
              replace c6 := (hbx.cell (p := ⟨b6, _, none⟩) l6).trans c6
              replace l6 := Nat.lt_of_lt_of_le l6 hbx.size
              replace s0 := (hbx.cell (p := ⟨b2, _, none⟩) lb2).trans s0
              replace s1 := (hbx.cell (p := ⟨b2, _, none⟩) lb2).trans s1
              replace s2 := (hbx.cell (p := ⟨b2, _, none⟩) lb2).trans s2
              replace lb2 := Nat.lt_of_lt_of_le lb2 hbx.size
              replace p0 := (hbx.cell (p := ⟨g1, _, none⟩) lg1).trans p0
              replace p1 := (hbx.cell (p := ⟨g1, _, none⟩) lg1).trans p1
              replace p2 := (hbx.cell (p := ⟨g1, _, none⟩) lg1).trans p2
              replace p3 := (hbx.cell (p := ⟨g1, _, none⟩) lg1).trans p3
              replace p4 := (hbx.cell (p := ⟨g1, _, none⟩) lg1).trans p4
              replace lg1 := Nat.lt_of_lt_of_le lg1 hbx.size
              replace d0 := (hbx.cell (p := ⟨g2, _, none⟩) lg2).trans d0
              replace d1 := (hbx.cell (p := ⟨g2, _, none⟩) lg2).trans d1
              replace d2 := (hbx.cell (p := ⟨g2, _, none⟩) lg2).trans d2
              replace d3 := (hbx.cell (p := ⟨g2, _, none⟩) lg2).trans d3
              replace lg2 := Nat.lt_of_lt_of_le lg2 hbx.size
              replace i0 := (hbx.cell (p := ⟨g3, _, none⟩) lg3).trans i0
              replace lg3 := Nat.lt_of_lt_of_le lg3 hbx.size
              obtain ⟨db, hdb⟩ : ∃ db, wr.heap.size = db := ⟨_, rfl⟩
              rw [hdb] at HX ⊢
              obtain ⟨lx, x0, x1, x2, x3, _⟩ := blk4 HX.out
              have HQ := hid_mk (fun z : Nat => (lflags k L.length F st (nxB L k) b6 b2 o2 uc (U1.drewN z) c6 s2 hlt HLen.out hnb hFl).mono (R' := fun e w' => e = .returned (.bool true) ∧ ∃ m, w' = (U1.drewN z).drewN m) (fun e w' h => ⟨h.1, 0, h.2⟩))
              have HB2 := hid_mk (below_then hbel.out hbx)
              clear hbx hbel hFl hnb ic hU1 hdb HX
              have hni : (k : Int) + 1 = (L.length : Int) := by omega
              have hnd : decide ((k : Int) + 1 < (L.length : Int)) = false := decide_eq_false (by omega)
              have hwk : IntKind.i64.wrap ((k : Int) + 1) = (k : Int) + 1 := IntWalk.i64_in _ (by omega)
              go_quiet (exact Calls.quiet_of (HQ.out _))
              go_wp2_with fail
              go_quiet (fail)
              go_wp2_with fail
              go_roundw
              case rel => exact ⟨k + 1, by omega, by first | (simp; done) | (simp; omega), hid_mk (below_dn HB2.out _)⟩
              case measure => simp [intOf]; omega
          · as_aux_lemma =>
            obtain rfl : k = L.length := by omega
            clear QI QP QD CS CT RT CNf
            replace QS := hid_mk (QS.out.below hbel.out)
            replace X6 := hid_mk (X6.out.below hbel.out)
            replace HB := hid_mk (below_then HB.out hbel.out)
            clear hbel hlt hk l6 c6
            obtain ⟨l6, c6, _⟩ := X6.out.one
            go_wp2_with fail
            refine (HP3.out _).mono ?_
            rintro e w31 ⟨rfl, hs2⟩
            clear l6 c6
            have hb : Below wr.heap.size wr w31 := by
              rw [hs2]
              exact Below.refl _ _
            clear hs2
            replace QS := hid_mk (QS.out.below hb)
            replace X6 := hid_mk (X6.out.below hb)
            replace HB := hid_mk (below_then HB.out hb)
            clear hb
            have hbx := below_box w31 (.cells #[.int .i64 at_, .bool wrap] 33)
            replace QS := hid_mk (QS.out.below hbx)
            replace X6 := hid_mk (X6.out.below hbx)
            replace HB := hid_mk (below_then HB.out hbx)
            have XP := hid_mk (blk_new w31 [.int .i64 at_, .bool wrap] 33)
            clear hbx
            go_wp2_with fail
            refine (HP2.out _).mono ?_
            rintro e w32 ⟨rfl, hs2⟩
            have hb : Below (w31.alloc (.cells #[.int .i64 at_, .bool wrap] 33)).heap.size (w31.alloc (.cells #[.int .i64 at_, .bool wrap] 33)) w32 := by
              rw [hs2]
              exact Below.refl _ _
            clear hs2
            replace QS := hid_mk (QS.out.below hb)
            replace X6 := hid_mk (X6.out.below hb)
            replace XP := hid_mk (XP.out.below hb)
            replace HB := hid_mk (below_then HB.out hb)
            clear hb
            obtain ⟨l6, c6, _⟩ := X6.out.one
            obtain ⟨lp, p0, p1, _⟩ := XP.out.two
            go_wp2_with fail
            refine (CK.out _ QS.out).mono ?_
            clear l6 c6 lp p0 p1
            rintro e w33 ⟨kv, rfl, hq, hb⟩
            replace QS := hid_mk (QS.out.below hb)
            replace X6 := hid_mk (X6.out.below hb)
            replace XP := hid_mk (XP.out.below hb)
            replace HB := hid_mk (below_then HB.out hb)
            have QK := hid_mk (hq)
            clear hb hq
            obtain ⟨ka, kc, hkv⟩ := QK.out.len
            rw [pckL_len] at hkv
            subst hkv
            obtain ⟨l6, c6, _⟩ := X6.out.one
            go_wp2_with fail
            refine (CU.out _ QS.out).mono ?_
            clear l6 c6
            rintro e w34 ⟨bv, rfl, hq, hb⟩
            replace QS := hid_mk (QS.out.below hb)
            replace X6 := hid_mk (X6.out.below hb)
            replace XP := hid_mk (XP.out.below hb)
            replace QK := hid_mk (QK.out.below hb)
            replace HB := hid_mk (below_then HB.out hb)
            have QB := hid_mk (hq.at)
            clear hb hq
            obtain ⟨ba, bc, hbv⟩ := QB.out.lenB
            rw [HPl.out] at hbv
            subst hbv
            obtain ⟨l6, c6, _⟩ := X6.out.one
            go_wp2_with fail
            clear l6 c6
            go_loopw [27, 28, 29, 30, 31, 32] (fun i _ _ _ _ _ wr => ∃ k : Nat, k ≤ L.length ∧ i = .int .i64 k ∧ Hid (Below w34.heap.size w34 wr)) (fun i _ _ _ _ _ _ => L.length - (intOf i).toNat)
            case atStart => exact ⟨0, Nat.zero_le _, rfl, hid_mk (Below.refl _ _)⟩
            case round =>
              obtain ⟨k, hk, rfl, hbel⟩ := hrel
              obtain ⟨l6, c6, _⟩ := (X6.out.below hbel.out).one
              obtain ⟨lp, q0, q1, _⟩ := (XP.out.below hbel.out).two
              by_cases hlt : k < L.length
              · obtain ⟨b2, o2, rfl, lb2, sc⟩ := tell_s (QS.out.below hbel.out) hlt
                obtain ⟨g1, o1, rfl, lg1, pc⟩ := tell_p (QK.out.below hbel.out) (by rw [pckL_len]; exact hlt)
                rw [pckL_at hlt] at pc
                obtain ⟨s0, s1, s2⟩ := sc
                obtain ⟨y0, y1, y2, y3, y4⟩ := pc
                unfold pckD at y0 y1 y2 y3 y4
                have hki : (k : Int) < (L.length : Int) := by omega
                have hFl := flOk_mark (sat L k).t (nxB L k) (goW at_ k (64 + (r : Int)) wrap)
                have hOw := own_flg (sat L k).t (nxB L k) (goW at_ k (64 + (r : Int)) wrap)
                have hMt := markN_lt (flgN (sat L k).t (nxB L k)) (goW at_ k (64 + (r : Int)) wrap) false
                have hnb : nxB L k = decide (k + 1 < L.length) := rfl
                have hmod := go_mod (a := at_) (k := k) (n := 64 + r) (by omega) (by omega)
                rw [show ((64 + r : Nat) : Int) = 64 + (r : Int) by omega] at hmod
                have hidw : IntKind.i64.wrap (id : Int) = (id : Int) := IntWalk.i64_in _ (by omega)
                obtain ⟨hpb1, hpb2, _, hpb3⟩ := HPb.out k hlt
                obtain ⟨v1, hslc, hby⟩ := sliceMidB (QB.out.below hbel.out) HPl.out (16 * k) 16 (by decide) (by omega)
                rw [hpb1] at hby
                unfold ptbD at hpb3 hby
                obtain ⟨M, hM⟩ : ∃ M, markN (flgN (sat L k).t (nxB L k)) (goW at_ k (64 + (r : Int)) wrap) false = M := ⟨_, rfl⟩
                rw [hM] at hFl hOw hMt y4
                obtain ⟨ga, hga⟩ : ∃ ga, goA (at_ : Int) (k : Int) (64 + (r : Int)) = ga := ⟨_, rfl⟩
                rw [hga] at hmod y0
                generalize (sat L k).a = sa at *
                generalize (sat L k).n = sn at *
                generalize (sat L k).t = st at *
                obtain ⟨U3, hU3⟩ : ∃ U3, U3 = wr.alloc (.cells #[.int .u64 sa, .int .u32 sn, .int .u16 (id : Int), .int .u16 (M : Int)] 44) := ⟨_, rfl⟩
                have HX := hid_mk (blk_new wr [.int .u64 sa, .int .u32 sn, .int .u16 (id : Int), .int .u16 (M : Int)] 44)
                have hbx := below_box wr (.cells #[.int .u64 sa, .int .u32 sn, .int .u16 (id : Int), .int .u16 (M : Int)] 44)
                rw [← hU3] at HX hbx
                go_wp2_with fail
                rw [← hU3]
                replace c6 := (hbx.cell (p := ⟨b6, _, none⟩) l6).trans c6
                replace l6 := Nat.lt_of_lt_of_le l6 hbx.size
                replace s0 := (hbx.cell (p := ⟨b2, _, none⟩) lb2).trans s0
                replace s1 := (hbx.cell (p := ⟨b2, _, none⟩) lb2).trans s1
                replace s2 := (hbx.cell (p := ⟨b2, _, none⟩) lb2).trans s2
                replace lb2 := Nat.lt_of_lt_of_le lb2 hbx.size
                replace y0 := (hbx.cell (p := ⟨g1, _, none⟩) lg1).trans y0
                replace y1 := (hbx.cell (p := ⟨g1, _, none⟩) lg1).trans y1
                replace y2 := (hbx.cell (p := ⟨g1, _, none⟩) lg1).trans y2
                replace y3 := (hbx.cell (p := ⟨g1, _, none⟩) lg1).trans y3
                replace y4 := (hbx.cell (p := ⟨g1, _, none⟩) lg1).trans y4
                replace lg1 := Nat.lt_of_lt_of_le lg1 hbx.size
                replace q0 := (hbx.cell (p := ⟨_, 0, none⟩) lp).trans q0
                replace q1 := (hbx.cell (p := ⟨_, 1, none⟩) lp).trans q1
                replace lp := Nat.lt_of_lt_of_le lp hbx.size
                replace hby := hby.below hbx
                have HBY := hid_mk hby
                have HSL := hid_mk hslc
                have HPB := hid_mk hpb3
                obtain ⟨db, hdb⟩ : ∃ db, wr.heap.size = db := ⟨_, rfl⟩
                rw [hdb] at HX ⊢
                obtain ⟨lx, x0, x1, x2, x3, _⟩ := blk4 HX.out
                have HQ := hid_mk (fun z : Nat => (lflags k L.length M st (nxB L k) b6 b2 o2 uc (U3.drewN z) c6 s2 hlt HLen.out hnb hFl).mono (R' := fun e w' => e = .returned (.bool true) ∧ ∃ m, w' = (U3.drewN z).drewN m) (fun e w' h => ⟨h.1, 0, h.2⟩))
                have HB3 := hid_mk (below_then hbel.out hbx)
                have hni : (L.length : Int) ≤ 64 := by omega
                by_cases hc : (at_ : Int) + (k : Int) < 64 + (r : Int)
                · rw [show goW (at_ : Int) (k : Int) (64 + (r : Int)) wrap = wrap from by unfold goW; rw [if_pos hc]] at hOw
                  have hcd : decide (64 + (r : Int) ≤ (at_ : Int) + (k : Int)) = false := decide_eq_false (by omega)
                  have HA := hid_mk (fun z : Nat => (ravail_any M wrap (U3.drewN z) hMt).mono (R' := fun e w' => e = .returned (.bool true) ∧ ∃ m, w' = (U3.drewN z).drewN m) (fun e w' h => ⟨by rw [h.1, hOw, decide_eq_true rfl], 0, h.2.symm⟩))
                  clear hbx hby hslc hpb1 hpb2 hpb3 hFl hOw hnb hU3 hdb HX hbel hM hga
                  as_aux_lemma =>
                  have hsl2 : ∀ u, (Instr.sliceAt 49 (.slice ba (16 * L.length) bc) (some (.int .i64 (16 * (k : Int)))) (some (.int .i64 (16 * (k : Int) + 16))) none).run Try.prog u = .ok v1 u := fun u => by
                    have h := HSL.out u
                    rw [show ((16 * k : Nat) : Int) = 16 * (k : Int) by omega] at h
                    exact h
                  have h16 : (L.length : Int) ≤ 64 := by omega
                  go_quiet (first | (with_reducible exact Calls.quiet_of (HQ.out _)) | (with_reducible exact Calls.quiet_of (HA.out _)))
                  go_wp2_with fail
                  refine (rpread_any v1 _ _ (HBY.out.below (below_drewN _ _)) (dB_bytes _) (by rw [dB_length]; decide)).mono ?_
                  rw [HPB.out, (rd_yes (dB_length _)).2]
                  rintro e u4 ⟨rfl, hb⟩
                  replace hb := below_then (below_drewN _ _) hb
                  clear HQ HA HBY HSL HPB hsl2 q0 q1 lp x0 x1 x2 x3 lx y0 y1 y2 y3 y4 lg1 hmod
                  cases st
                  · as_aux_lemma =>
                    rw [show ((flgN false false : Nat) : Int) = 0 from rfl]
                    have hbx := below_box u4 (.cells #[.int .u64 sa, .int .u32 sn, .int .u16 0, .int .u16 0] 44)
                    have HX := hid_mk (blk_new u4 [.int .u64 sa, .int .u32 sn, .int .u16 0, .int .u16 0] 44)
                    have HB5 := hid_mk (below_then (below_then HB3.out hb) hbx)
                    replace c6 := ((hbx.cell (p := ⟨b6, _, none⟩) (Nat.lt_of_lt_of_le l6 hb.size)).trans (hb.cell (p := ⟨b6, _, none⟩) l6)).trans c6
                    replace l6 := Nat.lt_of_lt_of_le l6 (Nat.le_trans hb.size hbx.size)
                    replace s0 := ((hbx.cell (p := ⟨b2, _, none⟩) (Nat.lt_of_lt_of_le lb2 hb.size)).trans (hb.cell (p := ⟨b2, _, none⟩) lb2)).trans s0
                    replace s1 := ((hbx.cell (p := ⟨b2, _, none⟩) (Nat.lt_of_lt_of_le lb2 hb.size)).trans (hb.cell (p := ⟨b2, _, none⟩) lb2)).trans s1
                    replace s2 := ((hbx.cell (p := ⟨b2, _, none⟩) (Nat.lt_of_lt_of_le lb2 hb.size)).trans (hb.cell (p := ⟨b2, _, none⟩) lb2)).trans s2
                    replace lb2 := Nat.lt_of_lt_of_le lb2 (Nat.le_trans hb.size hbx.size)
                    obtain ⟨lx, x0, x1, x2, x3, _⟩ := blk4 HX.out
                    have hq : ∀ z : World, (binOp .neq 44 (dV ⟨sa, sn, 0, 0⟩) (dV ⟨sa, sn, 0, 0⟩)).run Try.prog z = .ok (.bool false) z := fun z => neqPd _ z
                    clear hb hbx HX HB3
                    go_wp2_with fail
                    go_quiet (fail)
                    go_wp2_with fail
                    go_roundw
                    case rel => exact ⟨k + 1, by omega, by first | (simp; done) | (simp; omega), hid_mk (below_dn HB5.out _)⟩
                    case measure => simp [intOf]; omega
                  · as_aux_lemma =>
                    rw [show ((flgN true false : Nat) : Int) = 2 from rfl]
                    have hbx := below_box u4 (.cells #[.int .u64 sa, .int .u32 sn, .int .u16 0, .int .u16 2] 44)
                    have HX := hid_mk (blk_new u4 [.int .u64 sa, .int .u32 sn, .int .u16 0, .int .u16 2] 44)
                    have HB5 := hid_mk (below_then (below_then HB3.out hb) hbx)
                    replace c6 := ((hbx.cell (p := ⟨b6, _, none⟩) (Nat.lt_of_lt_of_le l6 hb.size)).trans (hb.cell (p := ⟨b6, _, none⟩) l6)).trans c6
                    replace l6 := Nat.lt_of_lt_of_le l6 (Nat.le_trans hb.size hbx.size)
                    replace s0 := ((hbx.cell (p := ⟨b2, _, none⟩) (Nat.lt_of_lt_of_le lb2 hb.size)).trans (hb.cell (p := ⟨b2, _, none⟩) lb2)).trans s0
                    replace s1 := ((hbx.cell (p := ⟨b2, _, none⟩) (Nat.lt_of_lt_of_le lb2 hb.size)).trans (hb.cell (p := ⟨b2, _, none⟩) lb2)).trans s1
                    replace s2 := ((hbx.cell (p := ⟨b2, _, none⟩) (Nat.lt_of_lt_of_le lb2 hb.size)).trans (hb.cell (p := ⟨b2, _, none⟩) lb2)).trans s2
                    replace lb2 := Nat.lt_of_lt_of_le lb2 (Nat.le_trans hb.size hbx.size)
                    obtain ⟨lx, x0, x1, x2, x3, _⟩ := blk4 HX.out
                    have hq : ∀ z : World, (binOp .neq 44 (dV ⟨sa, sn, 0, 2⟩) (dV ⟨sa, sn, 0, 2⟩)).run Try.prog z = .ok (.bool false) z := fun z => neqPd _ z
                    clear hb hbx HX HB3
                    go_wp2_with fail
                    go_quiet (fail)
                    go_wp2_with fail
                    go_roundw
                    case rel => exact ⟨k + 1, by omega, by first | (simp; done) | (simp; omega), hid_mk (below_dn HB5.out _)⟩
                    case measure => simp [intOf]; omega
                · rw [show goW (at_ : Int) (k : Int) (64 + (r : Int)) wrap = !wrap from by unfold goW; rw [if_neg hc]] at hOw
                  have hcd : decide (64 + (r : Int) ≤ (at_ : Int) + (k : Int)) = true := decide_eq_true (by omega)
                  have HA := hid_mk (fun z : Nat => (ravail_any M (!wrap) (U3.drewN z) hMt).mono (R' := fun e w' => e = .returned (.bool true) ∧ ∃ m, w' = (U3.drewN z).drewN m) (fun e w' h => ⟨by rw [h.1, hOw, decide_eq_true rfl], 0, h.2.symm⟩))
                  clear hbx hby hslc hpb1 hpb2 hpb3 hFl hOw hnb hU3 hdb HX hbel hM hga
                  as_aux_lemma =>
                  have hsl2 : ∀ u, (Instr.sliceAt 49 (.slice ba (16 * L.length) bc) (some (.int .i64 (16 * (k : Int)))) (some (.int .i64 (16 * (k : Int) + 16))) none).run Try.prog u = .ok v1 u := fun u => by
                    have h := HSL.out u
                    rw [show ((16 * k : Nat) : Int) = 16 * (k : Int) by omega] at h
                    exact h
                  have h16 : (L.length : Int) ≤ 64 := by omega
                  go_quiet (first | (with_reducible exact Calls.quiet_of (HQ.out _)) | (with_reducible exact Calls.quiet_of (HA.out _)))
                  go_wp2_with fail
                  refine (rpread_any v1 _ _ (HBY.out.below (below_drewN _ _)) (dB_bytes _) (by rw [dB_length]; decide)).mono ?_
                  rw [HPB.out, (rd_yes (dB_length _)).2]
                  rintro e u4 ⟨rfl, hb⟩
                  replace hb := below_then (below_drewN _ _) hb
                  clear HQ HA HBY HSL HPB hsl2 q0 q1 lp x0 x1 x2 x3 lx y0 y1 y2 y3 y4 lg1 hmod
                  cases st
                  · as_aux_lemma =>
                    rw [show ((flgN false false : Nat) : Int) = 0 from rfl]
                    have hbx := below_box u4 (.cells #[.int .u64 sa, .int .u32 sn, .int .u16 0, .int .u16 0] 44)
                    have HX := hid_mk (blk_new u4 [.int .u64 sa, .int .u32 sn, .int .u16 0, .int .u16 0] 44)
                    have HB5 := hid_mk (below_then (below_then HB3.out hb) hbx)
                    replace c6 := ((hbx.cell (p := ⟨b6, _, none⟩) (Nat.lt_of_lt_of_le l6 hb.size)).trans (hb.cell (p := ⟨b6, _, none⟩) l6)).trans c6
                    replace l6 := Nat.lt_of_lt_of_le l6 (Nat.le_trans hb.size hbx.size)
                    replace s0 := ((hbx.cell (p := ⟨b2, _, none⟩) (Nat.lt_of_lt_of_le lb2 hb.size)).trans (hb.cell (p := ⟨b2, _, none⟩) lb2)).trans s0
                    replace s1 := ((hbx.cell (p := ⟨b2, _, none⟩) (Nat.lt_of_lt_of_le lb2 hb.size)).trans (hb.cell (p := ⟨b2, _, none⟩) lb2)).trans s1
                    replace s2 := ((hbx.cell (p := ⟨b2, _, none⟩) (Nat.lt_of_lt_of_le lb2 hb.size)).trans (hb.cell (p := ⟨b2, _, none⟩) lb2)).trans s2
                    replace lb2 := Nat.lt_of_lt_of_le lb2 (Nat.le_trans hb.size hbx.size)
                    obtain ⟨lx, x0, x1, x2, x3, _⟩ := blk4 HX.out
                    have hq : ∀ z : World, (binOp .neq 44 (dV ⟨sa, sn, 0, 0⟩) (dV ⟨sa, sn, 0, 0⟩)).run Try.prog z = .ok (.bool false) z := fun z => neqPd _ z
                    clear hb hbx HX HB3
                    go_wp2_with fail
                    go_quiet (fail)
                    go_wp2_with fail
                    go_roundw
                    case rel => exact ⟨k + 1, by omega, by first | (simp; done) | (simp; omega), hid_mk (below_dn HB5.out _)⟩
                    case measure => simp [intOf]; omega
                  · as_aux_lemma =>
                    rw [show ((flgN true false : Nat) : Int) = 2 from rfl]
                    have hbx := below_box u4 (.cells #[.int .u64 sa, .int .u32 sn, .int .u16 0, .int .u16 2] 44)
                    have HX := hid_mk (blk_new u4 [.int .u64 sa, .int .u32 sn, .int .u16 0, .int .u16 2] 44)
                    have HB5 := hid_mk (below_then (below_then HB3.out hb) hbx)
                    replace c6 := ((hbx.cell (p := ⟨b6, _, none⟩) (Nat.lt_of_lt_of_le l6 hb.size)).trans (hb.cell (p := ⟨b6, _, none⟩) l6)).trans c6
                    replace l6 := Nat.lt_of_lt_of_le l6 (Nat.le_trans hb.size hbx.size)
                    replace s0 := ((hbx.cell (p := ⟨b2, _, none⟩) (Nat.lt_of_lt_of_le lb2 hb.size)).trans (hb.cell (p := ⟨b2, _, none⟩) lb2)).trans s0
                    replace s1 := ((hbx.cell (p := ⟨b2, _, none⟩) (Nat.lt_of_lt_of_le lb2 hb.size)).trans (hb.cell (p := ⟨b2, _, none⟩) lb2)).trans s1
                    replace s2 := ((hbx.cell (p := ⟨b2, _, none⟩) (Nat.lt_of_lt_of_le lb2 hb.size)).trans (hb.cell (p := ⟨b2, _, none⟩) lb2)).trans s2
                    replace lb2 := Nat.lt_of_lt_of_le lb2 (Nat.le_trans hb.size hbx.size)
                    obtain ⟨lx, x0, x1, x2, x3, _⟩ := blk4 HX.out
                    have hq : ∀ z : World, (binOp .neq 44 (dV ⟨sa, sn, 0, 2⟩) (dV ⟨sa, sn, 0, 2⟩)).run Try.prog z = .ok (.bool false) z := fun z => neqPd _ z
                    clear hb hbx HX HB3
                    go_wp2_with fail
                    go_quiet (fail)
                    go_wp2_with fail
                    go_roundw
                    case rel => exact ⟨k + 1, by omega, by first | (simp; done) | (simp; omega), hid_mk (below_dn HB5.out _)⟩
                    case measure => simp [intOf]; omega
              · obtain rfl : k = L.length := by omega
                go_wp2_with fail
                go_ret
                exact ⟨rfl, below_then HB.out hbel.out⟩

set_option maxRecDepth 100000 in
theorem walk_long (w : World) (ua : Option Addr) (uc nL : Nat) (a1 a2 a3 a4 : Int) (wrap : Bool) (h : 100 < nL) :
    Calls Try.prog 5 #[.slice ua nL uc, .int .i64 a1, .int .i64 a2, .int .i64 a3, .int .i64 a4, .bool wrap] w fun e w' => e = .returned (.bool true) ∧ Below w.heap.size w w' := by
  have hi : (100 : Int) < (nL : Int) := by omega
  have X6 := hid_mk (blk_new w [.slice ua nL uc] 27)
  have HB := hid_mk (below_box w (.cells #[.slice ua nL uc] 27))
  go_enter Try.func5, Try.ntmps5
  go_wp2_with fail
  refine (lives9_any _).mono ?_
  rintro e w1 ⟨rfl, hb⟩
  replace HB := hid_mk (below_then HB.out hb)
  obtain ⟨l6, c6, _⟩ := (X6.out.below hb).one
  clear hb
  go_wp2_with fail
  go_ret
  exact ⟨rfl, HB.out⟩
set_option maxRecDepth 100000 in
theorem walk_none (w : World) (ua : Option Addr) (uc : Nat) (L : List Sg) (hv1 : SegsAt w (.slice ua L.length uc) L) (hs : isSgs L) (a1 a2 a3 a4 : Int) (wrap : Bool) (hl : L.length ≤ 100) (hm : ¬ mayE L = 0) :
    Calls Try.prog 5 #[.slice ua L.length uc, .int .i64 a1, .int .i64 a2, .int .i64 a3, .int .i64 a4, .bool wrap] w fun e w' => e = .returned (.bool true) ∧ Below w.heap.size w w' := by
  have hi : (L.length : Int) ≤ 100 := by omega
  have hd : decide ((100 : Int) < (L.length : Int)) = false := decide_eq_false (by omega)
  have QS := hid_mk hv1
  have CN : Hid (∀ u, SegsAt u (.slice ua L.length uc) L → Calls Try.prog 14 #[.slice ua L.length uc, .bool true] u fun e u' => e = .returned (.int .i64 0) ∧ Below u.heap.size u u') := hid_mk (fun u h2 => by
    have h := bdneeds _ L true u h2 hs (by omega)
    unfold neeN at h
    rw [if_neg hm] at h
    exact h)
  clear hv1 hs hm
  have X6 := hid_mk (blk_new w [.slice ua L.length uc] 27)
  have HB := hid_mk (below_box w (.cells #[.slice ua L.length uc] 27))
  go_enter Try.func5, Try.ntmps5
  go_wp2_with fail
  refine (lives9_any _).mono ?_
  rintro e w1 ⟨rfl, hb⟩
  replace HB := hid_mk (below_then HB.out hb)
  obtain ⟨l6, c6, _⟩ := (X6.out.below hb).one
  clear hb
  go_wp2_with fail
  refine (CN.out _ (QS.out.below HB.out)).mono ?_
  rintro e w2 ⟨rfl, hb⟩
  replace HB := hid_mk (below_then HB.out hb)
  clear hb l6 c6
  go_wp2_with fail
  go_ret
  exact ⟨rfl, HB.out⟩
theorem walk (w : World) (v : Value) (L : List Sg) (hv : SegsAt w v L) (hs : isSgs L) (hlm : L.length ≤ maxLen) (a1 a2 a3 a4 : Int) (wrap : Bool) (w1 : (Lit.int .i64 a1).wf = true) (w2 : (Lit.int .i64 a2).wf = true) (w3 : (Lit.int .i64 a3).wf = true) (w4 : (Lit.int .i64 a4).wf = true) :
    Calls Try.prog 5 #[v, .int .i64 a1, .int .i64 a2, .int .i64 a3, .int .i64 a4, .bool wrap] w fun e w' => e = .returned (.bool true) ∧ Below w.heap.size w w' := by
  obtain ⟨ua, uc, rfl⟩ := hv.len
  by_cases h : 100 < L.length
  · exact walk_long w ua uc L.length a1 a2 a3 a4 wrap h
  · by_cases hm : mayE L = 0
    · exact walk_main w ua uc L hv hs a1 a2 a3 a4 wrap hm
    · exact walk_none w ua uc L hv hs a1 a2 a3 a4 wrap (by omega) hm

/-! ### the row's frame -/
theorem own : ownKnob Try.prog.godebug = none := by kernel_rfl
theorem laidOut : laidOutB Try.prog = true := by kernel_rfl

set_option maxRecDepth 100000 in
theorem lifted (os : Os) (started : os.Started) (H : Type) (enc : TypeId × Value → H) :
    ReturnsInHanded {} Try.checked os 5 .any (Rows.buildTellsSpec.pre6 enc Try.prog Try.f5 Rows.buildTellsRow.domain false) (Rows.buildTellsSpec.post enc Try.prog Try.f5 false true false false) := by
  refine returnsInHanded_of_change (C := Try.checked) own started (by kernel_rfl) Try.func5
    (ChangeSpec.witness6 (enc := enc) (C := Try.checked) false ⟨#[], #[.slice none 0 0, .int .i64 0, .int .i64 0, .int .i64 0, .int .i64 0, .bool false], []⟩ 8 (by kernel_rfl) (by kernel_rfl) (by kernel_rfl) (by kernel_rfl)) ?_
  intro W base args ds gs before hval0 hW hcnd _
  have hval : ∀ (j : Nat) t v, Try.f5.params[j]? = some t → args[j]? = some v → Value.okWide Try.prog W .any base t v := hval0
  have hW' := hW
  obtain ⟨p, q, hA0, hV, rfl, hfz, hnd⟩ := hW
  have hA : DataW.TrodAll enc Try.prog W 0 (fun _ => true) true Try.f5.params.toList args.toList ds p := hA0
  rw [Try.params5] at hA hval
  obtain ⟨v0, vs0, d0, ds0, p0, q0, hargs, rfl, rfl, h0, r0⟩ := trodAll_cons hA
  obtain ⟨v1, vs1, d1, ds1, p1, q1, rfl, rfl, rfl, h1, r1⟩ := trodAll_cons r0
  obtain ⟨v2, vs2, d2, ds2, p2, q2, rfl, rfl, rfl, h2, r2⟩ := trodAll_cons r1
  obtain ⟨v3, vs3, d3, ds3, p3, q3, rfl, rfl, rfl, h3, r3⟩ := trodAll_cons r2
  obtain ⟨v4, vs4, d4, ds4, p4, q4, rfl, rfl, rfl, h4, r4⟩ := trodAll_cons r3
  obtain ⟨v5, vs5, d5, ds5, p5, q5, rfl, rfl, rfl, h5, r5⟩ := trodAll_cons r4
  obtain ⟨rfl, rfl, rfl⟩ := trodAll_nil r5
  obtain rfl : args = #[v0, v1, v2, v3, v4, v5] := by cases args; simp_all
  obtain ⟨rfl, rfl⟩ := trodVars_none hV
  have k0 := h0
  have lt0 : ∀ x ∈ p0, x.block < W.heap.size := by
    obtain ⟨m, hm⟩ := k0
    exact DataW.trod_lt m _ _ _ hm
  have k1 := h1
  have lt1 : ∀ x ∈ p1, x.block < W.heap.size := by
    obtain ⟨m, hm⟩ := k1
    exact DataW.trod_lt m _ _ _ hm
  have k2 := h2
  have lt2 : ∀ x ∈ p2, x.block < W.heap.size := by
    obtain ⟨m, hm⟩ := k2
    exact DataW.trod_lt m _ _ _ hm
  have k3 := h3
  have lt3 : ∀ x ∈ p3, x.block < W.heap.size := by
    obtain ⟨m, hm⟩ := k3
    exact DataW.trod_lt m _ _ _ hm
  have k4 := h4
  have lt4 : ∀ x ∈ p4, x.block < W.heap.size := by
    obtain ⟨m, hm⟩ := k4
    exact DataW.trod_lt m _ _ _ hm
  have k5 := h5
  have lt5 : ∀ x ∈ p5, x.block < W.heap.size := by
    obtain ⟨m, hm⟩ := k5
    exact DataW.trod_lt m _ _ _ hm
  obtain ⟨l0, hv0, hb0, hm0⟩ := open_segs (hval 0 27 v0 rfl rfl) h0
  obtain ⟨a1, rfl, rfl, rfl, w1⟩ := open_int Try.underlying3 (hval 1 3 v1 rfl rfl) h1
  obtain ⟨a2, rfl, rfl, rfl, w2⟩ := open_int Try.underlying3 (hval 2 3 v2 rfl rfl) h2
  obtain ⟨a3, rfl, rfl, rfl, w3⟩ := open_int Try.underlying3 (hval 3 3 v3 rfl rfl) h3
  obtain ⟨a4, rfl, rfl, rfl, w4⟩ := open_int Try.underlying3 (hval 4 3 v4 rfl rfl) h4
  obtain ⟨a5, rfl, rfl, rfl⟩ := open_bool Try.underlying4 (hval 5 4 v5 rfl rfl) h5
  clear hA0 hval0
  refine (walk W v0 l0 hv0 hb0 hm0 a1 a2 a3 a4 a5 w1 w2 w3 w4).mono fun e W' ⟨he, bel⟩ => ?_
  subst he
  exact ⟨_, rfl, _, _, _, [], _, [], hW', trodAll_mk1 (shut_bool Try.underlying4 _), (trodAll_cons_mk (Below.trod laidOut (by kernel_rfl) (of_decide_eq_true (by kernel_rfl)) k0 bel lt0) (trodAll_cons_mk (Below.trod laidOut (by kernel_rfl) (of_decide_eq_true (by kernel_rfl)) k1 bel lt1) (trodAll_cons_mk (Below.trod laidOut (by kernel_rfl) (of_decide_eq_true (by kernel_rfl)) k2 bel lt2) (trodAll_cons_mk (Below.trod laidOut (by kernel_rfl) (of_decide_eq_true (by kernel_rfl)) k3 bel lt3) (trodAll_cons_mk (Below.trod laidOut (by kernel_rfl) (of_decide_eq_true (by kernel_rfl)) k4 bel lt4) (trodAll_cons_mk (Below.trod laidOut (by kernel_rfl) (of_decide_eq_true (by kernel_rfl)) k5 bel lt5) trodAll_mk0)))))), rfl, bel.frame _, fun h => by cases h⟩

theorem over : Rows.buildTellsRow.holds Try.pinned (OpenSpec.ofChange Rows.buildTellsSpec) :=
  OpenClaim.holds_of_wide 5 Try.f5 rfl rfl rfl rfl rfl rfl rfl ⟨rfl, rfl, rfl, rfl, rfl⟩ rfl rfl rfl rfl rfl (by kernel_rfl) Try.func5 (by kernel_rfl)
    (of_decide_eq_true (by kernel_rfl)) (by unfold Func.isWrapper; first | (rw [if_pos (by decide +kernel)]; kernel_rfl) | (rw [if_neg (by decide +kernel)]; exact ⟨rfl, rfl⟩))
    (fun os started H enc _ => lifted os started H enc)

/-- THE STATEMENT -/
theorem buildTells_holds : Rows.BuildTellsSaid := over
#print axioms buildTells_holds
end Go.Proofs.Ytgdokgpplldddaa.buildTells
