/-
  PROVED: dumbwaiterlaw08.FreeOnce returns true for any int and list of ints, and what was in memory stays as it was. Conditions: none.
-/
import Derived.Test.YtfbimocgcnaogaaRows
import Derived.Test.YtfbimocgcnaogaaFn
import Derived.WalkKit
import Derived.ProofKit
import Derived.OpenShut
import Derived.ShutString
import Derived.ChangeOld
import Derived.Below
import Derived.Carry
import Derived.Lib.SmallJoins
import Derived.BigQuiet
import Derived.Deep.DeepCutAuto
namespace Go.Proofs.Ytfbimocgcnaogaa.freeOnce
open Go.ChangeShapes Go.WideShapes Go.ChangeAt Go.RowKit
set_option linter.unusedVariables false


set_option maxRecDepth 100000 in
set_option maxHeartbeats 1000000 in
theorem walk_long (w : World) (a0 : Int) (la : Option Addr) (lc nl : Nat) (h : 100 < nl) :
    Calls Try.prog 5 #[.int .i64 a0, .slice la nl lc] w fun e w' => e = .returned (.bool true) ∧ Below w.heap.size w w' := by
  have hi : (100 : Int) < (nl : Int) := by omega
  go_enter Try.func5, Try.ntmps5
  go_wp2_with fail
  refine (lives8_any _).mono ?_
  rintro e w1 ⟨rfl, hb⟩
  go_wp2_with fail
  go_ret
  exact ⟨rfl, hb⟩

set_option maxRecDepth 100000 in
set_option maxHeartbeats 8000000 in
theorem walk_main (w : World) (a0 : Int) (la : Option Addr) (lc : Nat) (l : List Int) (hl : IntsZ w (.slice la l.length lc) l) (h : l.length ≤ 100) :
    Calls Try.prog 5 #[.int .i64 a0, .slice la l.length lc] w fun e w' => e = .returned (.bool true) ∧ Below w.heap.size w w' := by
  have hli : (l.length : Int) ≤ 100 := by omega
  have HL := hid_mk hl
  have HN := hid_mk h
  obtain ⟨r, hr3, hr⟩ := pick_nat a0 300 w (by decide) (by decide)
  have HP1 := hid_mk (fun u => pick_at a0 300 r u (by decide) (by decide) hr)
  have hr4 : (r : Int) < 300 := by omega
  have HR4 := hid_mk hr3
  have i1 : I64 (1 + (r : Int)) := by constructor <;> omega
  have hnb : newLB (1 + (r : Int)) = true := by
    unfold newLB
    rw [decide_eq_true (show (1 : Int) ≤ 1 + r by omega), decide_eq_true (show 1 + (r : Int) ≤ 32768 by omega)]
    rfl
  have HG := hid_mk (GoodF.start hnb)
  have o1 : newLS (1 + (r : Int)) = 1 + r ∧ newLE (1 + (r : Int)) = 0 := by
    unfold newLS newLE
    rw [hnb]
    exact ⟨rfl, rfl⟩
  have C1 := hid_mk (fun u => frnew (1 + (r : Int)) u i1)
  rw [o1.1, o1.2] at C1
  generalize newLL (1 + (r : Int)) = L0 at *
  have HI := hid_mk i1
  unfold frV at C1
  clear hl h hr3 hr i1 hnb o1
  have B := hid_mk (Below.refl w.heap.size w)
  go_enter Try.func5, Try.ntmps5
  go_wp2_with fail
  refine (lives8_any _).mono ?_
  rintro e w1 ⟨rfl, hb⟩
  replace B := hid_mk (below_then B.out hb)
  clear hb
  go_wp2_with fail
  refine (HP1.out _).mono ?_
  rintro e w2 ⟨rfl, hs⟩
  replace B : Hid (Below w.heap.size w w2) := hid_mk (by rw [← hs]; exact B.out)
  clear hs HP1
  go_wp2_with fail
  refine (C1.out _).mono ?_
  rintro e w3 ⟨v1, rfl, hq, _, hb⟩
  replace B := hid_mk (below_then B.out hb)
  obtain ⟨fa, fc, rfl⟩ := hq.len
  have HS0 : Hid (OnS w w3.heap.size (1 + (r : Int)) (.slice fa L0.length fc) L0 (.slice none 0 0) [] (w3.alloc (.cells #[.int .i64 (1 + (r : Int)), .slice fa L0.length fc] 24))) :=
    hid_mk ⟨below_then B.out (below_box _ _), blk_new w3 [.int .i64 (1 + (r : Int)), .slice fa L0.length fc] _, B.out.size, (hq.mono (Nat.zero_le _)).below (below_box _ _), ⟨IntsK.nil _ _, Or.inl ⟨none, rfl⟩⟩, HG.out⟩
  clear hb hq C1 B HG
  go_wp2_with fail
  generalize (w3.alloc (.cells #[.int .i64 (1 + (r : Int)), .slice fa L0.length fc] 24)) = w4 at *
  generalize w3.heap.size = bf at *
  go_loopg [7, 8] l.length (fun gk o i wr => ∃ (k : Nat) (vf : Value) (L O : List Int), k ≤ l.length ∧ i = .int .i64 k ∧ l.length - k ≤ gk ∧ (∃ a c, o = .slice a O.length c) ∧ Hid (OnS w bf (1 + (r : Int)) vf L o O wr))
  case atStart => exact ⟨0, _, _, [], by omega, rfl, by omega, ⟨none, 0, rfl⟩, HS0⟩
  case round =>
    clear HS0
    obtain ⟨k, vf, L, O, hk, rfl, hgk, ⟨oa, oc, rfl⟩, hS⟩ := hrel
    by_cases hlt : k < l.length
    · obtain ⟨b, o, rfl, hbw, c0⟩ : ∃ b o, la = some ⟨b, o, none⟩ ∧ b < w.heap.size ∧ w.cell? ⟨b, o + k, none⟩ = some (.int .i64 (l.getD k 0)) := by
        rcases HL.out with ⟨_, e⟩ | ⟨b, o, c, h1, h2, _, h3⟩
        · rw [e] at hlt
          simp at hlt
        · cases h1
          exact ⟨b, o, rfl, h2, h3 k hlt⟩
      have HC := hid_mk (fun (u : World) (hb : Below w.heap.size w u) => (hb.cell (p := ⟨b, o + k, none⟩) hbw).trans c0)
      have hlti : (k : Int) < (l.length : Int) := by omega
      have d0 := HC.out _ hS.out.old
      clear c0
      generalize l.getD k 0 = x at *
      obtain ⟨fa, fc, rfl⟩ := hS.out.lf.len
      go_upto_if 45 with fail
      go_cut [7] (fun s7 wx => ∃ (vf : Value) (L O : List Int), (∃ a c, s7 = .slice a O.length c) ∧ Hid (OnS w bf (1 + (r : Int)) vf L s7 O wx))
      case first =>
        as_aux_lemma =>
        by_cases hx : 0 < x
        · have hxd : decide (0 < x) = true := decide_eq_true hx
          obtain ⟨m, hm3, hm⟩ := pick_nat x 20 w (by decide) (by decide)
          have HPk := hid_mk (fun u => pick_at x 20 m u (by decide) (by decide) hm)
          have hm4 : (m : Int) < 20 := by omega
          have i2 : I64 (1 + (m : Int)) := by constructor <;> omega
          have hgl := hS.out.good.len
          have hOl : (O.length : Int) ≤ 1 + (r : Int) := by omega
          have hLl : (L.length : Int) ≤ 300 := by omega
          have HLl : Hid (L.length ≤ 100000) := hid_mk (by omega)
          have CT := hid_mk (fun (u : World) (hq : IntsK w.heap.size u (.slice fa L.length fc) L) hB => frtake w.heap.size (1 + (r : Int)) (.slice fa L.length fc) L (1 + (m : Int)) u hq hB HI.out i2 HLl.out)
          unfold frV at CT
          obtain ⟨x2, x0, x1, _⟩ := blk2 hS.out.box
          have em : (1 + (m : Int)) = ((1 + m : Nat) : Int) := by omega
          by_cases hfull : L.length < 1 + m
          · obtain ⟨t1, t2, t3, t4⟩ := tak_full hS.out.good.chk (show 1 ≤ 1 + m by omega) hfull
            rw [← em] at t1 t2 t3 t4
            rw [t1, t2, t3, t4] at CT
            have hgt : decide (1 + (r : Int) - (O.length : Int) < 1 + (m : Int)) = true := decide_eq_true (by omega)
            clear t1 t2 t3 t4 em hm3 hm
            go_wp2_with fail
            refine (HPk.out _).mono ?_
            rintro e u ⟨rfl, rfl⟩
            go_wp2_with fail
            refine (CT.out _ hS.out.lf hS.out.old.size).mono ?_
            rintro e w5 ⟨v1, v2, rfl, ⟨hq, _, _⟩, ⟨hr, _⟩, hb⟩
            obtain ⟨qa, qc, rfl⟩ := hq.len
            obtain ⟨sa, sc, rfl⟩ := hr.len
            have HS5 := hid_mk ((hS.out.below hb).below (below_box w5 (.cells #[.int .i64 0, .slice sa 0 sc] 24)))
            clear hb hq hr x0 x1 x2 d0
            go_wp2_with fail
            go_roundg (l.length - (k + 1))
            case measure => omega
            case rel => exact ⟨k + 1, _, L, O, by omega, (by first | rfl | exact nextF k (by have := HN.out; omega)), by omega, ⟨_, _, rfl⟩, HS5⟩
          · obtain ⟨t1, t2, t3, t4⟩ := tak_yes hS.out.good.chk (show 1 ≤ 1 + m by omega) (show 1 + m ≤ L.length by omega)
            have HGd := hid_mk (hS.out.good.take (show 1 + m ≤ L.length by omega))
            have hgb := giv_yes2 (giv_back (n := 1 + m) hS.out.good.chk)
            rw [List.take_append_drop] at hgb
            have lA : (L.take (1 + m)).length = 1 + m := by rw [List.length_take]; omega
            have lD : (L.drop (1 + m)).length ≤ 300 := by rw [List.length_drop]; omega
            rw [← em] at t1 t2 t3 t4
            obtain ⟨A, hA⟩ : ∃ A, L.take (1 + m) = A := ⟨_, rfl⟩
            obtain ⟨M, hM⟩ : ∃ M, L.drop (1 + m) = M := ⟨_, rfl⟩
            rw [hA] at t3 HGd hgb lA
            rw [hM] at t4 HGd hgb lD
            rw [t1, t2, t3, t4] at CT
            have GB := hid_mk (fun (u : World) (v1 v2 : Value) (h1 : IntsK w.heap.size u v1 M) (h2 : IntsK w.heap.size u v2 A) hB => frgive w.heap.size (1 + (r : Int)) v1 v2 M A u h1 h2 hB HI.out (by omega) (by omega))
            rw [hgb.1, hgb.2.1, hgb.2.2] at GB
            unfold frV at GB
            have hgt : decide (1 + (r : Int) - (O.length : Int) < 1 + (m : Int)) = false := decide_eq_false (by omega)
            have hAm : ((A.length : Int) != 1 + (m : Int)) = false := by
              rw [lA]
              simp
            have HAne : Hid (A ≠ []) := hid_mk (fun e => by rw [e] at lA; simp at lA; omega)
            have HOA : Hid (O.length + A.length ≤ 2000000) := hid_mk (by omega)
            clear t1 t2 t3 t4 em hm3 hm hA hM hgb lA lD hgl
            go_wp2_with fail
            refine (HPk.out _).mono ?_
            rintro e u ⟨rfl, rfl⟩
            go_wp2_with fail
            refine (CT.out _ hS.out.lf hS.out.old.size).mono ?_
            rintro e w5 ⟨v1, v2, rfl, ⟨hq, hfr1, _⟩, ⟨hr, hfr2⟩, hb⟩
            obtain ⟨qa, qac, rfl⟩ := hq.len
            have HA1 := hid_mk (away_from hS.out hb hfr1 hq)
            have HA2 := hid_mk (away_from hS.out hb hfr2 hr)
            obtain ⟨sa, sc, rfl⟩ := hr.len
            have hbx := below_box w5 (.cells #[.int .i64 (1 + (r : Int)), .slice sa M.length sc] 24)
            have Xx := hid_mk (blk_new w5 [.int .i64 (1 + (r : Int)), .slice sa M.length sc] 24)
            have HS5 := hid_mk ((hS.out.below hb).below hbx)
            have NX : Hid (bf ≠ w5.heap.size) := hid_mk (Nat.ne_of_lt (hS.out.box.below hb).lt)
            have QA := hid_mk (hq.below hbx)
            have QM := hid_mk (hr.below hbx)
            clear hb hbx hq hr hfr1 hfr2 x0 x1 x2 d0 hS
            go_wp2_with fail
            refine (GB.out _ _ _ QM.out QA.out HS5.out.old.size).mono ?_
            rintro e w6 ⟨v3, rfl, ⟨hr, _⟩, hb⟩
            obtain ⟨ta, tc, rfl⟩ := hr.len
            have hbx := below_box w6 (.cells #[.int .i64 (1 + (r : Int)), .slice ta L.length tc] 24)
            replace HS5 := hid_mk ((HS5.out.below hb).below hbx)
            have QT := hid_mk (hr.below hbx)
            replace Xx := hid_mk ((Xx.out.below hb).below hbx)
            replace QA := hid_mk ((QA.out.below hb).below hbx)
            replace QM := hid_mk ((QM.out.below hb).below hbx)
            clear hb hbx hr
            obtain ⟨x2, x0, x1, _⟩ := blk2 HS5.out.box
            go_wp2_with fail
            refine (frsame (1 + (r : Int)) (1 + (r : Int)) _ _ L L _ QT.out.1 HS5.out.lf.1 HLl.out).mono ?_
            rintro e w7 ⟨he, hb⟩
            rw [sameF_self] at he
            subst he
            replace HS5 := hid_mk (HS5.out.below hb)
            replace Xx := hid_mk (Xx.out.below hb)
            replace QA := hid_mk (QA.out.below hb)
            replace QM := hid_mk (QM.out.below hb)
            clear hb x0 x1 x2 QT
            have HOG : Hid (∀ b, OG (.slice oa O.length oc) O b → b ≠ bf ∧ b ≠ w5.heap.size) := hid_mk (fun b hb => by
              obtain ⟨_, _, ⟨cs, fr, ho⟩, _⟩ := HS5.out.lo.og hb
              exact ⟨not_free ho HS5.out.box, not_free ho Xx.out⟩)
            go_wp2_with fail
            refine wp_region_outl3 5 [(3, Chg (OG (.slice oa O.length oc) O)), (4, PutAt bf)] [] [(3, fun u => OutV w.heap.size u (.slice oa O.length oc) O (.slice fa L.length fc))]
                [(fun v _ => v = .agg #[.int .i64 (1 + (r : Int)), .slice sa M.length sc]),
                (fun v _ => v = .slice oa O.length oc),
                (fun v _ => v = .slice qa A.length qac),
                (fun v W => OwnZ w.heap.size W v (O ++ A) ∧ (v.ownBlock = (.slice oa O.length oc : Value).ownBlock ∨ ∀ b, v.ownBlock = some b → w7.heap.size ≤ b) ∧ ((∃ a, (.slice oa O.length oc : Value) = .slice a O.length O.length) → ∀ b, v.ownBlock = some b → w7.heap.size ≤ b)),
                (fun _ W => BlkAt W bf [.int .i64 (1 + (r : Int)), .slice sa M.length sc] 24),
                (fun v W => OwnZ w.heap.size W v (O ++ A) ∧ (v.ownBlock = (.slice oa O.length oc : Value).ownBlock ∨ ∀ b, v.ownBlock = some b → w7.heap.size ≤ b) ∧ ((∃ a, (.slice oa O.length oc : Value) = .slice a O.length O.length) → ∀ b, v.ownBlock = some b → w7.heap.size ≤ b))]
                (Two w7 bf (.slice oa O.length oc) O) (by kernel_rfl) (by kernel_rfl) (by kernel_rfl) ?_ (fun u u' hb h => h.below hb) (⟨Chg.of_below (Below.refl _ _).drew, _, _, HS5.out.box.below (Below.refl _ _).drew⟩) ?_ ?_ ?_ ?_ ?_
            · refine And.intro (up_eq _) ?_
              refine And.intro (up_eq _) ?_
              refine And.intro (up_eq _) ?_
              refine And.intro (fun _ _ _ hb h => ⟨h.1.below hb, h.2⟩) ?_
              refine And.intro (fun _ _ _ hb h => h.below hb) ?_
              refine And.intro (fun _ _ _ hb h => ⟨h.1.below hb, h.2⟩) ?_
              trivial
            · refine And.intro (And.intro (fun u u' hb h => h.below hb) (fun p hp hne u u' ht h => by
                rcases List.mem_cons.1 hp with rfl | hp
                · exact absurd rfl hne
                · rw [List.mem_singleton] at hp
                  subst hp
                  exact h.putAt HS5.out.gb ht)) ?_
              trivial
            · refine And.intro (HS5.out.lo.below (Below.refl _ _).drew) ?_
              trivial
            · refine And.intro (And.intro ?_ (fun u u' hc h => h.row (fun hb => (HOG.out _ hb).1 rfl) hc)) ?_
              · refine And.intro (fun _ _ _ => ch_eq _ _) ?_
                refine And.intro (fun _ _ _ => ch_eq _ _) ?_
                refine And.intro (fun _ _ _ => ch_eq _ _) ?_
                refine And.intro (fun h _ _ => absurd rfl h) ?_
                refine And.intro (fun _ _ _ => fun _ _ _ hc h => hc.keep h (fun hb => (HOG.out _ hb).1 rfl)) ?_
                refine And.intro (fun _ _ h => late_absurd (by kernel_rfl) h) ?_
                trivial
              refine And.intro (And.intro ?_ (fun u u' hp h => h.put hp)) ?_
              · refine And.intro (fun _ _ _ => ch_eq _ _) ?_
                refine And.intro (fun _ _ _ => ch_eq _ _) ?_
                refine And.intro (fun _ _ _ => ch_eq _ _) ?_
                refine And.intro (fun _ _ _ => fun _ _ _ hp h => ⟨h.1.putAt hp, h.2⟩) ?_
                refine And.intro (fun h _ _ => absurd rfl h) ?_
                refine And.intro (fun _ _ _ => fun _ _ _ hp h => ⟨h.1.putAt hp, h.2⟩) ?_
                trivial
              trivial
            · refine And.intro ?_ (And.intro ?_ (And.intro ?_ (And.intro ?_ (And.intro ?_ (And.intro ?_ (True.intro))))))
              · refine qstep_val (.agg #[.int .i64 (1 + (r : Int)), .slice sa M.length sc]) (by kernel_rfl) (by kernel_rfl) rfl (fun _ A1 W1 inv hnl hall => ⟨wanted_none rfl, ?_, rfl⟩)
                have h11 : A1.eval (.tmp 11) = .pointer (some ⟨w5.heap.size, 0, none⟩) := (inv.base 11 (by kernel_rfl)).trans rfl
                have hxb : BlkAt W1 w5.heap.size [.int .i64 (1 + (r : Int)), .slice sa M.length sc] 24 := inv.s.chg.keep Xx.out (fun e => by rcases e with e | e; exact NX.out e.symm; exact (HOG.out _ e).2 rfl)
                simp only [execOp, h11, Sem.run_bind, loadFr hxb, Result.andThen_ok, Sem.run_pure]
              · refine qstep_val (.slice oa O.length oc) (by kernel_rfl) (by kernel_rfl) rfl (fun _ A1 W1 inv hnl hall => ⟨wanted_none rfl, ?_, rfl⟩)
                have h7 : A1.eval (.tmp 7) = .slice oa O.length oc := (inv.base1 hnl 7 (by kernel_rfl)).trans rfl
                simp only [execOp, h7, Sem.run_pure]
              · refine qstep_val (.slice qa A.length qac) (by kernel_rfl) (by kernel_rfl) rfl (fun _ A1 W1 inv hnl hall => ⟨wanted_none rfl, ?_, rfl⟩)
                have h10 : A1.eval (.tmp 10) = .slice qa A.length qac := (inv.base 10 (by kernel_rfl)).trans rfl
                simp only [execOp, h10, Sem.run_pure]
              · refine qstep_own (by kernel_rfl) (by kernel_rfl) rfl (fun _ A1 W1 inv hnl hall => ⟨wanted_none rfl, ?_⟩)
                have h99 : A1.eval (.tmp 99) = .slice oa O.length oc := inv.get hall 1 99 (by kernel_rfl) (by kernel_rfl) rfl
                have h100 : A1.eval (.tmp 100) = .slice qa A.length qac := inv.get hall 2 100 (by kernel_rfl) (by kernel_rfl) rfl
                have hov := inv.pre1 (j := 3) hnl (List.mem_singleton.2 rfl) (Or.inl rfl)
                obtain ⟨v', w', e1, e2, e3, e4, e5⟩ := hov.app (QA.out.two inv.s HA1.out).1 HAne.out (Nat.le_trans HS5.out.old.size inv.s.chg.size) HOA.out
                refine ⟨v', w', ?_, ⟨e2, ?_, fun hf b hb => Nat.le_trans inv.s.chg.size (e5 hf b hb)⟩, e3⟩
                · simp only [execOp]
                  simp [resolve, invoke, builtin, h99, h100, e1, Result.andThen]
                · rcases e4 with e4 | e4
                  · exact Or.inl e4
                  · exact Or.inr (fun b hb => Nat.le_trans inv.s.chg.size (e4 b hb))
              · refine qstep_skip (by kernel_rfl) (by kernel_rfl) rfl (fun _ A1 W1 inv hnl hall => ⟨wanted_none rfl, ?_⟩)
                have h5 : A1.eval (.tmp 5) = .pointer (some ⟨bf, 0, none⟩) := (inv.base 5 (by kernel_rfl)).trans rfl
                have h98 : A1.eval (.tmp 98) = .agg #[.int .i64 (1 + (r : Int)), .slice sa M.length sc] := inv.get hall 0 98 (by kernel_rfl) (by kernel_rfl) rfl
                obtain ⟨y0, y1, hr⟩ := inv.s.box
                refine ⟨(W1.setCell ⟨bf, 0, none⟩ (.int .i64 (1 + (r : Int)))).setCell ⟨bf, 1, none⟩ (.slice sa M.length sc), ?_, (hr.set 0 _).set 1 _, ⟨_, _, _, hr, rfl⟩⟩
                simp only [execOp, h5, h98]
                have c0 := hr.cell 0
                have c1 := hr.cell 1
                have f0 := hr.free 0
                have f1 := hr.free 1
                simp at c0 c1
                simp [go_sem, c0, c1, f0, f1]
              · refine qstep_ex (by kernel_rfl) (by kernel_rfl) rfl (fun _ A1 W1 inv hnl hall => ⟨wanted_none rfl, ?_⟩)
                have h101 : (fun v W => OwnZ w.heap.size W v (O ++ A) ∧ (v.ownBlock = (.slice oa O.length oc : Value).ownBlock ∨ ∀ b, v.ownBlock = some b → w7.heap.size ≤ b) ∧ ((∃ a, (.slice oa O.length oc : Value) = .slice a O.length O.length) → ∀ b, v.ownBlock = some b → w7.heap.size ≤ b)) (A1.eval (.tmp 101)) W1 := inv.get hall 3 101 (by kernel_rfl) (by kernel_rfl) rfl
                exact ⟨A1.eval (.tmp 101), by simp only [execOp, Sem.run_pure], h101⟩
            · intro listed A1 W1 inv hall
              have e98 : A1.eval (.tmp 98) = .agg #[.int .i64 (1 + (r : Int)), .slice sa M.length sc] := inv.fin 0 98 (by kernel_rfl) (hall 0 (Nat.lt_of_lt_of_eq (by decide : 0 < 6) (by kernel_rfl))) rfl
              have e99 : A1.eval (.tmp 99) = .slice oa O.length oc := inv.fin 1 99 (by kernel_rfl) (hall 1 (Nat.lt_of_lt_of_eq (by decide : 1 < 6) (by kernel_rfl))) rfl
              have e100 : A1.eval (.tmp 100) = .slice qa A.length qac := inv.fin 2 100 (by kernel_rfl) (hall 2 (Nat.lt_of_lt_of_eq (by decide : 2 < 6) (by kernel_rfl))) rfl
              have p101 : (fun v W => OwnZ w.heap.size W v (O ++ A) ∧ (v.ownBlock = (.slice oa O.length oc : Value).ownBlock ∨ ∀ b, v.ownBlock = some b → w7.heap.size ≤ b) ∧ ((∃ a, (.slice oa O.length oc : Value) = .slice a O.length O.length) → ∀ b, v.ownBlock = some b → w7.heap.size ≤ b)) (A1.eval (.tmp 101)) W1 := inv.fin 3 101 (by kernel_rfl) (hall 3 (Nat.lt_of_lt_of_eq (by decide : 3 < 6) (by kernel_rfl))) rfl
              obtain ⟨v101, e101⟩ : ∃ v, A1.eval (.tmp 101) = v := ⟨_, rfl⟩
              rw [e101] at p101
              have p7 : (fun v W => OwnZ w.heap.size W v (O ++ A) ∧ (v.ownBlock = (.slice oa O.length oc : Value).ownBlock ∨ ∀ b, v.ownBlock = some b → w7.heap.size ≤ b) ∧ ((∃ a, (.slice oa O.length oc : Value) = .slice a O.length O.length) → ∀ b, v.ownBlock = some b → w7.heap.size ≤ b)) (A1.eval (.tmp 7)) W1 := inv.fin 5 7 (by kernel_rfl) (hall 5 (Nat.lt_of_lt_of_eq (by decide : 5 < 6) (by kernel_rfl))) rfl
              obtain ⟨v7, e7⟩ : ∃ v, A1.eval (.tmp 7) = v := ⟨_, rfl⟩
              rw [e7] at p7
              have hst4 := inv.fin0 4 (by kernel_rfl) (hall 4 (Nat.lt_of_lt_of_eq (by decide : 4 < 6) (by kernel_rfl))) rfl
              have HF := inv.frame hall
              have HS9 := hid_mk inv.s
              simp only [putEnd, e98, e99, e100, e101, e7, Act.put, List.setIfInBounds_toArray, List.set_cons_succ, List.set_cons_zero] at HF
              clear e98 e99 e100 e101 e7 inv hall
              subst HF
              have HS6 := hid_mk (HS5.out.taken HS9.out QM.out HA2.out hst4 p7.1 p7.2.1 p7.2.2 HGd.out)
              obtain ⟨na, nc, rfl⟩ := p7.1.n.len
              go_wp2_with fail
              go_meet
              case rel => exact ⟨_, _, _, ⟨_, _, rfl⟩, HS6⟩
        · have hxd : decide (0 < x) = false := decide_eq_false hx
          obtain ⟨m, hm3, hm⟩ := pick_nat x 20 w (by decide) (by decide)
          have HPk := hid_mk (fun u => pick_at x 20 m u (by decide) (by decide) hm)
          obtain ⟨n, hn⟩ : ∃ n : Nat, min (m : Int) (O.length : Int) = n := ⟨min m O.length, by omega⟩
          have hnO : n ≤ O.length := by omega
          have hgl := hS.out.good.len
          have hr5 := HR4.out
          obtain ⟨q, hq⟩ : ∃ q, q = O.length - n := ⟨_, rfl⟩
          have hqO : q ≤ O.length := by omega
          have hqi : (O.length : Int) - (n : Int) = (q : Int) := by omega
          have HQW : Hid (IntKind.i64.wrap ((O.length : Int) - (n : Int)) = (q : Int)) := hid_mk (by rw [IntWalk.i64_left, hqi]; exact IntWalk.wrap64_in _ ⟨by omega, by omega⟩)
          have HOl : Hid (O.length ≤ 300) := hid_mk (by omega)
          by_cases hn0 : n = 0
          · have hnb : ((n : Int) == 0) = true := by simp [hn0]
            clear hm3 hm hq hqO hqi HQW hgl hr5 hnO hn0
            go_wp2_with fail
            refine (HPk.out _).mono ?_
            rintro e u ⟨rfl, rfl⟩
            go_wp2_with fail
            go_roundg (l.length - (k + 1))
            case measure => omega
            case rel => exact ⟨k + 1, _, L, O, by omega, (by first | rfl | exact nextF k (by have := HN.out; omega)), by omega, ⟨_, _, rfl⟩, hS⟩
          · have hnb : ((n : Int) == 0) = false := by
              simp
              omega
            have HGd := hid_mk (hS.out.good.give hqO)
            have hgv := giv_yes2 (hS.out.good.giv q)
            have lDr : (O.drop q ++ L).length ≤ 600 := by rw [List.length_append, List.length_drop]; omega
            have lD1 : (O.drop q).length ≤ 300 := by rw [List.length_drop]; omega
            have hLl : L.length ≤ 300 := by omega
            have GB := hid_mk (fun (u : World) (v2 : Value) (h1 : IntsK w.heap.size u (.slice fa L.length fc) L) (h2 : IntsK w.heap.size u v2 (O.drop q)) hB => frgive w.heap.size (1 + (r : Int)) (.slice fa L.length fc) v2 L (O.drop q) u h1 h2 hB HI.out (by omega) (by omega))
            rw [hgv.1, hgv.2.1, hgv.2.2] at GB
            unfold frV at GB
            obtain ⟨M, hM⟩ : ∃ M, O.drop q ++ L = M := ⟨_, rfl⟩
            rw [hM] at GB HGd
            obtain ⟨u1, u2, hs1, hv1, hs2, hv2, _, _⟩ := slicesK hS.out.lo.1 q hqO
            obtain ⟨ya, hs3, hv3⟩ := slice3 hS.out.lo.1 q hqO (by omega)
            have HS2 := hid_mk hs2
            have HS3 := hid_mk hs3
            have QD := hid_mk hv2
            have QO := hid_mk hv3
            have HqO := hid_mk hqO
            obtain ⟨U, hU⟩ : ∃ U, U = wr := ⟨_, rfl⟩
            subst hU
            have BU := hid_mk hS.out.old.size
            clear hm3 hm hq hqO hqi hgl hr5 hnO hn0 hgv lDr lD1 hLl hM hs1 hs2 hv1 hv2 hs3 hv3
            go_wp2_with fail
            refine (HPk.out _).mono ?_
            rintro e u ⟨rfl, rfl⟩
            go_wp2_with fail
            refine wp_region_outl3 16 [(12, PutB U.heap.size)] [] []
                [(fun v _ => v = .agg #[.int .i64 (1 + (r : Int)), .slice fa L.length fc]),
                (fun v _ => v = .slice oa O.length oc),
                (fun v _ => v = .slice oa O.length oc),
                (fun v _ => v = .int .i64 (O.length : Int)),
                (fun v _ => v = .int .i64 (n : Int)),
                (fun v _ => v = .int .i64 (q : Int)),
                (fun v _ => v = u2),
                (fun v W => ∃ x, v = .tuple #[.agg #[.int .i64 (1 + (r : Int)), x], .int .i64 0] ∧ IntsK w.heap.size W x M),
                (fun v W => ∃ x, v = .tuple #[.agg #[.int .i64 (1 + (r : Int)), x], .int .i64 0] ∧ IntsK w.heap.size W x M),
                (fun v W => ∃ x, v = .agg #[.int .i64 (1 + (r : Int)), x] ∧ IntsK w.heap.size W x M),
                (fun v _ => v = .int .i64 0),
                (fun v W => ∃ b x y, v = .pointer (some ⟨b, 0, none⟩) ∧ U.heap.size ≤ b ∧ BlkAt W b [x, y] 24),
                (fun v W => ∃ b x, v = .pointer (some ⟨b, 0, none⟩) ∧ BlkAt W b [.int .i64 (1 + (r : Int)), x] 24 ∧ IntsK w.heap.size W x M),
                (fun v _ => v = .int .i64 0)]
                (Below U.heap.size U) (by kernel_rfl) (by kernel_rfl) (by kernel_rfl) ?_ (fun u u' hb h => h.trans (hb.mono h.size)) ((Below.refl _ _).drew) ?_ ?_ ?_ ?_ ?_
            · refine And.intro (up_eq _) ?_
              refine And.intro (up_eq _) ?_
              refine And.intro (up_eq _) ?_
              refine And.intro (up_eq _) ?_
              refine And.intro (up_eq _) ?_
              refine And.intro (up_eq _) ?_
              refine And.intro (up_eq _) ?_
              refine And.intro (upT_k _ _ _ _) ?_
              refine And.intro (upT_k _ _ _ _) ?_
              refine And.intro (upA_k _ _ _) ?_
              refine And.intro (up_eq _) ?_
              refine And.intro (up_new _) ?_
              refine And.intro (up_full _ _ _) ?_
              refine And.intro (up_eq _) ?_
              trivial
            · trivial
            · trivial
            · refine And.intro (And.intro ?_ (fun u u' hp h => putB_below h (Nat.le_refl _) hp)) ?_
              · refine And.intro (fun _ _ _ => ch_eq _ _) ?_
                refine And.intro (fun _ _ _ => ch_eq _ _) ?_
                refine And.intro (fun _ _ _ => ch_eq _ _) ?_
                refine And.intro (fun _ _ _ => ch_eq _ _) ?_
                refine And.intro (fun _ _ _ => ch_eq _ _) ?_
                refine And.intro (fun _ _ _ => ch_eq _ _) ?_
                refine And.intro (fun _ _ _ => ch_eq _ _) ?_
                refine And.intro (fun _ _ _ => putT_k BU.out) ?_
                refine And.intro (fun _ _ _ => putT_k BU.out) ?_
                refine And.intro (fun _ _ _ => putA_k BU.out) ?_
                refine And.intro (fun _ _ _ => ch_eq _ _) ?_
                refine And.intro (fun _ _ _ => put_new _ _) ?_
                refine And.intro (fun h _ _ => absurd rfl h) ?_
                refine And.intro (fun _ _ _ => ch_eq _ _) ?_
                trivial
              trivial
            · refine And.intro ?_ (And.intro ?_ (And.intro ?_ (And.intro ?_ (And.intro ?_ (And.intro ?_ (And.intro ?_ (And.intro ?_ (And.intro ?_ (And.intro ?_ (And.intro ?_ (And.intro ?_ (And.intro ?_ (And.intro ?_ (True.intro))))))))))))))
              · refine qstep_val (.agg #[.int .i64 (1 + (r : Int)), .slice fa L.length fc]) (by kernel_rfl) (by kernel_rfl) rfl (fun _ A1 Y1 inv hnl hall => ⟨wanted_none rfl, ?_, rfl⟩)
                have h5 : A1.eval (.tmp 5) = .pointer (some ⟨bf, 0, none⟩) := (inv.base 5 (by kernel_rfl)).trans rfl
                simp only [execOp, h5, Sem.run_bind, loadFr (hS.out.box.below inv.s), Result.andThen_ok, Sem.run_pure]
              · refine qstep_val (.slice oa O.length oc) (by kernel_rfl) (by kernel_rfl) rfl (fun _ A1 Y1 inv hnl hall => ⟨wanted_none rfl, ?_, rfl⟩)
                have h7 : A1.eval (.tmp 7) = .slice oa O.length oc := (inv.base 7 (by kernel_rfl)).trans rfl
                simp only [execOp, h7, Sem.run_pure]
              · refine qstep_val (.slice oa O.length oc) (by kernel_rfl) (by kernel_rfl) rfl (fun _ A1 Y1 inv hnl hall => ⟨wanted_none rfl, ?_, rfl⟩)
                have h7 : A1.eval (.tmp 7) = .slice oa O.length oc := (inv.base 7 (by kernel_rfl)).trans rfl
                simp only [execOp, h7, Sem.run_pure]
              · refine qstep_val (.int .i64 (O.length : Int)) (by kernel_rfl) (by kernel_rfl) rfl (fun _ A1 Y1 inv hnl hall => ⟨wanted_none rfl, ?_, rfl⟩)
                have h115 : A1.eval (.tmp 115) = .slice oa O.length oc := inv.get hall 2 115 (by kernel_rfl) (by kernel_rfl) rfl
                have hl : (Builtin.len_ #[22] 3 #[.slice oa O.length oc]).run Try.prog Y1 = .ok (.int .i64 (O.length : Int)) Y1 := by simp [go_sem]
                simp only [execOp]
                simp [resolve, invoke, builtin, h115, hl, Result.andThen]
              · refine qstep_val (.int .i64 (n : Int)) (by kernel_rfl) (by kernel_rfl) rfl (fun _ A1 Y1 inv hnl hall => ⟨wanted_none rfl, ?_, rfl⟩)
                have h15 : A1.eval (.tmp 15) = .int .i64 (n : Int) := (inv.base 15 (by kernel_rfl)).trans rfl
                simp only [execOp, h15, Sem.run_pure]
              · refine qstep_val (.int .i64 (q : Int)) (by kernel_rfl) (by kernel_rfl) rfl (fun _ A1 Y1 inv hnl hall => ⟨wanted_none rfl, ?_, rfl⟩)
                have h116 : A1.eval (.tmp 116) = .int .i64 (O.length : Int) := inv.get hall 3 116 (by kernel_rfl) (by kernel_rfl) rfl
                have h117 : A1.eval (.tmp 117) = .int .i64 (n : Int) := inv.get hall 4 117 (by kernel_rfl) (by kernel_rfl) rfl
                simp only [execOp, h116, h117]
                have hqw := HQW.out
                simp [eqGuard, go_sem, hqw]
              · refine qstep_val (u2) (by kernel_rfl) (by kernel_rfl) rfl (fun _ A1 Y1 inv hnl hall => ⟨wanted_none rfl, ?_, rfl⟩)
                have h114 : A1.eval (.tmp 114) = .slice oa O.length oc := inv.get hall 1 114 (by kernel_rfl) (by kernel_rfl) rfl
                have h118 : A1.eval (.tmp 118) = .int .i64 (q : Int) := inv.get hall 5 118 (by kernel_rfl) (by kernel_rfl) rfl
                have gg := HS2.out Y1
                simp only [execOp, Option.map, h114, h118]
                simp [gg, Result.andThen]
              · refine qstep_call 9 (by kernel_rfl) _ _ (by kernel_rfl) (by kernel_rfl) rfl rfl (fun _ A1 Y1 inv hnl hall => ⟨wanted_none rfl, #[.agg #[.int .i64 (1 + (r : Int)), .slice fa L.length fc], u2], ?_, ?_⟩)
                · have h113 : A1.eval (.tmp 113) = .agg #[.int .i64 (1 + (r : Int)), .slice fa L.length fc] := inv.get hall 0 113 (by kernel_rfl) (by kernel_rfl) rfl
                  have h119 : A1.eval (.tmp 119) = u2 := inv.get hall 6 119 (by kernel_rfl) (by kernel_rfl) rfl
                  simp [h113, h119]
                · refine (GB.out _ _ (hS.out.lf.below inv.s) (QD.out.below inv.s) (Nat.le_trans BU.out inv.s.size)).mono ?_
                  rintro e u ⟨x, rfl, ⟨hx, _⟩, hb⟩
                  exact ⟨_, rfl, ⟨x, rfl, hx⟩, hb⟩
              · refine qstep_ex (by kernel_rfl) (by kernel_rfl) rfl (fun _ A1 Y1 inv hnl hall => ⟨wanted_none rfl, ?_⟩)
                have h120 : (fun v W => ∃ x, v = .tuple #[.agg #[.int .i64 (1 + (r : Int)), x], .int .i64 0] ∧ IntsK w.heap.size W x M) (A1.eval (.tmp 120)) Y1 := inv.get hall 7 120 (by kernel_rfl) (by kernel_rfl) rfl
                exact ⟨A1.eval (.tmp 120), by simp only [execOp, Sem.run_pure], h120⟩
              · refine qstep_ex (by kernel_rfl) (by kernel_rfl) rfl (fun _ A1 Y1 inv hnl hall => ⟨wanted_none rfl, ?_⟩)
                have h112 : (fun v W => ∃ x, v = .tuple #[.agg #[.int .i64 (1 + (r : Int)), x], .int .i64 0] ∧ IntsK w.heap.size W x M) (A1.eval (.tmp 112)) Y1 := inv.get hall 8 112 (by kernel_rfl) (by kernel_rfl) rfl
                obtain ⟨x, hx, hi⟩ := h112
                refine ⟨.agg #[.int .i64 (1 + (r : Int)), x], ?_, x, rfl, hi⟩
                simp only [execOp, hx]
                simp [go_sem]
              · refine qstep_val (.int .i64 0) (by kernel_rfl) (by kernel_rfl) rfl (fun _ A1 Y1 inv hnl hall => ⟨wanted_none rfl, ?_, rfl⟩)
                have h112 : (fun v W => ∃ x, v = .tuple #[.agg #[.int .i64 (1 + (r : Int)), x], .int .i64 0] ∧ IntsK w.heap.size W x M) (A1.eval (.tmp 112)) Y1 := inv.get hall 8 112 (by kernel_rfl) (by kernel_rfl) rfl
                obtain ⟨x, hx, hi⟩ := h112
                simp only [execOp, hx]
                simp [go_sem]
              · refine qstep_run (by kernel_rfl) (by kernel_rfl) rfl (fun _ A1 Y1 inv hnl hall => ⟨wanted_none rfl, ?_⟩)
                refine ⟨.pointer (some ⟨Y1.heap.size, 0, none⟩), Y1.alloc (.cells #[.int .i64 0, .slice none 0 0] 24), ?_, ⟨_, _, _, rfl, inv.s.size, blk_new _ [.int .i64 0, .slice none 0 0] _⟩, below_box _ _⟩
                simp [execOp, go_sem]
              · refine qstep_skip (by kernel_rfl) (by kernel_rfl) rfl (fun _ A1 Y1 inv hnl hall => ⟨wanted_none rfl, ?_⟩)
                have h16 : (fun v W => ∃ b x y, v = .pointer (some ⟨b, 0, none⟩) ∧ U.heap.size ≤ b ∧ BlkAt W b [x, y] 24) (A1.eval (.tmp 16)) Y1 := inv.get hall 11 16 (by kernel_rfl) (by kernel_rfl) rfl
                have h121 : (fun v W => ∃ x, v = .agg #[.int .i64 (1 + (r : Int)), x] ∧ IntsK w.heap.size W x M) (A1.eval (.tmp 121)) Y1 := inv.get hall 9 121 (by kernel_rfl) (by kernel_rfl) rfl
                obtain ⟨b, y0, y1, hb, hB, hr⟩ := h16
                obtain ⟨x, hx, hi⟩ := h121
                obtain ⟨_, _, hh⟩ := hi.len
                refine ⟨(Y1.setCell ⟨b, 0, none⟩ (.int .i64 (1 + (r : Int)))).setCell ⟨b, 1, none⟩ x, ?_, ⟨b, x, hb, (hr.set 0 _).set 1 _, putB_k BU.out _ _ _ ⟨b, _, _, _, hB, hr, rfl⟩ hi⟩, ⟨b, _, _, _, hB, hr, rfl⟩⟩
                simp only [execOp, hb, hx]
                rw [hh]
                have c0 := hr.cell 0
                have c1 := hr.cell 1
                have f0 := hr.free 0
                have f1 := hr.free 1
                simp at c0 c1
                simp [go_sem, c0, c1, f0, f1]
              · refine qstep_val (.int .i64 0) (by kernel_rfl) (by kernel_rfl) rfl (fun _ A1 Y1 inv hnl hall => ⟨wanted_none rfl, ?_, rfl⟩)
                have h122 : A1.eval (.tmp 122) = .int .i64 0 := inv.get hall 10 122 (by kernel_rfl) (by kernel_rfl) rfl
                simp only [execOp, h122, Sem.run_pure]
            · intro listed A1 Y1 inv hall
              have e113 : A1.eval (.tmp 113) = .agg #[.int .i64 (1 + (r : Int)), .slice fa L.length fc] := inv.fin 0 113 (by kernel_rfl) (hall 0 (Nat.lt_of_lt_of_eq (by decide : 0 < 14) (by kernel_rfl))) rfl
              have e114 : A1.eval (.tmp 114) = .slice oa O.length oc := inv.fin 1 114 (by kernel_rfl) (hall 1 (Nat.lt_of_lt_of_eq (by decide : 1 < 14) (by kernel_rfl))) rfl
              have e115 : A1.eval (.tmp 115) = .slice oa O.length oc := inv.fin 2 115 (by kernel_rfl) (hall 2 (Nat.lt_of_lt_of_eq (by decide : 2 < 14) (by kernel_rfl))) rfl
              have e116 : A1.eval (.tmp 116) = .int .i64 (O.length : Int) := inv.fin 3 116 (by kernel_rfl) (hall 3 (Nat.lt_of_lt_of_eq (by decide : 3 < 14) (by kernel_rfl))) rfl
              have e117 : A1.eval (.tmp 117) = .int .i64 (n : Int) := inv.fin 4 117 (by kernel_rfl) (hall 4 (Nat.lt_of_lt_of_eq (by decide : 4 < 14) (by kernel_rfl))) rfl
              have e118 : A1.eval (.tmp 118) = .int .i64 (q : Int) := inv.fin 5 118 (by kernel_rfl) (hall 5 (Nat.lt_of_lt_of_eq (by decide : 5 < 14) (by kernel_rfl))) rfl
              have e119 : A1.eval (.tmp 119) = u2 := inv.fin 6 119 (by kernel_rfl) (hall 6 (Nat.lt_of_lt_of_eq (by decide : 6 < 14) (by kernel_rfl))) rfl
              have e122 : A1.eval (.tmp 122) = .int .i64 0 := inv.fin 10 122 (by kernel_rfl) (hall 10 (Nat.lt_of_lt_of_eq (by decide : 10 < 14) (by kernel_rfl))) rfl
              have e17 : A1.eval (.tmp 17) = .int .i64 0 := inv.fin 13 17 (by kernel_rfl) (hall 13 (Nat.lt_of_lt_of_eq (by decide : 13 < 14) (by kernel_rfl))) rfl
              have p120 : (fun v W => ∃ x, v = .tuple #[.agg #[.int .i64 (1 + (r : Int)), x], .int .i64 0] ∧ IntsK w.heap.size W x M) (A1.eval (.tmp 120)) Y1 := inv.fin 7 120 (by kernel_rfl) (hall 7 (Nat.lt_of_lt_of_eq (by decide : 7 < 14) (by kernel_rfl))) rfl
              obtain ⟨v120, e120⟩ : ∃ v, A1.eval (.tmp 120) = v := ⟨_, rfl⟩
              rw [e120] at p120
              have p112 : (fun v W => ∃ x, v = .tuple #[.agg #[.int .i64 (1 + (r : Int)), x], .int .i64 0] ∧ IntsK w.heap.size W x M) (A1.eval (.tmp 112)) Y1 := inv.fin 8 112 (by kernel_rfl) (hall 8 (Nat.lt_of_lt_of_eq (by decide : 8 < 14) (by kernel_rfl))) rfl
              obtain ⟨v112, e112⟩ : ∃ v, A1.eval (.tmp 112) = v := ⟨_, rfl⟩
              rw [e112] at p112
              have p121 : (fun v W => ∃ x, v = .agg #[.int .i64 (1 + (r : Int)), x] ∧ IntsK w.heap.size W x M) (A1.eval (.tmp 121)) Y1 := inv.fin 9 121 (by kernel_rfl) (hall 9 (Nat.lt_of_lt_of_eq (by decide : 9 < 14) (by kernel_rfl))) rfl
              obtain ⟨v121, e121⟩ : ∃ v, A1.eval (.tmp 121) = v := ⟨_, rfl⟩
              rw [e121] at p121
              have p16 : (fun v W => ∃ b x y, v = .pointer (some ⟨b, 0, none⟩) ∧ U.heap.size ≤ b ∧ BlkAt W b [x, y] 24) (A1.eval (.tmp 16)) Y1 := inv.fin 11 16 (by kernel_rfl) (hall 11 (Nat.lt_of_lt_of_eq (by decide : 11 < 14) (by kernel_rfl))) rfl
              obtain ⟨v16, e16⟩ : ∃ v, A1.eval (.tmp 16) = v := ⟨_, rfl⟩
              rw [e16] at p16
              have hst12 := inv.fin0 12 (by kernel_rfl) (hall 12 (Nat.lt_of_lt_of_eq (by decide : 12 < 14) (by kernel_rfl))) rfl
              rw [e16] at hst12
              have HF := inv.frame hall
              have HS9 := hid_mk inv.s
              simp only [putEnd, e113, e114, e115, e116, e117, e118, e119, e122, e17, e120, e112, e121, e16, Act.put, List.setIfInBounds_toArray, List.set_cons_succ, List.set_cons_zero] at HF
              clear e113 e114 e115 e116 e117 e118 e119 e122 e17 e120 e112 e121 e16 inv hall
              subst HF
              obtain ⟨bx, xp, hb16, hxp, hkp⟩ := hst12
              obtain ⟨b2, _, _, e2, hbp, _⟩ := p16
              obtain rfl : b2 = bx := by
                rw [hb16] at e2
                injection e2 with e3
                injection e3 with e4
                injection e4 with e5
                exact e5.symm
              clear e2
              obtain ⟨sa, sc, rfl⟩ := hkp.len
              subst hb16
              have NX : Hid (b2 ≠ bf) := hid_mk (fun e => by have := hS.out.box.lt; omega)
              have HS5 := hid_mk (hS.out.below HS9.out)
              have Xx := hid_mk hxp
              have QM := hid_mk hkp
              replace QO := hid_mk (QO.out.below HS9.out)
              clear hxp hkp HS9 hbp hS
              go_wp2_with fail
              obtain ⟨V, hV⟩ : ∃ V, V = Y1 := ⟨_, rfl⟩
              subst hV
              refine wp_region_outl3 5 [(11, PutAt bf)] [] []
                  [(fun v _ => v = .agg #[.int .i64 (1 + (r : Int)), .slice sa M.length sc]),
                  (fun v _ => v = .slice oa O.length oc),
                  (fun v _ => v = .slice oa O.length oc),
                  (fun v _ => v = .int .i64 (O.length : Int)),
                  (fun v _ => v = .int .i64 (n : Int)),
                  (fun v _ => v = .int .i64 (q : Int)),
                  (fun v _ => v = .slice oa O.length oc),
                  (fun v _ => v = .int .i64 (O.length : Int)),
                  (fun v _ => v = .int .i64 (n : Int)),
                  (fun v _ => v = .int .i64 (q : Int)),
                  (fun v _ => v = .slice ya q q),
                  (fun _ W => BlkAt W bf [.int .i64 (1 + (r : Int)), .slice sa M.length sc] 24),
                  (fun v _ => v = .slice ya q q)]
                  (Box1 V bf) (by kernel_rfl) (by kernel_rfl) (by kernel_rfl) ?_ (fun u u' hb h => h.below hb) (⟨Chg.of_below (Below.refl _ _).drew, _, _, HS5.out.box.below (Below.refl _ _).drew⟩) ?_ ?_ ?_ ?_ ?_
              · refine And.intro (up_eq _) ?_
                refine And.intro (up_eq _) ?_
                refine And.intro (up_eq _) ?_
                refine And.intro (up_eq _) ?_
                refine And.intro (up_eq _) ?_
                refine And.intro (up_eq _) ?_
                refine And.intro (up_eq _) ?_
                refine And.intro (up_eq _) ?_
                refine And.intro (up_eq _) ?_
                refine And.intro (up_eq _) ?_
                refine And.intro (up_eq _) ?_
                refine And.intro (fun _ _ _ hb h => h.below hb) ?_
                refine And.intro (up_eq _) ?_
                trivial
              · trivial
              · trivial
              · refine And.intro (And.intro ?_ (fun u u' hp h => h.put hp)) ?_
                · refine And.intro (fun _ _ _ => ch_eq _ _) ?_
                  refine And.intro (fun _ _ _ => ch_eq _ _) ?_
                  refine And.intro (fun _ _ _ => ch_eq _ _) ?_
                  refine And.intro (fun _ _ _ => ch_eq _ _) ?_
                  refine And.intro (fun _ _ _ => ch_eq _ _) ?_
                  refine And.intro (fun _ _ _ => ch_eq _ _) ?_
                  refine And.intro (fun _ _ _ => ch_eq _ _) ?_
                  refine And.intro (fun _ _ _ => ch_eq _ _) ?_
                  refine And.intro (fun _ _ _ => ch_eq _ _) ?_
                  refine And.intro (fun _ _ _ => ch_eq _ _) ?_
                  refine And.intro (fun _ _ _ => ch_eq _ _) ?_
                  refine And.intro (fun h _ _ => absurd rfl h) ?_
                  refine And.intro (fun _ _ _ => ch_eq _ _) ?_
                  trivial
                trivial
              · refine And.intro ?_ (And.intro ?_ (And.intro ?_ (And.intro ?_ (And.intro ?_ (And.intro ?_ (And.intro ?_ (And.intro ?_ (And.intro ?_ (And.intro ?_ (And.intro ?_ (And.intro ?_ (And.intro ?_ (True.intro)))))))))))))
                · refine qstep_val (.agg #[.int .i64 (1 + (r : Int)), .slice sa M.length sc]) (by kernel_rfl) (by kernel_rfl) rfl (fun _ A1 Y2 inv hnl hall => ⟨wanted_none rfl, ?_, rfl⟩)
                  have h16 : A1.eval (.tmp 16) = .pointer (some ⟨b2, 0, none⟩) := (inv.base 16 (by kernel_rfl)).trans rfl
                  simp only [execOp, h16, Sem.run_bind, loadFr (Xx.out.box1 inv.s NX.out), Result.andThen_ok, Sem.run_pure]
                · refine qstep_val (.slice oa O.length oc) (by kernel_rfl) (by kernel_rfl) rfl (fun _ A1 Y2 inv hnl hall => ⟨wanted_none rfl, ?_, rfl⟩)
                  have h7 : A1.eval (.tmp 7) = .slice oa O.length oc := (inv.base1 hnl 7 (by kernel_rfl)).trans rfl
                  simp only [execOp, h7, Sem.run_pure]
                · refine qstep_val (.slice oa O.length oc) (by kernel_rfl) (by kernel_rfl) rfl (fun _ A1 Y2 inv hnl hall => ⟨wanted_none rfl, ?_, rfl⟩)
                  have h7 : A1.eval (.tmp 7) = .slice oa O.length oc := (inv.base1 hnl 7 (by kernel_rfl)).trans rfl
                  simp only [execOp, h7, Sem.run_pure]
                · refine qstep_val (.int .i64 (O.length : Int)) (by kernel_rfl) (by kernel_rfl) rfl (fun _ A1 Y2 inv hnl hall => ⟨wanted_none rfl, ?_, rfl⟩)
                  have h127 : A1.eval (.tmp 127) = .slice oa O.length oc := inv.get hall 2 127 (by kernel_rfl) (by kernel_rfl) rfl
                  have hl : (Builtin.len_ #[22] 3 #[.slice oa O.length oc]).run Try.prog Y2 = .ok (.int .i64 (O.length : Int)) Y2 := by simp [go_sem]
                  simp only [execOp]
                  simp [resolve, invoke, builtin, h127, hl, Result.andThen]
                · refine qstep_val (.int .i64 (n : Int)) (by kernel_rfl) (by kernel_rfl) rfl (fun _ A1 Y2 inv hnl hall => ⟨wanted_none rfl, ?_, rfl⟩)
                  have h15 : A1.eval (.tmp 15) = .int .i64 (n : Int) := (inv.base 15 (by kernel_rfl)).trans rfl
                  simp only [execOp, h15, Sem.run_pure]
                · refine qstep_val (.int .i64 (q : Int)) (by kernel_rfl) (by kernel_rfl) rfl (fun _ A1 Y2 inv hnl hall => ⟨wanted_none rfl, ?_, rfl⟩)
                  have h128 : A1.eval (.tmp 128) = .int .i64 (O.length : Int) := inv.get hall 3 128 (by kernel_rfl) (by kernel_rfl) rfl
                  have h129 : A1.eval (.tmp 129) = .int .i64 (n : Int) := inv.get hall 4 129 (by kernel_rfl) (by kernel_rfl) rfl
                  simp only [execOp, h128, h129]
                  have hqw := HQW.out
                  simp [eqGuard, go_sem, hqw]
                · refine qstep_val (.slice oa O.length oc) (by kernel_rfl) (by kernel_rfl) rfl (fun _ A1 Y2 inv hnl hall => ⟨wanted_none rfl, ?_, rfl⟩)
                  have h7 : A1.eval (.tmp 7) = .slice oa O.length oc := (inv.base1 hnl 7 (by kernel_rfl)).trans rfl
                  simp only [execOp, h7, Sem.run_pure]
                · refine qstep_val (.int .i64 (O.length : Int)) (by kernel_rfl) (by kernel_rfl) rfl (fun _ A1 Y2 inv hnl hall => ⟨wanted_none rfl, ?_, rfl⟩)
                  have h131 : A1.eval (.tmp 131) = .slice oa O.length oc := inv.get hall 6 131 (by kernel_rfl) (by kernel_rfl) rfl
                  have hl : (Builtin.len_ #[22] 3 #[.slice oa O.length oc]).run Try.prog Y2 = .ok (.int .i64 (O.length : Int)) Y2 := by simp [go_sem]
                  simp only [execOp]
                  simp [resolve, invoke, builtin, h131, hl, Result.andThen]
                · refine qstep_val (.int .i64 (n : Int)) (by kernel_rfl) (by kernel_rfl) rfl (fun _ A1 Y2 inv hnl hall => ⟨wanted_none rfl, ?_, rfl⟩)
                  have h15 : A1.eval (.tmp 15) = .int .i64 (n : Int) := (inv.base 15 (by kernel_rfl)).trans rfl
                  simp only [execOp, h15, Sem.run_pure]
                · refine qstep_val (.int .i64 (q : Int)) (by kernel_rfl) (by kernel_rfl) rfl (fun _ A1 Y2 inv hnl hall => ⟨wanted_none rfl, ?_, rfl⟩)
                  have h132 : A1.eval (.tmp 132) = .int .i64 (O.length : Int) := inv.get hall 7 132 (by kernel_rfl) (by kernel_rfl) rfl
                  have h133 : A1.eval (.tmp 133) = .int .i64 (n : Int) := inv.get hall 8 133 (by kernel_rfl) (by kernel_rfl) rfl
                  simp only [execOp, h132, h133]
                  have hqw := HQW.out
                  simp [eqGuard, go_sem, hqw]
                · refine qstep_val (.slice ya q q) (by kernel_rfl) (by kernel_rfl) rfl (fun _ A1 Y2 inv hnl hall => ⟨wanted_none rfl, ?_, rfl⟩)
                  have h126 : A1.eval (.tmp 126) = .slice oa O.length oc := inv.get hall 1 126 (by kernel_rfl) (by kernel_rfl) rfl
                  have h130 : A1.eval (.tmp 130) = .int .i64 (q : Int) := inv.get hall 5 130 (by kernel_rfl) (by kernel_rfl) rfl
                  have h134 : A1.eval (.tmp 134) = .int .i64 (q : Int) := inv.get hall 9 134 (by kernel_rfl) (by kernel_rfl) rfl
                  have gg := HS3.out Y2
                  simp only [execOp, Option.map, h126, h130, h134]
                  simp [gg, Result.andThen]
                · refine qstep_skip (by kernel_rfl) (by kernel_rfl) rfl (fun _ A1 Y2 inv hnl hall => ⟨wanted_none rfl, ?_⟩)
                  have h5 : A1.eval (.tmp 5) = .pointer (some ⟨bf, 0, none⟩) := (inv.base 5 (by kernel_rfl)).trans rfl
                  have h125 : A1.eval (.tmp 125) = .agg #[.int .i64 (1 + (r : Int)), .slice sa M.length sc] := inv.get hall 0 125 (by kernel_rfl) (by kernel_rfl) rfl
                  obtain ⟨y0, y1, hr⟩ := inv.s.box
                  refine ⟨(Y2.setCell ⟨bf, 0, none⟩ (.int .i64 (1 + (r : Int)))).setCell ⟨bf, 1, none⟩ (.slice sa M.length sc), ?_, (hr.set 0 _).set 1 _, ⟨_, _, _, hr, rfl⟩⟩
                  simp only [execOp, h5, h125]
                  have c0 := hr.cell 0
                  have c1 := hr.cell 1
                  have f0 := hr.free 0
                  have f1 := hr.free 1
                  simp at c0 c1
                  simp [go_sem, c0, c1, f0, f1]
                · refine qstep_val (.slice ya q q) (by kernel_rfl) (by kernel_rfl) rfl (fun _ A1 Y2 inv hnl hall => ⟨wanted_none rfl, ?_, rfl⟩)
                  have h135 : A1.eval (.tmp 135) = .slice ya q q := inv.get hall 10 135 (by kernel_rfl) (by kernel_rfl) rfl
                  simp only [execOp, h135, Sem.run_pure]
              · intro listed A1 Y2 inv hall
                have e125 : A1.eval (.tmp 125) = .agg #[.int .i64 (1 + (r : Int)), .slice sa M.length sc] := inv.fin 0 125 (by kernel_rfl) (hall 0 (Nat.lt_of_lt_of_eq (by decide : 0 < 13) (by kernel_rfl))) rfl
                have e126 : A1.eval (.tmp 126) = .slice oa O.length oc := inv.fin 1 126 (by kernel_rfl) (hall 1 (Nat.lt_of_lt_of_eq (by decide : 1 < 13) (by kernel_rfl))) rfl
                have e127 : A1.eval (.tmp 127) = .slice oa O.length oc := inv.fin 2 127 (by kernel_rfl) (hall 2 (Nat.lt_of_lt_of_eq (by decide : 2 < 13) (by kernel_rfl))) rfl
                have e128 : A1.eval (.tmp 128) = .int .i64 (O.length : Int) := inv.fin 3 128 (by kernel_rfl) (hall 3 (Nat.lt_of_lt_of_eq (by decide : 3 < 13) (by kernel_rfl))) rfl
                have e129 : A1.eval (.tmp 129) = .int .i64 (n : Int) := inv.fin 4 129 (by kernel_rfl) (hall 4 (Nat.lt_of_lt_of_eq (by decide : 4 < 13) (by kernel_rfl))) rfl
                have e130 : A1.eval (.tmp 130) = .int .i64 (q : Int) := inv.fin 5 130 (by kernel_rfl) (hall 5 (Nat.lt_of_lt_of_eq (by decide : 5 < 13) (by kernel_rfl))) rfl
                have e131 : A1.eval (.tmp 131) = .slice oa O.length oc := inv.fin 6 131 (by kernel_rfl) (hall 6 (Nat.lt_of_lt_of_eq (by decide : 6 < 13) (by kernel_rfl))) rfl
                have e132 : A1.eval (.tmp 132) = .int .i64 (O.length : Int) := inv.fin 7 132 (by kernel_rfl) (hall 7 (Nat.lt_of_lt_of_eq (by decide : 7 < 13) (by kernel_rfl))) rfl
                have e133 : A1.eval (.tmp 133) = .int .i64 (n : Int) := inv.fin 8 133 (by kernel_rfl) (hall 8 (Nat.lt_of_lt_of_eq (by decide : 8 < 13) (by kernel_rfl))) rfl
                have e134 : A1.eval (.tmp 134) = .int .i64 (q : Int) := inv.fin 9 134 (by kernel_rfl) (hall 9 (Nat.lt_of_lt_of_eq (by decide : 9 < 13) (by kernel_rfl))) rfl
                have e135 : A1.eval (.tmp 135) = .slice ya q q := inv.fin 10 135 (by kernel_rfl) (hall 10 (Nat.lt_of_lt_of_eq (by decide : 10 < 13) (by kernel_rfl))) rfl
                have e7 : A1.eval (.tmp 7) = .slice ya q q := inv.fin 12 7 (by kernel_rfl) (hall 12 (Nat.lt_of_lt_of_eq (by decide : 12 < 13) (by kernel_rfl))) rfl
                have hst11 := inv.fin0 11 (by kernel_rfl) (hall 11 (Nat.lt_of_lt_of_eq (by decide : 11 < 13) (by kernel_rfl))) rfl
                have HF := inv.frame hall
                have HS9 := hid_mk inv.s
                simp only [putEnd, e125, e126, e127, e128, e129, e130, e131, e132, e133, e134, e135, e7, Act.put, List.setIfInBounds_toArray, List.set_cons_succ, List.set_cons_zero] at HF
                clear e125 e126 e127 e128 e129 e130 e131 e132 e133 e134 e135 e7 inv hall
                subst HF
                have HS6 := hid_mk (HS5.out.given (bx := 0) HS9.out QM.out hst11 QO.out HqO.out HGd.out)
                go_wp2_with fail
                go_meet
                case rel => exact ⟨_, _, _, ⟨_, _, by rw [List.length_take, Nat.min_eq_left HqO.out]⟩, HS6⟩
      case rest =>
      obtain ⟨vf2, L2, O2, ⟨oa2, oc2, rfl⟩, hS2⟩ := hcut
      clear hS HC d0 hlti
      obtain ⟨fa2, fc2, rfl⟩ := hS2.out.lf.len
      have hgl := hS2.out.good.len
      have hr5 := HR4.out
      have hOl : (O2.length : Int) ≤ 1 + (r : Int) := by omega
      have HO3 : Hid (O2.length ≤ 1000) := hid_mk (by omega)
      have hO3 : (O2.length : Int) ≤ 300 := by omega
      have HL3 : Hid (L2.length ≤ 100000) := hid_mk (by omega)
      have HIn := hid_mk (fun j (hj : j < O2.length) => hS2.out.good.at hj)
      obtain ⟨g1, g2⟩ := hS2.out.good.cnt
      have CN := hid_mk (fun (u : World) (hq : IntsZ u (.slice fa2 L2.length fc2) L2) => frcount (1 + (r : Int)) (.slice fa2 L2.length fc2) L2 u hq HI.out HL3.out)
      have CC := hid_mk (fun (u : World) (hq : IntsZ u (.slice fa2 L2.length fc2) L2) => frcheck (1 + (r : Int)) (.slice fa2 L2.length fc2) L2 u hq HI.out HL3.out)
      rw [g1] at CN
      rw [g2] at CC
      unfold frV at CN CC
      have hne : ((1 + (r : Int) - (O2.length : Int)) != (1 + (r : Int) - (O2.length : Int))) = false := by simp
      have HSn := hid_mk (SeenS.start wc O2)
      clear g1 g2 hgl hr5
      have hmm := @run_makeMap Try.prog
      obtain ⟨U, hU⟩ : ∃ U, U = wc := ⟨_, rfl⟩
      subst hU
      go_wp2_with fail
      generalize hmb : U.heap.size = mb at *
      clear hmm
      go_loopw [19] (fun i wr => ∃ j : Nat, j ≤ O2.length ∧ i = .int .i64 j ∧ Hid (SeenS U mb O2 j wr)) (fun i _ => O2.length - (intOf i).toNat)
      case atStart => exact ⟨0, Nat.zero_le _, rfl, HSn⟩
      case round =>
        clear HSn
        obtain ⟨j, hj, rfl, hsn⟩ := hrel
        by_cases hjl : j < O2.length
        · obtain ⟨b2, o2, rfl, hbw2, hcz⟩ : ∃ b o, oa2 = some ⟨b, o, none⟩ ∧ b < U.heap.size ∧ U.cell? ⟨b, o + j, none⟩ = some (.int .i64 (O2.getD j 0)) := by
            rcases hS2.out.lo.1.1 with ⟨_, e⟩ | ⟨b, o, c, h1, h2, _, h3⟩
            · rw [e] at hjl
              simp at hjl
            · cases h1
              exact ⟨b, o, rfl, h2, h3 j hjl⟩
          obtain ⟨n1, n2, n3, n4⟩ := HIn.out j hjl
          have hx64 : I64 (O2.getD j 0) := by
            have := HR4.out
            constructor <;> omega
          have HCz := hid_mk (fun (u : World) (hb : Below U.heap.size U u) => (hb.cell (p := ⟨b2, o2 + j, none⟩) hbw2).trans hcz)
          have HNx := hid_mk (fun (u : World) (hu : SeenS U mb O2 j u) => hu.next hjl HO3.out hx64)
          have HNo := hid_mk (fun (u : World) (hu : SeenS U mb O2 j u) => hu.no hx64 n1)
          have CI := hid_mk (fun (u : World) (hq : IntsZ u (.slice fa2 L2.length fc2) L2) => fris (1 + (r : Int)) (.slice fa2 L2.length fc2) L2 (O2.getD j 0) u hq HI.out hx64 HL3.out)
          rw [n2] at CI
          unfold frV at CI
          have hji : (j : Int) < (O2.length : Int) := by omega
          have hj6 : (j : Int) < 1000 := by
            have := HO3.out
            omega
          have d1 : decide (O2.getD j 0 < 0) = false := decide_eq_false (by omega)
          have d2 : decide (1 + (r : Int) ≤ O2.getD j 0) = false := decide_eq_false (by omega)
          have HX := hid_mk (And.intro n3 n4)
          clear n1 n2 n3 n4 hx64 hcz
          generalize O2.getD j 0 = x at *
          go_wp2_with fail
          refine wp_region_outl3 0 [] [] []
              [(fun v _ => v = .map (some mb)),
              (fun v _ => v = .slice (some ⟨b2, o2, none⟩) O2.length oc2),
              (fun v _ => v = .int .i64 (j : Int)),
              (fun v _ => v = .pointer (some ⟨b2, o2 + j, none⟩)),
              (fun v _ => v = .int .i64 x),
              (fun v _ => v = .bool false),
              (fun v _ => v = .bool false),
              (fun v _ => v = .agg #[.int .i64 (1 + (r : Int)), .slice fa2 L2.length fc2]),
              (fun v _ => v = .slice (some ⟨b2, o2, none⟩) O2.length oc2),
              (fun v _ => v = .int .i64 (j : Int)),
              (fun v _ => v = .pointer (some ⟨b2, o2 + j, none⟩)),
              (fun v _ => v = .int .i64 x),
              (fun v _ => v = .bool false),
              (fun v _ => v = .bool false),
              (fun v _ => v = .bool false),
              (fun v _ => v = .slice (some ⟨b2, o2, none⟩) O2.length oc2),
              (fun v _ => v = .int .i64 (j : Int)),
              (fun v _ => v = .pointer (some ⟨b2, o2 + j, none⟩)),
              (fun v _ => v = .int .i64 x),
              (fun v _ => v = .bool false),
              (fun v _ => v = .bool false),
              (fun v _ => v = .bool false),
              (fun v _ => v = .slice (some ⟨b2, o2, none⟩) O2.length oc2),
              (fun v _ => v = .int .i64 (j : Int)),
              (fun v _ => v = .pointer (some ⟨b2, o2 + j, none⟩)),
              (fun v _ => v = .int .i64 x),
              (fun v _ => v = .int .i64 (1 + (r : Int))),
              (fun v _ => v = .bool false),
              (fun v _ => v = .bool false)]
              (Below wr.heap.size wr) (by kernel_rfl) (by kernel_rfl) (by kernel_rfl) ?_ (fun u u' hb h => h.trans (hb.mono h.size)) ((Below.refl _ _).drew) ?_ ?_ ?_ ?_ ?_
          · refine And.intro (up_eq _) ?_
            refine And.intro (up_eq _) ?_
            refine And.intro (up_eq _) ?_
            refine And.intro (up_eq _) ?_
            refine And.intro (up_eq _) ?_
            refine And.intro (up_eq _) ?_
            refine And.intro (up_eq _) ?_
            refine And.intro (up_eq _) ?_
            refine And.intro (up_eq _) ?_
            refine And.intro (up_eq _) ?_
            refine And.intro (up_eq _) ?_
            refine And.intro (up_eq _) ?_
            refine And.intro (up_eq _) ?_
            refine And.intro (up_eq _) ?_
            refine And.intro (up_eq _) ?_
            refine And.intro (up_eq _) ?_
            refine And.intro (up_eq _) ?_
            refine And.intro (up_eq _) ?_
            refine And.intro (up_eq _) ?_
            refine And.intro (up_eq _) ?_
            refine And.intro (up_eq _) ?_
            refine And.intro (up_eq _) ?_
            refine And.intro (up_eq _) ?_
            refine And.intro (up_eq _) ?_
            refine And.intro (up_eq _) ?_
            refine And.intro (up_eq _) ?_
            refine And.intro (up_eq _) ?_
            refine And.intro (up_eq _) ?_
            refine And.intro (up_eq _) ?_
            trivial
          · trivial
          · trivial
          · trivial
          · refine And.intro ?_ (And.intro ?_ (And.intro ?_ (And.intro ?_ (And.intro ?_ (And.intro ?_ (And.intro ?_ (And.intro ?_ (And.intro ?_ (And.intro ?_ (And.intro ?_ (And.intro ?_ (And.intro ?_ (And.intro ?_ (And.intro ?_ (And.intro ?_ (And.intro ?_ (And.intro ?_ (And.intro ?_ (And.intro ?_ (And.intro ?_ (And.intro ?_ (And.intro ?_ (And.intro ?_ (And.intro ?_ (And.intro ?_ (And.intro ?_ (And.intro ?_ (And.intro ?_ (True.intro)))))))))))))))))))))))))))))
            · refine qstep_val (.map (some mb)) (by kernel_rfl) (by kernel_rfl) rfl (fun _ A1 Y3 inv hnl hall => ⟨wanted_none rfl, ?_, rfl⟩)
              have h18 : A1.eval (.tmp 18) = .map (some mb) := (inv.base 18 (by kernel_rfl)).trans rfl
              simp only [execOp, h18, Sem.run_pure]
            · refine qstep_val (.slice (some ⟨b2, o2, none⟩) O2.length oc2) (by kernel_rfl) (by kernel_rfl) rfl (fun _ A1 Y3 inv hnl hall => ⟨wanted_none rfl, ?_, rfl⟩)
              have h7 : A1.eval (.tmp 7) = .slice (some ⟨b2, o2, none⟩) O2.length oc2 := (inv.base 7 (by kernel_rfl)).trans rfl
              simp only [execOp, h7, Sem.run_pure]
            · refine qstep_val (.int .i64 (j : Int)) (by kernel_rfl) (by kernel_rfl) rfl (fun _ A1 Y3 inv hnl hall => ⟨wanted_none rfl, ?_, rfl⟩)
              have h19 : A1.eval (.tmp 19) = .int .i64 (j : Int) := (inv.base 19 (by kernel_rfl)).trans rfl
              simp only [execOp, h19, Sem.run_pure]
            · refine qstep_val (.pointer (some ⟨b2, o2 + j, none⟩)) (by kernel_rfl) (by kernel_rfl) rfl (fun _ A1 Y3 inv hnl hall => ⟨wanted_none rfl, ?_, rfl⟩)
              have h144 : A1.eval (.tmp 144) = .slice (some ⟨b2, o2, none⟩) O2.length oc2 := inv.get hall 1 144 (by kernel_rfl) (by kernel_rfl) rfl
              have h145 : A1.eval (.tmp 145) = .int .i64 (j : Int) := inv.get hall 2 145 (by kernel_rfl) (by kernel_rfl) rfl
              simp only [execOp, h144, h145]
              simp [go_sem, hji]
            · refine qstep_val (.int .i64 x) (by kernel_rfl) (by kernel_rfl) rfl (fun _ A1 Y3 inv hnl hall => ⟨wanted_none rfl, ?_, rfl⟩)
              have h146 : A1.eval (.tmp 146) = .pointer (some ⟨b2, o2 + j, none⟩) := inv.get hall 3 146 (by kernel_rfl) (by kernel_rfl) rfl
              have gg := HCz.out Y3 (hsn.out.below inv.s).bel
              simp only [execOp, h146]
              simp [go_sem, gg]
            · refine qstep_val (.bool false) (by kernel_rfl) (by kernel_rfl) rfl (fun _ A1 Y3 inv hnl hall => ⟨wanted_none rfl, ?_, rfl⟩)
              have h143 : A1.eval (.tmp 143) = .map (some mb) := inv.get hall 0 143 (by kernel_rfl) (by kernel_rfl) rfl
              have h147 : A1.eval (.tmp 147) = .int .i64 x := inv.get hall 4 147 (by kernel_rfl) (by kernel_rfl) rfl
              have gg := HNo.out Y3 (hsn.out.below inv.s)
              simp only [execOp, h143, h147]
              simp [gg, Result.andThen]
            · refine qstep_val (.bool false) (by kernel_rfl) (by kernel_rfl) rfl (fun _ A1 Y3 inv hnl hall => ⟨wanted_none rfl, ?_, rfl⟩)
              have h148 : A1.eval (.tmp 148) = .bool false := inv.get hall 5 148 (by kernel_rfl) (by kernel_rfl) rfl
              simp only [execOp, h148, Sem.run_pure]
            · refine qstep_val (.agg #[.int .i64 (1 + (r : Int)), .slice fa2 L2.length fc2]) (by kernel_rfl) (by kernel_rfl) rfl (fun _ A1 Y3 inv hnl hall => ⟨wanted_some (g := 6) (d := 149) (b := false) rfl (by kernel_rfl) (inv.get hall 6 149 (by kernel_rfl) (by kernel_rfl) rfl), ?_, rfl⟩)
              have h5 : A1.eval (.tmp 5) = .pointer (some ⟨bf, 0, none⟩) := (inv.base 5 (by kernel_rfl)).trans rfl
              simp only [execOp, h5, Sem.run_bind, loadFr (hS2.out.box.below (hsn.out.below inv.s).bel), Result.andThen_ok, Sem.run_pure]
            · refine qstep_val (.slice (some ⟨b2, o2, none⟩) O2.length oc2) (by kernel_rfl) (by kernel_rfl) rfl (fun _ A1 Y3 inv hnl hall => ⟨wanted_some (g := 6) (d := 149) (b := false) rfl (by kernel_rfl) (inv.get hall 6 149 (by kernel_rfl) (by kernel_rfl) rfl), ?_, rfl⟩)
              have h7 : A1.eval (.tmp 7) = .slice (some ⟨b2, o2, none⟩) O2.length oc2 := (inv.base 7 (by kernel_rfl)).trans rfl
              simp only [execOp, h7, Sem.run_pure]
            · refine qstep_val (.int .i64 (j : Int)) (by kernel_rfl) (by kernel_rfl) rfl (fun _ A1 Y3 inv hnl hall => ⟨wanted_some (g := 6) (d := 149) (b := false) rfl (by kernel_rfl) (inv.get hall 6 149 (by kernel_rfl) (by kernel_rfl) rfl), ?_, rfl⟩)
              have h19 : A1.eval (.tmp 19) = .int .i64 (j : Int) := (inv.base 19 (by kernel_rfl)).trans rfl
              simp only [execOp, h19, Sem.run_pure]
            · refine qstep_val (.pointer (some ⟨b2, o2 + j, none⟩)) (by kernel_rfl) (by kernel_rfl) rfl (fun _ A1 Y3 inv hnl hall => ⟨wanted_some (g := 6) (d := 149) (b := false) rfl (by kernel_rfl) (inv.get hall 6 149 (by kernel_rfl) (by kernel_rfl) rfl), ?_, rfl⟩)
              have h151 : A1.eval (.tmp 151) = .slice (some ⟨b2, o2, none⟩) O2.length oc2 := inv.get hall 8 151 (by kernel_rfl) (by kernel_rfl) rfl
              have h152 : A1.eval (.tmp 152) = .int .i64 (j : Int) := inv.get hall 9 152 (by kernel_rfl) (by kernel_rfl) rfl
              simp only [execOp, h151, h152]
              simp [go_sem, hji]
            · refine qstep_val (.int .i64 x) (by kernel_rfl) (by kernel_rfl) rfl (fun _ A1 Y3 inv hnl hall => ⟨wanted_some (g := 6) (d := 149) (b := false) rfl (by kernel_rfl) (inv.get hall 6 149 (by kernel_rfl) (by kernel_rfl) rfl), ?_, rfl⟩)
              have h153 : A1.eval (.tmp 153) = .pointer (some ⟨b2, o2 + j, none⟩) := inv.get hall 10 153 (by kernel_rfl) (by kernel_rfl) rfl
              have gg := HCz.out Y3 (hsn.out.below inv.s).bel
              simp only [execOp, h153]
              simp [go_sem, gg]
            · refine qstep_call 12 (by kernel_rfl) _ _ (by kernel_rfl) (by kernel_rfl) rfl rfl (fun _ A1 Y3 inv hnl hall => ⟨wanted_some (g := 6) (d := 149) (b := false) rfl (by kernel_rfl) (inv.get hall 6 149 (by kernel_rfl) (by kernel_rfl) rfl), #[.agg #[.int .i64 (1 + (r : Int)), .slice fa2 L2.length fc2], .int .i64 x], ?_, ?_⟩)
              · have h150 : A1.eval (.tmp 150) = .agg #[.int .i64 (1 + (r : Int)), .slice fa2 L2.length fc2] := inv.get hall 7 150 (by kernel_rfl) (by kernel_rfl) rfl
                have h154 : A1.eval (.tmp 154) = .int .i64 x := inv.get hall 11 154 (by kernel_rfl) (by kernel_rfl) rfl
                simp [h150, h154]
              · refine (CI.out _ (hS2.out.below (hsn.out.below inv.s).bel).lf.1).mono ?_
                rintro e u ⟨rfl, hb⟩
                exact ⟨_, rfl, rfl, hb⟩
            · refine qstep_val (.bool false) (by kernel_rfl) (by kernel_rfl) rfl (fun _ A1 Y3 inv hnl hall => ⟨wanted_none rfl, ?_, rfl⟩)
              have h149 : A1.eval (.tmp 149) = .bool false := inv.get hall 6 149 (by kernel_rfl) (by kernel_rfl) rfl
              have h155 : A1.eval (.tmp 155) = .bool false := inv.get hall 12 155 (by kernel_rfl) (by kernel_rfl) rfl
              simp only [execOp, h149, h155]
              simp [asBool]
            · refine qstep_val (.bool false) (by kernel_rfl) (by kernel_rfl) rfl (fun _ A1 Y3 inv hnl hall => ⟨wanted_none rfl, ?_, rfl⟩)
              have h156 : A1.eval (.tmp 156) = .bool false := inv.get hall 13 156 (by kernel_rfl) (by kernel_rfl) rfl
              simp only [execOp, h156, Sem.run_pure]
            · refine qstep_val (.slice (some ⟨b2, o2, none⟩) O2.length oc2) (by kernel_rfl) (by kernel_rfl) rfl (fun _ A1 Y3 inv hnl hall => ⟨wanted_some (g := 14) (d := 157) (b := false) rfl (by kernel_rfl) (inv.get hall 14 157 (by kernel_rfl) (by kernel_rfl) rfl), ?_, rfl⟩)
              have h7 : A1.eval (.tmp 7) = .slice (some ⟨b2, o2, none⟩) O2.length oc2 := (inv.base 7 (by kernel_rfl)).trans rfl
              simp only [execOp, h7, Sem.run_pure]
            · refine qstep_val (.int .i64 (j : Int)) (by kernel_rfl) (by kernel_rfl) rfl (fun _ A1 Y3 inv hnl hall => ⟨wanted_some (g := 14) (d := 157) (b := false) rfl (by kernel_rfl) (inv.get hall 14 157 (by kernel_rfl) (by kernel_rfl) rfl), ?_, rfl⟩)
              have h19 : A1.eval (.tmp 19) = .int .i64 (j : Int) := (inv.base 19 (by kernel_rfl)).trans rfl
              simp only [execOp, h19, Sem.run_pure]
            · refine qstep_val (.pointer (some ⟨b2, o2 + j, none⟩)) (by kernel_rfl) (by kernel_rfl) rfl (fun _ A1 Y3 inv hnl hall => ⟨wanted_some (g := 14) (d := 157) (b := false) rfl (by kernel_rfl) (inv.get hall 14 157 (by kernel_rfl) (by kernel_rfl) rfl), ?_, rfl⟩)
              have h158 : A1.eval (.tmp 158) = .slice (some ⟨b2, o2, none⟩) O2.length oc2 := inv.get hall 15 158 (by kernel_rfl) (by kernel_rfl) rfl
              have h159 : A1.eval (.tmp 159) = .int .i64 (j : Int) := inv.get hall 16 159 (by kernel_rfl) (by kernel_rfl) rfl
              simp only [execOp, h158, h159]
              simp [go_sem, hji]
            · refine qstep_val (.int .i64 x) (by kernel_rfl) (by kernel_rfl) rfl (fun _ A1 Y3 inv hnl hall => ⟨wanted_some (g := 14) (d := 157) (b := false) rfl (by kernel_rfl) (inv.get hall 14 157 (by kernel_rfl) (by kernel_rfl) rfl), ?_, rfl⟩)
              have h160 : A1.eval (.tmp 160) = .pointer (some ⟨b2, o2 + j, none⟩) := inv.get hall 17 160 (by kernel_rfl) (by kernel_rfl) rfl
              have gg := HCz.out Y3 (hsn.out.below inv.s).bel
              simp only [execOp, h160]
              simp [go_sem, gg]
            · refine qstep_val (.bool false) (by kernel_rfl) (by kernel_rfl) rfl (fun _ A1 Y3 inv hnl hall => ⟨wanted_some (g := 14) (d := 157) (b := false) rfl (by kernel_rfl) (inv.get hall 14 157 (by kernel_rfl) (by kernel_rfl) rfl), ?_, rfl⟩)
              have h161 : A1.eval (.tmp 161) = .int .i64 x := inv.get hall 18 161 (by kernel_rfl) (by kernel_rfl) rfl
              simp only [execOp, h161]
              simp [eqGuard, go_sem]
              have hxx := HX.out
              omega
            · refine qstep_val (.bool false) (by kernel_rfl) (by kernel_rfl) rfl (fun _ A1 Y3 inv hnl hall => ⟨wanted_none rfl, ?_, rfl⟩)
              have h157 : A1.eval (.tmp 157) = .bool false := inv.get hall 14 157 (by kernel_rfl) (by kernel_rfl) rfl
              have h162 : A1.eval (.tmp 162) = .bool false := inv.get hall 19 162 (by kernel_rfl) (by kernel_rfl) rfl
              simp only [execOp, h157, h162]
              simp [asBool]
            · refine qstep_val (.bool false) (by kernel_rfl) (by kernel_rfl) rfl (fun _ A1 Y3 inv hnl hall => ⟨wanted_none rfl, ?_, rfl⟩)
              have h163 : A1.eval (.tmp 163) = .bool false := inv.get hall 20 163 (by kernel_rfl) (by kernel_rfl) rfl
              simp only [execOp, h163, Sem.run_pure]
            · refine qstep_val (.slice (some ⟨b2, o2, none⟩) O2.length oc2) (by kernel_rfl) (by kernel_rfl) rfl (fun _ A1 Y3 inv hnl hall => ⟨wanted_some (g := 21) (d := 164) (b := false) rfl (by kernel_rfl) (inv.get hall 21 164 (by kernel_rfl) (by kernel_rfl) rfl), ?_, rfl⟩)
              have h7 : A1.eval (.tmp 7) = .slice (some ⟨b2, o2, none⟩) O2.length oc2 := (inv.base 7 (by kernel_rfl)).trans rfl
              simp only [execOp, h7, Sem.run_pure]
            · refine qstep_val (.int .i64 (j : Int)) (by kernel_rfl) (by kernel_rfl) rfl (fun _ A1 Y3 inv hnl hall => ⟨wanted_some (g := 21) (d := 164) (b := false) rfl (by kernel_rfl) (inv.get hall 21 164 (by kernel_rfl) (by kernel_rfl) rfl), ?_, rfl⟩)
              have h19 : A1.eval (.tmp 19) = .int .i64 (j : Int) := (inv.base 19 (by kernel_rfl)).trans rfl
              simp only [execOp, h19, Sem.run_pure]
            · refine qstep_val (.pointer (some ⟨b2, o2 + j, none⟩)) (by kernel_rfl) (by kernel_rfl) rfl (fun _ A1 Y3 inv hnl hall => ⟨wanted_some (g := 21) (d := 164) (b := false) rfl (by kernel_rfl) (inv.get hall 21 164 (by kernel_rfl) (by kernel_rfl) rfl), ?_, rfl⟩)
              have h165 : A1.eval (.tmp 165) = .slice (some ⟨b2, o2, none⟩) O2.length oc2 := inv.get hall 22 165 (by kernel_rfl) (by kernel_rfl) rfl
              have h166 : A1.eval (.tmp 166) = .int .i64 (j : Int) := inv.get hall 23 166 (by kernel_rfl) (by kernel_rfl) rfl
              simp only [execOp, h165, h166]
              simp [go_sem, hji]
            · refine qstep_val (.int .i64 x) (by kernel_rfl) (by kernel_rfl) rfl (fun _ A1 Y3 inv hnl hall => ⟨wanted_some (g := 21) (d := 164) (b := false) rfl (by kernel_rfl) (inv.get hall 21 164 (by kernel_rfl) (by kernel_rfl) rfl), ?_, rfl⟩)
              have h167 : A1.eval (.tmp 167) = .pointer (some ⟨b2, o2 + j, none⟩) := inv.get hall 24 167 (by kernel_rfl) (by kernel_rfl) rfl
              have gg := HCz.out Y3 (hsn.out.below inv.s).bel
              simp only [execOp, h167]
              simp [go_sem, gg]
            · refine qstep_val (.int .i64 (1 + (r : Int))) (by kernel_rfl) (by kernel_rfl) rfl (fun _ A1 Y3 inv hnl hall => ⟨wanted_some (g := 21) (d := 164) (b := false) rfl (by kernel_rfl) (inv.get hall 21 164 (by kernel_rfl) (by kernel_rfl) rfl), ?_, rfl⟩)
              have h0 : A1.eval (.tmp 0) = .int .i64 (1 + (r : Int)) := (inv.base 0 (by kernel_rfl)).trans rfl
              simp only [execOp, h0, Sem.run_pure]
            · refine qstep_val (.bool false) (by kernel_rfl) (by kernel_rfl) rfl (fun _ A1 Y3 inv hnl hall => ⟨wanted_some (g := 21) (d := 164) (b := false) rfl (by kernel_rfl) (inv.get hall 21 164 (by kernel_rfl) (by kernel_rfl) rfl), ?_, rfl⟩)
              have h168 : A1.eval (.tmp 168) = .int .i64 x := inv.get hall 25 168 (by kernel_rfl) (by kernel_rfl) rfl
              have h169 : A1.eval (.tmp 169) = .int .i64 (1 + (r : Int)) := inv.get hall 26 169 (by kernel_rfl) (by kernel_rfl) rfl
              simp only [execOp, h168, h169]
              simp [eqGuard, go_sem]
              have hxx := HX.out
              omega
            · refine qstep_val (.bool false) (by kernel_rfl) (by kernel_rfl) rfl (fun _ A1 Y3 inv hnl hall => ⟨wanted_none rfl, ?_, rfl⟩)
              have h164 : A1.eval (.tmp 164) = .bool false := inv.get hall 21 164 (by kernel_rfl) (by kernel_rfl) rfl
              have h170 : A1.eval (.tmp 170) = .bool false := inv.get hall 27 170 (by kernel_rfl) (by kernel_rfl) rfl
              simp only [execOp, h164, h170]
              simp [asBool]
          · intro listed A1 Y3 inv hall
            have e143 : A1.eval (.tmp 143) = .map (some mb) := inv.fin 0 143 (by kernel_rfl) (hall 0 (Nat.lt_of_lt_of_eq (by decide : 0 < 29) (by kernel_rfl))) rfl
            have e144 : A1.eval (.tmp 144) = .slice (some ⟨b2, o2, none⟩) O2.length oc2 := inv.fin 1 144 (by kernel_rfl) (hall 1 (Nat.lt_of_lt_of_eq (by decide : 1 < 29) (by kernel_rfl))) rfl
            have e145 : A1.eval (.tmp 145) = .int .i64 (j : Int) := inv.fin 2 145 (by kernel_rfl) (hall 2 (Nat.lt_of_lt_of_eq (by decide : 2 < 29) (by kernel_rfl))) rfl
            have e146 : A1.eval (.tmp 146) = .pointer (some ⟨b2, o2 + j, none⟩) := inv.fin 3 146 (by kernel_rfl) (hall 3 (Nat.lt_of_lt_of_eq (by decide : 3 < 29) (by kernel_rfl))) rfl
            have e147 : A1.eval (.tmp 147) = .int .i64 x := inv.fin 4 147 (by kernel_rfl) (hall 4 (Nat.lt_of_lt_of_eq (by decide : 4 < 29) (by kernel_rfl))) rfl
            have e148 : A1.eval (.tmp 148) = .bool false := inv.fin 5 148 (by kernel_rfl) (hall 5 (Nat.lt_of_lt_of_eq (by decide : 5 < 29) (by kernel_rfl))) rfl
            have e149 : A1.eval (.tmp 149) = .bool false := inv.fin 6 149 (by kernel_rfl) (hall 6 (Nat.lt_of_lt_of_eq (by decide : 6 < 29) (by kernel_rfl))) rfl
            have e150 : A1.eval (.tmp 150) = .agg #[.int .i64 (1 + (r : Int)), .slice fa2 L2.length fc2] := inv.fin 7 150 (by kernel_rfl) (hall 7 (Nat.lt_of_lt_of_eq (by decide : 7 < 29) (by kernel_rfl))) rfl
            have e151 : A1.eval (.tmp 151) = .slice (some ⟨b2, o2, none⟩) O2.length oc2 := inv.fin 8 151 (by kernel_rfl) (hall 8 (Nat.lt_of_lt_of_eq (by decide : 8 < 29) (by kernel_rfl))) rfl
            have e152 : A1.eval (.tmp 152) = .int .i64 (j : Int) := inv.fin 9 152 (by kernel_rfl) (hall 9 (Nat.lt_of_lt_of_eq (by decide : 9 < 29) (by kernel_rfl))) rfl
            have e153 : A1.eval (.tmp 153) = .pointer (some ⟨b2, o2 + j, none⟩) := inv.fin 10 153 (by kernel_rfl) (hall 10 (Nat.lt_of_lt_of_eq (by decide : 10 < 29) (by kernel_rfl))) rfl
            have e154 : A1.eval (.tmp 154) = .int .i64 x := inv.fin 11 154 (by kernel_rfl) (hall 11 (Nat.lt_of_lt_of_eq (by decide : 11 < 29) (by kernel_rfl))) rfl
            have e155 : A1.eval (.tmp 155) = .bool false := inv.fin 12 155 (by kernel_rfl) (hall 12 (Nat.lt_of_lt_of_eq (by decide : 12 < 29) (by kernel_rfl))) rfl
            have e156 : A1.eval (.tmp 156) = .bool false := inv.fin 13 156 (by kernel_rfl) (hall 13 (Nat.lt_of_lt_of_eq (by decide : 13 < 29) (by kernel_rfl))) rfl
            have e157 : A1.eval (.tmp 157) = .bool false := inv.fin 14 157 (by kernel_rfl) (hall 14 (Nat.lt_of_lt_of_eq (by decide : 14 < 29) (by kernel_rfl))) rfl
            have e158 : A1.eval (.tmp 158) = .slice (some ⟨b2, o2, none⟩) O2.length oc2 := inv.fin 15 158 (by kernel_rfl) (hall 15 (Nat.lt_of_lt_of_eq (by decide : 15 < 29) (by kernel_rfl))) rfl
            have e159 : A1.eval (.tmp 159) = .int .i64 (j : Int) := inv.fin 16 159 (by kernel_rfl) (hall 16 (Nat.lt_of_lt_of_eq (by decide : 16 < 29) (by kernel_rfl))) rfl
            have e160 : A1.eval (.tmp 160) = .pointer (some ⟨b2, o2 + j, none⟩) := inv.fin 17 160 (by kernel_rfl) (hall 17 (Nat.lt_of_lt_of_eq (by decide : 17 < 29) (by kernel_rfl))) rfl
            have e161 : A1.eval (.tmp 161) = .int .i64 x := inv.fin 18 161 (by kernel_rfl) (hall 18 (Nat.lt_of_lt_of_eq (by decide : 18 < 29) (by kernel_rfl))) rfl
            have e162 : A1.eval (.tmp 162) = .bool false := inv.fin 19 162 (by kernel_rfl) (hall 19 (Nat.lt_of_lt_of_eq (by decide : 19 < 29) (by kernel_rfl))) rfl
            have e163 : A1.eval (.tmp 163) = .bool false := inv.fin 20 163 (by kernel_rfl) (hall 20 (Nat.lt_of_lt_of_eq (by decide : 20 < 29) (by kernel_rfl))) rfl
            have e164 : A1.eval (.tmp 164) = .bool false := inv.fin 21 164 (by kernel_rfl) (hall 21 (Nat.lt_of_lt_of_eq (by decide : 21 < 29) (by kernel_rfl))) rfl
            have e165 : A1.eval (.tmp 165) = .slice (some ⟨b2, o2, none⟩) O2.length oc2 := inv.fin 22 165 (by kernel_rfl) (hall 22 (Nat.lt_of_lt_of_eq (by decide : 22 < 29) (by kernel_rfl))) rfl
            have e166 : A1.eval (.tmp 166) = .int .i64 (j : Int) := inv.fin 23 166 (by kernel_rfl) (hall 23 (Nat.lt_of_lt_of_eq (by decide : 23 < 29) (by kernel_rfl))) rfl
            have e167 : A1.eval (.tmp 167) = .pointer (some ⟨b2, o2 + j, none⟩) := inv.fin 24 167 (by kernel_rfl) (hall 24 (Nat.lt_of_lt_of_eq (by decide : 24 < 29) (by kernel_rfl))) rfl
            have e168 : A1.eval (.tmp 168) = .int .i64 x := inv.fin 25 168 (by kernel_rfl) (hall 25 (Nat.lt_of_lt_of_eq (by decide : 25 < 29) (by kernel_rfl))) rfl
            have e169 : A1.eval (.tmp 169) = .int .i64 (1 + (r : Int)) := inv.fin 26 169 (by kernel_rfl) (hall 26 (Nat.lt_of_lt_of_eq (by decide : 26 < 29) (by kernel_rfl))) rfl
            have e170 : A1.eval (.tmp 170) = .bool false := inv.fin 27 170 (by kernel_rfl) (hall 27 (Nat.lt_of_lt_of_eq (by decide : 27 < 29) (by kernel_rfl))) rfl
            have e171 : A1.eval (.tmp 171) = .bool false := inv.fin 28 171 (by kernel_rfl) (hall 28 (Nat.lt_of_lt_of_eq (by decide : 28 < 29) (by kernel_rfl))) rfl
            have HF := inv.frame hall
            have HS9 := hid_mk inv.s
            simp only [putEnd, e143, e144, e145, e146, e147, e148, e149, e150, e151, e152, e153, e154, e155, e156, e157, e158, e159, e160, e161, e162, e163, e164, e165, e166, e167, e168, e169, e170, e171, Act.put, List.setIfInBounds_toArray, List.set_cons_succ, List.set_cons_zero] at HF
            clear e143 e144 e145 e146 e147 e148 e149 e150 e151 e152 e153 e154 e155 e156 e157 e158 e159 e160 e161 e162 e163 e164 e165 e166 e167 e168 e169 e170 e171 inv hall
            subst HF
            have HSm := hid_mk (hsn.out.below HS9.out)
            obtain ⟨wm, hupd, hnx⟩ := HNx.out _ HSm.out
            have HNx2 := hid_mk hnx
            have d3 := HCz.out _ HSm.out.bel
            have d4 : b2 < Y3.heap.size := Nat.lt_of_lt_of_le hbw2 HSm.out.bel.size
            clear hnx HNx HNo CI hsn HS9 hbw2
            go_wp2_with fail
            go_roundw
            case rel => exact ⟨j + 1, by omega, by simp, HNx2⟩
            case measure => simp [intOf]; omega
        · obtain rfl : j = O2.length := by omega
          have HS3 := hid_mk (hS2.out.below hsn.out.bel)
          obtain ⟨x2, x0, x1, _⟩ := blk2 HS3.out.box
          go_wp2_with fail
          refine (CN.out _ HS3.out.lf.1).mono ?_
          rintro e w8 ⟨rfl, hb⟩
          replace HS3 := hid_mk (HS3.out.below hb)
          clear hb x0 x1 x2
          obtain ⟨x2, x0, x1, _⟩ := blk2 HS3.out.box
          go_wp2_with fail
          refine (CC.out _ HS3.out.lf.1).mono ?_
          rintro e w9 ⟨rfl, hb⟩
          replace HS3 := hid_mk (HS3.out.below hb)
          clear hb x0 x1 x2
          go_wp2_with fail
          go_roundg (l.length - (k + 1))
          case measure => omega
          case rel => exact ⟨k + 1, _, L2, O2, by omega, (by first | rfl | exact nextF k (by have := HN.out; omega)), by omega, ⟨_, _, rfl⟩, HS3⟩
    · obtain rfl : k = l.length := by omega
      go_wp2_with fail
      go_ret
      exact ⟨rfl, hS.out.old⟩

theorem walk (w : World) (a0 : Int) (v : Value) (l : List Int) (hl : IntsZ w v l) (hm : l.length ≤ maxLen) (w0 : (Lit.int .i64 a0).wf = true) :
    Calls Try.prog 5 #[.int .i64 a0, v] w fun e w' => e = .returned (.bool true) ∧ Below w.heap.size w w' := by
  obtain ⟨la, lc, rfl⟩ := hl.len
  by_cases h : 100 < l.length
  · exact walk_long w a0 la lc l.length h
  · exact walk_main w a0 la lc l hl (by omega)

/-! ### the row's frame -/
theorem own : ownKnob Try.prog.godebug = none := by kernel_rfl
theorem laidOut : laidOutB Try.prog = true := by kernel_rfl

set_option maxRecDepth 100000 in
theorem lifted (os : Os) (started : os.Started) (H : Type) (enc : TypeId × Value → H) :
    ReturnsInHanded {} Try.checked os 5 .any (Rows.freeOnceSpec.pre6 enc Try.prog Try.f5 Rows.freeOnceRow.domain false) (Rows.freeOnceSpec.post enc Try.prog Try.f5 false true false false) := by
  refine returnsInHanded_of_change (C := Try.checked) own started (by kernel_rfl) Try.func5
    (ChangeSpec.witness6 (enc := enc) (C := Try.checked) false ⟨#[], #[.int .i64 0, .slice none 0 0], []⟩ 8 (by kernel_rfl) (by kernel_rfl) (by kernel_rfl) (by kernel_rfl)) ?_
  intro W base args ds gs before hval0 hW hcnd _
  have hval : ∀ (j : Nat) t v, Try.f5.params[j]? = some t → args[j]? = some v → Value.okWide Try.prog W .any base t v := hval0
  have hW' := hW
  obtain ⟨p, q, hA0, hV, rfl, hfz, hnd⟩ := hW
  have hA : DataW.TrodAll enc Try.prog W 0 (fun _ => true) true Try.f5.params.toList args.toList ds p := hA0
  rw [Try.params5] at hA hval
  obtain ⟨v0, vs0, d0, ds0, p0, q0, hargs, rfl, rfl, h0, r0⟩ := trodAll_cons hA
  obtain ⟨v1, vs1, d1, ds1, p1, q1, rfl, rfl, rfl, h1, r1⟩ := trodAll_cons r0
  obtain ⟨rfl, rfl, rfl⟩ := trodAll_nil r1
  obtain rfl : args = #[v0, v1] := by cases args; simp_all
  obtain ⟨rfl, rfl⟩ := trodVars_none hV
  have k0 := h0
  have lt0 : ∀ x ∈ p0, x.block < W.heap.size := by
    obtain ⟨m, hm⟩ := k0
    exact DataW.trod_lt m _ _ _ hm
  have k1 := h1
  have lt1 : ∀ x ∈ p1, x.block < W.heap.size := by
    obtain ⟨m, hm⟩ := k1
    exact DataW.trod_lt m _ _ _ hm
  obtain ⟨a0, rfl, rfl, rfl, w0⟩ := open_int Try.underlying3 (hval 0 3 v0 rfl rfl) h0
  obtain ⟨l1, hv1, hm1⟩ := open_intz (hval 1 22 v1 rfl rfl) h1
  clear hA0 hval0
  refine (walk W a0 v1 l1 hv1 hm1 w0).mono fun e W' ⟨he, bel⟩ => ?_
  subst he
  exact ⟨_, rfl, _, _, _, [], _, [], hW', trodAll_mk1 (shut_bool Try.underlying4 _), (trodAll_cons_mk (Below.trod laidOut (by kernel_rfl) (of_decide_eq_true (by kernel_rfl)) k0 bel lt0) (trodAll_cons_mk (Below.trod laidOut (by kernel_rfl) (of_decide_eq_true (by kernel_rfl)) k1 bel lt1) trodAll_mk0)), rfl, bel.frame _, fun h => by cases h⟩

theorem over : Rows.freeOnceRow.holds Try.pinned (OpenSpec.ofChange Rows.freeOnceSpec) :=
  OpenClaim.holds_of_wide 5 Try.f5 rfl rfl rfl rfl rfl rfl rfl ⟨rfl, rfl, rfl, rfl, rfl⟩ rfl rfl rfl rfl rfl (by kernel_rfl) Try.func5 (by kernel_rfl)
    (of_decide_eq_true (by kernel_rfl)) (by unfold Func.isWrapper; first | (rw [if_pos (by decide +kernel)]; kernel_rfl) | (rw [if_neg (by decide +kernel)]; exact ⟨rfl, rfl⟩))
    (fun os started H enc _ => lifted os started H enc)

/-- THE STATEMENT -/
theorem freeOnce_holds : Rows.FreeOnceSaid := over
#print axioms freeOnce_holds
end Go.Proofs.Ytfbimocgcnaogaa.freeOnce
