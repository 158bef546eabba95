/- The reference of layer 8: Take. Conditions: as each theorem names them. Written by mkfe4.py. -/
import Derived.Test.YtfbimocgcnaogaaFe3
import Derived.Test.YtfbimocgcnaogaaFp
namespace Go.Proofs.Ytfbimocgcnaogaa
open Go.ChangeShapes Go.WideShapes Go.ChangeAt Go.RowKit
set_option linter.unusedVariables false
set_option maxRecDepth 100000

theorem two_fr (w : World) (S : Int) (v x y : Value) (t t2 : TypeId) : BlkAt ((w.alloc (.cells #[.int .i64 S, v] t)).alloc (.cells #[x, y] t2)) w.heap.size [.int .i64 S, v] t ∧ BlkAt ((w.alloc (.cells #[.int .i64 S, v] t)).alloc (.cells #[x, y] t2)) (w.heap.size + 1) [x, y] t2 ∧ Below w.heap.size w ((w.alloc (.cells #[.int .i64 S, v] t)).alloc (.cells #[x, y] t2)) := by
  refine ⟨(blk_new w [.int .i64 S, v] t).below (below_box _ _), ?_, (below_box w _).alloc (by simp) _⟩
  have := blk_new (w.alloc (.cells #[.int .i64 S, v] t)) [x, y] t2
  simpa using this
theorem blk2 {w : World} {b : Nat} {x y : Value} {t : TypeId} (h : BlkAt w b [x, y] t) : b < w.heap.size ∧ w.cell? ⟨b, 0, none⟩ = some x ∧ w.cell? ⟨b, 1, none⟩ = some y ∧ w.frozen? ⟨b, 0, none⟩ = false ∧ w.frozen? ⟨b, 1, none⟩ = false := ⟨h.lt, h.cell 0, h.cell 1, h.free 0, h.free 1⟩
theorem put2 {w a : World} {b B : Nat} (h : Below B a w) (hb : B ≤ b) (x y : Value) : Below B a ((w.setCell ⟨b, 0, none⟩ x).setCell ⟨b, 1, none⟩ y) := (h.setCell hb _).setCell hb _

set_option maxHeartbeats 4000000 in
theorem rftake (S : Int) (v : Value) (L : List Int) (n : Int) (w : World) (hv : IntsZ w v L) (hl : L.length ≤ 1000000) :
    Calls Try.prog 15 #[frV S v, .int .i64 n] w fun e w' => ∃ v1 v2, e = .returned (.tuple #[v1, frV (takS S L n) v2, .int .i64 (takE S L n)]) ∧ IntsZ w' v1 (takA S L n) ∧ IntsZ w' v2 (takR S L n) ∧ Below w.heap.size w w' := by
  have HC := hid_mk (fun u (hu : IntsZ u v L) => rfcheck S v L u hu)
  unfold chkLE at HC
  have HV := hid_mk hv
  obtain ⟨va, vc, rfl⟩ := hv.len
  obtain ⟨X1, X2, B0⟩ := two_fr w S (.slice va L.length vc) (.int .i64 0) (.slice none 0 0) 24 24
  have HX1 := hid_mk X1
  have HX2 := hid_mk X2
  have HB0 := hid_mk B0
  clear X1 X2 B0 hv
  have HLn := hid_mk hl
  unfold frV at *
  clear hl
  cases hc : chkL S L
  · have e : takB S L n = false := by
      unfold takB
      rw [hc]
      rfl
    have e2 : takE S L n = 2 := by
      unfold takE
      rw [hc]
      rfl
    have e3 : takA S L n = [] ∧ takR S L n = [] ∧ takS S L n = 0 := by
      unfold takA takR takS
      rw [e]
      exact ⟨rfl, rfl, rfl⟩
    rw [e2, e3.1, e3.2.1, e3.2.2]
    rw [hc, if_neg (by decide)] at HC
    clear e e2 e3 hc
    go_enter Try.func15, Try.ntmps15
    go_wp2_with fail
    refine (HC.out _ (HV.out.below HB0.out)).mono ?_
    rintro e w1 ⟨rfl, hb1⟩
    have B1 := hid_mk (below_then HB0.out hb1)
    obtain ⟨r0, q0, q1, f0, f1⟩ := blk2 (HX2.out.below hb1)
    clear hb1
    go_wp2_with fail
    exact bodyPost_ret (v := .tuple #[.slice none 0 0, .agg #[.int .i64 0, .slice none 0 0], .int .i64 2]) (by simp [results, Try.results15, go_sem, q0, q1]) rfl ⟨_, _, rfl, IntsZ.nil _, IntsZ.nil _, put2 B1.out (by omega) _ _⟩
  rw [hc, if_pos rfl] at HC
  by_cases hn : n < 1
  · have e : takB S L n = false := by
      unfold takB
      rw [hc, decide_eq_false (show ¬ 1 ≤ n by omega)]
      rfl
    have e2 : takE S L n = 2 := by
      unfold takE
      rw [hc, decide_eq_false (show ¬ 1 ≤ n by omega)]
      rfl
    have e3 : takA S L n = [] ∧ takR S L n = [] ∧ takS S L n = 0 := by
      unfold takA takR takS
      rw [e]
      exact ⟨rfl, rfl, rfl⟩
    rw [e2, e3.1, e3.2.1, e3.2.2]
    have hd : decide (n < 1) = true := decide_eq_true hn
    clear e e2 e3 hc
    go_enter Try.func15, Try.ntmps15
    go_wp2_with fail
    refine (HC.out _ (HV.out.below HB0.out)).mono ?_
    rintro e w1 ⟨rfl, hb1⟩
    have B1 := hid_mk (below_then HB0.out hb1)
    obtain ⟨r0, q0, q1, f0, f1⟩ := blk2 (HX2.out.below hb1)
    clear hb1
    go_wp2_with fail
    exact bodyPost_ret (v := .tuple #[.slice none 0 0, .agg #[.int .i64 0, .slice none 0 0], .int .i64 2]) (by simp [results, Try.results15, go_sem, q0, q1]) rfl ⟨_, _, rfl, IntsZ.nil _, IntsZ.nil _, put2 B1.out (by omega) _ _⟩
  have hd : decide (n < 1) = false := decide_eq_false hn
  by_cases hm : (L.length : Int) < n
  · have e : takB S L n = false := by
      unfold takB
      rw [decide_eq_false (show ¬ n ≤ (L.length : Int) by omega), Bool.and_false]
    have e2 : takE S L n = 7 := by
      unfold takE
      rw [hc, decide_eq_true (show 1 ≤ n by omega), if_pos (show (true && true) = true from rfl), if_neg (by omega)]
    have e3 : takA S L n = [] ∧ takR S L n = [] ∧ takS S L n = 0 := by
      unfold takA takR takS
      rw [e]
      exact ⟨rfl, rfl, rfl⟩
    rw [e2, e3.1, e3.2.1, e3.2.2]
    have hd2 : decide ((L.length : Int) < n) = true := decide_eq_true hm
    clear e e2 e3 hc
    go_enter Try.func15, Try.ntmps15
    go_wp2_with fail
    refine (HC.out _ (HV.out.below HB0.out)).mono ?_
    rintro e w1 ⟨rfl, hb1⟩
    have B1 := hid_mk (below_then HB0.out hb1)
    obtain ⟨r0, q0, q1, f0, f1⟩ := blk2 (HX2.out.below hb1)
    obtain ⟨s0, p0, p1, _⟩ := blk2 (HX1.out.below hb1)
    clear hb1
    go_wp2_with fail
    exact bodyPost_ret (v := .tuple #[.slice none 0 0, .agg #[.int .i64 0, .slice none 0 0], .int .i64 7]) (by simp [results, Try.results15, go_sem, q0, q1]) rfl ⟨_, _, rfl, IntsZ.nil _, IntsZ.nil _, put2 B1.out (by omega) _ _⟩
  have hd2 : decide ((L.length : Int) < n) = false := decide_eq_false hm
  obtain ⟨q, rfl⟩ := Int.eq_ofNat_of_zero_le (show 0 ≤ n by omega)
  have e : takB S L (q : Int) = true := by
    unfold takB
    rw [hc, decide_eq_true (show (1 : Int) ≤ q by omega), decide_eq_true (show (q : Int) ≤ (L.length : Int) by omega)]
    rfl
  have e2 : takE S L (q : Int) = 0 := by
    unfold takE
    rw [hc, decide_eq_true (show (1 : Int) ≤ q by omega), if_pos (show (true && true) = true from rfl), if_pos (by omega)]
  have e3 : takA S L (q : Int) = L.take q ∧ takR S L (q : Int) = L.drop q ∧ takS S L (q : Int) = S := by
    unfold takA takR takS
    rw [e]
    exact ⟨rfl, rfl, rfl⟩
  rw [e2, e3.1, e3.2.1, e3.2.2]
  obtain ⟨v1, v2, hs1, hv1, hs2, hv2⟩ := slicesI HV.out q (by omega)
  have HV1 := hid_mk hv1
  have HV2 := hid_mk hv2
  have HS1 := hid_mk hs1
  have HS2 := hid_mk hs2
  have HL1 : Hid ((L.take q).length ≤ 1000000) := hid_mk (by have := HLn.out; rw [List.length_take]; omega)
  have HL2 : Hid ((L.drop q).length ≤ 1000000) := hid_mk (by have := HLn.out; rw [List.length_drop]; omega)
  clear e e2 e3 hc hs1 hs2 hv1 hv2
  go_enter Try.func15, Try.ntmps15
  go_wp2_with fail
  refine (HC.out _ (HV.out.below HB0.out)).mono ?_
  rintro e w1 ⟨rfl, hb1⟩
  have HTK0 : Hid (TkS w w1.heap.size w.heap.size (w.heap.size + 1) S (.slice va L.length vc) w1) := hid_mk ⟨HX1.out.below hb1, below_then HB0.out hb1, Nat.le_refl _, _, _, HX2.out.below hb1⟩
  obtain ⟨s0, p0, p1, _⟩ := blk2 (HX1.out.below hb1)
  have HRB : Hid (w.heap.size + 1 < w1.heap.size) := hid_mk (HX2.out.below hb1).lt
  clear hb1
  obtain ⟨bx, hbx⟩ : ∃ bx, w.heap.size = bx := ⟨_, rfl⟩
  obtain ⟨rb, hrb⟩ : ∃ rb, bx + 1 = rb := ⟨_, rfl⟩
  obtain ⟨B, hB⟩ : ∃ B, w1.heap.size = B := ⟨_, rfl⟩
  have HNE : Hid (bx ≠ rb) := hid_mk (by omega)
  have HWR : Hid (w.heap.size ≤ rb) := hid_mk (by omega)
  have HTK : Hid (TkS w B bx rb S (.slice va L.length vc) w1.drew) := hid_mk (by rw [← hB, ← hrb, ← hbx]; exact HTK0.out.below (Below.refl _ _).drew)
  rw [hB, hbx, hrb] at HRB
  rw [hbx] at s0 p0 p1 ⊢
  rw [hrb]
  clear HTK0 HX1 HX2
  have HBX := hid_mk hbx
  clear hrb hB hbx
  go_wp2_with fail
  refine wp_region_outl3 5 [(16, PutFr rb)] [] []
      [(fun v _ => ∃ g, v = .slice (some ⟨g, 0, none⟩) 0 0),
      (fun v _ => v = .pointer (some ⟨bx, 1, none⟩)),
      (fun v _ => v = .slice va L.length vc),
      (fun v _ => v = .int .i64 (q : Int)),
      (fun v _ => v = v1),
      (fun v W => IntsN B W v (L.take q)),
      (fun v _ => v = .pointer (some ⟨bx, 0, none⟩)),
      (fun v _ => v = .int .i64 S),
      (fun v _ => ∃ g, v = .slice (some ⟨g, 0, none⟩) 0 0),
      (fun v _ => v = .pointer (some ⟨bx, 1, none⟩)),
      (fun v _ => v = .slice va L.length vc),
      (fun v _ => v = .int .i64 (q : Int)),
      (fun v _ => v = v2),
      (fun v W => IntsN B W v (L.drop q)),
      (fun v W => ∃ x, v = .agg #[.int .i64 S, x] ∧ IntsN B W x (L.drop q)),
      (fun v W => IntsN B W v (L.take q)),
      (fun _ W => ∃ x, BlkAt W rb [.int .i64 S, x] 24 ∧ IntsN B W x (L.drop q)),
      (fun v _ => v = .int .i64 0)]
      (TkS w B bx rb S (.slice va L.length vc)) (by kernel_rfl) (by kernel_rfl) (by kernel_rfl) ?_ (fun u u' hb h => h.below hb) (HTK.out) ?_ ?_ ?_ ?_ ?_
  · refine And.intro (up_slice0) ?_
    refine And.intro (up_eq _) ?_
    refine And.intro (up_eq _) ?_
    refine And.intro (up_eq _) ?_
    refine And.intro (up_eq _) ?_
    refine And.intro (up_intsN _ _) ?_
    refine And.intro (up_eq _) ?_
    refine And.intro (up_eq _) ?_
    refine And.intro (up_slice0) ?_
    refine And.intro (up_eq _) ?_
    refine And.intro (up_eq _) ?_
    refine And.intro (up_eq _) ?_
    refine And.intro (up_eq _) ?_
    refine And.intro (up_intsN _ _) ?_
    refine And.intro (up_agg _ _ _) ?_
    refine And.intro (up_intsN _ _) ?_
    refine And.intro (up_blk _ _ _ _ _) ?_
    refine And.intro (up_eq _) ?_
    trivial
  · trivial
  · trivial
  · refine And.intro (And.intro ?_ (fun u u' hb h => h.put HNE.out HWR.out hb)) ?_
    · refine And.intro (fun _ _ _ => fun _ _ _ _ h => h) ?_
      refine And.intro (fun _ _ _ => ch_eq _ _) ?_
      refine And.intro (fun _ _ _ => ch_eq _ _) ?_
      refine And.intro (fun _ _ _ => ch_eq _ _) ?_
      refine And.intro (fun _ _ _ => ch_eq _ _) ?_
      refine And.intro (fun _ _ _ => putFr_intsN HRB.out) ?_
      refine And.intro (fun _ _ _ => ch_eq _ _) ?_
      refine And.intro (fun _ _ _ => ch_eq _ _) ?_
      refine And.intro (fun _ _ _ => fun _ _ _ _ h => h) ?_
      refine And.intro (fun _ _ _ => ch_eq _ _) ?_
      refine And.intro (fun _ _ _ => ch_eq _ _) ?_
      refine And.intro (fun _ _ _ => ch_eq _ _) ?_
      refine And.intro (fun _ _ _ => ch_eq _ _) ?_
      refine And.intro (fun _ _ _ => putFr_intsN HRB.out) ?_
      refine And.intro (fun _ _ _ => putFr_agg HRB.out) ?_
      refine And.intro (fun _ _ _ => putFr_intsN HRB.out) ?_
      refine And.intro (fun h _ _ => absurd rfl h) ?_
      refine And.intro (fun _ _ _ => ch_eq _ _) ?_
      trivial
    trivial
  · refine And.intro ?_ (And.intro ?_ (And.intro ?_ (And.intro ?_ (And.intro ?_ (And.intro ?_ (And.intro ?_ (And.intro ?_ (And.intro ?_ (And.intro ?_ (And.intro ?_ (And.intro ?_ (And.intro ?_ (And.intro ?_ (And.intro ?_ (And.intro ?_ (And.intro ?_ (And.intro ?_ (True.intro))))))))))))))))))
    · refine qstep_run (by kernel_rfl) (by kernel_rfl) rfl (fun _ A1 W1 inv hnl hall => ⟨wanted_none rfl, ?_⟩)
      refine ⟨.slice (some ⟨W1.heap.size, 0, none⟩) 0 0, W1.alloc (.cells #[] 3), ?_, ⟨_, rfl⟩, below_box _ _⟩
      simp [execOp, go_sem]
    · refine qstep_val (.pointer (some ⟨bx, 1, none⟩)) (by kernel_rfl) (by kernel_rfl) rfl (fun _ A1 W1 inv hnl hall => ⟨wanted_none rfl, ?_, rfl⟩)
      have h2 : A1.eval (.tmp 2) = .pointer (some ⟨bx, 0, none⟩) := (inv.base 2 (by kernel_rfl)).trans rfl
      simp only [execOp, h2]
      simp [go_sem]
    · refine qstep_val (.slice va L.length vc) (by kernel_rfl) (by kernel_rfl) rfl (fun _ A1 W1 inv hnl hall => ⟨wanted_none rfl, ?_, rfl⟩)
      have h22 : A1.eval (.tmp 22) = .pointer (some ⟨bx, 1, none⟩) := inv.get hall 1 22 (by kernel_rfl) (by kernel_rfl) rfl
      have gg := inv.s.c1
      simp only [execOp, h22]
      simp [go_sem, gg]
    · refine qstep_val (.int .i64 (q : Int)) (by kernel_rfl) (by kernel_rfl) rfl (fun _ A1 W1 inv hnl hall => ⟨wanted_none rfl, ?_, rfl⟩)
      have h1 : A1.eval (.tmp 1) = .int .i64 (q : Int) := (inv.base 1 (by kernel_rfl)).trans rfl
      simp only [execOp, h1, Sem.run_pure]
    · refine qstep_val (v1) (by kernel_rfl) (by kernel_rfl) rfl (fun _ A1 W1 inv hnl hall => ⟨wanted_none rfl, ?_, rfl⟩)
      have h23 : A1.eval (.tmp 23) = .slice va L.length vc := inv.get hall 2 23 (by kernel_rfl) (by kernel_rfl) rfl
      have h24 : A1.eval (.tmp 24) = .int .i64 (q : Int) := inv.get hall 3 24 (by kernel_rfl) (by kernel_rfl) rfl
      have gg := HS1.out W1
      simp only [execOp, Option.map, h23, h24]
      simp [gg, Result.andThen]
    · refine qstep_run (by kernel_rfl) (by kernel_rfl) rfl (fun _ A1 W1 inv hnl hall => ⟨wanted_none rfl, ?_⟩)
      have h21 : (fun v _ => ∃ g, v = .slice (some ⟨g, 0, none⟩) 0 0) (A1.eval (.tmp 21)) W1 := inv.get hall 0 21 (by kernel_rfl) (by kernel_rfl) rfl
      have h25 : A1.eval (.tmp 25) = v1 := inv.get hall 4 25 (by kernel_rfl) (by kernel_rfl) rfl
      obtain ⟨g, hg⟩ := h21
      obtain ⟨v', w', h1, h2, h3⟩ := app_empty (B := B) g (HV1.out.below inv.s.old) inv.s.sz HL1.out
      refine ⟨v', w', ?_, h2, h3⟩
      simp only [execOp]
      simp [resolve, invoke, builtin, h25, hg, h1, Result.andThen]
    · refine qstep_val (.pointer (some ⟨bx, 0, none⟩)) (by kernel_rfl) (by kernel_rfl) rfl (fun _ A1 W1 inv hnl hall => ⟨wanted_none rfl, ?_, rfl⟩)
      have h2 : A1.eval (.tmp 2) = .pointer (some ⟨bx, 0, none⟩) := (inv.base 2 (by kernel_rfl)).trans rfl
      simp only [execOp, h2]
      simp [go_sem]
    · refine qstep_val (.int .i64 S) (by kernel_rfl) (by kernel_rfl) rfl (fun _ A1 W1 inv hnl hall => ⟨wanted_none rfl, ?_, rfl⟩)
      have h27 : A1.eval (.tmp 27) = .pointer (some ⟨bx, 0, none⟩) := inv.get hall 6 27 (by kernel_rfl) (by kernel_rfl) rfl
      have gg := inv.s.c0
      simp only [execOp, h27]
      simp [go_sem, gg]
    · refine qstep_run (by kernel_rfl) (by kernel_rfl) rfl (fun _ A1 W1 inv hnl hall => ⟨wanted_none rfl, ?_⟩)
      refine ⟨.slice (some ⟨W1.heap.size, 0, none⟩) 0 0, W1.alloc (.cells #[] 3), ?_, ⟨_, rfl⟩, below_box _ _⟩
      simp [execOp, go_sem]
    · refine qstep_val (.pointer (some ⟨bx, 1, none⟩)) (by kernel_rfl) (by kernel_rfl) rfl (fun _ A1 W1 inv hnl hall => ⟨wanted_none rfl, ?_, rfl⟩)
      have h2 : A1.eval (.tmp 2) = .pointer (some ⟨bx, 0, none⟩) := (inv.base 2 (by kernel_rfl)).trans rfl
      simp only [execOp, h2]
      simp [go_sem]
    · refine qstep_val (.slice va L.length vc) (by kernel_rfl) (by kernel_rfl) rfl (fun _ A1 W1 inv hnl hall => ⟨wanted_none rfl, ?_, rfl⟩)
      have h30 : A1.eval (.tmp 30) = .pointer (some ⟨bx, 1, none⟩) := inv.get hall 9 30 (by kernel_rfl) (by kernel_rfl) rfl
      have gg := inv.s.c1
      simp only [execOp, h30]
      simp [go_sem, gg]
    · refine qstep_val (.int .i64 (q : Int)) (by kernel_rfl) (by kernel_rfl) rfl (fun _ A1 W1 inv hnl hall => ⟨wanted_none rfl, ?_, rfl⟩)
      have h1 : A1.eval (.tmp 1) = .int .i64 (q : Int) := (inv.base 1 (by kernel_rfl)).trans rfl
      simp only [execOp, h1, Sem.run_pure]
    · refine qstep_val (v2) (by kernel_rfl) (by kernel_rfl) rfl (fun _ A1 W1 inv hnl hall => ⟨wanted_none rfl, ?_, rfl⟩)
      have h31 : A1.eval (.tmp 31) = .slice va L.length vc := inv.get hall 10 31 (by kernel_rfl) (by kernel_rfl) rfl
      have h32 : A1.eval (.tmp 32) = .int .i64 (q : Int) := inv.get hall 11 32 (by kernel_rfl) (by kernel_rfl) rfl
      have gg := HS2.out W1
      simp only [execOp, Option.map, h31, h32]
      simp [gg, Result.andThen]
    · refine qstep_run (by kernel_rfl) (by kernel_rfl) rfl (fun _ A1 W1 inv hnl hall => ⟨wanted_none rfl, ?_⟩)
      have h29 : (fun v _ => ∃ g, v = .slice (some ⟨g, 0, none⟩) 0 0) (A1.eval (.tmp 29)) W1 := inv.get hall 8 29 (by kernel_rfl) (by kernel_rfl) rfl
      have h33 : A1.eval (.tmp 33) = v2 := inv.get hall 12 33 (by kernel_rfl) (by kernel_rfl) rfl
      obtain ⟨g, hg⟩ := h29
      obtain ⟨v', w', h1, h2, h3⟩ := app_empty (B := B) g (HV2.out.below inv.s.old) inv.s.sz HL2.out
      refine ⟨v', w', ?_, h2, h3⟩
      simp only [execOp]
      simp [resolve, invoke, builtin, h33, hg, h1, Result.andThen]
    · refine qstep_ex (by kernel_rfl) (by kernel_rfl) rfl (fun _ A1 W1 inv hnl hall => ⟨wanted_none rfl, ?_⟩)
      have h28 : A1.eval (.tmp 28) = .int .i64 S := inv.get hall 7 28 (by kernel_rfl) (by kernel_rfl) rfl
      have h34 : (fun v W => IntsN B W v (L.drop q)) (A1.eval (.tmp 34)) W1 := inv.get hall 13 34 (by kernel_rfl) (by kernel_rfl) rfl
      refine ⟨.agg #[.int .i64 S, A1.eval (.tmp 34)], ?_, _, rfl, h34⟩
      obtain ⟨_, _, hh⟩ := h34.len
      simp only [execOp, List.map_toArray, List.map_cons, List.map_nil, h28, hh]
      simp [go_sem]
    · refine qstep_ex (by kernel_rfl) (by kernel_rfl) rfl (fun _ A1 W1 inv hnl hall => ⟨wanted_none rfl, ?_⟩)
      have h26 : (fun v W => IntsN B W v (L.take q)) (A1.eval (.tmp 26)) W1 := inv.get hall 5 26 (by kernel_rfl) (by kernel_rfl) rfl
      exact ⟨A1.eval (.tmp 26), by simp only [execOp, Sem.run_pure], h26⟩
    · refine qstep_skip (by kernel_rfl) (by kernel_rfl) rfl (fun _ A1 W1 inv hnl hall => ⟨wanted_none rfl, ?_⟩)
      have h5 : A1.eval (.tmp 5) = .pointer (some ⟨rb, 0, none⟩) := (inv.base 5 (by kernel_rfl)).trans rfl
      have h35 : (fun v W => ∃ x, v = .agg #[.int .i64 S, x] ∧ IntsN B W x (L.drop q)) (A1.eval (.tmp 35)) W1 := inv.get hall 14 35 (by kernel_rfl) (by kernel_rfl) rfl
      obtain ⟨x, hx, hi⟩ := h35
      obtain ⟨x1, x2, hr⟩ := inv.s.res
      obtain ⟨_, _, hh⟩ := hi.len
      refine ⟨(W1.setCell ⟨rb, 0, none⟩ (.int .i64 S)).setCell ⟨rb, 1, none⟩ x, ?_, ⟨x, (hr.set 0 _).set 1 _, putFr_intsN HRB.out _ _ _ ⟨_, _, rfl⟩ hi⟩, ⟨_, _, rfl⟩⟩
      simp only [execOp, h5, hx]
      rw [hh]
      have c0 := hr.cell 0
      have c1 := hr.cell 1
      have f0 := hr.free 0
      have f1 := hr.free 1
      simp at c0 c1
      simp [go_sem, c0, c1, f0, f1]
    · refine qstep_val (.int .i64 0) (by kernel_rfl) (by kernel_rfl) rfl (fun _ A1 W1 inv hnl hall => ⟨wanted_none rfl, ?_, rfl⟩)
      simp only [execOp, Sem.run_pure]
      rfl
  · intro listed A1 W1 inv hall
    have e22 : A1.eval (.tmp 22) = .pointer (some ⟨bx, 1, none⟩) := inv.fin 1 22 (by kernel_rfl) (hall 1 (Nat.lt_of_lt_of_eq (by decide : 1 < 18) (by kernel_rfl))) rfl
    have e23 : A1.eval (.tmp 23) = .slice va L.length vc := inv.fin 2 23 (by kernel_rfl) (hall 2 (Nat.lt_of_lt_of_eq (by decide : 2 < 18) (by kernel_rfl))) rfl
    have e24 : A1.eval (.tmp 24) = .int .i64 (q : Int) := inv.fin 3 24 (by kernel_rfl) (hall 3 (Nat.lt_of_lt_of_eq (by decide : 3 < 18) (by kernel_rfl))) rfl
    have e25 : A1.eval (.tmp 25) = v1 := inv.fin 4 25 (by kernel_rfl) (hall 4 (Nat.lt_of_lt_of_eq (by decide : 4 < 18) (by kernel_rfl))) rfl
    have e27 : A1.eval (.tmp 27) = .pointer (some ⟨bx, 0, none⟩) := inv.fin 6 27 (by kernel_rfl) (hall 6 (Nat.lt_of_lt_of_eq (by decide : 6 < 18) (by kernel_rfl))) rfl
    have e28 : A1.eval (.tmp 28) = .int .i64 S := inv.fin 7 28 (by kernel_rfl) (hall 7 (Nat.lt_of_lt_of_eq (by decide : 7 < 18) (by kernel_rfl))) rfl
    have e30 : A1.eval (.tmp 30) = .pointer (some ⟨bx, 1, none⟩) := inv.fin 9 30 (by kernel_rfl) (hall 9 (Nat.lt_of_lt_of_eq (by decide : 9 < 18) (by kernel_rfl))) rfl
    have e31 : A1.eval (.tmp 31) = .slice va L.length vc := inv.fin 10 31 (by kernel_rfl) (hall 10 (Nat.lt_of_lt_of_eq (by decide : 10 < 18) (by kernel_rfl))) rfl
    have e32 : A1.eval (.tmp 32) = .int .i64 (q : Int) := inv.fin 11 32 (by kernel_rfl) (hall 11 (Nat.lt_of_lt_of_eq (by decide : 11 < 18) (by kernel_rfl))) rfl
    have e33 : A1.eval (.tmp 33) = v2 := inv.fin 12 33 (by kernel_rfl) (hall 12 (Nat.lt_of_lt_of_eq (by decide : 12 < 18) (by kernel_rfl))) rfl
    have e6 : A1.eval (.tmp 6) = .int .i64 0 := inv.fin 17 6 (by kernel_rfl) (hall 17 (Nat.lt_of_lt_of_eq (by decide : 17 < 18) (by kernel_rfl))) rfl
    have p21 : (fun v _ => ∃ g, v = .slice (some ⟨g, 0, none⟩) 0 0) (A1.eval (.tmp 21)) W1 := inv.fin 0 21 (by kernel_rfl) (hall 0 (Nat.lt_of_lt_of_eq (by decide : 0 < 18) (by kernel_rfl))) rfl
    obtain ⟨v21, e21⟩ : ∃ v, A1.eval (.tmp 21) = v := ⟨_, rfl⟩
    rw [e21] at p21
    have p26 : (fun v W => IntsN B W v (L.take q)) (A1.eval (.tmp 26)) W1 := inv.fin 5 26 (by kernel_rfl) (hall 5 (Nat.lt_of_lt_of_eq (by decide : 5 < 18) (by kernel_rfl))) rfl
    obtain ⟨v26, e26⟩ : ∃ v, A1.eval (.tmp 26) = v := ⟨_, rfl⟩
    rw [e26] at p26
    have p29 : (fun v _ => ∃ g, v = .slice (some ⟨g, 0, none⟩) 0 0) (A1.eval (.tmp 29)) W1 := inv.fin 8 29 (by kernel_rfl) (hall 8 (Nat.lt_of_lt_of_eq (by decide : 8 < 18) (by kernel_rfl))) rfl
    obtain ⟨v29, e29⟩ : ∃ v, A1.eval (.tmp 29) = v := ⟨_, rfl⟩
    rw [e29] at p29
    have p34 : (fun v W => IntsN B W v (L.drop q)) (A1.eval (.tmp 34)) W1 := inv.fin 13 34 (by kernel_rfl) (hall 13 (Nat.lt_of_lt_of_eq (by decide : 13 < 18) (by kernel_rfl))) rfl
    obtain ⟨v34, e34⟩ : ∃ v, A1.eval (.tmp 34) = v := ⟨_, rfl⟩
    rw [e34] at p34
    have p35 : (fun v W => ∃ x, v = .agg #[.int .i64 S, x] ∧ IntsN B W x (L.drop q)) (A1.eval (.tmp 35)) W1 := inv.fin 14 35 (by kernel_rfl) (hall 14 (Nat.lt_of_lt_of_eq (by decide : 14 < 18) (by kernel_rfl))) rfl
    obtain ⟨v35, e35⟩ : ∃ v, A1.eval (.tmp 35) = v := ⟨_, rfl⟩
    rw [e35] at p35
    have p4 : (fun v W => IntsN B W v (L.take q)) (A1.eval (.tmp 4)) W1 := inv.fin 15 4 (by kernel_rfl) (hall 15 (Nat.lt_of_lt_of_eq (by decide : 15 < 18) (by kernel_rfl))) rfl
    obtain ⟨v4, e4⟩ : ∃ v, A1.eval (.tmp 4) = v := ⟨_, rfl⟩
    rw [e4] at p4
    have hst16 := inv.fin0 16 (by kernel_rfl) (hall 16 (Nat.lt_of_lt_of_eq (by decide : 16 < 18) (by kernel_rfl))) rfl
    have HF := inv.frame hall
    have HS9 := hid_mk inv.s
    simp only [putEnd, e22, e23, e24, e25, e27, e28, e30, e31, e32, e33, e6, e21, e26, e29, e34, e35, e4, Act.put, List.setIfInBounds_toArray, List.set_cons_succ, List.set_cons_zero] at HF
    clear e22 e23 e24 e25 e27 e28 e30 e31 e32 e33 e6 e21 e26 e29 e34 e35 e4 inv hall
    subst HF
    obtain ⟨x9, hx9, hi9⟩ := hst16
    obtain ⟨_, q0, q1, _⟩ := blk2 hx9
    have HI9 := hid_mk hi9
    have HP9 := hid_mk p4
    go_wp2_with fail
    exact bodyPost_ret (v := .tuple #[v4, .agg #[.int .i64 S, x9], .int .i64 0]) (by simp [results, Try.results15, go_sem, q0, q1]) rfl ⟨_, _, rfl, HP9.out.z, HI9.out.z, HS9.out.old⟩
end Go.Proofs.Ytfbimocgcnaogaa
