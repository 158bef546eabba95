/- Package free's Give. Conditions: as each theorem names them. Written by mkfg7.py. -/
import Derived.Test.YtfbimocgcnaogaaFg6
namespace Go.Proofs.Ytfbimocgcnaogaa
open Go.ChangeShapes Go.WideShapes Go.ChangeAt Go.RowKit
set_option linter.unusedVariables false
set_option maxRecDepth 100000

theorem IntsZ.apart {w : World} {v : Value} {L : List Int} (h : IntsZ w v L) {g o n c : Nat} (e : v = .slice (some ⟨g, o, none⟩) n c) (hn : 0 < n) : g < w.heap.size := by
  rcases h with ⟨⟨a, c2, e2, _⟩, _⟩ | ⟨b, o2, c2, e2, hb, _⟩
  · rw [e2] at e
    cases e
    omega
  · rw [e2] at e
    cases e
    exact hb
set_option maxHeartbeats 8000000 in
theorem frgive (BK : Nat) (S : Int) (v u : Value) (L G : List Int) (w : World) (hv : IntsK BK w v L) (hu : IntsK BK w u G) (hBK : BK ≤ w.heap.size) (hS : I64 S) (hl : L.length ≤ 100000) (hg : G.length ≤ 100000) :
    Calls Try.prog 9 #[frV S v, u] w fun e w' => ∃ v2, e = .returned (.tuple #[frV (givS S L G) v2, .int .i64 (givE S L G)]) ∧ (IntsK BK w' v2 (givR S L G) ∧ From w v2 [v, u]) ∧ Below w.heap.size w w' := by
  have hv := hv.1
  have hu := hu.1
  have HM := hid_mk (fun u (hu : IntsZ u v L) => pmarks S v L u hu hl)
  unfold chkLE at HM
  have HV := hid_mk hv
  have HU := hid_mk hu
  have HW := hid_mk (fun u1 (h1 : IntsZ u1 u G) => pwithin u S G u1 h1 (by omega))
  obtain ⟨va, vc, rfl⟩ := hv.len
  obtain ⟨ga, gc, rfl⟩ := hu.len
  obtain ⟨X1, X2, B0⟩ := two_fr w S (.slice va L.length vc) (.int .i64 0) (.slice none 0 0) 24 24
  have HX1 := hid_mk X1
  have HX2 := hid_mk X2
  have HB0 := hid_mk B0
  have HSz : Hid (((w.alloc (.cells #[.int .i64 S, .slice va L.length vc] 24)).alloc (.cells #[.int .i64 0, .slice none 0 0] 24)).heap.size = w.heap.size + 2) := hid_mk (by simp)
  clear X1 X2 B0 hv hu
  have HLn : Hid (G.length + L.length ≤ 1000000) := hid_mk (by omega)
  unfold frV at *
  cases hc : chkL S L
  · obtain ⟨e1, e2, e3⟩ := giv_no (G := G) hc
    rw [e1, e2, e3]
    rw [hc, if_neg (by decide)] at HM
    clear e1 e2 e3 hc hl hg
    go_enter Try.func9, Try.ntmps9
    go_wp2_with fail
    refine (HM.out _ (HV.out.below HB0.out)).mono ?_
    rintro e w1 ⟨a, n, c, rfl, hb1, _⟩
    have B1 := hid_mk (below_then HB0.out hb1)
    obtain ⟨r0, q0, q1, f0, f1⟩ := blk2 (HX2.out.below hb1)
    clear hb1
    go_wp2_with fail
    exact bodyPost_ret (v := .tuple #[.agg #[.int .i64 0, .slice none 0 0], .int .i64 2]) (by simp [results, Try.results9, go_sem, q0, q1]) rfl ⟨_, rfl, ⟨IntsK.nil _ _, (fun a n c e => by cases e)⟩, put2 B1.out (by omega) _ _⟩
  rw [hc, if_pos rfl] at HM
  obtain ⟨hs0, _⟩ := chkL_iff.1 hc
  cases hr : rngT S G G.length
  · obtain ⟨e1, e2, e3⟩ := giv_rng (L := L) hr
    rw [e1, e2, e3]
    rw [hr] at HW
    clear e1 e2 e3 hc hl hg hr
    go_enter Try.func9, Try.ntmps9
    go_wp2_with fail
    refine (HM.out _ (HV.out.below HB0.out)).mono ?_
    rintro e w1 ⟨a, n, c, rfl, hb1, _⟩
    have B1 := hid_mk (below_then HB0.out hb1)
    obtain ⟨r0, q0, q1, f0, f1⟩ := blk2 (HX2.out.below hb1)
    obtain ⟨s0, p0, p1, _⟩ := blk2 (HX1.out.below hb1)
    clear hb1
    go_wp2_with fail
    refine (HW.out _ (HU.out.below B1.out)).mono ?_
    rintro e w2 ⟨rfl, rfl⟩
    go_wp2_with fail
    exact bodyPost_ret (v := .tuple #[.agg #[.int .i64 0, .slice none 0 0], .int .i64 2]) (by simp [results, Try.results9, go_sem, q0, q1]) rfl ⟨_, rfl, ⟨IntsK.nil _ _, (fun a n c e => by cases e)⟩, put2 B1.out (by omega) _ _⟩
  rw [hr] at HW
  have HR : Hid (∀ j, j < G.length → 0 ≤ G.getD j 0 ∧ G.getD j 0 < 64 * (((S.toNat + 63) / 64 : Nat) : Int)) := hid_mk (fun j hj => by
    have := rngT_iff.1 hr _ (getD_mem hj)
    omega)
  have hK : (S.toNat + 63) / 64 ≤ 1000 := by omega
  unfold BmOf at HM
  obtain ⟨K, hKe⟩ : ∃ K, (S.toNat + 63) / 64 = K := ⟨_, rfl⟩
  rw [hKe] at HM HR hK
  have HA := hid_mk (fun u1 b (h1 : Bm u1 b K (fun x => inB L (x : Int))) (h2 : IntsZ u1 (.slice ga G.length gc) G) h3 => padd b K (.slice ga G.length gc) L G u1 h1 h2 h3 HR.out hK (by omega))
  cases hf : freshT L G G.length
  · obtain ⟨e1, e2, e3⟩ := giv_there hc hr hf
    rw [e1, e2, e3]
    rw [hf] at HA
    clear e1 e2 e3 hc hl hg hr hf hK hKe HR
    go_enter Try.func9, Try.ntmps9
    go_wp2_with fail
    refine (HM.out _ (HV.out.below HB0.out)).mono ?_
    rintro e w1 ⟨a, n, c, rfl, hb1, hm⟩
    obtain ⟨b, he, hbw, hm2⟩ := hm trivial
    cases he
    have B1 := hid_mk (below_then HB0.out hb1)
    have HM2 := hid_mk hm2
    have HR1 := hid_mk (HX2.out.below hb1)
    obtain ⟨s0, p0, p1, _⟩ := blk2 (HX1.out.below hb1)
    have HBw : Hid (w.heap.size + 2 ≤ b) := hid_mk (by rw [HSz.out] at hbw; exact hbw)
    clear hb1 hm hm2 hbw
    go_wp2_with fail
    refine (HW.out _ (HU.out.below B1.out)).mono ?_
    rintro e w2 ⟨rfl, rfl⟩
    go_wp2_with fail
    refine (HA.out _ _ HM2.out (HU.out.below B1.out) (fun g o n c e hn => by have := HU.out.apart e hn; have := HBw.out; omega)).mono ?_
    rintro e w3 ⟨rfl, hcg, _⟩
    have hbw := HBw.out
    have B3 := hid_mk (B1.out.trans (hcg.below (B := w.heap.size) B1.out.size (fun k hk => by omega)))
    obtain ⟨r0, q0, q1, f0, f1⟩ := blk2 (show BlkAt w3 _ _ _ from hcg.keep HR1.out (by omega))
    clear hcg hbw s0 p0 p1
    go_wp2_with fail
    exact bodyPost_ret (v := .tuple #[.agg #[.int .i64 0, .slice none 0 0], .int .i64 9]) (by simp [results, Try.results9, go_sem, q0, q1]) rfl ⟨_, rfl, ⟨IntsK.nil _ _, (fun a n c e => by cases e)⟩, put2 B3.out (by omega) _ _⟩
  obtain ⟨e1, e2, e3⟩ := giv_yes hc hr hf
  rw [e1, e2, e3]
  rw [hf] at HA
  clear e1 e2 e3 hc hl hg hr hf hK hKe HR
  go_enter Try.func9, Try.ntmps9
  go_wp2_with fail
  refine (HM.out _ (HV.out.below HB0.out)).mono ?_
  rintro e w1 ⟨a, n, c, rfl, hb1, hm⟩
  obtain ⟨b, he, hbw, hm2⟩ := hm trivial
  cases he
  have B1 := hid_mk (below_then HB0.out hb1)
  have HM2 := hid_mk hm2
  have HR1 := hid_mk (HX2.out.below hb1)
  have HP1 := hid_mk (HX1.out.below hb1)
  obtain ⟨s0, p0, p1, _⟩ := blk2 (HX1.out.below hb1)
  have HBw : Hid (w.heap.size + 2 ≤ b) := hid_mk (by rw [HSz.out] at hbw; exact hbw)
  clear hb1 hm hm2 hbw
  go_wp2_with fail
  refine (HW.out _ (HU.out.below B1.out)).mono ?_
  rintro e w2 ⟨rfl, rfl⟩
  go_wp2_with fail
  refine (HA.out _ _ HM2.out (HU.out.below B1.out) (fun g o n c e hn => by have := HU.out.apart e hn; have := HBw.out; omega)).mono ?_
  rintro e w3 ⟨rfl, hcg, _⟩
  have hbw := HBw.out
  have B3 := hid_mk (B1.out.trans (hcg.below (B := w.heap.size) B1.out.size (fun k hk => by omega)))
  have HX3 : Hid (BlkAt w3 w.heap.size [.int .i64 S, .slice va L.length vc] 24) := hid_mk (hcg.keep HP1.out (by omega))
  have HR3 : Hid (BlkAt w3 (w.heap.size + 1) [.int .i64 0, .slice none 0 0] 24) := hid_mk (hcg.keep HR1.out (by omega))
  have HTK0 : Hid (TkS w w3.heap.size w.heap.size (w.heap.size + 1) S (.slice va L.length vc) w3) := hid_mk ⟨HX3.out, B3.out, Nat.le_refl _, _, _, HR3.out⟩
  have HRB : Hid (w.heap.size + 1 < w3.heap.size) := hid_mk HR3.out.lt
  have HWB0 : Hid (w.heap.size ≤ w3.heap.size) := hid_mk B3.out.size
  clear hcg hbw s0 p0 p1 HX1 HX2 HP1 HR1 HM HW HA HM2
  obtain ⟨bx, hbx⟩ : ∃ bx, w.heap.size = bx := ⟨_, rfl⟩
  obtain ⟨rb, hrb⟩ : ∃ rb, bx + 1 = rb := ⟨_, rfl⟩
  obtain ⟨B, hB⟩ : ∃ B, w3.heap.size = B := ⟨_, rfl⟩
  have HNE : Hid (bx ≠ rb) := hid_mk (by omega)
  have HWR : Hid (w.heap.size ≤ rb) := hid_mk (by omega)
  have HTK : Hid (TkS w B bx rb S (.slice va L.length vc) w3.drew) := hid_mk (by rw [← hB, ← hrb, ← hbx]; exact HTK0.out.below (Below.refl _ _).drew)
  have HWB : Hid (w.heap.size ≤ B) := hid_mk (by rw [← hB]; exact HWB0.out)
  rw [hB, hbx, hrb] at HRB
  rw [hbx] at ⊢
  rw [hrb]
  clear HTK0 HX3 HR3 HWB0
  have HBX := hid_mk hbx
  clear hrb hB hbx
  go_wp2_with fail
  refine wp_region_outl3 4 [(7, PutFr rb)] [] []
      [(fun v _ => v = .pointer (some ⟨bx, 0, none⟩)),
      (fun v _ => v = .int .i64 S),
      (fun v _ => v = .slice ga G.length gc),
      (fun v _ => v = .pointer (some ⟨bx, 1, none⟩)),
      (fun v _ => v = .slice va L.length vc),
      (fun v W => JnZ B W v (G ++ L)),
      (fun v W => ∃ x, v = .agg #[.int .i64 S, x] ∧ JnZ B W x (G ++ L)),
      (fun _ W => ∃ x, BlkAt W rb [.int .i64 S, x] 24 ∧ JnZ B W x (G ++ L)),
      (fun v _ => v = .int .i64 0)]
      (TkS w B bx rb S (.slice va L.length vc)) (by kernel_rfl) (by kernel_rfl) (by kernel_rfl) ?_ (fun u u' hb h => h.below hb) (HTK.out) ?_ ?_ ?_ ?_ ?_
  · refine And.intro (up_eq _) ?_
    refine And.intro (up_eq _) ?_
    refine And.intro (up_eq _) ?_
    refine And.intro (up_eq _) ?_
    refine And.intro (up_eq _) ?_
    refine And.intro (up_jn _ _) ?_
    refine And.intro (up_jagg _ _ _) ?_
    refine And.intro (up_jblk _ _ _ _ _) ?_
    refine And.intro (up_eq _) ?_
    trivial
  · trivial
  · trivial
  · refine And.intro (And.intro ?_ (fun u u' hb h => h.put HNE.out HWR.out hb)) ?_
    · refine And.intro (fun _ _ _ => ch_eq _ _) ?_
      refine And.intro (fun _ _ _ => ch_eq _ _) ?_
      refine And.intro (fun _ _ _ => ch_eq _ _) ?_
      refine And.intro (fun _ _ _ => ch_eq _ _) ?_
      refine And.intro (fun _ _ _ => ch_eq _ _) ?_
      refine And.intro (fun _ _ _ => putFr_jn HRB.out) ?_
      refine And.intro (fun _ _ _ => putFr_jagg HRB.out) ?_
      refine And.intro (fun h _ _ => absurd rfl h) ?_
      refine And.intro (fun _ _ _ => ch_eq _ _) ?_
      trivial
    trivial
  · refine And.intro ?_ (And.intro ?_ (And.intro ?_ (And.intro ?_ (And.intro ?_ (And.intro ?_ (And.intro ?_ (And.intro ?_ (And.intro ?_ (True.intro)))))))))
    · refine qstep_val (.pointer (some ⟨bx, 0, none⟩)) (by kernel_rfl) (by kernel_rfl) rfl (fun _ A1 W1 inv hnl hall => ⟨wanted_none rfl, ?_, rfl⟩)
      have h2 : A1.eval (.tmp 2) = .pointer (some ⟨bx, 0, none⟩) := (inv.base 2 (by kernel_rfl)).trans rfl
      simp only [execOp, h2]
      simp [go_sem]
    · refine qstep_val (.int .i64 S) (by kernel_rfl) (by kernel_rfl) rfl (fun _ A1 W1 inv hnl hall => ⟨wanted_none rfl, ?_, rfl⟩)
      have h28 : A1.eval (.tmp 28) = .pointer (some ⟨bx, 0, none⟩) := inv.get hall 0 28 (by kernel_rfl) (by kernel_rfl) rfl
      have gg := inv.s.c0
      simp only [execOp, h28]
      simp [go_sem, gg]
    · refine qstep_val (.slice ga G.length gc) (by kernel_rfl) (by kernel_rfl) rfl (fun _ A1 W1 inv hnl hall => ⟨wanted_none rfl, ?_, rfl⟩)
      have h1 : A1.eval (.tmp 1) = .slice ga G.length gc := (inv.base 1 (by kernel_rfl)).trans rfl
      simp only [execOp, h1, Sem.run_pure]
    · refine qstep_val (.pointer (some ⟨bx, 1, none⟩)) (by kernel_rfl) (by kernel_rfl) rfl (fun _ A1 W1 inv hnl hall => ⟨wanted_none rfl, ?_, rfl⟩)
      have h2 : A1.eval (.tmp 2) = .pointer (some ⟨bx, 0, none⟩) := (inv.base 2 (by kernel_rfl)).trans rfl
      simp only [execOp, h2]
      simp [go_sem]
    · refine qstep_val (.slice va L.length vc) (by kernel_rfl) (by kernel_rfl) rfl (fun _ A1 W1 inv hnl hall => ⟨wanted_none rfl, ?_, rfl⟩)
      have h31 : A1.eval (.tmp 31) = .pointer (some ⟨bx, 1, none⟩) := inv.get hall 3 31 (by kernel_rfl) (by kernel_rfl) rfl
      have gg := inv.s.c1
      simp only [execOp, h31]
      simp [go_sem, gg]
    · refine qstep_call 23 (by kernel_rfl) _ _ (by kernel_rfl) (by kernel_rfl) rfl rfl (fun _ A1 W1 inv hnl hall => ⟨wanted_none rfl, #[.slice ga G.length gc, .slice va L.length vc], ?_, ?_⟩)
      · have h30 : A1.eval (.tmp 30) = .slice ga G.length gc := inv.get hall 2 30 (by kernel_rfl) (by kernel_rfl) rfl
        have h32 : A1.eval (.tmp 32) = .slice va L.length vc := inv.get hall 4 32 (by kernel_rfl) (by kernel_rfl) rfl
        simp [h30, h32]
      · refine (pjoin (.slice ga G.length gc) (.slice va L.length vc) G L _ (HU.out.below inv.s.old) (HV.out.below inv.s.old) HLn.out).mono ?_
        rintro e u ⟨x, rfl, hx, hb⟩
        exact ⟨_, rfl, hx.mono inv.s.sz, hb⟩
    · refine qstep_ex (by kernel_rfl) (by kernel_rfl) rfl (fun _ A1 W1 inv hnl hall => ⟨wanted_none rfl, ?_⟩)
      have h29 : A1.eval (.tmp 29) = .int .i64 S := inv.get hall 1 29 (by kernel_rfl) (by kernel_rfl) rfl
      have h33 : (fun v W => JnZ B W v (G ++ L)) (A1.eval (.tmp 33)) W1 := inv.get hall 5 33 (by kernel_rfl) (by kernel_rfl) rfl
      refine ⟨.agg #[.int .i64 S, A1.eval (.tmp 33)], ?_, _, rfl, h33⟩
      obtain ⟨_, _, hh⟩ := h33.len
      simp only [execOp, List.map_toArray, List.map_cons, List.map_nil, h29, hh]
      simp [go_sem]
    · refine qstep_skip (by kernel_rfl) (by kernel_rfl) rfl (fun _ A1 W1 inv hnl hall => ⟨wanted_none rfl, ?_⟩)
      have h4 : A1.eval (.tmp 4) = .pointer (some ⟨rb, 0, none⟩) := (inv.base 4 (by kernel_rfl)).trans rfl
      have h34 : (fun v W => ∃ x, v = .agg #[.int .i64 S, x] ∧ JnZ B W x (G ++ L)) (A1.eval (.tmp 34)) W1 := inv.get hall 6 34 (by kernel_rfl) (by kernel_rfl) rfl
      obtain ⟨x, hx, hi⟩ := h34
      obtain ⟨x1, x2, hr⟩ := inv.s.res
      obtain ⟨_, _, hh⟩ := hi.len
      refine ⟨(W1.setCell ⟨rb, 0, none⟩ (.int .i64 S)).setCell ⟨rb, 1, none⟩ x, ?_, ⟨x, (hr.set 0 _).set 1 _, putFr_jn HRB.out _ _ _ ⟨_, _, rfl⟩ hi⟩, ⟨_, _, rfl⟩⟩
      simp only [execOp, h4, hx]
      rw [hh]
      have c0 := hr.cell 0
      have c1 := hr.cell 1
      have f0 := hr.free 0
      have f1 := hr.free 1
      simp at c0 c1
      simp [go_sem, c0, c1, f0, f1]
    · refine qstep_val (.int .i64 0) (by kernel_rfl) (by kernel_rfl) rfl (fun _ A1 W1 inv hnl hall => ⟨wanted_none rfl, ?_, rfl⟩)
      simp only [execOp, Sem.run_pure]
      rfl
  · intro listed A1 W1 inv hall
    have e28 : A1.eval (.tmp 28) = .pointer (some ⟨bx, 0, none⟩) := inv.fin 0 28 (by kernel_rfl) (hall 0 (Nat.lt_of_lt_of_eq (by decide : 0 < 9) (by kernel_rfl))) rfl
    have e29 : A1.eval (.tmp 29) = .int .i64 S := inv.fin 1 29 (by kernel_rfl) (hall 1 (Nat.lt_of_lt_of_eq (by decide : 1 < 9) (by kernel_rfl))) rfl
    have e30 : A1.eval (.tmp 30) = .slice ga G.length gc := inv.fin 2 30 (by kernel_rfl) (hall 2 (Nat.lt_of_lt_of_eq (by decide : 2 < 9) (by kernel_rfl))) rfl
    have e31 : A1.eval (.tmp 31) = .pointer (some ⟨bx, 1, none⟩) := inv.fin 3 31 (by kernel_rfl) (hall 3 (Nat.lt_of_lt_of_eq (by decide : 3 < 9) (by kernel_rfl))) rfl
    have e32 : A1.eval (.tmp 32) = .slice va L.length vc := inv.fin 4 32 (by kernel_rfl) (hall 4 (Nat.lt_of_lt_of_eq (by decide : 4 < 9) (by kernel_rfl))) rfl
    have e5 : A1.eval (.tmp 5) = .int .i64 0 := inv.fin 8 5 (by kernel_rfl) (hall 8 (Nat.lt_of_lt_of_eq (by decide : 8 < 9) (by kernel_rfl))) rfl
    have p33 : (fun v W => JnZ B W v (G ++ L)) (A1.eval (.tmp 33)) W1 := inv.fin 5 33 (by kernel_rfl) (hall 5 (Nat.lt_of_lt_of_eq (by decide : 5 < 9) (by kernel_rfl))) rfl
    obtain ⟨v33, e33⟩ : ∃ v, A1.eval (.tmp 33) = v := ⟨_, rfl⟩
    rw [e33] at p33
    have p34 : (fun v W => ∃ x, v = .agg #[.int .i64 S, x] ∧ JnZ B W x (G ++ L)) (A1.eval (.tmp 34)) W1 := inv.fin 6 34 (by kernel_rfl) (hall 6 (Nat.lt_of_lt_of_eq (by decide : 6 < 9) (by kernel_rfl))) rfl
    obtain ⟨v34, e34⟩ : ∃ v, A1.eval (.tmp 34) = v := ⟨_, rfl⟩
    rw [e34] at p34
    have hst7 := inv.fin0 7 (by kernel_rfl) (hall 7 (Nat.lt_of_lt_of_eq (by decide : 7 < 9) (by kernel_rfl))) rfl
    have HF := inv.frame hall
    have HS9 := hid_mk inv.s
    simp only [putEnd, e28, e29, e30, e31, e32, e5, e33, e34, Act.put, List.setIfInBounds_toArray, List.set_cons_succ, List.set_cons_zero] at HF
    clear e28 e29 e30 e31 e32 e5 e33 e34 inv hall
    subst HF
    obtain ⟨x9, hx9, hi9⟩ := hst7
    obtain ⟨_, q0, q1, _⟩ := blk2 hx9
    have HI9 := hid_mk hi9
    go_wp2_with fail
    exact bodyPost_ret (v := .tuple #[.agg #[.int .i64 S, x9], .int .i64 0]) (by simp [results, Try.results9, go_sem, q0, q1]) rfl ⟨_, rfl, ⟨HI9.out.k, (HI9.out.mono HWB.out).from _⟩, HS9.out.old⟩
end Go.Proofs.Ytfbimocgcnaogaa
