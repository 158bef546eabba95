/- Bh11 Bdc: joined texts. Conditions: as each theorem names them. -/
import Derived.Test.YtgdokgpplldddaaKp40
/- build's Packed, PackedOne. Conditions: as each theorem names them. Written by mkbh11.py. -/
namespace Go.Proofs.Ytgdokgpplldddaa
open Go.ChangeShapes Go.WideShapes Go.ChangeAt Go.RowKit
set_option linter.unusedVariables false
set_option maxRecDepth 100000

theorem pckE_fir (p n id : Int) (L : List Sg) : firE [mayE L, chkI p n, unlE (okI n id), unlE (decide ((L.length : Int) ≤ n))] = pckE p n id L := by
  simp only [firE]
  unfold pckE pckB chkI unlE
  cases okP p n <;> cases okI n id <;> cases decide ((L.length : Int) ≤ n) <;> simp
theorem ponE_fir (p n id m : Int) : firE [chkI p n, unlE (okI n id), unlE (decide (1 ≤ m) && decide (m ≤ 64))] = ponE p n id m := by
  simp only [firE]
  unfold ponE ponB chkI unlE
  cases okP p n <;> cases okI n id <;> cases (decide (1 ≤ m) && decide (m ≤ 64)) <;> simp
theorem chks3 {w : World} {x y z : Value} {E F G : Int} (t : TypeId) (hx : Chk w x E) (hy : Chk w y F) (hz : Chk w z G) : ∀ k, k < 3 → ∃ q, (w.alloc (.cells #[x, y, z] t)).cell? ⟨w.heap.size, k, none⟩ = some q ∧ Chk (w.alloc (.cells #[x, y, z] t)) q ([E, F, G].getD k 0) := fun k hk => by
  rcases (show k = 0 ∨ k = 1 ∨ k = 2 by omega) with rfl | rfl | rfl
  · exact ⟨x, (blk_new w [x, y, z] t).cell 0, hx.below (below_box _ _)⟩
  · exact ⟨y, (blk_new w [x, y, z] t).cell 1, hy.below (below_box _ _)⟩
  · exact ⟨z, (blk_new w [x, y, z] t).cell 2, hz.below (below_box _ _)⟩
theorem chks4 {w : World} {x y z v : Value} {E F G H : Int} (t : TypeId) (hx : Chk w x E) (hy : Chk w y F) (hz : Chk w z G) (hv : Chk w v H) : ∀ k, k < 4 → ∃ q, (w.alloc (.cells #[x, y, z, v] t)).cell? ⟨w.heap.size, k, none⟩ = some q ∧ Chk (w.alloc (.cells #[x, y, z, v] t)) q ([E, F, G, H].getD k 0) := fun k hk => by
  rcases (show k = 0 ∨ k = 1 ∨ k = 2 ∨ k = 3 by omega) with rfl | rfl | rfl | rfl
  · exact ⟨x, (blk_new w [x, y, z, v] t).cell 0, hx.below (below_box _ _)⟩
  · exact ⟨y, (blk_new w [x, y, z, v] t).cell 1, hy.below (below_box _ _)⟩
  · exact ⟨z, (blk_new w [x, y, z, v] t).cell 2, hz.below (below_box _ _)⟩
  · exact ⟨v, (blk_new w [x, y, z, v] t).cell 3, hv.below (below_box _ _)⟩
/-- a row of checks, made in this call -/
def ChkRow (W : World) (v : Value) (n : Nat) (E : List Int) : Prop := ∃ l, v = .slice (some ⟨l, 0, none⟩) n n ∧ l < W.heap.size ∧ ∀ k, k < n → ∃ x, W.cell? ⟨l, k, none⟩ = some x ∧ Chk W x (E.getD k 0)
theorem ChkRow.below {W W' : World} {v : Value} {n : Nat} {E : List Int} (h : ChkRow W v n E) (hb : Below W.heap.size W W') : ChkRow W' v n E := by
  obtain ⟨l, h1, h2, h3⟩ := h
  refine ⟨l, h1, Nat.lt_of_lt_of_le h2 hb.size, fun k hk => ?_⟩
  obtain ⟨x, g1, g2⟩ := h3 k hk
  exact ⟨x, (hb.cell (p := ⟨l, k, none⟩) h2).trans g1, g2.below hb⟩
structure PaS (w : World) (cb : Nat) (C : List Value) (t : TypeId) (W : World) : Prop where
  box : BlkAt W cb C t
  old : Below w.heap.size w W
theorem PaS.below {w W W' : World} {cb : Nat} {C : List Value} {t : TypeId} (h : PaS w cb C t W) (hb : Below W.heap.size W W') : PaS w cb C t W' := ⟨h.box.below hb, below_then h.old hb⟩
theorem posLoad {W : World} {b : Nat} {p : Int} {t : Bool} (h : BlkAt W b [.int .i64 p, .bool t] 33) : W.cell? ⟨b, 0, none⟩ = some (.int .i64 p) ∧ W.cell? ⟨b, 1, none⟩ = some (.bool t) := ⟨h.cell 0, h.cell 1⟩
set_option maxHeartbeats 4000000 in
theorem bdpacked (p n : Int) (b : Bool) (id : Int) (u : Value) (L : List Sg) (w : World) (hp : I64 p) (hn : I64 n) (hid : I64 id) (hu : SegsAt w u L) (hs : isSgs L) (hl : L.length ≤ 1000) :
    Calls Try.prog 9 #[.agg #[.int .i64 p, .bool b], .int .i64 n, .int .i64 id, u] w fun e w' => ∃ x, e = .returned (.tuple #[x, .int .i64 (pckE p n id L)]) ∧ PtsAt w' x (pckR p n b id L) ∧ Below w.heap.size w w' := by
  have HU := hid_mk hu
  have HS := hid_mk hs
  have HP0 : Hid (PaS w w.heap.size [.int .i64 p, .bool b] 33 (w.alloc (.cells #[.int .i64 p, .bool b] 33)).drew) := hid_mk ⟨(blk_new _ _ _).below (Below.refl _ _).drew, (below_box _ _).drew⟩
  clear hp hn hid
  by_cases h : pckE p n id L = 0
  · have hm : mayE L = 0 := by
      by_cases hm : mayE L = 0
      · exact hm
      · unfold pckE at h
        rw [if_neg hm] at h
        exact absurd h hm
    have hb : pckB p n id L = true := by
      cases hb : pckB p n id L
      · unfold pckE at h
        rw [if_pos hm, hb] at h
        cases h
      · rfl
    obtain ⟨k1, k2, k3⟩ := pck_true hb
    obtain ⟨k4, k5, _, _⟩ := okP_t k1
    have hr : pckR p n b id L = pckL p n b id L := by
      unfold pckR
      rw [if_pos h]
    have HC := hid_mk (fun u1 (h1 : SegsAt u1 u L) => bchain2 p n id b u L u1 h1 (mayE_ok hm).2 hl k1 k3 ⟨k2.1, by omega⟩)
    rw [hr]
    obtain ⟨ua, uc, rfl⟩ := hu.len
    have HZ := hid_mk h
    clear hu hm hb hr hs hl k1 k2 k3 k4 k5 h
    go_enter Try.func9, Try.ntmps9
    go_wp2_with fail
    refine wp_region_outl3 0 [] [] []
        [(fun v _ => v = .slice ua L.length uc),
        (fun v W => Chk W v (mayE L)),
        (fun v _ => v = .agg #[.int .i64 p, .bool b]),
        (fun v _ => v = .int .i64 n),
        (fun v W => Chk W v (chkI p n)),
        (fun v _ => v = .int .i64 id),
        (fun v _ => v = .int .i64 n),
        (fun v W => Chk W v (unlE (okI n id))),
        (fun v _ => v = .slice ua L.length uc),
        (fun v _ => v = .int .i64 n),
        (fun v W => Chk W v (unlE (decide ((L.length : Int) ≤ n)))),
        (fun v W => ChkRow W v 4 [mayE L, chkI p n, unlE (okI n id), unlE (decide ((L.length : Int) ≤ n))]),
        (fun v _ => v = .int .i64 (pckE p n id L)),
        (fun v _ => v = .int .i64 (pckE p n id L))]
        (PaS w w.heap.size [.int .i64 p, .bool b] 33) (by kernel_rfl) (by kernel_rfl) (by kernel_rfl) ?_ (fun u u' hb h => h.below hb) (HP0.out) ?_ ?_ ?_ ?_ ?_
    · refine And.intro (up_eq _) ?_
      refine And.intro (fun v W W' hb h => h.below hb) ?_
      refine And.intro (up_eq _) ?_
      refine And.intro (up_eq _) ?_
      refine And.intro (fun v W W' hb h => h.below hb) ?_
      refine And.intro (up_eq _) ?_
      refine And.intro (up_eq _) ?_
      refine And.intro (fun v W W' hb h => h.below hb) ?_
      refine And.intro (up_eq _) ?_
      refine And.intro (up_eq _) ?_
      refine And.intro (fun v W W' hb h => h.below hb) ?_
      refine And.intro (fun v W W' hb h => h.below hb) ?_
      refine And.intro (up_eq _) ?_
      refine And.intro (up_eq _) ?_
      trivial
    · trivial
    · trivial
    · trivial
    · refine And.intro ?_ (And.intro ?_ (And.intro ?_ (And.intro ?_ (And.intro ?_ (And.intro ?_ (And.intro ?_ (And.intro ?_ (And.intro ?_ (And.intro ?_ (And.intro ?_ (And.intro ?_ (And.intro ?_ (And.intro ?_ (True.intro))))))))))))))
      · refine qstep_val (.slice ua L.length uc) (by kernel_rfl) (by kernel_rfl) rfl (fun _ A1 W1 inv hnl hall => ⟨wanted_none rfl, ?_, rfl⟩)
        have h3 : A1.eval (.tmp 3) = .slice ua L.length uc := (inv.base 3 (by kernel_rfl)).trans rfl
        simp only [execOp, h3, Sem.run_pure]
      · refine qstep_call 32 (by kernel_rfl) _ _ (by kernel_rfl) (by kernel_rfl) rfl rfl (fun _ A1 W1 inv hnl hall => ⟨wanted_none rfl, #[.slice ua L.length uc], ?_, ?_⟩)
        · have h11 : A1.eval (.tmp 11) = .slice ua L.length uc := inv.get hall 0 11 (by kernel_rfl) (by kernel_rfl) rfl
          simp [h11]
        · refine (bisbuf _ L _ (HU.out.below inv.s.old) HS.out).mono ?_
          rintro e u ⟨x, rfl, hx, hb⟩
          exact ⟨_, rfl, hx, hb⟩
      · refine qstep_val (.agg #[.int .i64 p, .bool b]) (by kernel_rfl) (by kernel_rfl) rfl (fun _ A1 W1 inv hnl hall => ⟨wanted_none rfl, ?_, rfl⟩)
        have h4 : A1.eval (.tmp 4) = .pointer (some ⟨w.heap.size, 0, none⟩) := (inv.base 4 (by kernel_rfl)).trans rfl
        obtain ⟨g0, g1⟩ := posLoad inv.s.box
        simp only [execOp, h4]
        simp [go_sem, g0, g1]
      · refine qstep_val (.int .i64 n) (by kernel_rfl) (by kernel_rfl) rfl (fun _ A1 W1 inv hnl hall => ⟨wanted_none rfl, ?_, rfl⟩)
        have h1 : A1.eval (.tmp 1) = .int .i64 n := (inv.base 1 (by kernel_rfl)).trans rfl
        simp only [execOp, h1, Sem.run_pure]
      · refine qstep_call 35 (by kernel_rfl) _ _ (by kernel_rfl) (by kernel_rfl) rfl rfl (fun _ A1 W1 inv hnl hall => ⟨wanted_none rfl, #[.agg #[.int .i64 p, .bool b], .int .i64 n], ?_, ?_⟩)
        · have h13 : A1.eval (.tmp 13) = .agg #[.int .i64 p, .bool b] := inv.get hall 2 13 (by kernel_rfl) (by kernel_rfl) rfl
          have h14 : A1.eval (.tmp 14) = .int .i64 n := inv.get hall 3 14 (by kernel_rfl) (by kernel_rfl) rfl
          simp [h13, h14]
        · refine (bispla p n b _).mono ?_
          rintro e u ⟨x, rfl, hx, hb⟩
          exact ⟨_, rfl, hx, hb⟩
      · refine qstep_val (.int .i64 id) (by kernel_rfl) (by kernel_rfl) rfl (fun _ A1 W1 inv hnl hall => ⟨wanted_none rfl, ?_, rfl⟩)
        have h2 : A1.eval (.tmp 2) = .int .i64 id := (inv.base 2 (by kernel_rfl)).trans rfl
        simp only [execOp, h2, Sem.run_pure]
      · refine qstep_val (.int .i64 n) (by kernel_rfl) (by kernel_rfl) rfl (fun _ A1 W1 inv hnl hall => ⟨wanted_none rfl, ?_, rfl⟩)
        have h1 : A1.eval (.tmp 1) = .int .i64 n := (inv.base 1 (by kernel_rfl)).trans rfl
        simp only [execOp, h1, Sem.run_pure]
      · refine qstep_call 36 (by kernel_rfl) _ _ (by kernel_rfl) (by kernel_rfl) rfl rfl (fun _ A1 W1 inv hnl hall => ⟨wanted_none rfl, #[.int .i64 id, .int .i64 n], ?_, ?_⟩)
        · have h16 : A1.eval (.tmp 16) = .int .i64 id := inv.get hall 5 16 (by kernel_rfl) (by kernel_rfl) rfl
          have h17 : A1.eval (.tmp 17) = .int .i64 n := inv.get hall 6 17 (by kernel_rfl) (by kernel_rfl) rfl
          simp [h16, h17]
        · refine (bisbel id n _).mono ?_
          rintro e u ⟨x, rfl, hx, hb⟩
          exact ⟨_, rfl, hx, hb⟩
      · refine qstep_val (.slice ua L.length uc) (by kernel_rfl) (by kernel_rfl) rfl (fun _ A1 W1 inv hnl hall => ⟨wanted_none rfl, ?_, rfl⟩)
        have h3 : A1.eval (.tmp 3) = .slice ua L.length uc := (inv.base 3 (by kernel_rfl)).trans rfl
        simp only [execOp, h3, Sem.run_pure]
      · refine qstep_val (.int .i64 n) (by kernel_rfl) (by kernel_rfl) rfl (fun _ A1 W1 inv hnl hall => ⟨wanted_none rfl, ?_, rfl⟩)
        have h1 : A1.eval (.tmp 1) = .int .i64 n := (inv.base 1 (by kernel_rfl)).trans rfl
        simp only [execOp, h1, Sem.run_pure]
      · refine qstep_call 37 (by kernel_rfl) _ _ (by kernel_rfl) (by kernel_rfl) rfl rfl (fun _ A1 W1 inv hnl hall => ⟨wanted_none rfl, #[.slice ua L.length uc, .int .i64 n], ?_, ?_⟩)
        · have h19 : A1.eval (.tmp 19) = .slice ua L.length uc := inv.get hall 8 19 (by kernel_rfl) (by kernel_rfl) rfl
          have h20 : A1.eval (.tmp 20) = .int .i64 n := inv.get hall 9 20 (by kernel_rfl) (by kernel_rfl) rfl
          simp [h19, h20]
        · refine (bfits L.length n ua uc _).mono ?_
          rintro e u ⟨x, rfl, hx, hb⟩
          exact ⟨_, rfl, hx, hb⟩
      · refine qstep_run (by kernel_rfl) (by kernel_rfl) rfl (fun _ A1 W1 inv hnl hall => ⟨wanted_none rfl, ?_⟩)
        have h12 : (fun v W => Chk W v (mayE L)) (A1.eval (.tmp 12)) W1 := inv.get hall 1 12 (by kernel_rfl) (by kernel_rfl) rfl
        have h15 : (fun v W => Chk W v (chkI p n)) (A1.eval (.tmp 15)) W1 := inv.get hall 4 15 (by kernel_rfl) (by kernel_rfl) rfl
        have h18 : (fun v W => Chk W v (unlE (okI n id))) (A1.eval (.tmp 18)) W1 := inv.get hall 7 18 (by kernel_rfl) (by kernel_rfl) rfl
        have h21 : (fun v W => Chk W v (unlE (decide ((L.length : Int) ≤ n)))) (A1.eval (.tmp 21)) W1 := inv.get hall 10 21 (by kernel_rfl) (by kernel_rfl) rfl
        have hc0 := h12
        obtain ⟨f0, c0, e0, _⟩ := h12
        rw [e0] at hc0
        have hc1 := h15
        obtain ⟨f1, c1, e1, _⟩ := h15
        rw [e1] at hc1
        have hc2 := h18
        obtain ⟨f2, c2, e2, _⟩ := h18
        rw [e2] at hc2
        have hc3 := h21
        obtain ⟨f3, c3, e3, _⟩ := h21
        rw [e3] at hc3
        refine ⟨.slice (some ⟨W1.heap.size, 0, none⟩) 4 4, W1.alloc (.cells #[.func (.func f0) #[] c0, .func (.func f1) #[] c1, .func (.func f2) #[] c2, .func (.func f3) #[] c3] 72), ?_, ⟨_, rfl, by simp, chks4 _ hc0 hc1 hc2 hc3⟩, below_box _ _⟩
        simp only [execOp, List.map_toArray, List.map_cons, List.map_nil, e0, e1, e2, e3]
        simp [go_sem]
      · refine qstep_call 31 (by kernel_rfl) _ _ (by kernel_rfl) (by kernel_rfl) rfl rfl (fun _ A1 W1 inv hnl hall => ⟨wanted_none rfl, #[A1.eval (.tmp 22)], ?_, ?_⟩)
        · simp
        · have h22 : (fun v W => ChkRow W v 4 [mayE L, chkI p n, unlE (okI n id), unlE (decide ((L.length : Int) ≤ n))]) (A1.eval (.tmp 22)) W1 := inv.get hall 11 22 (by kernel_rfl) (by kernel_rfl) rfl
          obtain ⟨l, e, hl, hc⟩ := h22
          rw [e]
          refine (bfirst l 4 [mayE L, chkI p n, unlE (okI n id), unlE (decide ((L.length : Int) ≤ n))] _ rfl (by omega) hl hc).mono ?_
          rintro e1 u ⟨rfl, hb⟩
          rw [pckE_fir]
          exact ⟨_, rfl, rfl, hb⟩
      · refine qstep_val (.int .i64 (pckE p n id L)) (by kernel_rfl) (by kernel_rfl) rfl (fun _ A1 W1 inv hnl hall => ⟨wanted_none rfl, ?_, rfl⟩)
        have h23 : A1.eval (.tmp 23) = .int .i64 (pckE p n id L) := inv.get hall 12 23 (by kernel_rfl) (by kernel_rfl) rfl
        simp only [execOp, h23, Sem.run_pure]
    · intro listed A1 W1 inv hall
      have e11 : A1.eval (.tmp 11) = .slice ua L.length uc := inv.fin 0 11 (by kernel_rfl) (hall 0 (Nat.lt_of_lt_of_eq (by decide : 0 < 14) (by kernel_rfl))) rfl
      have e13 : A1.eval (.tmp 13) = .agg #[.int .i64 p, .bool b] := inv.fin 2 13 (by kernel_rfl) (hall 2 (Nat.lt_of_lt_of_eq (by decide : 2 < 14) (by kernel_rfl))) rfl
      have e14 : A1.eval (.tmp 14) = .int .i64 n := inv.fin 3 14 (by kernel_rfl) (hall 3 (Nat.lt_of_lt_of_eq (by decide : 3 < 14) (by kernel_rfl))) rfl
      have e16 : A1.eval (.tmp 16) = .int .i64 id := inv.fin 5 16 (by kernel_rfl) (hall 5 (Nat.lt_of_lt_of_eq (by decide : 5 < 14) (by kernel_rfl))) rfl
      have e17 : A1.eval (.tmp 17) = .int .i64 n := inv.fin 6 17 (by kernel_rfl) (hall 6 (Nat.lt_of_lt_of_eq (by decide : 6 < 14) (by kernel_rfl))) rfl
      have e19 : A1.eval (.tmp 19) = .slice ua L.length uc := inv.fin 8 19 (by kernel_rfl) (hall 8 (Nat.lt_of_lt_of_eq (by decide : 8 < 14) (by kernel_rfl))) rfl
      have e20 : A1.eval (.tmp 20) = .int .i64 n := inv.fin 9 20 (by kernel_rfl) (hall 9 (Nat.lt_of_lt_of_eq (by decide : 9 < 14) (by kernel_rfl))) rfl
      have e23 : A1.eval (.tmp 23) = .int .i64 (pckE p n id L) := inv.fin 12 23 (by kernel_rfl) (hall 12 (Nat.lt_of_lt_of_eq (by decide : 12 < 14) (by kernel_rfl))) rfl
      have e10 : A1.eval (.tmp 10) = .int .i64 (pckE p n id L) := inv.fin 13 10 (by kernel_rfl) (hall 13 (Nat.lt_of_lt_of_eq (by decide : 13 < 14) (by kernel_rfl))) rfl
      have p12 : (fun v W => Chk W v (mayE L)) (A1.eval (.tmp 12)) W1 := inv.fin 1 12 (by kernel_rfl) (hall 1 (Nat.lt_of_lt_of_eq (by decide : 1 < 14) (by kernel_rfl))) rfl
      obtain ⟨v12, e12⟩ : ∃ v, A1.eval (.tmp 12) = v := ⟨_, rfl⟩
      rw [e12] at p12
      have p15 : (fun v W => Chk W v (chkI p n)) (A1.eval (.tmp 15)) W1 := inv.fin 4 15 (by kernel_rfl) (hall 4 (Nat.lt_of_lt_of_eq (by decide : 4 < 14) (by kernel_rfl))) rfl
      obtain ⟨v15, e15⟩ : ∃ v, A1.eval (.tmp 15) = v := ⟨_, rfl⟩
      rw [e15] at p15
      have p18 : (fun v W => Chk W v (unlE (okI n id))) (A1.eval (.tmp 18)) W1 := inv.fin 7 18 (by kernel_rfl) (hall 7 (Nat.lt_of_lt_of_eq (by decide : 7 < 14) (by kernel_rfl))) rfl
      obtain ⟨v18, e18⟩ : ∃ v, A1.eval (.tmp 18) = v := ⟨_, rfl⟩
      rw [e18] at p18
      have p21 : (fun v W => Chk W v (unlE (decide ((L.length : Int) ≤ n)))) (A1.eval (.tmp 21)) W1 := inv.fin 10 21 (by kernel_rfl) (hall 10 (Nat.lt_of_lt_of_eq (by decide : 10 < 14) (by kernel_rfl))) rfl
      obtain ⟨v21, e21⟩ : ∃ v, A1.eval (.tmp 21) = v := ⟨_, rfl⟩
      rw [e21] at p21
      have p22 : (fun v W => ChkRow W v 4 [mayE L, chkI p n, unlE (okI n id), unlE (decide ((L.length : Int) ≤ n))]) (A1.eval (.tmp 22)) W1 := inv.fin 11 22 (by kernel_rfl) (hall 11 (Nat.lt_of_lt_of_eq (by decide : 11 < 14) (by kernel_rfl))) rfl
      obtain ⟨v22, e22⟩ : ∃ v, A1.eval (.tmp 22) = v := ⟨_, rfl⟩
      rw [e22] at p22
      have HF := inv.frame hall
      have HS9 := hid_mk inv.s
      simp only [putEnd, e11, e13, e14, e16, e17, e19, e20, e23, e10, e12, e15, e18, e21, e22, Act.put, List.setIfInBounds_toArray, List.set_cons_succ, List.set_cons_zero] at HF
      clear e11 e13 e14 e16 e17 e19 e20 e23 e10 e12 e15 e18 e21 e22 inv hall
      subst HF
      have hz := HZ.out
      rw [hz]
      have HO9 := hid_mk HS9.out.old
      have HX9 := hid_mk HS9.out.box
      clear HS9
      obtain ⟨g0, g1⟩ := posLoad HX9.out
      have gl := HX9.out.lt
      go_wp2_with fail
      refine (HC.out _ (HU.out.below HO9.out)).mono ?_
      rintro e w2 ⟨rfl, hr, hb⟩
      have HR := hid_mk hr
      have HB := hid_mk (below_then HO9.out hb)
      clear hr hb
      go_wp2_with fail
      go_ret2
      exact ⟨_, by rw [HZ.out]; rfl, pts_of_blk HR.out (pckL_len _ _ _ _ _), HB.out⟩
  · have hr : pckR p n b id L = [] := by
      unfold pckR
      rw [if_neg h]
    rw [hr]
    have hzb : (pckE p n id L != 0) = true := by simp; exact h
    obtain ⟨ua, uc, rfl⟩ := hu.len
    clear hu h hr hs hl
    go_enter Try.func9, Try.ntmps9
    go_wp2_with fail
    refine wp_region_outl3 0 [] [] []
        [(fun v _ => v = .slice ua L.length uc),
        (fun v W => Chk W v (mayE L)),
        (fun v _ => v = .agg #[.int .i64 p, .bool b]),
        (fun v _ => v = .int .i64 n),
        (fun v W => Chk W v (chkI p n)),
        (fun v _ => v = .int .i64 id),
        (fun v _ => v = .int .i64 n),
        (fun v W => Chk W v (unlE (okI n id))),
        (fun v _ => v = .slice ua L.length uc),
        (fun v _ => v = .int .i64 n),
        (fun v W => Chk W v (unlE (decide ((L.length : Int) ≤ n)))),
        (fun v W => ChkRow W v 4 [mayE L, chkI p n, unlE (okI n id), unlE (decide ((L.length : Int) ≤ n))]),
        (fun v _ => v = .int .i64 (pckE p n id L)),
        (fun v _ => v = .int .i64 (pckE p n id L))]
        (PaS w w.heap.size [.int .i64 p, .bool b] 33) (by kernel_rfl) (by kernel_rfl) (by kernel_rfl) ?_ (fun u u' hb h => h.below hb) (HP0.out) ?_ ?_ ?_ ?_ ?_
    · refine And.intro (up_eq _) ?_
      refine And.intro (fun v W W' hb h => h.below hb) ?_
      refine And.intro (up_eq _) ?_
      refine And.intro (up_eq _) ?_
      refine And.intro (fun v W W' hb h => h.below hb) ?_
      refine And.intro (up_eq _) ?_
      refine And.intro (up_eq _) ?_
      refine And.intro (fun v W W' hb h => h.below hb) ?_
      refine And.intro (up_eq _) ?_
      refine And.intro (up_eq _) ?_
      refine And.intro (fun v W W' hb h => h.below hb) ?_
      refine And.intro (fun v W W' hb h => h.below hb) ?_
      refine And.intro (up_eq _) ?_
      refine And.intro (up_eq _) ?_
      trivial
    · trivial
    · trivial
    · trivial
    · refine And.intro ?_ (And.intro ?_ (And.intro ?_ (And.intro ?_ (And.intro ?_ (And.intro ?_ (And.intro ?_ (And.intro ?_ (And.intro ?_ (And.intro ?_ (And.intro ?_ (And.intro ?_ (And.intro ?_ (And.intro ?_ (True.intro))))))))))))))
      · refine qstep_val (.slice ua L.length uc) (by kernel_rfl) (by kernel_rfl) rfl (fun _ A1 W1 inv hnl hall => ⟨wanted_none rfl, ?_, rfl⟩)
        have h3 : A1.eval (.tmp 3) = .slice ua L.length uc := (inv.base 3 (by kernel_rfl)).trans rfl
        simp only [execOp, h3, Sem.run_pure]
      · refine qstep_call 32 (by kernel_rfl) _ _ (by kernel_rfl) (by kernel_rfl) rfl rfl (fun _ A1 W1 inv hnl hall => ⟨wanted_none rfl, #[.slice ua L.length uc], ?_, ?_⟩)
        · have h11 : A1.eval (.tmp 11) = .slice ua L.length uc := inv.get hall 0 11 (by kernel_rfl) (by kernel_rfl) rfl
          simp [h11]
        · refine (bisbuf _ L _ (HU.out.below inv.s.old) HS.out).mono ?_
          rintro e u ⟨x, rfl, hx, hb⟩
          exact ⟨_, rfl, hx, hb⟩
      · refine qstep_val (.agg #[.int .i64 p, .bool b]) (by kernel_rfl) (by kernel_rfl) rfl (fun _ A1 W1 inv hnl hall => ⟨wanted_none rfl, ?_, rfl⟩)
        have h4 : A1.eval (.tmp 4) = .pointer (some ⟨w.heap.size, 0, none⟩) := (inv.base 4 (by kernel_rfl)).trans rfl
        obtain ⟨g0, g1⟩ := posLoad inv.s.box
        simp only [execOp, h4]
        simp [go_sem, g0, g1]
      · refine qstep_val (.int .i64 n) (by kernel_rfl) (by kernel_rfl) rfl (fun _ A1 W1 inv hnl hall => ⟨wanted_none rfl, ?_, rfl⟩)
        have h1 : A1.eval (.tmp 1) = .int .i64 n := (inv.base 1 (by kernel_rfl)).trans rfl
        simp only [execOp, h1, Sem.run_pure]
      · refine qstep_call 35 (by kernel_rfl) _ _ (by kernel_rfl) (by kernel_rfl) rfl rfl (fun _ A1 W1 inv hnl hall => ⟨wanted_none rfl, #[.agg #[.int .i64 p, .bool b], .int .i64 n], ?_, ?_⟩)
        · have h13 : A1.eval (.tmp 13) = .agg #[.int .i64 p, .bool b] := inv.get hall 2 13 (by kernel_rfl) (by kernel_rfl) rfl
          have h14 : A1.eval (.tmp 14) = .int .i64 n := inv.get hall 3 14 (by kernel_rfl) (by kernel_rfl) rfl
          simp [h13, h14]
        · refine (bispla p n b _).mono ?_
          rintro e u ⟨x, rfl, hx, hb⟩
          exact ⟨_, rfl, hx, hb⟩
      · refine qstep_val (.int .i64 id) (by kernel_rfl) (by kernel_rfl) rfl (fun _ A1 W1 inv hnl hall => ⟨wanted_none rfl, ?_, rfl⟩)
        have h2 : A1.eval (.tmp 2) = .int .i64 id := (inv.base 2 (by kernel_rfl)).trans rfl
        simp only [execOp, h2, Sem.run_pure]
      · refine qstep_val (.int .i64 n) (by kernel_rfl) (by kernel_rfl) rfl (fun _ A1 W1 inv hnl hall => ⟨wanted_none rfl, ?_, rfl⟩)
        have h1 : A1.eval (.tmp 1) = .int .i64 n := (inv.base 1 (by kernel_rfl)).trans rfl
        simp only [execOp, h1, Sem.run_pure]
      · refine qstep_call 36 (by kernel_rfl) _ _ (by kernel_rfl) (by kernel_rfl) rfl rfl (fun _ A1 W1 inv hnl hall => ⟨wanted_none rfl, #[.int .i64 id, .int .i64 n], ?_, ?_⟩)
        · have h16 : A1.eval (.tmp 16) = .int .i64 id := inv.get hall 5 16 (by kernel_rfl) (by kernel_rfl) rfl
          have h17 : A1.eval (.tmp 17) = .int .i64 n := inv.get hall 6 17 (by kernel_rfl) (by kernel_rfl) rfl
          simp [h16, h17]
        · refine (bisbel id n _).mono ?_
          rintro e u ⟨x, rfl, hx, hb⟩
          exact ⟨_, rfl, hx, hb⟩
      · refine qstep_val (.slice ua L.length uc) (by kernel_rfl) (by kernel_rfl) rfl (fun _ A1 W1 inv hnl hall => ⟨wanted_none rfl, ?_, rfl⟩)
        have h3 : A1.eval (.tmp 3) = .slice ua L.length uc := (inv.base 3 (by kernel_rfl)).trans rfl
        simp only [execOp, h3, Sem.run_pure]
      · refine qstep_val (.int .i64 n) (by kernel_rfl) (by kernel_rfl) rfl (fun _ A1 W1 inv hnl hall => ⟨wanted_none rfl, ?_, rfl⟩)
        have h1 : A1.eval (.tmp 1) = .int .i64 n := (inv.base 1 (by kernel_rfl)).trans rfl
        simp only [execOp, h1, Sem.run_pure]
      · refine qstep_call 37 (by kernel_rfl) _ _ (by kernel_rfl) (by kernel_rfl) rfl rfl (fun _ A1 W1 inv hnl hall => ⟨wanted_none rfl, #[.slice ua L.length uc, .int .i64 n], ?_, ?_⟩)
        · have h19 : A1.eval (.tmp 19) = .slice ua L.length uc := inv.get hall 8 19 (by kernel_rfl) (by kernel_rfl) rfl
          have h20 : A1.eval (.tmp 20) = .int .i64 n := inv.get hall 9 20 (by kernel_rfl) (by kernel_rfl) rfl
          simp [h19, h20]
        · refine (bfits L.length n ua uc _).mono ?_
          rintro e u ⟨x, rfl, hx, hb⟩
          exact ⟨_, rfl, hx, hb⟩
      · refine qstep_run (by kernel_rfl) (by kernel_rfl) rfl (fun _ A1 W1 inv hnl hall => ⟨wanted_none rfl, ?_⟩)
        have h12 : (fun v W => Chk W v (mayE L)) (A1.eval (.tmp 12)) W1 := inv.get hall 1 12 (by kernel_rfl) (by kernel_rfl) rfl
        have h15 : (fun v W => Chk W v (chkI p n)) (A1.eval (.tmp 15)) W1 := inv.get hall 4 15 (by kernel_rfl) (by kernel_rfl) rfl
        have h18 : (fun v W => Chk W v (unlE (okI n id))) (A1.eval (.tmp 18)) W1 := inv.get hall 7 18 (by kernel_rfl) (by kernel_rfl) rfl
        have h21 : (fun v W => Chk W v (unlE (decide ((L.length : Int) ≤ n)))) (A1.eval (.tmp 21)) W1 := inv.get hall 10 21 (by kernel_rfl) (by kernel_rfl) rfl
        have hc0 := h12
        obtain ⟨f0, c0, e0, _⟩ := h12
        rw [e0] at hc0
        have hc1 := h15
        obtain ⟨f1, c1, e1, _⟩ := h15
        rw [e1] at hc1
        have hc2 := h18
        obtain ⟨f2, c2, e2, _⟩ := h18
        rw [e2] at hc2
        have hc3 := h21
        obtain ⟨f3, c3, e3, _⟩ := h21
        rw [e3] at hc3
        refine ⟨.slice (some ⟨W1.heap.size, 0, none⟩) 4 4, W1.alloc (.cells #[.func (.func f0) #[] c0, .func (.func f1) #[] c1, .func (.func f2) #[] c2, .func (.func f3) #[] c3] 72), ?_, ⟨_, rfl, by simp, chks4 _ hc0 hc1 hc2 hc3⟩, below_box _ _⟩
        simp only [execOp, List.map_toArray, List.map_cons, List.map_nil, e0, e1, e2, e3]
        simp [go_sem]
      · refine qstep_call 31 (by kernel_rfl) _ _ (by kernel_rfl) (by kernel_rfl) rfl rfl (fun _ A1 W1 inv hnl hall => ⟨wanted_none rfl, #[A1.eval (.tmp 22)], ?_, ?_⟩)
        · simp
        · have h22 : (fun v W => ChkRow W v 4 [mayE L, chkI p n, unlE (okI n id), unlE (decide ((L.length : Int) ≤ n))]) (A1.eval (.tmp 22)) W1 := inv.get hall 11 22 (by kernel_rfl) (by kernel_rfl) rfl
          obtain ⟨l, e, hl, hc⟩ := h22
          rw [e]
          refine (bfirst l 4 [mayE L, chkI p n, unlE (okI n id), unlE (decide ((L.length : Int) ≤ n))] _ rfl (by omega) hl hc).mono ?_
          rintro e1 u ⟨rfl, hb⟩
          rw [pckE_fir]
          exact ⟨_, rfl, rfl, hb⟩
      · refine qstep_val (.int .i64 (pckE p n id L)) (by kernel_rfl) (by kernel_rfl) rfl (fun _ A1 W1 inv hnl hall => ⟨wanted_none rfl, ?_, rfl⟩)
        have h23 : A1.eval (.tmp 23) = .int .i64 (pckE p n id L) := inv.get hall 12 23 (by kernel_rfl) (by kernel_rfl) rfl
        simp only [execOp, h23, Sem.run_pure]
    · intro listed A1 W1 inv hall
      have e11 : A1.eval (.tmp 11) = .slice ua L.length uc := inv.fin 0 11 (by kernel_rfl) (hall 0 (Nat.lt_of_lt_of_eq (by decide : 0 < 14) (by kernel_rfl))) rfl
      have e13 : A1.eval (.tmp 13) = .agg #[.int .i64 p, .bool b] := inv.fin 2 13 (by kernel_rfl) (hall 2 (Nat.lt_of_lt_of_eq (by decide : 2 < 14) (by kernel_rfl))) rfl
      have e14 : A1.eval (.tmp 14) = .int .i64 n := inv.fin 3 14 (by kernel_rfl) (hall 3 (Nat.lt_of_lt_of_eq (by decide : 3 < 14) (by kernel_rfl))) rfl
      have e16 : A1.eval (.tmp 16) = .int .i64 id := inv.fin 5 16 (by kernel_rfl) (hall 5 (Nat.lt_of_lt_of_eq (by decide : 5 < 14) (by kernel_rfl))) rfl
      have e17 : A1.eval (.tmp 17) = .int .i64 n := inv.fin 6 17 (by kernel_rfl) (hall 6 (Nat.lt_of_lt_of_eq (by decide : 6 < 14) (by kernel_rfl))) rfl
      have e19 : A1.eval (.tmp 19) = .slice ua L.length uc := inv.fin 8 19 (by kernel_rfl) (hall 8 (Nat.lt_of_lt_of_eq (by decide : 8 < 14) (by kernel_rfl))) rfl
      have e20 : A1.eval (.tmp 20) = .int .i64 n := inv.fin 9 20 (by kernel_rfl) (hall 9 (Nat.lt_of_lt_of_eq (by decide : 9 < 14) (by kernel_rfl))) rfl
      have e23 : A1.eval (.tmp 23) = .int .i64 (pckE p n id L) := inv.fin 12 23 (by kernel_rfl) (hall 12 (Nat.lt_of_lt_of_eq (by decide : 12 < 14) (by kernel_rfl))) rfl
      have e10 : A1.eval (.tmp 10) = .int .i64 (pckE p n id L) := inv.fin 13 10 (by kernel_rfl) (hall 13 (Nat.lt_of_lt_of_eq (by decide : 13 < 14) (by kernel_rfl))) rfl
      have p12 : (fun v W => Chk W v (mayE L)) (A1.eval (.tmp 12)) W1 := inv.fin 1 12 (by kernel_rfl) (hall 1 (Nat.lt_of_lt_of_eq (by decide : 1 < 14) (by kernel_rfl))) rfl
      obtain ⟨v12, e12⟩ : ∃ v, A1.eval (.tmp 12) = v := ⟨_, rfl⟩
      rw [e12] at p12
      have p15 : (fun v W => Chk W v (chkI p n)) (A1.eval (.tmp 15)) W1 := inv.fin 4 15 (by kernel_rfl) (hall 4 (Nat.lt_of_lt_of_eq (by decide : 4 < 14) (by kernel_rfl))) rfl
      obtain ⟨v15, e15⟩ : ∃ v, A1.eval (.tmp 15) = v := ⟨_, rfl⟩
      rw [e15] at p15
      have p18 : (fun v W => Chk W v (unlE (okI n id))) (A1.eval (.tmp 18)) W1 := inv.fin 7 18 (by kernel_rfl) (hall 7 (Nat.lt_of_lt_of_eq (by decide : 7 < 14) (by kernel_rfl))) rfl
      obtain ⟨v18, e18⟩ : ∃ v, A1.eval (.tmp 18) = v := ⟨_, rfl⟩
      rw [e18] at p18
      have p21 : (fun v W => Chk W v (unlE (decide ((L.length : Int) ≤ n)))) (A1.eval (.tmp 21)) W1 := inv.fin 10 21 (by kernel_rfl) (hall 10 (Nat.lt_of_lt_of_eq (by decide : 10 < 14) (by kernel_rfl))) rfl
      obtain ⟨v21, e21⟩ : ∃ v, A1.eval (.tmp 21) = v := ⟨_, rfl⟩
      rw [e21] at p21
      have p22 : (fun v W => ChkRow W v 4 [mayE L, chkI p n, unlE (okI n id), unlE (decide ((L.length : Int) ≤ n))]) (A1.eval (.tmp 22)) W1 := inv.fin 11 22 (by kernel_rfl) (hall 11 (Nat.lt_of_lt_of_eq (by decide : 11 < 14) (by kernel_rfl))) rfl
      obtain ⟨v22, e22⟩ : ∃ v, A1.eval (.tmp 22) = v := ⟨_, rfl⟩
      rw [e22] at p22
      have HF := inv.frame hall
      have HS9 := hid_mk inv.s
      simp only [putEnd, e11, e13, e14, e16, e17, e19, e20, e23, e10, e12, e15, e18, e21, e22, Act.put, List.setIfInBounds_toArray, List.set_cons_succ, List.set_cons_zero] at HF
      clear e11 e13 e14 e16 e17 e19 e20 e23 e10 e12 e15 e18 e21 e22 inv hall
      subst HF
      have HO9 := hid_mk HS9.out.old
      have HX9 := hid_mk HS9.out.box
      clear HS9
      go_wp2_with fail
      go_ret2
      exact ⟨_, rfl, PtsAt.nil _, HO9.out⟩
set_option maxHeartbeats 4000000 in
theorem bdpone (p n : Int) (b : Bool) (id at_ m : Int) (w : World) (hp : I64 p) (hn : I64 n) (hid : I64 id) (ha : U64 at_) (hm : I64 m) :
    Calls Try.prog 11 #[.agg #[.int .i64 p, .bool b], .int .i64 n, .int .i64 id, .int .u64 at_, .int .i64 m] w fun e w' => e = .returned (.tuple #[pV (ponP p n b id at_ m), .int .i64 (ponE p n id m)]) ∧ Below w.heap.size w w' := by
  have HA := hid_mk (fun u1 => bispla p n b u1)
  have HI := hid_mk (fun u1 => bisbel id n u1)
  have HN := hid_mk (fun u1 => biscnt m u1)
  have HE := hid_mk (ponE_fir p n id m)
  have HB0 : Hid (Below w.heap.size w ((w.alloc (.cells #[.int .i64 p, .bool b] 33)).alloc (.cells (ptCells [zPt]).toArray 46))) := hid_mk ((below_box w _).alloc (by simp) _)
  have HX0 : Hid (BlkAt ((w.alloc (.cells #[.int .i64 p, .bool b] 33)).alloc (.cells (ptCells [zPt]).toArray 46)) w.heap.size [.int .i64 p, .bool b] 33) := hid_mk ((blk_new w [.int .i64 p, .bool b] 33).below (below_box _ _))
  have HR0 : Hid (BlkAt ((w.alloc (.cells #[.int .i64 p, .bool b] 33)).alloc (.cells (ptCells [zPt]).toArray 46)) (w.heap.size + 1) (ptCells [zPt]) 46) := hid_mk (by
    have := blk_new (w.alloc (.cells #[.int .i64 p, .bool b] 33)) (ptCells [zPt]) 46
    simpa using this)
  simp only [ptCells, zPt] at HB0 HX0 HR0
  clear hp hn hid ha hm
  by_cases h : ponB p n id m = true
  · have e1 : ponE p n id m = 0 := by unfold ponE; rw [if_pos h]
    have e2 : ponP p n b id at_ m = ⟨p, ⟨at_, 16 * m, id, (markN 4 b false : Nat)⟩⟩ := by unfold ponP; rw [if_pos h]
    rw [e1] at HE ⊢
    rw [e2]
    unfold ponB at h
    simp only [Bool.and_eq_true, decide_eq_true_eq, okI_iff] at h
    obtain ⟨h1, ⟨h2, h3⟩, h4⟩ := h
    obtain ⟨g1, g2, g3, g4⟩ := okP_t h1
    have HT := hid_mk (fun u1 => btabpart at_ m u1 h4)
    have HPu := hid_mk (fun (u1 : World) => bpcput p n id at_ (16 * m) b 0 4 u1 (by decide) h1 (by simp; omega) ⟨h2, by omega⟩)
    rw [show goA p ((0 : Nat) : Int) n = p from by simp [goA, g4], show goW p ((0 : Nat) : Int) n b = b from by simp [goW, g4], show ((0 : Nat) : Int) = 0 from rfl] at HPu
    clear e1 e2 h1 h2 h3 h4 g1 g2 g3 g4
    go_enter Try.func11, Try.ntmps11
    go_wp2_with fail
    refine (HA.out _).mono ?_
    rintro e w1 ⟨x, rfl, hx, hb1⟩
    have HX := hid_mk hx
    obtain ⟨f, caps, rfl, _⟩ := hx
    have HR1 := hid_mk (HR0.out.below hb1)
    have HQ1 := hid_mk (HX0.out.below hb1)
    have HB1 := hid_mk (below_then HB0.out hb1)
    clear hb1
    go_wp2_with fail
    refine (HI.out _).mono ?_
    rintro e w2 ⟨y, rfl, hy, hb2⟩
    have HY := hid_mk hy
    obtain ⟨f2, caps2, rfl, _⟩ := hy
    have HX2 := hid_mk (HX.out.below hb2)
    have HR2 := hid_mk (HR1.out.below hb2)
    have HQ2 := hid_mk (HQ1.out.below hb2)
    have HB2 := hid_mk (below_then HB1.out hb2)
    clear hb2
    go_wp2_with fail
    refine (HN.out _).mono ?_
    rintro e w3 ⟨z, rfl, hz, hb3⟩
    have HZ := hid_mk hz
    obtain ⟨f3, caps3, rfl, _⟩ := hz
    have HX3 := hid_mk (HX2.out.below hb3)
    have HY3 := hid_mk (HY.out.below hb3)
    have HR3 := hid_mk (HR2.out.below hb3)
    have HQ3 := hid_mk (HQ2.out.below hb3)
    have HB3 := hid_mk (below_then HB2.out hb3)
    clear hb3
    go_wp2_with fail
    refine (bfirst w3.heap.size 3 [chkI p n, unlE (okI n id), unlE (decide (1 ≤ m) && decide (m ≤ 64))] _ rfl (by omega) (by simp) (chks3 _ HX3.out HY3.out HZ.out)).mono ?_
    rintro e w4 ⟨rfl, hb4⟩
    have HB4 := hid_mk (below_then (HB3.out.alloc HB3.out.size _) hb4)
    have HR4 := hid_mk ((HR3.out.below (below_box _ _)).below hb4)
    have HQ4 := hid_mk ((HQ3.out.below (below_box _ _)).below hb4)
    rw [HE.out]
    clear hb4
    have HES : Hid (EndS w w.heap.size (w.heap.size + 1) [.int .i64 p, .bool b] 33 46 w4.drew) := hid_mk ⟨HQ4.out.below (Below.refl _ _).drew, HB4.out.drew, _, rfl, HR4.out.below (Below.refl _ _).drew⟩
    obtain ⟨bx, hbx⟩ : ∃ bx, w.heap.size = bx := ⟨_, rfl⟩
    obtain ⟨rb, hrb⟩ : ∃ rb, bx + 1 = rb := ⟨_, rfl⟩
    have HNE : Hid (bx ≠ rb) := hid_mk (by omega)
    have HWR : Hid (w.heap.size ≤ rb) := hid_mk (by omega)
    rw [hbx, hrb] at HES
    rw [hbx]
    rw [hrb]
    have HBX := hid_mk hbx
    clear hbx hrb HB0 HX0 HR0
    go_wp2_with fail
    refine wp_region_outl3 10 [(8, Put5 rb)] [] []
        [(fun v _ => v = .agg #[.int .i64 p, .bool b]),
        (fun v _ => v = .int .i64 n),
        (fun v _ => v = .int .i64 id),
        (fun v _ => v = .agg #[.int .i64 p, .bool b, .int .i64 n, .int .i64 id]),
        (fun v _ => v = .int .u64 at_),
        (fun v _ => v = .int .i64 m),
        (fun v _ => v = paV at_ (16 * m) 4),
        (fun v _ => v = pV ⟨p, ⟨at_, 16 * m, id, (markN 4 b false : Nat)⟩⟩),
        (fun _ W => BlkAt W rb (ptCells [⟨p, ⟨at_, 16 * m, id, (markN 4 b false : Nat)⟩⟩]) 46),
        (fun v _ => v = .int .i64 0)]
        (EndS w bx rb [.int .i64 p, .bool b] 33 46) (by kernel_rfl) (by kernel_rfl) (by kernel_rfl) ?_ (fun u u' hb h => h.below hb) (HES.out) ?_ ?_ ?_ ?_ ?_
    · refine And.intro (up_eq _) ?_
      refine And.intro (up_eq _) ?_
      refine And.intro (up_eq _) ?_
      refine And.intro (up_eq _) ?_
      refine And.intro (up_eq _) ?_
      refine And.intro (up_eq _) ?_
      refine And.intro (up_eq _) ?_
      refine And.intro (up_eq _) ?_
      refine And.intro (up_end _ _ _) ?_
      refine And.intro (up_eq _) ?_
      trivial
    · trivial
    · trivial
    · refine And.intro (And.intro ?_ (fun u u' hb h => h.put HNE.out HWR.out hb)) ?_
      · refine And.intro (fun _ _ _ => ch_eq _ _) ?_
        refine And.intro (fun _ _ _ => ch_eq _ _) ?_
        refine And.intro (fun _ _ _ => ch_eq _ _) ?_
        refine And.intro (fun _ _ _ => ch_eq _ _) ?_
        refine And.intro (fun _ _ _ => ch_eq _ _) ?_
        refine And.intro (fun _ _ _ => ch_eq _ _) ?_
        refine And.intro (fun _ _ _ => ch_eq _ _) ?_
        refine And.intro (fun _ _ _ => ch_eq _ _) ?_
        refine And.intro (fun h _ _ => absurd rfl h) ?_
        refine And.intro (fun _ _ _ => ch_eq _ _) ?_
        trivial
      trivial
    · refine And.intro ?_ (And.intro ?_ (And.intro ?_ (And.intro ?_ (And.intro ?_ (And.intro ?_ (And.intro ?_ (And.intro ?_ (And.intro ?_ (And.intro ?_ (True.intro))))))))))
      · refine qstep_val (.agg #[.int .i64 p, .bool b]) (by kernel_rfl) (by kernel_rfl) rfl (fun _ A1 W1 inv hnl hall => ⟨wanted_none rfl, ?_, rfl⟩)
        have h5 : A1.eval (.tmp 5) = .pointer (some ⟨bx, 0, none⟩) := (inv.base 5 (by kernel_rfl)).trans rfl
        obtain ⟨g0, g1⟩ := posLoad inv.s.box
        simp only [execOp, h5]
        simp [go_sem, g0, g1]
      · refine qstep_val (.int .i64 n) (by kernel_rfl) (by kernel_rfl) rfl (fun _ A1 W1 inv hnl hall => ⟨wanted_none rfl, ?_, rfl⟩)
        have h1 : A1.eval (.tmp 1) = .int .i64 n := (inv.base 1 (by kernel_rfl)).trans rfl
        simp only [execOp, h1, Sem.run_pure]
      · refine qstep_val (.int .i64 id) (by kernel_rfl) (by kernel_rfl) rfl (fun _ A1 W1 inv hnl hall => ⟨wanted_none rfl, ?_, rfl⟩)
        have h2 : A1.eval (.tmp 2) = .int .i64 id := (inv.base 2 (by kernel_rfl)).trans rfl
        simp only [execOp, h2, Sem.run_pure]
      · refine qstep_val (.agg #[.int .i64 p, .bool b, .int .i64 n, .int .i64 id]) (by kernel_rfl) (by kernel_rfl) rfl (fun _ A1 W1 inv hnl hall => ⟨wanted_none rfl, ?_, rfl⟩)
        have h27 : A1.eval (.tmp 27) = .agg #[.int .i64 p, .bool b] := inv.get hall 0 27 (by kernel_rfl) (by kernel_rfl) rfl
        have h28 : A1.eval (.tmp 28) = .int .i64 n := inv.get hall 1 28 (by kernel_rfl) (by kernel_rfl) rfl
        have h29 : A1.eval (.tmp 29) = .int .i64 id := inv.get hall 2 29 (by kernel_rfl) (by kernel_rfl) rfl
        simp only [execOp, List.map_toArray, List.map_cons, List.map_nil, h27, h28, h29]
        simp [go_sem]
      · refine qstep_val (.int .u64 at_) (by kernel_rfl) (by kernel_rfl) rfl (fun _ A1 W1 inv hnl hall => ⟨wanted_none rfl, ?_, rfl⟩)
        have h3 : A1.eval (.tmp 3) = .int .u64 at_ := (inv.base 3 (by kernel_rfl)).trans rfl
        simp only [execOp, h3, Sem.run_pure]
      · refine qstep_val (.int .i64 m) (by kernel_rfl) (by kernel_rfl) rfl (fun _ A1 W1 inv hnl hall => ⟨wanted_none rfl, ?_, rfl⟩)
        have h4 : A1.eval (.tmp 4) = .int .i64 m := (inv.base 4 (by kernel_rfl)).trans rfl
        simp only [execOp, h4, Sem.run_pure]
      · refine qstep_call 41 (by kernel_rfl) _ _ (by kernel_rfl) (by kernel_rfl) rfl rfl (fun _ A1 W1 inv hnl hall => ⟨wanted_none rfl, #[.int .u64 at_, .int .i64 m], ?_, ?_⟩)
        · have h31 : A1.eval (.tmp 31) = .int .u64 at_ := inv.get hall 4 31 (by kernel_rfl) (by kernel_rfl) rfl
          have h32 : A1.eval (.tmp 32) = .int .i64 m := inv.get hall 5 32 (by kernel_rfl) (by kernel_rfl) rfl
          simp [h31, h32]
        · refine (HT.out _).mono ?_
          rintro e u ⟨rfl, hb⟩
          exact ⟨_, rfl, rfl, hb⟩
      · refine qstep_call 42 (by kernel_rfl) _ _ (by kernel_rfl) (by kernel_rfl) rfl rfl (fun _ A1 W1 inv hnl hall => ⟨wanted_none rfl, #[.agg #[.int .i64 p, .bool b, .int .i64 n, .int .i64 id], .int .i64 0, paV at_ (16 * m) 4], ?_, ?_⟩)
        · have h30 : A1.eval (.tmp 30) = .agg #[.int .i64 p, .bool b, .int .i64 n, .int .i64 id] := inv.get hall 3 30 (by kernel_rfl) (by kernel_rfl) rfl
          have h33 : A1.eval (.tmp 33) = paV at_ (16 * m) 4 := inv.get hall 6 33 (by kernel_rfl) (by kernel_rfl) rfl
          simp [h30, h33, eval_c2]
        · refine (HPu.out _).mono ?_
          rintro e u ⟨rfl, hb⟩
          exact ⟨_, rfl, rfl, hb⟩
      · refine qstep_skip (by kernel_rfl) (by kernel_rfl) rfl (fun _ A1 W1 inv hnl hall => ⟨wanted_none rfl, ?_⟩)
        have h10 : A1.eval (.tmp 10) = .pointer (some ⟨rb, 0, none⟩) := (inv.base 10 (by kernel_rfl)).trans rfl
        have h34 : A1.eval (.tmp 34) = pV ⟨p, ⟨at_, 16 * m, id, (markN 4 b false : Nat)⟩⟩ := inv.get hall 7 34 (by kernel_rfl) (by kernel_rfl) rfl
        obtain ⟨C2, hC2, hr⟩ := inv.s.res
        have hend := put5_pt ⟨p, ⟨at_, 16 * m, id, (markN 4 b false : Nat)⟩⟩ hr hC2
        obtain ⟨⟨c0, c1, c2, c3, c4, rfl, hlt, k0, k1, k2, k3, k4⟩, f0, f1, f2, f3, f4⟩ := blk5 hr hC2
        refine ⟨_, ?_, hend, ⟨_, _, _, _, _, rfl⟩⟩
        simp only [execOp, h10, h34]
        simp [go_sem, k0, k1, k2, k3, k4, f0, f1, f2, f3, f4]
      · refine qstep_val (.int .i64 0) (by kernel_rfl) (by kernel_rfl) rfl (fun _ A1 W1 inv hnl hall => ⟨wanted_none rfl, ?_, rfl⟩)
        simp only [execOp, Sem.run_pure]
        rfl
    · intro listed A1 W1 inv hall
      have e27 : A1.eval (.tmp 27) = .agg #[.int .i64 p, .bool b] := inv.fin 0 27 (by kernel_rfl) (hall 0 (Nat.lt_of_lt_of_eq (by decide : 0 < 10) (by kernel_rfl))) rfl
      have e28 : A1.eval (.tmp 28) = .int .i64 n := inv.fin 1 28 (by kernel_rfl) (hall 1 (Nat.lt_of_lt_of_eq (by decide : 1 < 10) (by kernel_rfl))) rfl
      have e29 : A1.eval (.tmp 29) = .int .i64 id := inv.fin 2 29 (by kernel_rfl) (hall 2 (Nat.lt_of_lt_of_eq (by decide : 2 < 10) (by kernel_rfl))) rfl
      have e30 : A1.eval (.tmp 30) = .agg #[.int .i64 p, .bool b, .int .i64 n, .int .i64 id] := inv.fin 3 30 (by kernel_rfl) (hall 3 (Nat.lt_of_lt_of_eq (by decide : 3 < 10) (by kernel_rfl))) rfl
      have e31 : A1.eval (.tmp 31) = .int .u64 at_ := inv.fin 4 31 (by kernel_rfl) (hall 4 (Nat.lt_of_lt_of_eq (by decide : 4 < 10) (by kernel_rfl))) rfl
      have e32 : A1.eval (.tmp 32) = .int .i64 m := inv.fin 5 32 (by kernel_rfl) (hall 5 (Nat.lt_of_lt_of_eq (by decide : 5 < 10) (by kernel_rfl))) rfl
      have e33 : A1.eval (.tmp 33) = paV at_ (16 * m) 4 := inv.fin 6 33 (by kernel_rfl) (hall 6 (Nat.lt_of_lt_of_eq (by decide : 6 < 10) (by kernel_rfl))) rfl
      have e34 : A1.eval (.tmp 34) = pV ⟨p, ⟨at_, 16 * m, id, (markN 4 b false : Nat)⟩⟩ := inv.fin 7 34 (by kernel_rfl) (hall 7 (Nat.lt_of_lt_of_eq (by decide : 7 < 10) (by kernel_rfl))) rfl
      have e11 : A1.eval (.tmp 11) = .int .i64 0 := inv.fin 9 11 (by kernel_rfl) (hall 9 (Nat.lt_of_lt_of_eq (by decide : 9 < 10) (by kernel_rfl))) rfl
      have hst8 := inv.fin0 8 (by kernel_rfl) (hall 8 (Nat.lt_of_lt_of_eq (by decide : 8 < 10) (by kernel_rfl))) rfl
      have HF := inv.frame hall
      have HS9 := hid_mk inv.s
      simp only [putEnd, e27, e28, e29, e30, e31, e32, e33, e34, e11, Act.put, List.setIfInBounds_toArray, List.set_cons_succ, List.set_cons_zero] at HF
      clear e27 e28 e29 e30 e31 e32 e33 e34 e11 inv hall
      subst HF
      have HE9 := hid_mk hst8
      obtain ⟨⟨c0, c1, c2, c3, c4, hcc, hlt, k0, k1, k2, k3, k4⟩, f0, f1, f2, f3, f4⟩ := blk5 HE9.out rfl
      cases hcc
      go_wp2_with fail
      exact bodyPost_ret (v := .tuple #[pV ⟨p, ⟨at_, 16 * m, id, (markN 4 b false : Nat)⟩⟩, .int .i64 0]) (by simp [results, Try.results11, go_sem, k0, k1, k2, k3, k4]) rfl ⟨rfl, HS9.out.old⟩
  · have e1 : ponE p n id m = 2 := by unfold ponE; rw [if_neg h]
    have e2 : ponP p n b id at_ m = zPt := by unfold ponP; rw [if_neg h]
    rw [e1] at HE ⊢
    rw [e2]
    clear e1 e2 h
    go_enter Try.func11, Try.ntmps11
    go_wp2_with fail
    refine (HA.out _).mono ?_
    rintro e w1 ⟨x, rfl, hx, hb1⟩
    have HX := hid_mk hx
    obtain ⟨f, caps, rfl, _⟩ := hx
    have HR1 := hid_mk (HR0.out.below hb1)
    have HQ1 := hid_mk (HX0.out.below hb1)
    have HB1 := hid_mk (below_then HB0.out hb1)
    clear hb1
    go_wp2_with fail
    refine (HI.out _).mono ?_
    rintro e w2 ⟨y, rfl, hy, hb2⟩
    have HY := hid_mk hy
    obtain ⟨f2, caps2, rfl, _⟩ := hy
    have HX2 := hid_mk (HX.out.below hb2)
    have HR2 := hid_mk (HR1.out.below hb2)
    have HQ2 := hid_mk (HQ1.out.below hb2)
    have HB2 := hid_mk (below_then HB1.out hb2)
    clear hb2
    go_wp2_with fail
    refine (HN.out _).mono ?_
    rintro e w3 ⟨z, rfl, hz, hb3⟩
    have HZ := hid_mk hz
    obtain ⟨f3, caps3, rfl, _⟩ := hz
    have HX3 := hid_mk (HX2.out.below hb3)
    have HY3 := hid_mk (HY.out.below hb3)
    have HR3 := hid_mk (HR2.out.below hb3)
    have HQ3 := hid_mk (HQ2.out.below hb3)
    have HB3 := hid_mk (below_then HB2.out hb3)
    clear hb3
    go_wp2_with fail
    refine (bfirst w3.heap.size 3 [chkI p n, unlE (okI n id), unlE (decide (1 ≤ m) && decide (m ≤ 64))] _ rfl (by omega) (by simp) (chks3 _ HX3.out HY3.out HZ.out)).mono ?_
    rintro e w4 ⟨rfl, hb4⟩
    have HB4 := hid_mk (below_then (HB3.out.alloc HB3.out.size _) hb4)
    have HR4 := hid_mk ((HR3.out.below (below_box _ _)).below hb4)
    have HQ4 := hid_mk ((HQ3.out.below (below_box _ _)).below hb4)
    rw [HE.out]
    clear hb4
    obtain ⟨⟨y0, y1, y2, y3, y4, hcc, hlt, k0, k1, k2, k3, k4⟩, f0, f1, f2, f3, f4⟩ := blk5 HR4.out rfl
    cases hcc
    go_wp2_with fail
    exact bodyPost_ret (v := .tuple #[pV zPt, .int .i64 2]) (by simp [results, Try.results11, go_sem, zPt, k0, k1, k2, k3, k4]) rfl ⟨rfl, put5_below HB4.out (Nat.le_succ _) _ _ _ _ _⟩
end Go.Proofs.Ytgdokgpplldddaa

/- build's functions by name: bdsplit, bdpacked, bdtable, bdptable, bdone, bdpone, bdneeds stand in what is imported. -/
namespace Go.Proofs.Ytgdokgpplldddaa
end Go.Proofs.Ytgdokgpplldddaa
