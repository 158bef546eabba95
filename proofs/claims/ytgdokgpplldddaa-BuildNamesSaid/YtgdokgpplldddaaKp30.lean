/- Fe2 Bd4: joined texts. Conditions: as each theorem names them. -/
import Derived.Test.YtgdokgpplldddaaKp29
import Derived.Test.YtgdokgpplldddaaKp28
import Derived.BigQuiet
/- Small functions over lists of ints: the reference's in, the kit's Ints and Free. Conditions: as each theorem names them. -/
namespace Go.Proofs.Ytgdokgpplldddaa
open Go.ChangeShapes Go.WideShapes Go.ChangeAt Go.RowKit
set_option linter.unusedVariables false
set_option maxRecDepth 100000

theorem beq_dec (x n : Int) : (x == n) = decide (x = n) := by
  by_cases h : x = n <;> simp [h]
theorem bne_dec (x n : Int) : (x != n) = !decide (x = n) := by
  by_cases h : x = n <;> simp [h]
theorem sameL_no {L M : List Int} {k : Nat} (hL : k < L.length) (hM : k < M.length) (h : ¬ L.getD k 0 = M.getD k 0) : sameL L M = false := by
  unfold sameL
  refine decide_eq_false (fun e => h ?_)
  rw [e]
theorem same_next {L M : List Int} {k : Nat} (hL : k < L.length) (hM : k < M.length) (h : L.getD k 0 = M.getD k 0) (ht : L.take k = M.take k) : L.take (k + 1) = M.take (k + 1) := by
  rw [take_succD hL, take_succD hM, ht, h]
theorem fr_box (w : World) (S : Int) (v : Value) (t : TypeId) : (w.alloc (.cells #[.int .i64 S, v] t)).cell? ⟨w.heap.size, 0, none⟩ = some (.int .i64 S) ∧ (w.alloc (.cells #[.int .i64 S, v] t)).cell? ⟨w.heap.size, 1, none⟩ = some v :=
  ⟨cellK (cs := [.int .i64 S, v]) (heap_alloc_new w _) 0, cellK (cs := [.int .i64 S, v]) (heap_alloc_new w _) 1⟩
end Go.Proofs.Ytgdokgpplldddaa

/- The reference of layer 9: Split. Conditions: as each theorem names them. Written by mkbd4.py. -/
namespace Go.Proofs.Ytgdokgpplldddaa
open Go.ChangeShapes Go.WideShapes Go.ChangeAt Go.RowKit
set_option linter.unusedVariables false
set_option maxRecDepth 100000

theorem infoDs : (Try.prog.info? 38).map (·.size) = some 4 := by kernel_rfl
theorem rangeDs {w : World} {b : Nat} {d : Dsc} {t : TypeId} (h : BlkAt w b (dC d) t) : w.rangeAt b 0 (dC d) := fun j v hv => by
  match j, hv with
  | 0, hv => simp at hv; subst hv; exact h.cell 0
  | 1, hv => simp at hv; subst hv; exact h.cell 1
  | 2, hv => simp at hv; subst hv; exact h.cell 2
  | 3, hv => simp at hv; subst hv; exact h.cell 3
theorem loadDs {w : World} {b : Nat} {d : Dsc} {t : TypeId} (h : BlkAt w b (dC d) t) : (Instr.loadAt 38 (.pointer (some ⟨b, 0, none⟩))).run Try.prog w = .ok (dV d) w := run_loadAt_mid w b 0 _ (dC d) _ (rangeDs h) Try.underlying38 rfl infoDs
theorem spl_no {I : List Int} {L : List Sg} (h : mayE L = 0) (h2 : I.length ≠ L.length ∨ okT 32768 I I.length = false) : splE I L = 2 ∧ splR I L = [] := by
  have e : splE I L = 2 := by
    unfold splE idsB
    rw [if_pos h]
    rcases h2 with h2 | h2
    · rw [decide_eq_false h2]
      rfl
    · rw [h2, Bool.and_false]
      rfl
  refine ⟨e, ?_⟩
  unfold splR
  rw [e]
  rfl
theorem spl_bad {I : List Int} {L : List Sg} (h : mayE L ≠ 0) : splE I L = mayE L ∧ splR I L = [] := by
  have e : splE I L = mayE L := by
    unfold splE
    rw [if_neg h]
  refine ⟨e, ?_⟩
  unfold splR
  rw [e, if_neg h]
theorem spl_yes {I : List Int} {L : List Sg} (h : mayE L = 0) (h1 : I.length = L.length) (h2 : okT 32768 I I.length = true) : splE I L = 0 ∧ splR I L = splL I L := by
  have e : splE I L = 0 := by
    unfold splE idsB
    rw [if_pos h, decide_eq_true h1, h2]
    rfl
  refine ⟨e, ?_⟩
  unfold splR
  rw [e]
  rfl
theorem okT_at {S : Int} {I : List Int} (h : okT S I I.length = true) {k : Nat} (hk : k < I.length) : 0 ≤ I.getD k 0 ∧ I.getD k 0 < S := by
  have := (okT_iff (Nat.le_refl _)).1 h
  rw [List.take_length] at this
  exact this.1 _ (getD_mem hk)
/-- what the build's end keeps: the box, and what was there -/
structure ApS (w : World) (db : Nat) (d : Dsc) (W : World) : Prop where
  box : BlkAt W db (dC d) 38
  old : Below w.heap.size w W
theorem ApS.below {w W W' : World} {db : Nat} {d : Dsc} (h : ApS w db d W) (hb : Below W.heap.size W W') : ApS w db d W' := ⟨h.box.below hb, below_then h.old hb⟩
/-- a row has grown -/
def GrT (vo : Value) (W W' : World) : Prop := W.grownBy W' vo.ownBlock
theorem ApS.gr {w W W' : World} {db : Nat} {d : Dsc} {vo : Value} (h : ApS w db d W) (hg : GrT vo W W') (hv : ∀ g, vo.ownBlock = some g → w.heap.size ≤ g ∧ g ≠ db) : ApS w db d W' := by
  refine ⟨(hg.block db h.box.lt (fun e => (hv db e.symm).2 rfl)).trans h.box, h.old.trans (grown_below hg h.old.size (fun k hk => (hv k hk).1))⟩
theorem own_block {B : Nat} {w : World} {v : Value} {L : List Pt} {t t2 : TypeId} {db : Nat} {C : List Value} (h : w.ownsRow B t 5 v L.length (ptCells L)) (hne : t ≠ t2) (hb : BlkAt w db C t2) (g : Nat) (hg : v.ownBlock = some g) : B ≤ g ∧ g ≠ db := by
  rcases h.2 with ⟨rfl, _⟩ | ⟨g2, cap, cur, rfl, hg2, hh, _⟩
  · cases hg
  · simp [Value.ownBlock] at hg
    subst hg
    refine ⟨hg2, fun e => ?_⟩
    subst e
    have h2 : w.heap[g2]? = some (.cells C.toArray t2 (0, 0)) := hb
    rw [hh] at h2
    injection h2 with h2
    injection h2 with _ h3
    exact hne h3
theorem OwnPt.below {B : Nat} {w w' : World} {v : Value} {l : List Pt} (h : OwnPt B w v l) (hb : Below w.heap.size w w') : OwnPt B w' v l := by
  refine ⟨h.1, ?_⟩
  rcases h.2 with hn | ⟨gg, cap, cur, rfl, hg, hh, rest⟩
  · exact .inl hn
  · exact .inr ⟨gg, cap, cur, rfl, hg, (hb.block gg (lt_blk hh)).trans hh, rest⟩
theorem OwnPt.setCell {B : Nat} {w : World} {v : Value} {l : List Pt} (h : OwnPt B w v l) {db i : Nat} {C : List Value} (hb : BlkAt w db C 38) (x : Value) : OwnPt B (w.setCell ⟨db, i, none⟩ x) v l := by
  refine ⟨h.1, ?_⟩
  have hne := own_block h (t2 := 38) (by decide) hb
  rcases h.2 with hn | ⟨gg, cap, cur, rfl, hg, hh, rest⟩
  · exact .inl hn
  · exact .inr ⟨gg, cap, cur, rfl, hg, (Below.heap_setCell w ⟨db, i, none⟩ x gg (hne gg rfl).2).trans hh, rest⟩
theorem own_len {B : Nat} {w : World} {v : Value} {n : Nat} {t : TypeId} {C : List Value} (h : w.ownsRow B t 5 v n C) : ∃ a c, v = .slice a n c := by
  rcases h.2 with ⟨rfl, h0⟩ | ⟨g, cap, cur, rfl, _⟩
  · exact ⟨none, 0, by rw [h0]⟩
  · exact ⟨_, cap, rfl⟩
theorem blk4 {w : World} {b : Nat} {x0 x1 x2 x3 : Value} {t : TypeId} (h : BlkAt w b [x0, x1, x2, x3] t) : b < w.heap.size ∧ w.cell? ⟨b, 0, none⟩ = some x0 ∧ w.cell? ⟨b, 1, none⟩ = some x1 ∧ w.cell? ⟨b, 2, none⟩ = some x2 ∧ w.cell? ⟨b, 3, none⟩ = some x3 ∧ w.frozen? ⟨b, 0, none⟩ = false ∧ w.frozen? ⟨b, 1, none⟩ = false ∧ w.frozen? ⟨b, 2, none⟩ = false ∧ w.frozen? ⟨b, 3, none⟩ = false := ⟨h.lt, h.cell 0, h.cell 1, h.cell 2, h.cell 3, h.free 0, h.free 1, h.free 2, h.free 3⟩
theorem u16_two (x : Int) : bits .or .u16 0 1 = 1 ∧ bits .or .u16 2 1 = 3 := by decide +kernel

set_option maxHeartbeats 8000000 in
theorem rsplit (v u : Value) (I : List Int) (L : List Sg) (w : World) (hv : IntsZ w v I) (hu : SegsAt w u L) (hs : isSgs L) (hi : I.length ≤ 1000) (hl : L.length ≤ 1000) :
    Calls Try.prog 16 #[v, u] w fun e w' => ∃ x, e = .returned (.tuple #[x, .int .i64 (splE I L)]) ∧ OwnPt w.heap.size w' x (splR I L) ∧ Below w.heap.size w w' := by
  have HM := hid_mk (rmay u L w hu hs hl)
  have HV := hid_mk hv
  have HU := hid_mk hu
  obtain ⟨va, vc, rfl⟩ := hv.len
  obtain ⟨ua, uc, rfl⟩ := hu.len
  clear hv hu
  by_cases hm : mayE L = 0
  · rw [hm] at HM
    by_cases hn : I.length = L.length
    · have hli : (I.length : Int) ≤ 1000 := by omega
      have hlL : (L.length : Int) ≤ 1000 := by omega
      have hne : ((I.length : Int) != (L.length : Int)) = false := by simp [hn]
      have HNo := hid_mk (fun h => spl_no (I := I) (L := L) hm (Or.inr h))
      have HYes := hid_mk (fun h => spl_yes (I := I) (L := L) hm hn h)
      obtain ⟨_, hpos⟩ := mayE_ok hm
      obtain ⟨b, o, rfl, hb1, hb3⟩ : ∃ b o, va = some ⟨b, o, none⟩ ∧ b < w.heap.size ∧ ∀ j, j < I.length → w.cell? ⟨b, o + j, none⟩ = some (.int .i64 (I.getD j 0)) := by
        rcases HV.out with ⟨_, e⟩ | ⟨b, o, c, he, h1, h2, h3⟩
        · rw [e] at hn
          simp at hn
          omega
        · cases he
          exact ⟨b, o, rfl, h1, h3⟩
      obtain ⟨b2, o2, rfl, hd1, hd3⟩ : ∃ b2 o2, ua = some ⟨b2, o2, none⟩ ∧ b2 < w.heap.size ∧ ∀ j, j < L.length → at3 w b2 (o2 + j * 3) (sat L j) := by
        rcases HU.out with ⟨_, e⟩ | ⟨b, o, c, he, h1, h2, h3⟩
        · rw [e] at hpos
          simp at hpos
        · cases he
          exact ⟨b, o, rfl, h1, h3⟩
      have HC := hid_mk hb3
      have HD := hid_mk hd3
      have HN := hid_mk hn
      have HS := hid_mk hs
      have HB1 := hid_mk hb1
      have HD1 := hid_mk hd1
      clear hb3 hd3 hm hn hi hl hs HV HU
      generalize splE I L = E at *
      generalize splR I L = R at *
      go_enter Try.func16, Try.ntmps16
      go_wp2_with fail
      refine HM.out.mono ?_
      rintro e w1 ⟨rfl, m0, rfl⟩
      go_wp2_with fail
      go_loopw [7, 8] (fun i _ wr => ∃ k n : Nat, k ≤ I.length ∧ i = .int .i64 k ∧ Hid (wr = w.drewN n) ∧ Hid (okT 32768 I k = true)) (fun i _ _ => I.length - (intOf i).toNat)
      case atStart => exact ⟨0, m0, Nat.zero_le _, rfl, hid_mk rfl, hid_mk rfl⟩
      case round =>
        clear hne
        obtain ⟨k, n, hk, rfl, hwr, hok⟩ := hrel
        by_cases hlt : k < I.length
        · have HC0 := hid_mk (HC.out k hlt)
          have hki : (k : Int) < (I.length : Int) := by omega
          have HST := hid_mk (okT_succ 32768 I k)
          have HN2 := hid_mk (fun h => HNo.out (okT_no (S := 32768) (L := I) hlt h))
          have HLT := hid_mk hlt
          have HX : Hid (∀ j, j < k → I.getD j 0 = I.getD k 0 → inB (I.take k) (I.getD k 0) = true) := hid_mk (fun j hj e => by
            unfold inB
            refine decide_eq_true ?_
            rw [← e, ← getD_takeI I hj]
            exact getD_mem (by rw [List.length_take]; omega))
          have HT : Hid (∀ j, j < k → inB (I.take (j + 1)) (I.getD k 0) = (inB (I.take j) (I.getD k 0) || decide (I.getD j 0 = I.getD k 0))) := hid_mk (fun j hj => inB_take (by omega))
          generalize I.getD k 0 = x at *
          have c0 : wr.cell? ⟨b, o + k, none⟩ = some (.int .i64 x) := by
            rw [hwr.out]
            exact HC0.out
          by_cases hx0 : x < 0
          · have hd : decide (x < 0) = true := decide_eq_true hx0
            have HE := hid_mk (HN2.out (by rw [show okI 32768 x = false from Bool.eq_false_iff.2 (fun h => by have := okI_iff.1 h; omega)]; rfl))
            clear HN2 HST hx0 HX HT
            go_wp2_with fail
            go_ret2
            exact ⟨_, by rw [HE.out.1]; rfl, by rw [HE.out.2]; exact World.ownsRow_nil _ _ _ _, by rw [hwr.out]; exact below_drewN _ _⟩
          · have hd : decide (x < 0) = false := decide_eq_false hx0
            by_cases hxS : 32768 ≤ x
            · have hd2 : decide (32768 ≤ x) = true := decide_eq_true hxS
              have HE := hid_mk (HN2.out (by rw [show okI 32768 x = false from Bool.eq_false_iff.2 (fun h => by have := okI_iff.1 h; omega)]; rfl))
              clear HN2 HST hx0 hxS HX HT
              go_wp2_with fail
              go_ret2
              exact ⟨_, by rw [HE.out.1]; rfl, by rw [HE.out.2]; exact World.ownsRow_nil _ _ _ _, by rw [hwr.out]; exact below_drewN _ _⟩
            · have hd2 : decide (32768 ≤ x) = false := decide_eq_false hxS
              have ho : okI 32768 x = true := okI_iff.2 (by omega)
              rw [ho] at HST HN2
              clear hx0 hxS ho
              go_wp2_with fail
              clear hki c0 hlt hd hd2
              obtain ⟨wo, rfl⟩ : ∃ wo : World, wo = wr := ⟨_, rfl⟩
              go_loopw [8] (fun i wr => ∃ j n : Nat, j ≤ k ∧ i = .int .i64 j ∧ Hid (wr = w.drewN n) ∧ Hid (inB (I.take j) x = false)) (fun i _ => k - (intOf i).toNat)
              case atStart => exact ⟨0, n, Nat.zero_le _, rfl, hwr, hid_mk (by simp [inB])⟩
              case round =>
                clear hwr
                obtain ⟨j, n, hj, rfl, hwr, hno⟩ := hrel
                by_cases hjt : j < k
                · have hji : (j : Int) < (k : Int) := by omega
                  have hki : (k : Int) < (I.length : Int) := by have := HLT.out; omega
                  have hji2 : (j : Int) < (I.length : Int) := by omega
                  have c0 : wr.cell? ⟨b, o + k, none⟩ = some (.int .i64 x) := by
                    rw [hwr.out]
                    exact HC0.out
                  have c1 : wr.cell? ⟨b, o + j, none⟩ = some (.int .i64 (I.getD j 0)) := by
                    rw [hwr.out]
                    exact HC.out j (by have := HLT.out; omega)
                  have HX1 := hid_mk (HX.out j hjt)
                  have HT1 := hid_mk (HT.out j hjt)
                  generalize I.getD j 0 = y at *
                  have hb := beq_dec y x
                  by_cases he : y = x
                  · rw [decide_eq_true he] at hb
                    have HE := hid_mk (HN2.out (by rw [HX1.out he]; rfl))
                    clear he HN2 HST HX1 HT1
                    go_wp2_with fail
                    go_quiet (fail)
                    go_wp2_with fail
                    go_ret2
                    exact ⟨_, by rw [HE.out.1]; rfl, by rw [HE.out.2]; exact World.ownsRow_nil _ _ _ _, by rw [hwr.out]; exact below_dn (below_drewN _ _) _⟩
                  · rw [decide_eq_false he] at hb
                    have HE : Hid (inB (I.take (j + 1)) x = false) := hid_mk (by rw [HT1.out, hno.out, decide_eq_false he]; rfl)
                    clear he HX1 HT1
                    go_wp2_with fail
                    go_quiet (fail)
                    go_wp2_with fail
                    go_roundw
                    case rel => exact ⟨j + 1, _, by omega, by simp, hid_mk (by rw [hwr.out, World.drewN_drewN]), HE⟩
                    case measure => simp [intOf]; omega
                · obtain rfl : j = k := by omega
                  have HE : Hid (okT 32768 I (j + 1) = true) := hid_mk (by rw [HST.out, hok.out, hno.out]; rfl)
                  have hji : (j : Int) < (I.length : Int) := by have := HLT.out; omega
                  go_wp2_with fail
                  go_roundw
                  case rel => exact ⟨j + 1, n, by have := HLT.out; omega, by simp, hwr, HE⟩
                  case measure => simp [intOf]; have := HLT.out; omega
        · obtain rfl : k = I.length := by omega
          obtain ⟨e1, e2⟩ := HYes.out hok.out
          subst e1
          subst e2
          have HOk : Hid (∀ j, j < L.length → 0 ≤ I.getD j 0 ∧ I.getD j 0 < 32768) := hid_mk (fun j hj => okT_at hok.out (by have := HN.out; omega))
          have hni : (I.length : Int) = (L.length : Int) := by have := HN.out; omega
          clear HNo HYes hok hlt
          go_wp2_with fail
          go_loopw [9, 10, 11] (fun s i _ wr => ∃ k : Nat, k ≤ L.length ∧ i = .int .i64 k ∧ Hid (OwnPt w.heap.size wr s ((splL I L).take k)) ∧ Hid (Below w.heap.size w wr)) (fun _ i _ _ => L.length - (intOf i).toNat)
          case atStart => exact ⟨0, Nat.zero_le _, rfl, hid_mk (World.ownsRow_nil _ _ _ _), hid_mk (by rw [hwr.out]; exact below_drewN _ _)⟩
          case round =>
            clear hwr
            obtain ⟨k, hk, rfl, hown, hold⟩ := hrel
            by_cases hlt : k < L.length
            · obtain ⟨d0, d1, d2⟩ := (HD.out k hlt).below hold.out hd1
              have hbw : b < wr.heap.size := Nat.lt_of_lt_of_le hb1 hold.out.size
              have hdw : b2 < wr.heap.size := Nat.lt_of_lt_of_le hd1 hold.out.size
              have HT3 := hid_mk (splL_take (I := I) hlt)
              have hki : (k : Int) < (L.length : Int) := by omega
              obtain ⟨ov, oc, hov⟩ := own_len hown.out
              rw [show ((splL I L).take k).length = k by rw [List.length_take, splL_len]; omega] at hov
              subst hov
              have HX := hid_mk (blk_new wr (dC ⟨(sat L k).a, (sat L k).n, 0, 0⟩) 38)
              have HBx := hid_mk (below_box wr (.cells (dC ⟨(sat L k).a, (sat L k).n, 0, 0⟩).toArray 38))
              have HDb : Hid (w.heap.size ≤ wr.heap.size) := hid_mk hold.out.size
              simp only [dC] at HX HBx
              unfold splD at HT3
              have HLT := hid_mk hlt
              have HC0 := hid_mk (HC.out k (by have := HN.out; omega))
              generalize (sat L k).a = sa at *
              generalize (sat L k).n = sn at *
              generalize (sat L k).t = st at *
              generalize I.getD k 0 = x at *
              go_wp2_with fail
              go_region
              obtain ⟨U0, hU0⟩ : ∃ U0, U0 = (wr.alloc (.cells #[.int .u64 sa, .int .u32 sn, .int .u16 0, .int .u16 0] 38)).drew := ⟨_, rfl⟩
              rw [← hU0]
              obtain ⟨db, hdb⟩ : ∃ db, wr.heap.size = db := ⟨_, rfl⟩
              have HBd : Hid (Below wr.heap.size wr U0) := hid_mk (by rw [hU0]; exact HBx.out.drew)
              have HX0 : Hid (BlkAt U0 db [.int .u64 sa, .int .u32 sn, .int .u16 0, .int .u16 0] 38) := hid_mk (by rw [hU0, ← hdb]; exact HX.out.below (Below.refl _ _).drew)
              have HOld : Hid (Below w.heap.size w U0) := hid_mk (hold.out.trans (HBd.out.mono hold.out.size))
              have HOwn := hid_mk (hown.out.below HBd.out)
              replace d2 := (HBd.out.cell (p := ⟨b2, o2 + k * 3 + 2, none⟩) hdw).trans d2
              have hdw0 : b2 < U0.heap.size := Nat.lt_of_lt_of_le hdw HBd.out.size
              have hbw0 : b < U0.heap.size := Nat.lt_of_lt_of_le hbw HBd.out.size
              rw [hdb] at HDb ⊢
              clear d0 d1 hU0 HX HBx HBd hown hold hbw hdw hdb
              by_cases hnxt : k + 1 < L.length
              · rw [show nxB L k = true from decide_eq_true hnxt, if_pos rfl] at HT3
                cases st
                · obtain ⟨lx, x0, x1, x2, x3, f0, f1, f2, f3⟩ := blk4 HX0.out
                  have HX1 := HX0
                  have HO1 := HOld
                  have HR1 := HOwn
                  have hnx : (k : Int) + 1 < (L.length : Int) := by omega
                  have c1 := (HO1.out.cell (p := ⟨b, o + (k + 1), none⟩) hb1).trans (HC.out (k + 1) (by have := HN.out; omega))
                  have hbd : b < db := Nat.lt_of_lt_of_le hb1 HDb.out
                  have hbd2 : b ≠ db := Nat.ne_of_lt hbd
                  have hx1 := HOk.out (k + 1) hnxt
                  have hw16 : IntKind.u16.wrap (I.getD (k + 1) 0) = I.getD (k + 1) 0 := by rw [IntKind.wrap_u16]; omega
                  generalize I.getD (k + 1) 0 = x1 at *
                  go_wp2_with fail
                  obtain ⟨ly, y0, y1, y2, y3, g0, g1, g2, g3⟩ := blk4 HX1.out
                  go_region
                  go_wp2_with fail
                  rw [show ((flgN false true : Nat) : Int) = 1 from rfl] at HT3
                  obtain ⟨U, hU⟩ : ∃ U, U = ((U0.setCell ⟨db, 2, none⟩ (.int .u16 (bits .or .u16 0 1))).setCell ⟨db, 3, none⟩ (.int .u16 x1)).drew := ⟨_, rfl⟩
                  rw [← hU]
                  rw [show bits .or .u16 0 1 = 1 from (u16_two 0).1] at hU
                  have HX2 : Hid (BlkAt U db (dC ⟨sa, sn, 1, x1⟩) 38) := hid_mk (by rw [hU]; exact BlkAt.below ((HX1.out.set 2 (.int .u16 1)).set 3 (.int .u16 x1)) (Below.refl _ _).drew)
                  have HO2 : Hid (Below w.heap.size w U) := hid_mk (by rw [hU]; exact ((HO1.out.setCell HDb.out _).setCell HDb.out _).drew)
                  have HR2 : Hid (OwnPt w.heap.size U (.slice ov k oc) ((splL I L).take k)) := hid_mk (by rw [hU]; exact ((HR1.out.setCell (i := 2) HX1.out (.int .u16 1)).setCell (i := 3) (HX1.out.set 2 (.int .u16 1)) (.int .u16 x1)).below (Below.refl _ _).drew)
                  clear hU ly y0 y1 y2 y3 g0 g1 g2 g3 c1 hw16 hx1
                  clear HX0 HOld HOwn HX1 HO1 HR1
                  have HOb := hid_mk (own_block (t2 := 38) HR2.out (by decide) HX2.out)
                  have HAp : Hid (ApS w db ⟨sa, sn, 1, x1⟩ U.drew) := hid_mk ⟨HX2.out.below (Below.refl _ _).drew, HO2.out.drew⟩
                  have HTl : Hid (((splL I L).take k).length ≤ 1000) := hid_mk (by rw [List.length_take, splL_len]; omega)
                  have HKI : Hid ((k : Int) < (I.length : Int)) := hid_mk (by omega)
                  refine wp_region_outl3 0 [(8, GrT (.slice ov k oc))] [(7, 8)] [(8, fun W => OwnPt w.heap.size W (.slice ov k oc) ((splL I L).take k))]
                      [(fun v _ => v = .slice ov k oc),
                      (fun v _ => v = .slice (some ⟨b, o, none⟩) I.length vc),
                      (fun v _ => v = .int .i64 (k : Int)),
                      (fun v _ => v = .pointer (some ⟨b, o + k, none⟩)),
                      (fun v _ => v = .int .i64 x),
                      (fun v _ => v = dV ⟨sa, sn, 1, x1⟩),
                      (fun v _ => v = pV ⟨x, ⟨sa, sn, 1, x1⟩⟩),
                      (fun v W => ∃ l, v = .slice (some ⟨l, 0, none⟩) 1 1 ∧ BlkAt W l (ptCells [⟨x, ⟨sa, sn, 1, x1⟩⟩]) 40),
                      (fun v W => OwnPt w.heap.size W v ((splL I L).take k ++ [⟨x, ⟨sa, sn, 1, x1⟩⟩])),
                      (fun v W => OwnPt w.heap.size W v ((splL I L).take k ++ [⟨x, ⟨sa, sn, 1, x1⟩⟩]))]
                      (ApS w db ⟨sa, sn, 1, x1⟩) (by kernel_rfl) (by kernel_rfl) (by kernel_rfl) ?_ (fun u u' hb h => h.below hb) (HAp.out) ?_ ?_ ?_ ?_ ?_
                  · refine And.intro (up_eq _) ?_
                    refine And.intro (up_eq _) ?_
                    refine And.intro (up_eq _) ?_
                    refine And.intro (up_eq _) ?_
                    refine And.intro (up_eq _) ?_
                    refine And.intro (up_eq _) ?_
                    refine And.intro (up_eq _) ?_
                    refine And.intro (fun v W W' hb h => by obtain ⟨l, e, h⟩ := h; exact ⟨l, e, h.below hb⟩) ?_
                    refine And.intro (fun v W W' hb h => h.below hb) ?_
                    refine And.intro (fun v W W' hb h => h.below hb) ?_
                    trivial
                  · refine And.intro (And.intro (fun u u' hb h => h.below hb) (fun p hp hne u u' ht h => absurd (by rw [List.mem_singleton] at hp; rw [hp]) hne)) ?_
                    trivial
                  · refine And.intro (HR2.out.below (Below.refl _ _).drew) ?_
                    trivial
                  · refine And.intro (And.intro ?_ (fun u u' hg h => h.gr hg HOb.out)) ?_
                    · refine And.intro (fun _ _ _ => ch_eq _ _) ?_
                      refine And.intro (fun _ _ _ => ch_eq _ _) ?_
                      refine And.intro (fun _ _ _ => ch_eq _ _) ?_
                      refine And.intro (fun _ _ _ => ch_eq _ _) ?_
                      refine And.intro (fun _ _ _ => ch_eq _ _) ?_
                      refine And.intro (fun _ _ _ => ch_eq _ _) ?_
                      refine And.intro (fun _ _ _ => ch_eq _ _) ?_
                      refine And.intro (fun _ h _ => absurd rfl h) ?_
                      refine And.intro (fun h _ _ => absurd rfl h) ?_
                      refine And.intro (fun _ _ h => late_absurd (by kernel_rfl) h) ?_
                      trivial
                    trivial
                  · refine And.intro ?_ (And.intro ?_ (And.intro ?_ (And.intro ?_ (And.intro ?_ (And.intro ?_ (And.intro ?_ (And.intro ?_ (And.intro ?_ (And.intro ?_ (True.intro))))))))))
                    · refine qstep_val (.slice ov k oc) (by kernel_rfl) (by kernel_rfl) rfl (fun _ A1 W1 inv hnl hall => ⟨wanted_none rfl, ?_, rfl⟩)
                      have h9 : A1.eval (.tmp 9) = .slice ov k oc := (inv.base1 hnl 9 (by kernel_rfl)).trans rfl
                      simp only [execOp, h9, Sem.run_pure]
                    · refine qstep_val (.slice (some ⟨b, o, none⟩) I.length vc) (by kernel_rfl) (by kernel_rfl) rfl (fun _ A1 W1 inv hnl hall => ⟨wanted_none rfl, ?_, rfl⟩)
                      have h0 : A1.eval (.tmp 0) = .slice (some ⟨b, o, none⟩) I.length vc := (inv.base 0 (by kernel_rfl)).trans rfl
                      simp only [execOp, h0, Sem.run_pure]
                    · refine qstep_val (.int .i64 (k : Int)) (by kernel_rfl) (by kernel_rfl) rfl (fun _ A1 W1 inv hnl hall => ⟨wanted_none rfl, ?_, rfl⟩)
                      have h10 : A1.eval (.tmp 10) = .int .i64 (k : Int) := (inv.base 10 (by kernel_rfl)).trans rfl
                      simp only [execOp, h10, Sem.run_pure]
                    · refine qstep_val (.pointer (some ⟨b, o + k, none⟩)) (by kernel_rfl) (by kernel_rfl) rfl (fun _ A1 W1 inv hnl hall => ⟨wanted_none rfl, ?_, rfl⟩)
                      have h94 : A1.eval (.tmp 94) = .slice (some ⟨b, o, none⟩) I.length vc := inv.get hall 1 94 (by kernel_rfl) (by kernel_rfl) rfl
                      have h95 : A1.eval (.tmp 95) = .int .i64 (k : Int) := inv.get hall 2 95 (by kernel_rfl) (by kernel_rfl) rfl
                      have hq := HKI.out
                      simp only [execOp, h94, h95]
                      simp [go_sem, hq]
                    · refine qstep_val (.int .i64 x) (by kernel_rfl) (by kernel_rfl) rfl (fun _ A1 W1 inv hnl hall => ⟨wanted_none rfl, ?_, rfl⟩)
                      have h96 : A1.eval (.tmp 96) = .pointer (some ⟨b, o + k, none⟩) := inv.get hall 3 96 (by kernel_rfl) (by kernel_rfl) rfl
                      have gg : W1.cell? ⟨b, o + k, none⟩ = some (.int .i64 x) := (inv.s.old.cell HB1.out).trans HC0.out
                      simp only [execOp, h96]
                      simp [go_sem, gg]
                    · refine qstep_val (dV ⟨sa, sn, 1, x1⟩) (by kernel_rfl) (by kernel_rfl) rfl (fun _ A1 W1 inv hnl hall => ⟨wanted_none rfl, ?_, rfl⟩)
                      have h11 : A1.eval (.tmp 11) = .pointer (some ⟨db, 0, none⟩) := (inv.base 11 (by kernel_rfl)).trans rfl
                      simp only [execOp, h11, Sem.run_bind, loadDs inv.s.box, Result.andThen_ok, Sem.run_pure]
                    · refine qstep_val (pV ⟨x, ⟨sa, sn, 1, x1⟩⟩) (by kernel_rfl) (by kernel_rfl) rfl (fun _ A1 W1 inv hnl hall => ⟨wanted_none rfl, ?_, rfl⟩)
                      have h97 : A1.eval (.tmp 97) = .int .i64 x := inv.get hall 4 97 (by kernel_rfl) (by kernel_rfl) rfl
                      have h98 : A1.eval (.tmp 98) = dV ⟨sa, sn, 1, x1⟩ := inv.get hall 5 98 (by kernel_rfl) (by kernel_rfl) rfl
                      simp only [execOp, List.map_toArray, List.map_cons, List.map_nil, h97, h98]
                      simp [go_sem]
                    · refine qstep_run (by kernel_rfl) (by kernel_rfl) rfl (fun _ A1 W1 inv hnl hall => ⟨wanted_none rfl, ?_⟩)
                      have h99 : A1.eval (.tmp 99) = pV ⟨x, ⟨sa, sn, 1, x1⟩⟩ := inv.get hall 6 99 (by kernel_rfl) (by kernel_rfl) rfl
                      refine ⟨.slice (some ⟨W1.heap.size, 0, none⟩) 1 1, W1.alloc (.cells (ptCells [⟨x, ⟨sa, sn, 1, x1⟩⟩]).toArray 40), ?_, ⟨_, rfl, blk_new _ _ _⟩, below_box _ _⟩
                      simp only [execOp, List.map_toArray, List.map_cons, List.map_nil, h99]
                      simp [go_sem, ptCells]
                    · refine qstep_own (by kernel_rfl) (by kernel_rfl) rfl (fun _ A1 W1 inv hnl hall => ⟨wanted_none rfl, ?_⟩)
                      have h93 : A1.eval (.tmp 93) = .slice ov k oc := inv.get hall 0 93 (by kernel_rfl) (by kernel_rfl) rfl
                      have h100 : (fun v W => ∃ l, v = .slice (some ⟨l, 0, none⟩) 1 1 ∧ BlkAt W l (ptCells [⟨x, ⟨sa, sn, 1, x1⟩⟩]) 40) (A1.eval (.tmp 100)) W1 := inv.get1 (i := 8) hnl hall 7 100 (by kernel_rfl) (by kernel_rfl) rfl
                      obtain ⟨l, hl, hb⟩ := h100
                      have hov := inv.pre1 (j := 8) hnl (List.mem_singleton.2 rfl) (Or.inl rfl)
                      obtain ⟨v', w', e1, e2, e3⟩ := app_pt ⟨x, ⟨sa, sn, 1, x1⟩⟩ hov hb.lt hb inv.s.old.size HTl.out
                      refine ⟨v', w', ?_, e2, e3⟩
                      simp only [execOp]
                      simp [resolve, invoke, builtin, h93, hl, e1, Result.andThen]
                    · refine qstep_ex (by kernel_rfl) (by kernel_rfl) rfl (fun _ A1 W1 inv hnl hall => ⟨wanted_none rfl, ?_⟩)
                      have h101 : (fun v W => OwnPt w.heap.size W v ((splL I L).take k ++ [⟨x, ⟨sa, sn, 1, x1⟩⟩])) (A1.eval (.tmp 101)) W1 := inv.get hall 8 101 (by kernel_rfl) (by kernel_rfl) rfl
                      exact ⟨A1.eval (.tmp 101), by simp only [execOp, Sem.run_pure], h101⟩
                  · intro listed A1 W1 inv hall
                    have e93 : A1.eval (.tmp 93) = .slice ov k oc := inv.fin 0 93 (by kernel_rfl) (hall 0 (Nat.lt_of_lt_of_eq (by decide : 0 < 10) (by kernel_rfl))) rfl
                    have e94 : A1.eval (.tmp 94) = .slice (some ⟨b, o, none⟩) I.length vc := inv.fin 1 94 (by kernel_rfl) (hall 1 (Nat.lt_of_lt_of_eq (by decide : 1 < 10) (by kernel_rfl))) rfl
                    have e95 : A1.eval (.tmp 95) = .int .i64 (k : Int) := inv.fin 2 95 (by kernel_rfl) (hall 2 (Nat.lt_of_lt_of_eq (by decide : 2 < 10) (by kernel_rfl))) rfl
                    have e96 : A1.eval (.tmp 96) = .pointer (some ⟨b, o + k, none⟩) := inv.fin 3 96 (by kernel_rfl) (hall 3 (Nat.lt_of_lt_of_eq (by decide : 3 < 10) (by kernel_rfl))) rfl
                    have e97 : A1.eval (.tmp 97) = .int .i64 x := inv.fin 4 97 (by kernel_rfl) (hall 4 (Nat.lt_of_lt_of_eq (by decide : 4 < 10) (by kernel_rfl))) rfl
                    have e98 : A1.eval (.tmp 98) = dV ⟨sa, sn, 1, x1⟩ := inv.fin 5 98 (by kernel_rfl) (hall 5 (Nat.lt_of_lt_of_eq (by decide : 5 < 10) (by kernel_rfl))) rfl
                    have e99 : A1.eval (.tmp 99) = pV ⟨x, ⟨sa, sn, 1, x1⟩⟩ := inv.fin 6 99 (by kernel_rfl) (hall 6 (Nat.lt_of_lt_of_eq (by decide : 6 < 10) (by kernel_rfl))) rfl
                    obtain ⟨v100, e100⟩ : ∃ v, A1.eval (.tmp 100) = v := ⟨_, rfl⟩
                    have p101 : (fun v W => OwnPt w.heap.size W v ((splL I L).take k ++ [⟨x, ⟨sa, sn, 1, x1⟩⟩])) (A1.eval (.tmp 101)) W1 := inv.fin 8 101 (by kernel_rfl) (hall 8 (Nat.lt_of_lt_of_eq (by decide : 8 < 10) (by kernel_rfl))) rfl
                    obtain ⟨v101, e101⟩ : ∃ v, A1.eval (.tmp 101) = v := ⟨_, rfl⟩
                    rw [e101] at p101
                    have p9 : (fun v W => OwnPt w.heap.size W v ((splL I L).take k ++ [⟨x, ⟨sa, sn, 1, x1⟩⟩])) (A1.eval (.tmp 9)) W1 := inv.fin 9 9 (by kernel_rfl) (hall 9 (Nat.lt_of_lt_of_eq (by decide : 9 < 10) (by kernel_rfl))) rfl
                    obtain ⟨v9, e9⟩ : ∃ v, A1.eval (.tmp 9) = v := ⟨_, rfl⟩
                    rw [e9] at p9
                    have HF := inv.frame hall
                    have HS9 := hid_mk inv.s
                    simp only [putEnd, e93, e94, e95, e96, e97, e98, e99, e100, e101, e9, Act.put, List.setIfInBounds_toArray, List.set_cons_succ, List.set_cons_zero] at HF
                    clear e93 e94 e95 e96 e97 e98 e99 e100 e101 e9 inv hall
                    subst HF
                    rw [← HT3.out] at p9
                    obtain ⟨sv, sc, rfl⟩ := own_len p9
                    have HP9 := hid_mk p9
                    go_wp2_with fail
                    go_roundw
                    case rel => exact ⟨k + 1, by have := HLT.out; omega, by simp, HP9, hid_mk HS9.out.old⟩
                    case measure => simp [intOf]; have := HLT.out; omega
                · obtain ⟨lx, x0, x1, x2, x3, f0, f1, f2, f3⟩ := blk4 HX0.out
                  have HX1 := hid_mk (HX0.out.set 2 (.int .u16 2))
                  simp only [List.set_cons_succ, List.set_cons_zero] at HX1
                  have HO1 : Hid (Below w.heap.size w (U0.setCell ⟨db, 2, none⟩ (.int .u16 2))) := hid_mk (HOld.out.setCell HDb.out _)
                  have HR1 := hid_mk (HOwn.out.setCell (i := 2) HX0.out (.int .u16 2))
                  have hnx : (k : Int) + 1 < (L.length : Int) := by omega
                  have c1 := (HO1.out.cell (p := ⟨b, o + (k + 1), none⟩) hb1).trans (HC.out (k + 1) (by have := HN.out; omega))
                  have hbd : b < db := Nat.lt_of_lt_of_le hb1 HDb.out
                  have hbd2 : b ≠ db := Nat.ne_of_lt hbd
                  have hx1 := HOk.out (k + 1) hnxt
                  have hw16 : IntKind.u16.wrap (I.getD (k + 1) 0) = I.getD (k + 1) 0 := by rw [IntKind.wrap_u16]; omega
                  generalize I.getD (k + 1) 0 = x1 at *
                  go_wp2_with fail
                  obtain ⟨ly, y0, y1, y2, y3, g0, g1, g2, g3⟩ := blk4 HX1.out
                  go_region
                  go_wp2_with fail
                  rw [show ((flgN true true : Nat) : Int) = 3 from rfl] at HT3
                  obtain ⟨U, hU⟩ : ∃ U, U = (((U0.setCell ⟨db, 2, none⟩ (.int .u16 2)).setCell ⟨db, 2, none⟩ (.int .u16 (bits .or .u16 2 1))).setCell ⟨db, 3, none⟩ (.int .u16 x1)).drew := ⟨_, rfl⟩
                  rw [← hU]
                  rw [show bits .or .u16 2 1 = 3 from (u16_two 0).2] at hU
                  have HX2 : Hid (BlkAt U db (dC ⟨sa, sn, 3, x1⟩) 38) := hid_mk (by rw [hU]; exact BlkAt.below ((HX1.out.set 2 (.int .u16 3)).set 3 (.int .u16 x1)) (Below.refl _ _).drew)
                  have HO2 : Hid (Below w.heap.size w U) := hid_mk (by rw [hU]; exact ((HO1.out.setCell HDb.out _).setCell HDb.out _).drew)
                  have HR2 : Hid (OwnPt w.heap.size U (.slice ov k oc) ((splL I L).take k)) := hid_mk (by rw [hU]; exact ((HR1.out.setCell (i := 2) HX1.out (.int .u16 3)).setCell (i := 3) (HX1.out.set 2 (.int .u16 3)) (.int .u16 x1)).below (Below.refl _ _).drew)
                  clear hU ly y0 y1 y2 y3 g0 g1 g2 g3 c1 hw16 hx1
                  clear HX0 HOld HOwn HX1 HO1 HR1
                  have HOb := hid_mk (own_block (t2 := 38) HR2.out (by decide) HX2.out)
                  have HAp : Hid (ApS w db ⟨sa, sn, 3, x1⟩ U.drew) := hid_mk ⟨HX2.out.below (Below.refl _ _).drew, HO2.out.drew⟩
                  have HTl : Hid (((splL I L).take k).length ≤ 1000) := hid_mk (by rw [List.length_take, splL_len]; omega)
                  have HKI : Hid ((k : Int) < (I.length : Int)) := hid_mk (by omega)
                  refine wp_region_outl3 0 [(8, GrT (.slice ov k oc))] [(7, 8)] [(8, fun W => OwnPt w.heap.size W (.slice ov k oc) ((splL I L).take k))]
                      [(fun v _ => v = .slice ov k oc),
                      (fun v _ => v = .slice (some ⟨b, o, none⟩) I.length vc),
                      (fun v _ => v = .int .i64 (k : Int)),
                      (fun v _ => v = .pointer (some ⟨b, o + k, none⟩)),
                      (fun v _ => v = .int .i64 x),
                      (fun v _ => v = dV ⟨sa, sn, 3, x1⟩),
                      (fun v _ => v = pV ⟨x, ⟨sa, sn, 3, x1⟩⟩),
                      (fun v W => ∃ l, v = .slice (some ⟨l, 0, none⟩) 1 1 ∧ BlkAt W l (ptCells [⟨x, ⟨sa, sn, 3, x1⟩⟩]) 40),
                      (fun v W => OwnPt w.heap.size W v ((splL I L).take k ++ [⟨x, ⟨sa, sn, 3, x1⟩⟩])),
                      (fun v W => OwnPt w.heap.size W v ((splL I L).take k ++ [⟨x, ⟨sa, sn, 3, x1⟩⟩]))]
                      (ApS w db ⟨sa, sn, 3, x1⟩) (by kernel_rfl) (by kernel_rfl) (by kernel_rfl) ?_ (fun u u' hb h => h.below hb) (HAp.out) ?_ ?_ ?_ ?_ ?_
                  · refine And.intro (up_eq _) ?_
                    refine And.intro (up_eq _) ?_
                    refine And.intro (up_eq _) ?_
                    refine And.intro (up_eq _) ?_
                    refine And.intro (up_eq _) ?_
                    refine And.intro (up_eq _) ?_
                    refine And.intro (up_eq _) ?_
                    refine And.intro (fun v W W' hb h => by obtain ⟨l, e, h⟩ := h; exact ⟨l, e, h.below hb⟩) ?_
                    refine And.intro (fun v W W' hb h => h.below hb) ?_
                    refine And.intro (fun v W W' hb h => h.below hb) ?_
                    trivial
                  · refine And.intro (And.intro (fun u u' hb h => h.below hb) (fun p hp hne u u' ht h => absurd (by rw [List.mem_singleton] at hp; rw [hp]) hne)) ?_
                    trivial
                  · refine And.intro (HR2.out.below (Below.refl _ _).drew) ?_
                    trivial
                  · refine And.intro (And.intro ?_ (fun u u' hg h => h.gr hg HOb.out)) ?_
                    · refine And.intro (fun _ _ _ => ch_eq _ _) ?_
                      refine And.intro (fun _ _ _ => ch_eq _ _) ?_
                      refine And.intro (fun _ _ _ => ch_eq _ _) ?_
                      refine And.intro (fun _ _ _ => ch_eq _ _) ?_
                      refine And.intro (fun _ _ _ => ch_eq _ _) ?_
                      refine And.intro (fun _ _ _ => ch_eq _ _) ?_
                      refine And.intro (fun _ _ _ => ch_eq _ _) ?_
                      refine And.intro (fun _ h _ => absurd rfl h) ?_
                      refine And.intro (fun h _ _ => absurd rfl h) ?_
                      refine And.intro (fun _ _ h => late_absurd (by kernel_rfl) h) ?_
                      trivial
                    trivial
                  · refine And.intro ?_ (And.intro ?_ (And.intro ?_ (And.intro ?_ (And.intro ?_ (And.intro ?_ (And.intro ?_ (And.intro ?_ (And.intro ?_ (And.intro ?_ (True.intro))))))))))
                    · refine qstep_val (.slice ov k oc) (by kernel_rfl) (by kernel_rfl) rfl (fun _ A1 W1 inv hnl hall => ⟨wanted_none rfl, ?_, rfl⟩)
                      have h9 : A1.eval (.tmp 9) = .slice ov k oc := (inv.base1 hnl 9 (by kernel_rfl)).trans rfl
                      simp only [execOp, h9, Sem.run_pure]
                    · refine qstep_val (.slice (some ⟨b, o, none⟩) I.length vc) (by kernel_rfl) (by kernel_rfl) rfl (fun _ A1 W1 inv hnl hall => ⟨wanted_none rfl, ?_, rfl⟩)
                      have h0 : A1.eval (.tmp 0) = .slice (some ⟨b, o, none⟩) I.length vc := (inv.base 0 (by kernel_rfl)).trans rfl
                      simp only [execOp, h0, Sem.run_pure]
                    · refine qstep_val (.int .i64 (k : Int)) (by kernel_rfl) (by kernel_rfl) rfl (fun _ A1 W1 inv hnl hall => ⟨wanted_none rfl, ?_, rfl⟩)
                      have h10 : A1.eval (.tmp 10) = .int .i64 (k : Int) := (inv.base 10 (by kernel_rfl)).trans rfl
                      simp only [execOp, h10, Sem.run_pure]
                    · refine qstep_val (.pointer (some ⟨b, o + k, none⟩)) (by kernel_rfl) (by kernel_rfl) rfl (fun _ A1 W1 inv hnl hall => ⟨wanted_none rfl, ?_, rfl⟩)
                      have h94 : A1.eval (.tmp 94) = .slice (some ⟨b, o, none⟩) I.length vc := inv.get hall 1 94 (by kernel_rfl) (by kernel_rfl) rfl
                      have h95 : A1.eval (.tmp 95) = .int .i64 (k : Int) := inv.get hall 2 95 (by kernel_rfl) (by kernel_rfl) rfl
                      have hq := HKI.out
                      simp only [execOp, h94, h95]
                      simp [go_sem, hq]
                    · refine qstep_val (.int .i64 x) (by kernel_rfl) (by kernel_rfl) rfl (fun _ A1 W1 inv hnl hall => ⟨wanted_none rfl, ?_, rfl⟩)
                      have h96 : A1.eval (.tmp 96) = .pointer (some ⟨b, o + k, none⟩) := inv.get hall 3 96 (by kernel_rfl) (by kernel_rfl) rfl
                      have gg : W1.cell? ⟨b, o + k, none⟩ = some (.int .i64 x) := (inv.s.old.cell HB1.out).trans HC0.out
                      simp only [execOp, h96]
                      simp [go_sem, gg]
                    · refine qstep_val (dV ⟨sa, sn, 3, x1⟩) (by kernel_rfl) (by kernel_rfl) rfl (fun _ A1 W1 inv hnl hall => ⟨wanted_none rfl, ?_, rfl⟩)
                      have h11 : A1.eval (.tmp 11) = .pointer (some ⟨db, 0, none⟩) := (inv.base 11 (by kernel_rfl)).trans rfl
                      simp only [execOp, h11, Sem.run_bind, loadDs inv.s.box, Result.andThen_ok, Sem.run_pure]
                    · refine qstep_val (pV ⟨x, ⟨sa, sn, 3, x1⟩⟩) (by kernel_rfl) (by kernel_rfl) rfl (fun _ A1 W1 inv hnl hall => ⟨wanted_none rfl, ?_, rfl⟩)
                      have h97 : A1.eval (.tmp 97) = .int .i64 x := inv.get hall 4 97 (by kernel_rfl) (by kernel_rfl) rfl
                      have h98 : A1.eval (.tmp 98) = dV ⟨sa, sn, 3, x1⟩ := inv.get hall 5 98 (by kernel_rfl) (by kernel_rfl) rfl
                      simp only [execOp, List.map_toArray, List.map_cons, List.map_nil, h97, h98]
                      simp [go_sem]
                    · refine qstep_run (by kernel_rfl) (by kernel_rfl) rfl (fun _ A1 W1 inv hnl hall => ⟨wanted_none rfl, ?_⟩)
                      have h99 : A1.eval (.tmp 99) = pV ⟨x, ⟨sa, sn, 3, x1⟩⟩ := inv.get hall 6 99 (by kernel_rfl) (by kernel_rfl) rfl
                      refine ⟨.slice (some ⟨W1.heap.size, 0, none⟩) 1 1, W1.alloc (.cells (ptCells [⟨x, ⟨sa, sn, 3, x1⟩⟩]).toArray 40), ?_, ⟨_, rfl, blk_new _ _ _⟩, below_box _ _⟩
                      simp only [execOp, List.map_toArray, List.map_cons, List.map_nil, h99]
                      simp [go_sem, ptCells]
                    · refine qstep_own (by kernel_rfl) (by kernel_rfl) rfl (fun _ A1 W1 inv hnl hall => ⟨wanted_none rfl, ?_⟩)
                      have h93 : A1.eval (.tmp 93) = .slice ov k oc := inv.get hall 0 93 (by kernel_rfl) (by kernel_rfl) rfl
                      have h100 : (fun v W => ∃ l, v = .slice (some ⟨l, 0, none⟩) 1 1 ∧ BlkAt W l (ptCells [⟨x, ⟨sa, sn, 3, x1⟩⟩]) 40) (A1.eval (.tmp 100)) W1 := inv.get1 (i := 8) hnl hall 7 100 (by kernel_rfl) (by kernel_rfl) rfl
                      obtain ⟨l, hl, hb⟩ := h100
                      have hov := inv.pre1 (j := 8) hnl (List.mem_singleton.2 rfl) (Or.inl rfl)
                      obtain ⟨v', w', e1, e2, e3⟩ := app_pt ⟨x, ⟨sa, sn, 3, x1⟩⟩ hov hb.lt hb inv.s.old.size HTl.out
                      refine ⟨v', w', ?_, e2, e3⟩
                      simp only [execOp]
                      simp [resolve, invoke, builtin, h93, hl, e1, Result.andThen]
                    · refine qstep_ex (by kernel_rfl) (by kernel_rfl) rfl (fun _ A1 W1 inv hnl hall => ⟨wanted_none rfl, ?_⟩)
                      have h101 : (fun v W => OwnPt w.heap.size W v ((splL I L).take k ++ [⟨x, ⟨sa, sn, 3, x1⟩⟩])) (A1.eval (.tmp 101)) W1 := inv.get hall 8 101 (by kernel_rfl) (by kernel_rfl) rfl
                      exact ⟨A1.eval (.tmp 101), by simp only [execOp, Sem.run_pure], h101⟩
                  · intro listed A1 W1 inv hall
                    have e93 : A1.eval (.tmp 93) = .slice ov k oc := inv.fin 0 93 (by kernel_rfl) (hall 0 (Nat.lt_of_lt_of_eq (by decide : 0 < 10) (by kernel_rfl))) rfl
                    have e94 : A1.eval (.tmp 94) = .slice (some ⟨b, o, none⟩) I.length vc := inv.fin 1 94 (by kernel_rfl) (hall 1 (Nat.lt_of_lt_of_eq (by decide : 1 < 10) (by kernel_rfl))) rfl
                    have e95 : A1.eval (.tmp 95) = .int .i64 (k : Int) := inv.fin 2 95 (by kernel_rfl) (hall 2 (Nat.lt_of_lt_of_eq (by decide : 2 < 10) (by kernel_rfl))) rfl
                    have e96 : A1.eval (.tmp 96) = .pointer (some ⟨b, o + k, none⟩) := inv.fin 3 96 (by kernel_rfl) (hall 3 (Nat.lt_of_lt_of_eq (by decide : 3 < 10) (by kernel_rfl))) rfl
                    have e97 : A1.eval (.tmp 97) = .int .i64 x := inv.fin 4 97 (by kernel_rfl) (hall 4 (Nat.lt_of_lt_of_eq (by decide : 4 < 10) (by kernel_rfl))) rfl
                    have e98 : A1.eval (.tmp 98) = dV ⟨sa, sn, 3, x1⟩ := inv.fin 5 98 (by kernel_rfl) (hall 5 (Nat.lt_of_lt_of_eq (by decide : 5 < 10) (by kernel_rfl))) rfl
                    have e99 : A1.eval (.tmp 99) = pV ⟨x, ⟨sa, sn, 3, x1⟩⟩ := inv.fin 6 99 (by kernel_rfl) (hall 6 (Nat.lt_of_lt_of_eq (by decide : 6 < 10) (by kernel_rfl))) rfl
                    obtain ⟨v100, e100⟩ : ∃ v, A1.eval (.tmp 100) = v := ⟨_, rfl⟩
                    have p101 : (fun v W => OwnPt w.heap.size W v ((splL I L).take k ++ [⟨x, ⟨sa, sn, 3, x1⟩⟩])) (A1.eval (.tmp 101)) W1 := inv.fin 8 101 (by kernel_rfl) (hall 8 (Nat.lt_of_lt_of_eq (by decide : 8 < 10) (by kernel_rfl))) rfl
                    obtain ⟨v101, e101⟩ : ∃ v, A1.eval (.tmp 101) = v := ⟨_, rfl⟩
                    rw [e101] at p101
                    have p9 : (fun v W => OwnPt w.heap.size W v ((splL I L).take k ++ [⟨x, ⟨sa, sn, 3, x1⟩⟩])) (A1.eval (.tmp 9)) W1 := inv.fin 9 9 (by kernel_rfl) (hall 9 (Nat.lt_of_lt_of_eq (by decide : 9 < 10) (by kernel_rfl))) rfl
                    obtain ⟨v9, e9⟩ : ∃ v, A1.eval (.tmp 9) = v := ⟨_, rfl⟩
                    rw [e9] at p9
                    have HF := inv.frame hall
                    have HS9 := hid_mk inv.s
                    simp only [putEnd, e93, e94, e95, e96, e97, e98, e99, e100, e101, e9, Act.put, List.setIfInBounds_toArray, List.set_cons_succ, List.set_cons_zero] at HF
                    clear e93 e94 e95 e96 e97 e98 e99 e100 e101 e9 inv hall
                    subst HF
                    rw [← HT3.out] at p9
                    obtain ⟨sv, sc, rfl⟩ := own_len p9
                    have HP9 := hid_mk p9
                    go_wp2_with fail
                    go_roundw
                    case rel => exact ⟨k + 1, by have := HLT.out; omega, by simp, HP9, hid_mk HS9.out.old⟩
                    case measure => simp [intOf]; have := HLT.out; omega
              · rw [show nxB L k = false from decide_eq_false hnxt, if_neg (by decide)] at HT3
                cases st
                · obtain ⟨lx, x0, x1, x2, x3, f0, f1, f2, f3⟩ := blk4 HX0.out
                  have HX1 := HX0
                  have HO1 := HOld
                  have HR1 := HOwn
                  have hnx : decide ((k : Int) + 1 < (L.length : Int)) = false := decide_eq_false (by omega)
                  go_wp2_with fail
                  rw [show ((flgN false false : Nat) : Int) = 0 from rfl] at HT3
                  obtain ⟨U, hU⟩ : ∃ U, U = U0 := ⟨_, rfl⟩
                  rw [← hU]
                  have HX2 : Hid (BlkAt U db (dC ⟨sa, sn, 0, 0⟩) 38) := hid_mk (by rw [hU]; exact HX1.out)
                  have HO2 : Hid (Below w.heap.size w U) := hid_mk (by rw [hU]; exact HO1.out)
                  have HR2 : Hid (OwnPt w.heap.size U (.slice ov k oc) ((splL I L).take k)) := hid_mk (by rw [hU]; exact HR1.out)
                  clear hU
                  clear HX0 HOld HOwn HX1 HO1 HR1
                  have HOb := hid_mk (own_block (t2 := 38) HR2.out (by decide) HX2.out)
                  have HAp : Hid (ApS w db ⟨sa, sn, 0, 0⟩ U.drew) := hid_mk ⟨HX2.out.below (Below.refl _ _).drew, HO2.out.drew⟩
                  have HTl : Hid (((splL I L).take k).length ≤ 1000) := hid_mk (by rw [List.length_take, splL_len]; omega)
                  have HKI : Hid ((k : Int) < (I.length : Int)) := hid_mk (by omega)
                  refine wp_region_outl3 0 [(8, GrT (.slice ov k oc))] [(7, 8)] [(8, fun W => OwnPt w.heap.size W (.slice ov k oc) ((splL I L).take k))]
                      [(fun v _ => v = .slice ov k oc),
                      (fun v _ => v = .slice (some ⟨b, o, none⟩) I.length vc),
                      (fun v _ => v = .int .i64 (k : Int)),
                      (fun v _ => v = .pointer (some ⟨b, o + k, none⟩)),
                      (fun v _ => v = .int .i64 x),
                      (fun v _ => v = dV ⟨sa, sn, 0, 0⟩),
                      (fun v _ => v = pV ⟨x, ⟨sa, sn, 0, 0⟩⟩),
                      (fun v W => ∃ l, v = .slice (some ⟨l, 0, none⟩) 1 1 ∧ BlkAt W l (ptCells [⟨x, ⟨sa, sn, 0, 0⟩⟩]) 40),
                      (fun v W => OwnPt w.heap.size W v ((splL I L).take k ++ [⟨x, ⟨sa, sn, 0, 0⟩⟩])),
                      (fun v W => OwnPt w.heap.size W v ((splL I L).take k ++ [⟨x, ⟨sa, sn, 0, 0⟩⟩]))]
                      (ApS w db ⟨sa, sn, 0, 0⟩) (by kernel_rfl) (by kernel_rfl) (by kernel_rfl) ?_ (fun u u' hb h => h.below hb) (HAp.out) ?_ ?_ ?_ ?_ ?_
                  · refine And.intro (up_eq _) ?_
                    refine And.intro (up_eq _) ?_
                    refine And.intro (up_eq _) ?_
                    refine And.intro (up_eq _) ?_
                    refine And.intro (up_eq _) ?_
                    refine And.intro (up_eq _) ?_
                    refine And.intro (up_eq _) ?_
                    refine And.intro (fun v W W' hb h => by obtain ⟨l, e, h⟩ := h; exact ⟨l, e, h.below hb⟩) ?_
                    refine And.intro (fun v W W' hb h => h.below hb) ?_
                    refine And.intro (fun v W W' hb h => h.below hb) ?_
                    trivial
                  · refine And.intro (And.intro (fun u u' hb h => h.below hb) (fun p hp hne u u' ht h => absurd (by rw [List.mem_singleton] at hp; rw [hp]) hne)) ?_
                    trivial
                  · refine And.intro (HR2.out.below (Below.refl _ _).drew) ?_
                    trivial
                  · refine And.intro (And.intro ?_ (fun u u' hg h => h.gr hg HOb.out)) ?_
                    · refine And.intro (fun _ _ _ => ch_eq _ _) ?_
                      refine And.intro (fun _ _ _ => ch_eq _ _) ?_
                      refine And.intro (fun _ _ _ => ch_eq _ _) ?_
                      refine And.intro (fun _ _ _ => ch_eq _ _) ?_
                      refine And.intro (fun _ _ _ => ch_eq _ _) ?_
                      refine And.intro (fun _ _ _ => ch_eq _ _) ?_
                      refine And.intro (fun _ _ _ => ch_eq _ _) ?_
                      refine And.intro (fun _ h _ => absurd rfl h) ?_
                      refine And.intro (fun h _ _ => absurd rfl h) ?_
                      refine And.intro (fun _ _ h => late_absurd (by kernel_rfl) h) ?_
                      trivial
                    trivial
                  · refine And.intro ?_ (And.intro ?_ (And.intro ?_ (And.intro ?_ (And.intro ?_ (And.intro ?_ (And.intro ?_ (And.intro ?_ (And.intro ?_ (And.intro ?_ (True.intro))))))))))
                    · refine qstep_val (.slice ov k oc) (by kernel_rfl) (by kernel_rfl) rfl (fun _ A1 W1 inv hnl hall => ⟨wanted_none rfl, ?_, rfl⟩)
                      have h9 : A1.eval (.tmp 9) = .slice ov k oc := (inv.base1 hnl 9 (by kernel_rfl)).trans rfl
                      simp only [execOp, h9, Sem.run_pure]
                    · refine qstep_val (.slice (some ⟨b, o, none⟩) I.length vc) (by kernel_rfl) (by kernel_rfl) rfl (fun _ A1 W1 inv hnl hall => ⟨wanted_none rfl, ?_, rfl⟩)
                      have h0 : A1.eval (.tmp 0) = .slice (some ⟨b, o, none⟩) I.length vc := (inv.base 0 (by kernel_rfl)).trans rfl
                      simp only [execOp, h0, Sem.run_pure]
                    · refine qstep_val (.int .i64 (k : Int)) (by kernel_rfl) (by kernel_rfl) rfl (fun _ A1 W1 inv hnl hall => ⟨wanted_none rfl, ?_, rfl⟩)
                      have h10 : A1.eval (.tmp 10) = .int .i64 (k : Int) := (inv.base 10 (by kernel_rfl)).trans rfl
                      simp only [execOp, h10, Sem.run_pure]
                    · refine qstep_val (.pointer (some ⟨b, o + k, none⟩)) (by kernel_rfl) (by kernel_rfl) rfl (fun _ A1 W1 inv hnl hall => ⟨wanted_none rfl, ?_, rfl⟩)
                      have h94 : A1.eval (.tmp 94) = .slice (some ⟨b, o, none⟩) I.length vc := inv.get hall 1 94 (by kernel_rfl) (by kernel_rfl) rfl
                      have h95 : A1.eval (.tmp 95) = .int .i64 (k : Int) := inv.get hall 2 95 (by kernel_rfl) (by kernel_rfl) rfl
                      have hq := HKI.out
                      simp only [execOp, h94, h95]
                      simp [go_sem, hq]
                    · refine qstep_val (.int .i64 x) (by kernel_rfl) (by kernel_rfl) rfl (fun _ A1 W1 inv hnl hall => ⟨wanted_none rfl, ?_, rfl⟩)
                      have h96 : A1.eval (.tmp 96) = .pointer (some ⟨b, o + k, none⟩) := inv.get hall 3 96 (by kernel_rfl) (by kernel_rfl) rfl
                      have gg : W1.cell? ⟨b, o + k, none⟩ = some (.int .i64 x) := (inv.s.old.cell HB1.out).trans HC0.out
                      simp only [execOp, h96]
                      simp [go_sem, gg]
                    · refine qstep_val (dV ⟨sa, sn, 0, 0⟩) (by kernel_rfl) (by kernel_rfl) rfl (fun _ A1 W1 inv hnl hall => ⟨wanted_none rfl, ?_, rfl⟩)
                      have h11 : A1.eval (.tmp 11) = .pointer (some ⟨db, 0, none⟩) := (inv.base 11 (by kernel_rfl)).trans rfl
                      simp only [execOp, h11, Sem.run_bind, loadDs inv.s.box, Result.andThen_ok, Sem.run_pure]
                    · refine qstep_val (pV ⟨x, ⟨sa, sn, 0, 0⟩⟩) (by kernel_rfl) (by kernel_rfl) rfl (fun _ A1 W1 inv hnl hall => ⟨wanted_none rfl, ?_, rfl⟩)
                      have h97 : A1.eval (.tmp 97) = .int .i64 x := inv.get hall 4 97 (by kernel_rfl) (by kernel_rfl) rfl
                      have h98 : A1.eval (.tmp 98) = dV ⟨sa, sn, 0, 0⟩ := inv.get hall 5 98 (by kernel_rfl) (by kernel_rfl) rfl
                      simp only [execOp, List.map_toArray, List.map_cons, List.map_nil, h97, h98]
                      simp [go_sem]
                    · refine qstep_run (by kernel_rfl) (by kernel_rfl) rfl (fun _ A1 W1 inv hnl hall => ⟨wanted_none rfl, ?_⟩)
                      have h99 : A1.eval (.tmp 99) = pV ⟨x, ⟨sa, sn, 0, 0⟩⟩ := inv.get hall 6 99 (by kernel_rfl) (by kernel_rfl) rfl
                      refine ⟨.slice (some ⟨W1.heap.size, 0, none⟩) 1 1, W1.alloc (.cells (ptCells [⟨x, ⟨sa, sn, 0, 0⟩⟩]).toArray 40), ?_, ⟨_, rfl, blk_new _ _ _⟩, below_box _ _⟩
                      simp only [execOp, List.map_toArray, List.map_cons, List.map_nil, h99]
                      simp [go_sem, ptCells]
                    · refine qstep_own (by kernel_rfl) (by kernel_rfl) rfl (fun _ A1 W1 inv hnl hall => ⟨wanted_none rfl, ?_⟩)
                      have h93 : A1.eval (.tmp 93) = .slice ov k oc := inv.get hall 0 93 (by kernel_rfl) (by kernel_rfl) rfl
                      have h100 : (fun v W => ∃ l, v = .slice (some ⟨l, 0, none⟩) 1 1 ∧ BlkAt W l (ptCells [⟨x, ⟨sa, sn, 0, 0⟩⟩]) 40) (A1.eval (.tmp 100)) W1 := inv.get1 (i := 8) hnl hall 7 100 (by kernel_rfl) (by kernel_rfl) rfl
                      obtain ⟨l, hl, hb⟩ := h100
                      have hov := inv.pre1 (j := 8) hnl (List.mem_singleton.2 rfl) (Or.inl rfl)
                      obtain ⟨v', w', e1, e2, e3⟩ := app_pt ⟨x, ⟨sa, sn, 0, 0⟩⟩ hov hb.lt hb inv.s.old.size HTl.out
                      refine ⟨v', w', ?_, e2, e3⟩
                      simp only [execOp]
                      simp [resolve, invoke, builtin, h93, hl, e1, Result.andThen]
                    · refine qstep_ex (by kernel_rfl) (by kernel_rfl) rfl (fun _ A1 W1 inv hnl hall => ⟨wanted_none rfl, ?_⟩)
                      have h101 : (fun v W => OwnPt w.heap.size W v ((splL I L).take k ++ [⟨x, ⟨sa, sn, 0, 0⟩⟩])) (A1.eval (.tmp 101)) W1 := inv.get hall 8 101 (by kernel_rfl) (by kernel_rfl) rfl
                      exact ⟨A1.eval (.tmp 101), by simp only [execOp, Sem.run_pure], h101⟩
                  · intro listed A1 W1 inv hall
                    have e93 : A1.eval (.tmp 93) = .slice ov k oc := inv.fin 0 93 (by kernel_rfl) (hall 0 (Nat.lt_of_lt_of_eq (by decide : 0 < 10) (by kernel_rfl))) rfl
                    have e94 : A1.eval (.tmp 94) = .slice (some ⟨b, o, none⟩) I.length vc := inv.fin 1 94 (by kernel_rfl) (hall 1 (Nat.lt_of_lt_of_eq (by decide : 1 < 10) (by kernel_rfl))) rfl
                    have e95 : A1.eval (.tmp 95) = .int .i64 (k : Int) := inv.fin 2 95 (by kernel_rfl) (hall 2 (Nat.lt_of_lt_of_eq (by decide : 2 < 10) (by kernel_rfl))) rfl
                    have e96 : A1.eval (.tmp 96) = .pointer (some ⟨b, o + k, none⟩) := inv.fin 3 96 (by kernel_rfl) (hall 3 (Nat.lt_of_lt_of_eq (by decide : 3 < 10) (by kernel_rfl))) rfl
                    have e97 : A1.eval (.tmp 97) = .int .i64 x := inv.fin 4 97 (by kernel_rfl) (hall 4 (Nat.lt_of_lt_of_eq (by decide : 4 < 10) (by kernel_rfl))) rfl
                    have e98 : A1.eval (.tmp 98) = dV ⟨sa, sn, 0, 0⟩ := inv.fin 5 98 (by kernel_rfl) (hall 5 (Nat.lt_of_lt_of_eq (by decide : 5 < 10) (by kernel_rfl))) rfl
                    have e99 : A1.eval (.tmp 99) = pV ⟨x, ⟨sa, sn, 0, 0⟩⟩ := inv.fin 6 99 (by kernel_rfl) (hall 6 (Nat.lt_of_lt_of_eq (by decide : 6 < 10) (by kernel_rfl))) rfl
                    obtain ⟨v100, e100⟩ : ∃ v, A1.eval (.tmp 100) = v := ⟨_, rfl⟩
                    have p101 : (fun v W => OwnPt w.heap.size W v ((splL I L).take k ++ [⟨x, ⟨sa, sn, 0, 0⟩⟩])) (A1.eval (.tmp 101)) W1 := inv.fin 8 101 (by kernel_rfl) (hall 8 (Nat.lt_of_lt_of_eq (by decide : 8 < 10) (by kernel_rfl))) rfl
                    obtain ⟨v101, e101⟩ : ∃ v, A1.eval (.tmp 101) = v := ⟨_, rfl⟩
                    rw [e101] at p101
                    have p9 : (fun v W => OwnPt w.heap.size W v ((splL I L).take k ++ [⟨x, ⟨sa, sn, 0, 0⟩⟩])) (A1.eval (.tmp 9)) W1 := inv.fin 9 9 (by kernel_rfl) (hall 9 (Nat.lt_of_lt_of_eq (by decide : 9 < 10) (by kernel_rfl))) rfl
                    obtain ⟨v9, e9⟩ : ∃ v, A1.eval (.tmp 9) = v := ⟨_, rfl⟩
                    rw [e9] at p9
                    have HF := inv.frame hall
                    have HS9 := hid_mk inv.s
                    simp only [putEnd, e93, e94, e95, e96, e97, e98, e99, e100, e101, e9, Act.put, List.setIfInBounds_toArray, List.set_cons_succ, List.set_cons_zero] at HF
                    clear e93 e94 e95 e96 e97 e98 e99 e100 e101 e9 inv hall
                    subst HF
                    rw [← HT3.out] at p9
                    obtain ⟨sv, sc, rfl⟩ := own_len p9
                    have HP9 := hid_mk p9
                    go_wp2_with fail
                    go_roundw
                    case rel => exact ⟨k + 1, by have := HLT.out; omega, by simp, HP9, hid_mk HS9.out.old⟩
                    case measure => simp [intOf]; have := HLT.out; omega
                · obtain ⟨lx, x0, x1, x2, x3, f0, f1, f2, f3⟩ := blk4 HX0.out
                  have HX1 := hid_mk (HX0.out.set 2 (.int .u16 2))
                  simp only [List.set_cons_succ, List.set_cons_zero] at HX1
                  have HO1 : Hid (Below w.heap.size w (U0.setCell ⟨db, 2, none⟩ (.int .u16 2))) := hid_mk (HOld.out.setCell HDb.out _)
                  have HR1 := hid_mk (HOwn.out.setCell (i := 2) HX0.out (.int .u16 2))
                  have hnx : decide ((k : Int) + 1 < (L.length : Int)) = false := decide_eq_false (by omega)
                  go_wp2_with fail
                  rw [show ((flgN true false : Nat) : Int) = 2 from rfl] at HT3
                  obtain ⟨U, hU⟩ : ∃ U, U = (U0.setCell ⟨db, 2, none⟩ (.int .u16 2)) := ⟨_, rfl⟩
                  rw [← hU]
                  have HX2 : Hid (BlkAt U db (dC ⟨sa, sn, 2, 0⟩) 38) := hid_mk (by rw [hU]; exact HX1.out)
                  have HO2 : Hid (Below w.heap.size w U) := hid_mk (by rw [hU]; exact HO1.out)
                  have HR2 : Hid (OwnPt w.heap.size U (.slice ov k oc) ((splL I L).take k)) := hid_mk (by rw [hU]; exact HR1.out)
                  clear hU
                  clear HX0 HOld HOwn HX1 HO1 HR1
                  have HOb := hid_mk (own_block (t2 := 38) HR2.out (by decide) HX2.out)
                  have HAp : Hid (ApS w db ⟨sa, sn, 2, 0⟩ U.drew) := hid_mk ⟨HX2.out.below (Below.refl _ _).drew, HO2.out.drew⟩
                  have HTl : Hid (((splL I L).take k).length ≤ 1000) := hid_mk (by rw [List.length_take, splL_len]; omega)
                  have HKI : Hid ((k : Int) < (I.length : Int)) := hid_mk (by omega)
                  refine wp_region_outl3 0 [(8, GrT (.slice ov k oc))] [(7, 8)] [(8, fun W => OwnPt w.heap.size W (.slice ov k oc) ((splL I L).take k))]
                      [(fun v _ => v = .slice ov k oc),
                      (fun v _ => v = .slice (some ⟨b, o, none⟩) I.length vc),
                      (fun v _ => v = .int .i64 (k : Int)),
                      (fun v _ => v = .pointer (some ⟨b, o + k, none⟩)),
                      (fun v _ => v = .int .i64 x),
                      (fun v _ => v = dV ⟨sa, sn, 2, 0⟩),
                      (fun v _ => v = pV ⟨x, ⟨sa, sn, 2, 0⟩⟩),
                      (fun v W => ∃ l, v = .slice (some ⟨l, 0, none⟩) 1 1 ∧ BlkAt W l (ptCells [⟨x, ⟨sa, sn, 2, 0⟩⟩]) 40),
                      (fun v W => OwnPt w.heap.size W v ((splL I L).take k ++ [⟨x, ⟨sa, sn, 2, 0⟩⟩])),
                      (fun v W => OwnPt w.heap.size W v ((splL I L).take k ++ [⟨x, ⟨sa, sn, 2, 0⟩⟩]))]
                      (ApS w db ⟨sa, sn, 2, 0⟩) (by kernel_rfl) (by kernel_rfl) (by kernel_rfl) ?_ (fun u u' hb h => h.below hb) (HAp.out) ?_ ?_ ?_ ?_ ?_
                  · refine And.intro (up_eq _) ?_
                    refine And.intro (up_eq _) ?_
                    refine And.intro (up_eq _) ?_
                    refine And.intro (up_eq _) ?_
                    refine And.intro (up_eq _) ?_
                    refine And.intro (up_eq _) ?_
                    refine And.intro (up_eq _) ?_
                    refine And.intro (fun v W W' hb h => by obtain ⟨l, e, h⟩ := h; exact ⟨l, e, h.below hb⟩) ?_
                    refine And.intro (fun v W W' hb h => h.below hb) ?_
                    refine And.intro (fun v W W' hb h => h.below hb) ?_
                    trivial
                  · refine And.intro (And.intro (fun u u' hb h => h.below hb) (fun p hp hne u u' ht h => absurd (by rw [List.mem_singleton] at hp; rw [hp]) hne)) ?_
                    trivial
                  · refine And.intro (HR2.out.below (Below.refl _ _).drew) ?_
                    trivial
                  · refine And.intro (And.intro ?_ (fun u u' hg h => h.gr hg HOb.out)) ?_
                    · refine And.intro (fun _ _ _ => ch_eq _ _) ?_
                      refine And.intro (fun _ _ _ => ch_eq _ _) ?_
                      refine And.intro (fun _ _ _ => ch_eq _ _) ?_
                      refine And.intro (fun _ _ _ => ch_eq _ _) ?_
                      refine And.intro (fun _ _ _ => ch_eq _ _) ?_
                      refine And.intro (fun _ _ _ => ch_eq _ _) ?_
                      refine And.intro (fun _ _ _ => ch_eq _ _) ?_
                      refine And.intro (fun _ h _ => absurd rfl h) ?_
                      refine And.intro (fun h _ _ => absurd rfl h) ?_
                      refine And.intro (fun _ _ h => late_absurd (by kernel_rfl) h) ?_
                      trivial
                    trivial
                  · refine And.intro ?_ (And.intro ?_ (And.intro ?_ (And.intro ?_ (And.intro ?_ (And.intro ?_ (And.intro ?_ (And.intro ?_ (And.intro ?_ (And.intro ?_ (True.intro))))))))))
                    · refine qstep_val (.slice ov k oc) (by kernel_rfl) (by kernel_rfl) rfl (fun _ A1 W1 inv hnl hall => ⟨wanted_none rfl, ?_, rfl⟩)
                      have h9 : A1.eval (.tmp 9) = .slice ov k oc := (inv.base1 hnl 9 (by kernel_rfl)).trans rfl
                      simp only [execOp, h9, Sem.run_pure]
                    · refine qstep_val (.slice (some ⟨b, o, none⟩) I.length vc) (by kernel_rfl) (by kernel_rfl) rfl (fun _ A1 W1 inv hnl hall => ⟨wanted_none rfl, ?_, rfl⟩)
                      have h0 : A1.eval (.tmp 0) = .slice (some ⟨b, o, none⟩) I.length vc := (inv.base 0 (by kernel_rfl)).trans rfl
                      simp only [execOp, h0, Sem.run_pure]
                    · refine qstep_val (.int .i64 (k : Int)) (by kernel_rfl) (by kernel_rfl) rfl (fun _ A1 W1 inv hnl hall => ⟨wanted_none rfl, ?_, rfl⟩)
                      have h10 : A1.eval (.tmp 10) = .int .i64 (k : Int) := (inv.base 10 (by kernel_rfl)).trans rfl
                      simp only [execOp, h10, Sem.run_pure]
                    · refine qstep_val (.pointer (some ⟨b, o + k, none⟩)) (by kernel_rfl) (by kernel_rfl) rfl (fun _ A1 W1 inv hnl hall => ⟨wanted_none rfl, ?_, rfl⟩)
                      have h94 : A1.eval (.tmp 94) = .slice (some ⟨b, o, none⟩) I.length vc := inv.get hall 1 94 (by kernel_rfl) (by kernel_rfl) rfl
                      have h95 : A1.eval (.tmp 95) = .int .i64 (k : Int) := inv.get hall 2 95 (by kernel_rfl) (by kernel_rfl) rfl
                      have hq := HKI.out
                      simp only [execOp, h94, h95]
                      simp [go_sem, hq]
                    · refine qstep_val (.int .i64 x) (by kernel_rfl) (by kernel_rfl) rfl (fun _ A1 W1 inv hnl hall => ⟨wanted_none rfl, ?_, rfl⟩)
                      have h96 : A1.eval (.tmp 96) = .pointer (some ⟨b, o + k, none⟩) := inv.get hall 3 96 (by kernel_rfl) (by kernel_rfl) rfl
                      have gg : W1.cell? ⟨b, o + k, none⟩ = some (.int .i64 x) := (inv.s.old.cell HB1.out).trans HC0.out
                      simp only [execOp, h96]
                      simp [go_sem, gg]
                    · refine qstep_val (dV ⟨sa, sn, 2, 0⟩) (by kernel_rfl) (by kernel_rfl) rfl (fun _ A1 W1 inv hnl hall => ⟨wanted_none rfl, ?_, rfl⟩)
                      have h11 : A1.eval (.tmp 11) = .pointer (some ⟨db, 0, none⟩) := (inv.base 11 (by kernel_rfl)).trans rfl
                      simp only [execOp, h11, Sem.run_bind, loadDs inv.s.box, Result.andThen_ok, Sem.run_pure]
                    · refine qstep_val (pV ⟨x, ⟨sa, sn, 2, 0⟩⟩) (by kernel_rfl) (by kernel_rfl) rfl (fun _ A1 W1 inv hnl hall => ⟨wanted_none rfl, ?_, rfl⟩)
                      have h97 : A1.eval (.tmp 97) = .int .i64 x := inv.get hall 4 97 (by kernel_rfl) (by kernel_rfl) rfl
                      have h98 : A1.eval (.tmp 98) = dV ⟨sa, sn, 2, 0⟩ := inv.get hall 5 98 (by kernel_rfl) (by kernel_rfl) rfl
                      simp only [execOp, List.map_toArray, List.map_cons, List.map_nil, h97, h98]
                      simp [go_sem]
                    · refine qstep_run (by kernel_rfl) (by kernel_rfl) rfl (fun _ A1 W1 inv hnl hall => ⟨wanted_none rfl, ?_⟩)
                      have h99 : A1.eval (.tmp 99) = pV ⟨x, ⟨sa, sn, 2, 0⟩⟩ := inv.get hall 6 99 (by kernel_rfl) (by kernel_rfl) rfl
                      refine ⟨.slice (some ⟨W1.heap.size, 0, none⟩) 1 1, W1.alloc (.cells (ptCells [⟨x, ⟨sa, sn, 2, 0⟩⟩]).toArray 40), ?_, ⟨_, rfl, blk_new _ _ _⟩, below_box _ _⟩
                      simp only [execOp, List.map_toArray, List.map_cons, List.map_nil, h99]
                      simp [go_sem, ptCells]
                    · refine qstep_own (by kernel_rfl) (by kernel_rfl) rfl (fun _ A1 W1 inv hnl hall => ⟨wanted_none rfl, ?_⟩)
                      have h93 : A1.eval (.tmp 93) = .slice ov k oc := inv.get hall 0 93 (by kernel_rfl) (by kernel_rfl) rfl
                      have h100 : (fun v W => ∃ l, v = .slice (some ⟨l, 0, none⟩) 1 1 ∧ BlkAt W l (ptCells [⟨x, ⟨sa, sn, 2, 0⟩⟩]) 40) (A1.eval (.tmp 100)) W1 := inv.get1 (i := 8) hnl hall 7 100 (by kernel_rfl) (by kernel_rfl) rfl
                      obtain ⟨l, hl, hb⟩ := h100
                      have hov := inv.pre1 (j := 8) hnl (List.mem_singleton.2 rfl) (Or.inl rfl)
                      obtain ⟨v', w', e1, e2, e3⟩ := app_pt ⟨x, ⟨sa, sn, 2, 0⟩⟩ hov hb.lt hb inv.s.old.size HTl.out
                      refine ⟨v', w', ?_, e2, e3⟩
                      simp only [execOp]
                      simp [resolve, invoke, builtin, h93, hl, e1, Result.andThen]
                    · refine qstep_ex (by kernel_rfl) (by kernel_rfl) rfl (fun _ A1 W1 inv hnl hall => ⟨wanted_none rfl, ?_⟩)
                      have h101 : (fun v W => OwnPt w.heap.size W v ((splL I L).take k ++ [⟨x, ⟨sa, sn, 2, 0⟩⟩])) (A1.eval (.tmp 101)) W1 := inv.get hall 8 101 (by kernel_rfl) (by kernel_rfl) rfl
                      exact ⟨A1.eval (.tmp 101), by simp only [execOp, Sem.run_pure], h101⟩
                  · intro listed A1 W1 inv hall
                    have e93 : A1.eval (.tmp 93) = .slice ov k oc := inv.fin 0 93 (by kernel_rfl) (hall 0 (Nat.lt_of_lt_of_eq (by decide : 0 < 10) (by kernel_rfl))) rfl
                    have e94 : A1.eval (.tmp 94) = .slice (some ⟨b, o, none⟩) I.length vc := inv.fin 1 94 (by kernel_rfl) (hall 1 (Nat.lt_of_lt_of_eq (by decide : 1 < 10) (by kernel_rfl))) rfl
                    have e95 : A1.eval (.tmp 95) = .int .i64 (k : Int) := inv.fin 2 95 (by kernel_rfl) (hall 2 (Nat.lt_of_lt_of_eq (by decide : 2 < 10) (by kernel_rfl))) rfl
                    have e96 : A1.eval (.tmp 96) = .pointer (some ⟨b, o + k, none⟩) := inv.fin 3 96 (by kernel_rfl) (hall 3 (Nat.lt_of_lt_of_eq (by decide : 3 < 10) (by kernel_rfl))) rfl
                    have e97 : A1.eval (.tmp 97) = .int .i64 x := inv.fin 4 97 (by kernel_rfl) (hall 4 (Nat.lt_of_lt_of_eq (by decide : 4 < 10) (by kernel_rfl))) rfl
                    have e98 : A1.eval (.tmp 98) = dV ⟨sa, sn, 2, 0⟩ := inv.fin 5 98 (by kernel_rfl) (hall 5 (Nat.lt_of_lt_of_eq (by decide : 5 < 10) (by kernel_rfl))) rfl
                    have e99 : A1.eval (.tmp 99) = pV ⟨x, ⟨sa, sn, 2, 0⟩⟩ := inv.fin 6 99 (by kernel_rfl) (hall 6 (Nat.lt_of_lt_of_eq (by decide : 6 < 10) (by kernel_rfl))) rfl
                    obtain ⟨v100, e100⟩ : ∃ v, A1.eval (.tmp 100) = v := ⟨_, rfl⟩
                    have p101 : (fun v W => OwnPt w.heap.size W v ((splL I L).take k ++ [⟨x, ⟨sa, sn, 2, 0⟩⟩])) (A1.eval (.tmp 101)) W1 := inv.fin 8 101 (by kernel_rfl) (hall 8 (Nat.lt_of_lt_of_eq (by decide : 8 < 10) (by kernel_rfl))) rfl
                    obtain ⟨v101, e101⟩ : ∃ v, A1.eval (.tmp 101) = v := ⟨_, rfl⟩
                    rw [e101] at p101
                    have p9 : (fun v W => OwnPt w.heap.size W v ((splL I L).take k ++ [⟨x, ⟨sa, sn, 2, 0⟩⟩])) (A1.eval (.tmp 9)) W1 := inv.fin 9 9 (by kernel_rfl) (hall 9 (Nat.lt_of_lt_of_eq (by decide : 9 < 10) (by kernel_rfl))) rfl
                    obtain ⟨v9, e9⟩ : ∃ v, A1.eval (.tmp 9) = v := ⟨_, rfl⟩
                    rw [e9] at p9
                    have HF := inv.frame hall
                    have HS9 := hid_mk inv.s
                    simp only [putEnd, e93, e94, e95, e96, e97, e98, e99, e100, e101, e9, Act.put, List.setIfInBounds_toArray, List.set_cons_succ, List.set_cons_zero] at HF
                    clear e93 e94 e95 e96 e97 e98 e99 e100 e101 e9 inv hall
                    subst HF
                    rw [← HT3.out] at p9
                    obtain ⟨sv, sc, rfl⟩ := own_len p9
                    have HP9 := hid_mk p9
                    go_wp2_with fail
                    go_roundw
                    case rel => exact ⟨k + 1, by have := HLT.out; omega, by simp, HP9, hid_mk HS9.out.old⟩
                    case measure => simp [intOf]; have := HLT.out; omega
            · obtain rfl : k = L.length := by omega
              obtain ⟨ov, oc, hov⟩ := own_len hown.out
              have HR := hid_mk hown.out
              rw [show (splL I L).take L.length = splL I L from List.take_of_length_le (by rw [splL_len]; exact Nat.le_refl _)] at HR hov
              rw [splL_len] at hov
              subst hov
              go_wp2_with fail
              go_ret2
              exact ⟨_, rfl, HR.out, hold.out⟩
    · obtain ⟨e1, e2⟩ := spl_no (I := I) (L := L) hm (Or.inl hn)
      rw [e1, e2]
      have hne : ((I.length : Int) != (L.length : Int)) = true := by
        simp
        omega
      clear e1 e2 hm hn hs HV HU hi hl
      go_enter Try.func16, Try.ntmps16
      go_wp2_with fail
      refine HM.out.mono ?_
      rintro e w1 ⟨rfl, m, rfl⟩
      go_wp2_with fail
      go_ret2
      exact ⟨_, rfl, World.ownsRow_nil _ _ _ _, below_drewN _ _⟩
  · obtain ⟨e1, e2⟩ := spl_bad (I := I) hm
    rw [e1, e2]
    have hb : (mayE L != 0) = true := by simp; exact hm
    generalize mayE L = z at *
    clear e1 e2 hm hs HV HU hi hl
    go_enter Try.func16, Try.ntmps16
    go_wp2_with fail
    refine HM.out.mono ?_
    rintro e w1 ⟨rfl, m, rfl⟩
    go_wp2_with fail
    go_ret2
    exact ⟨_, rfl, World.ownsRow_nil _ _ _ _, below_drewN _ _⟩
end Go.Proofs.Ytgdokgpplldddaa
