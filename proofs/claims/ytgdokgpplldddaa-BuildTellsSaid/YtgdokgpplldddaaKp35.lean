/- Bd5 Dsc9: joined texts. Conditions: as each theorem names them. -/
import Derived.Test.YtgdokgpplldddaaKp30
import Derived.Test.YtgdokgpplldddaaKp31
/- The reference of layer 9: Packed. Conditions: as each theorem names them. Written by mkbd5.py. -/
namespace Go.Proofs.Ytgdokgpplldddaa
open Go.ChangeShapes Go.WideShapes Go.ChangeAt Go.RowKit
set_option linter.unusedVariables false
set_option maxRecDepth 100000

theorem OwnPk.below {B : Nat} {w w' : World} {v : Value} {l : List Pt} (h : OwnPk B w v l) (hb : Below w.heap.size w w') : OwnPk B w' v l := by
  refine ⟨h.1, ?_⟩
  rcases h.2 with hn | ⟨gg, cap, cur, rfl, hg, hh, rest⟩
  · exact .inl hn
  · exact .inr ⟨gg, cap, cur, rfl, hg, (hb.block gg (lt_blk hh)).trans hh, rest⟩
theorem OwnPk.setCell {B : Nat} {w : World} {v : Value} {l : List Pt} (h : OwnPk B w v l) {db i : Nat} {C : List Value} (hb : BlkAt w db C 33) (x : Value) : OwnPk B (w.setCell ⟨db, i, none⟩ x) v l := by
  refine ⟨h.1, ?_⟩
  have hne := own_block h (t2 := 33) (by decide) hb
  rcases h.2 with hn | ⟨gg, cap, cur, rfl, hg, hh, rest⟩
  · exact .inl hn
  · exact .inr ⟨gg, cap, cur, rfl, hg, (Below.heap_setCell w ⟨db, i, none⟩ x gg (hne gg rfl).2).trans hh, rest⟩
/-- what the build's end keeps: the position's box, and what was there -/
structure ApQ (w : World) (db : Nat) (p : Int) (b : Bool) (W : World) : Prop where
  box : BlkAt W db [.int .i64 p, .bool b] 33
  old : Below w.heap.size w W
theorem ApQ.below {w W W' : World} {db : Nat} {p : Int} {b : Bool} (h : ApQ w db p b W) (hb : Below W.heap.size W W') : ApQ w db p b W' := ⟨h.box.below hb, below_then h.old hb⟩
theorem ApQ.gr {w W W' : World} {db : Nat} {p : Int} {b : Bool} {vo : Value} (h : ApQ w db p b W) (hg : GrT vo W W') (hv : ∀ g, vo.ownBlock = some g → w.heap.size ≤ g ∧ g ≠ db) : ApQ w db p b W' := by
  refine ⟨(hg.block db h.box.lt (fun e => (hv db e.symm).2 rfl)).trans h.box, h.old.trans (grown_below hg h.old.size (fun k hk => (hv k hk).1))⟩
theorem go_next {p n : Int} {k : Nat} (b : Bool) (h0 : 0 ≤ p) (h1 : p < n) (hk : (k : Int) < n) : goA (goA p k n) 1 n = goA p (k + 1 : Nat) n ∧ goW (goA p k n) 1 n (goW p k n b) = goW p (k + 1 : Nat) n b ∧ 0 ≤ goA p k n ∧ goA p k n < n := by
  unfold goA goW
  by_cases c1 : p + (k : Int) < n
  · rw [if_pos c1, if_pos c1]
    by_cases c2 : p + (k : Int) + 1 < n
    · rw [if_pos c2, if_pos c2, if_pos (show p + ((k + 1 : Nat) : Int) < n by omega), if_pos (show p + ((k + 1 : Nat) : Int) < n by omega)]
      exact ⟨by omega, rfl, by omega, by omega⟩
    · rw [if_neg c2, if_neg c2, if_neg (show ¬ p + ((k + 1 : Nat) : Int) < n by omega), if_neg (show ¬ p + ((k + 1 : Nat) : Int) < n by omega)]
      exact ⟨by omega, rfl, by omega, by omega⟩
  · rw [if_neg c1, if_neg c1, if_pos (show p + (k : Int) - n + 1 < n by omega), if_pos (show p + (k : Int) - n + 1 < n by omega), if_neg (show ¬ p + ((k + 1 : Nat) : Int) < n by omega), if_neg (show ¬ p + ((k + 1 : Nat) : Int) < n by omega)]
    exact ⟨by omega, rfl, by omega, by omega⟩
theorem go_none {p n : Int} (b : Bool) (h1 : p < n) : goA p (0 : Nat) n = p ∧ goW p (0 : Nat) n b = b := by
  unfold goA goW
  rw [if_pos (by omega), if_pos (by omega)]
  exact ⟨by omega, rfl⟩
theorem pck_no {p n : Int} {b : Bool} {id : Int} {L : List Sg} (h : mayE L = 0) (h2 : pckB p n id L = false) : pckE p n id L = 2 ∧ pckR p n b id L = [] := by
  have e : pckE p n id L = 2 := by
    unfold pckE
    rw [if_pos h, h2]
    rfl
  refine ⟨e, ?_⟩
  unfold pckR
  rw [e]
  rfl
theorem pck_bad {p n : Int} {b : Bool} {id : Int} {L : List Sg} (h : mayE L ≠ 0) : pckE p n id L = mayE L ∧ pckR p n b id L = [] := by
  have e : pckE p n id L = mayE L := by
    unfold pckE
    rw [if_neg h]
  refine ⟨e, ?_⟩
  unfold pckR
  rw [e, if_neg h]
theorem pck_yes {p n : Int} {b : Bool} {id : Int} {L : List Sg} (h : mayE L = 0) (h2 : pckB p n id L = true) : pckE p n id L = 0 ∧ pckR p n b id L = pckL p n b id L := by
  have e : pckE p n id L = 0 := by
    unfold pckE
    rw [if_pos h, h2]
    rfl
  refine ⟨e, ?_⟩
  unfold pckR
  rw [e]
  rfl
theorem pck_false {p n id : Int} {L : List Sg} (hp : okP p n = true) (h : pckB p n id L = false) : id < 0 ∨ (0 ≤ id ∧ n ≤ id) ∨ (0 ≤ id ∧ id < n ∧ n < (L.length : Int)) := by
  unfold pckB at h
  rw [hp, Bool.true_and] at h
  by_cases h0 : id < 0
  · exact Or.inl h0
  · by_cases h1 : n ≤ id
    · exact Or.inr (Or.inl ⟨by omega, h1⟩)
    · refine Or.inr (Or.inr ⟨by omega, by omega, ?_⟩)
      rw [okI_iff.2 (show 0 ≤ id ∧ id < n by omega), Bool.true_and, decide_eq_false_iff_not] at h
      omega
theorem pck_true {p n id : Int} {L : List Sg} (h : pckB p n id L = true) : okP p n = true ∧ (0 ≤ id ∧ id < n) ∧ (L.length : Int) ≤ n := by
  unfold pckB at h
  simp only [Bool.and_eq_true, decide_eq_true_eq, okI_iff] at h
  exact ⟨h.1, h.2.1, h.2.2⟩

theorem BlkAt.two {w : World} {b : Nat} {x y : Value} {t : TypeId} (h : BlkAt w b [x, y] t) : b < w.heap.size ∧ w.cell? ⟨b, 0, none⟩ = some x ∧ w.cell? ⟨b, 1, none⟩ = some y ∧ True := ⟨h.lt, h.cell 0, h.cell 1, trivial⟩
theorem BlkAt.five {w : World} {b : Nat} {x y : Value} {t : TypeId} (h : BlkAt w b [x, y] t) : b < w.heap.size ∧ w.cell? ⟨b, 0, none⟩ = some x ∧ w.cell? ⟨b, 1, none⟩ = some y ∧ w.frozen? ⟨b, 0, none⟩ = false ∧ w.frozen? ⟨b, 1, none⟩ = false := ⟨h.lt, h.cell 0, h.cell 1, h.free 0, h.free 1⟩
set_option maxHeartbeats 8000000 in
theorem rpacked (p n : Int) (b : Bool) (id : Int) (u : Value) (L : List Sg) (w : World) (hu : SegsAt w u L) (hs : isSgs L) (hl : L.length ≤ 1000) :
    Calls Try.prog 17 #[.agg #[.int .i64 p, .bool b], .int .i64 n, .int .i64 id, u] w fun e w' => ∃ x, e = .returned (.tuple #[x, .int .i64 (pckE p n id L)]) ∧ OwnPk w.heap.size w' x (pckR p n b id L) ∧ Below w.heap.size w w' := by
  have HM := hid_mk (fun u1 (h1 : SegsAt u1 u L) => rmay u L u1 h1 hs hl)
  have HU := hid_mk hu
  obtain ⟨ua, uc, rfl⟩ := hu.len
  have HB0 := hid_mk (below_box w (.cells #[.int .i64 p, .bool b] 33))
  have HX0 := hid_mk (blk_new w [.int .i64 p, .bool b] 33)
  have HC := hid_mk (fun u1 => rcheck_all p n b u1)
  unfold chkI at HC
  have hlL : (L.length : Int) ≤ 1000 := by omega
  by_cases hm : mayE L = 0
  · rw [hm] at HM
    cases hp : okP p n
    · obtain ⟨e1, e2⟩ := pck_no (b := b) hm (show pckB p n id L = false by unfold pckB; rw [hp]; rfl)
      rw [e1, e2]
      rw [hp, if_neg (by decide)] at HC
      clear e1 e2 hp hm hs hl
      go_enter Try.func17, Try.ntmps17
      go_wp2_with fail
      refine (HM.out _ (HU.out.below HB0.out)).mono ?_
      rintro e w1 ⟨rfl, m, rfl⟩
      have HX1 := hid_mk (HX0.out.below (below_drewN _ m))
      have HB1 := hid_mk (below_then HB0.out (below_drewN _ m))
      obtain ⟨l0, x0, x1, _⟩ := HX1.out.two
      go_wp2_with fail
      refine (HC.out _).mono ?_
      rintro e w2 ⟨rfl, hb⟩
      have HX2 := hid_mk (HX1.out.below hb)
      have HB2 := hid_mk (below_then HB1.out hb)
      clear hb l0 x0 x1
      go_wp2_with fail
      go_ret2
      exact ⟨_, rfl, World.ownsRow_nil _ _ _ _, HB2.out⟩
    rw [hp, if_pos rfl] at HC
    cases hB : pckB p n id L
    · obtain ⟨e1, e2⟩ := pck_no (b := b) hm hB
      rw [e1, e2]
      rcases pck_false hp hB with h1 | ⟨h1, h2⟩ | ⟨h1, h2, h3⟩
      · clear e1 e2 hp hm hs hl hB
        have et : decide (id < 0) = true := decide_eq_true (by omega)
        go_enter Try.func17, Try.ntmps17
        go_wp2_with fail
        refine (HM.out _ (HU.out.below HB0.out)).mono ?_
        rintro e w1 ⟨rfl, m, rfl⟩
        have HX1 := hid_mk (HX0.out.below (below_drewN _ m))
        have HB1 := hid_mk (below_then HB0.out (below_drewN _ m))
        obtain ⟨l0, x0, x1, _⟩ := HX1.out.two
        go_wp2_with fail
        refine (HC.out _).mono ?_
        rintro e w2 ⟨rfl, hb⟩
        have HX2 := hid_mk (HX1.out.below hb)
        have HB2 := hid_mk (below_then HB1.out hb)
        clear hb l0 x0 x1
        go_wp2_with fail
        go_ret2
        exact ⟨_, rfl, World.ownsRow_nil _ _ _ _, HB2.out⟩
      · clear e1 e2 hp hm hs hl hB
        have e0 : decide (id < 0) = false := decide_eq_false (by omega)
        have et : decide (n ≤ id) = true := decide_eq_true (by omega)
        go_enter Try.func17, Try.ntmps17
        go_wp2_with fail
        refine (HM.out _ (HU.out.below HB0.out)).mono ?_
        rintro e w1 ⟨rfl, m, rfl⟩
        have HX1 := hid_mk (HX0.out.below (below_drewN _ m))
        have HB1 := hid_mk (below_then HB0.out (below_drewN _ m))
        obtain ⟨l0, x0, x1, _⟩ := HX1.out.two
        go_wp2_with fail
        refine (HC.out _).mono ?_
        rintro e w2 ⟨rfl, hb⟩
        have HX2 := hid_mk (HX1.out.below hb)
        have HB2 := hid_mk (below_then HB1.out hb)
        clear hb l0 x0 x1
        go_wp2_with fail
        go_ret2
        exact ⟨_, rfl, World.ownsRow_nil _ _ _ _, HB2.out⟩
      · clear e1 e2 hp hm hs hl hB
        have e0 : decide (id < 0) = false := decide_eq_false (by omega)
        have e1 : decide (n ≤ id) = false := decide_eq_false (by omega)
        have et : decide (n < (L.length : Int)) = true := decide_eq_true (by omega)
        go_enter Try.func17, Try.ntmps17
        go_wp2_with fail
        refine (HM.out _ (HU.out.below HB0.out)).mono ?_
        rintro e w1 ⟨rfl, m, rfl⟩
        have HX1 := hid_mk (HX0.out.below (below_drewN _ m))
        have HB1 := hid_mk (below_then HB0.out (below_drewN _ m))
        obtain ⟨l0, x0, x1, _⟩ := HX1.out.two
        go_wp2_with fail
        refine (HC.out _).mono ?_
        rintro e w2 ⟨rfl, hb⟩
        have HX2 := hid_mk (HX1.out.below hb)
        have HB2 := hid_mk (below_then HB1.out hb)
        clear hb l0 x0 x1
        go_wp2_with fail
        go_ret2
        exact ⟨_, rfl, World.ownsRow_nil _ _ _ _, HB2.out⟩
    · obtain ⟨e1, e2⟩ := pck_yes (b := b) hm hB
      rw [e1, e2]
      obtain ⟨_, ⟨h1, h2⟩, h3⟩ := pck_true hB
      obtain ⟨g1, g2, g3, g4⟩ := okP_t hp
      have HG := hid_mk (fun a c u1 (ha : 0 ≤ a) (hb : a < n) => rgo_any a 1 n c u1 g1 g2 ha hb (by omega) g1)
      obtain ⟨_, hpos⟩ := mayE_ok hm
      obtain ⟨b2, o2, rfl, hd1, hd3⟩ : ∃ b2 o2, ua = some ⟨b2, o2, none⟩ ∧ b2 < w.heap.size ∧ ∀ j, j < L.length → at3 w b2 (o2 + j * 3) (sat L j) := by
        rcases HU.out with ⟨_, e⟩ | ⟨b, o, c, he, h1, h2, h3⟩
        · rw [e] at hpos
          simp at hpos
        · cases he
          exact ⟨b, o, rfl, h1, h3⟩
      have HD := hid_mk hd3
      have HD1 := hid_mk hd1
      have HW16 : Hid (IntKind.u16.wrap id = id) := hid_mk (by rw [IntKind.wrap_u16]; omega)
      have d0 : decide (id < 0) = false := decide_eq_false (by omega)
      have d1 : decide (n ≤ id) = false := decide_eq_false (by omega)
      have d2 : decide (n < (L.length : Int)) = false := decide_eq_false (by omega)
      have HNx := hid_mk (fun (k : Nat) (hk : (k : Int) < n) => go_next (k := k) b g3 g4 hk)
      have HG0 := hid_mk (go_none b g4)
      have HLn := hid_mk h3
      have HDb : Hid (w.heap.size ≤ w.heap.size) := hid_mk (Nat.le_refl _)
      clear e1 e2 hp hm hs hl hB hd3 h1 h2 h3 g1 g2 g3 g4
      go_enter Try.func17, Try.ntmps17
      go_wp2_with fail
      refine (HM.out _ (HU.out.below HB0.out)).mono ?_
      rintro e w1 ⟨rfl, m, rfl⟩
      have HX1 := hid_mk (HX0.out.below (below_drewN _ m))
      have HB1 := hid_mk (below_then HB0.out (below_drewN _ m))
      obtain ⟨l0, x0, x1, _⟩ := HX1.out.two
      go_wp2_with fail
      refine (HC.out _).mono ?_
      rintro e w2 ⟨rfl, hb⟩
      have HX2 := hid_mk (HX1.out.below hb)
      have HB2 := hid_mk (below_then HB1.out hb)
      clear hb l0 x0 x1
      obtain ⟨db, hdb⟩ : ∃ db, w.heap.size = db := ⟨_, rfl⟩
      rw [hdb] at HX2
      have HDb : Hid (w.heap.size ≤ db) := hid_mk (by omega)
      rw [hdb]
      clear hdb HX0 HX1
      go_wp2_with fail
      clear d0 d1 d2
      go_loopw [11, 12, 13] (fun s i _ wr => ∃ k : Nat, k ≤ L.length ∧ i = .int .i64 k ∧ Hid (OwnPk w.heap.size wr s ((pckL p n b id L).take k)) ∧ Hid (BlkAt wr db [.int .i64 (goA p k n), .bool (goW p k n b)] 33) ∧ Hid (Below w.heap.size w wr)) (fun _ i _ _ => L.length - (intOf i).toNat)
      case atStart => exact ⟨0, Nat.zero_le _, rfl, hid_mk (World.ownsRow_nil _ _ _ _), hid_mk (by rw [HG0.out.1, HG0.out.2]; exact HX2.out), HB2⟩
      case round =>
        obtain ⟨k, hk, rfl, hown, hbx, hold⟩ := hrel
        by_cases hlt : k < L.length
        · obtain ⟨d0, d1, d2⟩ := (HD.out k hlt).below hold.out hd1
          obtain ⟨hc0, hc1, _⟩ := HD.out k hlt
          have HC0 := hid_mk hc0
          have HC1 := hid_mk hc1
          have hdw : b2 < wr.heap.size := Nat.lt_of_lt_of_le hd1 hold.out.size
          have HT3 := hid_mk (pckL_take (p := p) (n := n) (b := b) (id := id) hlt)
          have hki : (k : Int) < (L.length : Int) := by omega
          have HKI := hid_mk hki
          obtain ⟨ov, oc, hov⟩ := own_len hown.out
          rw [show ((pckL p n b id L).take k).length = k by rw [List.length_take, pckL_len]; omega] at hov
          subst hov
          unfold pckD at HT3
          have HLT := hid_mk hlt
          obtain ⟨n1, n2, n3, n4⟩ := HNx.out k (by have := HLn.out; omega)
          have HGk := hid_mk (fun u1 => HG.out (goA p k n) (goW p k n b) u1 n3 n4)
          rw [n1, n2] at HGk
          replace HG := HGk
          have HTl : Hid (((pckL p n b id L).take k).length ≤ 1000) := hid_mk (by rw [List.length_take, pckL_len]; omega)
          have HOb := hid_mk (own_block (t2 := 33) hown.out (by decide) hbx.out)
          have HAp : Hid (ApQ w db (goA p k n) (goW p k n b) wr.drew) := hid_mk ⟨hbx.out.below (Below.refl _ _).drew, hold.out.drew⟩
          clear hc0 hc1 n1 n2 n3 n4 HGk
          generalize (sat L k).a = sa at *
          generalize (sat L k).n = sn at *
          generalize (sat L k).t = st at *
          generalize goA p k n = pa at *
          generalize goW p k n b = pw at *
          clear hold hbx
          by_cases hnxt : k + 1 < L.length
          · rw [show nxB L k = true from decide_eq_true hnxt] at HT3
            cases st
            · have hnx : (k : Int) + 1 < (L.length : Int) := by omega
              go_wp2_with fail
              rw [show flgN false true = 1 from rfl] at HT3
              rw [show bits .or .u16 0 1 = 1 from (u16_two 0).1]
              refine wp_region_outl3 0 [(22, GrT (.slice ov k oc))] [(21, 22)] [(22, fun W => OwnPk w.heap.size W (.slice ov k oc) ((pckL p n b id L).take k))]
                  [(fun v _ => v = .slice ov k oc),
                  (fun v _ => v = .pointer (some ⟨db, 0, none⟩)),
                  (fun v _ => v = .int .i64 pa),
                  (fun v _ => v = .slice (some ⟨b2, o2, none⟩) L.length uc),
                  (fun v _ => v = .int .i64 (k : Int)),
                  (fun v _ => v = .pointer (some ⟨b2, o2 + k * 3, none⟩)),
                  (fun v _ => v = .pointer (some ⟨b2, o2 + k * 3, none⟩)),
                  (fun v _ => v = .int .u64 sa),
                  (fun v _ => v = .slice (some ⟨b2, o2, none⟩) L.length uc),
                  (fun v _ => v = .int .i64 (k : Int)),
                  (fun v _ => v = .pointer (some ⟨b2, o2 + k * 3, none⟩)),
                  (fun v _ => v = .pointer (some ⟨b2, o2 + k * 3 + 1, none⟩)),
                  (fun v _ => v = .int .u32 sn),
                  (fun v _ => v = .int .i64 id),
                  (fun v _ => v = .int .u16 id),
                  (fun v _ => v = .int .u16 1),
                  (fun v _ => v = .pointer (some ⟨db, 1, none⟩)),
                  (fun v _ => v = .bool pw),
                  (fun v _ => v = .int .u16 (markN 1 pw false : Nat)),
                  (fun v _ => v = .agg #[.int .u64 sa, .int .u32 sn, .int .u16 id, .int .u16 (markN 1 pw false : Nat)]),
                  (fun v _ => v = pV ⟨pa, ⟨sa, sn, id, (markN 1 pw false : Nat)⟩⟩),
                  (fun v W => ∃ l, v = .slice (some ⟨l, 0, none⟩) 1 1 ∧ BlkAt W l (ptCells [⟨pa, ⟨sa, sn, id, (markN 1 pw false : Nat)⟩⟩]) 46),
                  (fun v W => OwnPk w.heap.size W v ((pckL p n b id L).take k ++ [⟨pa, ⟨sa, sn, id, (markN 1 pw false : Nat)⟩⟩])),
                  (fun v W => OwnPk w.heap.size W v ((pckL p n b id L).take k ++ [⟨pa, ⟨sa, sn, id, (markN 1 pw false : Nat)⟩⟩]))]
                  (ApQ w db pa pw) (by kernel_rfl) (by kernel_rfl) (by kernel_rfl) ?_ (fun u u' hb h => h.below hb) (HAp.out) ?_ ?_ ?_ ?_ ?_
              · refine And.intro (up_eq _) ?_
                refine And.intro (up_eq _) ?_
                refine And.intro (up_eq _) ?_
                refine And.intro (up_eq _) ?_
                refine And.intro (up_eq _) ?_
                refine And.intro (up_eq _) ?_
                refine And.intro (up_eq _) ?_
                refine And.intro (up_eq _) ?_
                refine And.intro (up_eq _) ?_
                refine And.intro (up_eq _) ?_
                refine And.intro (up_eq _) ?_
                refine And.intro (up_eq _) ?_
                refine And.intro (up_eq _) ?_
                refine And.intro (up_eq _) ?_
                refine And.intro (up_eq _) ?_
                refine And.intro (up_eq _) ?_
                refine And.intro (up_eq _) ?_
                refine And.intro (up_eq _) ?_
                refine And.intro (up_eq _) ?_
                refine And.intro (up_eq _) ?_
                refine And.intro (up_eq _) ?_
                refine And.intro (fun v W W' hb h => by obtain ⟨l, e, h⟩ := h; exact ⟨l, e, h.below hb⟩) ?_
                refine And.intro (fun v W W' hb h => h.below hb) ?_
                refine And.intro (fun v W W' hb h => h.below hb) ?_
                trivial
              · refine And.intro (And.intro (fun u u' hb h => h.below hb) (fun p hp hne u u' ht h => absurd (by rw [List.mem_singleton] at hp; rw [hp]) hne)) ?_
                trivial
              · refine And.intro (hown.out.below (Below.refl _ _).drew) ?_
                trivial
              · refine And.intro (And.intro ?_ (fun u u' hg h => h.gr hg HOb.out)) ?_
                · refine And.intro (fun _ _ _ => ch_eq _ _) ?_
                  refine And.intro (fun _ _ _ => ch_eq _ _) ?_
                  refine And.intro (fun _ _ _ => ch_eq _ _) ?_
                  refine And.intro (fun _ _ _ => ch_eq _ _) ?_
                  refine And.intro (fun _ _ _ => ch_eq _ _) ?_
                  refine And.intro (fun _ _ _ => ch_eq _ _) ?_
                  refine And.intro (fun _ _ _ => ch_eq _ _) ?_
                  refine And.intro (fun _ _ _ => ch_eq _ _) ?_
                  refine And.intro (fun _ _ _ => ch_eq _ _) ?_
                  refine And.intro (fun _ _ _ => ch_eq _ _) ?_
                  refine And.intro (fun _ _ _ => ch_eq _ _) ?_
                  refine And.intro (fun _ _ _ => ch_eq _ _) ?_
                  refine And.intro (fun _ _ _ => ch_eq _ _) ?_
                  refine And.intro (fun _ _ _ => ch_eq _ _) ?_
                  refine And.intro (fun _ _ _ => ch_eq _ _) ?_
                  refine And.intro (fun _ _ _ => ch_eq _ _) ?_
                  refine And.intro (fun _ _ _ => ch_eq _ _) ?_
                  refine And.intro (fun _ _ _ => ch_eq _ _) ?_
                  refine And.intro (fun _ _ _ => ch_eq _ _) ?_
                  refine And.intro (fun _ _ _ => ch_eq _ _) ?_
                  refine And.intro (fun _ _ _ => ch_eq _ _) ?_
                  refine And.intro (fun _ h _ => absurd rfl h) ?_
                  refine And.intro (fun h _ _ => absurd rfl h) ?_
                  refine And.intro (fun _ _ h => late_absurd (by kernel_rfl) h) ?_
                  trivial
                trivial
              · refine And.intro ?_ (And.intro ?_ (And.intro ?_ (And.intro ?_ (And.intro ?_ (And.intro ?_ (And.intro ?_ (And.intro ?_ (And.intro ?_ (And.intro ?_ (And.intro ?_ (And.intro ?_ (And.intro ?_ (And.intro ?_ (And.intro ?_ (And.intro ?_ (And.intro ?_ (And.intro ?_ (And.intro ?_ (And.intro ?_ (And.intro ?_ (And.intro ?_ (And.intro ?_ (And.intro ?_ (True.intro))))))))))))))))))))))))
                · refine qstep_val (.slice ov k oc) (by kernel_rfl) (by kernel_rfl) rfl (fun _ A1 W1 inv hnl hall => ⟨wanted_none rfl, ?_, rfl⟩)
                  have h11 : A1.eval (.tmp 11) = .slice ov k oc := (inv.base1 hnl 11 (by kernel_rfl)).trans rfl
                  simp only [execOp, h11, Sem.run_pure]
                · refine qstep_val (.pointer (some ⟨db, 0, none⟩)) (by kernel_rfl) (by kernel_rfl) rfl (fun _ A1 W1 inv hnl hall => ⟨wanted_none rfl, ?_, rfl⟩)
                  have h4 : A1.eval (.tmp 4) = .pointer (some ⟨db, 0, none⟩) := (inv.base 4 (by kernel_rfl)).trans rfl
                  simp only [execOp, h4]
                  simp [go_sem]
                · refine qstep_val (.int .i64 pa) (by kernel_rfl) (by kernel_rfl) rfl (fun _ A1 W1 inv hnl hall => ⟨wanted_none rfl, ?_, rfl⟩)
                  have h57 : A1.eval (.tmp 57) = .pointer (some ⟨db, 0, none⟩) := inv.get hall 1 57 (by kernel_rfl) (by kernel_rfl) rfl
                  have gg := inv.s.box.cell 0
                  simp at gg
                  simp only [execOp, h57]
                  simp [go_sem, gg]
                · refine qstep_val (.slice (some ⟨b2, o2, none⟩) L.length uc) (by kernel_rfl) (by kernel_rfl) rfl (fun _ A1 W1 inv hnl hall => ⟨wanted_none rfl, ?_, rfl⟩)
                  have h3 : A1.eval (.tmp 3) = .slice (some ⟨b2, o2, none⟩) L.length uc := (inv.base 3 (by kernel_rfl)).trans rfl
                  simp only [execOp, h3, Sem.run_pure]
                · refine qstep_val (.int .i64 (k : Int)) (by kernel_rfl) (by kernel_rfl) rfl (fun _ A1 W1 inv hnl hall => ⟨wanted_none rfl, ?_, rfl⟩)
                  have h12 : A1.eval (.tmp 12) = .int .i64 (k : Int) := (inv.base 12 (by kernel_rfl)).trans rfl
                  simp only [execOp, h12, Sem.run_pure]
                · refine qstep_val (.pointer (some ⟨b2, o2 + k * 3, none⟩)) (by kernel_rfl) (by kernel_rfl) rfl (fun _ A1 W1 inv hnl hall => ⟨wanted_none rfl, ?_, rfl⟩)
                  have h59 : A1.eval (.tmp 59) = .slice (some ⟨b2, o2, none⟩) L.length uc := inv.get hall 3 59 (by kernel_rfl) (by kernel_rfl) rfl
                  have h60 : A1.eval (.tmp 60) = .int .i64 (k : Int) := inv.get hall 4 60 (by kernel_rfl) (by kernel_rfl) rfl
                  have hq := HKI.out
                  simp only [execOp, h59, h60]
                  simp [go_sem, hq]
                · refine qstep_val (.pointer (some ⟨b2, o2 + k * 3, none⟩)) (by kernel_rfl) (by kernel_rfl) rfl (fun _ A1 W1 inv hnl hall => ⟨wanted_none rfl, ?_, rfl⟩)
                  have h61 : A1.eval (.tmp 61) = .pointer (some ⟨b2, o2 + k * 3, none⟩) := inv.get hall 5 61 (by kernel_rfl) (by kernel_rfl) rfl
                  simp only [execOp, h61]
                  simp [go_sem]
                · refine qstep_val (.int .u64 sa) (by kernel_rfl) (by kernel_rfl) rfl (fun _ A1 W1 inv hnl hall => ⟨wanted_none rfl, ?_, rfl⟩)
                  have h62 : A1.eval (.tmp 62) = .pointer (some ⟨b2, o2 + k * 3, none⟩) := inv.get hall 6 62 (by kernel_rfl) (by kernel_rfl) rfl
                  have gg : W1.cell? ⟨b2, o2 + k * 3, none⟩ = some (.int .u64 sa) := (inv.s.old.cell HD1.out).trans HC0.out
                  simp only [execOp, h62]
                  simp [go_sem, gg]
                · refine qstep_val (.slice (some ⟨b2, o2, none⟩) L.length uc) (by kernel_rfl) (by kernel_rfl) rfl (fun _ A1 W1 inv hnl hall => ⟨wanted_none rfl, ?_, rfl⟩)
                  have h3 : A1.eval (.tmp 3) = .slice (some ⟨b2, o2, none⟩) L.length uc := (inv.base 3 (by kernel_rfl)).trans rfl
                  simp only [execOp, h3, Sem.run_pure]
                · refine qstep_val (.int .i64 (k : Int)) (by kernel_rfl) (by kernel_rfl) rfl (fun _ A1 W1 inv hnl hall => ⟨wanted_none rfl, ?_, rfl⟩)
                  have h12 : A1.eval (.tmp 12) = .int .i64 (k : Int) := (inv.base 12 (by kernel_rfl)).trans rfl
                  simp only [execOp, h12, Sem.run_pure]
                · refine qstep_val (.pointer (some ⟨b2, o2 + k * 3, none⟩)) (by kernel_rfl) (by kernel_rfl) rfl (fun _ A1 W1 inv hnl hall => ⟨wanted_none rfl, ?_, rfl⟩)
                  have h64 : A1.eval (.tmp 64) = .slice (some ⟨b2, o2, none⟩) L.length uc := inv.get hall 8 64 (by kernel_rfl) (by kernel_rfl) rfl
                  have h65 : A1.eval (.tmp 65) = .int .i64 (k : Int) := inv.get hall 9 65 (by kernel_rfl) (by kernel_rfl) rfl
                  have hq := HKI.out
                  simp only [execOp, h64, h65]
                  simp [go_sem, hq]
                · refine qstep_val (.pointer (some ⟨b2, o2 + k * 3 + 1, none⟩)) (by kernel_rfl) (by kernel_rfl) rfl (fun _ A1 W1 inv hnl hall => ⟨wanted_none rfl, ?_, rfl⟩)
                  have h66 : A1.eval (.tmp 66) = .pointer (some ⟨b2, o2 + k * 3, none⟩) := inv.get hall 10 66 (by kernel_rfl) (by kernel_rfl) rfl
                  simp only [execOp, h66]
                  simp [go_sem]
                · refine qstep_val (.int .u32 sn) (by kernel_rfl) (by kernel_rfl) rfl (fun _ A1 W1 inv hnl hall => ⟨wanted_none rfl, ?_, rfl⟩)
                  have h67 : A1.eval (.tmp 67) = .pointer (some ⟨b2, o2 + k * 3 + 1, none⟩) := inv.get hall 11 67 (by kernel_rfl) (by kernel_rfl) rfl
                  have gg : W1.cell? ⟨b2, o2 + k * 3 + 1, none⟩ = some (.int .u32 sn) := (inv.s.old.cell HD1.out).trans HC1.out
                  simp only [execOp, h67]
                  simp [go_sem, gg]
                · refine qstep_val (.int .i64 id) (by kernel_rfl) (by kernel_rfl) rfl (fun _ A1 W1 inv hnl hall => ⟨wanted_none rfl, ?_, rfl⟩)
                  have h2 : A1.eval (.tmp 2) = .int .i64 id := (inv.base 2 (by kernel_rfl)).trans rfl
                  simp only [execOp, h2, Sem.run_pure]
                · refine qstep_val (.int .u16 id) (by kernel_rfl) (by kernel_rfl) rfl (fun _ A1 W1 inv hnl hall => ⟨wanted_none rfl, ?_, rfl⟩)
                  have h69 : A1.eval (.tmp 69) = .int .i64 id := inv.get hall 13 69 (by kernel_rfl) (by kernel_rfl) rfl
                  simp only [execOp, h69]
                  simp [go_sem, HW16.out]
                · refine qstep_val (.int .u16 1) (by kernel_rfl) (by kernel_rfl) rfl (fun _ A1 W1 inv hnl hall => ⟨wanted_none rfl, ?_, rfl⟩)
                  have h13 : A1.eval (.tmp 13) = .int .u16 1 := (inv.base 13 (by kernel_rfl)).trans rfl
                  simp only [execOp, h13, Sem.run_pure]
                · refine qstep_val (.pointer (some ⟨db, 1, none⟩)) (by kernel_rfl) (by kernel_rfl) rfl (fun _ A1 W1 inv hnl hall => ⟨wanted_none rfl, ?_, rfl⟩)
                  have h4 : A1.eval (.tmp 4) = .pointer (some ⟨db, 0, none⟩) := (inv.base 4 (by kernel_rfl)).trans rfl
                  simp only [execOp, h4]
                  simp [go_sem]
                · refine qstep_val (.bool pw) (by kernel_rfl) (by kernel_rfl) rfl (fun _ A1 W1 inv hnl hall => ⟨wanted_none rfl, ?_, rfl⟩)
                  have h72 : A1.eval (.tmp 72) = .pointer (some ⟨db, 1, none⟩) := inv.get hall 16 72 (by kernel_rfl) (by kernel_rfl) rfl
                  have gg := inv.s.box.cell 1
                  simp at gg
                  simp only [execOp, h72]
                  simp [go_sem, gg]
                · refine qstep_call 47 (by kernel_rfl) _ _ (by kernel_rfl) (by kernel_rfl) rfl rfl (fun _ A1 W1 inv hnl hall => ⟨wanted_none rfl, #[.int .u16 1, .bool pw, .bool false], ?_, ?_⟩)
                  · have h71 : A1.eval (.tmp 71) = .int .u16 1 := inv.get hall 15 71 (by kernel_rfl) (by kernel_rfl) rfl
                    have h73 : A1.eval (.tmp 73) = .bool pw := inv.get hall 17 73 (by kernel_rfl) (by kernel_rfl) rfl
                    simp [h71, h73, eval_c2]
                  · refine (rmark_any 1 pw false _ (by decide)).mono ?_
                    rintro e u ⟨rfl, rfl⟩
                    exact ⟨_, rfl, rfl, Below.refl _ _⟩
                · refine qstep_val (.agg #[.int .u64 sa, .int .u32 sn, .int .u16 id, .int .u16 (markN 1 pw false : Nat)]) (by kernel_rfl) (by kernel_rfl) rfl (fun _ A1 W1 inv hnl hall => ⟨wanted_none rfl, ?_, rfl⟩)
                  have h63 : A1.eval (.tmp 63) = .int .u64 sa := inv.get hall 7 63 (by kernel_rfl) (by kernel_rfl) rfl
                  have h68 : A1.eval (.tmp 68) = .int .u32 sn := inv.get hall 12 68 (by kernel_rfl) (by kernel_rfl) rfl
                  have h70 : A1.eval (.tmp 70) = .int .u16 id := inv.get hall 14 70 (by kernel_rfl) (by kernel_rfl) rfl
                  have h74 : A1.eval (.tmp 74) = .int .u16 (markN 1 pw false : Nat) := inv.get hall 18 74 (by kernel_rfl) (by kernel_rfl) rfl
                  simp only [execOp, List.map_toArray, List.map_cons, List.map_nil, h63, h68, h70, h74]
                  simp [go_sem]
                · refine qstep_val (pV ⟨pa, ⟨sa, sn, id, (markN 1 pw false : Nat)⟩⟩) (by kernel_rfl) (by kernel_rfl) rfl (fun _ A1 W1 inv hnl hall => ⟨wanted_none rfl, ?_, rfl⟩)
                  have h58 : A1.eval (.tmp 58) = .int .i64 pa := inv.get hall 2 58 (by kernel_rfl) (by kernel_rfl) rfl
                  have h75 : A1.eval (.tmp 75) = .agg #[.int .u64 sa, .int .u32 sn, .int .u16 id, .int .u16 (markN 1 pw false : Nat)] := inv.get hall 19 75 (by kernel_rfl) (by kernel_rfl) rfl
                  simp only [execOp, List.map_toArray, List.map_cons, List.map_nil, h58, h75]
                  simp [go_sem]
                · refine qstep_run (by kernel_rfl) (by kernel_rfl) rfl (fun _ A1 W1 inv hnl hall => ⟨wanted_none rfl, ?_⟩)
                  have h76 : A1.eval (.tmp 76) = pV ⟨pa, ⟨sa, sn, id, (markN 1 pw false : Nat)⟩⟩ := inv.get hall 20 76 (by kernel_rfl) (by kernel_rfl) rfl
                  refine ⟨.slice (some ⟨W1.heap.size, 0, none⟩) 1 1, W1.alloc (.cells (ptCells [⟨pa, ⟨sa, sn, id, (markN 1 pw false : Nat)⟩⟩]).toArray 46), ?_, ⟨_, rfl, blk_new _ _ _⟩, below_box _ _⟩
                  simp only [execOp, List.map_toArray, List.map_cons, List.map_nil, h76]
                  simp [go_sem, ptCells]
                · refine qstep_own (by kernel_rfl) (by kernel_rfl) rfl (fun _ A1 W1 inv hnl hall => ⟨wanted_none rfl, ?_⟩)
                  have h56 : A1.eval (.tmp 56) = .slice ov k oc := inv.get hall 0 56 (by kernel_rfl) (by kernel_rfl) rfl
                  have h77 : (fun v W => ∃ l, v = .slice (some ⟨l, 0, none⟩) 1 1 ∧ BlkAt W l (ptCells [⟨pa, ⟨sa, sn, id, (markN 1 pw false : Nat)⟩⟩]) 46) (A1.eval (.tmp 77)) W1 := inv.get1 (i := 22) hnl hall 21 77 (by kernel_rfl) (by kernel_rfl) rfl
                  obtain ⟨l, hl, hb⟩ := h77
                  have hov := inv.pre1 (j := 22) hnl (List.mem_singleton.2 rfl) (Or.inl rfl)
                  obtain ⟨v', w', e1, e2, e3⟩ := app_pk ⟨pa, ⟨sa, sn, id, (markN 1 pw false : Nat)⟩⟩ hov hb.lt hb inv.s.old.size HTl.out
                  refine ⟨v', w', ?_, e2, e3⟩
                  simp only [execOp]
                  simp [resolve, invoke, builtin, h56, hl, e1, Result.andThen]
                · refine qstep_ex (by kernel_rfl) (by kernel_rfl) rfl (fun _ A1 W1 inv hnl hall => ⟨wanted_none rfl, ?_⟩)
                  have h78 : (fun v W => OwnPk w.heap.size W v ((pckL p n b id L).take k ++ [⟨pa, ⟨sa, sn, id, (markN 1 pw false : Nat)⟩⟩])) (A1.eval (.tmp 78)) W1 := inv.get hall 22 78 (by kernel_rfl) (by kernel_rfl) rfl
                  exact ⟨A1.eval (.tmp 78), by simp only [execOp, Sem.run_pure], h78⟩
              · intro listed A1 W1 inv hall
                have e56 : A1.eval (.tmp 56) = .slice ov k oc := inv.fin 0 56 (by kernel_rfl) (hall 0 (Nat.lt_of_lt_of_eq (by decide : 0 < 24) (by kernel_rfl))) rfl
                have e57 : A1.eval (.tmp 57) = .pointer (some ⟨db, 0, none⟩) := inv.fin 1 57 (by kernel_rfl) (hall 1 (Nat.lt_of_lt_of_eq (by decide : 1 < 24) (by kernel_rfl))) rfl
                have e58 : A1.eval (.tmp 58) = .int .i64 pa := inv.fin 2 58 (by kernel_rfl) (hall 2 (Nat.lt_of_lt_of_eq (by decide : 2 < 24) (by kernel_rfl))) rfl
                have e59 : A1.eval (.tmp 59) = .slice (some ⟨b2, o2, none⟩) L.length uc := inv.fin 3 59 (by kernel_rfl) (hall 3 (Nat.lt_of_lt_of_eq (by decide : 3 < 24) (by kernel_rfl))) rfl
                have e60 : A1.eval (.tmp 60) = .int .i64 (k : Int) := inv.fin 4 60 (by kernel_rfl) (hall 4 (Nat.lt_of_lt_of_eq (by decide : 4 < 24) (by kernel_rfl))) rfl
                have e61 : A1.eval (.tmp 61) = .pointer (some ⟨b2, o2 + k * 3, none⟩) := inv.fin 5 61 (by kernel_rfl) (hall 5 (Nat.lt_of_lt_of_eq (by decide : 5 < 24) (by kernel_rfl))) rfl
                have e62 : A1.eval (.tmp 62) = .pointer (some ⟨b2, o2 + k * 3, none⟩) := inv.fin 6 62 (by kernel_rfl) (hall 6 (Nat.lt_of_lt_of_eq (by decide : 6 < 24) (by kernel_rfl))) rfl
                have e63 : A1.eval (.tmp 63) = .int .u64 sa := inv.fin 7 63 (by kernel_rfl) (hall 7 (Nat.lt_of_lt_of_eq (by decide : 7 < 24) (by kernel_rfl))) rfl
                have e64 : A1.eval (.tmp 64) = .slice (some ⟨b2, o2, none⟩) L.length uc := inv.fin 8 64 (by kernel_rfl) (hall 8 (Nat.lt_of_lt_of_eq (by decide : 8 < 24) (by kernel_rfl))) rfl
                have e65 : A1.eval (.tmp 65) = .int .i64 (k : Int) := inv.fin 9 65 (by kernel_rfl) (hall 9 (Nat.lt_of_lt_of_eq (by decide : 9 < 24) (by kernel_rfl))) rfl
                have e66 : A1.eval (.tmp 66) = .pointer (some ⟨b2, o2 + k * 3, none⟩) := inv.fin 10 66 (by kernel_rfl) (hall 10 (Nat.lt_of_lt_of_eq (by decide : 10 < 24) (by kernel_rfl))) rfl
                have e67 : A1.eval (.tmp 67) = .pointer (some ⟨b2, o2 + k * 3 + 1, none⟩) := inv.fin 11 67 (by kernel_rfl) (hall 11 (Nat.lt_of_lt_of_eq (by decide : 11 < 24) (by kernel_rfl))) rfl
                have e68 : A1.eval (.tmp 68) = .int .u32 sn := inv.fin 12 68 (by kernel_rfl) (hall 12 (Nat.lt_of_lt_of_eq (by decide : 12 < 24) (by kernel_rfl))) rfl
                have e69 : A1.eval (.tmp 69) = .int .i64 id := inv.fin 13 69 (by kernel_rfl) (hall 13 (Nat.lt_of_lt_of_eq (by decide : 13 < 24) (by kernel_rfl))) rfl
                have e70 : A1.eval (.tmp 70) = .int .u16 id := inv.fin 14 70 (by kernel_rfl) (hall 14 (Nat.lt_of_lt_of_eq (by decide : 14 < 24) (by kernel_rfl))) rfl
                have e71 : A1.eval (.tmp 71) = .int .u16 1 := inv.fin 15 71 (by kernel_rfl) (hall 15 (Nat.lt_of_lt_of_eq (by decide : 15 < 24) (by kernel_rfl))) rfl
                have e72 : A1.eval (.tmp 72) = .pointer (some ⟨db, 1, none⟩) := inv.fin 16 72 (by kernel_rfl) (hall 16 (Nat.lt_of_lt_of_eq (by decide : 16 < 24) (by kernel_rfl))) rfl
                have e73 : A1.eval (.tmp 73) = .bool pw := inv.fin 17 73 (by kernel_rfl) (hall 17 (Nat.lt_of_lt_of_eq (by decide : 17 < 24) (by kernel_rfl))) rfl
                have e74 : A1.eval (.tmp 74) = .int .u16 (markN 1 pw false : Nat) := inv.fin 18 74 (by kernel_rfl) (hall 18 (Nat.lt_of_lt_of_eq (by decide : 18 < 24) (by kernel_rfl))) rfl
                have e75 : A1.eval (.tmp 75) = .agg #[.int .u64 sa, .int .u32 sn, .int .u16 id, .int .u16 (markN 1 pw false : Nat)] := inv.fin 19 75 (by kernel_rfl) (hall 19 (Nat.lt_of_lt_of_eq (by decide : 19 < 24) (by kernel_rfl))) rfl
                have e76 : A1.eval (.tmp 76) = pV ⟨pa, ⟨sa, sn, id, (markN 1 pw false : Nat)⟩⟩ := inv.fin 20 76 (by kernel_rfl) (hall 20 (Nat.lt_of_lt_of_eq (by decide : 20 < 24) (by kernel_rfl))) rfl
                obtain ⟨v77, e77⟩ : ∃ v, A1.eval (.tmp 77) = v := ⟨_, rfl⟩
                have p78 : (fun v W => OwnPk w.heap.size W v ((pckL p n b id L).take k ++ [⟨pa, ⟨sa, sn, id, (markN 1 pw false : Nat)⟩⟩])) (A1.eval (.tmp 78)) W1 := inv.fin 22 78 (by kernel_rfl) (hall 22 (Nat.lt_of_lt_of_eq (by decide : 22 < 24) (by kernel_rfl))) rfl
                obtain ⟨v78, e78⟩ : ∃ v, A1.eval (.tmp 78) = v := ⟨_, rfl⟩
                rw [e78] at p78
                have p11 : (fun v W => OwnPk w.heap.size W v ((pckL p n b id L).take k ++ [⟨pa, ⟨sa, sn, id, (markN 1 pw false : Nat)⟩⟩])) (A1.eval (.tmp 11)) W1 := inv.fin 23 11 (by kernel_rfl) (hall 23 (Nat.lt_of_lt_of_eq (by decide : 23 < 24) (by kernel_rfl))) rfl
                obtain ⟨v11, e11⟩ : ∃ v, A1.eval (.tmp 11) = v := ⟨_, rfl⟩
                rw [e11] at p11
                have HF := inv.frame hall
                have HS9 := hid_mk inv.s
                simp only [putEnd, e56, e57, e58, e59, e60, e61, e62, e63, e64, e65, e66, e67, e68, e69, e70, e71, e72, e73, e74, e75, e76, e77, e78, e11, Act.put, List.setIfInBounds_toArray, List.set_cons_succ, List.set_cons_zero] at HF
                clear e56 e57 e58 e59 e60 e61 e62 e63 e64 e65 e66 e67 e68 e69 e70 e71 e72 e73 e74 e75 e76 e77 e78 e11 inv hall
                subst HF
                rw [← HT3.out] at p11
                obtain ⟨sv, sc, hsv⟩ := own_len p11
                rw [show ((pckL p n b id L).take (k + 1)).length = k + 1 by rw [List.length_take, pckL_len]; have := HLT.out; omega] at hsv
                subst hsv
                have HP9 := hid_mk p11
                have HQ9 := hid_mk HS9.out
                obtain ⟨l9, x0, x1, f0, f1⟩ := HQ9.out.box.five
                clear HS9 p11
                go_wp2_with fail
                refine (HG.out _).mono ?_
                rintro e w3 ⟨rfl, hb⟩
                have HX3 := hid_mk (HQ9.out.box.below hb)
                have HO3 := hid_mk (below_then HQ9.out.old hb)
                have HP3 := hid_mk (HP9.out.below hb)
                clear hb l9 x0 x1 f0 f1
                obtain ⟨l9, x0, x1, f0, f1⟩ := HX3.out.five
                go_wp2_with fail
                go_roundw
                case rel => exact ⟨k + 1, by have := HLT.out; omega, by simp, hid_mk ((HP3.out.setCell (i := 0) HX3.out _).setCell (i := 1) (HX3.out.set 0 _) _), hid_mk ((HX3.out.set 0 _).set 1 _), hid_mk ((HO3.out.setCell HDb.out _).setCell HDb.out _)⟩
                case measure => simp [intOf]; have := HLT.out; omega
            · have hnx : (k : Int) + 1 < (L.length : Int) := by omega
              go_wp2_with fail
              rw [show flgN true true = 3 from rfl] at HT3
              rw [show bits .or .u16 2 1 = 3 from (u16_two 0).2]
              refine wp_region_outl3 0 [(22, GrT (.slice ov k oc))] [(21, 22)] [(22, fun W => OwnPk w.heap.size W (.slice ov k oc) ((pckL p n b id L).take k))]
                  [(fun v _ => v = .slice ov k oc),
                  (fun v _ => v = .pointer (some ⟨db, 0, none⟩)),
                  (fun v _ => v = .int .i64 pa),
                  (fun v _ => v = .slice (some ⟨b2, o2, none⟩) L.length uc),
                  (fun v _ => v = .int .i64 (k : Int)),
                  (fun v _ => v = .pointer (some ⟨b2, o2 + k * 3, none⟩)),
                  (fun v _ => v = .pointer (some ⟨b2, o2 + k * 3, none⟩)),
                  (fun v _ => v = .int .u64 sa),
                  (fun v _ => v = .slice (some ⟨b2, o2, none⟩) L.length uc),
                  (fun v _ => v = .int .i64 (k : Int)),
                  (fun v _ => v = .pointer (some ⟨b2, o2 + k * 3, none⟩)),
                  (fun v _ => v = .pointer (some ⟨b2, o2 + k * 3 + 1, none⟩)),
                  (fun v _ => v = .int .u32 sn),
                  (fun v _ => v = .int .i64 id),
                  (fun v _ => v = .int .u16 id),
                  (fun v _ => v = .int .u16 3),
                  (fun v _ => v = .pointer (some ⟨db, 1, none⟩)),
                  (fun v _ => v = .bool pw),
                  (fun v _ => v = .int .u16 (markN 3 pw false : Nat)),
                  (fun v _ => v = .agg #[.int .u64 sa, .int .u32 sn, .int .u16 id, .int .u16 (markN 3 pw false : Nat)]),
                  (fun v _ => v = pV ⟨pa, ⟨sa, sn, id, (markN 3 pw false : Nat)⟩⟩),
                  (fun v W => ∃ l, v = .slice (some ⟨l, 0, none⟩) 1 1 ∧ BlkAt W l (ptCells [⟨pa, ⟨sa, sn, id, (markN 3 pw false : Nat)⟩⟩]) 46),
                  (fun v W => OwnPk w.heap.size W v ((pckL p n b id L).take k ++ [⟨pa, ⟨sa, sn, id, (markN 3 pw false : Nat)⟩⟩])),
                  (fun v W => OwnPk w.heap.size W v ((pckL p n b id L).take k ++ [⟨pa, ⟨sa, sn, id, (markN 3 pw false : Nat)⟩⟩]))]
                  (ApQ w db pa pw) (by kernel_rfl) (by kernel_rfl) (by kernel_rfl) ?_ (fun u u' hb h => h.below hb) (HAp.out) ?_ ?_ ?_ ?_ ?_
              · refine And.intro (up_eq _) ?_
                refine And.intro (up_eq _) ?_
                refine And.intro (up_eq _) ?_
                refine And.intro (up_eq _) ?_
                refine And.intro (up_eq _) ?_
                refine And.intro (up_eq _) ?_
                refine And.intro (up_eq _) ?_
                refine And.intro (up_eq _) ?_
                refine And.intro (up_eq _) ?_
                refine And.intro (up_eq _) ?_
                refine And.intro (up_eq _) ?_
                refine And.intro (up_eq _) ?_
                refine And.intro (up_eq _) ?_
                refine And.intro (up_eq _) ?_
                refine And.intro (up_eq _) ?_
                refine And.intro (up_eq _) ?_
                refine And.intro (up_eq _) ?_
                refine And.intro (up_eq _) ?_
                refine And.intro (up_eq _) ?_
                refine And.intro (up_eq _) ?_
                refine And.intro (up_eq _) ?_
                refine And.intro (fun v W W' hb h => by obtain ⟨l, e, h⟩ := h; exact ⟨l, e, h.below hb⟩) ?_
                refine And.intro (fun v W W' hb h => h.below hb) ?_
                refine And.intro (fun v W W' hb h => h.below hb) ?_
                trivial
              · refine And.intro (And.intro (fun u u' hb h => h.below hb) (fun p hp hne u u' ht h => absurd (by rw [List.mem_singleton] at hp; rw [hp]) hne)) ?_
                trivial
              · refine And.intro (hown.out.below (Below.refl _ _).drew) ?_
                trivial
              · refine And.intro (And.intro ?_ (fun u u' hg h => h.gr hg HOb.out)) ?_
                · refine And.intro (fun _ _ _ => ch_eq _ _) ?_
                  refine And.intro (fun _ _ _ => ch_eq _ _) ?_
                  refine And.intro (fun _ _ _ => ch_eq _ _) ?_
                  refine And.intro (fun _ _ _ => ch_eq _ _) ?_
                  refine And.intro (fun _ _ _ => ch_eq _ _) ?_
                  refine And.intro (fun _ _ _ => ch_eq _ _) ?_
                  refine And.intro (fun _ _ _ => ch_eq _ _) ?_
                  refine And.intro (fun _ _ _ => ch_eq _ _) ?_
                  refine And.intro (fun _ _ _ => ch_eq _ _) ?_
                  refine And.intro (fun _ _ _ => ch_eq _ _) ?_
                  refine And.intro (fun _ _ _ => ch_eq _ _) ?_
                  refine And.intro (fun _ _ _ => ch_eq _ _) ?_
                  refine And.intro (fun _ _ _ => ch_eq _ _) ?_
                  refine And.intro (fun _ _ _ => ch_eq _ _) ?_
                  refine And.intro (fun _ _ _ => ch_eq _ _) ?_
                  refine And.intro (fun _ _ _ => ch_eq _ _) ?_
                  refine And.intro (fun _ _ _ => ch_eq _ _) ?_
                  refine And.intro (fun _ _ _ => ch_eq _ _) ?_
                  refine And.intro (fun _ _ _ => ch_eq _ _) ?_
                  refine And.intro (fun _ _ _ => ch_eq _ _) ?_
                  refine And.intro (fun _ _ _ => ch_eq _ _) ?_
                  refine And.intro (fun _ h _ => absurd rfl h) ?_
                  refine And.intro (fun h _ _ => absurd rfl h) ?_
                  refine And.intro (fun _ _ h => late_absurd (by kernel_rfl) h) ?_
                  trivial
                trivial
              · refine And.intro ?_ (And.intro ?_ (And.intro ?_ (And.intro ?_ (And.intro ?_ (And.intro ?_ (And.intro ?_ (And.intro ?_ (And.intro ?_ (And.intro ?_ (And.intro ?_ (And.intro ?_ (And.intro ?_ (And.intro ?_ (And.intro ?_ (And.intro ?_ (And.intro ?_ (And.intro ?_ (And.intro ?_ (And.intro ?_ (And.intro ?_ (And.intro ?_ (And.intro ?_ (And.intro ?_ (True.intro))))))))))))))))))))))))
                · refine qstep_val (.slice ov k oc) (by kernel_rfl) (by kernel_rfl) rfl (fun _ A1 W1 inv hnl hall => ⟨wanted_none rfl, ?_, rfl⟩)
                  have h11 : A1.eval (.tmp 11) = .slice ov k oc := (inv.base1 hnl 11 (by kernel_rfl)).trans rfl
                  simp only [execOp, h11, Sem.run_pure]
                · refine qstep_val (.pointer (some ⟨db, 0, none⟩)) (by kernel_rfl) (by kernel_rfl) rfl (fun _ A1 W1 inv hnl hall => ⟨wanted_none rfl, ?_, rfl⟩)
                  have h4 : A1.eval (.tmp 4) = .pointer (some ⟨db, 0, none⟩) := (inv.base 4 (by kernel_rfl)).trans rfl
                  simp only [execOp, h4]
                  simp [go_sem]
                · refine qstep_val (.int .i64 pa) (by kernel_rfl) (by kernel_rfl) rfl (fun _ A1 W1 inv hnl hall => ⟨wanted_none rfl, ?_, rfl⟩)
                  have h57 : A1.eval (.tmp 57) = .pointer (some ⟨db, 0, none⟩) := inv.get hall 1 57 (by kernel_rfl) (by kernel_rfl) rfl
                  have gg := inv.s.box.cell 0
                  simp at gg
                  simp only [execOp, h57]
                  simp [go_sem, gg]
                · refine qstep_val (.slice (some ⟨b2, o2, none⟩) L.length uc) (by kernel_rfl) (by kernel_rfl) rfl (fun _ A1 W1 inv hnl hall => ⟨wanted_none rfl, ?_, rfl⟩)
                  have h3 : A1.eval (.tmp 3) = .slice (some ⟨b2, o2, none⟩) L.length uc := (inv.base 3 (by kernel_rfl)).trans rfl
                  simp only [execOp, h3, Sem.run_pure]
                · refine qstep_val (.int .i64 (k : Int)) (by kernel_rfl) (by kernel_rfl) rfl (fun _ A1 W1 inv hnl hall => ⟨wanted_none rfl, ?_, rfl⟩)
                  have h12 : A1.eval (.tmp 12) = .int .i64 (k : Int) := (inv.base 12 (by kernel_rfl)).trans rfl
                  simp only [execOp, h12, Sem.run_pure]
                · refine qstep_val (.pointer (some ⟨b2, o2 + k * 3, none⟩)) (by kernel_rfl) (by kernel_rfl) rfl (fun _ A1 W1 inv hnl hall => ⟨wanted_none rfl, ?_, rfl⟩)
                  have h59 : A1.eval (.tmp 59) = .slice (some ⟨b2, o2, none⟩) L.length uc := inv.get hall 3 59 (by kernel_rfl) (by kernel_rfl) rfl
                  have h60 : A1.eval (.tmp 60) = .int .i64 (k : Int) := inv.get hall 4 60 (by kernel_rfl) (by kernel_rfl) rfl
                  have hq := HKI.out
                  simp only [execOp, h59, h60]
                  simp [go_sem, hq]
                · refine qstep_val (.pointer (some ⟨b2, o2 + k * 3, none⟩)) (by kernel_rfl) (by kernel_rfl) rfl (fun _ A1 W1 inv hnl hall => ⟨wanted_none rfl, ?_, rfl⟩)
                  have h61 : A1.eval (.tmp 61) = .pointer (some ⟨b2, o2 + k * 3, none⟩) := inv.get hall 5 61 (by kernel_rfl) (by kernel_rfl) rfl
                  simp only [execOp, h61]
                  simp [go_sem]
                · refine qstep_val (.int .u64 sa) (by kernel_rfl) (by kernel_rfl) rfl (fun _ A1 W1 inv hnl hall => ⟨wanted_none rfl, ?_, rfl⟩)
                  have h62 : A1.eval (.tmp 62) = .pointer (some ⟨b2, o2 + k * 3, none⟩) := inv.get hall 6 62 (by kernel_rfl) (by kernel_rfl) rfl
                  have gg : W1.cell? ⟨b2, o2 + k * 3, none⟩ = some (.int .u64 sa) := (inv.s.old.cell HD1.out).trans HC0.out
                  simp only [execOp, h62]
                  simp [go_sem, gg]
                · refine qstep_val (.slice (some ⟨b2, o2, none⟩) L.length uc) (by kernel_rfl) (by kernel_rfl) rfl (fun _ A1 W1 inv hnl hall => ⟨wanted_none rfl, ?_, rfl⟩)
                  have h3 : A1.eval (.tmp 3) = .slice (some ⟨b2, o2, none⟩) L.length uc := (inv.base 3 (by kernel_rfl)).trans rfl
                  simp only [execOp, h3, Sem.run_pure]
                · refine qstep_val (.int .i64 (k : Int)) (by kernel_rfl) (by kernel_rfl) rfl (fun _ A1 W1 inv hnl hall => ⟨wanted_none rfl, ?_, rfl⟩)
                  have h12 : A1.eval (.tmp 12) = .int .i64 (k : Int) := (inv.base 12 (by kernel_rfl)).trans rfl
                  simp only [execOp, h12, Sem.run_pure]
                · refine qstep_val (.pointer (some ⟨b2, o2 + k * 3, none⟩)) (by kernel_rfl) (by kernel_rfl) rfl (fun _ A1 W1 inv hnl hall => ⟨wanted_none rfl, ?_, rfl⟩)
                  have h64 : A1.eval (.tmp 64) = .slice (some ⟨b2, o2, none⟩) L.length uc := inv.get hall 8 64 (by kernel_rfl) (by kernel_rfl) rfl
                  have h65 : A1.eval (.tmp 65) = .int .i64 (k : Int) := inv.get hall 9 65 (by kernel_rfl) (by kernel_rfl) rfl
                  have hq := HKI.out
                  simp only [execOp, h64, h65]
                  simp [go_sem, hq]
                · refine qstep_val (.pointer (some ⟨b2, o2 + k * 3 + 1, none⟩)) (by kernel_rfl) (by kernel_rfl) rfl (fun _ A1 W1 inv hnl hall => ⟨wanted_none rfl, ?_, rfl⟩)
                  have h66 : A1.eval (.tmp 66) = .pointer (some ⟨b2, o2 + k * 3, none⟩) := inv.get hall 10 66 (by kernel_rfl) (by kernel_rfl) rfl
                  simp only [execOp, h66]
                  simp [go_sem]
                · refine qstep_val (.int .u32 sn) (by kernel_rfl) (by kernel_rfl) rfl (fun _ A1 W1 inv hnl hall => ⟨wanted_none rfl, ?_, rfl⟩)
                  have h67 : A1.eval (.tmp 67) = .pointer (some ⟨b2, o2 + k * 3 + 1, none⟩) := inv.get hall 11 67 (by kernel_rfl) (by kernel_rfl) rfl
                  have gg : W1.cell? ⟨b2, o2 + k * 3 + 1, none⟩ = some (.int .u32 sn) := (inv.s.old.cell HD1.out).trans HC1.out
                  simp only [execOp, h67]
                  simp [go_sem, gg]
                · refine qstep_val (.int .i64 id) (by kernel_rfl) (by kernel_rfl) rfl (fun _ A1 W1 inv hnl hall => ⟨wanted_none rfl, ?_, rfl⟩)
                  have h2 : A1.eval (.tmp 2) = .int .i64 id := (inv.base 2 (by kernel_rfl)).trans rfl
                  simp only [execOp, h2, Sem.run_pure]
                · refine qstep_val (.int .u16 id) (by kernel_rfl) (by kernel_rfl) rfl (fun _ A1 W1 inv hnl hall => ⟨wanted_none rfl, ?_, rfl⟩)
                  have h69 : A1.eval (.tmp 69) = .int .i64 id := inv.get hall 13 69 (by kernel_rfl) (by kernel_rfl) rfl
                  simp only [execOp, h69]
                  simp [go_sem, HW16.out]
                · refine qstep_val (.int .u16 3) (by kernel_rfl) (by kernel_rfl) rfl (fun _ A1 W1 inv hnl hall => ⟨wanted_none rfl, ?_, rfl⟩)
                  have h13 : A1.eval (.tmp 13) = .int .u16 3 := (inv.base 13 (by kernel_rfl)).trans rfl
                  simp only [execOp, h13, Sem.run_pure]
                · refine qstep_val (.pointer (some ⟨db, 1, none⟩)) (by kernel_rfl) (by kernel_rfl) rfl (fun _ A1 W1 inv hnl hall => ⟨wanted_none rfl, ?_, rfl⟩)
                  have h4 : A1.eval (.tmp 4) = .pointer (some ⟨db, 0, none⟩) := (inv.base 4 (by kernel_rfl)).trans rfl
                  simp only [execOp, h4]
                  simp [go_sem]
                · refine qstep_val (.bool pw) (by kernel_rfl) (by kernel_rfl) rfl (fun _ A1 W1 inv hnl hall => ⟨wanted_none rfl, ?_, rfl⟩)
                  have h72 : A1.eval (.tmp 72) = .pointer (some ⟨db, 1, none⟩) := inv.get hall 16 72 (by kernel_rfl) (by kernel_rfl) rfl
                  have gg := inv.s.box.cell 1
                  simp at gg
                  simp only [execOp, h72]
                  simp [go_sem, gg]
                · refine qstep_call 47 (by kernel_rfl) _ _ (by kernel_rfl) (by kernel_rfl) rfl rfl (fun _ A1 W1 inv hnl hall => ⟨wanted_none rfl, #[.int .u16 3, .bool pw, .bool false], ?_, ?_⟩)
                  · have h71 : A1.eval (.tmp 71) = .int .u16 3 := inv.get hall 15 71 (by kernel_rfl) (by kernel_rfl) rfl
                    have h73 : A1.eval (.tmp 73) = .bool pw := inv.get hall 17 73 (by kernel_rfl) (by kernel_rfl) rfl
                    simp [h71, h73, eval_c2]
                  · refine (rmark_any 3 pw false _ (by decide)).mono ?_
                    rintro e u ⟨rfl, rfl⟩
                    exact ⟨_, rfl, rfl, Below.refl _ _⟩
                · refine qstep_val (.agg #[.int .u64 sa, .int .u32 sn, .int .u16 id, .int .u16 (markN 3 pw false : Nat)]) (by kernel_rfl) (by kernel_rfl) rfl (fun _ A1 W1 inv hnl hall => ⟨wanted_none rfl, ?_, rfl⟩)
                  have h63 : A1.eval (.tmp 63) = .int .u64 sa := inv.get hall 7 63 (by kernel_rfl) (by kernel_rfl) rfl
                  have h68 : A1.eval (.tmp 68) = .int .u32 sn := inv.get hall 12 68 (by kernel_rfl) (by kernel_rfl) rfl
                  have h70 : A1.eval (.tmp 70) = .int .u16 id := inv.get hall 14 70 (by kernel_rfl) (by kernel_rfl) rfl
                  have h74 : A1.eval (.tmp 74) = .int .u16 (markN 3 pw false : Nat) := inv.get hall 18 74 (by kernel_rfl) (by kernel_rfl) rfl
                  simp only [execOp, List.map_toArray, List.map_cons, List.map_nil, h63, h68, h70, h74]
                  simp [go_sem]
                · refine qstep_val (pV ⟨pa, ⟨sa, sn, id, (markN 3 pw false : Nat)⟩⟩) (by kernel_rfl) (by kernel_rfl) rfl (fun _ A1 W1 inv hnl hall => ⟨wanted_none rfl, ?_, rfl⟩)
                  have h58 : A1.eval (.tmp 58) = .int .i64 pa := inv.get hall 2 58 (by kernel_rfl) (by kernel_rfl) rfl
                  have h75 : A1.eval (.tmp 75) = .agg #[.int .u64 sa, .int .u32 sn, .int .u16 id, .int .u16 (markN 3 pw false : Nat)] := inv.get hall 19 75 (by kernel_rfl) (by kernel_rfl) rfl
                  simp only [execOp, List.map_toArray, List.map_cons, List.map_nil, h58, h75]
                  simp [go_sem]
                · refine qstep_run (by kernel_rfl) (by kernel_rfl) rfl (fun _ A1 W1 inv hnl hall => ⟨wanted_none rfl, ?_⟩)
                  have h76 : A1.eval (.tmp 76) = pV ⟨pa, ⟨sa, sn, id, (markN 3 pw false : Nat)⟩⟩ := inv.get hall 20 76 (by kernel_rfl) (by kernel_rfl) rfl
                  refine ⟨.slice (some ⟨W1.heap.size, 0, none⟩) 1 1, W1.alloc (.cells (ptCells [⟨pa, ⟨sa, sn, id, (markN 3 pw false : Nat)⟩⟩]).toArray 46), ?_, ⟨_, rfl, blk_new _ _ _⟩, below_box _ _⟩
                  simp only [execOp, List.map_toArray, List.map_cons, List.map_nil, h76]
                  simp [go_sem, ptCells]
                · refine qstep_own (by kernel_rfl) (by kernel_rfl) rfl (fun _ A1 W1 inv hnl hall => ⟨wanted_none rfl, ?_⟩)
                  have h56 : A1.eval (.tmp 56) = .slice ov k oc := inv.get hall 0 56 (by kernel_rfl) (by kernel_rfl) rfl
                  have h77 : (fun v W => ∃ l, v = .slice (some ⟨l, 0, none⟩) 1 1 ∧ BlkAt W l (ptCells [⟨pa, ⟨sa, sn, id, (markN 3 pw false : Nat)⟩⟩]) 46) (A1.eval (.tmp 77)) W1 := inv.get1 (i := 22) hnl hall 21 77 (by kernel_rfl) (by kernel_rfl) rfl
                  obtain ⟨l, hl, hb⟩ := h77
                  have hov := inv.pre1 (j := 22) hnl (List.mem_singleton.2 rfl) (Or.inl rfl)
                  obtain ⟨v', w', e1, e2, e3⟩ := app_pk ⟨pa, ⟨sa, sn, id, (markN 3 pw false : Nat)⟩⟩ hov hb.lt hb inv.s.old.size HTl.out
                  refine ⟨v', w', ?_, e2, e3⟩
                  simp only [execOp]
                  simp [resolve, invoke, builtin, h56, hl, e1, Result.andThen]
                · refine qstep_ex (by kernel_rfl) (by kernel_rfl) rfl (fun _ A1 W1 inv hnl hall => ⟨wanted_none rfl, ?_⟩)
                  have h78 : (fun v W => OwnPk w.heap.size W v ((pckL p n b id L).take k ++ [⟨pa, ⟨sa, sn, id, (markN 3 pw false : Nat)⟩⟩])) (A1.eval (.tmp 78)) W1 := inv.get hall 22 78 (by kernel_rfl) (by kernel_rfl) rfl
                  exact ⟨A1.eval (.tmp 78), by simp only [execOp, Sem.run_pure], h78⟩
              · intro listed A1 W1 inv hall
                have e56 : A1.eval (.tmp 56) = .slice ov k oc := inv.fin 0 56 (by kernel_rfl) (hall 0 (Nat.lt_of_lt_of_eq (by decide : 0 < 24) (by kernel_rfl))) rfl
                have e57 : A1.eval (.tmp 57) = .pointer (some ⟨db, 0, none⟩) := inv.fin 1 57 (by kernel_rfl) (hall 1 (Nat.lt_of_lt_of_eq (by decide : 1 < 24) (by kernel_rfl))) rfl
                have e58 : A1.eval (.tmp 58) = .int .i64 pa := inv.fin 2 58 (by kernel_rfl) (hall 2 (Nat.lt_of_lt_of_eq (by decide : 2 < 24) (by kernel_rfl))) rfl
                have e59 : A1.eval (.tmp 59) = .slice (some ⟨b2, o2, none⟩) L.length uc := inv.fin 3 59 (by kernel_rfl) (hall 3 (Nat.lt_of_lt_of_eq (by decide : 3 < 24) (by kernel_rfl))) rfl
                have e60 : A1.eval (.tmp 60) = .int .i64 (k : Int) := inv.fin 4 60 (by kernel_rfl) (hall 4 (Nat.lt_of_lt_of_eq (by decide : 4 < 24) (by kernel_rfl))) rfl
                have e61 : A1.eval (.tmp 61) = .pointer (some ⟨b2, o2 + k * 3, none⟩) := inv.fin 5 61 (by kernel_rfl) (hall 5 (Nat.lt_of_lt_of_eq (by decide : 5 < 24) (by kernel_rfl))) rfl
                have e62 : A1.eval (.tmp 62) = .pointer (some ⟨b2, o2 + k * 3, none⟩) := inv.fin 6 62 (by kernel_rfl) (hall 6 (Nat.lt_of_lt_of_eq (by decide : 6 < 24) (by kernel_rfl))) rfl
                have e63 : A1.eval (.tmp 63) = .int .u64 sa := inv.fin 7 63 (by kernel_rfl) (hall 7 (Nat.lt_of_lt_of_eq (by decide : 7 < 24) (by kernel_rfl))) rfl
                have e64 : A1.eval (.tmp 64) = .slice (some ⟨b2, o2, none⟩) L.length uc := inv.fin 8 64 (by kernel_rfl) (hall 8 (Nat.lt_of_lt_of_eq (by decide : 8 < 24) (by kernel_rfl))) rfl
                have e65 : A1.eval (.tmp 65) = .int .i64 (k : Int) := inv.fin 9 65 (by kernel_rfl) (hall 9 (Nat.lt_of_lt_of_eq (by decide : 9 < 24) (by kernel_rfl))) rfl
                have e66 : A1.eval (.tmp 66) = .pointer (some ⟨b2, o2 + k * 3, none⟩) := inv.fin 10 66 (by kernel_rfl) (hall 10 (Nat.lt_of_lt_of_eq (by decide : 10 < 24) (by kernel_rfl))) rfl
                have e67 : A1.eval (.tmp 67) = .pointer (some ⟨b2, o2 + k * 3 + 1, none⟩) := inv.fin 11 67 (by kernel_rfl) (hall 11 (Nat.lt_of_lt_of_eq (by decide : 11 < 24) (by kernel_rfl))) rfl
                have e68 : A1.eval (.tmp 68) = .int .u32 sn := inv.fin 12 68 (by kernel_rfl) (hall 12 (Nat.lt_of_lt_of_eq (by decide : 12 < 24) (by kernel_rfl))) rfl
                have e69 : A1.eval (.tmp 69) = .int .i64 id := inv.fin 13 69 (by kernel_rfl) (hall 13 (Nat.lt_of_lt_of_eq (by decide : 13 < 24) (by kernel_rfl))) rfl
                have e70 : A1.eval (.tmp 70) = .int .u16 id := inv.fin 14 70 (by kernel_rfl) (hall 14 (Nat.lt_of_lt_of_eq (by decide : 14 < 24) (by kernel_rfl))) rfl
                have e71 : A1.eval (.tmp 71) = .int .u16 3 := inv.fin 15 71 (by kernel_rfl) (hall 15 (Nat.lt_of_lt_of_eq (by decide : 15 < 24) (by kernel_rfl))) rfl
                have e72 : A1.eval (.tmp 72) = .pointer (some ⟨db, 1, none⟩) := inv.fin 16 72 (by kernel_rfl) (hall 16 (Nat.lt_of_lt_of_eq (by decide : 16 < 24) (by kernel_rfl))) rfl
                have e73 : A1.eval (.tmp 73) = .bool pw := inv.fin 17 73 (by kernel_rfl) (hall 17 (Nat.lt_of_lt_of_eq (by decide : 17 < 24) (by kernel_rfl))) rfl
                have e74 : A1.eval (.tmp 74) = .int .u16 (markN 3 pw false : Nat) := inv.fin 18 74 (by kernel_rfl) (hall 18 (Nat.lt_of_lt_of_eq (by decide : 18 < 24) (by kernel_rfl))) rfl
                have e75 : A1.eval (.tmp 75) = .agg #[.int .u64 sa, .int .u32 sn, .int .u16 id, .int .u16 (markN 3 pw false : Nat)] := inv.fin 19 75 (by kernel_rfl) (hall 19 (Nat.lt_of_lt_of_eq (by decide : 19 < 24) (by kernel_rfl))) rfl
                have e76 : A1.eval (.tmp 76) = pV ⟨pa, ⟨sa, sn, id, (markN 3 pw false : Nat)⟩⟩ := inv.fin 20 76 (by kernel_rfl) (hall 20 (Nat.lt_of_lt_of_eq (by decide : 20 < 24) (by kernel_rfl))) rfl
                obtain ⟨v77, e77⟩ : ∃ v, A1.eval (.tmp 77) = v := ⟨_, rfl⟩
                have p78 : (fun v W => OwnPk w.heap.size W v ((pckL p n b id L).take k ++ [⟨pa, ⟨sa, sn, id, (markN 3 pw false : Nat)⟩⟩])) (A1.eval (.tmp 78)) W1 := inv.fin 22 78 (by kernel_rfl) (hall 22 (Nat.lt_of_lt_of_eq (by decide : 22 < 24) (by kernel_rfl))) rfl
                obtain ⟨v78, e78⟩ : ∃ v, A1.eval (.tmp 78) = v := ⟨_, rfl⟩
                rw [e78] at p78
                have p11 : (fun v W => OwnPk w.heap.size W v ((pckL p n b id L).take k ++ [⟨pa, ⟨sa, sn, id, (markN 3 pw false : Nat)⟩⟩])) (A1.eval (.tmp 11)) W1 := inv.fin 23 11 (by kernel_rfl) (hall 23 (Nat.lt_of_lt_of_eq (by decide : 23 < 24) (by kernel_rfl))) rfl
                obtain ⟨v11, e11⟩ : ∃ v, A1.eval (.tmp 11) = v := ⟨_, rfl⟩
                rw [e11] at p11
                have HF := inv.frame hall
                have HS9 := hid_mk inv.s
                simp only [putEnd, e56, e57, e58, e59, e60, e61, e62, e63, e64, e65, e66, e67, e68, e69, e70, e71, e72, e73, e74, e75, e76, e77, e78, e11, Act.put, List.setIfInBounds_toArray, List.set_cons_succ, List.set_cons_zero] at HF
                clear e56 e57 e58 e59 e60 e61 e62 e63 e64 e65 e66 e67 e68 e69 e70 e71 e72 e73 e74 e75 e76 e77 e78 e11 inv hall
                subst HF
                rw [← HT3.out] at p11
                obtain ⟨sv, sc, hsv⟩ := own_len p11
                rw [show ((pckL p n b id L).take (k + 1)).length = k + 1 by rw [List.length_take, pckL_len]; have := HLT.out; omega] at hsv
                subst hsv
                have HP9 := hid_mk p11
                have HQ9 := hid_mk HS9.out
                obtain ⟨l9, x0, x1, f0, f1⟩ := HQ9.out.box.five
                clear HS9 p11
                go_wp2_with fail
                refine (HG.out _).mono ?_
                rintro e w3 ⟨rfl, hb⟩
                have HX3 := hid_mk (HQ9.out.box.below hb)
                have HO3 := hid_mk (below_then HQ9.out.old hb)
                have HP3 := hid_mk (HP9.out.below hb)
                clear hb l9 x0 x1 f0 f1
                obtain ⟨l9, x0, x1, f0, f1⟩ := HX3.out.five
                go_wp2_with fail
                go_roundw
                case rel => exact ⟨k + 1, by have := HLT.out; omega, by simp, hid_mk ((HP3.out.setCell (i := 0) HX3.out _).setCell (i := 1) (HX3.out.set 0 _) _), hid_mk ((HX3.out.set 0 _).set 1 _), hid_mk ((HO3.out.setCell HDb.out _).setCell HDb.out _)⟩
                case measure => simp [intOf]; have := HLT.out; omega
          · rw [show nxB L k = false from decide_eq_false hnxt] at HT3
            cases st
            · have hnx : decide ((k : Int) + 1 < (L.length : Int)) = false := decide_eq_false (by omega)
              go_wp2_with fail
              rw [show flgN false false = 0 from rfl] at HT3
              refine wp_region_outl3 0 [(22, GrT (.slice ov k oc))] [(21, 22)] [(22, fun W => OwnPk w.heap.size W (.slice ov k oc) ((pckL p n b id L).take k))]
                  [(fun v _ => v = .slice ov k oc),
                  (fun v _ => v = .pointer (some ⟨db, 0, none⟩)),
                  (fun v _ => v = .int .i64 pa),
                  (fun v _ => v = .slice (some ⟨b2, o2, none⟩) L.length uc),
                  (fun v _ => v = .int .i64 (k : Int)),
                  (fun v _ => v = .pointer (some ⟨b2, o2 + k * 3, none⟩)),
                  (fun v _ => v = .pointer (some ⟨b2, o2 + k * 3, none⟩)),
                  (fun v _ => v = .int .u64 sa),
                  (fun v _ => v = .slice (some ⟨b2, o2, none⟩) L.length uc),
                  (fun v _ => v = .int .i64 (k : Int)),
                  (fun v _ => v = .pointer (some ⟨b2, o2 + k * 3, none⟩)),
                  (fun v _ => v = .pointer (some ⟨b2, o2 + k * 3 + 1, none⟩)),
                  (fun v _ => v = .int .u32 sn),
                  (fun v _ => v = .int .i64 id),
                  (fun v _ => v = .int .u16 id),
                  (fun v _ => v = .int .u16 0),
                  (fun v _ => v = .pointer (some ⟨db, 1, none⟩)),
                  (fun v _ => v = .bool pw),
                  (fun v _ => v = .int .u16 (markN 0 pw false : Nat)),
                  (fun v _ => v = .agg #[.int .u64 sa, .int .u32 sn, .int .u16 id, .int .u16 (markN 0 pw false : Nat)]),
                  (fun v _ => v = pV ⟨pa, ⟨sa, sn, id, (markN 0 pw false : Nat)⟩⟩),
                  (fun v W => ∃ l, v = .slice (some ⟨l, 0, none⟩) 1 1 ∧ BlkAt W l (ptCells [⟨pa, ⟨sa, sn, id, (markN 0 pw false : Nat)⟩⟩]) 46),
                  (fun v W => OwnPk w.heap.size W v ((pckL p n b id L).take k ++ [⟨pa, ⟨sa, sn, id, (markN 0 pw false : Nat)⟩⟩])),
                  (fun v W => OwnPk w.heap.size W v ((pckL p n b id L).take k ++ [⟨pa, ⟨sa, sn, id, (markN 0 pw false : Nat)⟩⟩]))]
                  (ApQ w db pa pw) (by kernel_rfl) (by kernel_rfl) (by kernel_rfl) ?_ (fun u u' hb h => h.below hb) (HAp.out) ?_ ?_ ?_ ?_ ?_
              · refine And.intro (up_eq _) ?_
                refine And.intro (up_eq _) ?_
                refine And.intro (up_eq _) ?_
                refine And.intro (up_eq _) ?_
                refine And.intro (up_eq _) ?_
                refine And.intro (up_eq _) ?_
                refine And.intro (up_eq _) ?_
                refine And.intro (up_eq _) ?_
                refine And.intro (up_eq _) ?_
                refine And.intro (up_eq _) ?_
                refine And.intro (up_eq _) ?_
                refine And.intro (up_eq _) ?_
                refine And.intro (up_eq _) ?_
                refine And.intro (up_eq _) ?_
                refine And.intro (up_eq _) ?_
                refine And.intro (up_eq _) ?_
                refine And.intro (up_eq _) ?_
                refine And.intro (up_eq _) ?_
                refine And.intro (up_eq _) ?_
                refine And.intro (up_eq _) ?_
                refine And.intro (up_eq _) ?_
                refine And.intro (fun v W W' hb h => by obtain ⟨l, e, h⟩ := h; exact ⟨l, e, h.below hb⟩) ?_
                refine And.intro (fun v W W' hb h => h.below hb) ?_
                refine And.intro (fun v W W' hb h => h.below hb) ?_
                trivial
              · refine And.intro (And.intro (fun u u' hb h => h.below hb) (fun p hp hne u u' ht h => absurd (by rw [List.mem_singleton] at hp; rw [hp]) hne)) ?_
                trivial
              · refine And.intro (hown.out.below (Below.refl _ _).drew) ?_
                trivial
              · refine And.intro (And.intro ?_ (fun u u' hg h => h.gr hg HOb.out)) ?_
                · refine And.intro (fun _ _ _ => ch_eq _ _) ?_
                  refine And.intro (fun _ _ _ => ch_eq _ _) ?_
                  refine And.intro (fun _ _ _ => ch_eq _ _) ?_
                  refine And.intro (fun _ _ _ => ch_eq _ _) ?_
                  refine And.intro (fun _ _ _ => ch_eq _ _) ?_
                  refine And.intro (fun _ _ _ => ch_eq _ _) ?_
                  refine And.intro (fun _ _ _ => ch_eq _ _) ?_
                  refine And.intro (fun _ _ _ => ch_eq _ _) ?_
                  refine And.intro (fun _ _ _ => ch_eq _ _) ?_
                  refine And.intro (fun _ _ _ => ch_eq _ _) ?_
                  refine And.intro (fun _ _ _ => ch_eq _ _) ?_
                  refine And.intro (fun _ _ _ => ch_eq _ _) ?_
                  refine And.intro (fun _ _ _ => ch_eq _ _) ?_
                  refine And.intro (fun _ _ _ => ch_eq _ _) ?_
                  refine And.intro (fun _ _ _ => ch_eq _ _) ?_
                  refine And.intro (fun _ _ _ => ch_eq _ _) ?_
                  refine And.intro (fun _ _ _ => ch_eq _ _) ?_
                  refine And.intro (fun _ _ _ => ch_eq _ _) ?_
                  refine And.intro (fun _ _ _ => ch_eq _ _) ?_
                  refine And.intro (fun _ _ _ => ch_eq _ _) ?_
                  refine And.intro (fun _ _ _ => ch_eq _ _) ?_
                  refine And.intro (fun _ h _ => absurd rfl h) ?_
                  refine And.intro (fun h _ _ => absurd rfl h) ?_
                  refine And.intro (fun _ _ h => late_absurd (by kernel_rfl) h) ?_
                  trivial
                trivial
              · refine And.intro ?_ (And.intro ?_ (And.intro ?_ (And.intro ?_ (And.intro ?_ (And.intro ?_ (And.intro ?_ (And.intro ?_ (And.intro ?_ (And.intro ?_ (And.intro ?_ (And.intro ?_ (And.intro ?_ (And.intro ?_ (And.intro ?_ (And.intro ?_ (And.intro ?_ (And.intro ?_ (And.intro ?_ (And.intro ?_ (And.intro ?_ (And.intro ?_ (And.intro ?_ (And.intro ?_ (True.intro))))))))))))))))))))))))
                · refine qstep_val (.slice ov k oc) (by kernel_rfl) (by kernel_rfl) rfl (fun _ A1 W1 inv hnl hall => ⟨wanted_none rfl, ?_, rfl⟩)
                  have h11 : A1.eval (.tmp 11) = .slice ov k oc := (inv.base1 hnl 11 (by kernel_rfl)).trans rfl
                  simp only [execOp, h11, Sem.run_pure]
                · refine qstep_val (.pointer (some ⟨db, 0, none⟩)) (by kernel_rfl) (by kernel_rfl) rfl (fun _ A1 W1 inv hnl hall => ⟨wanted_none rfl, ?_, rfl⟩)
                  have h4 : A1.eval (.tmp 4) = .pointer (some ⟨db, 0, none⟩) := (inv.base 4 (by kernel_rfl)).trans rfl
                  simp only [execOp, h4]
                  simp [go_sem]
                · refine qstep_val (.int .i64 pa) (by kernel_rfl) (by kernel_rfl) rfl (fun _ A1 W1 inv hnl hall => ⟨wanted_none rfl, ?_, rfl⟩)
                  have h57 : A1.eval (.tmp 57) = .pointer (some ⟨db, 0, none⟩) := inv.get hall 1 57 (by kernel_rfl) (by kernel_rfl) rfl
                  have gg := inv.s.box.cell 0
                  simp at gg
                  simp only [execOp, h57]
                  simp [go_sem, gg]
                · refine qstep_val (.slice (some ⟨b2, o2, none⟩) L.length uc) (by kernel_rfl) (by kernel_rfl) rfl (fun _ A1 W1 inv hnl hall => ⟨wanted_none rfl, ?_, rfl⟩)
                  have h3 : A1.eval (.tmp 3) = .slice (some ⟨b2, o2, none⟩) L.length uc := (inv.base 3 (by kernel_rfl)).trans rfl
                  simp only [execOp, h3, Sem.run_pure]
                · refine qstep_val (.int .i64 (k : Int)) (by kernel_rfl) (by kernel_rfl) rfl (fun _ A1 W1 inv hnl hall => ⟨wanted_none rfl, ?_, rfl⟩)
                  have h12 : A1.eval (.tmp 12) = .int .i64 (k : Int) := (inv.base 12 (by kernel_rfl)).trans rfl
                  simp only [execOp, h12, Sem.run_pure]
                · refine qstep_val (.pointer (some ⟨b2, o2 + k * 3, none⟩)) (by kernel_rfl) (by kernel_rfl) rfl (fun _ A1 W1 inv hnl hall => ⟨wanted_none rfl, ?_, rfl⟩)
                  have h59 : A1.eval (.tmp 59) = .slice (some ⟨b2, o2, none⟩) L.length uc := inv.get hall 3 59 (by kernel_rfl) (by kernel_rfl) rfl
                  have h60 : A1.eval (.tmp 60) = .int .i64 (k : Int) := inv.get hall 4 60 (by kernel_rfl) (by kernel_rfl) rfl
                  have hq := HKI.out
                  simp only [execOp, h59, h60]
                  simp [go_sem, hq]
                · refine qstep_val (.pointer (some ⟨b2, o2 + k * 3, none⟩)) (by kernel_rfl) (by kernel_rfl) rfl (fun _ A1 W1 inv hnl hall => ⟨wanted_none rfl, ?_, rfl⟩)
                  have h61 : A1.eval (.tmp 61) = .pointer (some ⟨b2, o2 + k * 3, none⟩) := inv.get hall 5 61 (by kernel_rfl) (by kernel_rfl) rfl
                  simp only [execOp, h61]
                  simp [go_sem]
                · refine qstep_val (.int .u64 sa) (by kernel_rfl) (by kernel_rfl) rfl (fun _ A1 W1 inv hnl hall => ⟨wanted_none rfl, ?_, rfl⟩)
                  have h62 : A1.eval (.tmp 62) = .pointer (some ⟨b2, o2 + k * 3, none⟩) := inv.get hall 6 62 (by kernel_rfl) (by kernel_rfl) rfl
                  have gg : W1.cell? ⟨b2, o2 + k * 3, none⟩ = some (.int .u64 sa) := (inv.s.old.cell HD1.out).trans HC0.out
                  simp only [execOp, h62]
                  simp [go_sem, gg]
                · refine qstep_val (.slice (some ⟨b2, o2, none⟩) L.length uc) (by kernel_rfl) (by kernel_rfl) rfl (fun _ A1 W1 inv hnl hall => ⟨wanted_none rfl, ?_, rfl⟩)
                  have h3 : A1.eval (.tmp 3) = .slice (some ⟨b2, o2, none⟩) L.length uc := (inv.base 3 (by kernel_rfl)).trans rfl
                  simp only [execOp, h3, Sem.run_pure]
                · refine qstep_val (.int .i64 (k : Int)) (by kernel_rfl) (by kernel_rfl) rfl (fun _ A1 W1 inv hnl hall => ⟨wanted_none rfl, ?_, rfl⟩)
                  have h12 : A1.eval (.tmp 12) = .int .i64 (k : Int) := (inv.base 12 (by kernel_rfl)).trans rfl
                  simp only [execOp, h12, Sem.run_pure]
                · refine qstep_val (.pointer (some ⟨b2, o2 + k * 3, none⟩)) (by kernel_rfl) (by kernel_rfl) rfl (fun _ A1 W1 inv hnl hall => ⟨wanted_none rfl, ?_, rfl⟩)
                  have h64 : A1.eval (.tmp 64) = .slice (some ⟨b2, o2, none⟩) L.length uc := inv.get hall 8 64 (by kernel_rfl) (by kernel_rfl) rfl
                  have h65 : A1.eval (.tmp 65) = .int .i64 (k : Int) := inv.get hall 9 65 (by kernel_rfl) (by kernel_rfl) rfl
                  have hq := HKI.out
                  simp only [execOp, h64, h65]
                  simp [go_sem, hq]
                · refine qstep_val (.pointer (some ⟨b2, o2 + k * 3 + 1, none⟩)) (by kernel_rfl) (by kernel_rfl) rfl (fun _ A1 W1 inv hnl hall => ⟨wanted_none rfl, ?_, rfl⟩)
                  have h66 : A1.eval (.tmp 66) = .pointer (some ⟨b2, o2 + k * 3, none⟩) := inv.get hall 10 66 (by kernel_rfl) (by kernel_rfl) rfl
                  simp only [execOp, h66]
                  simp [go_sem]
                · refine qstep_val (.int .u32 sn) (by kernel_rfl) (by kernel_rfl) rfl (fun _ A1 W1 inv hnl hall => ⟨wanted_none rfl, ?_, rfl⟩)
                  have h67 : A1.eval (.tmp 67) = .pointer (some ⟨b2, o2 + k * 3 + 1, none⟩) := inv.get hall 11 67 (by kernel_rfl) (by kernel_rfl) rfl
                  have gg : W1.cell? ⟨b2, o2 + k * 3 + 1, none⟩ = some (.int .u32 sn) := (inv.s.old.cell HD1.out).trans HC1.out
                  simp only [execOp, h67]
                  simp [go_sem, gg]
                · refine qstep_val (.int .i64 id) (by kernel_rfl) (by kernel_rfl) rfl (fun _ A1 W1 inv hnl hall => ⟨wanted_none rfl, ?_, rfl⟩)
                  have h2 : A1.eval (.tmp 2) = .int .i64 id := (inv.base 2 (by kernel_rfl)).trans rfl
                  simp only [execOp, h2, Sem.run_pure]
                · refine qstep_val (.int .u16 id) (by kernel_rfl) (by kernel_rfl) rfl (fun _ A1 W1 inv hnl hall => ⟨wanted_none rfl, ?_, rfl⟩)
                  have h69 : A1.eval (.tmp 69) = .int .i64 id := inv.get hall 13 69 (by kernel_rfl) (by kernel_rfl) rfl
                  simp only [execOp, h69]
                  simp [go_sem, HW16.out]
                · refine qstep_val (.int .u16 0) (by kernel_rfl) (by kernel_rfl) rfl (fun _ A1 W1 inv hnl hall => ⟨wanted_none rfl, ?_, rfl⟩)
                  have h13 : A1.eval (.tmp 13) = .int .u16 0 := (inv.base 13 (by kernel_rfl)).trans rfl
                  simp only [execOp, h13, Sem.run_pure]
                · refine qstep_val (.pointer (some ⟨db, 1, none⟩)) (by kernel_rfl) (by kernel_rfl) rfl (fun _ A1 W1 inv hnl hall => ⟨wanted_none rfl, ?_, rfl⟩)
                  have h4 : A1.eval (.tmp 4) = .pointer (some ⟨db, 0, none⟩) := (inv.base 4 (by kernel_rfl)).trans rfl
                  simp only [execOp, h4]
                  simp [go_sem]
                · refine qstep_val (.bool pw) (by kernel_rfl) (by kernel_rfl) rfl (fun _ A1 W1 inv hnl hall => ⟨wanted_none rfl, ?_, rfl⟩)
                  have h72 : A1.eval (.tmp 72) = .pointer (some ⟨db, 1, none⟩) := inv.get hall 16 72 (by kernel_rfl) (by kernel_rfl) rfl
                  have gg := inv.s.box.cell 1
                  simp at gg
                  simp only [execOp, h72]
                  simp [go_sem, gg]
                · refine qstep_call 47 (by kernel_rfl) _ _ (by kernel_rfl) (by kernel_rfl) rfl rfl (fun _ A1 W1 inv hnl hall => ⟨wanted_none rfl, #[.int .u16 0, .bool pw, .bool false], ?_, ?_⟩)
                  · have h71 : A1.eval (.tmp 71) = .int .u16 0 := inv.get hall 15 71 (by kernel_rfl) (by kernel_rfl) rfl
                    have h73 : A1.eval (.tmp 73) = .bool pw := inv.get hall 17 73 (by kernel_rfl) (by kernel_rfl) rfl
                    simp [h71, h73, eval_c2]
                  · refine (rmark_any 0 pw false _ (by decide)).mono ?_
                    rintro e u ⟨rfl, rfl⟩
                    exact ⟨_, rfl, rfl, Below.refl _ _⟩
                · refine qstep_val (.agg #[.int .u64 sa, .int .u32 sn, .int .u16 id, .int .u16 (markN 0 pw false : Nat)]) (by kernel_rfl) (by kernel_rfl) rfl (fun _ A1 W1 inv hnl hall => ⟨wanted_none rfl, ?_, rfl⟩)
                  have h63 : A1.eval (.tmp 63) = .int .u64 sa := inv.get hall 7 63 (by kernel_rfl) (by kernel_rfl) rfl
                  have h68 : A1.eval (.tmp 68) = .int .u32 sn := inv.get hall 12 68 (by kernel_rfl) (by kernel_rfl) rfl
                  have h70 : A1.eval (.tmp 70) = .int .u16 id := inv.get hall 14 70 (by kernel_rfl) (by kernel_rfl) rfl
                  have h74 : A1.eval (.tmp 74) = .int .u16 (markN 0 pw false : Nat) := inv.get hall 18 74 (by kernel_rfl) (by kernel_rfl) rfl
                  simp only [execOp, List.map_toArray, List.map_cons, List.map_nil, h63, h68, h70, h74]
                  simp [go_sem]
                · refine qstep_val (pV ⟨pa, ⟨sa, sn, id, (markN 0 pw false : Nat)⟩⟩) (by kernel_rfl) (by kernel_rfl) rfl (fun _ A1 W1 inv hnl hall => ⟨wanted_none rfl, ?_, rfl⟩)
                  have h58 : A1.eval (.tmp 58) = .int .i64 pa := inv.get hall 2 58 (by kernel_rfl) (by kernel_rfl) rfl
                  have h75 : A1.eval (.tmp 75) = .agg #[.int .u64 sa, .int .u32 sn, .int .u16 id, .int .u16 (markN 0 pw false : Nat)] := inv.get hall 19 75 (by kernel_rfl) (by kernel_rfl) rfl
                  simp only [execOp, List.map_toArray, List.map_cons, List.map_nil, h58, h75]
                  simp [go_sem]
                · refine qstep_run (by kernel_rfl) (by kernel_rfl) rfl (fun _ A1 W1 inv hnl hall => ⟨wanted_none rfl, ?_⟩)
                  have h76 : A1.eval (.tmp 76) = pV ⟨pa, ⟨sa, sn, id, (markN 0 pw false : Nat)⟩⟩ := inv.get hall 20 76 (by kernel_rfl) (by kernel_rfl) rfl
                  refine ⟨.slice (some ⟨W1.heap.size, 0, none⟩) 1 1, W1.alloc (.cells (ptCells [⟨pa, ⟨sa, sn, id, (markN 0 pw false : Nat)⟩⟩]).toArray 46), ?_, ⟨_, rfl, blk_new _ _ _⟩, below_box _ _⟩
                  simp only [execOp, List.map_toArray, List.map_cons, List.map_nil, h76]
                  simp [go_sem, ptCells]
                · refine qstep_own (by kernel_rfl) (by kernel_rfl) rfl (fun _ A1 W1 inv hnl hall => ⟨wanted_none rfl, ?_⟩)
                  have h56 : A1.eval (.tmp 56) = .slice ov k oc := inv.get hall 0 56 (by kernel_rfl) (by kernel_rfl) rfl
                  have h77 : (fun v W => ∃ l, v = .slice (some ⟨l, 0, none⟩) 1 1 ∧ BlkAt W l (ptCells [⟨pa, ⟨sa, sn, id, (markN 0 pw false : Nat)⟩⟩]) 46) (A1.eval (.tmp 77)) W1 := inv.get1 (i := 22) hnl hall 21 77 (by kernel_rfl) (by kernel_rfl) rfl
                  obtain ⟨l, hl, hb⟩ := h77
                  have hov := inv.pre1 (j := 22) hnl (List.mem_singleton.2 rfl) (Or.inl rfl)
                  obtain ⟨v', w', e1, e2, e3⟩ := app_pk ⟨pa, ⟨sa, sn, id, (markN 0 pw false : Nat)⟩⟩ hov hb.lt hb inv.s.old.size HTl.out
                  refine ⟨v', w', ?_, e2, e3⟩
                  simp only [execOp]
                  simp [resolve, invoke, builtin, h56, hl, e1, Result.andThen]
                · refine qstep_ex (by kernel_rfl) (by kernel_rfl) rfl (fun _ A1 W1 inv hnl hall => ⟨wanted_none rfl, ?_⟩)
                  have h78 : (fun v W => OwnPk w.heap.size W v ((pckL p n b id L).take k ++ [⟨pa, ⟨sa, sn, id, (markN 0 pw false : Nat)⟩⟩])) (A1.eval (.tmp 78)) W1 := inv.get hall 22 78 (by kernel_rfl) (by kernel_rfl) rfl
                  exact ⟨A1.eval (.tmp 78), by simp only [execOp, Sem.run_pure], h78⟩
              · intro listed A1 W1 inv hall
                have e56 : A1.eval (.tmp 56) = .slice ov k oc := inv.fin 0 56 (by kernel_rfl) (hall 0 (Nat.lt_of_lt_of_eq (by decide : 0 < 24) (by kernel_rfl))) rfl
                have e57 : A1.eval (.tmp 57) = .pointer (some ⟨db, 0, none⟩) := inv.fin 1 57 (by kernel_rfl) (hall 1 (Nat.lt_of_lt_of_eq (by decide : 1 < 24) (by kernel_rfl))) rfl
                have e58 : A1.eval (.tmp 58) = .int .i64 pa := inv.fin 2 58 (by kernel_rfl) (hall 2 (Nat.lt_of_lt_of_eq (by decide : 2 < 24) (by kernel_rfl))) rfl
                have e59 : A1.eval (.tmp 59) = .slice (some ⟨b2, o2, none⟩) L.length uc := inv.fin 3 59 (by kernel_rfl) (hall 3 (Nat.lt_of_lt_of_eq (by decide : 3 < 24) (by kernel_rfl))) rfl
                have e60 : A1.eval (.tmp 60) = .int .i64 (k : Int) := inv.fin 4 60 (by kernel_rfl) (hall 4 (Nat.lt_of_lt_of_eq (by decide : 4 < 24) (by kernel_rfl))) rfl
                have e61 : A1.eval (.tmp 61) = .pointer (some ⟨b2, o2 + k * 3, none⟩) := inv.fin 5 61 (by kernel_rfl) (hall 5 (Nat.lt_of_lt_of_eq (by decide : 5 < 24) (by kernel_rfl))) rfl
                have e62 : A1.eval (.tmp 62) = .pointer (some ⟨b2, o2 + k * 3, none⟩) := inv.fin 6 62 (by kernel_rfl) (hall 6 (Nat.lt_of_lt_of_eq (by decide : 6 < 24) (by kernel_rfl))) rfl
                have e63 : A1.eval (.tmp 63) = .int .u64 sa := inv.fin 7 63 (by kernel_rfl) (hall 7 (Nat.lt_of_lt_of_eq (by decide : 7 < 24) (by kernel_rfl))) rfl
                have e64 : A1.eval (.tmp 64) = .slice (some ⟨b2, o2, none⟩) L.length uc := inv.fin 8 64 (by kernel_rfl) (hall 8 (Nat.lt_of_lt_of_eq (by decide : 8 < 24) (by kernel_rfl))) rfl
                have e65 : A1.eval (.tmp 65) = .int .i64 (k : Int) := inv.fin 9 65 (by kernel_rfl) (hall 9 (Nat.lt_of_lt_of_eq (by decide : 9 < 24) (by kernel_rfl))) rfl
                have e66 : A1.eval (.tmp 66) = .pointer (some ⟨b2, o2 + k * 3, none⟩) := inv.fin 10 66 (by kernel_rfl) (hall 10 (Nat.lt_of_lt_of_eq (by decide : 10 < 24) (by kernel_rfl))) rfl
                have e67 : A1.eval (.tmp 67) = .pointer (some ⟨b2, o2 + k * 3 + 1, none⟩) := inv.fin 11 67 (by kernel_rfl) (hall 11 (Nat.lt_of_lt_of_eq (by decide : 11 < 24) (by kernel_rfl))) rfl
                have e68 : A1.eval (.tmp 68) = .int .u32 sn := inv.fin 12 68 (by kernel_rfl) (hall 12 (Nat.lt_of_lt_of_eq (by decide : 12 < 24) (by kernel_rfl))) rfl
                have e69 : A1.eval (.tmp 69) = .int .i64 id := inv.fin 13 69 (by kernel_rfl) (hall 13 (Nat.lt_of_lt_of_eq (by decide : 13 < 24) (by kernel_rfl))) rfl
                have e70 : A1.eval (.tmp 70) = .int .u16 id := inv.fin 14 70 (by kernel_rfl) (hall 14 (Nat.lt_of_lt_of_eq (by decide : 14 < 24) (by kernel_rfl))) rfl
                have e71 : A1.eval (.tmp 71) = .int .u16 0 := inv.fin 15 71 (by kernel_rfl) (hall 15 (Nat.lt_of_lt_of_eq (by decide : 15 < 24) (by kernel_rfl))) rfl
                have e72 : A1.eval (.tmp 72) = .pointer (some ⟨db, 1, none⟩) := inv.fin 16 72 (by kernel_rfl) (hall 16 (Nat.lt_of_lt_of_eq (by decide : 16 < 24) (by kernel_rfl))) rfl
                have e73 : A1.eval (.tmp 73) = .bool pw := inv.fin 17 73 (by kernel_rfl) (hall 17 (Nat.lt_of_lt_of_eq (by decide : 17 < 24) (by kernel_rfl))) rfl
                have e74 : A1.eval (.tmp 74) = .int .u16 (markN 0 pw false : Nat) := inv.fin 18 74 (by kernel_rfl) (hall 18 (Nat.lt_of_lt_of_eq (by decide : 18 < 24) (by kernel_rfl))) rfl
                have e75 : A1.eval (.tmp 75) = .agg #[.int .u64 sa, .int .u32 sn, .int .u16 id, .int .u16 (markN 0 pw false : Nat)] := inv.fin 19 75 (by kernel_rfl) (hall 19 (Nat.lt_of_lt_of_eq (by decide : 19 < 24) (by kernel_rfl))) rfl
                have e76 : A1.eval (.tmp 76) = pV ⟨pa, ⟨sa, sn, id, (markN 0 pw false : Nat)⟩⟩ := inv.fin 20 76 (by kernel_rfl) (hall 20 (Nat.lt_of_lt_of_eq (by decide : 20 < 24) (by kernel_rfl))) rfl
                obtain ⟨v77, e77⟩ : ∃ v, A1.eval (.tmp 77) = v := ⟨_, rfl⟩
                have p78 : (fun v W => OwnPk w.heap.size W v ((pckL p n b id L).take k ++ [⟨pa, ⟨sa, sn, id, (markN 0 pw false : Nat)⟩⟩])) (A1.eval (.tmp 78)) W1 := inv.fin 22 78 (by kernel_rfl) (hall 22 (Nat.lt_of_lt_of_eq (by decide : 22 < 24) (by kernel_rfl))) rfl
                obtain ⟨v78, e78⟩ : ∃ v, A1.eval (.tmp 78) = v := ⟨_, rfl⟩
                rw [e78] at p78
                have p11 : (fun v W => OwnPk w.heap.size W v ((pckL p n b id L).take k ++ [⟨pa, ⟨sa, sn, id, (markN 0 pw false : Nat)⟩⟩])) (A1.eval (.tmp 11)) W1 := inv.fin 23 11 (by kernel_rfl) (hall 23 (Nat.lt_of_lt_of_eq (by decide : 23 < 24) (by kernel_rfl))) rfl
                obtain ⟨v11, e11⟩ : ∃ v, A1.eval (.tmp 11) = v := ⟨_, rfl⟩
                rw [e11] at p11
                have HF := inv.frame hall
                have HS9 := hid_mk inv.s
                simp only [putEnd, e56, e57, e58, e59, e60, e61, e62, e63, e64, e65, e66, e67, e68, e69, e70, e71, e72, e73, e74, e75, e76, e77, e78, e11, Act.put, List.setIfInBounds_toArray, List.set_cons_succ, List.set_cons_zero] at HF
                clear e56 e57 e58 e59 e60 e61 e62 e63 e64 e65 e66 e67 e68 e69 e70 e71 e72 e73 e74 e75 e76 e77 e78 e11 inv hall
                subst HF
                rw [← HT3.out] at p11
                obtain ⟨sv, sc, hsv⟩ := own_len p11
                rw [show ((pckL p n b id L).take (k + 1)).length = k + 1 by rw [List.length_take, pckL_len]; have := HLT.out; omega] at hsv
                subst hsv
                have HP9 := hid_mk p11
                have HQ9 := hid_mk HS9.out
                obtain ⟨l9, x0, x1, f0, f1⟩ := HQ9.out.box.five
                clear HS9 p11
                go_wp2_with fail
                refine (HG.out _).mono ?_
                rintro e w3 ⟨rfl, hb⟩
                have HX3 := hid_mk (HQ9.out.box.below hb)
                have HO3 := hid_mk (below_then HQ9.out.old hb)
                have HP3 := hid_mk (HP9.out.below hb)
                clear hb l9 x0 x1 f0 f1
                obtain ⟨l9, x0, x1, f0, f1⟩ := HX3.out.five
                go_wp2_with fail
                go_roundw
                case rel => exact ⟨k + 1, by have := HLT.out; omega, by simp, hid_mk ((HP3.out.setCell (i := 0) HX3.out _).setCell (i := 1) (HX3.out.set 0 _) _), hid_mk ((HX3.out.set 0 _).set 1 _), hid_mk ((HO3.out.setCell HDb.out _).setCell HDb.out _)⟩
                case measure => simp [intOf]; have := HLT.out; omega
            · have hnx : decide ((k : Int) + 1 < (L.length : Int)) = false := decide_eq_false (by omega)
              go_wp2_with fail
              rw [show flgN true false = 2 from rfl] at HT3
              refine wp_region_outl3 0 [(22, GrT (.slice ov k oc))] [(21, 22)] [(22, fun W => OwnPk w.heap.size W (.slice ov k oc) ((pckL p n b id L).take k))]
                  [(fun v _ => v = .slice ov k oc),
                  (fun v _ => v = .pointer (some ⟨db, 0, none⟩)),
                  (fun v _ => v = .int .i64 pa),
                  (fun v _ => v = .slice (some ⟨b2, o2, none⟩) L.length uc),
                  (fun v _ => v = .int .i64 (k : Int)),
                  (fun v _ => v = .pointer (some ⟨b2, o2 + k * 3, none⟩)),
                  (fun v _ => v = .pointer (some ⟨b2, o2 + k * 3, none⟩)),
                  (fun v _ => v = .int .u64 sa),
                  (fun v _ => v = .slice (some ⟨b2, o2, none⟩) L.length uc),
                  (fun v _ => v = .int .i64 (k : Int)),
                  (fun v _ => v = .pointer (some ⟨b2, o2 + k * 3, none⟩)),
                  (fun v _ => v = .pointer (some ⟨b2, o2 + k * 3 + 1, none⟩)),
                  (fun v _ => v = .int .u32 sn),
                  (fun v _ => v = .int .i64 id),
                  (fun v _ => v = .int .u16 id),
                  (fun v _ => v = .int .u16 2),
                  (fun v _ => v = .pointer (some ⟨db, 1, none⟩)),
                  (fun v _ => v = .bool pw),
                  (fun v _ => v = .int .u16 (markN 2 pw false : Nat)),
                  (fun v _ => v = .agg #[.int .u64 sa, .int .u32 sn, .int .u16 id, .int .u16 (markN 2 pw false : Nat)]),
                  (fun v _ => v = pV ⟨pa, ⟨sa, sn, id, (markN 2 pw false : Nat)⟩⟩),
                  (fun v W => ∃ l, v = .slice (some ⟨l, 0, none⟩) 1 1 ∧ BlkAt W l (ptCells [⟨pa, ⟨sa, sn, id, (markN 2 pw false : Nat)⟩⟩]) 46),
                  (fun v W => OwnPk w.heap.size W v ((pckL p n b id L).take k ++ [⟨pa, ⟨sa, sn, id, (markN 2 pw false : Nat)⟩⟩])),
                  (fun v W => OwnPk w.heap.size W v ((pckL p n b id L).take k ++ [⟨pa, ⟨sa, sn, id, (markN 2 pw false : Nat)⟩⟩]))]
                  (ApQ w db pa pw) (by kernel_rfl) (by kernel_rfl) (by kernel_rfl) ?_ (fun u u' hb h => h.below hb) (HAp.out) ?_ ?_ ?_ ?_ ?_
              · refine And.intro (up_eq _) ?_
                refine And.intro (up_eq _) ?_
                refine And.intro (up_eq _) ?_
                refine And.intro (up_eq _) ?_
                refine And.intro (up_eq _) ?_
                refine And.intro (up_eq _) ?_
                refine And.intro (up_eq _) ?_
                refine And.intro (up_eq _) ?_
                refine And.intro (up_eq _) ?_
                refine And.intro (up_eq _) ?_
                refine And.intro (up_eq _) ?_
                refine And.intro (up_eq _) ?_
                refine And.intro (up_eq _) ?_
                refine And.intro (up_eq _) ?_
                refine And.intro (up_eq _) ?_
                refine And.intro (up_eq _) ?_
                refine And.intro (up_eq _) ?_
                refine And.intro (up_eq _) ?_
                refine And.intro (up_eq _) ?_
                refine And.intro (up_eq _) ?_
                refine And.intro (up_eq _) ?_
                refine And.intro (fun v W W' hb h => by obtain ⟨l, e, h⟩ := h; exact ⟨l, e, h.below hb⟩) ?_
                refine And.intro (fun v W W' hb h => h.below hb) ?_
                refine And.intro (fun v W W' hb h => h.below hb) ?_
                trivial
              · refine And.intro (And.intro (fun u u' hb h => h.below hb) (fun p hp hne u u' ht h => absurd (by rw [List.mem_singleton] at hp; rw [hp]) hne)) ?_
                trivial
              · refine And.intro (hown.out.below (Below.refl _ _).drew) ?_
                trivial
              · refine And.intro (And.intro ?_ (fun u u' hg h => h.gr hg HOb.out)) ?_
                · refine And.intro (fun _ _ _ => ch_eq _ _) ?_
                  refine And.intro (fun _ _ _ => ch_eq _ _) ?_
                  refine And.intro (fun _ _ _ => ch_eq _ _) ?_
                  refine And.intro (fun _ _ _ => ch_eq _ _) ?_
                  refine And.intro (fun _ _ _ => ch_eq _ _) ?_
                  refine And.intro (fun _ _ _ => ch_eq _ _) ?_
                  refine And.intro (fun _ _ _ => ch_eq _ _) ?_
                  refine And.intro (fun _ _ _ => ch_eq _ _) ?_
                  refine And.intro (fun _ _ _ => ch_eq _ _) ?_
                  refine And.intro (fun _ _ _ => ch_eq _ _) ?_
                  refine And.intro (fun _ _ _ => ch_eq _ _) ?_
                  refine And.intro (fun _ _ _ => ch_eq _ _) ?_
                  refine And.intro (fun _ _ _ => ch_eq _ _) ?_
                  refine And.intro (fun _ _ _ => ch_eq _ _) ?_
                  refine And.intro (fun _ _ _ => ch_eq _ _) ?_
                  refine And.intro (fun _ _ _ => ch_eq _ _) ?_
                  refine And.intro (fun _ _ _ => ch_eq _ _) ?_
                  refine And.intro (fun _ _ _ => ch_eq _ _) ?_
                  refine And.intro (fun _ _ _ => ch_eq _ _) ?_
                  refine And.intro (fun _ _ _ => ch_eq _ _) ?_
                  refine And.intro (fun _ _ _ => ch_eq _ _) ?_
                  refine And.intro (fun _ h _ => absurd rfl h) ?_
                  refine And.intro (fun h _ _ => absurd rfl h) ?_
                  refine And.intro (fun _ _ h => late_absurd (by kernel_rfl) h) ?_
                  trivial
                trivial
              · refine And.intro ?_ (And.intro ?_ (And.intro ?_ (And.intro ?_ (And.intro ?_ (And.intro ?_ (And.intro ?_ (And.intro ?_ (And.intro ?_ (And.intro ?_ (And.intro ?_ (And.intro ?_ (And.intro ?_ (And.intro ?_ (And.intro ?_ (And.intro ?_ (And.intro ?_ (And.intro ?_ (And.intro ?_ (And.intro ?_ (And.intro ?_ (And.intro ?_ (And.intro ?_ (And.intro ?_ (True.intro))))))))))))))))))))))))
                · refine qstep_val (.slice ov k oc) (by kernel_rfl) (by kernel_rfl) rfl (fun _ A1 W1 inv hnl hall => ⟨wanted_none rfl, ?_, rfl⟩)
                  have h11 : A1.eval (.tmp 11) = .slice ov k oc := (inv.base1 hnl 11 (by kernel_rfl)).trans rfl
                  simp only [execOp, h11, Sem.run_pure]
                · refine qstep_val (.pointer (some ⟨db, 0, none⟩)) (by kernel_rfl) (by kernel_rfl) rfl (fun _ A1 W1 inv hnl hall => ⟨wanted_none rfl, ?_, rfl⟩)
                  have h4 : A1.eval (.tmp 4) = .pointer (some ⟨db, 0, none⟩) := (inv.base 4 (by kernel_rfl)).trans rfl
                  simp only [execOp, h4]
                  simp [go_sem]
                · refine qstep_val (.int .i64 pa) (by kernel_rfl) (by kernel_rfl) rfl (fun _ A1 W1 inv hnl hall => ⟨wanted_none rfl, ?_, rfl⟩)
                  have h57 : A1.eval (.tmp 57) = .pointer (some ⟨db, 0, none⟩) := inv.get hall 1 57 (by kernel_rfl) (by kernel_rfl) rfl
                  have gg := inv.s.box.cell 0
                  simp at gg
                  simp only [execOp, h57]
                  simp [go_sem, gg]
                · refine qstep_val (.slice (some ⟨b2, o2, none⟩) L.length uc) (by kernel_rfl) (by kernel_rfl) rfl (fun _ A1 W1 inv hnl hall => ⟨wanted_none rfl, ?_, rfl⟩)
                  have h3 : A1.eval (.tmp 3) = .slice (some ⟨b2, o2, none⟩) L.length uc := (inv.base 3 (by kernel_rfl)).trans rfl
                  simp only [execOp, h3, Sem.run_pure]
                · refine qstep_val (.int .i64 (k : Int)) (by kernel_rfl) (by kernel_rfl) rfl (fun _ A1 W1 inv hnl hall => ⟨wanted_none rfl, ?_, rfl⟩)
                  have h12 : A1.eval (.tmp 12) = .int .i64 (k : Int) := (inv.base 12 (by kernel_rfl)).trans rfl
                  simp only [execOp, h12, Sem.run_pure]
                · refine qstep_val (.pointer (some ⟨b2, o2 + k * 3, none⟩)) (by kernel_rfl) (by kernel_rfl) rfl (fun _ A1 W1 inv hnl hall => ⟨wanted_none rfl, ?_, rfl⟩)
                  have h59 : A1.eval (.tmp 59) = .slice (some ⟨b2, o2, none⟩) L.length uc := inv.get hall 3 59 (by kernel_rfl) (by kernel_rfl) rfl
                  have h60 : A1.eval (.tmp 60) = .int .i64 (k : Int) := inv.get hall 4 60 (by kernel_rfl) (by kernel_rfl) rfl
                  have hq := HKI.out
                  simp only [execOp, h59, h60]
                  simp [go_sem, hq]
                · refine qstep_val (.pointer (some ⟨b2, o2 + k * 3, none⟩)) (by kernel_rfl) (by kernel_rfl) rfl (fun _ A1 W1 inv hnl hall => ⟨wanted_none rfl, ?_, rfl⟩)
                  have h61 : A1.eval (.tmp 61) = .pointer (some ⟨b2, o2 + k * 3, none⟩) := inv.get hall 5 61 (by kernel_rfl) (by kernel_rfl) rfl
                  simp only [execOp, h61]
                  simp [go_sem]
                · refine qstep_val (.int .u64 sa) (by kernel_rfl) (by kernel_rfl) rfl (fun _ A1 W1 inv hnl hall => ⟨wanted_none rfl, ?_, rfl⟩)
                  have h62 : A1.eval (.tmp 62) = .pointer (some ⟨b2, o2 + k * 3, none⟩) := inv.get hall 6 62 (by kernel_rfl) (by kernel_rfl) rfl
                  have gg : W1.cell? ⟨b2, o2 + k * 3, none⟩ = some (.int .u64 sa) := (inv.s.old.cell HD1.out).trans HC0.out
                  simp only [execOp, h62]
                  simp [go_sem, gg]
                · refine qstep_val (.slice (some ⟨b2, o2, none⟩) L.length uc) (by kernel_rfl) (by kernel_rfl) rfl (fun _ A1 W1 inv hnl hall => ⟨wanted_none rfl, ?_, rfl⟩)
                  have h3 : A1.eval (.tmp 3) = .slice (some ⟨b2, o2, none⟩) L.length uc := (inv.base 3 (by kernel_rfl)).trans rfl
                  simp only [execOp, h3, Sem.run_pure]
                · refine qstep_val (.int .i64 (k : Int)) (by kernel_rfl) (by kernel_rfl) rfl (fun _ A1 W1 inv hnl hall => ⟨wanted_none rfl, ?_, rfl⟩)
                  have h12 : A1.eval (.tmp 12) = .int .i64 (k : Int) := (inv.base 12 (by kernel_rfl)).trans rfl
                  simp only [execOp, h12, Sem.run_pure]
                · refine qstep_val (.pointer (some ⟨b2, o2 + k * 3, none⟩)) (by kernel_rfl) (by kernel_rfl) rfl (fun _ A1 W1 inv hnl hall => ⟨wanted_none rfl, ?_, rfl⟩)
                  have h64 : A1.eval (.tmp 64) = .slice (some ⟨b2, o2, none⟩) L.length uc := inv.get hall 8 64 (by kernel_rfl) (by kernel_rfl) rfl
                  have h65 : A1.eval (.tmp 65) = .int .i64 (k : Int) := inv.get hall 9 65 (by kernel_rfl) (by kernel_rfl) rfl
                  have hq := HKI.out
                  simp only [execOp, h64, h65]
                  simp [go_sem, hq]
                · refine qstep_val (.pointer (some ⟨b2, o2 + k * 3 + 1, none⟩)) (by kernel_rfl) (by kernel_rfl) rfl (fun _ A1 W1 inv hnl hall => ⟨wanted_none rfl, ?_, rfl⟩)
                  have h66 : A1.eval (.tmp 66) = .pointer (some ⟨b2, o2 + k * 3, none⟩) := inv.get hall 10 66 (by kernel_rfl) (by kernel_rfl) rfl
                  simp only [execOp, h66]
                  simp [go_sem]
                · refine qstep_val (.int .u32 sn) (by kernel_rfl) (by kernel_rfl) rfl (fun _ A1 W1 inv hnl hall => ⟨wanted_none rfl, ?_, rfl⟩)
                  have h67 : A1.eval (.tmp 67) = .pointer (some ⟨b2, o2 + k * 3 + 1, none⟩) := inv.get hall 11 67 (by kernel_rfl) (by kernel_rfl) rfl
                  have gg : W1.cell? ⟨b2, o2 + k * 3 + 1, none⟩ = some (.int .u32 sn) := (inv.s.old.cell HD1.out).trans HC1.out
                  simp only [execOp, h67]
                  simp [go_sem, gg]
                · refine qstep_val (.int .i64 id) (by kernel_rfl) (by kernel_rfl) rfl (fun _ A1 W1 inv hnl hall => ⟨wanted_none rfl, ?_, rfl⟩)
                  have h2 : A1.eval (.tmp 2) = .int .i64 id := (inv.base 2 (by kernel_rfl)).trans rfl
                  simp only [execOp, h2, Sem.run_pure]
                · refine qstep_val (.int .u16 id) (by kernel_rfl) (by kernel_rfl) rfl (fun _ A1 W1 inv hnl hall => ⟨wanted_none rfl, ?_, rfl⟩)
                  have h69 : A1.eval (.tmp 69) = .int .i64 id := inv.get hall 13 69 (by kernel_rfl) (by kernel_rfl) rfl
                  simp only [execOp, h69]
                  simp [go_sem, HW16.out]
                · refine qstep_val (.int .u16 2) (by kernel_rfl) (by kernel_rfl) rfl (fun _ A1 W1 inv hnl hall => ⟨wanted_none rfl, ?_, rfl⟩)
                  have h13 : A1.eval (.tmp 13) = .int .u16 2 := (inv.base 13 (by kernel_rfl)).trans rfl
                  simp only [execOp, h13, Sem.run_pure]
                · refine qstep_val (.pointer (some ⟨db, 1, none⟩)) (by kernel_rfl) (by kernel_rfl) rfl (fun _ A1 W1 inv hnl hall => ⟨wanted_none rfl, ?_, rfl⟩)
                  have h4 : A1.eval (.tmp 4) = .pointer (some ⟨db, 0, none⟩) := (inv.base 4 (by kernel_rfl)).trans rfl
                  simp only [execOp, h4]
                  simp [go_sem]
                · refine qstep_val (.bool pw) (by kernel_rfl) (by kernel_rfl) rfl (fun _ A1 W1 inv hnl hall => ⟨wanted_none rfl, ?_, rfl⟩)
                  have h72 : A1.eval (.tmp 72) = .pointer (some ⟨db, 1, none⟩) := inv.get hall 16 72 (by kernel_rfl) (by kernel_rfl) rfl
                  have gg := inv.s.box.cell 1
                  simp at gg
                  simp only [execOp, h72]
                  simp [go_sem, gg]
                · refine qstep_call 47 (by kernel_rfl) _ _ (by kernel_rfl) (by kernel_rfl) rfl rfl (fun _ A1 W1 inv hnl hall => ⟨wanted_none rfl, #[.int .u16 2, .bool pw, .bool false], ?_, ?_⟩)
                  · have h71 : A1.eval (.tmp 71) = .int .u16 2 := inv.get hall 15 71 (by kernel_rfl) (by kernel_rfl) rfl
                    have h73 : A1.eval (.tmp 73) = .bool pw := inv.get hall 17 73 (by kernel_rfl) (by kernel_rfl) rfl
                    simp [h71, h73, eval_c2]
                  · refine (rmark_any 2 pw false _ (by decide)).mono ?_
                    rintro e u ⟨rfl, rfl⟩
                    exact ⟨_, rfl, rfl, Below.refl _ _⟩
                · refine qstep_val (.agg #[.int .u64 sa, .int .u32 sn, .int .u16 id, .int .u16 (markN 2 pw false : Nat)]) (by kernel_rfl) (by kernel_rfl) rfl (fun _ A1 W1 inv hnl hall => ⟨wanted_none rfl, ?_, rfl⟩)
                  have h63 : A1.eval (.tmp 63) = .int .u64 sa := inv.get hall 7 63 (by kernel_rfl) (by kernel_rfl) rfl
                  have h68 : A1.eval (.tmp 68) = .int .u32 sn := inv.get hall 12 68 (by kernel_rfl) (by kernel_rfl) rfl
                  have h70 : A1.eval (.tmp 70) = .int .u16 id := inv.get hall 14 70 (by kernel_rfl) (by kernel_rfl) rfl
                  have h74 : A1.eval (.tmp 74) = .int .u16 (markN 2 pw false : Nat) := inv.get hall 18 74 (by kernel_rfl) (by kernel_rfl) rfl
                  simp only [execOp, List.map_toArray, List.map_cons, List.map_nil, h63, h68, h70, h74]
                  simp [go_sem]
                · refine qstep_val (pV ⟨pa, ⟨sa, sn, id, (markN 2 pw false : Nat)⟩⟩) (by kernel_rfl) (by kernel_rfl) rfl (fun _ A1 W1 inv hnl hall => ⟨wanted_none rfl, ?_, rfl⟩)
                  have h58 : A1.eval (.tmp 58) = .int .i64 pa := inv.get hall 2 58 (by kernel_rfl) (by kernel_rfl) rfl
                  have h75 : A1.eval (.tmp 75) = .agg #[.int .u64 sa, .int .u32 sn, .int .u16 id, .int .u16 (markN 2 pw false : Nat)] := inv.get hall 19 75 (by kernel_rfl) (by kernel_rfl) rfl
                  simp only [execOp, List.map_toArray, List.map_cons, List.map_nil, h58, h75]
                  simp [go_sem]
                · refine qstep_run (by kernel_rfl) (by kernel_rfl) rfl (fun _ A1 W1 inv hnl hall => ⟨wanted_none rfl, ?_⟩)
                  have h76 : A1.eval (.tmp 76) = pV ⟨pa, ⟨sa, sn, id, (markN 2 pw false : Nat)⟩⟩ := inv.get hall 20 76 (by kernel_rfl) (by kernel_rfl) rfl
                  refine ⟨.slice (some ⟨W1.heap.size, 0, none⟩) 1 1, W1.alloc (.cells (ptCells [⟨pa, ⟨sa, sn, id, (markN 2 pw false : Nat)⟩⟩]).toArray 46), ?_, ⟨_, rfl, blk_new _ _ _⟩, below_box _ _⟩
                  simp only [execOp, List.map_toArray, List.map_cons, List.map_nil, h76]
                  simp [go_sem, ptCells]
                · refine qstep_own (by kernel_rfl) (by kernel_rfl) rfl (fun _ A1 W1 inv hnl hall => ⟨wanted_none rfl, ?_⟩)
                  have h56 : A1.eval (.tmp 56) = .slice ov k oc := inv.get hall 0 56 (by kernel_rfl) (by kernel_rfl) rfl
                  have h77 : (fun v W => ∃ l, v = .slice (some ⟨l, 0, none⟩) 1 1 ∧ BlkAt W l (ptCells [⟨pa, ⟨sa, sn, id, (markN 2 pw false : Nat)⟩⟩]) 46) (A1.eval (.tmp 77)) W1 := inv.get1 (i := 22) hnl hall 21 77 (by kernel_rfl) (by kernel_rfl) rfl
                  obtain ⟨l, hl, hb⟩ := h77
                  have hov := inv.pre1 (j := 22) hnl (List.mem_singleton.2 rfl) (Or.inl rfl)
                  obtain ⟨v', w', e1, e2, e3⟩ := app_pk ⟨pa, ⟨sa, sn, id, (markN 2 pw false : Nat)⟩⟩ hov hb.lt hb inv.s.old.size HTl.out
                  refine ⟨v', w', ?_, e2, e3⟩
                  simp only [execOp]
                  simp [resolve, invoke, builtin, h56, hl, e1, Result.andThen]
                · refine qstep_ex (by kernel_rfl) (by kernel_rfl) rfl (fun _ A1 W1 inv hnl hall => ⟨wanted_none rfl, ?_⟩)
                  have h78 : (fun v W => OwnPk w.heap.size W v ((pckL p n b id L).take k ++ [⟨pa, ⟨sa, sn, id, (markN 2 pw false : Nat)⟩⟩])) (A1.eval (.tmp 78)) W1 := inv.get hall 22 78 (by kernel_rfl) (by kernel_rfl) rfl
                  exact ⟨A1.eval (.tmp 78), by simp only [execOp, Sem.run_pure], h78⟩
              · intro listed A1 W1 inv hall
                have e56 : A1.eval (.tmp 56) = .slice ov k oc := inv.fin 0 56 (by kernel_rfl) (hall 0 (Nat.lt_of_lt_of_eq (by decide : 0 < 24) (by kernel_rfl))) rfl
                have e57 : A1.eval (.tmp 57) = .pointer (some ⟨db, 0, none⟩) := inv.fin 1 57 (by kernel_rfl) (hall 1 (Nat.lt_of_lt_of_eq (by decide : 1 < 24) (by kernel_rfl))) rfl
                have e58 : A1.eval (.tmp 58) = .int .i64 pa := inv.fin 2 58 (by kernel_rfl) (hall 2 (Nat.lt_of_lt_of_eq (by decide : 2 < 24) (by kernel_rfl))) rfl
                have e59 : A1.eval (.tmp 59) = .slice (some ⟨b2, o2, none⟩) L.length uc := inv.fin 3 59 (by kernel_rfl) (hall 3 (Nat.lt_of_lt_of_eq (by decide : 3 < 24) (by kernel_rfl))) rfl
                have e60 : A1.eval (.tmp 60) = .int .i64 (k : Int) := inv.fin 4 60 (by kernel_rfl) (hall 4 (Nat.lt_of_lt_of_eq (by decide : 4 < 24) (by kernel_rfl))) rfl
                have e61 : A1.eval (.tmp 61) = .pointer (some ⟨b2, o2 + k * 3, none⟩) := inv.fin 5 61 (by kernel_rfl) (hall 5 (Nat.lt_of_lt_of_eq (by decide : 5 < 24) (by kernel_rfl))) rfl
                have e62 : A1.eval (.tmp 62) = .pointer (some ⟨b2, o2 + k * 3, none⟩) := inv.fin 6 62 (by kernel_rfl) (hall 6 (Nat.lt_of_lt_of_eq (by decide : 6 < 24) (by kernel_rfl))) rfl
                have e63 : A1.eval (.tmp 63) = .int .u64 sa := inv.fin 7 63 (by kernel_rfl) (hall 7 (Nat.lt_of_lt_of_eq (by decide : 7 < 24) (by kernel_rfl))) rfl
                have e64 : A1.eval (.tmp 64) = .slice (some ⟨b2, o2, none⟩) L.length uc := inv.fin 8 64 (by kernel_rfl) (hall 8 (Nat.lt_of_lt_of_eq (by decide : 8 < 24) (by kernel_rfl))) rfl
                have e65 : A1.eval (.tmp 65) = .int .i64 (k : Int) := inv.fin 9 65 (by kernel_rfl) (hall 9 (Nat.lt_of_lt_of_eq (by decide : 9 < 24) (by kernel_rfl))) rfl
                have e66 : A1.eval (.tmp 66) = .pointer (some ⟨b2, o2 + k * 3, none⟩) := inv.fin 10 66 (by kernel_rfl) (hall 10 (Nat.lt_of_lt_of_eq (by decide : 10 < 24) (by kernel_rfl))) rfl
                have e67 : A1.eval (.tmp 67) = .pointer (some ⟨b2, o2 + k * 3 + 1, none⟩) := inv.fin 11 67 (by kernel_rfl) (hall 11 (Nat.lt_of_lt_of_eq (by decide : 11 < 24) (by kernel_rfl))) rfl
                have e68 : A1.eval (.tmp 68) = .int .u32 sn := inv.fin 12 68 (by kernel_rfl) (hall 12 (Nat.lt_of_lt_of_eq (by decide : 12 < 24) (by kernel_rfl))) rfl
                have e69 : A1.eval (.tmp 69) = .int .i64 id := inv.fin 13 69 (by kernel_rfl) (hall 13 (Nat.lt_of_lt_of_eq (by decide : 13 < 24) (by kernel_rfl))) rfl
                have e70 : A1.eval (.tmp 70) = .int .u16 id := inv.fin 14 70 (by kernel_rfl) (hall 14 (Nat.lt_of_lt_of_eq (by decide : 14 < 24) (by kernel_rfl))) rfl
                have e71 : A1.eval (.tmp 71) = .int .u16 2 := inv.fin 15 71 (by kernel_rfl) (hall 15 (Nat.lt_of_lt_of_eq (by decide : 15 < 24) (by kernel_rfl))) rfl
                have e72 : A1.eval (.tmp 72) = .pointer (some ⟨db, 1, none⟩) := inv.fin 16 72 (by kernel_rfl) (hall 16 (Nat.lt_of_lt_of_eq (by decide : 16 < 24) (by kernel_rfl))) rfl
                have e73 : A1.eval (.tmp 73) = .bool pw := inv.fin 17 73 (by kernel_rfl) (hall 17 (Nat.lt_of_lt_of_eq (by decide : 17 < 24) (by kernel_rfl))) rfl
                have e74 : A1.eval (.tmp 74) = .int .u16 (markN 2 pw false : Nat) := inv.fin 18 74 (by kernel_rfl) (hall 18 (Nat.lt_of_lt_of_eq (by decide : 18 < 24) (by kernel_rfl))) rfl
                have e75 : A1.eval (.tmp 75) = .agg #[.int .u64 sa, .int .u32 sn, .int .u16 id, .int .u16 (markN 2 pw false : Nat)] := inv.fin 19 75 (by kernel_rfl) (hall 19 (Nat.lt_of_lt_of_eq (by decide : 19 < 24) (by kernel_rfl))) rfl
                have e76 : A1.eval (.tmp 76) = pV ⟨pa, ⟨sa, sn, id, (markN 2 pw false : Nat)⟩⟩ := inv.fin 20 76 (by kernel_rfl) (hall 20 (Nat.lt_of_lt_of_eq (by decide : 20 < 24) (by kernel_rfl))) rfl
                obtain ⟨v77, e77⟩ : ∃ v, A1.eval (.tmp 77) = v := ⟨_, rfl⟩
                have p78 : (fun v W => OwnPk w.heap.size W v ((pckL p n b id L).take k ++ [⟨pa, ⟨sa, sn, id, (markN 2 pw false : Nat)⟩⟩])) (A1.eval (.tmp 78)) W1 := inv.fin 22 78 (by kernel_rfl) (hall 22 (Nat.lt_of_lt_of_eq (by decide : 22 < 24) (by kernel_rfl))) rfl
                obtain ⟨v78, e78⟩ : ∃ v, A1.eval (.tmp 78) = v := ⟨_, rfl⟩
                rw [e78] at p78
                have p11 : (fun v W => OwnPk w.heap.size W v ((pckL p n b id L).take k ++ [⟨pa, ⟨sa, sn, id, (markN 2 pw false : Nat)⟩⟩])) (A1.eval (.tmp 11)) W1 := inv.fin 23 11 (by kernel_rfl) (hall 23 (Nat.lt_of_lt_of_eq (by decide : 23 < 24) (by kernel_rfl))) rfl
                obtain ⟨v11, e11⟩ : ∃ v, A1.eval (.tmp 11) = v := ⟨_, rfl⟩
                rw [e11] at p11
                have HF := inv.frame hall
                have HS9 := hid_mk inv.s
                simp only [putEnd, e56, e57, e58, e59, e60, e61, e62, e63, e64, e65, e66, e67, e68, e69, e70, e71, e72, e73, e74, e75, e76, e77, e78, e11, Act.put, List.setIfInBounds_toArray, List.set_cons_succ, List.set_cons_zero] at HF
                clear e56 e57 e58 e59 e60 e61 e62 e63 e64 e65 e66 e67 e68 e69 e70 e71 e72 e73 e74 e75 e76 e77 e78 e11 inv hall
                subst HF
                rw [← HT3.out] at p11
                obtain ⟨sv, sc, hsv⟩ := own_len p11
                rw [show ((pckL p n b id L).take (k + 1)).length = k + 1 by rw [List.length_take, pckL_len]; have := HLT.out; omega] at hsv
                subst hsv
                have HP9 := hid_mk p11
                have HQ9 := hid_mk HS9.out
                obtain ⟨l9, x0, x1, f0, f1⟩ := HQ9.out.box.five
                clear HS9 p11
                go_wp2_with fail
                refine (HG.out _).mono ?_
                rintro e w3 ⟨rfl, hb⟩
                have HX3 := hid_mk (HQ9.out.box.below hb)
                have HO3 := hid_mk (below_then HQ9.out.old hb)
                have HP3 := hid_mk (HP9.out.below hb)
                clear hb l9 x0 x1 f0 f1
                obtain ⟨l9, x0, x1, f0, f1⟩ := HX3.out.five
                go_wp2_with fail
                go_roundw
                case rel => exact ⟨k + 1, by have := HLT.out; omega, by simp, hid_mk ((HP3.out.setCell (i := 0) HX3.out _).setCell (i := 1) (HX3.out.set 0 _) _), hid_mk ((HX3.out.set 0 _).set 1 _), hid_mk ((HO3.out.setCell HDb.out _).setCell HDb.out _)⟩
                case measure => simp [intOf]; have := HLT.out; omega
        · obtain rfl : k = L.length := by omega
          obtain ⟨ov, oc, hov⟩ := own_len hown.out
          have HR := hid_mk hown.out
          rw [show (pckL p n b id L).take L.length = pckL p n b id L from List.take_of_length_le (by rw [pckL_len]; exact Nat.le_refl _)] at HR hov
          rw [pckL_len] at hov
          subst hov
          go_wp2_with fail
          go_ret2
          exact ⟨_, rfl, HR.out, hold.out⟩
  · obtain ⟨e1, e2⟩ := pck_bad (p := p) (n := n) (b := b) (id := id) hm
    rw [e1, e2]
    have hb : (mayE L != 0) = true := by simp; exact hm
    generalize mayE L = z at *
    clear e1 e2 hm hs hl
    go_enter Try.func17, Try.ntmps17
    go_wp2_with fail
    refine (HM.out _ (HU.out.below HB0.out)).mono ?_
    rintro e w1 ⟨rfl, m, rfl⟩
    have HX1 := hid_mk (HX0.out.below (below_drewN _ m))
    have HB1 := hid_mk (below_then HB0.out (below_drewN _ m))
    obtain ⟨l0, x0, x1, _⟩ := HX1.out.two
    go_wp2_with fail
    go_ret2
    exact ⟨_, rfl, World.ownsRow_nil _ _ _ _, HB1.out⟩
end Go.Proofs.Ytgdokgpplldddaa

/- Contracts of desc's ReadTable for any bytes; words of used elements and events. Conditions: as each theorem names them. -/
namespace Go.Proofs.Ytgdokgpplldddaa
open Go.ChangeShapes Go.WideShapes Go.ChangeAt Go.RowKit
set_option linter.unusedVariables false
set_option maxRecDepth 100000

def rtE (l : List Int) : Int := if l.length % 16 = 0 then 0 else 4
def rtD (l : List Int) : List Dsc := if l.length % 16 = 0 then rdT (l.length / 16) l else []

/-! ## used elements and events, as words -/
end Go.Proofs.Ytgdokgpplldddaa
