/- The reference of layer 8: Give. Conditions: as each theorem names them. Written by mkfe5.py. -/
import Derived.Test.YtfbimocgcnaogaaFe4
namespace Go.Proofs.Ytfbimocgcnaogaa
open Go.ChangeShapes Go.WideShapes Go.ChangeAt Go.RowKit
set_option linter.unusedVariables false
set_option maxRecDepth 100000

/-- a row of the call's own; or an empty literal still -/
def RowA (B : Nat) (W : World) (v : Value) (G : List Int) : Prop := OwnZ B W v G ∨ (G = [] ∧ ∃ g, v = .slice (some ⟨g, 0, none⟩) 0 0)
theorem up_rowA (B : Nat) (G : List Int) : Up (fun v W => RowA B W v G) := fun _ _ _ hb h => by
  rcases h with h | h
  · exact Or.inl (h.below hb)
  · exact Or.inr h
theorem rowA_put {rb B : Nat} {G : List Int} (h : rb < B) : Ch (PutFr rb) (fun v W => RowA B W v G) := fun _ _ _ hp hv => by
  rcases hv with hv | hv
  · exact Or.inl (hv.keep fun g _ hg hlt => hp.chg.block g hlt (by omega))
  · exact Or.inr hv
theorem app_rowA {B : Nat} {W : World} (g : Nat) {u : Value} {M : List Int} (hu : IntsZ W u M) (hB : B ≤ W.heap.size) (hl : M.length ≤ 1000000) :
    ∃ v' w', (∀ ty, (Builtin.append_ #[22, 22] ty #[.slice (some ⟨g, 0, none⟩) 0 0, u]).run Try.prog W = .ok v' w') ∧ RowA B w' v' M ∧ Below W.heap.size W w' := by
  obtain ⟨v', w', h1, h2, h3⟩ := app_full (w := W) (a := some ⟨g, 0, none⟩) (c := 0) (L := []) (Or.inl ⟨⟨_, _, rfl, fun h => by cases h⟩, rfl⟩) rfl hu (by simp; omega)
  refine ⟨v', w', h1, ?_, h2⟩
  rcases h3 with ⟨rfl, rfl, rfl⟩ | ⟨_, h3⟩
  · exact Or.inr ⟨rfl, g, rfl⟩
  · exact Or.inl (h3.mono hB)
theorem app_rowB {B : Nat} {W : World} {v u : Value} {G L : List Int} (hv : RowA B W v G) (hu : IntsZ W u L) (hB : B ≤ W.heap.size) (hg : G.length ≤ 1000000) (hl : L.length ≤ 1000000) :
    ∃ v' w', (∀ ty, (Builtin.append_ #[22, 22] ty #[v, u]).run Try.prog W = .ok v' w') ∧ IntsN B w' v' (G ++ L) ∧ Chg (fun b => B ≤ b) W w' := by
  rcases hv with hv | ⟨rfl, g, rfl⟩
  · obtain ⟨v', w', h1, h2, h3⟩ := app_own hv hu hB (by omega)
    refine ⟨v', w', h1, h2.n, ⟨h3.os, h3.tape, h3.output, h3.size, fun k hk hX => h3.block k hk (fun e => hX ?_)⟩⟩
    rcases hv.2 with ⟨rfl, _⟩ | ⟨g, cap, cur, rfl, hg, _⟩
    · cases e
    · simp [Value.ownBlock] at e
      omega
  · obtain ⟨v', w', h1, h2, h3⟩ := app_empty (B := B) g hu hB hl
    exact ⟨v', w', h1, h2, Chg.of_below h3⟩
theorem TkS.chg {w W W' : World} {B bx rb : Nat} {S : Int} {v : Value} (h : TkS w B bx rb S v W) (hc : Chg (fun b => B ≤ b) W W') (hx : bx < B) (hr : rb < B) (hw : w.heap.size ≤ B) : TkS w B bx rb S v W' := by
  obtain ⟨x, y, hrs⟩ := h.res
  refine ⟨hc.keep h.box (by omega), h.old.trans (hc.below h.old.size (fun k hk => by omega)), Nat.le_trans h.sz hc.size, x, y, hc.keep hrs (by omega)⟩
theorem giv_no {S : Int} {L G : List Int} (h : chkL S L = false) : givE S L G = 2 ∧ givR S L G = [] ∧ givS S L G = 0 := by
  unfold givE givR givS givB
  rw [h]
  exact ⟨rfl, rfl, rfl⟩
theorem giv_rng {S : Int} {L G : List Int} (h : rngT S G G.length = false) : givE S L G = 2 ∧ givR S L G = [] ∧ givS S L G = 0 := by
  unfold givE givR givS givB
  rw [h, Bool.and_false]
  exact ⟨rfl, rfl, rfl⟩
theorem giv_there {S : Int} {L G : List Int} (h1 : chkL S L = true) (h2 : rngT S G G.length = true) (h : freshT L G G.length = false) : givE S L G = 9 ∧ givR S L G = [] ∧ givS S L G = 0 := by
  unfold givE givR givS givB
  rw [h1, h2, h]
  exact ⟨rfl, rfl, rfl⟩
theorem giv_yes {S : Int} {L G : List Int} (h1 : chkL S L = true) (h2 : rngT S G G.length = true) (h : freshT L G G.length = true) : givE S L G = 0 ∧ givR S L G = G ++ L ∧ givS S L G = S := by
  unfold givE givR givS givB
  rw [h1, h2, h]
  exact ⟨rfl, rfl, rfl⟩

set_option maxHeartbeats 8000000 in
theorem rfgive (S : Int) (v u : Value) (L G : List Int) (w : World) (hv : IntsZ w v L) (hu : IntsZ w u G) (hl : L.length ≤ 1000000) (hg : G.length ≤ 1000000) :
    Calls Try.prog 16 #[frV S v, u] w fun e w' => ∃ v2, e = .returned (.tuple #[frV (givS S L G) v2, .int .i64 (givE S L G)]) ∧ IntsZ w' v2 (givR S L G) ∧ Below w.heap.size w w' := by
  have HC := hid_mk (fun u (hu : IntsZ u v L) => rfcheck S v L u hu)
  unfold chkLE at HC
  have HV := hid_mk hv
  have HU := hid_mk hu
  obtain ⟨va, vc, rfl⟩ := hv.len
  obtain ⟨ga, gc, rfl⟩ := hu.len
  obtain ⟨X1, X2, B0⟩ := two_fr w S (.slice va L.length vc) (.int .i64 0) (.slice none 0 0) 24 24
  have HX1 := hid_mk X1
  have HX2 := hid_mk X2
  have HB0 := hid_mk B0
  clear X1 X2 B0 hv hu
  have HLn := hid_mk hl
  have HGn := hid_mk hg
  unfold frV at *
  clear hl hg
  cases hc : chkL S L
  · obtain ⟨e1, e2, e3⟩ := giv_no (G := G) hc
    rw [e1, e2, e3]
    rw [hc, if_neg (by decide)] at HC
    clear e1 e2 e3 hc
    go_enter Try.func16, Try.ntmps16
    go_wp2_with fail
    refine (HC.out _ (HV.out.below HB0.out)).mono ?_
    rintro e w1 ⟨rfl, hb1⟩
    have B1 := hid_mk (below_then HB0.out hb1)
    obtain ⟨r0, q0, q1, f0, f1⟩ := blk2 (HX2.out.below hb1)
    clear hb1
    go_wp2_with fail
    exact bodyPost_ret (v := .tuple #[.agg #[.int .i64 0, .slice none 0 0], .int .i64 2]) (by simp [results, Try.results16, go_sem, q0, q1]) rfl ⟨_, rfl, IntsZ.nil _, put2 B1.out (by omega) _ _⟩
  rw [hc, if_pos rfl] at HC
  have HRng := hid_mk (fun h => giv_rng (S := S) (L := L) (G := G) h)
  have HThe := hid_mk (fun h2 h => giv_there (G := G) hc h2 h)
  have HYes := hid_mk (fun h2 h => giv_yes (G := G) hc h2 h)
  clear hc
  generalize givE S L G = E at *
  generalize givR S L G = R at *
  generalize givS S L G = T at *
  go_enter Try.func16, Try.ntmps16
  go_wp2_with fail
  refine (HC.out _ (HV.out.below HB0.out)).mono ?_
  rintro e w1 ⟨rfl, hb1⟩
  have HTK0 : Hid (TkS w w1.heap.size w.heap.size (w.heap.size + 1) S (.slice va L.length vc) w1) := hid_mk ⟨HX1.out.below hb1, below_then HB0.out hb1, Nat.le_refl _, _, _, HX2.out.below hb1⟩
  have HR0 := hid_mk (HX2.out.below hb1)
  have HRB0 : Hid (w.heap.size + 1 < w1.heap.size) := hid_mk (HX2.out.below hb1).lt
  clear hb1 HX1 HX2
  obtain ⟨bx, hbx⟩ : ∃ bx, w.heap.size = bx := ⟨_, rfl⟩
  obtain ⟨rb, hrb⟩ : ∃ rb, bx + 1 = rb := ⟨_, rfl⟩
  rw [hbx, hrb] at HTK0 HRB0
  rw [hbx, hrb] at HR0
  have HBX := hid_mk hbx
  have HNE : Hid (bx ≠ rb) := hid_mk (by omega)
  have HWR : Hid (w.heap.size ≤ rb) := hid_mk (by omega)
  have HBR : Hid (bx < rb) := hid_mk (by omega)
  rw [hbx]
  rw [hrb]
  clear hrb hbx
  go_wp2_with fail
  go_loopw [6] (fun i wr => ∃ k n : Nat, k ≤ G.length ∧ i = .int .i64 k ∧ Hid (wr = w1.drewN n) ∧ Hid (rngT S G k = true)) (fun i _ => G.length - (intOf i).toNat)
  case atStart => exact ⟨0, 0, Nat.zero_le _, rfl, hid_mk rfl, hid_mk rfl⟩
  case round =>
    obtain ⟨k, n, hk, rfl, hwr, hok⟩ := hrel
    obtain ⟨x2, x0, x1, _⟩ : bx < wr.heap.size ∧ wr.cell? ⟨bx, 0, none⟩ = some (.int .i64 S) ∧ wr.cell? ⟨bx, 1, none⟩ = some (.slice va L.length vc) ∧ True := by
      rw [hwr.out]
      exact ⟨HTK0.out.box.lt, HTK0.out.c0, HTK0.out.c1, trivial⟩
    by_cases hlt : k < G.length
    · have hC : ∃ b o, ga = some ⟨b, o, none⟩ ∧ wr.cell? ⟨b, o + k, none⟩ = some (.int .i64 (G.getD k 0)) := by
        rw [hwr.out]
        rcases (HU.out.below HTK0.out.old) with ⟨_, e⟩ | ⟨b, o, c, he, g1, g2, g3⟩
        · rw [e] at hlt
          simp at hlt
        · cases he
          exact ⟨b, o, rfl, g3 k hlt⟩
      have HST := hid_mk (rngT_succ S G k)
      have HN2 := hid_mk (fun h => HRng.out (rngT_no (S := S) hlt h))
      obtain ⟨b, o, rfl, c0⟩ := hC
      have hki : (k : Int) < (G.length : Int) := by omega
      have hk6 : (k : Int) < 1000000 := by
        have := HGn.out
        omega
      generalize G.getD k 0 = x at *
      by_cases hx0 : x < 0
      · have hd : decide (x < 0) = true := decide_eq_true hx0
        have HE := hid_mk (HN2.out (okI_lo hx0))
        obtain ⟨r0, q0, q1, f0, f1⟩ : rb < wr.heap.size ∧ wr.cell? ⟨rb, 0, none⟩ = some (.int .i64 0) ∧ wr.cell? ⟨rb, 1, none⟩ = some (.slice none 0 0) ∧ wr.frozen? ⟨rb, 0, none⟩ = false ∧ wr.frozen? ⟨rb, 1, none⟩ = false := by
          rw [hwr.out]
          exact blk2 HR0.out
        clear HN2 HST hx0
        go_wp2
        go_quiet (fail)
        go_wp2
        exact bodyPost_ret (v := .tuple #[.agg #[.int .i64 0, .slice none 0 0], .int .i64 2]) (by simp [results, Try.results16, go_sem, q0, q1]) rfl ⟨_, by rw [HE.out.1, HE.out.2.2], by rw [HE.out.2.1]; exact IntsZ.nil _, by rw [hwr.out]; exact put2 (below_dn (below_dn HTK0.out.old _) _) HWR.out _ _⟩
      · have hd : decide (x < 0) = false := decide_eq_false hx0
        by_cases hxS : S ≤ x
        · have hd2 : decide (S ≤ x) = true := decide_eq_true hxS
          have HE := hid_mk (HN2.out (okI_hi hxS))
          obtain ⟨r0, q0, q1, f0, f1⟩ : rb < wr.heap.size ∧ wr.cell? ⟨rb, 0, none⟩ = some (.int .i64 0) ∧ wr.cell? ⟨rb, 1, none⟩ = some (.slice none 0 0) ∧ wr.frozen? ⟨rb, 0, none⟩ = false ∧ wr.frozen? ⟨rb, 1, none⟩ = false := by
            rw [hwr.out]
            exact blk2 HR0.out
          clear HN2 HST hx0 hxS
          go_wp2
          go_quiet (fail)
          go_wp2
          exact bodyPost_ret (v := .tuple #[.agg #[.int .i64 0, .slice none 0 0], .int .i64 2]) (by simp [results, Try.results16, go_sem, q0, q1]) rfl ⟨_, by rw [HE.out.1, HE.out.2.2], by rw [HE.out.2.1]; exact IntsZ.nil _, by rw [hwr.out]; exact put2 (below_dn (below_dn HTK0.out.old _) _) HWR.out _ _⟩
        · have hd2 : decide (S ≤ x) = false := decide_eq_false hxS
          have HE : Hid (rngT S G (k + 1) = true) := hid_mk (by rw [HST.out, hok.out, okI_in (S := S) (x := x) (by omega) (by omega)]; rfl)
          clear HN2 HST hx0 hxS
          go_wp2
          go_quiet (fail)
          go_wp2
          go_roundw
          case rel => exact ⟨k + 1, _, by omega, by simp, hid_mk (by rw [hwr.out, World.drewN_drewN]), HE⟩
          case measure => simp [intOf]; omega
    · obtain rfl : k = G.length := by omega
      have HT2 := hid_mk (fun h => HThe.out hok.out h)
      have HY2 := hid_mk (fun h => HYes.out hok.out h)
      clear HThe HYes HRng x0 x1 x2
      go_wp2
      have hcn : ∀ m : Nat, IntsZ (w1.drewN m) (.slice ga G.length gc) G ∧ IntsZ (w1.drewN m) (.slice va L.length vc) L := fun m => ⟨(HU.out.below HTK0.out.old).below (below_drewN _ _), (HV.out.below HTK0.out.old).below (below_drewN _ _)⟩
      have HCN := hid_mk hcn
      clear hcn
      go_loopw [7] (fun i wr => ∃ k n : Nat, k ≤ G.length ∧ i = .int .i64 k ∧ Hid (wr = w1.drewN n) ∧ Hid (freshT L G k = true)) (fun i _ => G.length - (intOf i).toNat)
      case atStart => exact ⟨0, n, Nat.zero_le _, rfl, hwr, hid_mk rfl⟩
      case round =>
        clear hwr
        obtain ⟨k, n, hk, rfl, hwr, hfr⟩ := hrel
        obtain ⟨x2, x0, x1, _⟩ : bx < wr.heap.size ∧ wr.cell? ⟨bx, 0, none⟩ = some (.int .i64 S) ∧ wr.cell? ⟨bx, 1, none⟩ = some (.slice va L.length vc) ∧ True := by
          rw [hwr.out]
          exact ⟨HTK0.out.box.lt, HTK0.out.c0, HTK0.out.c1, trivial⟩
        by_cases hlt : k < G.length
        · have hC : ∃ b o, ga = some ⟨b, o, none⟩ ∧ wr.cell? ⟨b, o + k, none⟩ = some (.int .i64 (G.getD k 0)) := by
            rw [hwr.out]
            rcases (HCN.out n).1 with ⟨_, e⟩ | ⟨b, o, c, he, g1, g2, g3⟩
            · rw [e] at hlt
              simp at hlt
            · cases he
              exact ⟨b, o, rfl, g3 k hlt⟩
          obtain ⟨v1, _, hs1, hv1, _, _⟩ := slicesI (HCN.out 0).1 k hk
          have hl1 : (G.take k).length ≤ 1000000 := by
            have := HGn.out
            rw [List.length_take]
            omega
          have HA := hid_mk (fun q : Nat => (rin (.slice va L.length vc) L (G.getD k 0) (wr.drewN q) (by rw [hwr.out, World.drewN_drewN]; exact (HCN.out _).2) HLn.out).mono (R' := fun e w' => e = .returned (.bool (inB L (G.getD k 0))) ∧ ∃ m, w' = (wr.drewN q).drewN m) (fun e w' h => ⟨h.1, 0, h.2⟩))
          have HB := hid_mk (fun q : Nat => (rin v1 (G.take k) (G.getD k 0) (wr.drewN q) (by rw [hwr.out, World.drewN_drewN]; exact hv1.below (below_drewN _ _)) hl1).mono (R' := fun e w' => e = .returned (.bool (inB (G.take k) (G.getD k 0))) ∧ ∃ m, w' = (wr.drewN q).drewN m) (fun e w' h => ⟨h.1, 0, h.2⟩))
          have HST := hid_mk (freshT_succ L G k)
          have HN2 := hid_mk (fun h => HT2.out (freshT_no (L := L) hlt h))
          clear hv1 hl1
          obtain ⟨b, o, rfl, c0⟩ := hC
          have hki : (k : Int) < (G.length : Int) := by omega
          have hk6 : (k : Int) < 1000000 := by
            have := HGn.out
            omega
          generalize G.getD k 0 = x at *
          generalize inB (G.take k) x = z at *
          generalize inB L x = y at *
          cases y
          · cases z
            · have HE : Hid (freshT L G (k + 1) = true) := hid_mk (by rw [HST.out, hfr.out]; rfl)
              clear HN2 HST
              go_wp2
              go_quiet (first | (with_reducible exact Calls.quiet_of (HA.out _)) | (with_reducible exact Calls.quiet_of (HB.out _)))
              go_wp2
              go_roundw
              case rel => exact ⟨k + 1, _, by omega, by simp, hid_mk (by rw [hwr.out, World.drewN_drewN]), HE⟩
              case measure => simp [intOf]; omega
            · have HE := hid_mk (HN2.out rfl)
              obtain ⟨r0, q0, q1, f0, f1⟩ : rb < wr.heap.size ∧ wr.cell? ⟨rb, 0, none⟩ = some (.int .i64 0) ∧ wr.cell? ⟨rb, 1, none⟩ = some (.slice none 0 0) ∧ wr.frozen? ⟨rb, 0, none⟩ = false ∧ wr.frozen? ⟨rb, 1, none⟩ = false := by
                rw [hwr.out]
                exact blk2 HR0.out
              clear HN2 HST
              go_wp2
              go_quiet (first | (with_reducible exact Calls.quiet_of (HA.out _)) | (with_reducible exact Calls.quiet_of (HB.out _)))
              go_wp2
              exact bodyPost_ret (v := .tuple #[.agg #[.int .i64 0, .slice none 0 0], .int .i64 9]) (by simp [results, Try.results16, go_sem, q0, q1]) rfl ⟨_, by rw [HE.out.1, HE.out.2.2], by rw [HE.out.2.1]; exact IntsZ.nil _, by rw [hwr.out]; exact put2 (below_dn (below_dn HTK0.out.old _) _) HWR.out _ _⟩
          · have HE := hid_mk (HN2.out rfl)
            obtain ⟨r0, q0, q1, f0, f1⟩ : rb < wr.heap.size ∧ wr.cell? ⟨rb, 0, none⟩ = some (.int .i64 0) ∧ wr.cell? ⟨rb, 1, none⟩ = some (.slice none 0 0) ∧ wr.frozen? ⟨rb, 0, none⟩ = false ∧ wr.frozen? ⟨rb, 1, none⟩ = false := by
              rw [hwr.out]
              exact blk2 HR0.out
            clear HN2 HST
            go_wp2
            go_quiet (with_reducible exact Calls.quiet_of (HA.out _))
            go_wp2
            exact bodyPost_ret (v := .tuple #[.agg #[.int .i64 0, .slice none 0 0], .int .i64 9]) (by simp [results, Try.results16, go_sem, q0, q1]) rfl ⟨_, by rw [HE.out.1, HE.out.2.2], by rw [HE.out.2.1]; exact IntsZ.nil _, by rw [hwr.out]; exact put2 (below_dn (below_dn HTK0.out.old _) _) HWR.out _ _⟩
        · obtain rfl : k = G.length := by omega
          obtain ⟨e1, e2, e3⟩ := HY2.out hfr.out
          subst e1
          subst e2
          subst e3
          have HTK : Hid (TkS w w1.heap.size bx rb T (.slice va L.length vc) wr.drew) := hid_mk (by rw [hwr.out]; exact (HTK0.out.below (below_drewN _ _)).below (Below.refl _ _).drew)
          obtain ⟨B, hB⟩ : ∃ B, w1.heap.size = B := ⟨_, rfl⟩
          rw [hB] at HTK HRB0
          have HRB : Hid (rb < B) := HRB0
          have HBXB : Hid (bx < B) := hid_mk (by have := HBR.out; have := HRB.out; omega)
          have HWB : Hid (w.heap.size ≤ B) := hid_mk (by have := HBX.out; have := HBXB.out; omega)
          clear hB HTK0 HR0 HRB0 HT2 HY2 HCN x0 x1 x2
          go_wp2_with fail
          refine wp_region_outl3 4 [(7, Chg (fun b => B ≤ b)), (9, PutFr rb)] [(4, 7)] []
              [(fun v _ => v = .pointer (some ⟨bx, 0, none⟩)),
              (fun v _ => v = .int .i64 T),
              (fun v _ => ∃ g, v = .slice (some ⟨g, 0, none⟩) 0 0),
              (fun v _ => v = .slice ga G.length gc),
              (fun v W => RowA B W v G),
              (fun v _ => v = .pointer (some ⟨bx, 1, none⟩)),
              (fun v _ => v = .slice va L.length vc),
              (fun v W => IntsN B W v (G ++ L)),
              (fun v W => ∃ x, v = .agg #[.int .i64 T, x] ∧ IntsN B W x (G ++ L)),
              (fun _ W => ∃ x, BlkAt W rb [.int .i64 T, x] 24 ∧ IntsN B W x (G ++ L)),
              (fun v _ => v = .int .i64 0)]
              (TkS w B bx rb T (.slice va L.length vc)) (by kernel_rfl) (by kernel_rfl) (by kernel_rfl) ?_ (fun u u' hb h => h.below hb) (HTK.out) ?_ ?_ ?_ ?_ ?_
          · refine And.intro (up_eq _) ?_
            refine And.intro (up_eq _) ?_
            refine And.intro (up_slice0) ?_
            refine And.intro (up_eq _) ?_
            refine And.intro (up_rowA _ _) ?_
            refine And.intro (up_eq _) ?_
            refine And.intro (up_eq _) ?_
            refine And.intro (up_intsN _ _) ?_
            refine And.intro (up_agg _ _ _) ?_
            refine And.intro (up_blk _ _ _ _ _) ?_
            refine And.intro (up_eq _) ?_
            trivial
          · trivial
          · trivial
          · refine And.intro (And.intro ?_ (fun u u' hc h => h.chg hc HBXB.out HRB.out HWB.out)) ?_
            · refine And.intro (fun _ _ _ => ch_eq _ _) ?_
              refine And.intro (fun _ _ _ => ch_eq _ _) ?_
              refine And.intro (fun _ _ _ => fun _ _ _ _ h => h) ?_
              refine And.intro (fun _ _ _ => ch_eq _ _) ?_
              refine And.intro (fun _ h _ => absurd rfl h) ?_
              refine And.intro (fun _ _ _ => ch_eq _ _) ?_
              refine And.intro (fun _ _ _ => ch_eq _ _) ?_
              refine And.intro (fun h _ _ => absurd rfl h) ?_
              refine And.intro (fun _ _ h => late_absurd (by kernel_rfl) h) ?_
              refine And.intro (fun _ _ h => late_absurd (by kernel_rfl) h) ?_
              refine And.intro (fun _ _ _ => ch_eq _ _) ?_
              trivial
            refine And.intro (And.intro ?_ (fun u u' hb h => h.put HNE.out HWR.out hb)) ?_
            · refine And.intro (fun _ _ _ => ch_eq _ _) ?_
              refine And.intro (fun _ _ _ => ch_eq _ _) ?_
              refine And.intro (fun _ _ _ => fun _ _ _ _ h => h) ?_
              refine And.intro (fun _ _ _ => ch_eq _ _) ?_
              refine And.intro (fun _ _ _ => rowA_put HRB.out) ?_
              refine And.intro (fun _ _ _ => ch_eq _ _) ?_
              refine And.intro (fun _ _ _ => ch_eq _ _) ?_
              refine And.intro (fun _ _ _ => putFr_intsN HRB.out) ?_
              refine And.intro (fun _ _ _ => putFr_agg HRB.out) ?_
              refine And.intro (fun h _ _ => absurd rfl h) ?_
              refine And.intro (fun _ _ _ => ch_eq _ _) ?_
              trivial
            trivial
          · refine And.intro ?_ (And.intro ?_ (And.intro ?_ (And.intro ?_ (And.intro ?_ (And.intro ?_ (And.intro ?_ (And.intro ?_ (And.intro ?_ (And.intro ?_ (And.intro ?_ (True.intro)))))))))))
            · refine qstep_val (.pointer (some ⟨bx, 0, none⟩)) (by kernel_rfl) (by kernel_rfl) rfl (fun _ A1 W1 inv hnl hall => ⟨wanted_none rfl, ?_, rfl⟩)
              have h2 : A1.eval (.tmp 2) = .pointer (some ⟨bx, 0, none⟩) := (inv.base 2 (by kernel_rfl)).trans rfl
              simp only [execOp, h2]
              simp [go_sem]
            · refine qstep_val (.int .i64 T) (by kernel_rfl) (by kernel_rfl) rfl (fun _ A1 W1 inv hnl hall => ⟨wanted_none rfl, ?_, rfl⟩)
              have h57 : A1.eval (.tmp 57) = .pointer (some ⟨bx, 0, none⟩) := inv.get hall 0 57 (by kernel_rfl) (by kernel_rfl) rfl
              have gg := inv.s.c0
              simp only [execOp, h57]
              simp [go_sem, gg]
            · refine qstep_run (by kernel_rfl) (by kernel_rfl) rfl (fun _ A1 W1 inv hnl hall => ⟨wanted_none rfl, ?_⟩)
              refine ⟨.slice (some ⟨W1.heap.size, 0, none⟩) 0 0, W1.alloc (.cells #[] 3), ?_, ⟨_, rfl⟩, below_box _ _⟩
              simp [execOp, go_sem]
            · refine qstep_val (.slice ga G.length gc) (by kernel_rfl) (by kernel_rfl) rfl (fun _ A1 W1 inv hnl hall => ⟨wanted_none rfl, ?_, rfl⟩)
              have h1 : A1.eval (.tmp 1) = .slice ga G.length gc := (inv.base 1 (by kernel_rfl)).trans rfl
              simp only [execOp, h1, Sem.run_pure]
            · refine qstep_run (by kernel_rfl) (by kernel_rfl) rfl (fun _ A1 W1 inv hnl hall => ⟨wanted_none rfl, ?_⟩)
              have h59 : (fun v _ => ∃ g, v = .slice (some ⟨g, 0, none⟩) 0 0) (A1.eval (.tmp 59)) W1 := inv.get hall 2 59 (by kernel_rfl) (by kernel_rfl) rfl
              have h60 : A1.eval (.tmp 60) = .slice ga G.length gc := inv.get hall 3 60 (by kernel_rfl) (by kernel_rfl) rfl
              obtain ⟨g, hg⟩ := h59
              obtain ⟨v', w', h1, h2, h3⟩ := app_rowA (B := B) g (HU.out.below inv.s.old) inv.s.sz HGn.out
              refine ⟨v', w', ?_, h2, h3⟩
              simp only [execOp]
              simp [resolve, invoke, builtin, h60, hg, h1, Result.andThen]
            · refine qstep_val (.pointer (some ⟨bx, 1, none⟩)) (by kernel_rfl) (by kernel_rfl) rfl (fun _ A1 W1 inv hnl hall => ⟨wanted_none rfl, ?_, rfl⟩)
              have h2 : A1.eval (.tmp 2) = .pointer (some ⟨bx, 0, none⟩) := (inv.base 2 (by kernel_rfl)).trans rfl
              simp only [execOp, h2]
              simp [go_sem]
            · refine qstep_val (.slice va L.length vc) (by kernel_rfl) (by kernel_rfl) rfl (fun _ A1 W1 inv hnl hall => ⟨wanted_none rfl, ?_, rfl⟩)
              have h62 : A1.eval (.tmp 62) = .pointer (some ⟨bx, 1, none⟩) := inv.get hall 5 62 (by kernel_rfl) (by kernel_rfl) rfl
              have gg := inv.s.c1
              simp only [execOp, h62]
              simp [go_sem, gg]
            · refine qstep_own (by kernel_rfl) (by kernel_rfl) rfl (fun _ A1 W1 inv hnl hall => ⟨wanted_none rfl, ?_⟩)
              have h61 : (fun v W => RowA B W v G) (A1.eval (.tmp 61)) W1 := inv.get1 (i := 7) hnl hall 4 61 (by kernel_rfl) (by kernel_rfl) rfl
              have h63 : A1.eval (.tmp 63) = .slice va L.length vc := inv.get hall 6 63 (by kernel_rfl) (by kernel_rfl) rfl
              obtain ⟨v', w', h1, h2, h3⟩ := app_rowB h61 (HV.out.below inv.s.old) inv.s.sz HGn.out HLn.out
              refine ⟨v', w', ?_, h2, h3⟩
              simp only [execOp]
              simp [resolve, invoke, builtin, h63, h1, Result.andThen]
            · refine qstep_ex (by kernel_rfl) (by kernel_rfl) rfl (fun _ A1 W1 inv hnl hall => ⟨wanted_none rfl, ?_⟩)
              have h58 : A1.eval (.tmp 58) = .int .i64 T := inv.get hall 1 58 (by kernel_rfl) (by kernel_rfl) rfl
              have h64 : (fun v W => IntsN B W v (G ++ L)) (A1.eval (.tmp 64)) W1 := inv.get hall 7 64 (by kernel_rfl) (by kernel_rfl) rfl
              refine ⟨.agg #[.int .i64 T, A1.eval (.tmp 64)], ?_, _, rfl, h64⟩
              obtain ⟨_, _, hh⟩ := h64.len
              simp only [execOp, List.map_toArray, List.map_cons, List.map_nil, h58, hh]
              simp [go_sem]
            · refine qstep_skip (by kernel_rfl) (by kernel_rfl) rfl (fun _ A1 W1 inv hnl hall => ⟨wanted_none rfl, ?_⟩)
              have h4 : A1.eval (.tmp 4) = .pointer (some ⟨rb, 0, none⟩) := (inv.base 4 (by kernel_rfl)).trans rfl
              have h65 : (fun v W => ∃ x, v = .agg #[.int .i64 T, x] ∧ IntsN B W x (G ++ L)) (A1.eval (.tmp 65)) W1 := inv.get hall 8 65 (by kernel_rfl) (by kernel_rfl) rfl
              obtain ⟨x, hx, hi⟩ := h65
              obtain ⟨x1, x2, hr⟩ := inv.s.res
              obtain ⟨_, _, hh⟩ := hi.len
              refine ⟨(W1.setCell ⟨rb, 0, none⟩ (.int .i64 T)).setCell ⟨rb, 1, none⟩ x, ?_, ⟨x, (hr.set 0 _).set 1 _, putFr_intsN HRB.out _ _ _ ⟨_, _, rfl⟩ hi⟩, ⟨_, _, rfl⟩⟩
              simp only [execOp, h4, hx]
              rw [hh]
              have c0 := hr.cell 0
              have c1 := hr.cell 1
              have f0 := hr.free 0
              have f1 := hr.free 1
              simp at c0 c1
              simp [go_sem, c0, c1, f0, f1]
            · refine qstep_val (.int .i64 0) (by kernel_rfl) (by kernel_rfl) rfl (fun _ A1 W1 inv hnl hall => ⟨wanted_none rfl, ?_, rfl⟩)
              simp only [execOp, Sem.run_pure]
              rfl
          · intro listed A1 W1 inv hall
            have e57 : A1.eval (.tmp 57) = .pointer (some ⟨bx, 0, none⟩) := inv.fin 0 57 (by kernel_rfl) (hall 0 (Nat.lt_of_lt_of_eq (by decide : 0 < 11) (by kernel_rfl))) rfl
            have e58 : A1.eval (.tmp 58) = .int .i64 T := inv.fin 1 58 (by kernel_rfl) (hall 1 (Nat.lt_of_lt_of_eq (by decide : 1 < 11) (by kernel_rfl))) rfl
            have e60 : A1.eval (.tmp 60) = .slice ga G.length gc := inv.fin 3 60 (by kernel_rfl) (hall 3 (Nat.lt_of_lt_of_eq (by decide : 3 < 11) (by kernel_rfl))) rfl
            have e62 : A1.eval (.tmp 62) = .pointer (some ⟨bx, 1, none⟩) := inv.fin 5 62 (by kernel_rfl) (hall 5 (Nat.lt_of_lt_of_eq (by decide : 5 < 11) (by kernel_rfl))) rfl
            have e63 : A1.eval (.tmp 63) = .slice va L.length vc := inv.fin 6 63 (by kernel_rfl) (hall 6 (Nat.lt_of_lt_of_eq (by decide : 6 < 11) (by kernel_rfl))) rfl
            have e5 : A1.eval (.tmp 5) = .int .i64 0 := inv.fin 10 5 (by kernel_rfl) (hall 10 (Nat.lt_of_lt_of_eq (by decide : 10 < 11) (by kernel_rfl))) rfl
            have p59 : (fun v _ => ∃ g, v = .slice (some ⟨g, 0, none⟩) 0 0) (A1.eval (.tmp 59)) W1 := inv.fin 2 59 (by kernel_rfl) (hall 2 (Nat.lt_of_lt_of_eq (by decide : 2 < 11) (by kernel_rfl))) rfl
            obtain ⟨v59, e59⟩ : ∃ v, A1.eval (.tmp 59) = v := ⟨_, rfl⟩
            rw [e59] at p59
            obtain ⟨v61, e61⟩ : ∃ v, A1.eval (.tmp 61) = v := ⟨_, rfl⟩
            have p64 : (fun v W => IntsN B W v (G ++ L)) (A1.eval (.tmp 64)) W1 := inv.fin 7 64 (by kernel_rfl) (hall 7 (Nat.lt_of_lt_of_eq (by decide : 7 < 11) (by kernel_rfl))) rfl
            obtain ⟨v64, e64⟩ : ∃ v, A1.eval (.tmp 64) = v := ⟨_, rfl⟩
            rw [e64] at p64
            have p65 : (fun v W => ∃ x, v = .agg #[.int .i64 T, x] ∧ IntsN B W x (G ++ L)) (A1.eval (.tmp 65)) W1 := inv.fin 8 65 (by kernel_rfl) (hall 8 (Nat.lt_of_lt_of_eq (by decide : 8 < 11) (by kernel_rfl))) rfl
            obtain ⟨v65, e65⟩ : ∃ v, A1.eval (.tmp 65) = v := ⟨_, rfl⟩
            rw [e65] at p65
            have hst9 := inv.fin0 9 (by kernel_rfl) (hall 9 (Nat.lt_of_lt_of_eq (by decide : 9 < 11) (by kernel_rfl))) rfl
            have HF := inv.frame hall
            have HS9 := hid_mk inv.s
            simp only [putEnd, e57, e58, e60, e62, e63, e5, e59, e61, e64, e65, Act.put, List.setIfInBounds_toArray, List.set_cons_succ, List.set_cons_zero] at HF
            clear e57 e58 e60 e62 e63 e5 e59 e61 e64 e65 inv hall
            subst HF
            obtain ⟨x9, hx9, hi9⟩ := hst9
            obtain ⟨_, q0, q1, _⟩ := blk2 hx9
            have HI9 := hid_mk hi9
            go_wp2_with fail
            exact bodyPost_ret (v := .tuple #[.agg #[.int .i64 T, x9], .int .i64 0]) (by simp [results, Try.results16, go_sem, q0, q1]) rfl ⟨_, rfl, HI9.out.z, HS9.out.old⟩
end Go.Proofs.Ytfbimocgcnaogaa
