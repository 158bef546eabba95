/- Ww7 Ww8 Ww9: joined texts. Conditions: as each theorem names them. -/
import Derived.Test.YtfhhgcgbgmilcaaGreatKp33
import Derived.Test.YtfhhgcgbgmilcaaGreatKp22
import Derived.Test.YtfhhgcgbgmilcaaGreatKp28
import Derived.Deep.CutBlock
/- walk's map of numbers seen. Conditions: as each theorem names them. -/
namespace Go.Proofs.YtfhhgcgbgmilcaaGreat
open Go.ChangeShapes Go.WideShapes Go.ChangeAt Go.RowKit Go.Maps
set_option linter.unusedVariables false
set_option maxRecDepth 100000

theorem zeroUnit (w : World) : (zeroValue 105).run Tryz.prog w = .ok (.agg #[]) w := by kernel_rfl
/-- block mb is a map of at most n entries: the numbers of a list -/
def MapU (w : World) (mb n : Nat) (L : List Int) : Prop := ∃ D : DataW Unit, w.ownsMap Tryz.prog 3 unitElem mb n D ∧ ∀ x, I64 x → Maps.has D (.int .i64 x) = inB L x
theorem MapU.made (w : World) : MapU (w.alloc (.map #[] 0)) w.heap.size 0 [] := ⟨_, World.ownsMap_made _ _ _ _, fun x _ => by simp [inB, Maps.has]⟩
theorem MapU.lt {w : World} {mb n : Nat} {L : List Int} (h : MapU w mb n L) : mb < w.heap.size := by
  obtain ⟨D, h1, _⟩ := h
  exact h1.lt
theorem MapU.keep {w w' : World} {mb n : Nat} {L : List Int} (h : MapU w mb n L) (hb : w'.heap[mb]? = w.heap[mb]?) : MapU w' mb n L := by
  obtain ⟨D, ⟨es, clock, h1, F, hs, hD⟩, hf⟩ := h
  exact ⟨D, ⟨es, clock, hb.trans h1, F, hs, hD⟩, hf⟩
theorem MapU.below {w w' : World} {mb n : Nat} {L : List Int} (h : MapU w mb n L) (hb : Below w.heap.size w w') : MapU w' mb n L := h.keep (hb.block mb h.lt)
theorem MapU.kc {w w' : World} {mb n : Nat} {L : List Int} (h : MapU w mb n L) (hk : Kc w w') : MapU w' mb n L := by
  obtain ⟨D, ⟨es, clock, h1, F, hs, hD⟩, hf⟩ := h
  exact ⟨D, ⟨es, clock, hk.blk _ _ h1 not_wr_map, F, hs, hD⟩, hf⟩
theorem MapU.lookup {w : World} {mb n : Nat} {L : List Int} (h : MapU w mb n L) (x : Int) (hx : I64 x) : (Instr.lookup 154 (.map (some mb)) (.int .i64 x) true).run Tryz.prog w = .ok (.tuple #[.agg #[], .bool (inB L x)]) w := by
  obtain ⟨D, h1, h2⟩ := h
  obtain ⟨v, ps, hrun, hv⟩ := h1.look_ok klawI Tryz.underlying154 (zeroUnit w) unitElem_mk (keyI x hx)
  rw [h2 x hx] at hrun
  obtain ⟨rfl, _⟩ := unitElem_inv hv
  exact hrun
theorem MapU.update {w : World} {mb n : Nat} {L : List Int} (h : MapU w mb n L) (hn : n < 1000000) (x : Int) (hx : I64 x) :
    ∃ w', (Instr.mapUpdate 154 (.map (some mb)) (.int .i64 x) (.agg #[])).run Tryz.prog w = .ok () w' ∧ MapU w' mb (n + 1) (L ++ [x]) ∧ Chg (· = mb) w w' := by
  obtain ⟨D, h1, h2⟩ := h
  obtain ⟨w', hrun, h3, h4⟩ := h1.update (key := .int .i64 x) (val := .agg #[]) klawI Tryz.underlying154 (by simp [maxLen]; omega) (keyI x hx) unitElem_mk
  refine ⟨w', hrun, ⟨_, h3, fun z hz => ?_⟩, ⟨h4.os, h4.tape, h4.output, h4.size, fun k hk hne => h4.block k hk (fun e => hne (by injection e))⟩⟩
  by_cases e : z = x
  · subst e
    rw [has_put_same h1.isMap (by simp [WideAt.IsKeyLit])]
    simp [inB]
  · rw [has_put_other (fun h => e (by injection h)), h2 z hz]
    unfold inB
    simp [e]
/-- a map that is written: the rest of the state -/
theorem StC.chg {B : Nat} {w w' : World} {cb eb mb : Nat} {s : Cs} (h : StC B w cb eb s) (hc : Chg (· = mb) w w') (hm : ∃ es c, w.heap[mb]? = some (.map es c)) : StC B w' cb eb s := by
  obtain ⟨h1, h2, ⟨v, h3, h4⟩, h5, h6⟩ := h
  obtain ⟨es, c, hm⟩ := hm
  have hne : ∀ (b : Nat) (cs : Array Value) (t : TypeId) (z : Nat × Nat), w.heap[b]? = some (.cells cs t z) → w'.heap[b]? = some (.cells cs t z) := fun b cs t z hb => hc.keep hb (fun e => by
    have e : b = mb := e
    subst e
    rw [hm] at hb
    cases hb)
  refine ⟨h1, h2, ⟨v, hne _ _ _ _ h3, h4.1, ?_⟩, hne _ _ _ _ h5, h6⟩
  rcases h4.2 with hn | ⟨gg, cap, cur, rfl, hg, hh, rest⟩
  · exact .inl hn
  · exact .inr ⟨gg, cap, cur, rfl, hg, hne _ _ _ _ hh, rest⟩
theorem MapU.obj {w : World} {mb n : Nat} {L : List Int} (h : MapU w mb n L) : ∃ es c, w.heap[mb]? = some (.map es c) := by
  obtain ⟨D, ⟨es, clock, h1, _⟩, _⟩ := h
  exact ⟨es, clock, h1⟩
theorem Lc.chg {w0 w w1 w' : World} {cb eb mb : Nat} {s : Cs} (h : Lc w0 w cb eb s w1) (hc : Chg (· = mb) w1 w') (hm : ∃ es c, w1.heap[mb]? = some (.map es c)) (h0 : w0.heap.size ≤ mb) (h1 : w.heap.size ≤ mb) : Lc w0 w cb eb s w' :=
  ⟨h.st.chg hc hm, h.old.trans (hc.below h.old.size (fun k hk e => by have e : k = mb := e; omega)), h.kc.chg hc (fun b hb e => by have e : b = mb := e; omega)⟩
end Go.Proofs.YtfhhgcgbgmilcaaGreat

/- walk's closures: each. Conditions: as each theorem names them. -/
namespace Go.Proofs.YtfhhgcgbgmilcaaGreat
open Go.ChangeShapes Go.WideShapes Go.ChangeAt Go.RowKit
set_option linter.unusedVariables false
set_option maxRecDepth 100000

/-- what is done with each descriptor -/
def Does (w0 w : World) (cb eb F : Nat) (caps : Array Value) (step : Lk → Cs → Cs) (B : Nat) : Prop := ∀ u d s, Kc w u → Below w0.heap.size w0 u → StC w0.heap.size u cb eb s → isLk d → s.e = 0 → s.n ≤ B → s.S.length ≤ B → s.c ≤ B → Calls Tryz.prog F (#[lkV d] ++ caps) u fun e u' => e = .returned (.tuple #[]) ∧ Lc w0 u cb eb (step d s) u'
/-- how much was read -/
structure BndC (s0 s : Cs) (k : Nat) : Prop where
  n : s.n = s0.n + k
  S : s.S.length ≤ s0.S.length + k
  c : s.c ≤ s0.c + k
set_option maxHeartbeats 4000000 in
theorem veach (w0 : World) (mb cb eb p ib qb : Nat) (R : List (Int × Int)) (M : List Int) (a n from_ : Int) (DF F : Nat) (D : List Int → Int → Lk) (caps : Array Value) (step : Lk → Cs → Cs) (B : Nat) (s0 : Cs) (w : World)
    (hm : IsMem w0 p ib qb R M) (hst : StC w0.heap.size w cb eb s0) (ho : Below w0.heap.size w0 w) (hmb : BlkAt w mb [.pointer (some ⟨p, 0, none⟩)] 29) (hD : Dec DF n D)
    (ha0 : 0 ≤ a) (ha1 : a + 16 * n ≤ 18446744073709551616) (hn0 : 0 ≤ n) (hn1 : n ≤ 32768) (hf : I64 from_) (he0 : s0.e = 0) (hx1 : s0.n + 32770 ≤ B) (hx2 : s0.S.length + 32770 ≤ B) (hx3 : s0.c + 32770 ≤ B) (hBB : B ≤ 1000000) (hmild : Mild step)
    (hent : ∀ args u, (callFunc F args).run Tryz.prog u = .ok (.enter F args) u) (HDO : Does w0 w cb eb F caps step B) :
    Calls Tryz.prog 67 #[lgV a n DF, .int .i64 from_, .func (.func F) #[] caps, .pointer (some ⟨eb, 0, none⟩), .pointer (some ⟨mb, 0, none⟩), .pointer (some ⟨cb, 0, none⟩)] w fun e w' => e = .returned (.tuple #[]) ∧ Lc w0 w cb eb (eachF R M a n D step (n.toNat + 1) [] from_ s0) w' := by
  have HM := hid_mk hm
  have HST := hid_mk hst
  have HO := hid_mk ho
  have HMB := hid_mk hmb
  have HD := hid_mk hD
  have HA0 := hid_mk ha0
  have HA1 := hid_mk ha1
  have HN0 := hid_mk hn0
  have HN1 := hid_mk hn1
  have HX1 := hid_mk hx1
  have HX2 := hid_mk hx2
  have HX3 := hid_mk hx3
  have HBB := hid_mk hBB
  have HMI := hid_mk hmild
  have HDO := hid_mk HDO
  have HF := hid_mk hf
  have HE0 := hid_mk he0
  have HB2 := hid_mk ((below_box w (.cells #[.int .u64 a, .int .i64 n, .func (.func DF) #[] #[]] 152)).alloc (by simp) (.map #[] 0))
  have HLB := hid_mk ((blk_new w [.int .u64 a, .int .i64 n, .func (.func DF) #[] #[]] 152).below (below_box _ (.map #[] 0)))
  have HMU := hid_mk (MapU.made (w.alloc (.cells #[.int .u64 a, .int .i64 n, .func (.func DF) #[] #[]] 152)))
  rw [sizeA] at HMU
  clear hm hst ho hmb hD ha0 ha1 hn0 hn1 hx1 hx2 hx3 hBB hmild hf he0
  obtain ⟨FIN, hFIN⟩ : ∃ F, F = eachF R M a n D step (n.toNat + 1) [] from_ s0 := ⟨_, rfl⟩
  rw [← hFIN]
  have HFI := hid_mk hFIN
  clear hFIN
  have hmm := @run_makeMap Tryz.prog
  go_enter Tryz.func67, Tryz.ntmps67
  go_wp2

  go_loopg [10, 11, 12, 13, 14, 15] (n.toNat + 2) (fun kx kv bv _ _ _ _ wr => ∃ (Sn : List Int) (K : Int) (s : Cs) (b : Bool), kv = .int .i64 K ∧ bv = .bool b ∧ Sn.length + kx = n.toNat + 2 ∧ Hid (I64 K) ∧ Hid (SeenOK n Sn) ∧ Hid (MapU wr (w.heap.size + 1) Sn.length Sn) ∧ Hid (BlkAt wr w.heap.size [.int .u64 a, .int .i64 n, .func (.func DF) #[] #[]] 152) ∧ Hid (Lc w0 w cb eb s wr) ∧ Hid ((b && decide (s.e = 0)) = true → BndC s0 s Sn.length) ∧ Hid ((b && decide (s.e = 0)) = true → FIN = eachF R M a n D step (kx - 1) Sn K s) ∧ Hid ((b && decide (s.e = 0)) = false → FIN = s))
  case atStart => exact ⟨[], from_, s0, true, rfl, rfl, by simp, HF, hid_mk (SeenOK.nil n), HMU, HLB, hid_mk ((Lc.refl HST.out HO.out).below HB2.out), hid_mk (fun _ => ⟨rfl, Nat.le_refl _, Nat.le_refl _⟩), hid_mk (fun _ => HFI.out), hid_mk (fun h => by rw [HE0.out] at h; simp at h)⟩
  case round =>
    obtain ⟨Sn, K, s, b, rfl, rfl, hk, hKi, hsn, hmu, hlb, hlc, hbn, hw1, hw0⟩ := hrel
    obtain ⟨⟨hcb, heb⟩, cn, cc, ci, ce, fn, fc, fi, fe⟩ := hlc.out.st.cels
    obtain ⟨lb, l0, l1, l2, _⟩ := cw3 hlb.out
    have hmb1 := hlc.out.kc.at HMB.out (by decide) (by decide) (by decide)
    have hmlt := hmb1.lt
    have cm : wr.cell? ⟨mb, 0, none⟩ = some (.pointer (some ⟨p, 0, none⟩)) := hmb1.cell 0
    by_cases hc : (b && decide (s.e = 0)) = true
    · have hw := hid_mk (hw1.out hc)
      have HBN := hid_mk (hbn.out hc)
      rw [Bool.and_eq_true, decide_eq_true_eq] at hc
      obtain ⟨rfl, hse⟩ := hc
      rw [hse] at ce
      have hln := hsn.out.len HN0.out
      obtain ⟨f, rfl⟩ : ∃ f, gk = f + 2 := ⟨gk - 2, by have := HN0.out; omega⟩
      rw [show f + 2 - 1 = f + 1 from rfl, eachF_succ] at hw
      have hs33 : Sn.length ≤ 32768 := by have := HN1.out; omega
      have HS33 := hid_mk hs33
      have hlk := hmu.out.lookup K hKi.out
      clear hw1 hw0 hln hs33 hmb1
      cases hin : inB Sn K
      · rw [hin, if_neg (by decide)] at hw
        rw [hin] at hlk
        obtain ⟨w2, hup, hmu2, hchg⟩ := (hmu.out.below (below_box wr (.cells #[] 105))).update (by have := HS33.out; omega) K hKi.out
        have HL2 := hid_mk ((hlc.out.below (below_box wr (.cells #[] 105))).chg hchg (hmu.out.below (below_box wr (.cells #[] 105))).obj (by have := HO.out.size; omega) (by omega))
        have HLB2 : Hid (BlkAt w2 w.heap.size [.int .u64 a, .int .i64 n, .func (.func DF) #[] #[]] 152) := hid_mk (hchg.keep (hlb.out.below (below_box wr (.cells #[] 105))) (fun e => absurd e (by omega)))
        have HMU2 := hid_mk hmu2
        have HIN := hid_mk hin
        obtain ⟨⟨hcb2, heb2⟩, cn2, cc2, ci2, ce2, fn2, fc2, fi2, fe2⟩ := HL2.out.st.cels
        obtain ⟨lb2, k0, k1, k2, _⟩ := cw3 HLB2.out
        have hmb2 := HL2.out.kc.at HMB.out (by decide) (by decide) (by decide)
        have hmlt2 := hmb2.lt
        have cm2 : w2.cell? ⟨mb, 0, none⟩ = some (.pointer (some ⟨p, 0, none⟩)) := hmb2.cell 0
        have HG := hid_mk (vget p ib qb R M a n K DF D w2 (HM.out.below HL2.out.old) HD.out HA0.out HA1.out HN1.out)
        have HIS := hid_mk (gtD_is (R := R) (M := M) (a := a) (i := K) HD.out HM.out.ok HM.out.len HM.out.rng)
        have HOK := hid_mk (fun h => gtE_okI (R := R) (a := a) (n := n) (i := K) h)
        unfold lkV at HG
        clear hmb2 hmu2 hchg hmu hlb hlc hin
        generalize gtE R a n K = E at *
        generalize gtD R M a n D K = d at *
        go_wp2_with fail
        refine HG.out.mono ?_
        rintro e w3 ⟨rfl, hb3⟩
        have HL3 := hid_mk (HL2.out.below hb3)
        have HMU3 := hid_mk (HMU2.out.below hb3)
        have HLB3 := hid_mk (HLB2.out.below hb3)
        obtain ⟨⟨hcb3, heb3⟩, cn3, cc3, ci3, ce3, fn3, fc3, fi3, fe3⟩ := HL3.out.st.cels
        clear hb3 HG lb2 k0 k1 k2 hmlt2 cm2 hcb2 heb2 cn2 cc2 ci2 ce2 fn2 fc2 fi2 fe2 hcb heb cn cc ci ce fn fc fi fe lb l0 l1 l2 hmlt cm hup hlk HL2 HMU2 HLB2
        by_cases hE : E = 0
        · rw [if_pos hE] at hw
          have HIO := hid_mk (HOK.out hE)
          subst hE
          have hse1 : s.one.e = 0 := hse
          have hw64 : IntKind.i64.wrap ((s.n : Int) + 1) = (s.n : Int) + 1 := IntWalk.i64_in _ (by have := HBN.out.n; have := HS33.out; have := HX1.out; have := HBB.out; omega)
          have HL4 : Hid (Lc w0 w cb eb s.one ((w3.setCell ⟨cb, 1, none⟩ (.int .i64 ((s.n : Int) + 1))).alloc (.cells #[.int .u64 d.s.a, .int .u32 d.s.n, .bool d.s.t, .bool d.t, .int .i64 d.id, .int .i64 d.nx, .bool d.m] 157))) := hid_mk ((HL3.out.wrN (s.n + 1)).below (below_box _ _))
          have HBX := hid_mk (blk_new (w3.setCell ⟨cb, 1, none⟩ (.int .i64 ((s.n : Int) + 1))) [.int .u64 d.s.a, .int .u32 d.s.n, .bool d.s.t, .bool d.t, .int .i64 d.id, .int .i64 d.nx, .bool d.m] 157)
          have HCL := hid_mk (HDO.out _ d s.one HL4.out.kc HL4.out.old HL4.out.st HIS.out hse1 (by have := HBN.out.n; have := HX1.out; have := HS33.out; show s.n + 1 ≤ B; omega) (by have := HBN.out.S; have := HX2.out; have := HS33.out; show s.S.length ≤ B; omega) (by have := HBN.out.c; have := HX3.out; have := HS33.out; show s.c ≤ B; omega))
          unfold lkV at HCL
          have HK4 : Hid (Kc w3 ((w3.setCell ⟨cb, 1, none⟩ (.int .i64 ((s.n : Int) + 1))).alloc (.cells #[.int .u64 d.s.a, .int .u32 d.s.n, .bool d.s.t, .bool d.t, .int .i64 d.id, .int .i64 d.nx, .bool d.m] 157))) := hid_mk (((Lc.refl HL3.out.st HL3.out.old).wrN (s.n + 1)).below (below_box _ _)).kc
          rw [World.size_setCell] at HBX
          go_wp2_with (go_at_fn F; refine HCL.out.mono ?_; rintro e w5 ⟨rfl, hl5⟩; have HL5 := hid_mk ((hl5.pre HL4.out.kc).below (Below.refl _ _).drew); have HMU5 := hid_mk ((HMU3.out.kc (HK4.out.trans hl5.kc)).below (Below.refl _ _).drew); have HLB5 := hid_mk (((HK4.out.trans hl5.kc).at HLB3.out (by decide) (by decide) (by decide)).below (Below.refl _ _).drew); obtain ⟨x0, _, _, _, _, _, x5, x6, _⟩ := cells7 (hl5.kc.at HBX.out (by decide) (by decide) (by decide)); clear hl5)
          go_region
          go_wp2_with fail
          go_roundg (f + 1)
          case measure => omega
          case rel => exact ⟨Sn ++ [K], d.nx, step d s.one, d.m, rfl, rfl, by simp; omega, hid_mk ⟨by have := HIS.out.n0; omega, by have := HIS.out.n1; omega⟩, hid_mk (hsn.out.snoc HIN.out HIO.out), by simpa using HMU5, HLB5, HL5, hid_mk (fun h => by
              rw [Bool.and_eq_true, decide_eq_true_eq] at h
              obtain ⟨g1, g2, g3⟩ := HMI.out d s.one h.1 h.2
              have b1 := HBN.out.n
              have b2 := HBN.out.S
              have b3 := HBN.out.c
              have e1 : s.one.n = s.n + 1 := rfl
              have e2 : s.one.S = s.S := rfl
              have e3 : s.one.c = s.c := rfl
              rw [e2] at g2
              exact ⟨by simp; omega, by simp; omega, by simp; omega⟩), hid_mk (fun h => by rw [hw.out, if_pos h]; rfl), hid_mk (fun h => by rw [hw.out, if_neg (by rw [h]; decide)])⟩
        · rw [if_neg hE] at hw
          have bE : (E != 0) = true := by simp; exact hE
          clear hE
          go_wp2_with fail
          exact bodyPost_ret (results_none rfl _ _ _) rfl ⟨rfl, by rw [hw.out]; exact (HL3.out.wrE E).below (below_box _ _)⟩
      · rw [hin, if_pos rfl] at hw
        rw [hin] at hlk
        go_wp2_with fail
        exact bodyPost_ret (results_none rfl _ _ _) rfl ⟨rfl, by rw [hw.out]; exact (hlc.out.wrE 4).below (below_box _ _)⟩
    · have hc : (b && decide (s.e = 0)) = false := by simpa using hc
      have hw := hid_mk (hw0.out hc)
      clear hw1 hw0
      cases b
      · go_wp2_with fail
        go_end0
        exact ⟨rfl, by rw [hw.out]; exact hlc.out⟩
      · have hse : (s.e == 0) = false := by
          rw [Bool.true_and] at hc
          simpa using hc
        clear hc
        generalize s.e = E at *
        go_wp2_with fail
        go_end0
        exact ⟨rfl, by rw [hw.out]; exact hlc.out⟩
end Go.Proofs.YtfhhgcgbgmilcaaGreat

/- walk's closures: a descriptor of the ring. Conditions: as each theorem names them. -/
namespace Go.Proofs.YtfhhgcgbgmilcaaGreat
open Go.ChangeShapes Go.WideShapes Go.ChangeAt Go.RowKit
set_option linter.unusedVariables false
set_option maxRecDepth 100000

/-- what follow's closures hold -/
structure Env (w : World) (cb eb mb tb rb xb yb p : Nat) (tables pk : Bool) (n d g c : Int) : Prop where
  m : BlkAt w mb [.pointer (some ⟨p, 0, none⟩)] 29
  t : BlkAt w tb [.bool tables] 4
  r : BlkAt w rb [.bool pk, .int .i64 n, .int .u64 d, .int .u64 g, .int .u64 c] 32
  x : BlkAt w xb [.func (.func 67) #[] #[.pointer (some ⟨eb, 0, none⟩), .pointer (some ⟨mb, 0, none⟩), .pointer (some ⟨cb, 0, none⟩)]] 160
  y : BlkAt w yb [.func (.func 69) #[] #[.pointer (some ⟨eb, 0, none⟩), .pointer (some ⟨cb, 0, none⟩)]] 153
theorem Env.kc {w w' : World} {cb eb mb tb rb xb yb p : Nat} {tables pk : Bool} {n d g c : Int} (h : Env w cb eb mb tb rb xb yb p tables pk n d g c) (hk : Kc w w') : Env w' cb eb mb tb rb xb yb p tables pk n d g c :=
  ⟨hk.at h.m (by decide) (by decide) (by decide), hk.at h.t (by decide) (by decide) (by decide), hk.at h.r (by decide) (by decide) (by decide), hk.at h.x (by decide) (by decide) (by decide), hk.at h.y (by decide) (by decide) (by decide)⟩
theorem Env.cells {w : World} {cb eb mb tb rb xb yb p : Nat} {tables pk : Bool} {n d g c : Int} (h : Env w cb eb mb tb rb xb yb p tables pk n d g c) : (mb < w.heap.size ∧ tb < w.heap.size ∧ rb < w.heap.size ∧ xb < w.heap.size ∧ yb < w.heap.size) ∧ w.cell? ⟨mb, 0, none⟩ = some (.pointer (some ⟨p, 0, none⟩)) ∧ w.cell? ⟨tb, 0, none⟩ = some (.bool tables) ∧ w.cell? ⟨rb, 0, none⟩ = some (.bool pk) ∧ w.cell? ⟨xb, 0, none⟩ = some (.func (.func 67) #[] #[.pointer (some ⟨eb, 0, none⟩), .pointer (some ⟨mb, 0, none⟩), .pointer (some ⟨cb, 0, none⟩)]) ∧ w.cell? ⟨yb, 0, none⟩ = some (.func (.func 69) #[] #[.pointer (some ⟨eb, 0, none⟩), .pointer (some ⟨cb, 0, none⟩)]) := ⟨⟨h.m.lt, h.t.lt, h.r.lt, h.x.lt, h.y.lt⟩, h.m.cell 0, h.t.cell 0, h.r.cell 0, h.x.cell 0, h.y.cell 0⟩
abbrev capsR (cb eb mb tb rb xb yb : Nat) : Array Value := #[.pointer (some ⟨cb, 0, none⟩), .pointer (some ⟨tb, 0, none⟩), .pointer (some ⟨rb, 0, none⟩), .pointer (some ⟨eb, 0, none⟩), .pointer (some ⟨mb, 0, none⟩), .pointer (some ⟨xb, 0, none⟩), .pointer (some ⟨yb, 0, none⟩)]
theorem does_entry (w0 w : World) (cb eb B : Nat) (hB : B ≤ 100000) : Does w0 w cb eb 69 #[.pointer (some ⟨eb, 0, none⟩), .pointer (some ⟨cb, 0, none⟩)] stE B := by
  intro u d s hk ho hs hd he h1 h2 h3
  exact ventry w0 cb eb d s u hs ho hd (by omega)
set_option maxHeartbeats 4000000 in
theorem vring (w0 : World) (cb eb mb tb rb xb yb p ib qb : Nat) (R : List (Int × Int)) (M : List Int) (tables pk : Bool) (n dd g c : Int) (d : Lk) (s : Cs) (w : World)
    (hm : IsMem w0 p ib qb R M) (henv : Env w cb eb mb tb rb xb yb p tables pk n dd g c) (h : StC w0.heap.size w cb eb s) (ho : Below w0.heap.size w0 w) (hd : isLk d) (he : s.e = 0) (h1 : s.n ≤ 40000) (h2 : s.S.length ≤ 40000) (h3 : s.c ≤ 40000) :
    Calls Tryz.prog 71 #[lkV d, .pointer (some ⟨cb, 0, none⟩), .pointer (some ⟨tb, 0, none⟩), .pointer (some ⟨rb, 0, none⟩), .pointer (some ⟨eb, 0, none⟩), .pointer (some ⟨mb, 0, none⟩), .pointer (some ⟨xb, 0, none⟩), .pointer (some ⟨yb, 0, none⟩)] w fun e w' => e = .returned (.tuple #[]) ∧ Lc w0 w cb eb (st3 R M tables pk d s) w' := by
  have HM := hid_mk hm
  have HD := hid_mk hd
  have HE := hid_mk he
  have H1 := hid_mk h1
  have H2 := hid_mk h2
  have H3 := hid_mk h3
  have HL1 : Hid (Lc w0 w cb eb (s.ring d.id) (((w.setCell ⟨cb, 2, none⟩ (.int .i64 ((s.c : Int) + 1))).setCell ⟨cb, 3, none⟩ (.int .i64 d.id)).alloc (.cells #[.int .u64 d.s.a, .int .u32 d.s.n, .bool d.s.t, .bool d.t, .int .i64 d.id, .int .i64 d.nx, .bool d.m] 157))) := hid_mk ((((Lc.refl h ho).wrC (s.c + 1)).wrI d.id).below (below_box _ _))
  have HV1 := hid_mk (henv.kc HL1.out.kc)
  have HBX := hid_mk (blk_new ((w.setCell ⟨cb, 2, none⟩ (.int .i64 ((s.c : Int) + 1))).setCell ⟨cb, 3, none⟩ (.int .i64 d.id)) [.int .u64 d.s.a, .int .u32 d.s.n, .bool d.s.t, .bool d.t, .int .i64 d.id, .int .i64 d.nx, .bool d.m] 157)
  rw [World.size_setCell, World.size_setCell] at HBX
  obtain ⟨⟨hcb, heb⟩, cn, cc, ci, ce, fn, fc, fi, fe⟩ := h.cels
  have hw64 : IntKind.i64.wrap ((s.c : Int) + 1) = (s.c : Int) + 1 := IntWalk.i64_in _ (by omega)
  clear hm henv h ho hd he h1 h2 h3
  obtain ⟨FIN, hFIN⟩ : ∃ F, F = st3 R M tables pk d s := ⟨_, rfl⟩
  rw [← hFIN]
  have HFI := hid_mk hFIN
  clear hFIN
  unfold lkV
  go_enter Tryz.func71, Tryz.ntmps71
  go_upto_region 3 with fail
  generalize (((w.setCell ⟨cb, 2, none⟩ (.int .i64 ((s.c : Int) + 1))).setCell ⟨cb, 3, none⟩ (.int .i64 d.id)).alloc (.cells #[.int .u64 d.s.a, .int .u32 d.s.n, .bool d.s.t, .bool d.t, .int .i64 d.id, .int .i64 d.nx, .bool d.m] 157)) = w1 at *
  clear hw64 cn cc ci ce fn fc fi fe hcb heb
  obtain ⟨⟨e1, e2, e3, e4, e5⟩, e6, e7, e8, e9, e10⟩ := HV1.out.cells
  obtain ⟨⟨hcb, heb⟩, cn, cc0, ci, ce, fn, fc, fi, fe⟩ := HL1.out.st.cels
  obtain ⟨x, x0, x1, x2, x3, x4, x5, x6, _⟩ := cells7 HBX.out
  have cc : w1.cell? ⟨cb, 2, none⟩ = some (.int .i64 ((s.c : Int) + 1)) := cc0
  clear HBX cc0
  cases ht : d.t
  · rw [ht] at x3
    have HST : Hid (FIN = (s.ring d.id).seg d.s) := hid_mk (by
      rw [HFI.out]
      unfold st3
      rw [if_pos ht])
    obtain ⟨va, vc, na, nc, w2, j1, j2, j3, j4, j5, j6, j7⟩ := HL1.out.more d.s HD.out.s (by have := H2.out; show s.S.length ≤ 100000; omega)
    have HJ := hid_mk j7
    have HR := hid_mk j3
    clear j7 j3
    go_wp2_with (at_builtin; refine wpList_append_run (v := .slice va s.S.length vc) (u := .slice (some ⟨w1.heap.size, 0, none⟩) 1 1) (v' := .slice na (s.S.length + 1) nc) (w' := w2) rfl _ _ 22 rfl (by first | rfl | go_simp) (by first | rfl | go_simp) (HR.out _) ?_)
    exact bodyPost_ret (results_none rfl _ _ _) rfl ⟨rfl, by rw [HST.out]; exact HJ.out⟩
  · rw [ht] at x3
    by_cases hbad : ((!tables || d.m) || (pk && decide (1 < s.c + 1))) = true
    · have HST : Hid (FIN = (s.ring d.id).stop 4) := hid_mk (by
        rw [HFI.out]
        unfold st3
        rw [if_neg (by rw [ht]; decide), if_pos hbad])
      have HS4 := hid_mk (HL1.out.wrE 4)
      rw [← HST.out] at HS4
      cases htb : tables
      · subst htb
        go_wp2_with fail
        exact bodyPost_ret (results_none rfl _ _ _) rfl ⟨rfl, HS4.out⟩
      · subst htb
        cases hdm : d.m
        · rw [hdm] at x6 hbad
          have hp : pk = true ∧ 1 < s.c + 1 := by simpa using hbad
          obtain ⟨rfl, hp⟩ := hp
          have b1 : decide (1 < (s.c : Int) + 1) = true := decide_eq_true (by omega)
          clear hp hbad
          go_wp2_with fail
          exact bodyPost_ret (results_none rfl _ _ _) rfl ⟨rfl, HS4.out⟩
        · rw [hdm] at x6
          go_wp2_with fail
          exact bodyPost_ret (results_none rfl _ _ _) rfl ⟨rfl, HS4.out⟩
    · have HST : Hid (FIN = if wenE R d.s.a d.s.n = 0 then eachF R M d.s.a (d.s.n / 16) (tabD pk (d.s.n / 16)) stE ((d.s.n / 16).toNat + 1) [] 0 (s.ring d.id) else (s.ring d.id).stop (wenE R d.s.a d.s.n)) := hid_mk (by
        rw [HFI.out]
        unfold st3
        rw [if_neg (by rw [ht]; decide), if_neg hbad]
        rfl)
      have hbad : ((!tables || d.m) || (pk && decide (1 < s.c + 1))) = false := by simpa using hbad
      obtain ⟨hb1, hb3⟩ := Bool.or_eq_false_iff.1 hbad
      obtain ⟨hb1, hb2⟩ := Bool.or_eq_false_iff.1 hb1
      have hb1 : tables = true := by simpa using hb1
      subst hb1
      rw [hb2] at x6
      have HT := hid_mk (vtableof p ib qb R M d.s.a d.s.n d.s.t pk w1 (HM.out.below HL1.out.old) HD.out.s.1 HD.out.s.2)
      have hpk : pk = false ∨ (pk = true ∧ decide (1 < (s.c : Int) + 1) = false) := by
        cases pk
        · exact Or.inl rfl
        · right
          refine ⟨rfl, decide_eq_false ?_⟩
          have : ¬ 1 < s.c + 1 := by simpa using hb3
          omega
      clear hbad hb2 hb3
      by_cases hE : wenE R d.s.a d.s.n = 0
      · rw [hE, if_pos rfl] at HT
        rw [if_pos hE] at HST
        have hc : 16 ≤ d.s.n ∧ d.s.n % 16 = 0 ∧ d.s.n / 16 ≤ 64 ∧ (loc R d.s.a d.s.n).isSome = true := by
          have hh := HD.out.s.2
          rcases wenE_cases R d.s.a d.s.n with ⟨_, g1, g2, g3, g4⟩ | ⟨e, _⟩ | ⟨e, _⟩
          · exact ⟨by omega, g2, g3, g4⟩
          · rw [e] at hE
            cases hE
          · rw [e] at hE
            cases hE
        have htop := loc_top HM.out.ok hc.2.2.2
        have HEA := hid_mk (fun (W : World) (hl : Lc w0 w cb eb (s.ring d.id) W) (hmb : BlkAt W mb [.pointer (some ⟨p, 0, none⟩)] 29) => veach w0 mb cb eb p ib qb R M d.s.a (d.s.n / 16) 0 (entN pk) 69 (tabD pk (d.s.n / 16)) #[.pointer (some ⟨eb, 0, none⟩), .pointer (some ⟨cb, 0, none⟩)] stE 90000 (s.ring d.id) W HM.out hl.st hl.old hmb (dec_tab pk _ (by omega)) htop.1 (by omega) (by omega) (by omega) (by decide) HE.out (by have := H1.out; show s.n + 32770 ≤ 90000; omega) (by have := H2.out; show s.S.length + 32770 ≤ 90000; omega) (by have := H3.out; show s.c + 1 + 32770 ≤ 90000; omega) (by decide) mild_stE (fun args u => run_callFunc_body (by kernel_rfl) args u) (does_entry w0 W cb eb 90000 (by decide)))
        rw [← HST.out] at HEA
        clear hE hc htop
        generalize d.s.n / 16 = nn at *
        generalize entN pk = EN at *
        rcases hpk with rfl | ⟨rfl, b1⟩
        all_goals
          go_wp2_with fail
          refine HT.out.mono ?_
          rintro e w2 ⟨rfl, hb⟩
          have HL2 := hid_mk ((HL1.out.below hb).below (below_box w2 (.cells #[.int .u64 d.s.a, .int .i64 nn, .func (.func EN) #[] #[]] 152)))
          have HV2 := hid_mk ((HV1.out.kc (Kc.below hb)).kc (Kc.below (below_box w2 (.cells #[.int .u64 d.s.a, .int .i64 nn, .func (.func EN) #[] #[]] 152))))
          obtain ⟨⟨e1, e2, e3, e4, e5⟩, e6, e7, e8, e9, e10⟩ := (HV1.out.kc (Kc.below hb)).cells
          clear hb hcb heb cn cc ci ce fn fc fi fe x x0 x1 x2 x3 x4 x5 x6
          go_wp2_with fail
          refine (HEA.out _ HL2.out HV2.out.m).mono ?_
          rintro e w4 ⟨rfl, hl4⟩
          have HL4 := hid_mk (hl4.pre HL2.out.kc)
          clear hl4
          go_wp2_with fail
          go_end0
          exact ⟨rfl, HL4.out⟩
      · rw [if_neg hE] at HT HST
        have hE2 : (wenE R d.s.a d.s.n != 0) = true := by simp; exact hE
        generalize wenE R d.s.a d.s.n = E at *
        clear hE
        rcases hpk with rfl | ⟨rfl, b1⟩
        all_goals
          go_wp2_with fail
          refine HT.out.mono ?_
          rintro e w2 ⟨rfl, hb⟩
          have HL2 := hid_mk (HL1.out.below hb)
          clear hb e1 e2 e3 e4 e5 e6 e7 e8 e9 e10 hcb heb cn cc ci ce fn fc fi fe x x0 x1 x2 x3 x4 x5 x6
          obtain ⟨⟨hcb, heb⟩, cn, cc, ci, ce, fn, fc, fi, fe⟩ := HL2.out.st.cels
          go_wp2_with fail
          exact bodyPost_ret (results_none rfl _ _ _) rfl ⟨rfl, by rw [HST.out]; exact (HL2.out.wrE E).below (below_box _ _)⟩
end Go.Proofs.YtfhhgcgbgmilcaaGreat
