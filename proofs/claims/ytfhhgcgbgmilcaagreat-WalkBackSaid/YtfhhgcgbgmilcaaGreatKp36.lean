/- Wkc Wl0 Rf7: joined texts. Conditions: as each theorem names them. -/
import Derived.Test.YtfhhgcgbgmilcaaGreatKp35
import Derived.Test.YtfhhgcgbgmilcaaGreatKp19
import Derived.Test.YtfhhgcgbgmilcaaGreatKp18
/- walk's Split, Reads, Packed. Conditions: as each theorem names them. -/
namespace Go.Proofs.YtfhhgcgbgmilcaaGreat
open Go.ChangeShapes Go.WideShapes Go.ChangeAt Go.RowKit
set_option linter.unusedVariables false
set_option maxRecDepth 100000

theorem wksplit_nil (pk : Bool) (n d g c head : Int) (table : Bool) (w : World) :
    Calls Tryz.prog 11 #[.pointer none, rV pk n d g c, .int .i64 head, .bool table] w fun e w' => ∃ v, e = .returned (.tuple #[v, .int .i64 1]) ∧ SegsAt w' v [] ∧ Below w.heap.size w w' := by
  go_enter Tryz.func11, Tryz.ntmps11
  go_wp2_with (go_at_call 33; refine (vusable_nil _ _ _ _ _ _ _).mono ?_; rintro e w1 ⟨rfl, hb⟩)
  go_ret2
  exact ⟨_, rfl, SegsAt_nil _, (below_box w _).trans (hb.mono (by simp))⟩
theorem wkreads_nil (pk : Bool) (n d g c head : Int) (table : Bool) (w : World) :
    Calls Tryz.prog 15 #[.pointer none, rV pk n d g c, .int .i64 head, .bool table] w fun e w' => e = .returned (.int .i64 0) ∧ Below w.heap.size w w' := by
  go_enter Tryz.func15, Tryz.ntmps15
  go_wp2_with (go_at_call 33; refine (vusable_nil _ _ _ _ _ _ _).mono ?_; rintro e w1 ⟨rfl, hb⟩)
  go_ret
  exact ⟨rfl, (below_box w _).trans (hb.mono (by simp))⟩
set_option maxHeartbeats 1000000 in
theorem wksplit (p ib qb : Nat) (R : List (Int × Int)) (M : List Int) (pk : Bool) (n d g c head : Int) (table : Bool) (w : World) (hm : IsMem w p ib qb R M) (hd : U64 d) (hg : U64 g) (hc : U64 c) (hh : I64 head) :
    Calls Tryz.prog 11 #[.pointer (some ⟨p, 0, none⟩), rV pk n d g c, .int .i64 head, .bool table] w fun e w' => ∃ v, e = .returned (.tuple #[v, .int .i64 (wsE R M pk n d g c head table)]) ∧ SegsAt w' v (wsL R M pk n d g c head table) ∧ Below w.heap.size w w' := by
  have HM := hid_mk hm
  have HU := hid_mk (fun u (h : Below w.heap.size w u) => vusable p ib qb R M pk false n d g c u (hm.below h) hd hg hc)
  have HX := hid_mk (blk_new w [.bool pk, .int .i64 n, .int .u64 d, .int .u64 g, .int .u64 c] 32)
  unfold wsE wsL
  by_cases hz : wrfE pk false n d g c = 0
  · rw [if_pos hz, if_pos hz]
    rw [hz] at HU
    have hpk := wrfE_pk hz
    subst hpk
    obtain ⟨n1, n2, n3⟩ := rg_ok hz
    have HF := hid_mk (fun u (h : Below w.heap.size w u) => vfollow p ib qb R M table false n d g c head u (hm.below h) hd.1 n3 n1 n2 hh)
    have hfs := foll_split R M n d head table
    have hne := foll_ne R M false n d head table
    generalize follF R M false n d head table = fo at *
    rw [← hfs]
    have HNE := hid_mk hne
    clear hm hd hg hc hh hz n1 n2 n3 hfs hne
    obtain ⟨AE, hAE⟩ : ∃ x, x = wndE R (prS fo) := ⟨_, rfl⟩
    obtain ⟨AL, hAL⟩ : ∃ x, x = wndL R (prS fo) := ⟨_, rfl⟩
    rw [← hAE, ← hAL]
    have HAE : Hid (AE = if fo.e = 0 then bufE R fo.S else fo.e) := hid_mk (by
      rw [hAE]
      rfl)
    have HAL : Hid (AL = if AE = 0 then fo.S else []) := hid_mk (by
      rw [hAL, hAE]
      rfl)
    clear hAE hAL
    go_enter Tryz.func11, Tryz.ntmps11
    go_wp2_with fail
    refine (HU.out _ (by exact below_box w _)).mono ?_
    rintro e w1 ⟨rfl, hb⟩
    have HB1 := hid_mk ((below_box w _).trans (hb.mono (by simp)))
    have HX1 := hid_mk (HX.out.below hb)
    have k0 : w1.cell? ⟨w.heap.size, 0, none⟩ = some (.bool false) := HX1.out.cell 0
    have k1 : w1.cell? ⟨w.heap.size, 1, none⟩ = some (.int .i64 n) := HX1.out.cell 1
    have k2 : w1.cell? ⟨w.heap.size, 2, none⟩ = some (.int .u64 d) := HX1.out.cell 2
    have k3 : w1.cell? ⟨w.heap.size, 3, none⟩ = some (.int .u64 g) := HX1.out.cell 3
    have k4 : w1.cell? ⟨w.heap.size, 4, none⟩ = some (.int .u64 c) := HX1.out.cell 4
    clear hb
    go_wp2_with fail
    refine (HF.out _ HB1.out).mono ?_
    rintro e w2 ⟨v, rfl, ho, hs, hb⟩
    obtain ⟨va, vc, rfl⟩ := ho.at.len
    have HB2 := hid_mk (below_then HB1.out hb)
    have HV := hid_mk ho.at
    have HS := hid_mk hs
    clear hb ho hs k0 k1 k2 k3 k4
    by_cases h0 : fo.e = 0
    · have HA2 := HAE
      rw [if_pos h0] at HA2
      have HBuf := hid_mk (fun u (h : Below w2.heap.size w2 u) => vbuffer p ib qb R M (.slice va fo.S.length vc) fo.S fo.n fo.c fo.id u ((HM.out.below HB2.out).below h) (HV.out.below h) HS.out (HNE.out h0))
      rw [h0]
      clear h0
      go_wp2_with fail
      refine (HBuf.out _ (by exact below_box w2 _)).mono ?_
      rintro e w3 ⟨rfl, hb⟩
      have HB3 := hid_mk (below_then HB2.out ((below_box w2 _).trans (hb.mono (by simp))))
      have HV3 := hid_mk (HV.out.below ((below_box w2 _).trans (hb.mono (by simp))))
      clear hb HBuf
      generalize bufE R fo.S = E at *
      obtain ⟨vr, hvr⟩ : ∃ x, x = (if E = 0 then Value.slice va fo.S.length vc else .slice none 0 0) := ⟨_, rfl⟩
      rw [← hvr]
      have HVR := hid_mk hvr
      clear hvr
      go_wp2_with fail
      go_ret2
      refine ⟨vr, ret_eq (by rw [HA2.out]; rfl), ?_, HB3.out⟩
      rw [HAL.out, HA2.out, HVR.out]
      by_cases hE : E = 0
      · rw [if_pos hE, if_pos hE]
        exact HV3.out
      · rw [if_neg hE, if_neg hE]
        exact SegsAt_nil _
    · have b1 : (fo.e != 0) = true := by simp; exact h0
      have HA2 := HAE
      rw [if_neg h0] at HA2
      have HH0 := hid_mk h0
      clear h0
      generalize fo.e = E at *
      go_wp2_with fail
      go_ret2
      refine ⟨.slice none 0 0, ret_eq (by rw [HA2.out]; rfl), ?_, below_then HB2.out (below_box _ _)⟩
      rw [HAL.out, HA2.out, if_neg HH0.out]
      exact SegsAt_nil _
  · rw [if_neg hz, if_neg hz]
    have b1 : (wrfE pk false n d g c != 0) = true := by simp; exact hz
    generalize wrfE pk false n d g c = z at *
    clear hz hm hd hg hc hh
    go_enter Tryz.func11, Tryz.ntmps11
    go_wp2_with fail
    refine (HU.out _ (by exact below_box w _)).mono ?_
    rintro e w1 ⟨rfl, hb⟩
    have HB1 := hid_mk ((below_box w _).trans (hb.mono (by simp)))
    clear hb
    go_wp2_with fail
    go_ret2
    exact ⟨_, rfl, SegsAt_nil _, HB1.out⟩
set_option maxHeartbeats 1000000 in
theorem wkreads (p ib qb : Nat) (R : List (Int × Int)) (M : List Int) (pk : Bool) (n d g c head : Int) (table : Bool) (w : World) (hm : IsMem w p ib qb R M) (hd : U64 d) (hg : U64 g) (hc : U64 c) (hh : I64 head) :
    Calls Tryz.prog 15 #[.pointer (some ⟨p, 0, none⟩), rV pk n d g c, .int .i64 head, .bool table] w fun e w' => e = .returned (.int .i64 (wsN R M pk n d g c head table : Nat)) ∧ Below w.heap.size w w' := by
  have HU := hid_mk (fun u (h : Below w.heap.size w u) => vusable p ib qb R M pk false n d g c u (hm.below h) hd hg hc)
  have HX := hid_mk (blk_new w [.bool pk, .int .i64 n, .int .u64 d, .int .u64 g, .int .u64 c] 32)
  unfold wsN
  by_cases hz : wrfE pk false n d g c = 0
  · rw [if_pos hz]
    rw [hz] at HU
    have hpk := wrfE_pk hz
    subst hpk
    obtain ⟨n1, n2, n3⟩ := rg_ok hz
    have HF := hid_mk (fun u (h : Below w.heap.size w u) => vfollow p ib qb R M table false n d g c head u (hm.below h) hd.1 n3 n1 n2 hh)
    have hfs := foll_split R M n d head table
    generalize follF R M false n d head table = fo at *
    rw [← hfs]
    have e1 : (prS fo).n = fo.n := rfl
    rw [e1]
    clear hm hd hg hc hh hz n1 n2 n3 hfs e1
    go_enter Tryz.func15, Tryz.ntmps15
    go_wp2_with fail
    refine (HU.out _ (by exact below_box w _)).mono ?_
    rintro e w1 ⟨rfl, hb⟩
    have HB1 := hid_mk ((below_box w _).trans (hb.mono (by simp)))
    have HX1 := hid_mk (HX.out.below hb)
    have k0 : w1.cell? ⟨w.heap.size, 0, none⟩ = some (.bool false) := HX1.out.cell 0
    have k1 : w1.cell? ⟨w.heap.size, 1, none⟩ = some (.int .i64 n) := HX1.out.cell 1
    have k2 : w1.cell? ⟨w.heap.size, 2, none⟩ = some (.int .u64 d) := HX1.out.cell 2
    have k3 : w1.cell? ⟨w.heap.size, 3, none⟩ = some (.int .u64 g) := HX1.out.cell 3
    have k4 : w1.cell? ⟨w.heap.size, 4, none⟩ = some (.int .u64 c) := HX1.out.cell 4
    clear hb
    go_wp2_with fail
    refine (HF.out _ HB1.out).mono ?_
    rintro e w2 ⟨v, rfl, ho, hs, hb⟩
    obtain ⟨va, vc, rfl⟩ := ho.at.len
    have HB2 := hid_mk (below_then HB1.out hb)
    clear hb ho hs k0 k1 k2 k3 k4
    go_wp2_with fail
    go_ret
    exact ⟨rfl, below_then HB2.out (below_box _ _)⟩
  · rw [if_neg hz]
    have b1 : (wrfE pk false n d g c != 0) = true := by simp; exact hz
    generalize wrfE pk false n d g c = z at *
    clear hz hm hd hg hc hh
    go_enter Tryz.func15, Tryz.ntmps15
    go_wp2_with fail
    refine (HU.out _ (by exact below_box w _)).mono ?_
    rintro e w1 ⟨rfl, hb⟩
    have HB1 := hid_mk ((below_box w _).trans (hb.mono (by simp)))
    clear hb
    go_wp2_with fail
    go_ret
    exact ⟨rfl, HB1.out⟩
end Go.Proofs.YtfhhgcgbgmilcaaGreat

/- Layer 10's spots as they came in. Conditions: as each theorem names them. -/
namespace Go.Proofs.YtfhhgcgbgmilcaaGreat
open Go.ChangeShapes Go.WideShapes Go.ChangeAt Go.RowKit
set_option linter.unusedVariables false
set_option maxRecDepth 100000

/-- a descriptor to be written somewhere -/
structure Spt where
  at_ : Int
  s : Dsc
  p : Dsc
instance : Inhabited Spt := ⟨⟨0, default, default⟩⟩
def sptAt (L : List Spt) (i : Nat) : Spt := L.getD i default
structure isSpt (x : Spt) : Prop where
  a : -9223372036854775808 ≤ x.at_ ∧ x.at_ < 9223372036854775808
  s : isDsc x.s
  p : isDsc x.p
def isSpts (L : List Spt) : Prop := ∀ j, j < L.length → isSpt (sptAt L j)
def at9 (w : World) (b o : Nat) (x : Spt) : Prop := (w.cell? ⟨b, o, none⟩ = some (.int .i64 x.at_)) ∧ (w.cell? ⟨b, o + 1, none⟩ = some (.int .u64 x.s.a) ∧ w.cell? ⟨b, o + 2, none⟩ = some (.int .u32 x.s.l) ∧ w.cell? ⟨b, o + 3, none⟩ = some (.int .u16 x.s.f) ∧ w.cell? ⟨b, o + 4, none⟩ = some (.int .u16 x.s.n)) ∧ (w.cell? ⟨b, o + 5, none⟩ = some (.int .u64 x.p.a) ∧ w.cell? ⟨b, o + 6, none⟩ = some (.int .u32 x.p.l) ∧ w.cell? ⟨b, o + 7, none⟩ = some (.int .u16 x.p.f) ∧ w.cell? ⟨b, o + 8, none⟩ = some (.int .u16 x.p.n))
/-- a slice of spots that reads as L -/
def SpotsAt (w : World) (v : Value) (L : List Spt) : Prop :=
  ((∃ a c, v = .slice a 0 c ∧ (a = none → c = 0)) ∧ L = []) ∨ ∃ b o c : Nat, v = .slice (some ⟨b, o, none⟩) L.length c ∧ b < w.heap.size ∧ L.length ≤ c ∧ ∀ j, j < L.length → at9 w b (o + j * 9) (sptAt L j)
theorem at9.below {w w' : World} {b o : Nat} {x : Spt} (h : at9 w b o x) (hb : Below w.heap.size w w') (hlt : b < w.heap.size) : at9 w' b o x := by
  obtain ⟨h0, ⟨h1, h2, h3, h4⟩, h5, h6, h7, h8⟩ := h
  exact ⟨(hb.cell hlt).trans h0, ⟨(hb.cell hlt).trans h1, (hb.cell hlt).trans h2, (hb.cell hlt).trans h3, (hb.cell hlt).trans h4⟩, (hb.cell hlt).trans h5, (hb.cell hlt).trans h6, (hb.cell hlt).trans h7, (hb.cell hlt).trans h8⟩
theorem SpotsAt.below {w w' : World} {v : Value} {L : List Spt} (h : SpotsAt w v L) (hb : Below w.heap.size w w') : SpotsAt w' v L := by
  rcases h with h | ⟨b, o, c, h1, h2, h3, h4⟩
  · exact Or.inl h
  · have := hb.size
    exact Or.inr ⟨b, o, c, h1, by omega, h3, fun j hj => (h4 j hj).below hb h2⟩
theorem SpotsAt.len {w : World} {v : Value} {L : List Spt} (h : SpotsAt w v L) : ∃ a c, v = .slice a L.length c := by
  rcases h with ⟨⟨a, c, rfl, _⟩, rfl⟩ | ⟨b, o, c, rfl, _⟩
  · exact ⟨a, c, rfl⟩
  · exact ⟨_, c, rfl⟩
theorem list9 {α : Type} {l : List α} (h : l.length = 9) : ∃ a b c d e f g i j, l = [a, b, c, d, e, f, g, i, j] := by
  match l, h with
  | [a, b, c, d, e, f, g, i, j], _ => exact ⟨a, b, c, d, e, f, g, i, j, rfl⟩
theorem list3 {α : Type} {l : List α} (h : l.length = 3) : ∃ a b c, l = [a, b, c] := by
  match l, h with
  | [a, b, c], _ => exact ⟨a, b, c, rfl⟩
section
variable {H : Type} {enc : TypeId × Value → H} {W : World} {r : Reach} {b0 : Nat} {v : Value} {d : DataW H} {p : List MemPlace}
theorem open_spots (hval : Value.okWide Tryz.prog W r b0 86 v) (h : DataW.Trod enc Tryz.prog W 0 (fun _ => true) true 86 v d p) :
    ∃ L, SpotsAt W v L ∧ isSpts L ∧ L.length ≤ maxLen := by
  obtain ⟨a, len, cap, rfl⟩ := okWide_slice Tryz.underlying86 hval
  obtain ⟨fuel, hf⟩ := h
  rcases Go.Deep.open_slice Tryz.underlying86 hf with ⟨hcs, _⟩ | ⟨a', len', cap', m, n, D, Pl, hcs, _, hle, hmax, hm, _, hx⟩
  · simp [Value.cells] at hcs
    obtain ⟨rfl, rfl, rfl⟩ := hcs
    exact ⟨[], Or.inl ⟨⟨_, _, rfl, fun _ => rfl⟩, rfl⟩, (fun d hd => by simp at hd), by simp⟩
  · simp [Value.cells] at hcs
    obtain ⟨rfl, rfl, rfl⟩ := hcs
    simp only [if_true] at hm
    subst hm
    have hC : Tryz.prog.cellsOf 90 = 9 := by kernel_rfl
    have hCi : Tryz.prog.cellsOf 3 = 1 := by kernel_rfl
    have hCd : Tryz.prog.cellsOf 44 = 4 := by kernel_rfl
    have hCp : Tryz.prog.cellsOf 63 = 4 := by kernel_rfl
    have hC64 : Tryz.prog.cellsOf 25 = 1 := by kernel_rfl
    have hC32 : Tryz.prog.cellsOf 26 = 1 := by kernel_rfl
    have hC16 : Tryz.prog.cellsOf 42 = 1 := by kernel_rfl
    have each : ∀ i, i < len → ∃ x : Spt, ((W.cell? (a'.add (i * 9)) = some (.int .i64 x.at_)) ∧ (W.cell? (a'.add (i * 9 + 1)) = some (.int .u64 x.s.a) ∧ W.cell? (a'.add (i * 9 + 2)) = some (.int .u32 x.s.l) ∧ W.cell? (a'.add (i * 9 + 3)) = some (.int .u16 x.s.f) ∧ W.cell? (a'.add (i * 9 + 4)) = some (.int .u16 x.s.n)) ∧ (W.cell? (a'.add (i * 9 + 5)) = some (.int .u64 x.p.a) ∧ W.cell? (a'.add (i * 9 + 6)) = some (.int .u32 x.p.l) ∧ W.cell? (a'.add (i * 9 + 7)) = some (.int .u16 x.p.f) ∧ W.cell? (a'.add (i * 9 + 8)) = some (.int .u16 x.p.n))) ∧ isSpt x := fun i hi => by
      obtain ⟨cs', h1, h2⟩ := hx i (by omega)
      rw [hC] at h1
      obtain ⟨_, hlen, hcell⟩ := World.cells?_some h1
      obtain ⟨v0, v1, v2, v3, v4, v5, v6, v7, v8, rfl⟩ := list9 hlen
      obtain ⟨xs, k, hk, hxy, _, hxl, hfd⟩ := DataW.trod_struct Tryz.underlying90 h2
      obtain ⟨y0, y1, y2, rfl⟩ := list3 hxl
      have g0 := hfd 0 _ rfl
      have g1 := hfd 1 _ rfl
      have g2 := hfd 2 _ rfl
      simp [hCi, hCd, hCp] at g0 g1 g2
      obtain ⟨n0, e0, _, w0⟩ := DataW.trod_int Tryz.underlying3 g0
      obtain ⟨xs1, k1, hk1, hxy1, _, hxl1, hfd1⟩ := DataW.trod_struct Tryz.underlying44 g1
      obtain ⟨z0, z1, z2, z3, rfl⟩ := list4 hxl1
      have q0 := hfd1 0 _ rfl
      have q1 := hfd1 1 _ rfl
      have q2 := hfd1 2 _ rfl
      have q3 := hfd1 3 _ rfl
      simp [hC64, hC32, hC16] at q0 q1 q2 q3
      obtain ⟨xs2, k2, hk2, hxy2, _, hxl2, hfd2⟩ := DataW.trod_struct Tryz.underlying63 g2
      obtain ⟨t0, t1, t2, t3, rfl⟩ := list4 hxl2
      have r0 := hfd2 0 _ rfl
      have r1 := hfd2 1 _ rfl
      have r2 := hfd2 2 _ rfl
      have r3 := hfd2 3 _ rfl
      simp [hC64, hC32, hC16] at r0 r1 r2 r3
      obtain ⟨n1, e1, _, w1⟩ := DataW.trod_int Tryz.underlying25 q0
      obtain ⟨n2, e2, _, w2⟩ := DataW.trod_int Tryz.underlying26 q1
      obtain ⟨n3, e3, _, w3⟩ := DataW.trod_int Tryz.underlying42 q2
      obtain ⟨n4, e4, _, w4⟩ := DataW.trod_int Tryz.underlying42 q3
      obtain ⟨n5, e5, _, w5⟩ := DataW.trod_int Tryz.underlying25 r0
      obtain ⟨n6, e6, _, w6⟩ := DataW.trod_int Tryz.underlying26 r1
      obtain ⟨n7, e7, _, w7⟩ := DataW.trod_int Tryz.underlying42 r2
      obtain ⟨n8, e8, _, w8⟩ := DataW.trod_int Tryz.underlying42 r3
      simp at e0 e1 e2 e3 e4 e5 e6 e7 e8
      subst e0 e1 e2 e3 e4 e5 e6 e7 e8
      have c0 := hcell 0 (by omega)
      have c1 := hcell 1 (by omega)
      have c2 := hcell 2 (by omega)
      have c3 := hcell 3 (by omega)
      have c4 := hcell 4 (by omega)
      have c5 := hcell 5 (by omega)
      have c6 := hcell 6 (by omega)
      have c7 := hcell 7 (by omega)
      have c8 := hcell 8 (by omega)
      rw [Go.Deep.add_add] at c0 c1 c2 c3 c4 c5 c6 c7 c8
      have u0 := bounds_i64 w0
      have u1 := bounds_u64 w1
      have u2 := bounds_u32 w2
      have u3 := bounds_u16 w3
      have u4 := bounds_u16 w4
      have u5 := bounds_u64 w5
      have u6 := bounds_u32 w6
      have u7 := bounds_u16 w7
      have u8 := bounds_u16 w8
      exact ⟨⟨n0, ⟨n1, n2, n3, n4⟩, ⟨n5, n6, n7, n8⟩⟩, ⟨c0, ⟨c1, c2, c3, c4⟩, c5, c6, c7, c8⟩, ⟨by simp only; omega, ⟨by simp only; omega, by simp only; omega, by simp only; omega, by simp only; omega⟩, ⟨by simp only; omega, by simp only; omega, by simp only; omega, by simp only; omega⟩⟩⟩
    obtain ⟨f, hf2⟩ := Go.Deep.choose_lt each
    have hlen : ((List.range len).map f).length = len := by simp
    have hat : ∀ i, i < len → sptAt ((List.range len).map f) i = f i := fun i hi => by simp [sptAt, List.getD, hi]
    refine ⟨(List.range len).map f, ?_, (fun j hj => by rw [hlen] at hj; rw [hat j hj]; exact (hf2 j hj).2), by rw [hlen]; omega⟩
    by_cases h0 : len = 0
    · subst h0
      exact Or.inl ⟨⟨_, _, rfl, fun h => by cases h⟩, rfl⟩
    · obtain ⟨b, off, spot⟩ := a'
      have hspot : spot = none := by simpa [Addr.add] using World.cell?_spot (hf2 0 (by omega)).1.1
      subst hspot
      have h00 := (hf2 0 (by omega)).1.1
      rw [add_plain] at h00
      refine Or.inr ⟨b, off, m, by rw [hlen], World.block_lt_of_cell? W _ h00, by omega, fun j hj => ?_⟩
      rw [hlen] at hj
      have h1 := (hf2 j hj).1
      simp only [add_plain] at h1
      rw [hat j hj]
      obtain ⟨g0, ⟨g1, g2, g3, g4⟩, g5, g6, g7, g8⟩ := h1
      exact ⟨g0, ⟨by rw [Nat.add_assoc]; exact g1, by rw [Nat.add_assoc]; exact g2, by rw [Nat.add_assoc]; exact g3, by rw [Nat.add_assoc]; exact g4⟩, by rw [Nat.add_assoc]; exact g5, by rw [Nat.add_assoc]; exact g6, by rw [Nat.add_assoc]; exact g7, by rw [Nat.add_assoc]; exact g8⟩
end
end Go.Proofs.YtfhhgcgbgmilcaaGreat

/- kit.SameRegions of two slices of the same regions. Conditions: as the theorem names them. -/
namespace Go.Proofs.YtfhhgcgbgmilcaaGreat
open Go.ChangeShapes Go.WideShapes Go.ChangeAt Go.RowKit
set_option linter.unusedVariables false

end Go.Proofs.YtfhhgcgbgmilcaaGreat
