/- Ww10 Ww13 Ww14: joined texts. Conditions: as each theorem names them. -/
import Derived.Test.YtfhhgcgbgmilcaaGreatKp34
import Derived.Test.YtfhhgcgbgmilcaaGreatKp33
import Derived.Test.YtfhhgcgbgmilcaaGreatKp12
/- walk's follow. Conditions: as each theorem names them. -/
namespace Go.Proofs.YtfhhgcgbgmilcaaGreat
open Go.ChangeShapes Go.WideShapes Go.ChangeAt Go.RowKit
set_option linter.unusedVariables false
set_option maxRecDepth 100000

theorem blk_old {w : World} {b : Nat} {C : List Value} {t : TypeId} (h : BlkAt w b C t) (o : Obj) : BlkAt (w.alloc o) b C t := h.below (below_box w o)
theorem blk_at {w : World} {b : Nat} {C : List Value} {t : TypeId} (h : w.heap.size = b) : BlkAt (w.alloc (.cells C.toArray t)) b C t := by
  subst h
  exact blk_new w C t
theorem does_ring (w0 w : World) (cb eb mb tb rb xb yb p ib qb : Nat) (R : List (Int × Int)) (M : List Int) (tables pk : Bool) (n dd g c : Int) (hm : IsMem w0 p ib qb R M) (henv : Env w cb eb mb tb rb xb yb p tables pk n dd g c) :
    Does w0 w cb eb 71 (capsR cb eb mb tb rb xb yb) (st3 R M tables pk) 40000 := by
  intro u d s hk ho hs hd he h1 h2 h3
  exact vring w0 cb eb mb tb rb xb yb p ib qb R M tables pk n dd g c d s u hm (henv.kc hk) hs ho hd he h1 h2 h3
theorem StC.new {w : World} {cb eb : Nat} (h1 : BlkAt w cb [.slice none 0 0, .int .i64 0, .int .i64 0, .int .i64 0] 98) (h2 : BlkAt w eb [.int .i64 0] 38) {B : Nat} (hc : B ≤ cb) (he : B ≤ eb) : StC B w cb eb ⟨[], 0, 0, 0, 0⟩ :=
  ⟨hc, he, ⟨_, h1, World.ownsRow_nil _ _ _ _⟩, h2, fun s hs => by cases hs⟩
theorem Lc.ends {w0 w w1 : World} {cb eb : Nat} {s : Cs} {v : Value} (h : Lc w0 w cb eb s w1) (hv : BlkAt w1 cb [v, .int .i64 (s.n : Int), .int .i64 (s.c : Int), .int .i64 s.id] 98) (ho : OwnS w0.heap.size w1 v s.S) (he : BlkAt w1 eb [.int .i64 s.e] 38) :
    OwnS w0.heap.size ((((((w1.setCell ⟨cb, 0, none⟩ v).setCell ⟨cb, 1, none⟩ (.int .i64 (s.n : Int))).setCell ⟨cb, 2, none⟩ (.int .i64 (s.c : Int))).setCell ⟨cb, 3, none⟩ (.int .i64 s.id)).setCell ⟨eb, 0, none⟩ (.int .i64 s.e)).drew) v s.S ∧ Below w0.heap.size w0 ((((((w1.setCell ⟨cb, 0, none⟩ v).setCell ⟨cb, 1, none⟩ (.int .i64 (s.n : Int))).setCell ⟨cb, 2, none⟩ (.int .i64 (s.c : Int))).setCell ⟨cb, 3, none⟩ (.int .i64 s.id)).setCell ⟨eb, 0, none⟩ (.int .i64 s.e)).drew) := by
  have hc := h.st.cB
  have hE := h.st.eB
  have hne := blk_ne he hv (by decide)
  have a1 := hv.set 0 v
  have a2 := a1.set 1 (.int .i64 (s.n : Int))
  have a3 := a2.set 2 (.int .i64 (s.c : Int))
  have a4 := a3.set 3 (.int .i64 s.id)
  have b1 := (((he.other hne v (i := 0)).other hne (.int .i64 (s.n : Int)) (i := 1)).other hne (.int .i64 (s.c : Int)) (i := 2)).other hne (.int .i64 s.id) (i := 3)
  have o1 := ownsRow_set (i := 0) ho (by decide) hv v
  have o2 := ownsRow_set (i := 1) o1 (by decide) a1 (.int .i64 (s.n : Int))
  have o3 := ownsRow_set (i := 2) o2 (by decide) a2 (.int .i64 (s.c : Int))
  have o4 := ownsRow_set (i := 3) o3 (by decide) a3 (.int .i64 s.id)
  have o5 := ownsRow_set (i := 0) o4 (by decide) b1 (.int .i64 s.e)
  exact ⟨ownsRow_below o5 (Below.refl _ _).drew, (((((h.old.setCell hc _).setCell hc _).setCell hc _).setCell hc _).setCell hE _).drew⟩
set_option maxHeartbeats 4000000 in
theorem vfollow (p ib qb : Nat) (R : List (Int × Int)) (M : List Int) (tables pk : Bool) (n d g c head : Int) (w : World)
    (hm : IsMem w p ib qb R M) (hd0 : 0 ≤ d) (hd1 : d + 16 * n ≤ 18446744073709551616) (hn0 : 1 ≤ n) (hn1 : n ≤ 32768) (hh : I64 head) :
    Calls Tryz.prog 34 #[.pointer (some ⟨p, 0, none⟩), rV pk n d g c, .int .i64 head, .bool tables] w fun e w' => ∃ v, e = .returned (.tuple #[.agg #[v, .int .i64 ((follF R M pk n d head tables).n : Int), .int .i64 ((follF R M pk n d head tables).c : Int), .int .i64 (follF R M pk n d head tables).id], .int .i64 (follF R M pk n d head tables).e]) ∧ OwnS w.heap.size w' v (follF R M pk n d head tables).S ∧ isSgs (follF R M pk n d head tables).S ∧ Below w.heap.size w w' := by
  have hmf : ∀ (fn : Fn) (first cap : Array Value) (w : World), (Instr.makeFunc fn first cap).run Tryz.prog w = .ok (.func fn first cap) w := fun _ _ _ _ => rfl
  have HM := hid_mk hm
  have HR := hid_mk (fun u => vringof pk n d g c u)
  generalize hfo : follF R M pk n d head tables = fo
  have HFO := hid_mk hfo
  clear hfo
  obtain ⟨w7, hw7⟩ : ∃ w7 : World, w7 = (((((((w.alloc (.cells #[.pointer (some ⟨p, 0, none⟩)] 29)).alloc (.cells #[.bool pk, .int .i64 n, .int .u64 d, .int .u64 g, .int .u64 c] 32)).alloc (.cells #[.bool tables] 4)).alloc (.cells #[.slice none 0 0, .int .i64 0, .int .i64 0, .int .i64 0] 98)).alloc (.cells #[.int .i64 0] 38)).alloc (.cells #[.func (.func 67) #[] #[.pointer (some ⟨w.heap.size + 1 + 1 + 1 + 1, 0, none⟩), .pointer (some ⟨w.heap.size, 0, none⟩), .pointer (some ⟨w.heap.size + 1 + 1 + 1, 0, none⟩)]] 160)).alloc (.cells #[.func (.func 69) #[] #[.pointer (some ⟨w.heap.size + 1 + 1 + 1 + 1, 0, none⟩), .pointer (some ⟨w.heap.size + 1 + 1 + 1, 0, none⟩)]] 153)) := ⟨_, rfl⟩
  have HB7 : Hid (Below w.heap.size w w7) := hid_mk (by
    rw [hw7]
    exact (((((((Below.refl _ w).alloc (by simp) _).alloc (by simp) _).alloc (by simp; omega) _).alloc (by simp; omega) _).alloc (by simp; omega) _).alloc (by simp; omega) _).alloc (by simp; omega) _)
  have hB : ∀ (b : Nat) (C : List Value) (t : TypeId), (((((((((w.alloc (.cells #[.pointer (some ⟨p, 0, none⟩)] 29)).alloc (.cells #[.bool pk, .int .i64 n, .int .u64 d, .int .u64 g, .int .u64 c] 32)).alloc (.cells #[.bool tables] 4)).alloc (.cells #[.slice none 0 0, .int .i64 0, .int .i64 0, .int .i64 0] 98)).alloc (.cells #[.int .i64 0] 38)).alloc (.cells #[.func (.func 67) #[] #[.pointer (some ⟨w.heap.size + 1 + 1 + 1 + 1, 0, none⟩), .pointer (some ⟨w.heap.size, 0, none⟩), .pointer (some ⟨w.heap.size + 1 + 1 + 1, 0, none⟩)]] 160)).alloc (.cells #[.func (.func 69) #[] #[.pointer (some ⟨w.heap.size + 1 + 1 + 1 + 1, 0, none⟩), .pointer (some ⟨w.heap.size + 1 + 1 + 1, 0, none⟩)]] 153))).heap[b]? = some (.cells C.toArray t (0, 0))) → BlkAt w7 b C t := fun b C t h => by
    rw [hw7]
    exact h
  have HENV : Hid (Env w7 (w.heap.size + 1 + 1 + 1) (w.heap.size + 1 + 1 + 1 + 1) w.heap.size (w.heap.size + 1 + 1) (w.heap.size + 1) (w.heap.size + 1 + 1 + 1 + 1 + 1) (w.heap.size + 1 + 1 + 1 + 1 + 1 + 1) p tables pk n d g c) := hid_mk ⟨hB _ _ _ (by repeat (first | exact blk_at (by simp) | refine blk_old ?_ _)), hB _ _ _ (by repeat (first | exact blk_at (by simp) | refine blk_old ?_ _)), hB _ _ _ (by repeat (first | exact blk_at (by simp) | refine blk_old ?_ _)), hB _ _ _ (by repeat (first | exact blk_at (by simp) | refine blk_old ?_ _)), hB _ _ _ (by repeat (first | exact blk_at (by simp) | refine blk_old ?_ _))⟩
  have HST : Hid (StC w.heap.size w7 (w.heap.size + 1 + 1 + 1) (w.heap.size + 1 + 1 + 1 + 1) ⟨[], 0, 0, 0, 0⟩) := hid_mk (StC.new (hB _ _ _ (by repeat (first | exact blk_at (by simp) | refine blk_old ?_ _))) (hB _ _ _ (by repeat (first | exact blk_at (by simp) | refine blk_old ?_ _))) (by omega) (by omega))
  clear hB
  have HD0 := hid_mk hd0
  have HD1 := hid_mk hd1
  have HN0 := hid_mk hn0
  have HN1 := hid_mk hn1
  have HH := hid_mk hh
  clear hm hd0 hd1 hn0 hn1 hh
  go_enter Tryz.func34, Tryz.ntmps34
  go_wp2
  rw [← hw7]
  clear hw7
  generalize w.heap.size + 1 + 1 + 1 + 1 + 1 + 1 = yb at *
  generalize w.heap.size + 1 + 1 + 1 + 1 + 1 = xb at *
  generalize w.heap.size + 1 + 1 + 1 + 1 = eb at *
  generalize w.heap.size + 1 + 1 + 1 = cb at *
  generalize w.heap.size + 1 + 1 = tb at *
  generalize w.heap.size + 1 = rb at *
  obtain ⟨mb, hmb⟩ : ∃ mb, mb = w.heap.size := ⟨_, rfl⟩
  rw [← hmb] at HENV
  rw [← hmb]
  clear hmb
  have hrb : rb < w7.heap.size := HENV.out.r.lt
  have hxb : xb < w7.heap.size := HENV.out.x.lt
  have r0 : w7.cell? ⟨rb, 0, none⟩ = some (.bool pk) := HENV.out.r.cell 0
  have r1 : w7.cell? ⟨rb, 1, none⟩ = some (.int .i64 n) := HENV.out.r.cell 1
  have r2 : w7.cell? ⟨rb, 2, none⟩ = some (.int .u64 d) := HENV.out.r.cell 2
  have r3 : w7.cell? ⟨rb, 3, none⟩ = some (.int .u64 g) := HENV.out.r.cell 3
  have r4 : w7.cell? ⟨rb, 4, none⟩ = some (.int .u64 c) := HENV.out.r.cell 4
  have x0 : w7.cell? ⟨xb, 0, none⟩ = some (.func (.func 67) #[] #[.pointer (some ⟨eb, 0, none⟩), .pointer (some ⟨mb, 0, none⟩), .pointer (some ⟨cb, 0, none⟩)]) := HENV.out.x.cell 0
  have HEA : Hid (∀ W, Below w7.heap.size w7 W → Calls Tryz.prog 67 #[lgV d n (decN pk), .int .i64 head, .func (.func 71) #[] (capsR cb eb mb tb rb xb yb), .pointer (some ⟨eb, 0, none⟩), .pointer (some ⟨mb, 0, none⟩), .pointer (some ⟨cb, 0, none⟩)] W fun e w' => e = .returned (.tuple #[]) ∧ Lc w W cb eb fo w') := hid_mk (fun W hW => by
    have hk := Kc.below hW
    have := veach w mb cb eb p ib qb R M d n head (decN pk) 71 (ringD pk n) (capsR cb eb mb tb rb xb yb) (st3 R M tables pk) 40000 ⟨[], 0, 0, 0, 0⟩ W HM.out (HST.out.below hW) (below_then HB7.out hW) (HENV.out.kc hk).m (dec_ring pk n HN1.out) HD0.out HD1.out (by have := HN0.out; omega) HN1.out HH.out rfl (by decide) (by decide) (by decide) (by decide) (mild_st3 R M tables pk) (fun args u => run_callFunc_body (by kernel_rfl) args u) (does_ring w W cb eb mb tb rb xb yb p ib qb R M tables pk n d g c HM.out (HENV.out.kc hk))
    rw [← HFO.out]
    exact this)
  have HW7 : Hid (Below w7.heap.size w7 w7.drew) := hid_mk (Below.refl _ _).drew
  go_region_with (first | (go_at_call 70; refine (HR.out _).mono ?_; rintro e w8 ⟨rfl, hb⟩; have HB8 := hid_mk (below_then HW7.out hb); have x1 := (hb.cell (p := ⟨xb, 0, none⟩) hxb).trans x0; have hxb8 := Nat.lt_of_lt_of_le hxb hb.size; clear hb) | (go_at_call 67; refine (HEA.out _ HB8.out).mono ?_; rintro e w9 ⟨rfl, hl⟩; have HL9 := hid_mk hl; clear hl))
  all_goals
    obtain ⟨_, _, ⟨v, hv, hov⟩, hev, hsg⟩ := HL9.out.st
    obtain ⟨va, vc, rfl⟩ := hov.at.len
    obtain ⟨v0, v1, v2, v3, v4, g0, g1, g2, g3⟩ := cells4 hv
    have k0 := hev.lt
    have k1 : w9.cell? ⟨eb, 0, none⟩ = some (.int .i64 fo.e) := hev.cell 0
    have k2 := hev.free 0
    have hne := blk_ne hv hev (by decide)
    have HEN := hid_mk (HL9.out.ends hv hov hev)
    have HSG := hid_mk hsg
    clear hv hov hev hsg HEA HR HB8 x1 hxb8 hrb hxb r0 r1 r2 r3 r4 x0 HW7 HL9 HST HENV HFO HB7 HM
    go_wp2_with fail
    go_region
    go_wp2_with fail
    exact bodyPost_ret (v := .tuple #[.agg #[.slice va fo.S.length vc, .int .i64 (fo.n : Int), .int .i64 (fo.c : Int), .int .i64 fo.id], .int .i64 fo.e]) (by simp [results, Tryz.results34, go_sem, v1, v2, v3, v4, k1]) rfl ⟨_, rfl, HEN.out.1, HSG.out, HEN.out.2⟩
end Go.Proofs.YtfhhgcgbgmilcaaGreat

/- walk's usable, buffer. Conditions: as each theorem names them. -/
namespace Go.Proofs.YtfhhgcgbgmilcaaGreat
open Go.ChangeShapes Go.WideShapes Go.ChangeAt Go.RowKit
set_option linter.unusedVariables false
set_option maxRecDepth 100000

theorem vusable_nil (pk want : Bool) (n d g c : Int) (w : World) :
    Calls Tryz.prog 33 #[.pointer none, rV pk n d g c, .bool want] w fun e w' => e = .returned (.int .i64 1) ∧ Below w.heap.size w w' := by
  go_enter Tryz.func33, Tryz.ntmps33
  go_wp2_with (go_at_call 65; refine (read_nil _ _ _).mono ?_; rintro e w' ⟨rfl, rfl⟩)
  go_ret
  exact ⟨rfl, below_box _ _⟩
theorem vusable (p ib qb : Nat) (R : List (Int × Int)) (M : List Int) (pk want : Bool) (n d g c : Int) (w : World) (hm : IsMem w p ib qb R M) (hd : U64 d) (hg : U64 g) (hc : U64 c) :
    Calls Tryz.prog 33 #[.pointer (some ⟨p, 0, none⟩), rV pk n d g c, .bool want] w fun e w' => e = .returned (.int .i64 (wrfE pk want n d g c)) ∧ Below w.heap.size w w' := by
  have HR := hid_mk (fun u (h : Below w.heap.size w u) => read_any p ib qb R M 0 0 u (hm.below h) (by decide) (by decide))
  rw [readE_zero] at HR
  have HC := hid_mk (fun u => check_lay pk n d g c u hd hg hc)
  have HX := hid_mk (blk_new w [.bool pk, .int .i64 n, .int .u64 d, .int .u64 g, .int .u64 c] 32)
  unfold wrfE
  clear hm hd hg hc
  obtain ⟨E, hE⟩ : ∃ E, chkR pk n d g c = E := ⟨_, rfl⟩
  rw [hE] at HC ⊢
  clear hE
  by_cases h0 : E = 0
  · subst h0
    rw [if_pos rfl]
    cases pk <;> cases want
    all_goals
      go_enter Tryz.func33, Tryz.ntmps33
      go_wp2_with fail
      refine (HR.out _ (by exact below_box w _)).mono ?_
      rintro e w1 ⟨v, rfl, _, hb⟩
      have HB1 := hid_mk ((below_box w _).trans (hb.mono (by simp)))
      have HX1 := hid_mk (HX.out.below hb)
      have k0 : w1.cell? ⟨w.heap.size, 0, none⟩ = _ := HX1.out.cell 0
      have k1 : w1.cell? ⟨w.heap.size, 1, none⟩ = some (.int .i64 n) := HX1.out.cell 1
      have k2 : w1.cell? ⟨w.heap.size, 2, none⟩ = some (.int .u64 d) := HX1.out.cell 2
      have k3 : w1.cell? ⟨w.heap.size, 3, none⟩ = some (.int .u64 g) := HX1.out.cell 3
      have k4 : w1.cell? ⟨w.heap.size, 4, none⟩ = some (.int .u64 c) := HX1.out.cell 4
      clear hb
      go_wp2_with fail
      refine (HC.out _).mono ?_
      rintro e w2 ⟨rfl, hb⟩
      have HB2 := hid_mk (below_then HB1.out hb)
      have m0 := (hb.cell (p := ⟨w.heap.size, 0, none⟩) HX1.out.lt).trans k0
      clear hb
      go_wp2_with fail
      go_ret
      exact ⟨rfl, HB2.out⟩
  · rw [if_neg h0]
    have b1 : (E != 0) = true := by simp; exact h0
    clear h0
    go_enter Tryz.func33, Tryz.ntmps33
    go_wp2_with fail
    refine (HR.out _ (by exact below_box w _)).mono ?_
    rintro e w1 ⟨v, rfl, _, hb⟩
    have HB1 := hid_mk ((below_box w _).trans (hb.mono (by simp)))
    have HX1 := hid_mk (HX.out.below hb)
    have k0 : w1.cell? ⟨w.heap.size, 0, none⟩ = some (.bool pk) := HX1.out.cell 0
    have k1 : w1.cell? ⟨w.heap.size, 1, none⟩ = some (.int .i64 n) := HX1.out.cell 1
    have k2 : w1.cell? ⟨w.heap.size, 2, none⟩ = some (.int .u64 d) := HX1.out.cell 2
    have k3 : w1.cell? ⟨w.heap.size, 3, none⟩ = some (.int .u64 g) := HX1.out.cell 3
    have k4 : w1.cell? ⟨w.heap.size, 4, none⟩ = some (.int .u64 c) := HX1.out.cell 4
    clear hb
    go_wp2_with fail
    refine (HC.out _).mono ?_
    rintro e w2 ⟨rfl, hb⟩
    have HB2 := hid_mk (below_then HB1.out hb)
    clear hb
    go_wp2_with fail
    go_ret
    exact ⟨rfl, HB2.out⟩
/-- what a chain's buffer is worth -/
def bufE (R : List (Int × Int)) (S : List Sg) : Int := if mayE S = 0 then inE R S else 4
theorem bufE_cases (R : List (Int × Int)) {S : List Sg} (h : S ≠ []) : (inE R S = 0 ∧ bufE R S = 0) ∨ (inE R S = 5 ∧ bufE R S = 5) ∨ ((inE R S ≠ 0 ∧ inE R S ≠ 5) ∧ bufE R S = 4) := by
  have hl : ¬ S.length = 0 := fun e => h (List.length_eq_zero_iff.1 e)
  unfold bufE mayE
  by_cases hs : segE S = 0
  · rw [if_pos hs, if_neg hl, if_pos rfl, inE_ok hs]
    unfold exE
    split
    · exact Or.inl ⟨rfl, rfl⟩
    · exact Or.inr (Or.inl ⟨rfl, rfl⟩)
  · rw [if_neg hs, if_neg hs, inE_bad hs]
    right
    right
    refine ⟨⟨hs, fun e => ?_⟩, rfl⟩
    unfold segE at e
    split at e
    · cases e
    · rcases sgC_is S false 0 with h | h <;> rw [h] at e <;> cases e
theorem vbuffer (p ib qb : Nat) (R : List (Int × Int)) (M : List Int) (v : Value) (S : List Sg) (x y z : Int) (w : World) (hm : IsMem w p ib qb R M) (hv : SegsAt w v S) (hu : isSgs S) (hne : S ≠ []) :
    Calls Tryz.prog 35 #[.agg #[v, .int .i64 x, .int .i64 y, .int .i64 z], .pointer (some ⟨p, 0, none⟩)] w fun e w' => e = .returned (.tuple #[if bufE R S = 0 then v else .slice none 0 0, .int .i64 (bufE R S)]) ∧ Below w.heap.size w w' := by
  obtain ⟨va, vc, rfl⟩ := hv.len
  have HI := hid_mk (fun u (h : Below w.heap.size w u) => pin _ S p ib qb R M u (hv.below h) hu (hm.below h))
  have HX := hid_mk (blk_new w [.slice va S.length vc, .int .i64 x, .int .i64 y, .int .i64 z] 98)
  rcases bufE_cases R hne with ⟨h1, h2⟩ | ⟨h1, h2⟩ | ⟨⟨h1, h3⟩, h2⟩
  · rw [h2, if_pos rfl]
    rw [h1] at HI
    clear hm hv hu hne h1 h2
    go_enter Tryz.func35, Tryz.ntmps35
    go_wp2_with fail
    refine (HI.out _ (by exact below_box w _)).mono ?_
    rintro e w1 ⟨rfl, hb⟩
    have HB1 := hid_mk ((below_box w _).trans (hb.mono (by simp)))
    have k0 : w1.cell? ⟨w.heap.size, 0, none⟩ = some (.slice va S.length vc) := (HX.out.below hb).cell 0
    clear hb
    go_wp2_with fail
    go_ret2
    exact ⟨rfl, HB1.out⟩
  · rw [h2, if_neg (by decide)]
    rw [h1] at HI
    clear hm hv hu hne h1 h2
    go_enter Tryz.func35, Tryz.ntmps35
    go_wp2_with fail
    refine (HI.out _ (by exact below_box w _)).mono ?_
    rintro e w1 ⟨rfl, hb⟩
    have HB1 := hid_mk ((below_box w _).trans (hb.mono (by simp)))
    clear hb
    go_wp2_with fail
    go_ret2
    exact ⟨rfl, HB1.out⟩
  · rw [h2, if_neg (by decide)]
    have b1 : (inE R S == 0) = false := by simp; exact h1
    have b2 : (inE R S == 5) = false := by simp; exact h3
    generalize inE R S = E at *
    clear hm hv hu hne h1 h2 h3
    go_enter Tryz.func35, Tryz.ntmps35
    go_wp2_with fail
    refine (HI.out _ (by exact below_box w _)).mono ?_
    rintro e w1 ⟨rfl, hb⟩
    have HB1 := hid_mk ((below_box w _).trans (hb.mono (by simp)))
    clear hb
    go_wp2_with fail
    go_ret2
    exact ⟨rfl, HB1.out⟩
end Go.Proofs.YtfhhgcgbgmilcaaGreat

/- walk's Packed. Conditions: as each theorem names them. -/
namespace Go.Proofs.YtfhhgcgbgmilcaaGreat
open Go.ChangeShapes Go.WideShapes Go.ChangeAt Go.RowKit
set_option linter.unusedVariables false
set_option maxRecDepth 100000

theorem cw5 {w : World} {b : Nat} {x0 x1 x2 x3 x4 : Value} {t : TypeId} (h : BlkAt w b [x0, x1, x2, x3, x4] t) : b < w.heap.size ∧ w.cell? ⟨b, 0, none⟩ = some x0 ∧ w.cell? ⟨b, 1, none⟩ = some x1 ∧ w.cell? ⟨b, 2, none⟩ = some x2 ∧ w.cell? ⟨b, 3, none⟩ = some x3 ∧ w.cell? ⟨b, 4, none⟩ = some x4 := ⟨h.lt, h.cell 0, h.cell 1, h.cell 2, h.cell 3, h.cell 4⟩
theorem cw2 {w : World} {b : Nat} {x0 x1 : Value} {t : TypeId} (h : BlkAt w b [x0, x1] t) : b < w.heap.size ∧ w.cell? ⟨b, 0, none⟩ = some x0 ∧ w.cell? ⟨b, 1, none⟩ = some x1 := ⟨h.lt, h.cell 0, h.cell 1⟩
/-- what Packed keeps while it goes on: rings, position, result -/
structure PkW (w u : World) (pk : Bool) (n d g c p : Int) (b : Bool) : Prop where
  old : Below w.heap.size w u
  r : BlkAt u w.heap.size [.bool pk, .int .i64 n, .int .u64 d, .int .u64 g, .int .u64 c] 32
  p : BlkAt u (w.heap.size + 1) [.int .i64 p, .bool b] 58
  t : BlkAt u (w.heap.size + 1 + 1) [.int .i64 0, .int .i64 0, .slice none 0 0] 68
theorem PkW.below {w u u' : World} {pk : Bool} {n d g c p : Int} {b : Bool} (h : PkW w u pk n d g c p b) (hb : Below u.heap.size u u') : PkW w u' pk n d g c p b := ⟨below_then h.old hb, h.r.below hb, h.p.below hb, h.t.below hb⟩
theorem PkW.new (w : World) (pk : Bool) (n d g c p : Int) (b : Bool) : PkW w (((w.alloc (.cells #[.bool pk, .int .i64 n, .int .u64 d, .int .u64 g, .int .u64 c] 32)).alloc (.cells #[.int .i64 p, .bool b] 58)).alloc (.cells #[.int .i64 0, .int .i64 0, .slice none 0 0] 68)) pk n d g c p b :=
  ⟨((below_box w _).alloc (by simp) _).alloc (by simp <;> omega) _, by repeat (first | exact blk_at (by simp) | refine blk_old ?_ _), by repeat (first | exact blk_at (by simp) | refine blk_old ?_ _), by repeat (first | exact blk_at (by simp) | refine blk_old ?_ _)⟩
theorem PkW.puts {w u : World} {pk : Bool} {n d g c p : Int} {b : Bool} (h : PkW w u pk n d g c p b) (x0 x1 x2 : Value) : Below w.heap.size w (((u.setCell ⟨w.heap.size + 1 + 1, 0, none⟩ x0).setCell ⟨w.heap.size + 1 + 1, 1, none⟩ x1).setCell ⟨w.heap.size + 1 + 1, 2, none⟩ x2) := put3_below h.old (by omega) _ _ _
theorem PkW.puts2 {w u : World} {pk : Bool} {n d g c p : Int} {b : Bool} (h : PkW w u pk n d g c p b) (o : Obj) (x0 x1 x2 : Value) : Below w.heap.size w ((((u.setCell ⟨w.heap.size + 1 + 1, 0, none⟩ x0).setCell ⟨w.heap.size + 1 + 1, 1, none⟩ x1).setCell ⟨w.heap.size + 1 + 1, 2, none⟩ x2).alloc o) := below_then (put3_below h.old (by omega) _ _ _) (below_box _ o)
theorem PkW.segs {w u : World} {pk : Bool} {n d g c p : Int} {b : Bool} (h : PkW w u pk n d g c p b) {B : Nat} {v : Value} {S : List Sg} (ho : OwnS B u v S) (x0 x1 x2 : Value) : SegsAt (((u.setCell ⟨w.heap.size + 1 + 1, 0, none⟩ x0).setCell ⟨w.heap.size + 1 + 1, 1, none⟩ x1).setCell ⟨w.heap.size + 1 + 1, 2, none⟩ x2) v S := by
  have a1 := h.t.set 0 x0
  have a2 := a1.set 1 x1
  have o1 := ownsRow_set (i := 0) ho (by decide) h.t x0
  have o2 := ownsRow_set (i := 1) o1 (by decide) a1 x1
  have o3 := ownsRow_set (i := 2) o2 (by decide) a2 x2
  exact OwnS.at o3
set_option maxHeartbeats 2000000 in
theorem wkpacked (p ib qb : Nat) (R : List (Int × Int)) (M : List Int) (pk : Bool) (n d g c at_ : Int) (b table : Bool) (w : World) (hm : IsMem w p ib qb R M) (hd : U64 d) (hg : U64 g) (hc : U64 c) :
    Calls Tryz.prog 18 #[.pointer (some ⟨p, 0, none⟩), rV pk n d g c, .agg #[.int .i64 at_, .bool b], .bool table] w fun e w' => ∃ v, e = .returned (.tuple #[.agg #[.int .i64 (wpI R M pk n d g c at_ table), .int .i64 (wpC R M pk n d g c at_ table : Nat), v], .int .i64 (wpE R M pk n d g c at_ table)]) ∧ SegsAt w' v (wpL R M pk n d g c at_ table) ∧ Below w.heap.size w w' := by
  have HM := hid_mk hm
  have HP := hid_mk (fun u (h : Below w.heap.size w u) => vusable p ib qb R M pk true n d g c u (hm.below h) hd hg hc)
  have HK := hid_mk (fun u => check_all at_ n b u)
  obtain ⟨W0, hW0⟩ : ∃ W0, W0 = ((w.alloc (.cells #[.bool pk, .int .i64 n, .int .u64 d, .int .u64 g, .int .u64 c] 32)).alloc (.cells #[.int .i64 at_, .bool b] 58)).alloc (.cells #[.int .i64 0, .int .i64 0, .slice none 0 0] 68) := ⟨_, rfl⟩
  have HS : Hid (PkW w W0 pk n d g c at_ b) := hid_mk (by
    rw [hW0]
    exact PkW.new w pk n d g c at_ b)
  have HW := hid_mk hW0
  have HD := hid_mk hd
  have HOk := hid_mk hm.ok
  obtain ⟨AE, hAE⟩ : ∃ x, x = wpE R M pk n d g c at_ table := ⟨_, rfl⟩
  have HAE := hid_mk hAE
  unfold wpI wpC wpL
  rw [← hAE]
  clear hm hg hc hW0 hAE hd
  by_cases hz : wrfE pk true n d g c = 0
  · rw [hz] at HP
    have hpk := wrfE_pk hz
    subst hpk
    obtain ⟨n1, n2, n3⟩ := rg_ok hz
    by_cases hok : okP at_ n = true
    · rw [show chkI at_ n = 0 from if_pos hok] at HK
      obtain ⟨_, _, p1, p2⟩ := okP_t hok
      have HF := hid_mk (fun u (h : Below w.heap.size w u) => vfollow p ib qb R M table true n d g c at_ u (HM.out.below h) HD.out.1 n3 n1 n2 ⟨by omega, by omega⟩)
      have hfs := foll_packed R M n d at_ table HOk.out n1 n2 p1 p2
      have hne := foll_ne R M true n d at_ table
      have HA : Hid (AE = wndE R (wpkX n (wpkS R M d n at_ table))) := hid_mk (by
        rw [HAE.out]
        unfold wpE
        rw [if_pos hz, if_pos hok])
      generalize wpkS R M d n at_ table = P at *
      generalize follF R M true n d at_ table = fo at *
      have HNE := hid_mk hne
      have HA1 : Hid (AE = if fo.e = 0 then (if n ≤ fo.id then 4 else bufE R fo.S) else fo.e) := hid_mk (by
        rw [HA.out]
        unfold wndE wpkX
        rw [← hfs.i]
        have h1 := hfs.x.e
        have h2 := hfs.x.S
        by_cases h0 : fo.e = 0
        · rw [if_pos h0]
          have h0' : P.x.e = 0 := h1 ▸ h0
          by_cases h3 : n ≤ fo.id
          · rw [if_pos h3, if_pos h3]
            unfold wstop
            rw [if_pos h0']
            rfl
          · rw [if_neg h3, if_neg h3, if_pos h0', ← h2]
            rfl
        · rw [if_neg h0]
          have h0' : ¬ P.x.e = 0 := fun e => h0 (h1.trans e)
          by_cases h3 : n ≤ fo.id
          · rw [if_pos h3]
            unfold wstop
            rw [if_neg h0', if_neg h0', h1]
          · rw [if_neg h3, if_neg h0', h1])
      have HAI : P.id = fo.id := hfs.i.symm
      have HAC : P.c = fo.c := hfs.c.symm
      have HAS : AE = 0 → (wpkX n P).S = fo.S := fun e => by
        unfold wpkX
        split
        · unfold wstop
          split <;> exact hfs.x.S.symm
        · exact hfs.x.S.symm
      rw [HAI, HAC]
      have HAL : (if AE = 0 then (wpkX n P).S else []) = (if AE = 0 then fo.S else []) := by
        by_cases e : AE = 0
        · rw [if_pos e, if_pos e, HAS e]
        · rw [if_neg e, if_neg e]
      rw [HAL]
      obtain ⟨AI, hAI⟩ : ∃ x, x = (if AE = 0 then fo.id else 0) := ⟨_, rfl⟩
      obtain ⟨AC, hAC⟩ : ∃ x, x = (if AE = 0 then fo.c else 0) := ⟨_, rfl⟩
      obtain ⟨AL, hAL⟩ : ∃ x, x = (if AE = 0 then fo.S else []) := ⟨_, rfl⟩
      rw [← hAI, ← hAC, ← hAL]
      have HAI2 := hid_mk hAI
      have HAC2 := hid_mk hAC
      have HAL2 := hid_mk hAL
      clear HAI HAC HAS HAL HA HAE hfs hne hz hok n1 n2 n3 p1 p2 hAI hAC hAL
      clear P
      go_enter Tryz.func18, Tryz.ntmps18
      go_upto_region 1 with fail
      rw [← HW.out]
      clear HW
      obtain ⟨q, q0, q1, q2, q3, q4⟩ := cw5 HS.out.r
      go_wp2_with fail
      refine (HP.out _ HS.out.old).mono ?_
      rintro e w1 ⟨rfl, hb⟩
      have HS1 := hid_mk (HS.out.below hb)
      clear hb q q0 q1 q2 q3 q4
      obtain ⟨q, q0, q1, q2, q3, q4⟩ := cw5 HS1.out.r
      obtain ⟨y, y0, y1⟩ := cw2 HS1.out.p
      go_wp2_with fail
      refine (HK.out _).mono ?_
      rintro e w2 ⟨rfl, hb⟩
      have HS2 := hid_mk (HS1.out.below hb)
      clear hb q q0 q1 q2 q3 q4 y y0 y1
      obtain ⟨q, q0, q1, q2, q3, q4⟩ := cw5 HS2.out.r
      obtain ⟨y, y0, y1⟩ := cw2 HS2.out.p
      go_wp2_with fail
      refine (HF.out _ HS2.out.old).mono ?_
      rintro e w3 ⟨v, rfl, ho, hs, hb⟩
      obtain ⟨va, vc, rfl⟩ := ho.at.len
      have HS3 := hid_mk (HS2.out.below hb)
      have HV := hid_mk ho.at
      have HOw := hid_mk ho
      have HSg := hid_mk hs
      clear hb ho hs q q0 q1 q2 q3 q4 y y0 y1 HP HK HF
      obtain ⟨q, q0, q1, q2, q3, q4⟩ := cw5 HS3.out.r
      obtain ⟨r, r0, r1, r2, s0, s1, s2⟩ := cw3 HS3.out.t
      by_cases h0 : fo.e = 0
      · have HA2 := HA1
        rw [if_pos h0] at HA2
        have HN1 := hid_mk (HNE.out h0)
        rw [h0]
        clear HA1 HNE h0
        by_cases h3 : n ≤ fo.id
        · rw [if_pos h3] at HA2
          have b3 : decide (n ≤ fo.id) = true := decide_eq_true h3
          clear h3
          go_wp2_with fail
          exact bodyPost_ret (v := .tuple #[.agg #[.int .i64 0, .int .i64 0, .slice none 0 0], .int .i64 4]) (by simp [results, Tryz.results18, go_sem, r, r0, r1, r2]) rfl ⟨.slice none 0 0, by rw [HAI2.out, HAC2.out, HA2.out]; rfl, by rw [HAL2.out, HA2.out]; exact SegsAt_nil _, HS3.out.puts2 _ _ _ _⟩
        · rw [if_neg h3] at HA2
          have b3 : decide (n ≤ fo.id) = false := decide_eq_false h3
          clear h3
          have HBuf := hid_mk (fun u (h : Below w3.heap.size w3 u) => vbuffer p ib qb R M (.slice va fo.S.length vc) fo.S fo.n fo.c fo.id u ((HM.out.below HS3.out.old).below h) (HV.out.below h) HSg.out HN1.out)
          have HCX := hid_mk (blk_new w3 [.slice va fo.S.length vc, .int .i64 (fo.n : Int), .int .i64 (fo.c : Int), .int .i64 fo.id] 98)
          go_wp2_with fail
          refine (HBuf.out _ (by exact below_box w3 _)).mono ?_
          rintro e w4 ⟨rfl, hb⟩
          have HS4 := hid_mk ((HS3.out.below (below_box _ _)).below hb)
          have HV4 := hid_mk (ownsRow_below (ownsRow_below HOw.out (below_box _ _)) hb)
          have hcx := HCX.out.below hb
          have m0 := hcx.lt
          have m2 : w4.cell? ⟨w3.heap.size, 2, none⟩ = some (.int .i64 (fo.c : Int)) := hcx.cell 2
          have m3 : w4.cell? ⟨w3.heap.size, 3, none⟩ = some (.int .i64 fo.id) := hcx.cell 3
          clear hb hcx q q0 q1 q2 q3 q4 r r0 r1 r2 s0 s1 s2 HBuf
          obtain ⟨r, r0, r1, r2, s0, s1, s2⟩ := cw3 HS4.out.t
          generalize bufE R fo.S = E at *
          by_cases hE : E = 0
          · subst hE
            rw [if_pos rfl]
            go_wp2_with fail
            exact bodyPost_ret (v := .tuple #[.agg #[.int .i64 fo.id, .int .i64 (fo.c : Int), .slice va fo.S.length vc], .int .i64 0]) (by simp [results, Tryz.results18, go_sem, r0, r1, r2]) rfl ⟨.slice va fo.S.length vc, by rw [HAI2.out, HAC2.out, HA2.out]; rfl, by rw [HAL2.out, HA2.out]; exact HS4.out.segs HV4.out _ _ _, HS4.out.puts _ _ _⟩
          · rw [if_neg hE]
            have b1 : (E != 0) = true := by simp; exact hE
            have HZ := hid_mk hE
            clear hE
            go_wp2_with fail
            exact bodyPost_ret (v := .tuple #[.agg #[.int .i64 0, .int .i64 0, .slice none 0 0], .int .i64 E]) (by simp [results, Tryz.results18, go_sem, r0, r1, r2]) rfl ⟨.slice none 0 0, by rw [HAI2.out, HAC2.out, HA2.out, if_neg HZ.out, if_neg HZ.out]; rfl, by rw [HAL2.out, HA2.out, if_neg HZ.out]; exact SegsAt_nil _, HS4.out.puts _ _ _⟩
      · have HA2 := HA1
        rw [if_neg h0] at HA2
        have b1 : (fo.e != 0) = true := by simp; exact h0
        have HZ := hid_mk h0
        clear HA1 h0
        generalize fo.e = E at *
        go_wp2_with fail
        exact bodyPost_ret (v := .tuple #[.agg #[.int .i64 0, .int .i64 0, .slice none 0 0], .int .i64 E]) (by simp [results, Tryz.results18, go_sem, r, r0, r1, r2]) rfl ⟨.slice none 0 0, by rw [HAI2.out, HAC2.out, HA2.out, if_neg HZ.out, if_neg HZ.out]; rfl, by rw [HAL2.out, HA2.out, if_neg HZ.out]; exact SegsAt_nil _, HS3.out.puts2 _ _ _ _⟩
    · have hok : okP at_ n = false := by simpa using hok
      have hE : AE = 2 := by
        rw [HAE.out]
        unfold wpE
        rw [if_pos hz, if_neg (by rw [hok]; decide)]
      rw [show chkI at_ n = 2 from if_neg (by rw [hok]; decide)] at HK
      rw [hE, if_neg (by decide), if_neg (by decide), if_neg (by decide)]
      clear hE hz hok HAE n1 n2 n3
      go_enter Tryz.func18, Tryz.ntmps18
      go_upto_region 1 with fail
      rw [← HW.out]
      clear HW
      obtain ⟨q, q0, q1, q2, q3, q4⟩ := cw5 HS.out.r
      go_wp2_with fail
      refine (HP.out _ HS.out.old).mono ?_
      rintro e w1 ⟨rfl, hb⟩
      have HS1 := hid_mk (HS.out.below hb)
      clear hb q q0 q1 q2 q3 q4
      obtain ⟨q, q0, q1, q2, q3, q4⟩ := cw5 HS1.out.r
      obtain ⟨y, y0, y1⟩ := cw2 HS1.out.p
      go_wp2_with fail
      refine (HK.out _).mono ?_
      rintro e w2 ⟨rfl, hb⟩
      have HS2 := hid_mk (HS1.out.below hb)
      obtain ⟨r, r0, r1, r2, s0, s1, s2⟩ := cw3 HS2.out.t
      clear hb q q0 q1 q2 q3 q4 y y0 y1
      go_wp2_with fail
      exact bodyPost_ret (v := .tuple #[.agg #[.int .i64 0, .int .i64 0, .slice none 0 0], .int .i64 2]) (by simp [results, Tryz.results18, go_sem, r0, r1, r2]) rfl ⟨.slice none 0 0, rfl, SegsAt_nil _, HS2.out.puts _ _ _⟩
  · have hE : AE = wrfE pk true n d g c := by
      rw [HAE.out]
      unfold wpE
      rw [if_neg hz]
    rw [← hE] at HP hz
    rw [if_neg hz, if_neg hz, if_neg hz]
    have b1 : (AE != 0) = true := by simp; exact hz
    clear hE hz
    go_enter Tryz.func18, Tryz.ntmps18
    go_upto_region 1 with fail
    rw [← HW.out]
    obtain ⟨q, q0, q1, q2, q3, q4⟩ := cw5 HS.out.r
    go_wp2_with fail
    refine (HP.out _ HS.out.old).mono ?_
    rintro e w1 ⟨rfl, hb⟩
    have HS1 := hid_mk (HS.out.below hb)
    obtain ⟨r, r0, r1, r2, s0, s1, s2⟩ := cw3 HS1.out.t
    clear hb
    go_wp2_with fail
    exact bodyPost_ret (v := .tuple #[.agg #[.int .i64 0, .int .i64 0, .slice none 0 0], .int .i64 AE]) (by simp [results, Tryz.results18, go_sem, r0, r1, r2]) rfl ⟨.slice none 0 0, rfl, SegsAt_nil _, HS1.out.puts _ _ _⟩
end Go.Proofs.YtfhhgcgbgmilcaaGreat
