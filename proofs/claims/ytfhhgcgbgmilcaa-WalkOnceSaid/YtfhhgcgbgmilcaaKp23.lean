/- Wk2 Sg5 Sg6: joined texts. Conditions: as each theorem names them. -/
import Derived.Test.YtfhhgcgbgmilcaaKp21
import Derived.Test.YtfhhgcgbgmilcaaKp22
import Derived.Test.YtfhhgcgbgmilcaaKp15
/- The reference of layer 10: desc, entries. Conditions: as each theorem names them. -/
namespace Go.Proofs.Ytfhhgcgbgmilcaa
open Go.ChangeShapes Go.WideShapes Go.ChangeAt Go.RowKit
set_option linter.unusedVariables false
set_option maxRecDepth 100000

theorem cells4 {w : World} {b : Nat} {x0 x1 x2 x3 : Value} {t : TypeId} (h : BlkAt w b [x0, x1, x2, x3] t) : b < w.heap.size ∧ w.cell? ⟨b, 0, none⟩ = some x0 ∧ w.cell? ⟨b, 1, none⟩ = some x1 ∧ w.cell? ⟨b, 2, none⟩ = some x2 ∧ w.cell? ⟨b, 3, none⟩ = some x3 ∧ w.frozen? ⟨b, 0, none⟩ = false ∧ w.frozen? ⟨b, 1, none⟩ = false ∧ w.frozen? ⟨b, 2, none⟩ = false ∧ w.frozen? ⟨b, 3, none⟩ = false := ⟨h.lt, h.cell 0, h.cell 1, h.cell 2, h.cell 3, h.free 0, h.free 1, h.free 2, h.free 3⟩
/-- cells of a block of the call's own are written -/
theorem Lf.wr {w0 w w1 : World} {xb : Nat} {m : Value} {x : Wst} {g i : Nat} {C : List Value} {t : TypeId} (h : Lf w0 w xb m x w1) (hb : BlkAt w1 g C t) (h1 : w0.heap.size ≤ g) (h2 : w.heap.size ≤ g) (ht : t ≠ 106) (ht2 : 53 ≠ t) (v : Value) : Lf w0 w xb m x (w1.setCell ⟨g, i, none⟩ v) := by
  obtain ⟨⟨hB, u, g1, g2⟩, ho, hk⟩ := h
  refine ⟨⟨hB, u, g1.other (fun e => ?_) v, ownsRow_set g2 ht2 hb v⟩, ho.setCell h1 _, ⟨by simpa using hk.size, fun b cs t' z hbb a1 a2 => ?_⟩⟩
  · subst e
    have g1 : w1.heap[xb]? = _ := g1
    rw [show w1.heap[xb]? = _ from hb] at g1
    injection g1 with g1
    injection g1 with _ g3
    exact ht g3
  · exact (Below.heap_setCell w1 ⟨g, i, none⟩ v b (fun e => by
      have e : b = g := e
      have := lt_blk hbb
      omega)).trans (hk.blk b cs t' z hbb a1 a2)
theorem Lf.put4 {w0 w w1 : World} {xb : Nat} {m : Value} {x : Wst} {g : Nat} {y0 y1 y2 y3 : Value} {t : TypeId} (h : Lf w0 w xb m x w1) (hb : BlkAt w1 g [y0, y1, y2, y3] t) (h1 : w0.heap.size ≤ g) (h2 : w.heap.size ≤ g) (ht : t ≠ 106) (ht2 : 53 ≠ t) (v0 v1 v2 v3 : Value) :
    Lf w0 w xb m x ((((w1.setCell ⟨g, 0, none⟩ v0).setCell ⟨g, 1, none⟩ v1).setCell ⟨g, 2, none⟩ v2).setCell ⟨g, 3, none⟩ v3) ∧ BlkAt ((((w1.setCell ⟨g, 0, none⟩ v0).setCell ⟨g, 1, none⟩ v1).setCell ⟨g, 2, none⟩ v2).setCell ⟨g, 3, none⟩ v3) g [v0, v1, v2, v3] t :=
  ⟨(((h.wr hb h1 h2 ht ht2 v0).wr (hb.set 0 v0) h1 h2 ht ht2 v1).wr ((hb.set 0 v0).set 1 v1) h1 h2 ht ht2 v2).wr (((hb.set 0 v0).set 1 v1).set 2 v2) h1 h2 ht ht2 v3, (((hb.set 0 v0).set 1 v1).set 2 v2).set 3 v3⟩
/-- what a reader's call needs: the reader, old memory, the reference's memory from of old -/
structure Rd (w0 : World) (rp : Nat) (R : List (Int × Int)) (M : List Int) (xb : Nat) (x : Wst) (w : World) : Prop where
  rd : RdAt w0.heap.size w xb (.pointer (some ⟨rp, 0, none⟩)) x
  old : Below w0.heap.size w0 w
  mem : RefM w0 rp R M
  ok : okR (-1) 1048576 R = true
  len : M.length = sumR R
  byt : isBytes M
theorem Rd.lf {w0 w w' : World} {rp xb : Nat} {R : List (Int × Int)} {M : List Int} {x y : Wst} (h : Rd w0 rp R M xb x w) (hl : Lf w0 w xb (.pointer (some ⟨rp, 0, none⟩)) y w') : Rd w0 rp R M xb y w' := ⟨hl.rd, hl.old, h.mem, h.ok, h.len, h.byt⟩
theorem Rd.below {w0 w w' : World} {rp xb : Nat} {R : List (Int × Int)} {M : List Int} {x : Wst} (h : Rd w0 rp R M xb x w) (hb : Below w.heap.size w w') : Rd w0 rp R M xb x w' := ⟨h.rd.below hb, below_then h.old hb, h.mem, h.ok, h.len, h.byt⟩
theorem Lf.kpre {w0 w w1 w' : World} {xb : Nat} {m : Value} {x : Wst} (h : Lf w0 w1 xb m x w') (hb : Below w.heap.size w w1) : Lf w0 w xb m x w' := ⟨h.rd, h.old, (Kp.below hb).trans h.kp⟩
theorem Lf.below {w0 w w1 w' : World} {xb : Nat} {m : Value} {x : Wst} (h : Lf w0 w xb m x w1) (hb : Below w1.heap.size w1 w') : Lf w0 w xb m x w' := ⟨h.rd.below hb, below_then h.old hb, h.kp.trans (Kp.below hb)⟩
theorem Lf.then {w0 w w1 w' : World} {xb : Nat} {m : Value} {x y : Wst} (h : Lf w0 w xb m x w1) (g : Lf w0 w1 xb m y w') : Lf w0 w xb m y w' := ⟨g.rd, g.old, h.kp.trans g.kp⟩
theorem Rd.objs {w0 w : World} {rp xb : Nat} {R : List (Int × Int)} {M : List Int} {x : Wst} (h : Rd w0 rp R M xb x w) : ∃ v, xb < w.heap.size ∧ w.cell? ⟨xb, 0, none⟩ = some (.pointer (some ⟨rp, 0, none⟩)) ∧ w.cell? ⟨xb, 1, none⟩ = some v ∧ w.cell? ⟨xb, 2, none⟩ = some (.int .i64 (x.n : Int)) ∧ w.cell? ⟨xb, 3, none⟩ = some (.int .i64 x.e) ∧ w.frozen? ⟨xb, 1, none⟩ = false ∧ w.frozen? ⟨xb, 2, none⟩ = false ∧ w.frozen? ⟨xb, 3, none⟩ = false ∧ OwnS w0.heap.size w v x.S := by
  obtain ⟨hB, v, h1, h2⟩ := h.rd
  exact ⟨v, h1.lt, h1.cell 0, h1.cell 1, h1.cell 2, h1.cell 3, h1.free 1, h1.free 2, h1.free 3, h2⟩
theorem Rd.objs1 {w0 w : World} {rp xb : Nat} {R : List (Int × Int)} {M : List Int} {x : Wst} (h : Rd w0 rp R M xb x w) : xb < w.heap.size ∧ w.cell? ⟨xb, 0, none⟩ = some (.pointer (some ⟨rp, 0, none⟩)) ∧ w.cell? ⟨xb, 2, none⟩ = some (.int .i64 (x.n : Int)) ∧ w.cell? ⟨xb, 3, none⟩ = some (.int .i64 x.e) ∧ w.frozen? ⟨xb, 2, none⟩ = false ∧ w.frozen? ⟨xb, 3, none⟩ = false := by
  obtain ⟨v, h1, h2, h3, h4, h5, h6, h7, h8, h9⟩ := h.objs
  exact ⟨h1, h2, h4, h5, h7, h8⟩
/-- the reader with one cell set -/
theorem Rd.setN {w0 w : World} {rp xb : Nat} {R : List (Int × Int)} {M : List Int} {x : Wst} (h : Rd w0 rp R M xb x w) (k : Nat) : Lf w0 w xb (.pointer (some ⟨rp, 0, none⟩)) ⟨x.S, k, x.e⟩ (w.setCell ⟨xb, 2, none⟩ (.int .i64 (k : Int))) := by
  obtain ⟨hB, v, h1, h2⟩ := h.rd
  exact ⟨⟨hB, v, h1.set 2 _, ownsRow_set h2 (by decide) h1 _⟩, h.old.setCell hB _, Kp.set h1 _⟩
theorem Rd.setE {w0 w : World} {rp xb : Nat} {R : List (Int × Int)} {M : List Int} {x : Wst} (h : Rd w0 rp R M xb x w) (E : Int) : Lf w0 w xb (.pointer (some ⟨rp, 0, none⟩)) ⟨x.S, x.n, E⟩ (w.setCell ⟨xb, 3, none⟩ (.int .i64 E)) := by
  obtain ⟨hB, v, h1, h2⟩ := h.rd
  exact ⟨⟨hB, v, h1.set 3 _, ownsRow_set h2 (by decide) h1 _⟩, h.old.setCell hB _, Kp.set h1 _⟩
/-- a read of sixteen bytes by the reference's memory -/
theorem rread16 {w0 w : World} {rp xb : Nat} {R : List (Int × Int)} {M : List Int} {x : Wst} (h : Rd w0 rp R M xb x w) (a : Int) (ha : U64 a) (u : World) (hu : Below w.heap.size w u) :
    Calls Try.prog 47 #[.pointer (some ⟨rp, 0, none⟩), .int .u64 a, .int .i64 16] u fun e w' => ∃ v, e = .returned (.tuple #[v, .int .i64 (readE R a 16)]) ∧ (BytesAt w' v (readL R M a 16) ∧ ∀ i y, BytesAt (w'.setCell ⟨xb, i, none⟩ y) v (readL R M a 16)) ∧ Below u.heap.size u w' := by
  obtain ⟨base, lb, bb, cL, cB, aB, D, hm⟩ := (h.mem.below h.old).below hu
  refine (rread_any base rp lb bb cL cB aB D R M a 16 u hm ha (by omega)).mono ?_
  rintro e w' ⟨v, rfl, hv, hb⟩
  refine ⟨v, rfl, ⟨hv.at, fun i y => ?_⟩, hb⟩
  have hx : xb < u.heap.size := Nat.lt_of_lt_of_le h.objs1.1 hu.size
  rcases hv with h1 | ⟨b, c, h1, h2, h3, cs, h4, h5⟩
  · exact NewBytes.at (B := u.heap.size) (Or.inl h1)
  · exact NewBytes.at (B := u.heap.size) (Or.inr ⟨b, c, h1, h2, h3, cs, (Below.heap_setCell w' ⟨xb, i, none⟩ y b (fun e => by
      have e : b = xb := e
      omega)).trans h4, h5⟩)

set_option maxHeartbeats 2000000 in
theorem rdesc_no (w0 : World) (rp xb : Nat) (R : List (Int × Int)) (M : List Int) (x : Wst) (a : Int) (w : World) (h : Rd w0 rp R M xb x w) (ha : U64 a) (hd : dscAt R M a = none) :
    Calls Try.prog 69 #[.pointer (some ⟨xb, 0, none⟩), .int .u64 a] w fun e w' => e = .returned (.tuple #[dV ⟨0, 0, 0, 0⟩, .bool false]) ∧ Lf w0 w xb (.pointer (some ⟨rp, 0, none⟩)) (wstop 5 x) w' := by
  have hE : readE R a 16 = 5 := by
    rcases readE_is R a with e | e
    · unfold dscAt at hd
      rw [if_pos e] at hd
      cases hd
    · exact e
  have HR := hid_mk (fun u hu => rread16 h a ha u hu)
  rw [hE] at HR
  have HB0 := hid_mk (below_box w (.cells #[.int .u64 0, .int .u32 0, .int .u16 0, .int .u16 0] 49))
  have HX0 := hid_mk (blk_new w [.int .u64 0, .int .u32 0, .int .u16 0, .int .u16 0] 49)
  have HD0 := hid_mk (h.below HB0.out)
  obtain ⟨x0, x1, x2, x3, x4, x5⟩ := HD0.out.objs1
  clear hd hE ha
  go_enter Try.func69, Try.ntmps69
  go_wp2_with fail
  refine (HR.out _ HB0.out).mono ?_
  rintro e w1 ⟨v, rfl, hv, hb1⟩
  have HD1 := hid_mk (HD0.out.below hb1)
  have HX1 := hid_mk (HX0.out.below hb1)
  have HB1 := hid_mk (below_then HB0.out hb1)
  clear hv hb1 x0 x1 x2 x3 x4 x5
  go_wp2_with fail
  refine (rstop w0 xb _ x 5 _ HD1.out.rd HD1.out.old).mono ?_
  rintro e w2 ⟨rfl, hl⟩
  have HL := hid_mk hl
  have HX2 := hid_mk (hl.kp.at HX1.out (by decide) (by decide))
  have HE := hid_mk h.old
  have HW : Hid (w0.heap.size ≤ w.heap.size) := hid_mk h.old.size
  have HL2 := hid_mk (hl.kpre HB1.out)
  obtain ⟨q0, q1, q2, q3, q4, g0, g1, g2, g3⟩ := cells4 HX2.out
  clear hl
  go_wp2_with fail
  refine bodyPost_ret (v := .tuple #[dV ⟨0, 0, 0, 0⟩, .bool false]) (by simp [results, Try.results69, go_sem, q1, q2, q3, q4]) rfl ⟨rfl, ?_⟩
  exact (HL2.out.put4 HX2.out HW.out (Nat.le_refl _) (by decide) (by decide) _ _ _ _).1

set_option maxHeartbeats 2000000 in
theorem rdesc_yes (w0 : World) (rp xb : Nat) (R : List (Int × Int)) (M : List Int) (x : Wst) (a : Int) (d : Dsc) (w : World) (h : Rd w0 rp R M xb x w) (ha : U64 a) (hd : dscAt R M a = some d) (hn : x.n ≤ 100000) :
    Calls Try.prog 69 #[.pointer (some ⟨xb, 0, none⟩), .int .u64 a] w fun e w' => e = .returned (.tuple #[dV d, .bool true]) ∧ Lf w0 w xb (.pointer (some ⟨rp, 0, none⟩)) (wone x) w' := by
  have hE : readE R a 16 = 0 ∧ dR (readL R M a 16) = d := by
    unfold dscAt at hd
    by_cases e : readE R a 16 = 0
    · rw [if_pos e] at hd
      exact ⟨e, Option.some.inj hd⟩
    · rw [if_neg e] at hd
      cases hd
  obtain ⟨hE, hD⟩ := hE
  have hl16 := readL_16 h.ok h.len hE
  have HP := hid_mk (fun v u (hu : BytesAt u v (readL R M a 16)) => rdread_any v (readL R M a 16) u hu (readL_bytes h.byt) (by omega))
  rw [(rd_yes hl16).1, (rd_yes hl16).2, hD] at HP
  have HR := hid_mk (fun u hu => rread16 h a ha u hu)
  rw [hE] at HR
  have HB0 := hid_mk (below_box w (.cells #[.int .u64 0, .int .u32 0, .int .u16 0, .int .u16 0] 49))
  have HX0 := hid_mk (blk_new w [.int .u64 0, .int .u32 0, .int .u16 0, .int .u16 0] 49)
  have HD0 := hid_mk (h.below HB0.out)
  have HW : Hid (w0.heap.size ≤ w.heap.size) := hid_mk h.old.size
  have HN := hid_mk hn
  obtain ⟨x0, x1, x2, x3, x4, x5⟩ := HD0.out.objs1
  clear hd hE ha hD hl16 hn
  go_enter Try.func69, Try.ntmps69
  go_wp2_with fail
  refine (HR.out _ HB0.out).mono ?_
  rintro e w1 ⟨v, rfl, ⟨_, hv2⟩, hb1⟩
  have HV := hid_mk hv2
  have HD1 := hid_mk (HD0.out.below hb1)
  have HX1 := hid_mk (HX0.out.below hb1)
  have HB1 := hid_mk (below_then HB0.out hb1)
  clear hv2 hb1 x0 x1 x2 x3 x4 x5
  obtain ⟨x0, x1, x2, x3, x4, x5⟩ := HD1.out.objs1
  have hn : (x.n : Int) ≤ 100000 := by have := HN.out; omega
  have HL1 := hid_mk ((HD1.out.setN (x.n + 1)).kpre HB1.out)
  have HX2 := hid_mk ((HD1.out.setN (x.n + 1)).kp.at HX1.out (by decide) (by decide))
  rw [show ((x.n + 1 : Nat) : Int) = (x.n : Int) + 1 from by omega] at HL1 HX2
  go_wp2_with fail
  refine (HP.out _ _ (HV.out _ _)).mono ?_
  rintro e w2 ⟨rfl, hb2⟩
  have HL2 := hid_mk (HL1.out.below hb2)
  have HX3 := hid_mk (HX2.out.below hb2)
  obtain ⟨q0, q1, q2, q3, q4, g0, g1, g2, g3⟩ := cells4 HX3.out
  clear hb2 x0 x1 x2 x3 x4 x5
  go_wp2_with fail
  have hp4 := HL2.out.put4 HX3.out HW.out (Nat.le_refl _) (by decide) (by decide) (.int .u64 d.a) (.int .u32 d.l) (.int .u16 d.f) (.int .u16 d.n)
  have HFL := hp4.1.below (below_box _ (.cells #[.int .u64 d.a, .int .u32 d.l, .int .u16 d.f, .int .u16 d.n] 49))
  have HF := hp4.2.below (below_box _ (.cells #[.int .u64 d.a, .int .u32 d.l, .int .u16 d.f, .int .u16 d.n] 49))
  clear hp4 HX3 HL2 HX2 HL1 HB1 HX1 HD1 HV HD0 HX0 HB0 HR HP
  generalize hU : World.alloc _ _ = U
  rw [hU] at HF HFL
  obtain ⟨_, m0, m1, m2, m3, _⟩ := cells4 HF
  exact bodyPost_ret (v := .tuple #[dV d, .bool true]) (by simp [results, Try.results69, go_sem, m0, m1, m2, m3]) rfl ⟨rfl, HFL⟩
end Go.Proofs.Ytfhhgcgbgmilcaa

/- The reference's Part and Cut of layer 5; kit.SameSegs. Conditions: as each theorem names them. -/
namespace Go.Proofs.Ytfhhgcgbgmilcaa
open Go.ChangeShapes Go.WideShapes Go.ChangeAt Go.RowKit
set_option linter.unusedVariables false
set_option maxRecDepth 100000

theorem partS_append (t : Bool) (a b : List Sg) : partS t (a ++ b) = partS t a ++ partS t b := by
  unfold partS
  exact List.filter_append ..
theorem partS_step {t : Bool} {L : List Sg} {k : Nat} (h : k < L.length) : partS t (L.take (k + 1)) = partS t (L.take k) ++ if (sat L k).t = t then [sat L k] else [] := by
  rw [take_sat h, partS_append]
  congr 1
  by_cases hq : (sat L k).t = t
  · rw [partS_yes hq, if_pos hq]
    rfl
  · rw [partS_no hq, if_neg hq]
    rfl
theorem partS_le (t : Bool) (L : List Sg) : (partS t L).length ≤ L.length := by
  unfold partS
  exact List.length_filter_le ..
theorem seg_pos {L : List Sg} (h : segE L ≠ 0) : 0 < L.length := by
  rcases Nat.eq_zero_or_pos L.length with q | q
  · rw [List.length_eq_zero_iff.1 q] at h
    exact absurd rfl h
  · exact q

end Go.Proofs.Ytfhhgcgbgmilcaa

/- The reference's Cut of layer 5. Conditions: as each theorem names them. -/
namespace Go.Proofs.Ytfhhgcgbgmilcaa
open Go.ChangeShapes Go.WideShapes Go.ChangeAt Go.RowKit
set_option linter.unusedVariables false
set_option maxRecDepth 100000

/-- what Cut holds when it comes to segment k -/
structure CutInv (L : List Sg) (f0 n0 : Int) (k : Nat) (f n : Int) (acc : List Sg) : Prop where
  uf : U64 f
  un : U64 n
  len : acc.length ≤ k
  eq : cutS L f0 n0 = acc ++ cutS (L.drop k) f n
theorem CutInv.skip {L : List Sg} {f0 n0 : Int} {k : Nat} {f n : Int} {acc : List Sg} (h : CutInv L f0 n0 k f n acc) (hk : k < L.length) (hu : isSgs L) (hf : (sat L k).n ≤ f) : CutInv L f0 n0 (k + 1) (f - (sat L k).n) n acc := by
  have h1 := h.uf
  obtain ⟨_, h2, h3⟩ := sat_is hu k
  refine ⟨⟨by omega, by omega⟩, h.un, Nat.le_succ_of_le h.len, ?_⟩
  rw [h.eq, drop_sat hk, cutS_le hf]
theorem CutInv.some {L : List Sg} {f0 n0 : Int} {k : Nat} {f n : Int} {acc : List Sg} (h : CutInv L f0 n0 k f n acc) (hk : k < L.length) (hu : isSgs L) (hf : f < (sat L k).n) {q : Int} (hq : min ((sat L k).n - f) n = q) (h0 : 0 < q) : CutInv L f0 n0 (k + 1) 0 (n - q) (acc ++ [⟨(sat L k).a + f, q, (sat L k).t⟩]) := by
  have h1 := h.uf
  have h2 := h.un
  refine ⟨by decide, ⟨by omega, by omega⟩, by have := h.len; simp; omega, ?_⟩
  rw [h.eq, drop_sat hk, cutS_some hf hq h0, List.append_assoc]
  rfl
theorem CutInv.none {L : List Sg} {f0 n0 : Int} {k : Nat} {f n : Int} {acc : List Sg} (h : CutInv L f0 n0 k f n acc) (hk : k < L.length) (hu : isSgs L) (hf : f < (sat L k).n) {q : Int} (hq : min ((sat L k).n - f) n = q) (h0 : q ≤ 0) : CutInv L f0 n0 (k + 1) 0 (n - q) acc := by
  have h1 := h.uf
  have h2 := h.un
  refine ⟨by decide, ⟨by omega, by omega⟩, Nat.le_succ_of_le h.len, ?_⟩
  rw [h.eq, drop_sat hk, cutS_none hf hq h0]

end Go.Proofs.Ytfhhgcgbgmilcaa
