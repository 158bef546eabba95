/- Ww4 Wk9 Wk10: joined texts. Conditions: as each theorem names them. -/
import Derived.Test.YtfhhgcgbgmilcaaKp30
import Derived.Test.YtfhhgcgbgmilcaaKp28
/- walk's get. Conditions: as each theorem names them. -/
namespace Go.Proofs.Ytfhhgcgbgmilcaa
open Go.ChangeShapes Go.WideShapes Go.ChangeAt Go.RowKit
set_option linter.unusedVariables false
set_option maxRecDepth 100000

/-- a decoder as a function -/
structure Dec (F : Nat) (n : Int) (D : List Int → Int → Lk) : Prop where
  ent : ∀ args u, (callFunc F args).run Try.prog u = .ok (.enter F args) u
  run : ∀ v l i u, BytesAt u v l → isBytes l → l.length = 16 → 0 ≤ i → i < n → Calls Try.prog F #[v, .int .i64 i, .int .i64 n] u fun e u' => e = .returned (lkV (D l i)) ∧ Below u.heap.size u u'
  isl : ∀ l i, isBytes l → l.length = 16 → 0 ≤ i → i < n → isLk (D l i)
def ringD (pk : Bool) (n : Int) : List Int → Int → Lk := if pk = true then dPk n else dSp
def tabD (pk : Bool) (n : Int) : List Int → Int → Lk := if pk = true then dEn n else dSp
theorem dec_ring (pk : Bool) (n : Int) (hn : n ≤ 32768) : Dec (decN pk) n (ringD pk n) := by
  cases pk
  · exact ⟨fun args u => run_callFunc_body (by kernel_rfl) args u, fun v l i u h1 h2 h3 h4 h5 => vsplitlink v l i n u h1 h2 h3, fun l i h1 h2 _ _ => isLk_sp h1 h2 i⟩
  · exact ⟨fun args u => run_callFunc_body (by kernel_rfl) args u, fun v l i u h1 h2 h3 h4 h5 => vpackedlink v l i n u h1 h2 h3 h4 h5 hn, fun l i h1 h2 h3 h4 => isLk_pk h1 h2 h3 h4 hn⟩
theorem dec_tab (pk : Bool) (n : Int) (hn : n ≤ 32768) : Dec (entN pk) n (tabD pk n) := by
  cases pk
  · exact ⟨fun args u => run_callFunc_body (by kernel_rfl) args u, fun v l i u h1 h2 h3 h4 h5 => vsplitlink v l i n u h1 h2 h3, fun l i h1 h2 _ _ => isLk_sp h1 h2 i⟩
  · exact ⟨fun args u => run_callFunc_body (by kernel_rfl) args u, fun v l i u h1 h2 h3 h4 h5 => vpackedentry v l i n u h1 h2 h3 h4 h5 hn, fun l i h1 h2 h3 h4 => isLk_en h1 h2 h3 h4 hn⟩
theorem gtE_no {R : List (Int × Int)} {a n i : Int} (h : okI n i = false) : gtE R a n i = 4 := by
  unfold gtE
  rw [if_neg (by rw [h]; decide)]
theorem gtE_yes {R : List (Int × Int)} {a n i : Int} (h : okI n i = true) : gtE R a n i = readE R (a + 16 * i) 16 := by
  unfold gtE
  rw [if_pos h]
theorem gtD_no {R : List (Int × Int)} {M : List Int} {a n i : Int} {D : List Int → Int → Lk} (h : gtE R a n i ≠ 0) : gtD R M a n D i = lk0 := by
  unfold gtD
  rw [if_neg h]
theorem gtD_yes {R : List (Int × Int)} {M : List Int} {a n i : Int} {D : List Int → Int → Lk} (h : gtE R a n i = 0) : gtD R M a n D i = D (readL R M (a + 16 * i) 16) i := by
  unfold gtD
  rw [if_pos h]
theorem gtE_okI {R : List (Int × Int)} {a n i : Int} (h : gtE R a n i = 0) : okI n i = true := by
  cases ho : okI n i
  · rw [gtE_no ho] at h
    cases h
  · rfl
theorem gtD_is {R : List (Int × Int)} {M : List Int} {a n i : Int} {F : Nat} {D : List Int → Int → Lk} (hD : Dec F n D) (hok : okR (-1) 1048576 R = true) (hM : M.length = sumR R) (hB : isBytes M) : isLk (gtD R M a n D i) := by
  by_cases h : gtE R a n i = 0
  · have ho := gtE_okI h
    rw [gtD_yes h]
    rw [gtE_yes ho] at h
    obtain ⟨h0, h1⟩ := okI_iff.1 ho
    exact hD.isl _ _ (readL_bytes hB) (readL_16 hok hM h) h0 h1
  · rw [gtD_no h]
    exact ⟨⟨by decide, by decide, by decide⟩, by decide, by decide, by decide, by decide⟩

set_option maxHeartbeats 1000000 in
theorem vget (p ib qb : Nat) (R : List (Int × Int)) (M : List Int) (a n i : Int) (F : Nat) (D : List Int → Int → Lk) (w : World) (hm : IsMem w p ib qb R M) (hD : Dec F n D) (ha0 : 0 ≤ a) (ha1 : a + 16 * n ≤ 18446744073709551616) (hn : n ≤ 32768) :
    Calls Try.prog 58 #[lgV a n F, .pointer (some ⟨p, 0, none⟩), .int .i64 i] w fun e w' => e = .returned (.tuple #[lkV (gtD R M a n D i), .int .i64 (gtE R a n i)]) ∧ Below w.heap.size w w' := by
  have HW := hid_mk (blk_new (w.alloc (.cells #[.int .u64 a, .int .i64 n, .func (.func F) #[] #[]] 124)) zLk 130)
  have HL := hid_mk ((blk_new w [.int .u64 a, .int .i64 n, .func (.func F) #[] #[]] 124).below (below_box _ (.cells zLk.toArray 130)))
  by_cases ho : okI n i = true
  · rw [gtE_yes ho]
    have hg := gtE_yes (R := R) (a := a) ho
    obtain ⟨h0, h1⟩ := okI_iff.1 ho
    have hw1 : IntKind.u64.wrap i = i := by rw [IntKind.wrap_u64]; omega
    have hw2 : IntKind.u64.wrap (16 * i) = 16 * i := by rw [IntKind.wrap_u64]; omega
    have hw3 : IntKind.u64.wrap (a + 16 * i) = a + 16 * i := by rw [IntKind.wrap_u64]; omega
    have b1 : decide (i < 0) = false := decide_eq_false (by omega)
    have b2 : decide (n ≤ i) = false := decide_eq_false (by omega)
    have HR := hid_mk (fun u (h : Below w.heap.size w u) => read_any p ib qb R M (a + 16 * i) 16 u (hm.below h) ⟨by omega, by omega⟩ (by decide))
    rcases readE_is R (a + 16 * i) with he | he
    · have hL := readL_16 hm.ok hm.len he
      have hBy : isBytes (readL R M (a + 16 * i) 16) := readL_bytes hm.rng
      rw [gtD_yes (hg.trans he), he]
      rw [he] at HR
      have HE := hid_mk (fun v u (h : BytesAt u v (readL R M (a + 16 * i) 16)) => hD.run v _ i u h hBy hL h0 h1)
      have hent := hD.ent
      unfold lkV at HE ⊢
      generalize D (readL R M (a + 16 * i) 16) i = d at *
      obtain ⟨⟨da, dn, df⟩, dt, did, dnx, dm⟩ := d
      simp only at *
      clear hm hD ha0 ha1 hn ho hg h0 h1 he hL hBy
      go_enter Try.func58, Try.ntmps58
      go_wp2_with fail
      refine (HR.out _ (by exact (below_box w _).alloc (by simp) _)).mono ?_
      rintro e w1 ⟨v, rfl, hv, hb1⟩
      have HB1 := hid_mk (((below_box w _).alloc (by simp) _).trans (hb1.mono (by simp; omega)))
      have HV := hid_mk hv.at
      have HW1 := hid_mk (HW.out.below hb1)
      obtain ⟨r, r0, r1, r2, s0, s1, s2⟩ := cw3 (HL.out.below hb1)
      clear hb1 HR hv
      go_wp2_with (go_at_fn F; refine (HE.out _ _ HV.out).mono ?_; rintro e w2 ⟨rfl, hb2⟩; have HB2 := hid_mk (below_then HB1.out hb2); obtain ⟨p, p0, p1, p2, p3, p4, p5, p6, q0, q1, q2, q3, q4, q5, q6⟩ := cells7 (HW1.out.below hb2); rw [sizeA] at p p0 p1 p2 p3 p4 p5 p6 q0 q1 q2 q3 q4 q5 q6; clear hb2)
      exact bodyPost_ret (v := .tuple #[.agg #[.int .u64 da, .int .u32 dn, .bool df, .bool dt, .int .i64 did, .int .i64 dnx, .bool dm], .int .i64 0]) (by simp [results, Try.results58, go_sem, p0, p1, p2, p3, p4, p5, p6]) rfl ⟨rfl, put7_below HB2.out (by omega) _ _ _ _ _ _ _⟩
    · rw [gtD_no (by rw [hg, he]; decide), he]
      rw [he] at HR
      clear hm hD ha0 ha1 hn ho hg h0 h1 he
      go_enter Try.func58, Try.ntmps58
      go_wp2_with fail
      refine (HR.out _ (by exact (below_box w _).alloc (by simp) _)).mono ?_
      rintro e w1 ⟨v, rfl, hv, hb1⟩
      have HB1 := hid_mk (((below_box w _).alloc (by simp) _).trans (hb1.mono (by simp; omega)))
      obtain ⟨p, p0, p1, p2, p3, p4, p5, p6, q0, q1, q2, q3, q4, q5, q6⟩ := cells7 (HW.out.below hb1)
      rw [sizeA] at p p0 p1 p2 p3 p4 p5 p6 q0 q1 q2 q3 q4 q5 q6
      clear hb1 HR hv
      go_wp2_with fail
      exact bodyPost_ret (v := .tuple #[lkV lk0, .int .i64 5]) (by simp [results, Try.results58, go_sem, lkV, lk0, p0, p1, p2, p3, p4, p5, p6]) rfl ⟨rfl, put7_below HB1.out (by omega) _ _ _ _ _ _ _⟩
  · have ho : okI n i = false := by simpa using ho
    rw [gtD_no (by rw [gtE_no ho]; decide), gtE_no ho]
    have hor : i < 0 ∨ n ≤ i := okI_no ho
    by_cases hk0 : i < 0
    · have b1 : decide (i < 0) = true := decide_eq_true hk0
      clear hm hD ha0 ha1 hn ho hor hk0
      go_enter Try.func58, Try.ntmps58
      go_wp2_with fail
      exact bodyPost_ret (v := .tuple #[lkV lk0, .int .i64 4]) (by simp [results, Try.results58, go_sem, lkV, lk0]) rfl ⟨rfl, (below_box w _).alloc (by simp) _⟩
    · have b1 : decide (i < 0) = false := decide_eq_false hk0
      have b2 : decide (n ≤ i) = true := decide_eq_true (by omega)
      clear hm hD ha0 ha1 hn ho hor hk0
      go_enter Try.func58, Try.ntmps58
      go_wp2_with fail
      exact bodyPost_ret (v := .tuple #[lkV lk0, .int .i64 4]) (by simp [results, Try.results58, go_sem, lkV, lk0]) rfl ⟨rfl, (below_box w _).alloc (by simp) _⟩
end Go.Proofs.Ytfhhgcgbgmilcaa

/- The reference of layer 10: Split, Reads. Conditions: as each theorem names them. -/
namespace Go.Proofs.Ytfhhgcgbgmilcaa
open Go.ChangeShapes Go.WideShapes Go.ChangeAt Go.RowKit
set_option linter.unusedVariables false
set_option maxRecDepth 100000

set_option maxHeartbeats 2000000 in
theorem rsplit10 (rp : Nat) (R : List (Int × Int)) (M : List Int) (pk : Bool) (n d g c head : Int) (table : Bool) (w : World) (hm : RefM w rp R M) (hd : U64 d) (hg : U64 g) (hc : U64 c) (hh : I64 head) :
    Calls Try.prog 18 #[.pointer (some ⟨rp, 0, none⟩), rV pk n d g c, .int .i64 head, .bool table] w fun e w' => ∃ v, e = .returned (.tuple #[v, .int .i64 (wsE R M pk n d g c head table)]) ∧ SegsAt w' v (wsL R M pk n d g c head table) ∧ Below w.heap.size w w' := by
  obtain ⟨base, lb, bb, cL, cB, aB, D, hmi⟩ := hm
  have HP := hid_mk (fun u => rrefuse rp pk n d g c false u hd hg hc)
  have HM : Hid (RefM w rp R M) := hid_mk ⟨base, lb, bb, cL, cB, aB, D, hmi⟩
  have HOk := hid_mk hmi.ok
  have HLn := hid_mk hmi.len
  have HBy := hid_mk hmi.rng
  have HB := hid_mk (below_box w (.cells #[.bool pk, .int .i64 n, .int .u64 d, .int .u64 g, .int .u64 c] 24))
  have HX := hid_mk (blk_new w [.bool pk, .int .i64 n, .int .u64 d, .int .u64 g, .int .u64 c] 24)
  have HD := hid_mk hd
  have HH := hid_mk hh
  unfold wsE wsL
  clear hmi hd hg hc hh
  by_cases hz : wrfE pk false n d g c = 0
  · rw [if_pos hz, if_pos hz]
    rw [hz] at HP
    have hpk := wrfE_pk hz
    subst hpk
    obtain ⟨n1, n2, n3⟩ := rg_ok hz
    have HN := hid_mk (show 1 ≤ n ∧ n ≤ 32768 ∧ d + 16 * n ≤ 18446744073709551616 from ⟨n1, n2, n3⟩)
    have HG := hid_mk (wspl_grw HOk.out HLn.out HBy.out d n head table)
    clear hz n1 n2 n3
    go_enter Try.func18, Try.ntmps18
    go_wp2_with fail
    refine (HP.out _).mono ?_
    rintro e w1 ⟨rfl, hb⟩
    have HB1 := hid_mk (below_then HB.out hb)
    have HX1 := hid_mk (HX.out.below hb)
    have HR := hid_mk (rd_new (HM.out.below (below_then HB.out hb)) HOk.out HLn.out HBy.out)
    have hx1 : w1.cell? ⟨w.heap.size, 1, none⟩ = some (.int .i64 n) := HX1.out.cell 1
    have hx2 : w1.cell? ⟨w.heap.size, 2, none⟩ = some (.int .u64 d) := HX1.out.cell 2
    have hlt := HX1.out.lt
    clear hb
    go_wp2_with fail
    refine (rchain_out w1 rp w1.heap.size R M d n head table _ HR.out HD.out.1 HN.out.2.2 (by have := HN.out; omega) HN.out.2.1 HH.out).mono ?_
    rintro e w2 ⟨rfl, hl⟩
    have HR2 := hid_mk (HR.out.lf hl)
    clear hl hx1 hx2 hlt
    go_wp2_with fail
    refine (rend w1 rp w1.heap.size R M _ w2 HR2.out (HG.out.sg (fun s hs => by cases hs)) (by have h5 : (wspl R M d n head table).S.length ≤ 0 + (n.toNat + 1 + 65) := HG.out.len.2; have := HN.out; omega)).mono ?_
    rintro e w3 ⟨v, rfl, hv, hb, _⟩
    have HV := hid_mk hv.at
    have HB3 := hid_mk (below_then HB1.out hb)
    obtain ⟨va, vc, rfl⟩ := hv.at.len
    clear hv hb
    go_wp2_with fail
    go_ret2
    exact ⟨_, rfl, HV.out, HB3.out⟩
  · rw [if_neg hz, if_neg hz]
    have b1 : (wrfE pk false n d g c != 0) = true := by simp; exact hz
    generalize wrfE pk false n d g c = z at *
    clear hz
    go_enter Try.func18, Try.ntmps18
    go_wp2_with fail
    refine (HP.out _).mono ?_
    rintro e w1 ⟨rfl, hb⟩
    have HB1 := hid_mk (below_then HB.out hb)
    clear hb
    go_wp2_with fail
    go_ret2
    exact ⟨_, rfl, SegsAt_nil _, HB1.out⟩
set_option maxHeartbeats 2000000 in
theorem rreads10 (rp : Nat) (R : List (Int × Int)) (M : List Int) (pk : Bool) (n d g c head : Int) (table : Bool) (w : World) (hm : RefM w rp R M) (hd : U64 d) (hg : U64 g) (hc : U64 c) (hh : I64 head) :
    Calls Try.prog 19 #[.pointer (some ⟨rp, 0, none⟩), rV pk n d g c, .int .i64 head, .bool table] w fun e w' => e = .returned (.int .i64 (wsN R M pk n d g c head table : Nat)) ∧ Below w.heap.size w w' := by
  obtain ⟨base, lb, bb, cL, cB, aB, D, hmi⟩ := hm
  have HP := hid_mk (fun u => rrefuse rp pk n d g c false u hd hg hc)
  have HM : Hid (RefM w rp R M) := hid_mk ⟨base, lb, bb, cL, cB, aB, D, hmi⟩
  have HOk := hid_mk hmi.ok
  have HLn := hid_mk hmi.len
  have HBy := hid_mk hmi.rng
  have HB := hid_mk (below_box w (.cells #[.bool pk, .int .i64 n, .int .u64 d, .int .u64 g, .int .u64 c] 24))
  have HX := hid_mk (blk_new w [.bool pk, .int .i64 n, .int .u64 d, .int .u64 g, .int .u64 c] 24)
  have HD := hid_mk hd
  have HH := hid_mk hh
  unfold wsN
  clear hmi hd hg hc hh
  by_cases hz : wrfE pk false n d g c = 0
  · rw [if_pos hz]
    rw [hz] at HP
    have hpk := wrfE_pk hz
    subst hpk
    obtain ⟨n1, n2, n3⟩ := rg_ok hz
    have HN := hid_mk (show 1 ≤ n ∧ n ≤ 32768 ∧ d + 16 * n ≤ 18446744073709551616 from ⟨n1, n2, n3⟩)
    clear hz n1 n2 n3
    go_enter Try.func19, Try.ntmps19
    go_wp2_with fail
    refine (HP.out _).mono ?_
    rintro e w1 ⟨rfl, hb⟩
    have HB1 := hid_mk (below_then HB.out hb)
    have HX1 := hid_mk (HX.out.below hb)
    have HR := hid_mk (rd_new (HM.out.below (below_then HB.out hb)) HOk.out HLn.out HBy.out)
    have hx1 : w1.cell? ⟨w.heap.size, 1, none⟩ = some (.int .i64 n) := HX1.out.cell 1
    have hx2 : w1.cell? ⟨w.heap.size, 2, none⟩ = some (.int .u64 d) := HX1.out.cell 2
    have hlt := HX1.out.lt
    clear hb
    go_wp2_with fail
    refine (rchain_out w1 rp w1.heap.size R M d n head table _ HR.out HD.out.1 HN.out.2.2 (by have := HN.out; omega) HN.out.2.1 HH.out).mono ?_
    rintro e w2 ⟨rfl, hl⟩
    have HR2 := hid_mk (HR.out.lf hl)
    obtain ⟨x0, x1, x2, x3, x4, x5⟩ := HR2.out.objs1
    clear hl hx1 hx2 hlt
    go_wp2_with fail
    go_ret
    exact ⟨rfl, below_then HB1.out HR2.out.old⟩
  · rw [if_neg hz]
    have b1 : (wrfE pk false n d g c != 0) = true := by simp; exact hz
    generalize wrfE pk false n d g c = z at *
    clear hz
    go_enter Try.func19, Try.ntmps19
    go_wp2_with fail
    refine (HP.out _).mono ?_
    rintro e w1 ⟨rfl, hb⟩
    have HB1 := hid_mk (below_then HB.out hb)
    clear hb
    go_wp2_with fail
    go_ret
    exact ⟨rfl, HB1.out⟩
end Go.Proofs.Ytfhhgcgbgmilcaa

/- The reference of layer 10: a packed table. Conditions: as each theorem names them. -/
namespace Go.Proofs.Ytfhhgcgbgmilcaa
open Go.ChangeShapes Go.WideShapes Go.ChangeAt Go.RowKit
set_option linter.unusedVariables false
set_option maxRecDepth 100000

/-- a part of what is there is there -/
theorem loc_sub {R : List (Int × Int)} {a n b m : Int} (hok : okR (-1) 1048576 R = true) (h : (loc R a n).isSome = true) (h1 : a ≤ b) (h2 : b + m ≤ a + n) (h3 : 1 ≤ m) : (loc R b m).isSome = true := by
  cases e : loc R a n with
  | none => rw [e] at h; cases h
  | some k =>
    obtain ⟨i, hi, g1, g2, g3, g4⟩ := loc_some e
    rw [loc_mk hok hi (by omega) (by omega) h3]
    rfl
theorem read_sub {R : List (Int × Int)} {a l : Int} (hok : okR (-1) 1048576 R = true) (h : wenE R a l = 0) (i : Nat) (hi : (i : Int) < l / 16) : readE R (a + 16 * (i : Int)) 16 = 0 := by
  rcases wenE_cases R a l with ⟨_, h1, h2, h3, h4⟩ | ⟨e, _⟩ | ⟨e, _⟩
  · unfold readE
    rw [if_neg (by omega), if_neg (by omega), if_pos (loc_sub hok h4 (by omega) (by omega) (by omega))]
  · rw [e] at h
    cases h
  · rw [e] at h
    cases h
theorem wpe_succ (R : List (Int × Int)) (M : List Int) (a : Int) (r i : Nat) (x : Wst) : wpe R M a (r + 1) i x = if flB (dR (readL R M (a + 16 * (i : Int)) 16)).n 4 = true then wstop 4 x else wpe R M a r (i + 1) (wseg (dR (readL R M (a + 16 * (i : Int)) 16)).a (dR (readL R M (a + 16 * (i : Int)) 16)).l (dR (readL R M (a + 16 * (i : Int)) 16)).n x) := rfl
set_option maxHeartbeats 4000000 in
theorem rptab10 (w0 : World) (rp xb : Nat) (R : List (Int × Int)) (M : List Int) (a l : Int) (x : Wst) (w : World) (h : Rd w0 rp R M xb x w) (ha : U64 a) (hl0 : 0 ≤ l) (hl1 : l < 4294967296) (hx2 : x.S.length ≤ 40000) :
    Calls Try.prog 50 #[.pointer (some ⟨xb, 0, none⟩), .int .u64 a, .int .u32 l] w fun e w' => e = .returned (.tuple #[]) ∧ Lf w0 w xb (.pointer (some ⟨rp, 0, none⟩)) (wptb R M a l x) w' := by
  have HE := hid_mk (rents w0 rp xb R M x a l w h ha ⟨hl0, hl1⟩)
  have H := hid_mk h
  obtain ⟨FIN, hFIN⟩ : ∃ F, F = wptb R M a l x := ⟨_, rfl⟩
  rw [← hFIN]
  unfold wptb at hFIN
  by_cases hz : wenE R a l = 0
  · rw [if_pos hz] at hFIN
    rw [if_pos hz, if_pos hz, decide_eq_true hz] at HE
    have hc : l / 16 ≤ 64 ∧ (loc R a l).isSome = true := by
      rcases wenE_cases R a l with ⟨_, _, _, h3, h4⟩ | ⟨e, _⟩ | ⟨e, _⟩
      · exact ⟨h3, h4⟩
      · rw [e] at hz
        cases hz
      · rw [e] at hz
        cases hz
    have ht := loc_top h.ok hc.2
    obtain ⟨q, hq⟩ := Int.eq_ofNat_of_zero_le (show 0 ≤ l / 16 by omega)
    have hq64 : q ≤ 64 := by omega
    have HSub := hid_mk (fun i (hi : i < q) => read_sub h.ok hz i (by omega))
    have HTop := hid_mk (show 0 ≤ a ∧ a + 16 * (q : Int) ≤ 18446744073709551616 by omega)
    rw [hq] at HE hFIN
    rw [Int.toNat_natCast] at hFIN
    have HFI := hid_mk hFIN
    have HX2 := hid_mk hx2
    have HQ := hid_mk hq64
    clear h ha hl0 hl1 hx2 hz hc ht hFIN hq
    go_enter Try.func50, Try.ntmps50
    go_wp2_with fail
    refine HE.out.mono ?_
    rintro e w1 ⟨rfl, hl⟩
    have HL := hid_mk hl
    clear hl
    go_wp2_with fail
    go_loopw [8, 9, 10, 11, 12] (fun i _ _ _ _ wr => ∃ (k : Nat) (y : Wst), k ≤ q ∧ i = .int .i64 k ∧ Hid (Lf w0 w xb (.pointer (some ⟨rp, 0, none⟩)) y wr) ∧ Hid (y.S.length ≤ x.S.length + k) ∧ Hid (FIN = wpe R M a (q - k) k y)) (fun i _ _ _ _ _ => q - (intOf i).toNat)
    case atStart => exact ⟨0, x, Nat.zero_le _, rfl, HL, hid_mk (by omega), HFI⟩
    case round =>
      obtain ⟨k, y, hk, rfl, hlf, hyl, hfin⟩ := hrel
      by_cases hlt : k < q
      · have hki : (k : Int) < (q : Int) := by omega
        have hk64 : (k : Int) < 64 := by have := HQ.out; omega
        obtain ⟨r, hr⟩ : ∃ r, q - k = r + 1 := ⟨q - k - 1, by omega⟩
        rw [hr, wpe_succ] at hfin
        have HR1 := hid_mk (H.out.lf hlf.out)
        have hE := HSub.out k hlt
        have hl16 := readL_16 HR1.out.ok HR1.out.len hE
        have hdi := dR_is (readL_bytes HR1.out.byt) hl16
        have HRd := hid_mk (rread16 HR1.out (a + 16 * (k : Int)) (by have := HTop.out; omega) wr (Below.refl _ _))
        rw [hE] at HRd
        have HPd := hid_mk (fun v u (hu : BytesAt u v (readL R M (a + 16 * (k : Int)) 16)) => rpread_any v (readL R M (a + 16 * (k : Int)) 16) u hu (readL_bytes HR1.out.byt) (by omega))
        rw [(rd_yes hl16).1, (rd_yes hl16).2] at HPd
        have hw1 : IntKind.u64.wrap (k : Int) = (k : Int) := by rw [IntKind.wrap_u64]; omega
        have hw2 : IntKind.u64.wrap (16 * (k : Int)) = 16 * (k : Int) := by rw [IntKind.wrap_u64]; omega
        have hw3 : IntKind.u64.wrap (a + 16 * (k : Int)) = a + 16 * (k : Int) := by have := HTop.out; rw [IntKind.wrap_u64]; omega
        have hf4 : (bits .and .u16 (dR (readL R M (a + 16 * (k : Int)) 16)).n 4 != 0) = flB (dR (readL R M (a + 16 * (k : Int)) 16)).n 4 := flB_and 4 hdi.n (by decide)
        have HDI := hid_mk hdi
        obtain ⟨x0, x1, x2, x3, x4, x5⟩ := HR1.out.objs1
        generalize hL : readL R M (a + 16 * (k : Int)) 16 = L at *
        clear hdi hl16 hE hL
        generalize dR L = d at *
        go_wp2_with fail
        refine HRd.out.mono ?_
        rintro e w2 ⟨v, rfl, ⟨hv, _⟩, hb⟩
        have HV := hid_mk hv
        have HB := hid_mk hb
        clear hv hb x0 x1 x2 x3 x4 x5
        go_wp2_with fail
        refine (HPd.out _ _ HV.out).mono ?_
        rintro e w3 ⟨rfl, hb⟩
        have HB3 := hid_mk (below_then HB.out hb)
        have HR3 := hid_mk ((HR1.out.below (below_then HB.out hb)).below (below_box w3 (.cells #[.int .u64 d.a, .int .u32 d.l, .int .u16 d.f, .int .u16 d.n] 99)))
        have HL3 := hid_mk ((hlf.out.below (below_then HB.out hb)).below (below_box w3 (.cells #[.int .u64 d.a, .int .u32 d.l, .int .u16 d.f, .int .u16 d.n] 99)))
        clear hb
        cases h4 : flB d.n 4
        · rw [h4, if_neg (by decide)] at hfin
          go_wp2_with fail
          refine (rsegW HR3.out d.a d.l d.n HDI.out.n (by have := hyl.out; have := HX2.out; omega)).mono ?_
          rintro e w4 ⟨rfl, hl⟩
          have HL4 := hid_mk (HL3.out.then hl)
          clear hl
          go_wp2_with fail
          go_roundw
          case rel => exact ⟨k + 1, wseg d.a d.l d.n y, by omega, by simp, HL4, hid_mk (by have := hyl.out; rw [(wseg_len _ _ _ _).1]; omega), by rw [show q - (k + 1) = r by omega]; exact hfin⟩
          case measure => simp [intOf]; omega
        · rw [h4, if_pos rfl] at hfin
          go_wp2_with fail
          refine (rstopW HR3.out 4).mono ?_
          rintro e w4 ⟨rfl, hl⟩
          have HL4 := hid_mk (HL3.out.then hl)
          clear hl
          go_wp2_with fail
          exact bodyPost_ret (results_none rfl _ _ _) rfl ⟨rfl, by rw [hfin.out]; exact HL4.out⟩
      · obtain rfl : k = q := by omega
        rw [Nat.sub_self] at hfin
        go_wp2_with fail
        go_end0
        exact ⟨rfl, by rw [hfin.out]; exact hlf.out⟩
  · rw [if_neg hz] at hFIN
    rw [if_neg hz, if_neg hz, decide_eq_false hz] at HE
    have HFI := hid_mk hFIN
    rw [← hFIN] at HE
    clear h ha hl0 hl1 hx2 hz hFIN
    go_enter Try.func50, Try.ntmps50
    go_wp2_with fail
    refine HE.out.mono ?_
    rintro e w1 ⟨rfl, hl⟩
    have HL := hid_mk hl
    clear hl
    go_wp2_with fail
    go_loopw [8, 9, 10, 11, 12] (fun i _ _ _ _ wr => i = .int .i64 0 ∧ wr = w1) (fun _ _ _ _ _ _ => 0)
    case atStart => exact ⟨rfl, rfl⟩
    case round =>
      obtain ⟨rfl, rfl⟩ := hrel
      go_wp2_with fail
      go_end0
      exact ⟨rfl, HL.out⟩
end Go.Proofs.Ytfhhgcgbgmilcaa
