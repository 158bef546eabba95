/- Ww4 Wk9 Wk10: joined texts. Conditions: as each theorem names them. -/
import Derived.Test.YtfhhgcgbgmilcaaGreatKp30
import Derived.Test.YtfhhgcgbgmilcaaGreatKp28
/- walk's get. Conditions: as each theorem names them. -/
namespace Go.Proofs.YtfhhgcgbgmilcaaGreat
open Go.ChangeShapes Go.WideShapes Go.ChangeAt Go.RowKit
set_option linter.unusedVariables false
set_option maxRecDepth 100000

/-- a decoder as a function -/
structure Dec (F : Nat) (n : Int) (D : List Int → Int → Lk) : Prop where
  ent : ∀ args u, (callFunc F args).run Tryz.prog u = .ok (.enter F args) u
  run : ∀ v l i u, BytesAt u v l → isBytes l → l.length = 16 → 0 ≤ i → i < n → Calls Tryz.prog F #[v, .int .i64 i, .int .i64 n] u fun e u' => e = .returned (lkV (D l i)) ∧ Below u.heap.size u u'
  isl : ∀ l i, isBytes l → l.length = 16 → 0 ≤ i → i < n → isLk (D l i)
def ringD (pk : Bool) (n : Int) : List Int → Int → Lk := if pk = true then dPk n else dSp
def tabD (pk : Bool) (n : Int) : List Int → Int → Lk := if pk = true then dEn n else dSp
theorem dec_ring (pk : Bool) (n : Int) (hn : n ≤ 32768) : Dec (decN pk) n (ringD pk n) := by
  cases pk
  · exact ⟨fun args u => run_callFunc_body (by kernel_rfl) args u, fun v l i u h1 h2 h3 h4 h5 => vsplitlink v l i n u h1 h2 h3, fun l i h1 h2 _ _ => isLk_sp h1 h2 i⟩
  · exact ⟨fun args u => run_callFunc_body (by kernel_rfl) args u, fun v l i u h1 h2 h3 h4 h5 => vpackedlink v l i n u h1 h2 h3 h4 h5 hn, fun l i h1 h2 h3 h4 => isLk_pk h1 h2 h3 h4 hn⟩
theorem dec_tab (pk : Bool) (n : Int) (hn : n ≤ 32768) : Dec (entN pk) n (tabD pk n) := by
  cases pk
  · exact ⟨fun args u => run_callFunc_body (by kernel_rfl) args u, fun v l i u h1 h2 h3 h4 h5 => vsplitlink v l i n u h1 h2 h3, fun l i h1 h2 _ _ => isLk_sp h1 h2 i⟩
  · exact ⟨fun args u => run_callFunc_body (by kernel_rfl) args u, fun v l i u h1 h2 h3 h4 h5 => vpackedentry v l i n u h1 h2 h3 h4 h5 hn, fun l i h1 h2 h3 h4 => isLk_en h1 h2 h3 h4 hn⟩
theorem gtE_no {R : List (Int × Int)} {a n i : Int} (h : okI n i = false) : gtE R a n i = 4 := by
  unfold gtE
  rw [if_neg (by rw [h]; decide)]
theorem gtE_yes {R : List (Int × Int)} {a n i : Int} (h : okI n i = true) : gtE R a n i = readE R (a + 16 * i) 16 := by
  unfold gtE
  rw [if_pos h]
theorem gtD_no {R : List (Int × Int)} {M : List Int} {a n i : Int} {D : List Int → Int → Lk} (h : gtE R a n i ≠ 0) : gtD R M a n D i = lk0 := by
  unfold gtD
  rw [if_neg h]
theorem gtD_yes {R : List (Int × Int)} {M : List Int} {a n i : Int} {D : List Int → Int → Lk} (h : gtE R a n i = 0) : gtD R M a n D i = D (readL R M (a + 16 * i) 16) i := by
  unfold gtD
  rw [if_pos h]
theorem gtE_okI {R : List (Int × Int)} {a n i : Int} (h : gtE R a n i = 0) : okI n i = true := by
  cases ho : okI n i
  · rw [gtE_no ho] at h
    cases h
  · rfl
theorem gtD_is {R : List (Int × Int)} {M : List Int} {a n i : Int} {F : Nat} {D : List Int → Int → Lk} (hD : Dec F n D) (hok : okR (-1) 1048576 R = true) (hM : M.length = sumR R) (hB : isBytes M) : isLk (gtD R M a n D i) := by
  by_cases h : gtE R a n i = 0
  · have ho := gtE_okI h
    rw [gtD_yes h]
    rw [gtE_yes ho] at h
    obtain ⟨h0, h1⟩ := okI_iff.1 ho
    exact hD.isl _ _ (readL_bytes hB) (readL_16 hok hM h) h0 h1
  · rw [gtD_no h]
    exact ⟨⟨by decide, by decide, by decide⟩, by decide, by decide, by decide, by decide⟩

set_option maxHeartbeats 1000000 in
theorem vget (p ib qb : Nat) (R : List (Int × Int)) (M : List Int) (a n i : Int) (F : Nat) (D : List Int → Int → Lk) (w : World) (hm : IsMem w p ib qb R M) (hD : Dec F n D) (ha0 : 0 ≤ a) (ha1 : a + 16 * n ≤ 18446744073709551616) (hn : n ≤ 32768) :
    Calls Tryz.prog 68 #[lgV a n F, .pointer (some ⟨p, 0, none⟩), .int .i64 i] w fun e w' => e = .returned (.tuple #[lkV (gtD R M a n D i), .int .i64 (gtE R a n i)]) ∧ Below w.heap.size w w' := by
  have HW := hid_mk (blk_new (w.alloc (.cells #[.int .u64 a, .int .i64 n, .func (.func F) #[] #[]] 152)) zLk 157)
  have HL := hid_mk ((blk_new w [.int .u64 a, .int .i64 n, .func (.func F) #[] #[]] 152).below (below_box _ (.cells zLk.toArray 157)))
  by_cases ho : okI n i = true
  · rw [gtE_yes ho]
    have hg := gtE_yes (R := R) (a := a) ho
    obtain ⟨h0, h1⟩ := okI_iff.1 ho
    have hw1 : IntKind.u64.wrap i = i := by rw [IntKind.wrap_u64]; omega
    have hw2 : IntKind.u64.wrap (16 * i) = 16 * i := by rw [IntKind.wrap_u64]; omega
    have hw3 : IntKind.u64.wrap (a + 16 * i) = a + 16 * i := by rw [IntKind.wrap_u64]; omega
    have b1 : decide (i < 0) = false := decide_eq_false (by omega)
    have b2 : decide (n ≤ i) = false := decide_eq_false (by omega)
    have HR := hid_mk (fun u (h : Below w.heap.size w u) => read_any p ib qb R M (a + 16 * i) 16 u (hm.below h) ⟨by omega, by omega⟩ (by decide))
    rcases readE_is R (a + 16 * i) with he | he
    · have hL := readL_16 hm.ok hm.len he
      have hBy : isBytes (readL R M (a + 16 * i) 16) := readL_bytes hm.rng
      rw [gtD_yes (hg.trans he), he]
      rw [he] at HR
      have HE := hid_mk (fun v u (h : BytesAt u v (readL R M (a + 16 * i) 16)) => hD.run v _ i u h hBy hL h0 h1)
      have hent := hD.ent
      unfold lkV at HE ⊢
      generalize D (readL R M (a + 16 * i) 16) i = d at *
      obtain ⟨⟨da, dn, df⟩, dt, did, dnx, dm⟩ := d
      simp only at *
      clear hm hD ha0 ha1 hn ho hg h0 h1 he hL hBy
      go_enter Tryz.func68, Tryz.ntmps68
      go_wp2_with fail
      refine (HR.out _ (by exact (below_box w _).alloc (by simp) _)).mono ?_
      rintro e w1 ⟨v, rfl, hv, hb1⟩
      have HB1 := hid_mk (((below_box w _).alloc (by simp) _).trans (hb1.mono (by simp; omega)))
      have HV := hid_mk hv.at
      have HW1 := hid_mk (HW.out.below hb1)
      obtain ⟨r, r0, r1, r2, s0, s1, s2⟩ := cw3 (HL.out.below hb1)
      clear hb1 HR hv
      go_wp2_with (go_at_fn F; refine (HE.out _ _ HV.out).mono ?_; rintro e w2 ⟨rfl, hb2⟩; have HB2 := hid_mk (below_then HB1.out hb2); obtain ⟨p, p0, p1, p2, p3, p4, p5, p6, q0, q1, q2, q3, q4, q5, q6⟩ := cells7 (HW1.out.below hb2); rw [sizeA] at p p0 p1 p2 p3 p4 p5 p6 q0 q1 q2 q3 q4 q5 q6; clear hb2)
      exact bodyPost_ret (v := .tuple #[.agg #[.int .u64 da, .int .u32 dn, .bool df, .bool dt, .int .i64 did, .int .i64 dnx, .bool dm], .int .i64 0]) (by simp [results, Tryz.results68, go_sem, p0, p1, p2, p3, p4, p5, p6]) rfl ⟨rfl, put7_below HB2.out (by omega) _ _ _ _ _ _ _⟩
    · rw [gtD_no (by rw [hg, he]; decide), he]
      rw [he] at HR
      clear hm hD ha0 ha1 hn ho hg h0 h1 he
      go_enter Tryz.func68, Tryz.ntmps68
      go_wp2_with fail
      refine (HR.out _ (by exact (below_box w _).alloc (by simp) _)).mono ?_
      rintro e w1 ⟨v, rfl, hv, hb1⟩
      have HB1 := hid_mk (((below_box w _).alloc (by simp) _).trans (hb1.mono (by simp; omega)))
      obtain ⟨p, p0, p1, p2, p3, p4, p5, p6, q0, q1, q2, q3, q4, q5, q6⟩ := cells7 (HW.out.below hb1)
      rw [sizeA] at p p0 p1 p2 p3 p4 p5 p6 q0 q1 q2 q3 q4 q5 q6
      clear hb1 HR hv
      go_wp2_with fail
      exact bodyPost_ret (v := .tuple #[lkV lk0, .int .i64 5]) (by simp [results, Tryz.results68, go_sem, lkV, lk0, p0, p1, p2, p3, p4, p5, p6]) rfl ⟨rfl, put7_below HB1.out (by omega) _ _ _ _ _ _ _⟩
  · have ho : okI n i = false := by simpa using ho
    rw [gtD_no (by rw [gtE_no ho]; decide), gtE_no ho]
    have hor : i < 0 ∨ n ≤ i := okI_no ho
    by_cases hk0 : i < 0
    · have b1 : decide (i < 0) = true := decide_eq_true hk0
      clear hm hD ha0 ha1 hn ho hor hk0
      go_enter Tryz.func68, Tryz.ntmps68
      go_wp2_with fail
      exact bodyPost_ret (v := .tuple #[lkV lk0, .int .i64 4]) (by simp [results, Tryz.results68, go_sem, lkV, lk0]) rfl ⟨rfl, (below_box w _).alloc (by simp) _⟩
    · have b1 : decide (i < 0) = false := decide_eq_false hk0
      have b2 : decide (n ≤ i) = true := decide_eq_true (by omega)
      clear hm hD ha0 ha1 hn ho hor hk0
      go_enter Tryz.func68, Tryz.ntmps68
      go_wp2_with fail
      exact bodyPost_ret (v := .tuple #[lkV lk0, .int .i64 4]) (by simp [results, Tryz.results68, go_sem, lkV, lk0]) rfl ⟨rfl, (below_box w _).alloc (by simp) _⟩
end Go.Proofs.YtfhhgcgbgmilcaaGreat

/- The reference of layer 10: Split, Reads. Conditions: as each theorem names them. -/
namespace Go.Proofs.YtfhhgcgbgmilcaaGreat
open Go.ChangeShapes Go.WideShapes Go.ChangeAt Go.RowKit
set_option linter.unusedVariables false
set_option maxRecDepth 100000

end Go.Proofs.YtfhhgcgbgmilcaaGreat

/- The reference of layer 10: a packed table. Conditions: as each theorem names them. -/
namespace Go.Proofs.YtfhhgcgbgmilcaaGreat
open Go.ChangeShapes Go.WideShapes Go.ChangeAt Go.RowKit
set_option linter.unusedVariables false
set_option maxRecDepth 100000

/-- a part of what is there is there -/
theorem loc_sub {R : List (Int × Int)} {a n b m : Int} (hok : okR (-1) 1048576 R = true) (h : (loc R a n).isSome = true) (h1 : a ≤ b) (h2 : b + m ≤ a + n) (h3 : 1 ≤ m) : (loc R b m).isSome = true := by
  cases e : loc R a n with
  | none => rw [e] at h; cases h
  | some k =>
    obtain ⟨i, hi, g1, g2, g3, g4⟩ := loc_some e
    rw [loc_mk hok hi (by omega) (by omega) h3]
    rfl
theorem read_sub {R : List (Int × Int)} {a l : Int} (hok : okR (-1) 1048576 R = true) (h : wenE R a l = 0) (i : Nat) (hi : (i : Int) < l / 16) : readE R (a + 16 * (i : Int)) 16 = 0 := by
  rcases wenE_cases R a l with ⟨_, h1, h2, h3, h4⟩ | ⟨e, _⟩ | ⟨e, _⟩
  · unfold readE
    rw [if_neg (by omega), if_neg (by omega), if_pos (loc_sub hok h4 (by omega) (by omega) (by omega))]
  · rw [e] at h
    cases h
  · rw [e] at h
    cases h
theorem wpe_succ (R : List (Int × Int)) (M : List Int) (a : Int) (r i : Nat) (x : Wst) : wpe R M a (r + 1) i x = if flB (dR (readL R M (a + 16 * (i : Int)) 16)).n 4 = true then wstop 4 x else wpe R M a r (i + 1) (wseg (dR (readL R M (a + 16 * (i : Int)) 16)).a (dR (readL R M (a + 16 * (i : Int)) 16)).l (dR (readL R M (a + 16 * (i : Int)) 16)).n x) := rfl
end Go.Proofs.YtfhhgcgbgmilcaaGreat
