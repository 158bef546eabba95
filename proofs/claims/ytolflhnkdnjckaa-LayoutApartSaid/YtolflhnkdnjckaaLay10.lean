/- Contract of layout.Fits: what it returns, and that old memory stays. Conditions: as each theorem names them. Written by mklay10.py. -/
import Derived.Test.YtolflhnkdnjckaaLay7
namespace Go.Proofs.Ytolflhnkdnjckaa
open Go.ChangeShapes Go.WideShapes Go.ChangeAt Go.RowKit
set_option linter.unusedVariables false
set_option maxRecDepth 100000

theorem fits_nil (pk : Bool) (n d g c : Int) (w : World) :
    Calls Try.prog 12 #[.pointer none, rV pk n d g c] w fun e w' => e = .returned (.int .i64 1) ∧ Below w.heap.size w w' := by
  go_enter Try.func12, Try.ntmps12
  go_wp2_with (go_at_call 35; refine (read_nil _ _ _).mono ?_; rintro e w' ⟨rfl, rfl⟩)
  go_ret
  exact ⟨rfl, by repeat (first | exact Below.refl _ _ | (refine Below.alloc ?_ (by first | omega | (simp; done) | (simp; omega)) _))⟩

set_option maxHeartbeats 4000000 in
theorem fits_no (p ib qb : Nat) (L : List (Int × Int)) (M : List Int) (pk : Bool) (n d ld g lg c lc ck : Int) (w : World) (hm : IsMem w p ib qb L M) (hck : (ck != 0) = true)
    (HC : ∀ w, Calls Try.prog 13 #[rV pk n d g c] w fun e w' => e = .returned (.int .i64 ck) ∧ Below w.heap.size w w') :
    Calls Try.prog 12 #[.pointer (some ⟨p, 0, none⟩), rV pk n d g c] w fun e w' => e = .returned (.int .i64 ck) ∧ Below w.heap.size w w' := by
  have i0 := idx76_0
  have i1 := idx76_1
  have i2 := idx76_2
  have HC' := hid_mk HC
  have HM0 := hid_mk hm
  have hrE : readE L 0 0 = 0 := rfl
  clear HC hm
  go_enter Try.func12, Try.ntmps12
  go_wp2_with fail
  refine (read_any p ib qb L M 0 0 _ (HM0.out.below ((Below.refl _ _).alloc (Nat.le_refl _) _)) (by decide) (by decide)).mono ?_
  rintro e w1 ⟨v, rfl, -, hb1⟩
  have M1 := hid_mk ((HM0.out.below ((Below.refl _ _).alloc (Nat.le_refl _) _)).below hb1)
  have B1 := hid_mk (below_new (Below.refl _ _) hb1)
  have z1 := hb1.size
  simp at z1
  have q1 : w.heap.size < w1.heap.size := by omega
  have c10 := hb1.cell (p := ⟨w.heap.size, 0, none⟩) (by first | (simp; done) | (simp; omega))
  simp [go_sem] at c10
  have c11 := hb1.cell (p := ⟨w.heap.size, 1, none⟩) (by first | (simp; done) | (simp; omega))
  simp [go_sem] at c11
  have c12 := hb1.cell (p := ⟨w.heap.size, 2, none⟩) (by first | (simp; done) | (simp; omega))
  simp [go_sem] at c12
  have c13 := hb1.cell (p := ⟨w.heap.size, 3, none⟩) (by first | (simp; done) | (simp; omega))
  simp [go_sem] at c13
  have c14 := hb1.cell (p := ⟨w.heap.size, 4, none⟩) (by first | (simp; done) | (simp; omega))
  simp [go_sem] at c14
  clear hb1 HM0
  go_wp2_with fail
  refine (HC'.out _).mono ?_
  rintro e w2 ⟨rfl, hb2⟩
  have M2 := hid_mk (M1.out.below hb2)
  have B2 := hid_mk (below_then B1.out hb2)
  have z2 := hb2.size
  have q2 : w.heap.size < w2.heap.size := by omega
  have c20 := (hb2.cell (p := ⟨w.heap.size, 0, none⟩) (by simp only []; omega)).trans c10
  have c21 := (hb2.cell (p := ⟨w.heap.size, 1, none⟩) (by simp only []; omega)).trans c11
  have c22 := (hb2.cell (p := ⟨w.heap.size, 2, none⟩) (by simp only []; omega)).trans c12
  have c23 := (hb2.cell (p := ⟨w.heap.size, 3, none⟩) (by simp only []; omega)).trans c13
  have c24 := (hb2.cell (p := ⟨w.heap.size, 4, none⟩) (by simp only []; omega)).trans c14
  clear hb2 c10 c11 c12 c13 c14
  go_wp2_with fail
  go_ret
  exact ⟨rfl, B2.out⟩

set_option maxHeartbeats 4000000 in
theorem fits_core (p ib qb : Nat) (L : List (Int × Int)) (M : List Int) (pk : Bool) (n d ld g lg c lc ck : Int) (w : World) (hm : IsMem w p ib qb L M) (hck : (ck != 0) = false) (r0 r1 r2 : Bool)
    (HS : ∀ w, Calls Try.prog 36 #[rV pk n d g c] w fun e w' => e = .returned (.agg #[.int .u64 d, .int .u64 ld, .int .u64 g, .int .u64 lg, .int .u64 c, .int .u64 lc]) ∧ Below w.heap.size w w')
    (H0 : ∀ w, IsMem w p ib qb L M → Calls Try.prog 37 #[.pointer (some ⟨p, 0, none⟩), .int .u64 d, .int .u64 (IntKind.u64.wrap (IntKind.u64.wrap (ld - d) + 1))] w fun e w' => e = .returned (.bool r0) ∧ Below w.heap.size w w')
    (H1 : ∀ w, IsMem w p ib qb L M → Calls Try.prog 37 #[.pointer (some ⟨p, 0, none⟩), .int .u64 g, .int .u64 (IntKind.u64.wrap (IntKind.u64.wrap (lg - g) + 1))] w fun e w' => e = .returned (.bool r1) ∧ Below w.heap.size w w')
    (H2 : ∀ w, IsMem w p ib qb L M → Calls Try.prog 37 #[.pointer (some ⟨p, 0, none⟩), .int .u64 c, .int .u64 (IntKind.u64.wrap (IntKind.u64.wrap (lc - c) + 1))] w fun e w' => e = .returned (.bool r2) ∧ Below w.heap.size w w')
    (HC : ∀ w, Calls Try.prog 13 #[rV pk n d g c] w fun e w' => e = .returned (.int .i64 ck) ∧ Below w.heap.size w w') :
    Calls Try.prog 12 #[.pointer (some ⟨p, 0, none⟩), rV pk n d g c] w fun e w' => e = .returned (.int .i64 (if (r0 && r1 && r2) = true then 0 else 5)) ∧ Below w.heap.size w w' := by
  have i0 := idx76_0
  have i1 := idx76_1
  have i2 := idx76_2
  have HC' := hid_mk HC
  have HM0 := hid_mk hm
  have hrE : readE L 0 0 = 0 := rfl
  clear HC hm
  have HS' := hid_mk HS
  have H0' := hid_mk H0
  have H1' := hid_mk H1
  have H2' := hid_mk H2
  clear HS H0 H1 H2
  go_enter Try.func12, Try.ntmps12
  go_wp2_with fail
  refine (read_any p ib qb L M 0 0 _ (HM0.out.below ((Below.refl _ _).alloc (Nat.le_refl _) _)) (by decide) (by decide)).mono ?_
  rintro e w1 ⟨v, rfl, -, hb1⟩
  have M1 := hid_mk ((HM0.out.below ((Below.refl _ _).alloc (Nat.le_refl _) _)).below hb1)
  have B1 := hid_mk (below_new (Below.refl _ _) hb1)
  have z1 := hb1.size
  simp at z1
  have q1 : w.heap.size < w1.heap.size := by omega
  have c10 := hb1.cell (p := ⟨w.heap.size, 0, none⟩) (by first | (simp; done) | (simp; omega))
  simp [go_sem] at c10
  have c11 := hb1.cell (p := ⟨w.heap.size, 1, none⟩) (by first | (simp; done) | (simp; omega))
  simp [go_sem] at c11
  have c12 := hb1.cell (p := ⟨w.heap.size, 2, none⟩) (by first | (simp; done) | (simp; omega))
  simp [go_sem] at c12
  have c13 := hb1.cell (p := ⟨w.heap.size, 3, none⟩) (by first | (simp; done) | (simp; omega))
  simp [go_sem] at c13
  have c14 := hb1.cell (p := ⟨w.heap.size, 4, none⟩) (by first | (simp; done) | (simp; omega))
  simp [go_sem] at c14
  clear hb1 HM0
  go_wp2_with fail
  refine (HC'.out _).mono ?_
  rintro e w2 ⟨rfl, hb2⟩
  have M2 := hid_mk (M1.out.below hb2)
  have B2 := hid_mk (below_then B1.out hb2)
  have z2 := hb2.size
  have q2 : w.heap.size < w2.heap.size := by omega
  have c20 := (hb2.cell (p := ⟨w.heap.size, 0, none⟩) (by simp only []; omega)).trans c10
  have c21 := (hb2.cell (p := ⟨w.heap.size, 1, none⟩) (by simp only []; omega)).trans c11
  have c22 := (hb2.cell (p := ⟨w.heap.size, 2, none⟩) (by simp only []; omega)).trans c12
  have c23 := (hb2.cell (p := ⟨w.heap.size, 3, none⟩) (by simp only []; omega)).trans c13
  have c24 := (hb2.cell (p := ⟨w.heap.size, 4, none⟩) (by simp only []; omega)).trans c14
  clear hb2 c10 c11 c12 c13 c14
  go_wp2_with fail
  refine (HS'.out _).mono ?_
  rintro e w3 ⟨rfl, hb3⟩
  have M3 := hid_mk (M2.out.below hb3)
  have B3 := hid_mk (below_then B2.out hb3)
  clear hb3
  go_wp2_with fail
  refine wp_loop_rounds 4 ?_
  rw [rounds_succ]
  go_wp2_with fail
  refine (H0'.out _ (M3.out.below ((Below.refl _ _).alloc (Nat.le_refl _) _))).mono ?_
  rintro e w4 ⟨rfl, hb⟩
  have M4 := hid_mk ((M3.out.below ((Below.refl _ _).alloc (Nat.le_refl _) _)).below hb)
  have B4 : Hid (Below w.heap.size w w4) := below_then (B3.out.alloc B3.out.size _) hb
  clear hb
  cases r0
  case' false =>
    go_wp2_with fail
    go_ret
    exact ⟨rfl, B4.out⟩
  go_wp2_with fail
  rw [rounds_succ]
  go_wp2_with fail
  refine (H1'.out _ (M4.out.below ((Below.refl _ _).alloc (Nat.le_refl _) _))).mono ?_
  rintro e w5 ⟨rfl, hb⟩
  have M5 := hid_mk ((M4.out.below ((Below.refl _ _).alloc (Nat.le_refl _) _)).below hb)
  have B5 : Hid (Below w.heap.size w w5) := below_then (B4.out.alloc B4.out.size _) hb
  clear hb
  cases r1
  case' false =>
    go_wp2_with fail
    go_ret
    exact ⟨rfl, B5.out⟩
  go_wp2_with fail
  rw [rounds_succ]
  go_wp2_with fail
  refine (H2'.out _ (M5.out.below ((Below.refl _ _).alloc (Nat.le_refl _) _))).mono ?_
  rintro e w6 ⟨rfl, hb⟩
  have M6 := hid_mk ((M5.out.below ((Below.refl _ _).alloc (Nat.le_refl _) _)).below hb)
  have B6 : Hid (Below w.heap.size w w6) := below_then (B5.out.alloc B5.out.size _) hb
  clear hb
  cases r2
  case' false =>
    go_wp2_with fail
    go_ret
    exact ⟨rfl, B6.out⟩
  go_wp2_with fail
  rw [rounds_succ]
  go_wp2_with fail
  go_ret
  exact ⟨rfl, B6.out⟩

/-- Fits' answer, where there is a memory -/
def fitR (L : List (Int × Int)) (pk : Bool) (n d g c : Int) : Int :=
  if okRg pk n d g c = true then (if ((loc L d (pD pk n)).isSome && (loc L g (pG pk n)).isSome && (loc L c (pC pk n)).isSome) = true then 0 else 5) else 2
theorem fits_any (p ib qb : Nat) (L : List (Int × Int)) (M : List Int) (pk : Bool) (n d g c : Int) (w : World) (hm : IsMem w p ib qb L M) (hd : U64 d) (hg : U64 g) (hc : U64 c) :
    Calls Try.prog 12 #[.pointer (some ⟨p, 0, none⟩), rV pk n d g c] w fun e w' => e = .returned (.int .i64 (fitR L pk n d g c)) ∧ Below w.heap.size w w' := by
  have HC := fun w => check_lay pk n d g c w hd hg hc
  cases hk : okRg pk n d g c
  · have e : fitR L pk n d g c = 2 := by simp [fitR, hk]
    rw [show chkR pk n d g c = 2 from by simp [chkR, hk]] at HC
    rw [e]
    exact fits_no p ib qb L M pk n d 0 g 0 c 0 2 w hm rfl HC
  · have e : fitR L pk n d g c = if ((loc L d (pD pk n)).isSome && (loc L g (pG pk n)).isSome && (loc L c (pC pk n)).isSome) = true then 0 else 5 := by simp [fitR, hk]
    rw [show chkR pk n d g c = 0 from by simp [chkR, hk]] at HC
    rw [e]
    obtain ⟨hs, hl⟩ := ok_parts hk
    obtain ⟨r1, r2, r3⟩ := part_rng hs
    obtain ⟨⟨_, l1⟩, ⟨_, l2, _⟩, _, l3, _⟩ := okL_t hl
    have hw : ∀ a m : Int, U64 a → 1 ≤ m → m ≤ 1048576 → a + m ≤ 18446744073709551616 → IntKind.u64.wrap (IntKind.u64.wrap (lst a m - a) + 1) = m := fun a m ha h1 h2 h3 => by
      rw [lst_in ha h1 h3, IntKind.wrap_u64, IntKind.wrap_u64]
      omega
    refine fits_core p ib qb L M pk n d (lst d (pD pk n)) g (lst g (pG pk n)) c (lst c (pC pk n)) 0 w hm rfl _ _ _ (spans_any pk n d g c) (fun u hu => ?_) (fun u hu => ?_) (fun u hu => ?_) HC
    · rw [hw d _ hd (by omega) (by omega) l1]
      exact has_any p ib qb L M _ _ u hu hd ⟨by omega, by omega⟩
    · rw [hw g _ hg (by omega) (by omega) l2]
      exact has_any p ib qb L M _ _ u hu hg ⟨by omega, by omega⟩
    · rw [hw c _ hc (by omega) (by omega) l3]
      exact has_any p ib qb L M _ _ u hu hc ⟨by omega, by omega⟩
end Go.Proofs.Ytolflhnkdnjckaa
