/-
  PROVED: dumbwaiterlaw01.SerialGoes returns true for every position, size and two moves, and what was in memory stays as it was. Conditions: none.
-/
import Derived.Test.YtomeodmadnobfaaRows
import Derived.Test.YtomeodmadnobfaaSer8
import Derived.WalkKit
import Derived.ProofKit
import Derived.OpenShut
import Derived.ShutString
import Derived.ChangeOld
import Derived.Below
import Derived.Carry
import Derived.Lib.SmallJoins
namespace Go.Proofs.Ytomeodmadnobfaa.serialGoes
open Go.ChangeShapes Go.WideShapes Go.ChangeAt Go.RowKit
set_option linter.unusedVariables false


theorem goes1 (p a b n : Int) (h1 : 1 ≤ n) (h3 : 0 ≤ p) (h4 : p < n) (h5 : 0 ≤ a) (h6 : 0 ≤ b) (h7 : a + b ≤ n) : goA (goA p a n) b n = goA p (a + b) n := by
  unfold goA
  split <;> split <;> omega
theorem goes2 (p a b n : Int) (x : Bool) (h1 : 1 ≤ n) (h3 : 0 ≤ p) (h4 : p < n) (h5 : 0 ≤ a) (h6 : 0 ≤ b) (h7 : a + b ≤ n) : goW (goA p a n) b n (goW p a n x) = goW p (a + b) n x := by
  unfold goA goW
  by_cases c1 : p + a < n
  · by_cases c2 : p + (a + b) < n
    · have c3 : p + a + b < n := by omega
      simp [c1, c2, c3]
    · have c3 : ¬ p + a + b < n := by omega
      simp [c1, c2, c3]
  · have c2 : ¬ p + (a + b) < n := by omega
    have c3 : p + a - n + b < n := by omega
    simp [c1, c2, c3]
theorem goes3 (p n : Int) (h3 : 0 ≤ p) : goA p n n = p := by
  unfold goA
  have c : ¬ p + n < n := by omega
  simp [c]
theorem goes4 (p n : Int) (x : Bool) (h3 : 0 ≤ p) : goW p n n x = !x := by
  unfold goW
  have c : ¬ p + n < n := by omega
  simp [c]
theorem goes5 (p d n : Int) (x : Bool) (h1 : 1 ≤ n) (h3 : 0 ≤ p) (h4 : p < n) (h5 : 0 ≤ d) (h6 : d ≤ n) : btw p (goA p d n) n x (goW p d n x) = d := by
  unfold btw btw1 goA goW
  by_cases c : p + d < n
  · simp [c]
    omega
  · simp [c]
    have c2 : ¬ p + d - n - p + n < 0 := by omega
    simp [c2]
    omega
theorem goes6 (p : Int) (x : Bool) (h3 : 0 ≤ p) (h4 : p < 32768) : wordI p x % 32768 = p := by
  unfold wordI
  cases x <;> simp <;> omega
theorem goes7 (p : Int) (x : Bool) (h3 : 0 ≤ p) (h4 : p < 32768) : decide (32768 ≤ wordI p x) = x := by
  unfold wordI
  cases x <;> simp <;> omega
theorem goes8 (p : Int) (x : Bool) (h3 : 0 ≤ p) (h4 : p < 32768) : 0 ≤ wordI p x ∧ wordI p x < 65536 := by
  unfold wordI
  cases x <;> simp <;> omega
theorem go_full (p n : Int) (b : Bool) (w : World) (h1 : 1 ≤ n) (h2 : n ≤ 32768) (h3 : 0 ≤ p) (h4 : p < n) :
    Calls Try.prog 10 #[.agg #[.int .i64 p, .bool b], .int .i64 n, .int .i64 n] w fun e w' => e = .returned (.tuple #[.agg #[.int .i64 p, .bool (!b)], .int .i64 0]) ∧ Below w.heap.size w w' := by
  have h := go_any p n n b w h1 h2 h3 h4 (by omega) (by omega)
  rw [goes3 p n h3, goes4 p n b h3] at h
  exact h
theorem go_two (p a b n : Int) (x : Bool) (w : World) (h1 : 1 ≤ n) (h2 : n ≤ 32768) (h3 : 0 ≤ p) (h4 : p < n) (h5 : 0 ≤ a) (h6 : 0 ≤ b) (h7 : a + b ≤ n) :
    Calls Try.prog 10 #[.agg #[.int .i64 (goA p a n), .bool (goW p a n x)], .int .i64 b, .int .i64 n] w fun e w' => e = .returned (.tuple #[.agg #[.int .i64 (goA p (a + b) n), .bool (goW p (a + b) n x)], .int .i64 0]) ∧ Below w.heap.size w w' := by
  have h := go_any (goA p a n) b n (goW p a n x) w h1 h2 (goA_lo h3 h5) (goA_hi h4 (by omega)) h6 (by omega)
  rw [goes1 p a b n h1 h3 h4 h5 h6 h7, goes2 p a b n x h1 h3 h4 h5 h6 h7] at h
  exact h
theorem btw_any (p d n : Int) (x : Bool) (w : World) (h1 : 1 ≤ n) (h2 : n ≤ 32768) (h3 : 0 ≤ p) (h4 : p < n) (h5 : 0 ≤ d) (h6 : d ≤ n) :
    Calls Try.prog 29 #[.agg #[.int .i64 p, .bool x], .agg #[.int .i64 (goA p d n), .bool (goW p d n x)], .int .i64 n] w fun e w' => e = .returned (.tuple #[.int .i64 d, .int .i64 0]) ∧ Below w.heap.size w w' := by
  have h := between_yes p (goA p d n) n x (goW p d n x) w h1 h2 h3 h4 (goA_lo h3 h5) (goA_hi h4 h6)
  rw [goes5 p d n x h1 h3 h4 h5 h6] at h
  exact h
theorem read_word (p n : Int) (x : Bool) (w : World) (h1 : 1 ≤ n) (h2 : n ≤ 32768) (h3 : 0 ≤ p) (h4 : p < n) :
    Calls Try.prog 11 #[.int .u16 (wordI p x), .int .i64 n] w fun e w' => e = .returned (.tuple #[.agg #[.int .i64 p, .bool x], .int .i64 0]) ∧ Below w.heap.size w w' := by
  obtain ⟨g1, g2⟩ := goes8 p x h3 (by omega)
  have g3 := goes6 p x h3 (by omega)
  have h := read_yes (wordI p x) n w g1 g2 h1 h2 (by omega)
  rw [g3, goes7 p x h3 (by omega)] at h
  exact h

theorem walk (a0 : Int) (b0 : Bool) (a1 a2 a3 : Int) (w0 : (Lit.int .i64 a0).wf = true) (w1 : (Lit.int .i64 a1).wf = true) (w2 : (Lit.int .i64 a2).wf = true) (w3 : (Lit.int .i64 a3).wf = true) (w : World) :
    Calls Try.prog 6 #[.agg #[.int .i64 a0, .bool b0], .int .i64 a1, .int .i64 a2, .int .i64 a3] w fun e w' => e = .returned (.bool true) ∧ Below w.heap.size w w' := by
  clear w0 w1 w2 w3
  go_enter Try.func6, Try.ntmps6
  go_wp2_with fail
  refine (lives_any _).mono ?_
  rintro e u1 ⟨rfl, hv1⟩
  have z1 : w.heap.size < u1.heap.size := by
    have := hv1.size
    simp at this
    omega
  obtain ⟨hc1, hf1⟩ := bcell hv1
  have d10 := hv1.cell (p := ⟨w.heap.size, 0, none⟩) (by simp)
  have d11 := hv1.cell (p := ⟨w.heap.size, 1, none⟩) (by simp)
  have d1f := hv1.frozen (p := ⟨w.heap.size, 0, none⟩) (by simp)
  simp [go_sem] at d10 d11 d1f
  clear hc1 hf1
  go_wp2_with fail
  refine (pick_at _ _ _ (by omega) (by omega)).mono ?_
  rintro e w' ⟨s, ⟨hs0, hs1, hsx⟩, rfl, rfl⟩
  clear hsx
  go_wp2_with fail
  refine (pick_at _ _ _ (by omega) (by omega)).mono ?_
  rintro e w' ⟨p, ⟨hp0, hp1, hpx⟩, rfl, rfl⟩
  clear hpx
  go_wp2_with fail
  refine (pick_at _ _ _ (by omega) (by omega)).mono ?_
  rintro e w' ⟨a, ⟨ha0, ha1, hax⟩, rfl, rfl⟩
  clear hax
  go_wp2_with fail
  refine (pick_at _ _ _ (by omega) (by omega)).mono ?_
  rintro e w' ⟨b, ⟨hb0, hb1, hbx⟩, rfl, rfl⟩
  clear hbx
  go_wp2_with fail
  refine (go_any p a (1 + s) _ _ (by omega) (by omega) hp0 hp1 ha0 (by omega)).mono ?_
  rintro e u2 ⟨rfl, hv2⟩
  have z2 : w.heap.size < u2.heap.size := by
    have := hv2.size
    simp at this
    omega
  have d20 := hv2.cell (p := ⟨w.heap.size, 0, none⟩) (by simp; omega)
  have d21 := hv2.cell (p := ⟨w.heap.size, 1, none⟩) (by simp; omega)
  simp [go_sem, d10, d11] at d20 d21
  have y0x2 : w.heap.size < u2.heap.size + 1 := by omega
  have z12 : u1.heap.size ≤ u2.heap.size := by
    have := hv2.size
    simp at this
    omega
  clear d10 d11 d1f
  go_wp2_with fail
  refine (go_two p a b (1 + s) _ _ (by omega) (by omega) hp0 hp1 ha0 hb0 (by omega)).mono ?_
  rintro e u3 ⟨rfl, hv3⟩
  have z3 : u2.heap.size < u3.heap.size := by
    have := hv3.size
    simp at this
    omega
  obtain ⟨hc3, hf3⟩ := bcell hv3
  have y0x3 : w.heap.size < u3.heap.size := by omega
  have x0x3 : w.heap.size < u3.heap.size + 1 := by omega
  have y2x3 : u2.heap.size < u3.heap.size := by omega
  have x2x3 : u2.heap.size < u3.heap.size + 1 := by omega
  go_wp2_with fail
  refine (go_any p (a + b) (1 + s) _ _ (by omega) (by omega) hp0 hp1 (by omega) (by omega)).mono ?_
  rintro e u4 ⟨rfl, hv4⟩
  have z4 : u3.heap.size < u4.heap.size := by
    have := hv4.size
    simp at this
    omega
  obtain ⟨hc4, hf4⟩ := bcell hv4
  have y0x4 : w.heap.size < u4.heap.size := by omega
  have x0x4 : w.heap.size < u4.heap.size + 1 := by omega
  have y2x4 : u2.heap.size < u4.heap.size := by omega
  have x2x4 : u2.heap.size < u4.heap.size + 1 := by omega
  have y3x4 : u3.heap.size < u4.heap.size := by omega
  have x3x4 : u3.heap.size < u4.heap.size + 1 := by omega
  go_wp2_with fail
  refine (go_full p (1 + s) _ _ (by omega) (by omega) hp0 hp1).mono ?_
  rintro e u5 ⟨rfl, hv5⟩
  have z5 : u4.heap.size < u5.heap.size := by
    have := hv5.size
    simp at this
    omega
  obtain ⟨hc5, hf5⟩ := bcell hv5
  have y0x5 : w.heap.size < u5.heap.size := by omega
  have x0x5 : w.heap.size < u5.heap.size + 1 := by omega
  have y2x5 : u2.heap.size < u5.heap.size := by omega
  have x2x5 : u2.heap.size < u5.heap.size + 1 := by omega
  have y3x5 : u3.heap.size < u5.heap.size := by omega
  have x3x5 : u3.heap.size < u5.heap.size + 1 := by omega
  have y4x5 : u4.heap.size < u5.heap.size := by omega
  have x4x5 : u4.heap.size < u5.heap.size + 1 := by omega
  go_wp2_with fail
  refine (go_full p (1 + s) _ _ (by omega) (by omega) hp0 hp1).mono ?_
  rintro e u6 ⟨rfl, hv6⟩
  have z6 : u5.heap.size < u6.heap.size := by
    have := hv6.size
    simp at this
    omega
  obtain ⟨hc6, hf6⟩ := bcell hv6
  have y0x6 : w.heap.size < u6.heap.size := by omega
  have x0x6 : w.heap.size < u6.heap.size + 1 := by omega
  have y2x6 : u2.heap.size < u6.heap.size := by omega
  have x2x6 : u2.heap.size < u6.heap.size + 1 := by omega
  have y3x6 : u3.heap.size < u6.heap.size := by omega
  have x3x6 : u3.heap.size < u6.heap.size + 1 := by omega
  have y4x6 : u4.heap.size < u6.heap.size := by omega
  have x4x6 : u4.heap.size < u6.heap.size + 1 := by omega
  have y5x6 : u5.heap.size < u6.heap.size := by omega
  have x5x6 : u5.heap.size < u6.heap.size + 1 := by omega
  go_wp2_with fail
  refine (btw_any p (a + b) (1 + s) _ _ (by omega) (by omega) hp0 hp1 (by omega) (by omega)).mono ?_
  rintro e u7 ⟨rfl, hv7⟩
  have z7 : u6.heap.size < u7.heap.size := by
    have := hv7.size
    simp at this
    omega
  obtain ⟨hc7, hf7⟩ := bcell hv7
  have y0x7 : w.heap.size < u7.heap.size := by omega
  have x0x7 : w.heap.size < u7.heap.size + 1 := by omega
  have y2x7 : u2.heap.size < u7.heap.size := by omega
  have x2x7 : u2.heap.size < u7.heap.size + 1 := by omega
  have y3x7 : u3.heap.size < u7.heap.size := by omega
  have x3x7 : u3.heap.size < u7.heap.size + 1 := by omega
  have y4x7 : u4.heap.size < u7.heap.size := by omega
  have x4x7 : u4.heap.size < u7.heap.size + 1 := by omega
  have y5x7 : u5.heap.size < u7.heap.size := by omega
  have x5x7 : u5.heap.size < u7.heap.size + 1 := by omega
  have y6x7 : u6.heap.size < u7.heap.size := by omega
  have x6x7 : u6.heap.size < u7.heap.size + 1 := by omega
  go_wp2_with fail
  refine (word_any p _ _).mono ?_
  rintro e u8 ⟨rfl, hv8⟩
  have z8 : u7.heap.size ≤ u8.heap.size := hv8.size
  obtain ⟨hc8, hf8⟩ := bcell hv8
  have y0x8 : w.heap.size < u8.heap.size := by omega
  have x0x8 : w.heap.size < u8.heap.size + 1 := by omega
  have y2x8 : u2.heap.size < u8.heap.size := by omega
  have x2x8 : u2.heap.size < u8.heap.size + 1 := by omega
  have y3x8 : u3.heap.size < u8.heap.size := by omega
  have x3x8 : u3.heap.size < u8.heap.size + 1 := by omega
  have y4x8 : u4.heap.size < u8.heap.size := by omega
  have x4x8 : u4.heap.size < u8.heap.size + 1 := by omega
  have y5x8 : u5.heap.size < u8.heap.size := by omega
  have x5x8 : u5.heap.size < u8.heap.size + 1 := by omega
  have y6x8 : u6.heap.size < u8.heap.size := by omega
  have x6x8 : u6.heap.size < u8.heap.size + 1 := by omega
  go_wp2_with fail
  refine (read_word p (1 + s) _ _ (by omega) (by omega) hp0 hp1).mono ?_
  rintro e u9 ⟨rfl, hv9⟩
  have z9 : u8.heap.size ≤ u9.heap.size := hv9.size
  obtain ⟨hc9, hf9⟩ := bcell hv9
  have y0x9 : w.heap.size < u9.heap.size := by omega
  have x0x9 : w.heap.size < u9.heap.size + 1 := by omega
  have y2x9 : u2.heap.size < u9.heap.size := by omega
  have x2x9 : u2.heap.size < u9.heap.size + 1 := by omega
  have y3x9 : u3.heap.size < u9.heap.size := by omega
  have x3x9 : u3.heap.size < u9.heap.size + 1 := by omega
  have y4x9 : u4.heap.size < u9.heap.size := by omega
  have x4x9 : u4.heap.size < u9.heap.size + 1 := by omega
  have y5x9 : u5.heap.size < u9.heap.size := by omega
  have x5x9 : u5.heap.size < u9.heap.size + 1 := by omega
  have y6x9 : u6.heap.size < u9.heap.size := by omega
  have x6x9 : u6.heap.size < u9.heap.size + 1 := by omega
  go_wp2_with fail
  go_ret
  clear hc3 hf3 hc4 hf4 hc5 hf5 hc6 hf6 hc7 hf7 hc8 hf8 hc9 hf9
  exact ⟨rfl, by repeat (first | exact Below.refl _ _ | (refine Below.alloc ?_ (by first | omega | (simp; done) | (simp; omega)) _) | (refine Below.setCell ?_ (by first | omega | (simp; done) | (simp; omega)) _) | (refine Below.trans ?_ (hv9.mono (by first | omega | (simp; done) | (simp; omega)))) | (refine Below.trans ?_ (hv8.mono (by first | omega | (simp; done) | (simp; omega)))) | (refine Below.trans ?_ (hv7.mono (by first | omega | (simp; done) | (simp; omega)))) | (refine Below.trans ?_ (hv6.mono (by first | omega | (simp; done) | (simp; omega)))) | (refine Below.trans ?_ (hv5.mono (by first | omega | (simp; done) | (simp; omega)))) | (refine Below.trans ?_ (hv4.mono (by first | omega | (simp; done) | (simp; omega)))) | (refine Below.trans ?_ (hv3.mono (by first | omega | (simp; done) | (simp; omega)))) | (refine Below.trans ?_ (hv2.mono (by first | omega | (simp; done) | (simp; omega)))) | (refine Below.trans ?_ (hv1.mono (by first | omega | (simp; done) | (simp; omega)))))⟩

/-! ### the row's frame -/
theorem own : ownKnob Try.prog.godebug = none := by kernel_rfl
theorem laidOut : laidOutB Try.prog = true := by kernel_rfl

set_option maxRecDepth 100000 in
theorem lifted (os : Os) (started : os.Started) (H : Type) (enc : TypeId × Value → H) :
    ReturnsInHanded {} Try.checked os 6 .any (Rows.serialGoesSpec.pre6 enc Try.prog Try.f6 Rows.serialGoesRow.domain false) (Rows.serialGoesSpec.post enc Try.prog Try.f6 false true false false) := by
  refine returnsInHanded_of_change (C := Try.checked) own started (by kernel_rfl) Try.func6
    (ChangeSpec.witness6 (enc := enc) (C := Try.checked) false ⟨#[], #[.agg #[.int .i64 0, .bool false], .int .i64 0, .int .i64 0, .int .i64 0], []⟩ 8 (by kernel_rfl) (by kernel_rfl) (by kernel_rfl) (by kernel_rfl)) ?_
  intro W base args ds gs before hval0 hW hcnd _
  have hval : ∀ (j : Nat) t v, Try.f6.params[j]? = some t → args[j]? = some v → Value.okWide Try.prog W .any base t v := hval0
  have hW' := hW
  obtain ⟨p, q, hA0, hV, rfl, hfz, hnd⟩ := hW
  have hA : DataW.TrodAll enc Try.prog W 0 (fun _ => true) true Try.f6.params.toList args.toList ds p := hA0
  rw [Try.params6] at hA hval
  obtain ⟨v0, vs0, d0, ds0, p0, q0, hargs, rfl, rfl, h0, r0⟩ := trodAll_cons hA
  obtain ⟨v1, vs1, d1, ds1, p1, q1, rfl, rfl, rfl, h1, r1⟩ := trodAll_cons r0
  obtain ⟨v2, vs2, d2, ds2, p2, q2, rfl, rfl, rfl, h2, r2⟩ := trodAll_cons r1
  obtain ⟨v3, vs3, d3, ds3, p3, q3, rfl, rfl, rfl, h3, r3⟩ := trodAll_cons r2
  obtain ⟨rfl, rfl, rfl⟩ := trodAll_nil r3
  obtain rfl : args = #[v0, v1, v2, v3] := by cases args; simp_all
  obtain ⟨rfl, rfl⟩ := trodVars_none hV
  have k0 := h0
  have lt0 : ∀ x ∈ p0, x.block < W.heap.size := by
    obtain ⟨m, hm⟩ := k0
    exact DataW.trod_lt m _ _ _ hm
  have k1 := h1
  have lt1 : ∀ x ∈ p1, x.block < W.heap.size := by
    obtain ⟨m, hm⟩ := k1
    exact DataW.trod_lt m _ _ _ hm
  have k2 := h2
  have lt2 : ∀ x ∈ p2, x.block < W.heap.size := by
    obtain ⟨m, hm⟩ := k2
    exact DataW.trod_lt m _ _ _ hm
  have k3 := h3
  have lt3 : ∀ x ∈ p3, x.block < W.heap.size := by
    obtain ⟨m, hm⟩ := k3
    exact DataW.trod_lt m _ _ _ hm
  obtain ⟨c00, c01, y00, y01, m0, rfl, rfl, rfl, hy00, hy01⟩ := Go.Joins.open_agg2 Try.underlying23 (by kernel_rfl) (by kernel_rfl) (hval 0 23 v0 rfl rfl) h0
  obtain ⟨a0, e00, rfl, w0⟩ := DataW.trod_int Try.underlying3 hy00
  obtain ⟨b0, e01, rfl⟩ := DataW.trod_bool Try.underlying4 hy01
  simp at e00 e01
  subst e00 e01
  obtain ⟨a1, rfl, rfl, rfl, w1⟩ := open_int Try.underlying3 (hval 1 3 v1 rfl rfl) h1
  obtain ⟨a2, rfl, rfl, rfl, w2⟩ := open_int Try.underlying3 (hval 2 3 v2 rfl rfl) h2
  obtain ⟨a3, rfl, rfl, rfl, w3⟩ := open_int Try.underlying3 (hval 3 3 v3 rfl rfl) h3
  clear hA0 hval0
  refine (walk a0 b0 a1 a2 a3 w0 w1 w2 w3 W).mono fun e W' ⟨he, bel⟩ => ?_
  subst he
  exact ⟨_, rfl, _, _, _, [], _, [], hW', trodAll_mk1 (shut_bool Try.underlying4 _), (trodAll_cons_mk (Below.trod laidOut (by kernel_rfl) (of_decide_eq_true (by kernel_rfl)) k0 bel lt0) (trodAll_cons_mk (Below.trod laidOut (by kernel_rfl) (of_decide_eq_true (by kernel_rfl)) k1 bel lt1) (trodAll_cons_mk (Below.trod laidOut (by kernel_rfl) (of_decide_eq_true (by kernel_rfl)) k2 bel lt2) (trodAll_cons_mk (Below.trod laidOut (by kernel_rfl) (of_decide_eq_true (by kernel_rfl)) k3 bel lt3) trodAll_mk0)))), rfl, bel.frame _, fun h => by cases h⟩

theorem over : Rows.serialGoesRow.holds Try.pinned (OpenSpec.ofChange Rows.serialGoesSpec) :=
  OpenClaim.holds_of_wide 6 Try.f6 rfl rfl rfl rfl rfl rfl rfl ⟨rfl, rfl, rfl, rfl, rfl⟩ rfl rfl rfl rfl rfl (by kernel_rfl) Try.func6 (by kernel_rfl)
    (of_decide_eq_true (by kernel_rfl)) (by unfold Func.isWrapper; first | (rw [if_pos (by decide +kernel)]; kernel_rfl) | (rw [if_neg (by decide +kernel)]; exact ⟨rfl, rfl⟩))
    (fun os started H enc _ => lifted os started H enc)

/-- THE STATEMENT -/
theorem serialGoes_holds : Rows.SerialGoesSaid := over
#print axioms serialGoes_holds
end Go.Proofs.Ytomeodmadnobfaa.serialGoes
