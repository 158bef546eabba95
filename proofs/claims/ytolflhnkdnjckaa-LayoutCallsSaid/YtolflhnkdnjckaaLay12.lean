/- The reference's Where and Fits of layer 4 in one piece each. Conditions: as each theorem names them. -/
import Derived.Test.YtolflhnkdnjckaaLay11
import Derived.Test.YtolflhnkdnjckaaLay10
import Derived.Test.YtolflhnkdnjckaaRf10
namespace Go.Proofs.Ytolflhnkdnjckaa
open Go.ChangeShapes Go.WideShapes Go.ChangeAt Go.RowKit
set_option linter.unusedVariables false
set_option maxRecDepth 100000

theorem el_many (pk : Bool) (n d g c x : Int) : (elP pk n d g c x).2.2 = n ∨ (elP pk n d g c x).2.2 = 1 ∨ (elP pk n d g c x).2.2 = 0 := by
  unfold elP
  repeat' split
  all_goals simp
theorem el_few {pk : Bool} {n d g c x : Int} (h : ¬ (x = 1 ∨ x = 4 ∨ x = 8)) : (elP pk n d g c x).2.2 = 1 ∨ (elP pk n d g c x).2.2 = 0 := by
  simp only [not_or] at h
  unfold elP
  rw [if_neg h.1, if_neg h.2.1, if_neg h.2.2]
  repeat' split
  all_goals simp
theorem step_in {k i : Int} (hk : 0 ≤ k ∧ k ≤ 16) (hi : 0 ≤ i) (hn : i < 32768) : IntKind.u64.wrap (wrap64 (k * i)) = k * i ∧ IntKind.u64.wrap (k * IntKind.u64.wrap i) = k * i := by
  have h0 : 0 ≤ k * i := Int.mul_nonneg hk.1 hi
  have h1 : k * i ≤ 16 * i := Int.mul_le_mul_of_nonneg_right hk.2 hi
  have e : IntKind.u64.wrap i = i := by
    rw [IntKind.wrap_u64]
    omega
  have e2 : wrap64 (k * i) = k * i := by
    unfold wrap64
    omega
  rw [e, e2, IntKind.wrap_u64]
  exact ⟨by omega, by omega⟩
theorem wrap_same (x : Int) : IntKind.u64.wrap (IntKind.u64.wrap x) = IntKind.u64.wrap x := by
  rw [IntKind.wrap_u64, IntKind.wrap_u64]
  omega
theorem rwP_eq {pk : Bool} {n d g c x i : Int} (hk : okRg pk n d g c = true) (hg : U64 g) (hc : U64 c) (hi : 0 ≤ i) (hn : i < n) (hx : (x = 1 ∨ x = 4 ∨ x = 8) ∨ i = 0) :
    Ending.returned (el3 (rwP pk n d g c x i)) = .returned (.tuple #[.int .u64 (whA pk n d g c x i), .int .i64 (whN pk n d g c x i), .int .i64 (whE pk n d g c x i)]) := by
  have hr := szB_rng (ok_parts hk).1
  by_cases hin : i < (elP pk n d g c x).2.2
  · have hw : whOk pk n d g c x i = true := by simp [whOk, hk, hi, hin]
    rw [← wh_yes hw]
    have s16 := step_in (k := 16) (by omega) hi (by omega)
    have s8 := step_in (k := 8) (by omega) hi (by omega)
    have s2 := step_in (k := 2) (by omega) hi (by omega)
    have z0 : wrap64 0 = 0 := by
      unfold wrap64
      omega
    have z1 : IntKind.u64.wrap 0 = 0 := by decide
    have wg := wrap_id' hg
    have wc := wrap_id' hc
    clear hw hk
    by_cases h : isEl x
    · rcases h with rfl | rfl | rfl | rfl | rfl | rfl | rfl | rfl | rfl | rfl | rfl <;> cases pk <;> first | (exfalso; simp [elP] at hin; omega) | (simp [rwP, elP, s16, s8, s2]; done) | ((obtain rfl : i = 0 := by omega); simp [rwP, elP, z0, z1, wg, wc, wrap_same])
    · exfalso
      unfold isEl at h
      simp only [not_or] at h
      have e : (elP pk n d g c x).2.2 = 0 := by cases pk <;> simp [elP, h]
      omega
  · have hw : whOk pk n d g c x i = false := by simp [whOk, hin]
    rw [← wh_no hw]
    by_cases h : isEl x
    · rcases h with rfl | rfl | rfl | rfl | rfl | rfl | rfl | rfl | rfl | rfl | rfl <;> cases pk <;> first | (exfalso; simp [elP] at hin; omega) | simp [rwP]
    · unfold isEl at h
      simp only [not_or] at h
      cases pk <;> simp [rwP, h]

theorem rwhere_any (pk : Bool) (n d g c x i : Int) (w : World) (hd : U64 d) (hg : U64 g) (hc : U64 c) :
    Calls Try.prog 20 #[rV pk n d g c, .int .i64 x, .int .i64 i] w fun e w' => e = .returned (.tuple #[.int .u64 (whA pk n d g c x i), .int .i64 (whN pk n d g c x i), .int .i64 (whE pk n d g c x i)]) ∧ Below w.heap.size w w' := by
  have HC := fun w => rcheck_lay pk n d g c w hd hg hc
  have f0 : ((0 : Int) != 0) = false := rfl
  have f2 : ((2 : Int) != 0) = true := rfl
  have hm := el_many pk n d g c x
  cases hk : okRg pk n d g c
  · rw [← wh_no (pk := pk) (n := n) (d := d) (g := g) (c := c) (x := x) (i := i) (by simp [whOk, hk])]
    rw [show chkR pk n d g c = 2 from by simp [chkR, hk]] at HC
    by_cases x1 : x = 1
    · subst x1
      exact rwhere_bad_1a pk n d g c i 2 w f2 HC
    · by_cases x4 : x = 4
      · subst x4
        exact rwhere_bad_4a pk n d g c i 2 w f2 HC
      · by_cases x8 : x = 8
        · subst x8
          exact rwhere_bad_8a pk n d g c i 2 w f2 HC
        · exact rwhere_bad_oa pk n d g c x i 2 w x1 x4 x8 f2 HC
  · rw [show chkR pk n d g c = 0 from by simp [chkR, hk]] at HC
    have hr := szB_rng (ok_parts hk).1
    by_cases hi : 0 ≤ i
    · by_cases hn : i < n
      · by_cases hx : (x = 1 ∨ x = 4 ∨ x = 8) ∨ i = 0
        · rw [← rwP_eq hk hg hc hi hn hx]
          exact rwhere_in pk n d g c x i w hi hn hx HC
        · simp only [not_or] at hx
          have hf := el_few (pk := pk) (n := n) (d := d) (g := g) (c := c) (x := x) (by simp only [not_or]; exact hx.1)
          rw [← wh_no (pk := pk) (n := n) (d := d) (g := g) (c := c) (x := x) (i := i) (by simp [whOk]; omega)]
          exact rwhere_bad_od pk n d g c x i 0 w hx.1.1 hx.1.2.1 hx.1.2.2 f0 hi hn hx.2 HC
      · rw [← wh_no (pk := pk) (n := n) (d := d) (g := g) (c := c) (x := x) (i := i) (by simp [whOk]; omega)]
        have hn' : n ≤ i := by omega
        by_cases x1 : x = 1
        · subst x1
          exact rwhere_bad_1c pk n d g c i 0 w f0 hi hn' HC
        · by_cases x4 : x = 4
          · subst x4
            exact rwhere_bad_4c pk n d g c i 0 w f0 hi hn' HC
          · by_cases x8 : x = 8
            · subst x8
              exact rwhere_bad_8c pk n d g c i 0 w f0 hi hn' HC
            · exact rwhere_bad_oc pk n d g c x i 0 w x1 x4 x8 f0 hi hn' HC
    · rw [← wh_no (pk := pk) (n := n) (d := d) (g := g) (c := c) (x := x) (i := i) (by simp [whOk]; omega)]
      have hi' : i < 0 := by omega
      by_cases x1 : x = 1
      · subst x1
        exact rwhere_bad_1b pk n d g c i 0 w f0 hi' HC
      · by_cases x4 : x = 4
        · subst x4
          exact rwhere_bad_4b pk n d g c i 0 w f0 hi' HC
        · by_cases x8 : x = 8
          · subst x8
            exact rwhere_bad_8b pk n d g c i 0 w f0 hi' HC
          · exact rwhere_bad_ob pk n d g c x i 0 w x1 x4 x8 f0 hi' HC
end Go.Proofs.Ytolflhnkdnjckaa
