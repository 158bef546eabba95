/- Contracts of the reference's small functions of layer 4, and the plain answer of Check. Conditions: as each theorem names them. -/
import Derived.Test.YtolflhnkdnjckaaLay2
namespace Go.Proofs.Ytolflhnkdnjckaa
open Go.ChangeShapes Go.WideShapes Go.ChangeAt Go.RowKit
set_option linter.unusedVariables false
set_option maxRecDepth 100000

/-- have two spans a byte in common? -/
def cmB (a n b m : Int) : Bool := decide (0 < n ∧ 0 < m ∧ a < b + m ∧ b < a + n)
theorem cmB_t {a n b m : Int} (h0 : 0 < n) (h1 : 0 < m) (h2 : a < b + m) (h3 : b < a + n) : true = cmB a n b m := by simp [cmB, *]
theorem cmB_f {a n b m : Int} (h : ¬ (0 < n ∧ 0 < m ∧ a < b + m ∧ b < a + n)) : false = cmB a n b m := by
  unfold cmB
  simp only [h, decide_false]
theorem common_any (a n b m : Int) (w : World) (ha : U64 a) (hn : U64 n) (hb : U64 b) (hm : U64 m) :
    Calls Try.prog 40 #[.int .u64 a, .int .u64 n, .int .u64 b, .int .u64 m] w fun e w' => e = .returned (.bool (cmB a n b m)) ∧ w = w' := by
  by_cases h1 : 0 < n
  · by_cases h2 : 0 < m
    · by_cases h3 : a ≤ b
      · have hw : IntKind.u64.wrap (b - a) = b - a := by
          rw [IntKind.wrap_u64]
          omega
        by_cases h4 : b - a < n
        · have HF := hid_mk (cmB_t h1 h2 (a := a) (b := b) (by omega) (by omega))
          clear ha hn hb hm
          go_enter Try.func40, Try.ntmps40
          go_wp2
          go_ret
          exact ⟨ret_eq (congrArg Value.bool HF.out), rfl⟩
        · have HF := hid_mk (cmB_f (a := a) (n := n) (b := b) (m := m) (by omega))
          have h4' : n ≤ b - a := by omega
          clear ha hn hb hm
          go_enter Try.func40, Try.ntmps40
          go_wp2
          go_ret
          exact ⟨ret_eq (congrArg Value.bool HF.out), rfl⟩
      · have hw : IntKind.u64.wrap (a - b) = a - b := by
          rw [IntKind.wrap_u64]
          omega
        have h3' : b < a := by omega
        by_cases h4 : a - b < m
        · have HF := hid_mk (cmB_t h1 h2 (a := a) (b := b) (by omega) (by omega))
          clear ha hn hb hm
          go_enter Try.func40, Try.ntmps40
          go_wp2
          go_ret
          exact ⟨ret_eq (congrArg Value.bool HF.out), rfl⟩
        · have HF := hid_mk (cmB_f (a := a) (n := n) (b := b) (m := m) (by omega))
          have h4' : m ≤ a - b := by omega
          clear ha hn hb hm
          go_enter Try.func40, Try.ntmps40
          go_wp2
          go_ret
          exact ⟨ret_eq (congrArg Value.bool HF.out), rfl⟩
    · have HF := hid_mk (cmB_f (a := a) (n := n) (b := b) (m := m) (by omega))
      have h2' : m ≤ 0 := by omega
      clear ha hn hb hm
      go_enter Try.func40, Try.ntmps40
      go_wp2
      go_ret
      exact ⟨ret_eq (congrArg Value.bool HF.out), rfl⟩
  · have HF := hid_mk (cmB_f (a := a) (n := n) (b := b) (m := m) (by omega))
    have h1' : n ≤ 0 := by omega
    clear ha hn hb hm
    go_enter Try.func40, Try.ntmps40
    go_wp2
    go_ret
    exact ⟨ret_eq (congrArg Value.bool HF.out), rfl⟩

theorem rsize_lay (pk : Bool) (n : Int) (w : World) :
    Calls Try.prog 39 #[.bool pk, .int .i64 n] w fun e w' => e = .returned (.bool (szB pk n)) ∧ w = w' := by
  by_cases h1 : 1 ≤ n
  · by_cases h2 : n ≤ 32768
    · cases pk
      · have e : szB false n = powI n := rfl
        rw [e]
        go_enter Try.func39, Try.ntmps39
        go_wp2_with (go_at_call 49; refine (rpower_any _ _).mono ?_; rintro e w' ⟨rfl, rfl⟩)
        go_ret
        exact ⟨rfl, rfl⟩
      · have HF : Hid (true = szB true n) := by
          show true = szB true n
          simp [szB, h1, h2]
        go_enter Try.func39, Try.ntmps39
        go_wp2
        go_ret
        exact ⟨ret_eq (congrArg Value.bool HF.out), rfl⟩
    · have HF : Hid (false = szB pk n) := by
        cases h : szB pk n
        · rfl
        · have := szB_rng h
          omega
      have h2' : 32768 < n := by omega
      go_enter Try.func39, Try.ntmps39
      go_wp2
      go_ret
      exact ⟨ret_eq (congrArg Value.bool HF.out), rfl⟩
  · have HF : Hid (false = szB pk n) := by
      cases h : szB pk n
      · rfl
      · have := szB_rng h
        omega
    have h1' : n < 1 := by omega
    go_enter Try.func39, Try.ntmps39
    go_wp2
    go_ret
    exact ⟨ret_eq (congrArg Value.bool HF.out), rfl⟩

theorem rparts_any (pk : Bool) (n d g c : Int) (w : World) :
    Calls Try.prog 17 #[rV pk n d g c] w fun e w' => e = .returned (.tuple #[.int .u64 (pD pk n), .int .u64 (pG pk n), .int .u64 (pC pk n)]) ∧ Below w.heap.size w w' := by
  cases h : szB pk n
  · have e1 : pD pk n = 0 := by simp [pD, h]
    have e2 : pG pk n = 0 := by simp [pG, h]
    have e3 : pC pk n = 0 := by simp [pC, h]
    have HV := rsize_lay pk n
    rw [h] at HV
    rw [e1, e2, e3]
    have HV' := hid_mk HV
    clear e1 e2 e3 HV h
    go_enter Try.func17, Try.ntmps17
    go_wp2_with (go_at_call 39; refine (HV'.out _).mono ?_; rintro e w' ⟨rfl, rfl⟩)
    go_ret3
    exact ⟨rfl, by repeat (first | exact Below.refl _ _ | (refine Below.alloc ?_ (by first | omega | (simp; done) | (simp; omega)) _))⟩
  · have hr := szB_rng h
    have e1 : pD pk n = 16 * n := by simp [pD, h]
    have w1 : IntKind.u64.wrap (16 * IntKind.u64.wrap n) = 16 * n := by
      rw [IntKind.wrap_u64, IntKind.wrap_u64]
      omega
    have w2 : IntKind.u64.wrap (6 + IntKind.u64.wrap (2 * IntKind.u64.wrap n)) = 6 + 2 * n := by
      rw [IntKind.wrap_u64, IntKind.wrap_u64, IntKind.wrap_u64]
      omega
    have w3 : IntKind.u64.wrap (6 + IntKind.u64.wrap (8 * IntKind.u64.wrap n)) = 6 + 8 * n := by
      rw [IntKind.wrap_u64, IntKind.wrap_u64, IntKind.wrap_u64]
      omega
    have HV := rsize_lay pk n
    rw [h] at HV
    have HV' := hid_mk HV
    rw [e1]
    cases pk
    · have e2 : pG false n = 6 + 2 * n := by simp [pG, h]
      have e3 : pC false n = 6 + 8 * n := by simp [pC, h]
      rw [e2, e3]
      clear HV h e1 e2 e3
      go_enter Try.func17, Try.ntmps17
      go_wp2_with (go_at_call 39; refine (HV'.out _).mono ?_; rintro e w' ⟨rfl, rfl⟩)
      go_ret3
      exact ⟨rfl, by repeat (first | exact Below.refl _ _ | (refine Below.alloc ?_ (by first | omega | (simp; done) | (simp; omega)) _))⟩
    · have e2 : pG true n = 4 := by simp [pG, h]
      have e3 : pC true n = 4 := by simp [pC, h]
      rw [e2, e3]
      clear HV h e1 e2 e3
      go_enter Try.func17, Try.ntmps17
      go_wp2_with (go_at_call 39; refine (HV'.out _).mono ?_; rintro e w' ⟨rfl, rfl⟩)
      go_ret3
      exact ⟨rfl, by repeat (first | exact Below.refl _ _ | (refine Below.alloc ?_ (by first | omega | (simp; done) | (simp; omega)) _))⟩

/-! ### the plain answer of Check -/
/-- where the parts may lie -/
def okL (d D g G c C u : Int) : Bool :=
  decide ((d % 16 = 0 ∧ d + D ≤ 18446744073709551616) ∧ (g % u = 0 ∧ g + G ≤ 18446744073709551616 ∧ (g + G ≤ d ∨ d + D ≤ g)) ∧
    (c % 4 = 0 ∧ c + C ≤ 18446744073709551616 ∧ (c + C ≤ d ∨ d + D ≤ c) ∧ (c + C ≤ g ∨ g + G ≤ c)))
def okRg (pk : Bool) (n d g c : Int) : Bool := szB pk n && okL d (pD pk n) g (pG pk n) c (pC pk n) (uG pk)
def chkR (pk : Bool) (n d g c : Int) : Int := if okRg pk n d g c = true then 0 else 2

theorem part_rng {pk : Bool} {n : Int} (h : szB pk n = true) : (16 ≤ pD pk n ∧ pD pk n ≤ 524288) ∧ (4 ≤ pG pk n ∧ pG pk n ≤ 65542) ∧ (4 ≤ pC pk n ∧ pC pk n ≤ 262150) := by
  have hr := szB_rng h
  unfold pD pG pC
  rw [h]
  cases pk <;> simp <;> omega
theorem uG_is (pk : Bool) : uG pk = 2 ∨ uG pk = 4 := by cases pk <;> simp [uG]

theorem lst_over {a m : Int} (ha : U64 a) (h1 : 1 ≤ m) (h2 : m ≤ 1048576) (h : 18446744073709551616 < a + m) : lst a m < a := by
  unfold lst
  rw [IntKind.wrap_u64, IntKind.wrap_u64]
  omega
theorem lst_in {a m : Int} (ha : U64 a) (h1 : 1 ≤ m) (h : a + m ≤ 18446744073709551616) : lst a m = a + m - 1 := by
  unfold lst
  rw [IntKind.wrap_u64, IntKind.wrap_u64]
  omega

theorem chkF_eq {d D g G c C u : Int} (hd : U64 d) (hg : U64 g) (hc : U64 c) (hu : u = 2 ∨ u = 4) (hD : 1 ≤ D ∧ D ≤ 1048576) (hG : 1 ≤ G ∧ G ≤ 1048576) (hC : 1 ≤ C ∧ C ≤ 1048576) :
    chkF d (lst d D) g (lst g G) c (lst c C) u = if okL d D g G c C u = true then 0 else 2 := by
  have td : d.tmod 16 = d % 16 := Int.tmod_eq_emod_of_nonneg hd.1
  have tc : c.tmod 4 = c % 4 := Int.tmod_eq_emod_of_nonneg hc.1
  have tg : g.tmod u = g % u := Int.tmod_eq_emod_of_nonneg hg.1
  have key : ∀ x : Bool, x = okL d D g G c C u → (if x = true then (0 : Int) else 2) = if okL d D g G c C u = true then 0 else 2 := fun x h => by rw [h]
  by_cases h0 : d % 16 = 0
  · by_cases h1 : d + D ≤ 18446744073709551616
    · have ld := lst_in hd hD.1 h1
      by_cases h2 : g % u = 0
      · by_cases h3 : g + G ≤ 18446744073709551616
        · have lg := lst_in hg hG.1 h3
          by_cases h4 : g + G ≤ d ∨ d + D ≤ g
          · by_cases h5 : c % 4 = 0
            · by_cases h6 : c + C ≤ 18446744073709551616
              · have lc := lst_in hc hC.1 h6
                by_cases h7 : c + C ≤ d ∨ d + D ≤ c
                · by_cases h8 : c + C ≤ g ∨ g + G ≤ c
                  · rw [chkF_9 (by simp [td, h0]) (by simp [ld]; omega) (by simp [tg, h2]) (by simp [lg]; omega) (by simp [ld, lg]; omega) (by simp [tc, h5]) (by simp [lc]; omega) (by simp [ld, lc]; omega) (by simp [lg, lc]; omega), if_pos]
                    simp [okL, *]
                  · rw [chkF_8 (by simp [td, h0]) (by simp [ld]; omega) (by simp [tg, h2]) (by simp [lg]; omega) (by simp [ld, lg]; omega) (by simp [tc, h5]) (by simp [lc]; omega) (by simp [ld, lc]; omega) (by simp [lg, lc]; omega), if_neg]
                    simp [okL, h8]
                · rw [chkF_7 (by simp [td, h0]) (by simp [ld]; omega) (by simp [tg, h2]) (by simp [lg]; omega) (by simp [ld, lg]; omega) (by simp [tc, h5]) (by simp [lc]; omega) (by simp [ld, lc]; omega), if_neg]
                  simp [okL, h7]
              · have lc := lst_over hc hC.1 hC.2 (by omega)
                rw [chkF_6 (by simp [td, h0]) (by simp [ld]; omega) (by simp [tg, h2]) (by simp [lg]; omega) (by simp [ld, lg]; omega) (by simp [tc, h5]) (by simp only [decide_eq_true_eq]; exact lc), if_neg]
                simp [okL, h6]
            · rw [chkF_5 (by simp [td, h0]) (by simp [ld]; omega) (by simp [tg, h2]) (by simp [lg]; omega) (by simp [ld, lg]; omega) (by simp [tc, h5]), if_neg]
              simp [okL, h5]
          · rw [chkF_4 (by simp [td, h0]) (by simp [ld]; omega) (by simp [tg, h2]) (by simp [lg]; omega) (by simp [ld, lg]; omega), if_neg]
            simp [okL, h4]
        · have lg := lst_over hg hG.1 hG.2 (by omega)
          rw [chkF_3 (by simp [td, h0]) (by simp [ld]; omega) (by simp [tg, h2]) (by simp only [decide_eq_true_eq]; exact lg), if_neg]
          simp [okL, h3]
      · rw [chkF_2 (by simp [td, h0]) (by simp [ld]; omega) (by simp [tg, h2]), if_neg]
        simp [okL, h2]
    · have ld := lst_over hd hD.1 hD.2 (by omega)
      rw [chkF_1 (by simp [td, h0]) (by simp only [decide_eq_true_eq]; exact ld), if_neg]
      simp [okL, h1]
  · rw [chkF_0 (by simp [td, h0]), if_neg]
    simp [okL, h0]

theorem check_lay (pk : Bool) (n d g c : Int) (w : World) (hd : U64 d) (hg : U64 g) (hc : U64 c) :
    Calls Try.prog 13 #[rV pk n d g c] w fun e w' => e = .returned (.int .i64 (chkR pk n d g c)) ∧ Below w.heap.size w w' := by
  cases h : szB pk n
  · have e : chkR pk n d g c = 2 := by simp [chkR, okRg, h]
    rw [e]
    have HV := validSize_lay pk n
    rw [h] at HV
    have HV' := hid_mk HV
    clear HV hd hg hc h e
    go_enter Try.func13, Try.ntmps13
    go_wp2_with (go_at_call 27; refine (HV'.out _).mono ?_; rintro e w' ⟨rfl, rfl⟩)
    go_ret
    exact ⟨rfl, by repeat (first | exact Below.refl _ _ | (refine Below.alloc ?_ (by first | omega | (simp; done) | (simp; omega)) _))⟩
  · have HV := validSize_lay pk n
    rw [h] at HV
    obtain ⟨r1, r2, r3⟩ := part_rng h
    have hu := uG_is pk
    have := check_core pk n d (lst d (pD pk n)) g (lst g (pG pk n)) c (lst c (pC pk n)) (uG pk) w (by omega) HV (units_any pk) (spans_any pk n d g c)
    rw [chkF_eq hd hg hc hu (by omega) (by omega) (by omega)] at this
    have e : chkR pk n d g c = if okL d (pD pk n) g (pG pk n) c (pC pk n) (uG pk) = true then 0 else 2 := by simp [chkR, okRg, h]
    rw [e]
    exact this
end Go.Proofs.Ytolflhnkdnjckaa
