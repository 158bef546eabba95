/- Lay3 Wk0 Sg3: joined texts. Conditions: as each theorem names them. -/
import Derived.Test.YtfhhgcgbgmilcaaGreatKp13
import Derived.Test.YtfhhgcgbgmilcaaGreatKp12
import Derived.Test.YtfhhgcgbgmilcaaGreatKp08
import Derived.Test.YtfhhgcgbgmilcaaGreatKp01
import Derived.Test.YtfhhgcgbgmilcaaGreatKp04
/- Contracts of the reference's small functions of layer 4, and the plain answer of Check. Conditions: as each theorem names them. -/
namespace Go.Proofs.YtfhhgcgbgmilcaaGreat
open Go.ChangeShapes Go.WideShapes Go.ChangeAt Go.RowKit
set_option linter.unusedVariables false
set_option maxRecDepth 100000

/-- have two spans a byte in common? -/
def cmB (a n b m : Int) : Bool := decide (0 < n ∧ 0 < m ∧ a < b + m ∧ b < a + n)
theorem cmB_t {a n b m : Int} (h0 : 0 < n) (h1 : 0 < m) (h2 : a < b + m) (h3 : b < a + n) : true = cmB a n b m := by simp [cmB, *]
theorem cmB_f {a n b m : Int} (h : ¬ (0 < n ∧ 0 < m ∧ a < b + m ∧ b < a + n)) : false = cmB a n b m := by
  unfold cmB
  simp only [h, decide_false]
theorem common_any (a n b m : Int) (w : World) (ha : U64 a) (hn : U64 n) (hb : U64 b) (hm : U64 m) :
    Calls Tryz.prog 85 #[.int .u64 a, .int .u64 n, .int .u64 b, .int .u64 m] w fun e w' => e = .returned (.bool (cmB a n b m)) ∧ w = w' := by
  by_cases h1 : 0 < n
  · by_cases h2 : 0 < m
    · by_cases h3 : a ≤ b
      · have hw : IntKind.u64.wrap (b - a) = b - a := by
          rw [IntKind.wrap_u64]
          omega
        by_cases h4 : b - a < n
        · have HF := hid_mk (cmB_t h1 h2 (a := a) (b := b) (by omega) (by omega))
          clear ha hn hb hm
          go_enter Tryz.func85, Tryz.ntmps85
          go_wp2
          go_ret
          exact ⟨ret_eq (congrArg Value.bool HF.out), rfl⟩
        · have HF := hid_mk (cmB_f (a := a) (n := n) (b := b) (m := m) (by omega))
          have h4' : n ≤ b - a := by omega
          clear ha hn hb hm
          go_enter Tryz.func85, Tryz.ntmps85
          go_wp2
          go_ret
          exact ⟨ret_eq (congrArg Value.bool HF.out), rfl⟩
      · have hw : IntKind.u64.wrap (a - b) = a - b := by
          rw [IntKind.wrap_u64]
          omega
        have h3' : b < a := by omega
        by_cases h4 : a - b < m
        · have HF := hid_mk (cmB_t h1 h2 (a := a) (b := b) (by omega) (by omega))
          clear ha hn hb hm
          go_enter Tryz.func85, Tryz.ntmps85
          go_wp2
          go_ret
          exact ⟨ret_eq (congrArg Value.bool HF.out), rfl⟩
        · have HF := hid_mk (cmB_f (a := a) (n := n) (b := b) (m := m) (by omega))
          have h4' : m ≤ a - b := by omega
          clear ha hn hb hm
          go_enter Tryz.func85, Tryz.ntmps85
          go_wp2
          go_ret
          exact ⟨ret_eq (congrArg Value.bool HF.out), rfl⟩
    · have HF := hid_mk (cmB_f (a := a) (n := n) (b := b) (m := m) (by omega))
      have h2' : m ≤ 0 := by omega
      clear ha hn hb hm
      go_enter Tryz.func85, Tryz.ntmps85
      go_wp2
      go_ret
      exact ⟨ret_eq (congrArg Value.bool HF.out), rfl⟩
  · have HF := hid_mk (cmB_f (a := a) (n := n) (b := b) (m := m) (by omega))
    have h1' : n ≤ 0 := by omega
    clear ha hn hb hm
    go_enter Tryz.func85, Tryz.ntmps85
    go_wp2
    go_ret
    exact ⟨ret_eq (congrArg Value.bool HF.out), rfl⟩

theorem rsize_lay (pk : Bool) (n : Int) (w : World) :
    Calls Tryz.prog 84 #[.bool pk, .int .i64 n] w fun e w' => e = .returned (.bool (szB pk n)) ∧ w = w' := by
  by_cases h1 : 1 ≤ n
  · by_cases h2 : n ≤ 32768
    · cases pk
      · have e : szB false n = powI n := rfl
        rw [e]
        go_enter Tryz.func84, Tryz.ntmps84
        go_wp2_with (go_at_call 103; refine (rpower_any _ _).mono ?_; rintro e w' ⟨rfl, rfl⟩)
        go_ret
        exact ⟨rfl, rfl⟩
      · have HF : Hid (true = szB true n) := by
          show true = szB true n
          simp [szB, h1, h2]
        go_enter Tryz.func84, Tryz.ntmps84
        go_wp2
        go_ret
        exact ⟨ret_eq (congrArg Value.bool HF.out), rfl⟩
    · have HF : Hid (false = szB pk n) := by
        cases h : szB pk n
        · rfl
        · have := szB_rng h
          omega
      have h2' : 32768 < n := by omega
      go_enter Tryz.func84, Tryz.ntmps84
      go_wp2
      go_ret
      exact ⟨ret_eq (congrArg Value.bool HF.out), rfl⟩
  · have HF : Hid (false = szB pk n) := by
      cases h : szB pk n
      · rfl
      · have := szB_rng h
        omega
    have h1' : n < 1 := by omega
    go_enter Tryz.func84, Tryz.ntmps84
    go_wp2
    go_ret
    exact ⟨ret_eq (congrArg Value.bool HF.out), rfl⟩

theorem rparts_any (pk : Bool) (n d g c : Int) (w : World) :
    Calls Tryz.prog 49 #[rV pk n d g c] w fun e w' => e = .returned (.tuple #[.int .u64 (pD pk n), .int .u64 (pG pk n), .int .u64 (pC pk n)]) ∧ Below w.heap.size w w' := by
  cases h : szB pk n
  · have e1 : pD pk n = 0 := by simp [pD, h]
    have e2 : pG pk n = 0 := by simp [pG, h]
    have e3 : pC pk n = 0 := by simp [pC, h]
    have HV := rsize_lay pk n
    rw [h] at HV
    rw [e1, e2, e3]
    have HV' := hid_mk HV
    clear e1 e2 e3 HV h
    go_enter Tryz.func49, Tryz.ntmps49
    go_wp2_with (go_at_call 84; refine (HV'.out _).mono ?_; rintro e w' ⟨rfl, rfl⟩)
    go_ret3
    exact ⟨rfl, by repeat (first | exact Below.refl _ _ | (refine Below.alloc ?_ (by first | omega | (simp; done) | (simp; omega)) _))⟩
  · have hr := szB_rng h
    have e1 : pD pk n = 16 * n := by simp [pD, h]
    have w1 : IntKind.u64.wrap (16 * IntKind.u64.wrap n) = 16 * n := by
      rw [IntKind.wrap_u64, IntKind.wrap_u64]
      omega
    have w2 : IntKind.u64.wrap (6 + IntKind.u64.wrap (2 * IntKind.u64.wrap n)) = 6 + 2 * n := by
      rw [IntKind.wrap_u64, IntKind.wrap_u64, IntKind.wrap_u64]
      omega
    have w3 : IntKind.u64.wrap (6 + IntKind.u64.wrap (8 * IntKind.u64.wrap n)) = 6 + 8 * n := by
      rw [IntKind.wrap_u64, IntKind.wrap_u64, IntKind.wrap_u64]
      omega
    have HV := rsize_lay pk n
    rw [h] at HV
    have HV' := hid_mk HV
    rw [e1]
    cases pk
    · have e2 : pG false n = 6 + 2 * n := by simp [pG, h]
      have e3 : pC false n = 6 + 8 * n := by simp [pC, h]
      rw [e2, e3]
      clear HV h e1 e2 e3
      go_enter Tryz.func49, Tryz.ntmps49
      go_wp2_with (go_at_call 84; refine (HV'.out _).mono ?_; rintro e w' ⟨rfl, rfl⟩)
      go_ret3
      exact ⟨rfl, by repeat (first | exact Below.refl _ _ | (refine Below.alloc ?_ (by first | omega | (simp; done) | (simp; omega)) _))⟩
    · have e2 : pG true n = 4 := by simp [pG, h]
      have e3 : pC true n = 4 := by simp [pC, h]
      rw [e2, e3]
      clear HV h e1 e2 e3
      go_enter Tryz.func49, Tryz.ntmps49
      go_wp2_with (go_at_call 84; refine (HV'.out _).mono ?_; rintro e w' ⟨rfl, rfl⟩)
      go_ret3
      exact ⟨rfl, by repeat (first | exact Below.refl _ _ | (refine Below.alloc ?_ (by first | omega | (simp; done) | (simp; omega)) _))⟩

/-! ### the plain answer of Check -/
/-- where the parts may lie -/
def okL (d D g G c C u : Int) : Bool :=
  decide ((d % 16 = 0 ∧ d + D ≤ 18446744073709551616) ∧ (g % u = 0 ∧ g + G ≤ 18446744073709551616 ∧ (g + G ≤ d ∨ d + D ≤ g)) ∧
    (c % 4 = 0 ∧ c + C ≤ 18446744073709551616 ∧ (c + C ≤ d ∨ d + D ≤ c) ∧ (c + C ≤ g ∨ g + G ≤ c)))
def okRg (pk : Bool) (n d g c : Int) : Bool := szB pk n && okL d (pD pk n) g (pG pk n) c (pC pk n) (uG pk)
def chkR (pk : Bool) (n d g c : Int) : Int := if okRg pk n d g c = true then 0 else 2

theorem part_rng {pk : Bool} {n : Int} (h : szB pk n = true) : (16 ≤ pD pk n ∧ pD pk n ≤ 524288) ∧ (4 ≤ pG pk n ∧ pG pk n ≤ 65542) ∧ (4 ≤ pC pk n ∧ pC pk n ≤ 262150) := by
  have hr := szB_rng h
  unfold pD pG pC
  rw [h]
  cases pk <;> simp <;> omega
theorem uG_is (pk : Bool) : uG pk = 2 ∨ uG pk = 4 := by cases pk <;> simp [uG]

theorem lst_over {a m : Int} (ha : U64 a) (h1 : 1 ≤ m) (h2 : m ≤ 1048576) (h : 18446744073709551616 < a + m) : lst a m < a := by
  unfold lst
  rw [IntKind.wrap_u64, IntKind.wrap_u64]
  omega
theorem lst_in {a m : Int} (ha : U64 a) (h1 : 1 ≤ m) (h : a + m ≤ 18446744073709551616) : lst a m = a + m - 1 := by
  unfold lst
  rw [IntKind.wrap_u64, IntKind.wrap_u64]
  omega

theorem chkF_eq {d D g G c C u : Int} (hd : U64 d) (hg : U64 g) (hc : U64 c) (hu : u = 2 ∨ u = 4) (hD : 1 ≤ D ∧ D ≤ 1048576) (hG : 1 ≤ G ∧ G ≤ 1048576) (hC : 1 ≤ C ∧ C ≤ 1048576) :
    chkF d (lst d D) g (lst g G) c (lst c C) u = if okL d D g G c C u = true then 0 else 2 := by
  have td : d.tmod 16 = d % 16 := Int.tmod_eq_emod_of_nonneg hd.1
  have tc : c.tmod 4 = c % 4 := Int.tmod_eq_emod_of_nonneg hc.1
  have tg : g.tmod u = g % u := Int.tmod_eq_emod_of_nonneg hg.1
  have key : ∀ x : Bool, x = okL d D g G c C u → (if x = true then (0 : Int) else 2) = if okL d D g G c C u = true then 0 else 2 := fun x h => by rw [h]
  by_cases h0 : d % 16 = 0
  · by_cases h1 : d + D ≤ 18446744073709551616
    · have ld := lst_in hd hD.1 h1
      by_cases h2 : g % u = 0
      · by_cases h3 : g + G ≤ 18446744073709551616
        · have lg := lst_in hg hG.1 h3
          by_cases h4 : g + G ≤ d ∨ d + D ≤ g
          · by_cases h5 : c % 4 = 0
            · by_cases h6 : c + C ≤ 18446744073709551616
              · have lc := lst_in hc hC.1 h6
                by_cases h7 : c + C ≤ d ∨ d + D ≤ c
                · by_cases h8 : c + C ≤ g ∨ g + G ≤ c
                  · rw [chkF_9 (by simp [td, h0]) (by simp [ld]; omega) (by simp [tg, h2]) (by simp [lg]; omega) (by simp [ld, lg]; omega) (by simp [tc, h5]) (by simp [lc]; omega) (by simp [ld, lc]; omega) (by simp [lg, lc]; omega), if_pos]
                    simp [okL, *]
                  · rw [chkF_8 (by simp [td, h0]) (by simp [ld]; omega) (by simp [tg, h2]) (by simp [lg]; omega) (by simp [ld, lg]; omega) (by simp [tc, h5]) (by simp [lc]; omega) (by simp [ld, lc]; omega) (by simp [lg, lc]; omega), if_neg]
                    simp [okL, h8]
                · rw [chkF_7 (by simp [td, h0]) (by simp [ld]; omega) (by simp [tg, h2]) (by simp [lg]; omega) (by simp [ld, lg]; omega) (by simp [tc, h5]) (by simp [lc]; omega) (by simp [ld, lc]; omega), if_neg]
                  simp [okL, h7]
              · have lc := lst_over hc hC.1 hC.2 (by omega)
                rw [chkF_6 (by simp [td, h0]) (by simp [ld]; omega) (by simp [tg, h2]) (by simp [lg]; omega) (by simp [ld, lg]; omega) (by simp [tc, h5]) (by simp only [decide_eq_true_eq]; exact lc), if_neg]
                simp [okL, h6]
            · rw [chkF_5 (by simp [td, h0]) (by simp [ld]; omega) (by simp [tg, h2]) (by simp [lg]; omega) (by simp [ld, lg]; omega) (by simp [tc, h5]), if_neg]
              simp [okL, h5]
          · rw [chkF_4 (by simp [td, h0]) (by simp [ld]; omega) (by simp [tg, h2]) (by simp [lg]; omega) (by simp [ld, lg]; omega), if_neg]
            simp [okL, h4]
        · have lg := lst_over hg hG.1 hG.2 (by omega)
          rw [chkF_3 (by simp [td, h0]) (by simp [ld]; omega) (by simp [tg, h2]) (by simp only [decide_eq_true_eq]; exact lg), if_neg]
          simp [okL, h3]
      · rw [chkF_2 (by simp [td, h0]) (by simp [ld]; omega) (by simp [tg, h2]), if_neg]
        simp [okL, h2]
    · have ld := lst_over hd hD.1 hD.2 (by omega)
      rw [chkF_1 (by simp [td, h0]) (by simp only [decide_eq_true_eq]; exact ld), if_neg]
      simp [okL, h1]
  · rw [chkF_0 (by simp [td, h0]), if_neg]
    simp [okL, h0]

theorem check_lay (pk : Bool) (n d g c : Int) (w : World) (hd : U64 d) (hg : U64 g) (hc : U64 c) :
    Calls Tryz.prog 66 #[rV pk n d g c] w fun e w' => e = .returned (.int .i64 (chkR pk n d g c)) ∧ Below w.heap.size w w' := by
  cases h : szB pk n
  · have e : chkR pk n d g c = 2 := by simp [chkR, okRg, h]
    rw [e]
    have HV := validSize_lay pk n
    rw [h] at HV
    have HV' := hid_mk HV
    clear HV hd hg hc h e
    go_enter Tryz.func66, Tryz.ntmps66
    go_wp2_with (go_at_call 89; refine (HV'.out _).mono ?_; rintro e w' ⟨rfl, rfl⟩)
    go_ret
    exact ⟨rfl, by repeat (first | exact Below.refl _ _ | (refine Below.alloc ?_ (by first | omega | (simp; done) | (simp; omega)) _))⟩
  · have HV := validSize_lay pk n
    rw [h] at HV
    obtain ⟨r1, r2, r3⟩ := part_rng h
    have hu := uG_is pk
    have := check_core pk n d (lst d (pD pk n)) g (lst g (pG pk n)) c (lst c (pC pk n)) (uG pk) w (by omega) HV (units_any pk) (spans_any pk n d g c)
    rw [chkF_eq hd hg hc hu (by omega) (by omega) (by omega)] at this
    have e : chkR pk n d g c = if okL d (pD pk n) g (pG pk n) c (pC pk n) (uG pk) = true then 0 else 2 := by simp [chkR, okRg, h]
    rw [e]
    exact this
end Go.Proofs.YtfhhgcgbgmilcaaGreat

/- Chains as a device reads them: plain answers of layer 10. No program in sight. -/
namespace Go.Proofs.YtfhhgcgbgmilcaaGreat
open Go
set_option linter.unusedVariables false
set_option maxRecDepth 100000

/-- what was read so far -/
structure Wst where
  S : List Sg
  n : Nat
  e : Int
def flB (f : Int) (m : Nat) : Bool := decide (f.toNat &&& m ≠ 0)
/-- the descriptor at an address, if there is one -/
def dscAt (R : List (Int × Int)) (M : List Int) (a : Int) : Option Dsc := if readE R a 16 = 0 then some (dR (readL R M a 16)) else none
def wstop (e : Int) (x : Wst) : Wst := if x.e = 0 then ⟨x.S, x.n, e⟩ else x
def wseg (a l f : Int) (x : Wst) : Wst := ⟨x.S ++ [⟨a, l, flB f 2⟩], x.n, x.e⟩
def wone (x : Wst) : Wst := ⟨x.S, x.n + 1, x.e⟩
/-- a split chain -/
def wch (R : List (Int × Int)) (M : List Int) (at_ size : Int) (inner table : Bool) (tab : Int → Int → Wst → Wst) : Nat → List Int → Int → Wst → Wst
  | 0, _, _, x => x
  | f + 1, seen, k, x =>
    if inB seen k = true then wstop 4 x
    else if okI size k = false then wstop 4 x
    else match dscAt R M (at_ + 16 * k) with
      | none => wstop 5 x
      | some d =>
        if flB d.f 4 = true then (if (inner || (!table || flB d.f 1)) = true then wstop 4 (wone x) else tab d.a d.l (wone x))
        else if flB d.f 1 = true then wch R M at_ size inner table tab f (seen ++ [k]) d.n (wseg d.a d.l d.f (wone x))
        else wseg d.a d.l d.f (wone x)
/-- may a table be so? -/
def wenE (R : List (Int × Int)) (a l : Int) : Int := if l = 0 ∨ l % 16 ≠ 0 ∨ 64 < l / 16 then 4 else if (loc R a l).isSome = true then 0 else 5
def wtab (R : List (Int × Int)) (M : List Int) (a l : Int) (x : Wst) : Wst :=
  if wenE R a l = 0 then wch R M a (l / 16) true true (fun _ _ x => x) ((l / 16).toNat + 1) [] 0 x else wstop (wenE R a l) x
def wspl (R : List (Int × Int)) (M : List Int) (d n head : Int) (table : Bool) : Wst := wch R M d n false table (wtab R M) (n.toNat + 1) [] head ⟨[], 0, 0⟩
/-- the end's error and buffer -/
def wndE (R : List (Int × Int)) (x : Wst) : Int := if x.e = 0 then (if mayE x.S = 0 then inE R x.S else 4) else x.e
def wndL (R : List (Int × Int)) (x : Wst) : List Sg := if wndE R x = 0 then x.S else []
/-- a packed chain -/
structure Pst where
  x : Wst
  id : Int
  c : Nat
def wpe (R : List (Int × Int)) (M : List Int) (a : Int) : Nat → Nat → Wst → Wst
  | 0, _, x => x
  | r + 1, i, x => if flB (dR (readL R M (a + 16 * (i : Int)) 16)).n 4 = true then wstop 4 x else wpe R M a r (i + 1) (wseg (dR (readL R M (a + 16 * (i : Int)) 16)).a (dR (readL R M (a + 16 * (i : Int)) 16)).l (dR (readL R M (a + 16 * (i : Int)) 16)).n x)
def wptb (R : List (Int × Int)) (M : List Int) (a l : Int) (x : Wst) : Wst := if wenE R a l = 0 then wpe R M a (l / 16).toNat 0 x else wstop (wenE R a l) x
def wpk (R : List (Int × Int)) (M : List Int) (d n : Int) (table : Bool) : Nat → Int → Pst → Pst
  | 0, _, s => s
  | f + 1, p, s =>
    if (s.c : Int) = n then ⟨wstop 4 s.x, s.id, s.c⟩
    else match dscAt R M (d + 16 * p) with
      | none => ⟨wstop 5 s.x, s.id, s.c⟩
      | some q =>
        if flB q.n 4 = true then ⟨if (!table || (decide (1 < s.c + 1) || flB q.n 1)) = true then wstop 4 s.x else wptb R M q.a q.l s.x, q.f, s.c + 1⟩
        else if flB q.n 1 = true then wpk R M d n table f (goA p 1 n) ⟨wseg q.a q.l q.n s.x, q.f, s.c + 1⟩
        else ⟨wseg q.a q.l q.n s.x, q.f, s.c + 1⟩
def wpkS (R : List (Int × Int)) (M : List Int) (d n p : Int) (table : Bool) : Pst := wpk R M d n table (n.toNat + 1) p ⟨⟨[], 0, 0⟩, 0, 0⟩
def wpkX (n : Int) (s : Pst) : Wst := if n ≤ s.id then wstop 4 s.x else s.x
/-- what is refused -/
def wrfE (pk pk0 : Bool) (n d g c : Int) : Int := if chkR pk n d g c = 0 then (if pk = pk0 then 0 else 2) else chkR pk n d g c

/-! ### plain facts -/
theorem flB_and {f : Int} (m : Nat) (h : 0 ≤ f ∧ f < 65536) (hm : m < 65536) : (bits .and .u16 f (m : Int) != 0) = flB f m := by
  obtain ⟨k, rfl⟩ := Int.eq_ofNat_of_zero_le h.1
  rw [u16_and_nat k m (by omega) hm]
  unfold flB
  simp
  by_cases e : k &&& m = 0
  · simp [e]
  · simp [e]
end Go.Proofs.YtfhhgcgbgmilcaaGreat

/- The reference's Total of layer 5. Conditions: as each theorem names them. -/
namespace Go.Proofs.YtfhhgcgbgmilcaaGreat
open Go.ChangeShapes Go.WideShapes Go.ChangeAt Go.RowKit
set_option linter.unusedVariables false
set_option maxRecDepth 100000

theorem take_sat {L : List Sg} {k : Nat} (h : k < L.length) : L.take (k + 1) = L.take k ++ [sat L k] := by
  rw [List.take_succ_eq_append_getElem h]
  simp [sat, List.getD, h]
theorem totS_append (t : Bool) : ∀ a b : List Sg, totS t (a ++ b) = totS t a + totS t b
  | [], b => by simp [totS]
  | s :: a, b => by
    have := totS_append t a b
    simp only [List.cons_append, totS]
    omega
theorem totS_one (t : Bool) (s : Sg) : totS t [s] = if s.t = t then s.n else 0 := by
  simp [totS]
theorem totS_step {t : Bool} {L : List Sg} {k : Nat} (h : k < L.length) : totS t (L.take (k + 1)) = totS t (L.take k) + if (sat L k).t = t then (sat L k).n else 0 := by
  rw [take_sat h, totS_append, totS_one]
theorem isSgs_take {L : List Sg} (h : isSgs L) (k : Nat) : isSgs (L.take k) := fun s hs => h s (List.mem_of_mem_take hs)
theorem sumS_append : ∀ a b : List Sg, sumS (a ++ b) = sumS a + sumS b
  | [], b => by simp [sumS]
  | s :: a, b => by
    have := sumS_append a b
    simp only [List.cons_append, sumS]
    omega
theorem totS_le {L : List Sg} (h : isSgs L) (t : Bool) (k : Nat) : 0 ≤ totS t (L.take k) ∧ totS t (L.take k) ≤ sumS L := by
  have h1 := isSgs_take h k
  have h2 := isSgs_drop h k
  have e := sumS_append (L.take k) (L.drop k)
  rw [List.take_append_drop] at e
  have e2 := totS_sum (L.take k)
  have p1 := totS_nonneg true h1
  have p2 := totS_nonneg false h1
  have p3 := sumS_nonneg h2
  cases t <;> constructor <;> omega

end Go.Proofs.YtfhhgcgbgmilcaaGreat
