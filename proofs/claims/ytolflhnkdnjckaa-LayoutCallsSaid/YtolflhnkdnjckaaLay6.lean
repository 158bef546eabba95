/- Contract of layout.Where: what it returns, and that old memory stays. Conditions: as each theorem names them. -/
import Derived.Test.YtolflhnkdnjckaaLay5
namespace Go.Proofs.Ytolflhnkdnjckaa
open Go.ChangeShapes Go.WideShapes Go.ChangeAt Go.RowKit
set_option linter.unusedVariables false
set_option maxRecDepth 100000

theorem elements_any (pk : Bool) (n d g c x : Int) (w : World) (hg : U64 g) (hc : U64 c) :
    Calls Try.prog 31 #[rV pk n d g c, .int .i64 x] w fun e w' => e = .returned (el3 (elP pk n d g c x)) ∧ Below w.heap.size w w' := by
  by_cases h : isEl x
  · rcases h with rfl | rfl | rfl | rfl | rfl | rfl | rfl | rfl | rfl | rfl | rfl <;> cases pk
    · exact elements_false_1 n d g c w hg hc
    · exact elements_true_1 n d g c w hg hc
    · exact elements_false_2 n d g c w hg hc
    · exact elements_true_2 n d g c w hg hc
    · exact elements_false_3 n d g c w hg hc
    · exact elements_true_3 n d g c w hg hc
    · exact elements_false_4 n d g c w hg hc
    · exact elements_true_4 n d g c w hg hc
    · exact elements_false_5 n d g c w hg hc
    · exact elements_true_5 n d g c w hg hc
    · exact elements_false_6 n d g c w hg hc
    · exact elements_true_6 n d g c w hg hc
    · exact elements_false_7 n d g c w hg hc
    · exact elements_true_7 n d g c w hg hc
    · exact elements_false_8 n d g c w hg hc
    · exact elements_true_8 n d g c w hg hc
    · exact elements_false_9 n d g c w hg hc
    · exact elements_true_9 n d g c w hg hc
    · exact elements_false_10 n d g c w hg hc
    · exact elements_true_10 n d g c w hg hc
    · exact elements_false_11 n d g c w hg hc
    · exact elements_true_11 n d g c w hg hc
  · unfold isEl at h
    simp only [not_or] at h
    obtain ⟨h1, h2, h3, h4, h5, h6, h7, h8, h9, h10, h11⟩ := h
    cases pk
    · exact elements_false_no n d g c x w hg hc h1 h2 h3 h4 h5 h6 h7 h8 h9 h10 h11
    · exact elements_true_no n d g c x w hg hc h1 h2 h3 h4 h5 h6 h7 h8 h9 h10 h11

/-- Where's answer: the address, the bytes, the error -/
def whOk (pk : Bool) (n d g c x i : Int) : Bool := okRg pk n d g c && decide (0 ≤ i ∧ i < (elP pk n d g c x).2.2)
def whA (pk : Bool) (n d g c x i : Int) : Int := if whOk pk n d g c x i = true then IntKind.u64.wrap ((elP pk n d g c x).1 + IntKind.u64.wrap (wrap64 ((elP pk n d g c x).2.1 * i))) else 0
def whN (pk : Bool) (n d g c x i : Int) : Int := if whOk pk n d g c x i = true then (elP pk n d g c x).2.1 else 0
def whE (pk : Bool) (n d g c x i : Int) : Int := if whOk pk n d g c x i = true then 0 else 2
theorem wh_no {pk : Bool} {n d g c x i : Int} (h : whOk pk n d g c x i = false) : Ending.returned (.tuple #[.int .u64 0, .int .i64 0, .int .i64 2]) = .returned (.tuple #[.int .u64 (whA pk n d g c x i), .int .i64 (whN pk n d g c x i), .int .i64 (whE pk n d g c x i)]) := by
  unfold whA whN whE
  rw [h]
  rfl
theorem wh_yes {pk : Bool} {n d g c x i : Int} (h : whOk pk n d g c x i = true) : Ending.returned (.tuple #[.int .u64 (IntKind.u64.wrap ((elP pk n d g c x).1 + IntKind.u64.wrap (wrap64 ((elP pk n d g c x).2.1 * i)))), .int .i64 (elP pk n d g c x).2.1, .int .i64 0]) = .returned (.tuple #[.int .u64 (whA pk n d g c x i), .int .i64 (whN pk n d g c x i), .int .i64 (whE pk n d g c x i)]) := by
  unfold whA whN whE
  rw [h]
  rfl

set_option maxHeartbeats 2000000 in
theorem where_any (pk : Bool) (n d g c x i : Int) (w : World) (hd : U64 d) (hg : U64 g) (hc : U64 c) :
    Calls Try.prog 9 #[rV pk n d g c, .int .i64 x, .int .i64 i] w fun e w' => e = .returned (.tuple #[.int .u64 (whA pk n d g c x i), .int .i64 (whN pk n d g c x i), .int .i64 (whE pk n d g c x i)]) ∧ Below w.heap.size w w' := by
  have HC := fun w => check_lay pk n d g c w hd hg hc
  have HE := hid_mk (fun w => elements_any pk n d g c x w hg hc)
  cases hk : okRg pk n d g c
  · have HN := hid_mk (wh_no (pk := pk) (n := n) (d := d) (g := g) (c := c) (x := x) (i := i) (by simp [whOk, hk]))
    rw [show chkR pk n d g c = 2 from by simp [chkR, hk]] at HC
    have HC' := hid_mk HC
    clear HC hd hg hc hk HE
    go_enter Try.func9, Try.ntmps9
    go_wp2_with fail
    refine (HC'.out _).mono ?_
    rintro e w1 ⟨rfl, hb⟩
    have B1 := hid_mk (below_new (Below.refl _ _) hb)
    clear hb
    go_wp2_with fail
    go_ret3
    exact ⟨HN.out, B1.out⟩
  · rw [show chkR pk n d g c = 0 from by simp [chkR, hk]] at HC
    have HC' := hid_mk HC
    clear HC hd hg hc
    by_cases hi0 : 0 ≤ i
    · by_cases hi1 : i < (elP pk n d g c x).2.2
      · have HN := hid_mk (wh_yes (pk := pk) (n := n) (d := d) (g := g) (c := c) (x := x) (i := i) (by simp [whOk, hk, hi0, hi1]))
        clear hk
        generalize elP pk n d g c x = p at *
        obtain ⟨p1, p2, p3⟩ := p
        go_enter Try.func9, Try.ntmps9
        go_wp2_with fail
        refine (HC'.out _).mono ?_
        rintro e w1 ⟨rfl, hb⟩
        have B1 := hid_mk (below_new (Below.refl _ _) hb)
        have C1 := bcell hb
        have q1 : w.heap.size < w1.heap.size := by
          have := hb.size
          simp at this
          omega
        clear hb
        go_wp2_with fail
        refine (HE.out _).mono ?_
        rintro e w2 ⟨rfl, hb⟩
        have B2 := hid_mk (below_then B1.out hb)
        clear hb
        go_wp2_with fail
        go_ret3
        exact ⟨HN.out, B2.out⟩
      · have HN := hid_mk (wh_no (pk := pk) (n := n) (d := d) (g := g) (c := c) (x := x) (i := i) (by simp [whOk, hi1]))
        have hi1' : (elP pk n d g c x).2.2 ≤ i := by omega
        clear hk hi1
        generalize elP pk n d g c x = p at *
        obtain ⟨p1, p2, p3⟩ := p
        go_enter Try.func9, Try.ntmps9
        go_wp2_with fail
        refine (HC'.out _).mono ?_
        rintro e w1 ⟨rfl, hb⟩
        have B1 := hid_mk (below_new (Below.refl _ _) hb)
        have C1 := bcell hb
        have q1 : w.heap.size < w1.heap.size := by
          have := hb.size
          simp at this
          omega
        clear hb
        go_wp2_with fail
        refine (HE.out _).mono ?_
        rintro e w2 ⟨rfl, hb⟩
        have B2 := hid_mk (below_then B1.out hb)
        clear hb
        go_wp2_with fail
        go_ret3
        exact ⟨HN.out, B2.out⟩
    · have HN := hid_mk (wh_no (pk := pk) (n := n) (d := d) (g := g) (c := c) (x := x) (i := i) (by simp [whOk, hi0]))
      have hi0' : i < 0 := by omega
      clear hk hi0
      generalize elP pk n d g c x = p at *
      obtain ⟨p1, p2, p3⟩ := p
      go_enter Try.func9, Try.ntmps9
      go_wp2_with fail
      refine (HC'.out _).mono ?_
      rintro e w1 ⟨rfl, hb⟩
      have B1 := hid_mk (below_new (Below.refl _ _) hb)
      have C1 := bcell hb
      have q1 : w.heap.size < w1.heap.size := by
        have := hb.size
        simp at this
        omega
      clear hb
      go_wp2_with fail
      refine (HE.out _).mono ?_
      rintro e w2 ⟨rfl, hb⟩
      have B2 := hid_mk (below_then B1.out hb)
      clear hb
      go_wp2_with fail
      go_ret3
      exact ⟨HN.out, B2.out⟩
end Go.Proofs.Ytolflhnkdnjckaa
