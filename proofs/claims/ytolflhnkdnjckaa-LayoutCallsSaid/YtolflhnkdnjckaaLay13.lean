/- The reference's Fits of layer 4, the chapter's examples. Conditions: as each theorem names them. -/
import Derived.Test.YtolflhnkdnjckaaLay12
import Derived.Test.YtolflhnkdnjckaaLay9b
namespace Go.Proofs.Ytolflhnkdnjckaa
open Go.ChangeShapes Go.WideShapes Go.ChangeAt Go.RowKit
set_option linter.unusedVariables false
set_option maxRecDepth 100000

theorem rfits_nil (pk : Bool) (n d g c : Int) (w : World) :
    Calls Try.prog 24 #[.pointer none, rV pk n d g c] w fun e w' => e = .returned (.int .i64 1) ∧ Below w.heap.size w w' := by
  go_enter Try.func24, Try.ntmps24
  go_wp2
  go_ret
  exact ⟨rfl, by repeat (first | exact Below.refl _ _ | (refine Below.alloc ?_ (by first | omega | (simp; done) | (simp; omega)) _))⟩

set_option maxHeartbeats 2000000 in
theorem rfits_any (base rp lb bb cL cB : Nat) (aB : Option Addr) (D : Nat → Nat) (L : List (Int × Int)) (M : List Int) (pk : Bool) (n d g c : Int) (w : World) (hm : IsRef w base rp lb bb cL cB aB D L M) (hd : U64 d) (hg : U64 g) (hc : U64 c) :
    Calls Try.prog 24 #[.pointer (some ⟨rp, 0, none⟩), rV pk n d g c] w fun e w' => e = .returned (.int .i64 (fitR L pk n d g c)) ∧ Below w.heap.size w w' := by
  have HC := fun w => rcheck_lay pk n d g c w hd hg hc
  cases hk : okRg pk n d g c
  · have e : fitR L pk n d g c = 2 := by simp [fitR, hk]
    rw [show chkR pk n d g c = 2 from by simp [chkR, hk]] at HC
    rw [e]
    have HC' := hid_mk HC
    clear HC hm hd hg hc hk e
    go_enter Try.func24, Try.ntmps24
    go_wp2_with fail
    refine (HC'.out _).mono ?_
    rintro e w1 ⟨rfl, hb⟩
    have B1 := hid_mk (below_new (Below.refl _ _) hb)
    clear hb
    go_wp2_with fail
    go_ret
    exact ⟨rfl, B1.out⟩
  · have e : fitR L pk n d g c = if ((loc L d (pD pk n)).isSome && (loc L g (pG pk n)).isSome && (loc L c (pC pk n)).isSome) = true then 0 else 5 := by simp [fitR, hk]
    rw [show chkR pk n d g c = 0 from by simp [chkR, hk]] at HC
    obtain ⟨hs, hl⟩ := ok_parts hk
    obtain ⟨r1, r2, r3⟩ := part_rng hs
    have HP := hid_mk (rparts_any pk n d g c)
    have K1 := hid_mk (fun (u : World) (hu : IsRef u base rp lb bb cL cB aB D L M) => rhas_any base rp lb bb cL cB aB D L M d (pD pk n) u hu hd ⟨by omega, by omega⟩)
    have K2 := hid_mk (fun (u : World) (hu : IsRef u base rp lb bb cL cB aB D L M) => rhas_any base rp lb bb cL cB aB D L M g (pG pk n) u hu hg ⟨by omega, by omega⟩)
    have K3 := hid_mk (fun (u : World) (hu : IsRef u base rp lb bb cL cB aB D L M) => rhas_any base rp lb bb cL cB aB D L M c (pC pk n) u hu hc ⟨by omega, by omega⟩)
    rw [e]
    generalize (loc L d (pD pk n)).isSome = z1 at *
    generalize (loc L g (pG pk n)).isSome = z2 at *
    generalize (loc L c (pC pk n)).isSome = z3 at *
    generalize pD pk n = D1 at *
    generalize pG pk n = G1 at *
    generalize pC pk n = C1 at *
    have HC' := hid_mk HC
    have HM0 := hid_mk hm
    clear HC hm hd hg hc hk e hs hl r1 r2 r3
    go_enter Try.func24, Try.ntmps24
    go_wp2_with fail
    refine (HC'.out _).mono ?_
    rintro e w1 ⟨rfl, hb⟩
    have B1 := hid_mk (below_new (Below.refl _ _) hb)
    have M1 := hid_mk ((HM0.out.below ((Below.refl _ _).alloc (Nat.le_refl _) _)).below hb)
    have E1 := bcell hb
    have q1 : w.heap.size < w1.heap.size := by
      have := hb.size
      simp at this
      omega
    clear hb HM0
    go_wp2_with fail
    refine (HP.out _).mono ?_
    rintro e w2 ⟨rfl, hb⟩
    have B2 := hid_mk (below_then B1.out hb)
    have M2 := hid_mk (M1.out.below hb)
    have E2 := bcell hb
    have q2 : w.heap.size < w2.heap.size := by
      have := hb.size
      omega
    clear hb
    go_wp2_with fail
    refine (K1.out _ M2.out).mono ?_
    rintro e w3 ⟨rfl, hb⟩
    have B3 := hid_mk (below_then B2.out hb)
    have M3 := hid_mk (M2.out.below hb)
    have E3 := bcell hb
    have q3 : w.heap.size < w3.heap.size := by
      have := hb.size
      omega
    clear hb
    cases z1
    · go_wp2_with fail
      go_ret
      exact ⟨rfl, B3.out⟩
    · go_wp2_with fail
      refine (K2.out _ M3.out).mono ?_
      rintro e w4 ⟨rfl, hb⟩
      have B4 := hid_mk (below_then B3.out hb)
      have M4 := hid_mk (M3.out.below hb)
      have E4 := bcell hb
      have q4 : w.heap.size < w4.heap.size := by
        have := hb.size
        omega
      clear hb
      cases z2
      · go_wp2_with fail
        go_ret
        exact ⟨rfl, B4.out⟩
      · go_wp2_with fail
        refine (K3.out _ M4.out).mono ?_
        rintro e w5 ⟨rfl, hb⟩
        have B5 := hid_mk (below_then B4.out hb)
        clear hb
        cases z3
        · go_wp2_with fail
          go_ret
          exact ⟨rfl, B5.out⟩
        · go_wp2_with fail
          go_ret
          exact ⟨rfl, B5.out⟩
end Go.Proofs.Ytolflhnkdnjckaa
