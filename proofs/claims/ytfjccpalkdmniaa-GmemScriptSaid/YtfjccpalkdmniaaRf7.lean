/- kit.SameRegions of two slices of the same regions. Conditions: as the theorem names them. -/
import Derived.Test.YtfjccpalkdmniaaRf6
namespace Go.Proofs.Ytfjccpalkdmniaa
open Go.ChangeShapes Go.WideShapes Go.ChangeAt Go.RowKit
set_option linter.unusedVariables false

set_option maxRecDepth 100000 in
set_option maxHeartbeats 2000000 in
theorem same_any (v1 v2 : Value) (L : List (Int × Int)) (w : World) (h1 : RegsAt w v1 L) (h2 : RegsAt w v2 L) (h16 : L.length ≤ 16) :
    Calls Try.prog 30 #[v1, v2] w fun e w' => e = .returned (.bool true) ∧ ∃ m, w' = w.drewN m := by
  have h16i : (L.length : Int) ≤ 16 := by omega
  by_cases hL : L = []
  · subst hL
    obtain ⟨a1, c1, rfl⟩ := h1.len
    obtain ⟨a2, c2, rfl⟩ := h2.len
    clear h1 h2 h16 h16i
    go_enter Try.func30, Try.ntmps30
    go_wp2_with fail
    go_loop [5] (fun i => i = .int .i64 0) (fun _ => 0)
    case atStart => rfl
    case round =>
      obtain rfl := hrel
      go_wp2_with fail
      go_ret
      exact ⟨rfl, 0, rfl⟩
  · rcases h1 with ⟨_, h⟩ | ⟨b, o, c, rfl, hb1, hb2, hb3⟩
    · exact absurd h hL
    rcases h2 with ⟨_, h⟩ | ⟨b2, o2, c2, rfl, g1, g2, g3⟩
    · exact absurd h hL
    have HC := hid_mk hb3
    have HG := hid_mk g3
    clear hb3 g3 hL h16
    go_enter Try.func30, Try.ntmps30
    go_wp2_with fail
    go_loopw [5] (fun i wr => ∃ k m : Nat, k ≤ L.length ∧ i = .int .i64 k ∧ wr = w.drewN m) (fun i _ => L.length - (intOf i).toNat)
    case atStart => exact ⟨0, 0, Nat.zero_le _, rfl, rfl⟩
    case round =>
      obtain ⟨k, m, hk, rfl, rfl⟩ := hrel
      by_cases hlt : k < L.length
      · obtain ⟨q0, q1⟩ := HC.out k hlt
        obtain ⟨r0, r1⟩ := HG.out k hlt
        generalize (at_ L k).1 = x at *
        generalize (at_ L k).2 = y at *
        go_wp2_with fail
        go_quiet (fail)
        go_wp2_with fail
        go_roundw
        case rel => exact ⟨k + 1, _, by omega, by go_num, rfl⟩
        case measure => simp [intOf] <;> omega
      · obtain rfl : k = L.length := by omega
        go_wp2_with fail
        go_ret
        exact ⟨rfl, m, rfl⟩
end Go.Proofs.Ytfjccpalkdmniaa
