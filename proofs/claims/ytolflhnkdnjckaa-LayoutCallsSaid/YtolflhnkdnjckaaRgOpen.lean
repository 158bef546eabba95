/- How a parameter of type api.Rings opens. Conditions: as each theorem names them. -/
import Derived.Test.YtolflhnkdnjckaaLay1
import Derived.Test.YtolflhnkdnjckaaArg
import Derived.Lib.SmallJoins
namespace Go.Proofs.Ytolflhnkdnjckaa
open Go.ChangeShapes Go.WideShapes Go.ChangeAt Go.RowKit
set_option linter.unusedVariables false
set_option maxRecDepth 100000

theorem array5 {α : Type} {cs : Array α} (h : cs.size = 5) : ∃ c0 c1 c2 c3 c4, cs = #[c0, c1, c2, c3, c4] := by
  obtain ⟨l⟩ := cs
  match l, h with
  | [c0, c1, c2, c3, c4], _ => exact ⟨c0, c1, c2, c3, c4, rfl⟩
section
variable {H : Type} {enc : TypeId × Value → H} {W : World} {r : Reach} {b0 : Nat} {v : Value} {d : DataW H} {p : List MemPlace}
theorem open_rings (hval : Value.okWide Try.prog W r b0 24 v) (h : DataW.Trod enc Try.prog W 0 (fun _ => true) true 24 v d p) :
    ∃ (a : Bool) (n x y z : Int), v = rV a n x y z ∧ (-9223372036854775808 ≤ n ∧ n ≤ 9223372036854775807) ∧ U64 x ∧ U64 y ∧ U64 z := by
  obtain ⟨cs, rfl, hsz⟩ := okWide_struct Try.underlying24 hval
  obtain ⟨c0, c1, c2, c3, c4, rfl⟩ := array5 (hsz.trans (by kernel_rfl))
  obtain ⟨fuel, hf⟩ := h
  obtain ⟨xs, m, _, _, hl, hlen, hq⟩ := DataW.trod_struct Try.underlying24 hf
  match xs, hlen with
  | [y0, y1, y2, y3, y4], _ =>
    have q0 : DataW.trod enc Try.prog W 0 (fun _ => true) true m 4 [c0] = some y0 := hq 0 _ rfl
    have q1 : DataW.trod enc Try.prog W 0 (fun _ => true) true m 3 [c1] = some y1 := hq 1 _ rfl
    have q2 : DataW.trod enc Try.prog W 0 (fun _ => true) true m 22 [c2] = some y2 := hq 2 _ rfl
    have q3 : DataW.trod enc Try.prog W 0 (fun _ => true) true m 22 [c3] = some y3 := hq 3 _ rfl
    have q4 : DataW.trod enc Try.prog W 0 (fun _ => true) true m 22 [c4] = some y4 := hq 4 _ rfl
    obtain ⟨a0, e0, _⟩ := DataW.trod_bool Try.underlying4 q0
    obtain ⟨a1, e1, _, w1⟩ := DataW.trod_int Try.underlying3 q1
    obtain ⟨a2, e2, _, w2⟩ := DataW.trod_int Try.underlying22 q2
    obtain ⟨a3, e3, _, w3⟩ := DataW.trod_int Try.underlying22 q3
    obtain ⟨a4, e4, _, w4⟩ := DataW.trod_int Try.underlying22 q4
    simp at e0 e1 e2 e3 e4
    subst e0 e1 e2 e3 e4
    have u1 := bounds_i64 w1
    have u2 := bounds_u64 w2
    have u3 := bounds_u64 w3
    have u4 := bounds_u64 w4
    exact ⟨a0, a1, a2, a3, a4, rfl, ⟨by omega, by omega⟩, ⟨by omega, by omega⟩, ⟨by omega, by omega⟩, ⟨by omega, by omega⟩⟩
end
end Go.Proofs.Ytolflhnkdnjckaa
