/- Rings compared; the chapter's examples. Conditions: none. -/
import Derived.Test.YtolflhnkdnjckaaLay6
import Derived.Test.YtolflhnkdnjckaaLay8
import Derived.Test.YtolflhnkdnjckaaLay10
namespace Go.Proofs.Ytolflhnkdnjckaa
open Go.ChangeShapes Go.WideShapes Go.ChangeAt Go.RowKit
set_option linter.unusedVariables false
set_option maxRecDepth 100000

theorem fieldsRg : Try.prog.underlying 24 = some (.struct (Try.prog.fieldsOf 24)) := by kernel_rfl
theorem stoodRg : Try.prog.stoodInHeld 24 = false := by kernel_rfl
/-- are rings the same? -/
def sameRg (p p' : Bool) (n d g c n' d' g' c' : Int) : Bool := p == p' && (n == n' && (d == d' && (g == g' && c == c')))
theorem eqRg (p p' : Bool) (n d g c n' d' g' c' : Int) (w : World) : (binOp .eql 24 (rV p n d g c) (rV p' n' d' g' c')).run Try.prog w = .ok (.bool (sameRg p p' n d g c n' d' g' c')) w := by
  rw [run_eql_struct, run_equalIn_agg w 9999 24 _ _ fieldsRg stoodRg]
  have hf := fieldsRg
  rw [Try.underlying24] at hf
  simp at hf
  rw [← hf]
  simp [Op.eqFields, go_sem, Try.underlying22, Try.underlying3, Try.underlying4, sameRg]
  by_cases h0 : p = p' <;> by_cases h1 : n = n' <;> by_cases h2 : d = d' <;> by_cases h3 : g = g' <;> by_cases h4 : c = c' <;> simp [h0, h1, h2, h3, h4]
theorem sameRg_self (p : Bool) (n d g c : Int) : sameRg p p n d g c n d g c = true := by simp [sameRg]

theorem pl_ex1 : plR false 4 100 = .returned (.tuple #[rV false 4 112 176 192, .int .u64 130, .int .i64 0]) := by
  have h : plOk false 4 100 = true := by decide +kernel
  rw [← pl_yes h, show alV 100 16 = 112 from by decide +kernel, show cO false 4 = 80 from by decide +kernel, show totL false 4 = 118 from by decide +kernel]
  rfl

set_option maxHeartbeats 2000000 in
theorem lives_any (w : World) : Calls Try.prog 11 #[] w fun e w' => e = .returned (.bool true) ∧ Below w.heap.size w w' := by
  have HP := place_lay false 4 100
  rw [pl_ex1] at HP
  have HP' := hid_mk HP
  have a1 : whA false 4 112 176 192 4 3 = 186 := by decide +kernel
  have a2 : whN false 4 112 176 192 4 3 = 2 := by decide +kernel
  have a3 : whE false 4 112 176 192 4 3 = 0 := by decide +kernel
  have b1 : whA false 4 112 176 192 8 1 = 204 := by decide +kernel
  have b2 : whN false 4 112 176 192 8 1 = 8 := by decide +kernel
  have b3 : whE false 4 112 176 192 8 1 = 0 := by decide +kernel
  have W1 := fun w => where_any false 4 112 176 192 4 3 w (by decide) (by decide) (by decide)
  have W2 := fun w => where_any false 4 112 176 192 8 1 w (by decide) (by decide) (by decide)
  rw [a1, a2, a3] at W1
  rw [b1, b2, b3] at W2
  have W1' := hid_mk W1
  have W2' := hid_mk W2
  have hq : ∀ u, (binOp .eql 24 (rV false 4 112 176 192) (rV false 4 112 176 192)).run Try.prog u = .ok (.bool true) u := fun u => by rw [eqRg, sameRg_self]
  clear HP W1 W2 a1 a2 a3 b1 b2 b3
  go_enter Try.func11, Try.ntmps11
  go_wp2_with fail
  refine (HP'.out _ (by decide)).mono ?_
  rintro e w1 ⟨rfl, hb⟩
  have B1 := hid_mk hb
  clear hb
  go_wp2_with fail
  refine (W1'.out _).mono ?_
  rintro e w2 ⟨rfl, hb⟩
  have C2 := bcell hb
  have B2 := hid_mk (below_then (B1.out.alloc B1.out.size _) hb)
  have q2 : w1.heap.size < w2.heap.size := by
    have := hb.size
    simp at this
    omega
  clear hb
  go_wp2_with fail
  refine (W2'.out _).mono ?_
  rintro e w3 ⟨rfl, hb⟩
  have C3 := bcell hb
  have B3 := hid_mk (below_then B2.out hb)
  have q3 : w1.heap.size < w3.heap.size := by
    have := hb.size
    omega
  clear hb
  go_wp2_with fail
  go_ret
  exact ⟨rfl, B3.out⟩
end Go.Proofs.Ytolflhnkdnjckaa
