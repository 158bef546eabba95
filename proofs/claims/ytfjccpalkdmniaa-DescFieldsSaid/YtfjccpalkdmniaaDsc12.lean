/- What an outline of a return over descriptors asks: loads of whole structs, comparisons, rows of bytes. Conditions: as each theorem names them. -/
import Derived.Test.YtfjccpalkdmniaaDsc11
import Derived.Test.YtfjccpalkdmniaaOutl
namespace Go.Proofs.Ytfjccpalkdmniaa
open Go.ChangeShapes Go.WideShapes Go.ChangeAt Go.RowKit
set_option linter.unusedVariables false
set_option maxRecDepth 100000

theorem eval_const (a : Act) (v : Value) : a.eval (.const v) = v := rfl
theorem guardD : Try.prog.eqGuardType Try.prog.depth 56 = false := by kernel_rfl
theorem guardP : Try.prog.eqGuardType Try.prog.depth 60 = false := by kernel_rfl
theorem guardU : Try.prog.eqGuardType Try.prog.depth 68 = false := by kernel_rfl
theorem guardE : Try.prog.eqGuardType Try.prog.depth 71 = false := by kernel_rfl
theorem infoD : (Try.prog.info? 56).map (·.size) = some 4 := by kernel_rfl
theorem infoP : (Try.prog.info? 60).map (·.size) = some 4 := by kernel_rfl
theorem infoU : (Try.prog.info? 68).map (·.size) = some 2 := by kernel_rfl
theorem infoE : (Try.prog.info? 71).map (·.size) = some 2 := by kernel_rfl
theorem at4.range {w : World} {b : Nat} {d : Dsc} (h : at4 w b 0 d) : w.rangeAt b 0 (dC d) := fun j v hv => by
  obtain ⟨h0, h1, h2, h3⟩ := h
  match j, hv with
  | 0, hv => simp at hv; subst hv; exact h0
  | 1, hv => simp at hv; subst hv; exact h1
  | 2, hv => simp at hv; subst hv; exact h2
  | 3, hv => simp at hv; subst hv; exact h3
theorem loadD {w : World} {b : Nat} {d : Dsc} (h : at4 w b 0 d) : (Instr.loadAt 56 (.pointer (some ⟨b, 0, none⟩))).run Try.prog w = .ok (dV d) w := run_loadAt_mid w b 0 _ (dC d) _ h.range Try.underlying56 rfl infoD
theorem loadP {w : World} {b : Nat} {d : Dsc} (h : at4 w b 0 d) : (Instr.loadAt 60 (.pointer (some ⟨b, 0, none⟩))).run Try.prog w = .ok (dV d) w := run_loadAt_mid w b 0 _ (dC d) _ h.range Try.underlying60 rfl infoP
/-- two cells of a block -/
def at2 (w : World) (b : Nat) (k : IntKind) (x y : Int) : Prop := w.cell? ⟨b, 0, none⟩ = some (.int k x) ∧ w.cell? ⟨b, 1, none⟩ = some (.int k y)
theorem at2.below {w w' : World} {b : Nat} {k : IntKind} {x y : Int} {B : Nat} (h : at2 w b k x y) (hb : Below B w w') (hB : b < B) : at2 w' b k x y :=
  ⟨(hb.cell (p := ⟨b, 0, none⟩) hB).trans h.1, (hb.cell (p := ⟨b, 1, none⟩) hB).trans h.2⟩
theorem at2.range {w : World} {b : Nat} {k : IntKind} {x y : Int} (h : at2 w b k x y) : w.rangeAt b 0 [.int k x, .int k y] := fun j v hv => by
  match j, hv with
  | 0, hv => simp at hv; subst hv; exact h.1
  | 1, hv => simp at hv; subst hv; exact h.2
theorem loadU {w : World} {b : Nat} {x y : Int} (h : at2 w b .u32 x y) : (Instr.loadAt 68 (.pointer (some ⟨b, 0, none⟩))).run Try.prog w = .ok (.agg #[.int .u32 x, .int .u32 y]) w := run_loadAt_mid w b 0 _ [.int .u32 x, .int .u32 y] _ h.range Try.underlying68 rfl infoU
theorem loadE {w : World} {b : Nat} {x y : Int} (h : at2 w b .u16 x y) : (Instr.loadAt 71 (.pointer (some ⟨b, 0, none⟩))).run Try.prog w = .ok (.agg #[.int .u16 x, .int .u16 y]) w := run_loadAt_mid w b 0 _ [.int .u16 x, .int .u16 y] _ h.range Try.underlying71 rfl infoE
/-- a slice of n bytes, at a block's start, that reads as M -/
def rowP (t : TypeId) (n : Nat) (M : List Int) (v : Value) (w : World) : Prop := ∃ b, v = .slice (some ⟨b, 0, none⟩) n n ∧ Row w b t M
theorem up_rowP (t : TypeId) (n : Nat) (M : List Int) : Up (rowP t n M) := fun v w w' hb ⟨b, h1, h2⟩ => ⟨b, h1, keepB hb h2⟩
end Go.Proofs.Ytfjccpalkdmniaa
