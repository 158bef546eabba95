/- A box that holds a device's state. Conditions: as each theorem names them. -/
import Derived.Test.YtfiogaollejdbaaStc
import Derived.Test.YtfiogaollejdbaaOutl
import Derived.Test.YtfiogaollejdbaaBlk
namespace Go.Proofs.Ytfiogaollejdbaa
open Go.ChangeShapes Go.WideShapes Go.ChangeAt Go.RowKit
set_option linter.unusedVariables false
set_option maxRecDepth 100000

abbrev BoxAt (w : World) (b : Nat) (k o g s : Int) : Prop := BlkAt w b [.int .i64 k, .int .u64 o, .int .u64 g, .int .u8 s] 24
theorem box_all {w : World} {b : Nat} {k o g s : Int} (h : BoxAt w b k o g s) : b < w.heap.size ∧ w.cell? ⟨b, 0, none⟩ = some (.int .i64 k) ∧ w.cell? ⟨b, 1, none⟩ = some (.int .u64 o) ∧ w.cell? ⟨b, 2, none⟩ = some (.int .u64 g) ∧ w.cell? ⟨b, 3, none⟩ = some (.int .u8 s) :=
  ⟨h.lt, h.cell 0, h.cell 1, h.cell 2, h.cell 3⟩
theorem box_free {w : World} {b : Nat} {k o g s : Int} (h : BoxAt w b k o g s) : w.frozen? ⟨b, 0, none⟩ = false ∧ w.frozen? ⟨b, 1, none⟩ = false ∧ w.frozen? ⟨b, 2, none⟩ = false ∧ w.frozen? ⟨b, 3, none⟩ = false :=
  ⟨h.free 0, h.free 1, h.free 2, h.free 3⟩
theorem box_new (w : World) (k o g s : Int) (t : TypeId) (ht : t = 24) : BoxAt (w.alloc (.cells #[.int .i64 k, .int .u64 o, .int .u64 g, .int .u8 s] t)) w.heap.size k o g s := by
  subst ht
  exact blk_new w [.int .i64 k, .int .u64 o, .int .u64 g, .int .u8 s] _
/-- a state stored into a box -/
abbrev putDev (w : World) (b : Nat) (k o g s : Int) : World := (((w.setCell ⟨b, 0, none⟩ (.int .i64 k)).setCell ⟨b, 1, none⟩ (.int .u64 o)).setCell ⟨b, 2, none⟩ (.int .u64 g)).setCell ⟨b, 3, none⟩ (.int .u8 s)
theorem box_put {w : World} {b : Nat} {k o g s : Int} (h : BoxAt w b k o g s) (k' o' g' s' : Int) : BoxAt (putDev w b k' o' g' s') b k' o' g' s' := (((h.set 0 _).set 1 _).set 2 _).set 3 _
theorem blk_put {w : World} {b c : Nat} {C : List Value} {t : TypeId} (h : BlkAt w c C t) (hne : c ≠ b) (k o g s : Int) : BlkAt (putDev w b k o g s) c C t := (((h.other hne _).other hne _).other hne _).other hne _
theorem below_put {w a : World} {b B : Nat} (h : Below B a w) (hb : B ≤ b) (k o g s : Int) : Below B a (putDev w b k o g s) := (((h.setCell hb _).setCell hb _).setCell hb _).setCell hb _
theorem field_s (k o g s : Int) (w : World) : (Instr.field 24 (.agg #[.int .i64 k, .int .u64 o, .int .u64 g, .int .u8 s]) 3).run Try.prog w = .ok (.int .u8 s) w := by kernel_rfl
/-- a device compared with itself -/
theorem eq_dev (k o g s : Int) (w : World) : (binOp .eql 24 (.agg #[.int .i64 k, .int .u64 o, .int .u64 g, .int .u8 s]) (.agg #[.int .i64 k, .int .u64 o, .int .u64 g, .int .u8 s])).run Try.prog w = .ok (.bool true) w := by
  rw [run_eql_struct, run_equalIn_agg w 9999 24 _ _ fieldsDv stoodDv]
  have hf := fieldsDv
  rw [Try.underlying24] at hf
  simp at hf
  rw [← hf]
  simp [Op.eqFields, go_sem, Try.underlying3, Try.underlying22, Try.underlying5]
theorem guardDev : Try.prog.eqGuardType Try.prog.depth 24 = false := by kernel_rfl
theorem infoDev : (Try.prog.info? 24).map (·.size) = some 4 := by kernel_rfl
theorem BoxAt.range {w : World} {b : Nat} {k o g s : Int} (h : BoxAt w b k o g s) : w.rangeAt b 0 [.int .i64 k, .int .u64 o, .int .u64 g, .int .u8 s] := fun j v hv => by
  match j, hv with
  | 0, hv => simp at hv; subst hv; exact h.cell 0
  | 1, hv => simp at hv; subst hv; exact h.cell 1
  | 2, hv => simp at hv; subst hv; exact h.cell 2
  | 3, hv => simp at hv; subst hv; exact h.cell 3
theorem loadDev {w : World} {b : Nat} {k o g s : Int} (h : BoxAt w b k o g s) : (Instr.loadAt 24 (.pointer (some ⟨b, 0, none⟩))).run Try.prog w = .ok (.agg #[.int .i64 k, .int .u64 o, .int .u64 g, .int .u8 s]) w := run_loadAt_mid w b 0 _ [.int .i64 k, .int .u64 o, .int .u64 g, .int .u8 s] _ h.range Try.underlying24 rfl infoDev
theorem at_s (b : Nat) (w : World) : (Instr.fieldAt 24 (.pointer (some ⟨b, 0, none⟩)) 3).run Try.prog w = .ok (.pointer (some ⟨b, 3, none⟩)) w := by kernel_rfl
theorem at_g (b : Nat) (w : World) : (Instr.fieldAt 24 (.pointer (some ⟨b, 0, none⟩)) 2).run Try.prog w = .ok (.pointer (some ⟨b, 2, none⟩)) w := by kernel_rfl
theorem load_s {w : World} {b : Nat} {k o g s : Int} (h : BoxAt w b k o g s) : (Instr.loadAt 5 (.pointer (some ⟨b, 3, none⟩))).run Try.prog w = .ok (.int .u8 s) w := by
  have h3 := (box_all h).2.2.2.2
  simp [go_sem, h3]
theorem load_g {w : World} {b : Nat} {k o g s : Int} (h : BoxAt w b k o g s) : (Instr.loadAt 22 (.pointer (some ⟨b, 2, none⟩))).run Try.prog w = .ok (.int .u64 g) w := by
  have h3 := (box_all h).2.2.2.1
  simp [go_sem, h3]
theorem eval_cst (a : Act) (v : Value) : a.eval (.const v) = v := rfl
end Go.Proofs.Ytfiogaollejdbaa
