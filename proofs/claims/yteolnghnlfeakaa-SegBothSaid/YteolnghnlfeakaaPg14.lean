/- Bytes of a row as a string; a made slice of segments; Check of too many. Conditions: as each theorem names them. -/
import Derived.Test.YteolnghnlfeakaaPg13
namespace Go.Proofs.Yteolnghnlfeakaa
open Go.ChangeShapes Go.WideShapes Go.ChangeAt Go.RowKit
set_option linter.unusedVariables false
set_option maxRecDepth 100000

theorem conv_at {w : World} {b o c n : Nat} {l : List Int} (hn : l.length = n) (h4 : ∀ j, j < l.length → w.cell? ⟨b, o + j, none⟩ = some (.int .u8 (l.getD j 0))) : (convert 38 9 (.slice (some ⟨b, o, none⟩) n c)).run Try.prog w = .ok (.string (strOfNums l)) w :=
  run_convert_bytes_arg w 38 5 Try.underlying38 Try.underlying5 b o n c l hn (fun i hi => by rw [h4 i (by omega)]) 9 Try.underlying9
theorem bytesLitF (w : World) (l : List Int) (t : TypeId) (fr : Nat × Nat) : BytesAt (w.alloc (.cells (bv l) t fr)) (.slice (some ⟨w.heap.size, 0, none⟩) l.length l.length) l :=
  Or.inr ⟨w.heap.size, 0, l.length, rfl, by rw [sizeA]; omega, Nat.le_refl _, fun j hj => by rw [Nat.zero_add]; exact cellB (M := l) (heap_alloc_new w _) j hj⟩
theorem make_segs (n : Nat) (h : n ≤ 1000000) : ∃ cs, ∀ w, (Instr.makeSlice 33 (.int .i64 (n : Int)) (.int .i64 (n : Int))).run Try.prog w = .ok (.slice (some ⟨w.heap.size, 0, none⟩) n n) (w.alloc (.cells cs 32)) := by
  obtain ⟨i0, hi, hz0, hz1, hz2⟩ := info_parts rowSg
  have hr := fun w => run_make (P := Try.prog) w 33 32 i0 _ Try.underlying33 hi hz0 .i64 .i64 n n (by omega) (Int.le_refl _) (by rw [hz2]; omega) (by omega)
  simp only [Int.toNat_natCast] at hr
  exact ⟨_, hr⟩
theorem pcheck_long (a : Option Addr) (n c : Nat) (w : World) (h : 64 < n) :
    Calls Try.prog 14 #[.slice a n c] w fun e w' => e = .returned (.int .i64 3) ∧ w = w' := by
  have h64i : (64 : Int) < (n : Int) := by omega
  go_enter Try.func14, Try.ntmps14
  go_wp2
  go_ret
  exact ⟨rfl, rfl⟩
end Go.Proofs.Yteolnghnlfeakaa
