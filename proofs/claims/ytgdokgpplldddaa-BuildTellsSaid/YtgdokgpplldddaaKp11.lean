/- Dsc3 Dsc4: joined texts. Conditions: as each theorem names them. -/
import Derived.Test.YtgdokgpplldddaaKp10
import Derived.Deep.WholeRow
/- Contracts of desc: a descriptor out of a code; Bytes, PackedBytes, Read, ReadPacked. Conditions: as each theorem names them. -/
namespace Go.Proofs.Ytgdokgpplldddaa
open Go.ChangeShapes Go.WideShapes Go.ChangeAt Go.RowKit
set_option linter.unusedVariables false
set_option maxRecDepth 100000

/-- the descriptor with these bytes -/
def dR (M : List Int) : Dsc := ⟨le ((M.drop 0).take 8), le ((M.drop 8).take 4), le ((M.drop 12).take 2), le ((M.drop 14).take 2)⟩
theorem le_part {M : List Int} (hB : isBytes M) (hM : M.length = 16) (k n : Nat) (hk : k + n ≤ 16) : 0 ≤ le ((M.drop k).take n) ∧ le ((M.drop k).take n) < pow2 (8 * n) := by
  have hb := isBytes_take (isBytes_drop hB k) n
  have hl : ((M.drop k).take n).length = n := by simp; omega
  have h1 := le_hi hb
  rw [hl] at h1
  exact ⟨le_lo hb, h1⟩
theorem dR_is {M : List Int} (hB : isBytes M) (hM : M.length = 16) : isDsc (dR M) :=
  ⟨le_part hB hM 0 8 (by omega), le_part hB hM 8 4 (by omega), le_part hB hM 12 2 (by omega), le_part hB hM 14 2 (by omega)⟩

end Go.Proofs.Ytgdokgpplldddaa

/- Contracts of desc: Bytes, PackedBytes, Read, ReadPacked. Conditions: as each theorem names them. -/
namespace Go.Proofs.Ytgdokgpplldddaa
open Go.ChangeShapes Go.WideShapes Go.ChangeAt Go.RowKit
set_option linter.unusedVariables false
set_option maxRecDepth 100000

theorem wpList_store_new {P : Program} {ops : Array Oper} {rest : List Oper} {op : Oper} {a : Act} {w : World} {Q : Exit → Act → World → Prop} (hgd : op.guard = none) (ty : TypeId) (x y : Operand) (ho : op.op = .store ty x y)
    (w0 : World) (c c' : Array Value) (hw : w = w0.alloc (.cells c ty)) (hx : a.eval x = .pointer (some ⟨w0.heap.size, 0, none⟩)) (hy : a.eval y = .agg c')
    (hi : (P.info? ty).map (·.size) = some c'.size) (hs : c.size = c'.size) (h1 : c'.all (·.oneCell') = true)
    (h : wpList P ops Q rest (a.put op.dst undef) (w0.alloc (.cells c' ty))) : wpList P ops Q (op :: rest) a w := by
  subst hw
  refine wpList_plain hgd fun _ hK => ?_
  unfold Oper.wp execOp
  simp only [ho, hx, hy, Sem.run_bind, Sem.run_pure, run_storeAt_new w0 ty c c' hi hs h1, Result.andThen_ok]
  exact hK _ _ h
theorem one_bv (l : List Int) : (bv l).all (·.oneCell') = true := by
  rw [Array.all_eq_true_iff_forall_mem]
  intro v hv
  obtain ⟨x, _, rfl⟩ := List.mem_map.1 (by simpa [bv] using hv)
  rfl
theorem infoCode : (Try.prog.info? 111).map (·.size) = some 16 := by kernel_rfl
theorem row16 (w : World) (t : TypeId) (x : Value) (b : Nat) (hb : w.heap.size = b) : (w.alloc (.cells #[x, x, x, x, x, x, x, x, x, x, x, x, x, x, x, x] t)).heap[b]? = some (.cells (List.replicate 16 x).toArray t (0, 0)) := by
  subst hb
  exact heap_alloc_new w _
theorem rep16 : bv (List.replicate 16 0) = (List.replicate 16 (Value.int .u8 0)).toArray := by simp [bv]
theorem run_array (u : World) (a : Option Addr) (n c : Nat) (h : 16 ≤ n) : (Instr.arrayAt 111 (.slice a n c)).run Try.prog u = .ok (.pointer a) u := by
  have : ¬ n < 16 := by omega
  simp [Instr.arrayAt, run_underlying Try.underlying111, this]

theorem heap_alloc_at (w : World) (o : Obj) (b : Nat) (hb : w.heap.size = b) : (w.alloc o).heap[b]? = some o := by
  subst hb
  exact heap_alloc_new w o
theorem code_store (w : World) (b : Nat) (l : List Int) (hl : l.length = 16) (hb : w.heap.size = b) : (storeCells ⟨b, 0, none⟩ (l.map (Value.int .u8)) 0).run Try.prog (w.alloc (.cells #[.int .u8 0, .int .u8 0, .int .u8 0, .int .u8 0, .int .u8 0, .int .u8 0, .int .u8 0, .int .u8 0, .int .u8 0, .int .u8 0, .int .u8 0, .int .u8 0, .int .u8 0, .int .u8 0, .int .u8 0, .int .u8 0] 111)) = .ok () (w.alloc (.cells (bv l) 111)) := by
  subst hb
  exact run_storeCells_new (P := Try.prog) w 111 #[.int .u8 0, .int .u8 0, .int .u8 0, .int .u8 0, .int .u8 0, .int .u8 0, .int .u8 0, .int .u8 0, .int .u8 0, .int .u8 0, .int .u8 0, .int .u8 0, .int .u8 0, .int .u8 0, .int .u8 0, .int .u8 0] (bv l) (by rw [bv_size, hl]; exact infoCode) (by rw [bv_size, hl]; rfl) (one_bv l)
theorem pbytes_any (d : Dsc) (w : World) (hd : isDsc d) :
    Calls Try.prog 51 #[dV d] w fun e w' => e = .returned (.slice (some ⟨w.heap.size + 1, 0, none⟩) 16 16) ∧ Row w' (w.heap.size + 1) 111 (dB d) ∧ Below w.heap.size w w' := by
  have hs := fun (u : World) (b : Nat) (h : Row u b 111 (List.replicate 16 0)) => setPacked_any b _ _ d u h (by simp) hd
  have HS := hid_mk hs
  clear hs
  go_enter Try.func51, Try.ntmps51
  go_wp2_with fail
  refine (HS.out _ (w.heap.size + 1) (by rw [Row, rep16]; exact row16 (w.alloc _) _ _ _ (sizeA _ _))).mono ?_
  rintro e w1 ⟨rfl, hr, hc⟩
  have HR := hid_mk hr
  have HB := hid_mk (hc.below (B := w.heap.size) (by rw [sizeA, sizeA]; omega) (fun k hk => by omega))
  clear hr hc
  go_wp2_with fail
  go_ret
  refine ⟨rfl, HR.out, Below.trans ?_ HB.out⟩
  exact ((Below.refl _ _).alloc (Nat.le_refl _) _).alloc (by rw [sizeA]; omega) _

/-- what Read answers -/
def rdD (l : List Int) : Dsc := if l.length = 16 then dR l else ⟨0, 0, 0, 0⟩
def rdE (l : List Int) : Int := if l.length = 16 then 0 else 4
theorem rd_yes {l : List Int} (h : l.length = 16) : rdD l = dR l ∧ rdE l = 0 := by simp [rdD, rdE, h]
theorem rd_no {l : List Int} (h : l.length ≠ 16) : rdD l = ⟨0, 0, 0, 0⟩ ∧ rdE l = 4 := by simp [rdD, rdE, h]
theorem rowAt {w : World} {b : Nat} {t : TypeId} {M : List Int} (h : Row w b t M) (n : Nat) (hn : M.length = n) : BytesAt w (.slice (some ⟨b, 0, none⟩) n n) M := by
  subst hn
  exact Or.inr ⟨b, 0, M.length, rfl, lt_blk h, Nat.le_refl _, fun j hj => by rw [Nat.zero_add]; exact cellB h j hj⟩
theorem convR {w : World} {b o c n : Nat} {l : List Int} (hn : l.length = n) (h4 : ∀ j, j < l.length → w.cell? ⟨b, o + j, none⟩ = some (.int .u8 (l.getD j 0))) : (convert 49 9 (.slice (some ⟨b, o, none⟩) n c)).run Try.prog w = .ok (.string (strOfNums l)) w :=
  run_convert_bytes_arg w 49 5 Try.underlying49 Try.underlying5 b o n c l hn (fun i hi => by rw [h4 i (by omega)]) 9 Try.underlying9
theorem convRow {w : World} {b c n : Nat} {t : TypeId} {M : List Int} (h : Row w b t M) (hn : M.length = n) : (convert 49 9 (.slice (some ⟨b, 0, none⟩) n c)).run Try.prog w = .ok (.string (strOfNums M)) w :=
  convR hn (fun j hj => by rw [Nat.zero_add]; exact cellB h j hj)
end Go.Proofs.Ytgdokgpplldddaa
