/- Contracts of desc: Bytes, PackedBytes, Read, ReadPacked. Conditions: as each theorem names them. -/
import Derived.Test.YtfjccpalkdmniaaDsc3
import Derived.Deep.WholeRow
namespace Go.Proofs.Ytfjccpalkdmniaa
open Go.ChangeShapes Go.WideShapes Go.ChangeAt Go.RowKit
set_option linter.unusedVariables false
set_option maxRecDepth 100000

theorem wpList_store_new {P : Program} {ops : Array Oper} {rest : List Oper} {op : Oper} {a : Act} {w : World} {Q : Exit → Act → World → Prop} (hgd : op.guard = none) (ty : TypeId) (x y : Operand) (ho : op.op = .store ty x y)
    (w0 : World) (c c' : Array Value) (hw : w = w0.alloc (.cells c ty)) (hx : a.eval x = .pointer (some ⟨w0.heap.size, 0, none⟩)) (hy : a.eval y = .agg c')
    (hi : (P.info? ty).map (·.size) = some c'.size) (hs : c.size = c'.size) (h1 : c'.all (·.oneCell') = true)
    (h : wpList P ops Q rest (a.put op.dst undef) (w0.alloc (.cells c' ty))) : wpList P ops Q (op :: rest) a w := by
  subst hw
  refine wpList_plain hgd fun _ hK => ?_
  unfold Oper.wp execOp
  simp only [ho, hx, hy, Sem.run_bind, Sem.run_pure, run_storeAt_new w0 ty c c' hi hs h1, Result.andThen_ok]
  exact hK _ _ h
theorem one_bv (l : List Int) : (bv l).all (·.oneCell') = true := by
  rw [Array.all_eq_true_iff_forall_mem]
  intro v hv
  obtain ⟨x, _, rfl⟩ := List.mem_map.1 (by simpa [bv] using hv)
  rfl
theorem infoCode : (Try.prog.info? 102).map (·.size) = some 16 := by kernel_rfl
theorem row16 (w : World) (t : TypeId) (x : Value) (b : Nat) (hb : w.heap.size = b) : (w.alloc (.cells #[x, x, x, x, x, x, x, x, x, x, x, x, x, x, x, x] t)).heap[b]? = some (.cells (List.replicate 16 x).toArray t (0, 0)) := by
  subst hb
  exact heap_alloc_new w _
theorem rep16 : bv (List.replicate 16 0) = (List.replicate 16 (Value.int .u8 0)).toArray := by simp [bv]
theorem run_array (u : World) (a : Option Addr) (n c : Nat) (h : 16 ≤ n) : (Instr.arrayAt 102 (.slice a n c)).run Try.prog u = .ok (.pointer a) u := by
  have : ¬ n < 16 := by omega
  simp [Instr.arrayAt, run_underlying Try.underlying102, this]

theorem bytes_any (d : Dsc) (w : World) (hd : isDsc d) :
    Calls Try.prog 46 #[dV d] w fun e w' => e = .returned (.slice (some ⟨w.heap.size + 1, 0, none⟩) 16 16) ∧ Row w' (w.heap.size + 1) 102 (dB d) ∧ Below w.heap.size w w' := by
  have hs := fun (u : World) (b : Nat) (h : Row u b 102 (List.replicate 16 0)) => setDesc_any b _ _ d u h (by simp) hd
  have HS := hid_mk hs
  clear hs
  go_enter Try.func46, Try.ntmps46
  go_wp2_with fail
  refine (HS.out _ (w.heap.size + 1) (by rw [Row, rep16]; exact row16 (w.alloc _) _ _ _ (sizeA _ _))).mono ?_
  rintro e w1 ⟨rfl, hr, hc⟩
  have HR := hid_mk hr
  have HB := hid_mk (hc.below (B := w.heap.size) (by rw [sizeA, sizeA]; omega) (fun k hk => by omega))
  clear hr hc
  go_wp2_with fail
  go_ret
  refine ⟨rfl, HR.out, Below.trans ?_ HB.out⟩
  exact ((Below.refl _ _).alloc (Nat.le_refl _) _).alloc (by rw [sizeA]; omega) _

theorem heap_alloc_at (w : World) (o : Obj) (b : Nat) (hb : w.heap.size = b) : (w.alloc o).heap[b]? = some o := by
  subst hb
  exact heap_alloc_new w o
theorem code_store (w : World) (b : Nat) (l : List Int) (hl : l.length = 16) (hb : w.heap.size = b) : (storeCells ⟨b, 0, none⟩ (l.map (Value.int .u8)) 0).run Try.prog (w.alloc (.cells #[.int .u8 0, .int .u8 0, .int .u8 0, .int .u8 0, .int .u8 0, .int .u8 0, .int .u8 0, .int .u8 0, .int .u8 0, .int .u8 0, .int .u8 0, .int .u8 0, .int .u8 0, .int .u8 0, .int .u8 0, .int .u8 0] 102)) = .ok () (w.alloc (.cells (bv l) 102)) := by
  subst hb
  exact run_storeCells_new (P := Try.prog) w 102 #[.int .u8 0, .int .u8 0, .int .u8 0, .int .u8 0, .int .u8 0, .int .u8 0, .int .u8 0, .int .u8 0, .int .u8 0, .int .u8 0, .int .u8 0, .int .u8 0, .int .u8 0, .int .u8 0, .int .u8 0, .int .u8 0] (bv l) (by rw [bv_size, hl]; exact infoCode) (by rw [bv_size, hl]; rfl) (one_bv l)
theorem read_at (b o c : Nat) (l : List Int) (w : World) (hB : isBytes l) (hl : l.length = 16) (hb : b < w.heap.size) (hc : ∀ j, j < 16 → w.cell? ⟨b, o + j, none⟩ = some (.int .u8 (l.getD j 0))) :
    Calls Try.prog 32 #[.slice (some ⟨b, o, none⟩) 16 c] w fun e w' => e = .returned (.tuple #[dV (dR l), .int .i64 0]) ∧ Below w.heap.size w w' := by
  have ha := fun u => run_array u (some ⟨b, o, none⟩) 16 c (Nat.le_refl _)
  have hr := fun (u : World) (hu : Below w.heap.size w u) => show u.rangeAt b o (l.map (Value.int .u8)) from fun j v hv => by
    have hj : j < l.length := by
      have := (List.getElem?_eq_some_iff.1 hv).1
      simpa using this
    rw [hu.cell (p := ⟨b, o + j, none⟩) hb, hc j (by omega)]
    simp [hj] at hv
    subst hv
    simp [List.getD, hj]
  have HR := hid_mk hr
  have hD := fun (u : World) (h : Row u (w.heap.size + 1) 102 l) => desc_any _ _ _ u h hl hB
  have HD := hid_mk hD
  have hst := code_store (w.alloc (.cells #[.int .u64 0, .int .u32 0, .int .u16 0, .int .u16 0] 56)) (w.heap.size + 1) l hl (sizeA _ _)
  clear hr hD hc
  go_enter Try.func32, Try.ntmps32
  go_wp2_with (first
    | (refine wpList_load_mid rfl 102 (.tmp 10) rfl b o rfl (l.map (Value.int .u8)) _ (HR.out _ ((Below.refl _ _).alloc (Nat.le_refl _) _)) Try.underlying102 rfl (by rw [List.length_map, hl]; exact infoCode) ?_))
  refine (HD.out _ (heap_alloc_at _ _ _ (sizeA _ _))).mono ?_
  rintro e w1 ⟨rfl, hb1⟩
  have HB := hid_mk hb1
  have c0 := hb1.cell (p := ⟨w.heap.size, 0, none⟩) (by simp only [sizeA]; omega)
  have c1 := hb1.cell (p := ⟨w.heap.size, 1, none⟩) (by simp only [sizeA]; omega)
  have c2 := hb1.cell (p := ⟨w.heap.size, 2, none⟩) (by simp only [sizeA]; omega)
  have c3 := hb1.cell (p := ⟨w.heap.size, 3, none⟩) (by simp only [sizeA]; omega)
  have f0 := hb1.frozen (p := ⟨w.heap.size, 0, none⟩) (by simp only [sizeA]; omega)
  have f1 := hb1.frozen (p := ⟨w.heap.size, 1, none⟩) (by simp only [sizeA]; omega)
  have f2 := hb1.frozen (p := ⟨w.heap.size, 2, none⟩) (by simp only [sizeA]; omega)
  have f3 := hb1.frozen (p := ⟨w.heap.size, 3, none⟩) (by simp only [sizeA]; omega)
  clear hb1 hst
  simp [go_sem] at c0 c1 c2 c3 f0 f1 f2 f3
  go_wp2_with fail
  exact bodyPost_ret (v := .tuple #[dV (dR l), .int .i64 0]) (by simp [results, Try.results32, go_sem, c0, c1, c2, c3]) rfl (by
    have hb2 : Below w.heap.size w w1 := (((Below.refl _ _).alloc (Nat.le_refl _) _).alloc (by rw [sizeA]; omega) _).trans (HB.out.mono (by rw [sizeA, sizeA]; omega))
    refine ⟨rfl, ?_⟩
    exact (((hb2.setCell (by simp) _).setCell (by simp) _).setCell (by simp) _).setCell (by simp) _)
theorem read_no (v : Value) (l : List Int) (w : World) (hv : BytesAt w v l) (hl : l.length ≠ 16) (hm : l.length ≤ 281474976710656) :
    Calls Try.prog 32 #[v] w fun e w' => e = .returned (.tuple #[dV ⟨0, 0, 0, 0⟩, .int .i64 4]) ∧ Below w.heap.size w w' := by
  have hlen : ∃ a c, v = .slice a l.length c := by
    rcases hv with ⟨⟨a, c, rfl, _⟩, rfl⟩ | ⟨b, o, c, rfl, _⟩
    · exact ⟨a, c, rfl⟩
    · exact ⟨_, c, rfl⟩
  obtain ⟨a, c, rfl⟩ := hlen
  have hz : ((l.length : Int) != 16) = true := by simp; omega
  clear hv hl
  go_enter Try.func32, Try.ntmps32
  go_wp2_with fail
  exact bodyPost_ret (v := .tuple #[dV ⟨0, 0, 0, 0⟩, .int .i64 4]) (by simp [results, Try.results32, go_sem]) rfl ⟨rfl, (by repeat (first | exact Below.refl _ _ | (refine Below.alloc ?_ (by first | (simp; done) | (simp; omega)) _) | (refine Below.setCell ?_ (by first | (simp; done) | (simp; omega)) _)))⟩
theorem pbytes_any (d : Dsc) (w : World) (hd : isDsc d) :
    Calls Try.prog 48 #[dV d] w fun e w' => e = .returned (.slice (some ⟨w.heap.size + 1, 0, none⟩) 16 16) ∧ Row w' (w.heap.size + 1) 102 (dB d) ∧ Below w.heap.size w w' := by
  have hs := fun (u : World) (b : Nat) (h : Row u b 102 (List.replicate 16 0)) => setPacked_any b _ _ d u h (by simp) hd
  have HS := hid_mk hs
  clear hs
  go_enter Try.func48, Try.ntmps48
  go_wp2_with fail
  refine (HS.out _ (w.heap.size + 1) (by rw [Row, rep16]; exact row16 (w.alloc _) _ _ _ (sizeA _ _))).mono ?_
  rintro e w1 ⟨rfl, hr, hc⟩
  have HR := hid_mk hr
  have HB := hid_mk (hc.below (B := w.heap.size) (by rw [sizeA, sizeA]; omega) (fun k hk => by omega))
  clear hr hc
  go_wp2_with fail
  go_ret
  refine ⟨rfl, HR.out, Below.trans ?_ HB.out⟩
  exact ((Below.refl _ _).alloc (Nat.le_refl _) _).alloc (by rw [sizeA]; omega) _

theorem pread_at (b o c : Nat) (l : List Int) (w : World) (hB : isBytes l) (hl : l.length = 16) (hb : b < w.heap.size) (hc : ∀ j, j < 16 → w.cell? ⟨b, o + j, none⟩ = some (.int .u8 (l.getD j 0))) :
    Calls Try.prog 33 #[.slice (some ⟨b, o, none⟩) 16 c] w fun e w' => e = .returned (.tuple #[dV (dR l), .int .i64 0]) ∧ Below w.heap.size w w' := by
  have ha := fun u => run_array u (some ⟨b, o, none⟩) 16 c (Nat.le_refl _)
  have hr := fun (u : World) (hu : Below w.heap.size w u) => show u.rangeAt b o (l.map (Value.int .u8)) from fun j v hv => by
    have hj : j < l.length := by
      have := (List.getElem?_eq_some_iff.1 hv).1
      simpa using this
    rw [hu.cell (p := ⟨b, o + j, none⟩) hb, hc j (by omega)]
    simp [hj] at hv
    subst hv
    simp [List.getD, hj]
  have HR := hid_mk hr
  have hD := fun (u : World) (h : Row u (w.heap.size + 1) 102 l) => packed_any _ _ _ u h hl hB
  have HD := hid_mk hD
  have hst := code_store (w.alloc (.cells #[.int .u64 0, .int .u32 0, .int .u16 0, .int .u16 0] 60)) (w.heap.size + 1) l hl (sizeA _ _)
  clear hr hD hc
  go_enter Try.func33, Try.ntmps33
  go_wp2_with (first
    | (refine wpList_load_mid rfl 102 (.tmp 10) rfl b o rfl (l.map (Value.int .u8)) _ (HR.out _ ((Below.refl _ _).alloc (Nat.le_refl _) _)) Try.underlying102 rfl (by rw [List.length_map, hl]; exact infoCode) ?_))
  refine (HD.out _ (heap_alloc_at _ _ _ (sizeA _ _))).mono ?_
  rintro e w1 ⟨rfl, hb1⟩
  have HB := hid_mk hb1
  have c0 := hb1.cell (p := ⟨w.heap.size, 0, none⟩) (by simp only [sizeA]; omega)
  have c1 := hb1.cell (p := ⟨w.heap.size, 1, none⟩) (by simp only [sizeA]; omega)
  have c2 := hb1.cell (p := ⟨w.heap.size, 2, none⟩) (by simp only [sizeA]; omega)
  have c3 := hb1.cell (p := ⟨w.heap.size, 3, none⟩) (by simp only [sizeA]; omega)
  have f0 := hb1.frozen (p := ⟨w.heap.size, 0, none⟩) (by simp only [sizeA]; omega)
  have f1 := hb1.frozen (p := ⟨w.heap.size, 1, none⟩) (by simp only [sizeA]; omega)
  have f2 := hb1.frozen (p := ⟨w.heap.size, 2, none⟩) (by simp only [sizeA]; omega)
  have f3 := hb1.frozen (p := ⟨w.heap.size, 3, none⟩) (by simp only [sizeA]; omega)
  clear hb1 hst
  simp [go_sem] at c0 c1 c2 c3 f0 f1 f2 f3
  go_wp2_with fail
  exact bodyPost_ret (v := .tuple #[dV (dR l), .int .i64 0]) (by simp [results, Try.results33, go_sem, c0, c1, c2, c3]) rfl (by
    have hb2 : Below w.heap.size w w1 := (((Below.refl _ _).alloc (Nat.le_refl _) _).alloc (by rw [sizeA]; omega) _).trans (HB.out.mono (by rw [sizeA, sizeA]; omega))
    refine ⟨rfl, ?_⟩
    exact (((hb2.setCell (by simp) _).setCell (by simp) _).setCell (by simp) _).setCell (by simp) _)
theorem pread_no (v : Value) (l : List Int) (w : World) (hv : BytesAt w v l) (hl : l.length ≠ 16) (hm : l.length ≤ 281474976710656) :
    Calls Try.prog 33 #[v] w fun e w' => e = .returned (.tuple #[dV ⟨0, 0, 0, 0⟩, .int .i64 4]) ∧ Below w.heap.size w w' := by
  have hlen : ∃ a c, v = .slice a l.length c := by
    rcases hv with ⟨⟨a, c, rfl, _⟩, rfl⟩ | ⟨b, o, c, rfl, _⟩
    · exact ⟨a, c, rfl⟩
    · exact ⟨_, c, rfl⟩
  obtain ⟨a, c, rfl⟩ := hlen
  have hz : ((l.length : Int) != 16) = true := by simp; omega
  clear hv hl
  go_enter Try.func33, Try.ntmps33
  go_wp2_with fail
  exact bodyPost_ret (v := .tuple #[dV ⟨0, 0, 0, 0⟩, .int .i64 4]) (by simp [results, Try.results33, go_sem]) rfl ⟨rfl, (by repeat (first | exact Below.refl _ _ | (refine Below.alloc ?_ (by first | (simp; done) | (simp; omega)) _) | (refine Below.setCell ?_ (by first | (simp; done) | (simp; omega)) _)))⟩

/-- what Read answers -/
def rdD (l : List Int) : Dsc := if l.length = 16 then dR l else ⟨0, 0, 0, 0⟩
def rdE (l : List Int) : Int := if l.length = 16 then 0 else 4
theorem rd_yes {l : List Int} (h : l.length = 16) : rdD l = dR l ∧ rdE l = 0 := by simp [rdD, rdE, h]
theorem rd_no {l : List Int} (h : l.length ≠ 16) : rdD l = ⟨0, 0, 0, 0⟩ ∧ rdE l = 4 := by simp [rdD, rdE, h]
theorem dread_any (v : Value) (l : List Int) (w : World) (hv : BytesAt w v l) (hB : isBytes l) (hm : l.length ≤ 281474976710656) :
    Calls Try.prog 32 #[v] w fun e w' => e = .returned (.tuple #[dV (rdD l), .int .i64 (rdE l)]) ∧ Below w.heap.size w w' := by
  by_cases h : l.length = 16
  · rw [(rd_yes h).1, (rd_yes h).2]
    rcases hv with ⟨_, rfl⟩ | ⟨b, o, c, rfl, h1, h2, h3⟩
    · simp at h
    · rw [h] at h3 ⊢
      exact read_at b o c l w hB h h1 h3
  · rw [(rd_no h).1, (rd_no h).2]
    exact read_no v l w hv h hm
theorem pread_any (v : Value) (l : List Int) (w : World) (hv : BytesAt w v l) (hB : isBytes l) (hm : l.length ≤ 281474976710656) :
    Calls Try.prog 33 #[v] w fun e w' => e = .returned (.tuple #[dV (rdD l), .int .i64 (rdE l)]) ∧ Below w.heap.size w w' := by
  by_cases h : l.length = 16
  · rw [(rd_yes h).1, (rd_yes h).2]
    rcases hv with ⟨_, rfl⟩ | ⟨b, o, c, rfl, h1, h2, h3⟩
    · simp at h
    · rw [h] at h3 ⊢
      exact pread_at b o c l w hB h h1 h3
  · rw [(rd_no h).1, (rd_no h).2]
    exact pread_no v l w hv h hm

theorem rowAt {w : World} {b : Nat} {t : TypeId} {M : List Int} (h : Row w b t M) (n : Nat) (hn : M.length = n) : BytesAt w (.slice (some ⟨b, 0, none⟩) n n) M := by
  subst hn
  exact Or.inr ⟨b, 0, M.length, rfl, lt_blk h, Nat.le_refl _, fun j hj => by rw [Nat.zero_add]; exact cellB h j hj⟩
theorem convR {w : World} {b o c n : Nat} {l : List Int} (hn : l.length = n) (h4 : ∀ j, j < l.length → w.cell? ⟨b, o + j, none⟩ = some (.int .u8 (l.getD j 0))) : (convert 37 9 (.slice (some ⟨b, o, none⟩) n c)).run Try.prog w = .ok (.string (strOfNums l)) w :=
  run_convert_bytes_arg w 37 5 Try.underlying37 Try.underlying5 b o n c l hn (fun i hi => by rw [h4 i (by omega)]) 9 Try.underlying9
theorem convRow {w : World} {b c n : Nat} {t : TypeId} {M : List Int} (h : Row w b t M) (hn : M.length = n) : (convert 37 9 (.slice (some ⟨b, 0, none⟩) n c)).run Try.prog w = .ok (.string (strOfNums M)) w :=
  convR hn (fun j hj => by rw [Nat.zero_add]; exact cellB h j hj)
end Go.Proofs.Ytfjccpalkdmniaa
