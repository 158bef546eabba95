/- Dsc4 Dsc7 Kit: joined texts. Conditions: as each theorem names them. -/
import Derived.Test.YtfhhgcgbgmilcaaGreatKp07
import Derived.Test.YtfhhgcgbgmilcaaGreatKp01
import Derived.Deep.WholeRow
import Derived.Test.YtfhhgcgbgmilcaaGreatRows
import Derived.WalkKit
import Derived.ProofKit
/- Contracts of desc: Bytes, PackedBytes, Read, ReadPacked. Conditions: as each theorem names them. -/
namespace Go.Proofs.YtfhhgcgbgmilcaaGreat
open Go.ChangeShapes Go.WideShapes Go.ChangeAt Go.RowKit
set_option linter.unusedVariables false
set_option maxRecDepth 100000

theorem wpList_store_new {P : Program} {ops : Array Oper} {rest : List Oper} {op : Oper} {a : Act} {w : World} {Q : Exit → Act → World → Prop} (hgd : op.guard = none) (ty : TypeId) (x y : Operand) (ho : op.op = .store ty x y)
    (w0 : World) (c c' : Array Value) (hw : w = w0.alloc (.cells c ty)) (hx : a.eval x = .pointer (some ⟨w0.heap.size, 0, none⟩)) (hy : a.eval y = .agg c')
    (hi : (P.info? ty).map (·.size) = some c'.size) (hs : c.size = c'.size) (h1 : c'.all (·.oneCell') = true)
    (h : wpList P ops Q rest (a.put op.dst undef) (w0.alloc (.cells c' ty))) : wpList P ops Q (op :: rest) a w := by
  subst hw
  refine wpList_plain hgd fun _ hK => ?_
  unfold Oper.wp execOp
  simp only [ho, hx, hy, Sem.run_bind, Sem.run_pure, run_storeAt_new w0 ty c c' hi hs h1, Result.andThen_ok]
  exact hK _ _ h
theorem one_bv (l : List Int) : (bv l).all (·.oneCell') = true := by
  rw [Array.all_eq_true_iff_forall_mem]
  intro v hv
  obtain ⟨x, _, rfl⟩ := List.mem_map.1 (by simpa [bv] using hv)
  rfl
theorem infoCode : (Tryz.prog.info? 166).map (·.size) = some 16 := by kernel_rfl
theorem row16 (w : World) (t : TypeId) (x : Value) (b : Nat) (hb : w.heap.size = b) : (w.alloc (.cells #[x, x, x, x, x, x, x, x, x, x, x, x, x, x, x, x] t)).heap[b]? = some (.cells (List.replicate 16 x).toArray t (0, 0)) := by
  subst hb
  exact heap_alloc_new w _
theorem rep16 : bv (List.replicate 16 0) = (List.replicate 16 (Value.int .u8 0)).toArray := by simp [bv]
theorem run_array (u : World) (a : Option Addr) (n c : Nat) (h : 16 ≤ n) : (Instr.arrayAt 166 (.slice a n c)).run Tryz.prog u = .ok (.pointer a) u := by
  have : ¬ n < 16 := by omega
  simp [Instr.arrayAt, run_underlying Tryz.underlying166, this]

theorem heap_alloc_at (w : World) (o : Obj) (b : Nat) (hb : w.heap.size = b) : (w.alloc o).heap[b]? = some o := by
  subst hb
  exact heap_alloc_new w o
theorem code_store (w : World) (b : Nat) (l : List Int) (hl : l.length = 16) (hb : w.heap.size = b) : (storeCells ⟨b, 0, none⟩ (l.map (Value.int .u8)) 0).run Tryz.prog (w.alloc (.cells #[.int .u8 0, .int .u8 0, .int .u8 0, .int .u8 0, .int .u8 0, .int .u8 0, .int .u8 0, .int .u8 0, .int .u8 0, .int .u8 0, .int .u8 0, .int .u8 0, .int .u8 0, .int .u8 0, .int .u8 0, .int .u8 0] 166)) = .ok () (w.alloc (.cells (bv l) 166)) := by
  subst hb
  exact run_storeCells_new (P := Tryz.prog) w 166 #[.int .u8 0, .int .u8 0, .int .u8 0, .int .u8 0, .int .u8 0, .int .u8 0, .int .u8 0, .int .u8 0, .int .u8 0, .int .u8 0, .int .u8 0, .int .u8 0, .int .u8 0, .int .u8 0, .int .u8 0, .int .u8 0] (bv l) (by rw [bv_size, hl]; exact infoCode) (by rw [bv_size, hl]; rfl) (one_bv l)
theorem read_at (b o c : Nat) (l : List Int) (w : World) (hB : isBytes l) (hl : l.length = 16) (hb : b < w.heap.size) (hc : ∀ j, j < 16 → w.cell? ⟨b, o + j, none⟩ = some (.int .u8 (l.getD j 0))) :
    Calls Tryz.prog 108 #[.slice (some ⟨b, o, none⟩) 16 c] w fun e w' => e = .returned (.tuple #[dV (dR l), .int .i64 0]) ∧ Below w.heap.size w w' := by
  have ha := fun u => run_array u (some ⟨b, o, none⟩) 16 c (Nat.le_refl _)
  have hr := fun (u : World) (hu : Below w.heap.size w u) => show u.rangeAt b o (l.map (Value.int .u8)) from fun j v hv => by
    have hj : j < l.length := by
      have := (List.getElem?_eq_some_iff.1 hv).1
      simpa using this
    rw [hu.cell (p := ⟨b, o + j, none⟩) hb, hc j (by omega)]
    simp [hj] at hv
    subst hv
    simp [List.getD, hj]
  have HR := hid_mk hr
  have hD := fun (u : World) (h : Row u (w.heap.size + 1) 166 l) => desc_any _ _ _ u h hl hB
  have HD := hid_mk hD
  have hst := code_store (w.alloc (.cells #[.int .u64 0, .int .u32 0, .int .u16 0, .int .u16 0] 44)) (w.heap.size + 1) l hl (sizeA _ _)
  clear hr hD hc
  go_enter Tryz.func108, Tryz.ntmps108
  go_wp2_with (first
    | (refine wpList_load_mid rfl 166 (.tmp 10) rfl b o rfl (l.map (Value.int .u8)) _ (HR.out _ ((Below.refl _ _).alloc (Nat.le_refl _) _)) Tryz.underlying166 rfl (by rw [List.length_map, hl]; exact infoCode) ?_))
  refine (HD.out _ (heap_alloc_at _ _ _ (sizeA _ _))).mono ?_
  rintro e w1 ⟨rfl, hb1⟩
  have HB := hid_mk hb1
  have c0 := hb1.cell (p := ⟨w.heap.size, 0, none⟩) (by simp only [sizeA]; omega)
  have c1 := hb1.cell (p := ⟨w.heap.size, 1, none⟩) (by simp only [sizeA]; omega)
  have c2 := hb1.cell (p := ⟨w.heap.size, 2, none⟩) (by simp only [sizeA]; omega)
  have c3 := hb1.cell (p := ⟨w.heap.size, 3, none⟩) (by simp only [sizeA]; omega)
  have f0 := hb1.frozen (p := ⟨w.heap.size, 0, none⟩) (by simp only [sizeA]; omega)
  have f1 := hb1.frozen (p := ⟨w.heap.size, 1, none⟩) (by simp only [sizeA]; omega)
  have f2 := hb1.frozen (p := ⟨w.heap.size, 2, none⟩) (by simp only [sizeA]; omega)
  have f3 := hb1.frozen (p := ⟨w.heap.size, 3, none⟩) (by simp only [sizeA]; omega)
  clear hb1 hst
  simp [go_sem] at c0 c1 c2 c3 f0 f1 f2 f3
  go_wp2_with fail
  exact bodyPost_ret (v := .tuple #[dV (dR l), .int .i64 0]) (by simp [results, Tryz.results108, go_sem, c0, c1, c2, c3]) rfl (by
    have hb2 : Below w.heap.size w w1 := (((Below.refl _ _).alloc (Nat.le_refl _) _).alloc (by rw [sizeA]; omega) _).trans (HB.out.mono (by rw [sizeA, sizeA]; omega))
    refine ⟨rfl, ?_⟩
    exact (((hb2.setCell (by simp) _).setCell (by simp) _).setCell (by simp) _).setCell (by simp) _)
theorem read_no (v : Value) (l : List Int) (w : World) (hv : BytesAt w v l) (hl : l.length ≠ 16) (hm : l.length ≤ 281474976710656) :
    Calls Tryz.prog 108 #[v] w fun e w' => e = .returned (.tuple #[dV ⟨0, 0, 0, 0⟩, .int .i64 4]) ∧ Below w.heap.size w w' := by
  have hlen : ∃ a c, v = .slice a l.length c := by
    rcases hv with ⟨⟨a, c, rfl, _⟩, rfl⟩ | ⟨b, o, c, rfl, _⟩
    · exact ⟨a, c, rfl⟩
    · exact ⟨_, c, rfl⟩
  obtain ⟨a, c, rfl⟩ := hlen
  have hz : ((l.length : Int) != 16) = true := by simp; omega
  clear hv hl
  go_enter Tryz.func108, Tryz.ntmps108
  go_wp2_with fail
  exact bodyPost_ret (v := .tuple #[dV ⟨0, 0, 0, 0⟩, .int .i64 4]) (by simp [results, Tryz.results108, go_sem]) rfl ⟨rfl, (by repeat (first | exact Below.refl _ _ | (refine Below.alloc ?_ (by first | (simp; done) | (simp; omega)) _) | (refine Below.setCell ?_ (by first | (simp; done) | (simp; omega)) _)))⟩
theorem pbytes_any (d : Dsc) (w : World) (hd : isDsc d) :
    Calls Tryz.prog 47 #[dV d] w fun e w' => e = .returned (.slice (some ⟨w.heap.size + 1, 0, none⟩) 16 16) ∧ Row w' (w.heap.size + 1) 166 (dB d) ∧ Below w.heap.size w w' := by
  have hs := fun (u : World) (b : Nat) (h : Row u b 166 (List.replicate 16 0)) => setPacked_any b _ _ d u h (by simp) hd
  have HS := hid_mk hs
  clear hs
  go_enter Tryz.func47, Tryz.ntmps47
  go_wp2_with fail
  refine (HS.out _ (w.heap.size + 1) (by rw [Row, rep16]; exact row16 (w.alloc _) _ _ _ (sizeA _ _))).mono ?_
  rintro e w1 ⟨rfl, hr, hc⟩
  have HR := hid_mk hr
  have HB := hid_mk (hc.below (B := w.heap.size) (by rw [sizeA, sizeA]; omega) (fun k hk => by omega))
  clear hr hc
  go_wp2_with fail
  go_ret
  refine ⟨rfl, HR.out, Below.trans ?_ HB.out⟩
  exact ((Below.refl _ _).alloc (Nat.le_refl _) _).alloc (by rw [sizeA]; omega) _

theorem pread_at (b o c : Nat) (l : List Int) (w : World) (hB : isBytes l) (hl : l.length = 16) (hb : b < w.heap.size) (hc : ∀ j, j < 16 → w.cell? ⟨b, o + j, none⟩ = some (.int .u8 (l.getD j 0))) :
    Calls Tryz.prog 106 #[.slice (some ⟨b, o, none⟩) 16 c] w fun e w' => e = .returned (.tuple #[dV (dR l), .int .i64 0]) ∧ Below w.heap.size w w' := by
  have ha := fun u => run_array u (some ⟨b, o, none⟩) 16 c (Nat.le_refl _)
  have hr := fun (u : World) (hu : Below w.heap.size w u) => show u.rangeAt b o (l.map (Value.int .u8)) from fun j v hv => by
    have hj : j < l.length := by
      have := (List.getElem?_eq_some_iff.1 hv).1
      simpa using this
    rw [hu.cell (p := ⟨b, o + j, none⟩) hb, hc j (by omega)]
    simp [hj] at hv
    subst hv
    simp [List.getD, hj]
  have HR := hid_mk hr
  have hD := fun (u : World) (h : Row u (w.heap.size + 1) 166 l) => packed_any _ _ _ u h hl hB
  have HD := hid_mk hD
  have hst := code_store (w.alloc (.cells #[.int .u64 0, .int .u32 0, .int .u16 0, .int .u16 0] 63)) (w.heap.size + 1) l hl (sizeA _ _)
  clear hr hD hc
  go_enter Tryz.func106, Tryz.ntmps106
  go_wp2_with (first
    | (refine wpList_load_mid rfl 166 (.tmp 10) rfl b o rfl (l.map (Value.int .u8)) _ (HR.out _ ((Below.refl _ _).alloc (Nat.le_refl _) _)) Tryz.underlying166 rfl (by rw [List.length_map, hl]; exact infoCode) ?_))
  refine (HD.out _ (heap_alloc_at _ _ _ (sizeA _ _))).mono ?_
  rintro e w1 ⟨rfl, hb1⟩
  have HB := hid_mk hb1
  have c0 := hb1.cell (p := ⟨w.heap.size, 0, none⟩) (by simp only [sizeA]; omega)
  have c1 := hb1.cell (p := ⟨w.heap.size, 1, none⟩) (by simp only [sizeA]; omega)
  have c2 := hb1.cell (p := ⟨w.heap.size, 2, none⟩) (by simp only [sizeA]; omega)
  have c3 := hb1.cell (p := ⟨w.heap.size, 3, none⟩) (by simp only [sizeA]; omega)
  have f0 := hb1.frozen (p := ⟨w.heap.size, 0, none⟩) (by simp only [sizeA]; omega)
  have f1 := hb1.frozen (p := ⟨w.heap.size, 1, none⟩) (by simp only [sizeA]; omega)
  have f2 := hb1.frozen (p := ⟨w.heap.size, 2, none⟩) (by simp only [sizeA]; omega)
  have f3 := hb1.frozen (p := ⟨w.heap.size, 3, none⟩) (by simp only [sizeA]; omega)
  clear hb1 hst
  simp [go_sem] at c0 c1 c2 c3 f0 f1 f2 f3
  go_wp2_with fail
  exact bodyPost_ret (v := .tuple #[dV (dR l), .int .i64 0]) (by simp [results, Tryz.results106, go_sem, c0, c1, c2, c3]) rfl (by
    have hb2 : Below w.heap.size w w1 := (((Below.refl _ _).alloc (Nat.le_refl _) _).alloc (by rw [sizeA]; omega) _).trans (HB.out.mono (by rw [sizeA, sizeA]; omega))
    refine ⟨rfl, ?_⟩
    exact (((hb2.setCell (by simp) _).setCell (by simp) _).setCell (by simp) _).setCell (by simp) _)
theorem pread_no (v : Value) (l : List Int) (w : World) (hv : BytesAt w v l) (hl : l.length ≠ 16) (hm : l.length ≤ 281474976710656) :
    Calls Tryz.prog 106 #[v] w fun e w' => e = .returned (.tuple #[dV ⟨0, 0, 0, 0⟩, .int .i64 4]) ∧ Below w.heap.size w w' := by
  have hlen : ∃ a c, v = .slice a l.length c := by
    rcases hv with ⟨⟨a, c, rfl, _⟩, rfl⟩ | ⟨b, o, c, rfl, _⟩
    · exact ⟨a, c, rfl⟩
    · exact ⟨_, c, rfl⟩
  obtain ⟨a, c, rfl⟩ := hlen
  have hz : ((l.length : Int) != 16) = true := by simp; omega
  clear hv hl
  go_enter Tryz.func106, Tryz.ntmps106
  go_wp2_with fail
  exact bodyPost_ret (v := .tuple #[dV ⟨0, 0, 0, 0⟩, .int .i64 4]) (by simp [results, Tryz.results106, go_sem]) rfl ⟨rfl, (by repeat (first | exact Below.refl _ _ | (refine Below.alloc ?_ (by first | (simp; done) | (simp; omega)) _) | (refine Below.setCell ?_ (by first | (simp; done) | (simp; omega)) _)))⟩

/-- what Read answers -/
def rdD (l : List Int) : Dsc := if l.length = 16 then dR l else ⟨0, 0, 0, 0⟩
def rdE (l : List Int) : Int := if l.length = 16 then 0 else 4
theorem rd_yes {l : List Int} (h : l.length = 16) : rdD l = dR l ∧ rdE l = 0 := by simp [rdD, rdE, h]
theorem rd_no {l : List Int} (h : l.length ≠ 16) : rdD l = ⟨0, 0, 0, 0⟩ ∧ rdE l = 4 := by simp [rdD, rdE, h]
theorem dread_any (v : Value) (l : List Int) (w : World) (hv : BytesAt w v l) (hB : isBytes l) (hm : l.length ≤ 281474976710656) :
    Calls Tryz.prog 108 #[v] w fun e w' => e = .returned (.tuple #[dV (rdD l), .int .i64 (rdE l)]) ∧ Below w.heap.size w w' := by
  by_cases h : l.length = 16
  · rw [(rd_yes h).1, (rd_yes h).2]
    rcases hv with ⟨_, rfl⟩ | ⟨b, o, c, rfl, h1, h2, h3⟩
    · simp at h
    · rw [h] at h3 ⊢
      exact read_at b o c l w hB h h1 h3
  · rw [(rd_no h).1, (rd_no h).2]
    exact read_no v l w hv h hm
theorem pread_any (v : Value) (l : List Int) (w : World) (hv : BytesAt w v l) (hB : isBytes l) (hm : l.length ≤ 281474976710656) :
    Calls Tryz.prog 106 #[v] w fun e w' => e = .returned (.tuple #[dV (rdD l), .int .i64 (rdE l)]) ∧ Below w.heap.size w w' := by
  by_cases h : l.length = 16
  · rw [(rd_yes h).1, (rd_yes h).2]
    rcases hv with ⟨_, rfl⟩ | ⟨b, o, c, rfl, h1, h2, h3⟩
    · simp at h
    · rw [h] at h3 ⊢
      exact pread_at b o c l w hB h h1 h3
  · rw [(rd_no h).1, (rd_no h).2]
    exact pread_no v l w hv h hm

theorem rowAt {w : World} {b : Nat} {t : TypeId} {M : List Int} (h : Row w b t M) (n : Nat) (hn : M.length = n) : BytesAt w (.slice (some ⟨b, 0, none⟩) n n) M := by
  subst hn
  exact Or.inr ⟨b, 0, M.length, rfl, lt_blk h, Nat.le_refl _, fun j hj => by rw [Nat.zero_add]; exact cellB h j hj⟩
theorem convR {w : World} {b o c n : Nat} {l : List Int} (hn : l.length = n) (h4 : ∀ j, j < l.length → w.cell? ⟨b, o + j, none⟩ = some (.int .u8 (l.getD j 0))) : (convert 47 9 (.slice (some ⟨b, o, none⟩) n c)).run Tryz.prog w = .ok (.string (strOfNums l)) w :=
  run_convert_bytes_arg w 47 5 Tryz.underlying47 Tryz.underlying5 b o n c l hn (fun i hi => by rw [h4 i (by omega)]) 9 Tryz.underlying9
theorem convRow {w : World} {b c n : Nat} {t : TypeId} {M : List Int} (h : Row w b t M) (hn : M.length = n) : (convert 47 9 (.slice (some ⟨b, 0, none⟩) n c)).run Tryz.prog w = .ok (.string (strOfNums M)) w :=
  convR hn (fun j hj => by rw [Nat.zero_add]; exact cellB h j hj)
end Go.Proofs.YtfhhgcgbgmilcaaGreat

/- Lists of descriptors; contracts of desc's Table. Conditions: as each theorem names them. -/
namespace Go.Proofs.YtfhhgcgbgmilcaaGreat
open Go.ChangeShapes Go.WideShapes Go.ChangeAt Go.RowKit
set_option linter.unusedVariables false
set_option maxRecDepth 100000

def dat (L : List Dsc) (i : Nat) : Dsc := L.getD i ⟨0, 0, 0, 0⟩
def isDscs (L : List Dsc) : Prop := ∀ d ∈ L, isDsc d
theorem isDsc_zero : isDsc ⟨0, 0, 0, 0⟩ := ⟨by simp, by simp, by simp, by simp⟩
theorem dat_is {L : List Dsc} (h : isDscs L) (i : Nat) : isDsc (dat L i) := by
  unfold dat
  by_cases hi : i < L.length
  · rw [List.getD_eq_getElem?_getD, List.getElem?_eq_getElem hi]
    exact h _ (List.getElem_mem hi)
  · rw [List.getD_eq_getElem?_getD, List.getElem?_eq_none (by omega)]
    exact isDsc_zero
/-- four cells of a block hold a descriptor -/
def at4 (w : World) (b o : Nat) (d : Dsc) : Prop := w.cell? ⟨b, o, none⟩ = some (.int .u64 d.a) ∧ w.cell? ⟨b, o + 1, none⟩ = some (.int .u32 d.l) ∧ w.cell? ⟨b, o + 2, none⟩ = some (.int .u16 d.f) ∧ w.cell? ⟨b, o + 3, none⟩ = some (.int .u16 d.n)
theorem at4.below {w w' : World} {b o : Nat} {d : Dsc} {B : Nat} (h : at4 w b o d) (hb : Below B w w') (hB : b < B) : at4 w' b o d :=
  ⟨(hb.cell (p := ⟨b, o, none⟩) hB).trans h.1, (hb.cell (p := ⟨b, o + 1, none⟩) hB).trans h.2.1, (hb.cell (p := ⟨b, o + 2, none⟩) hB).trans h.2.2.1, (hb.cell (p := ⟨b, o + 3, none⟩) hB).trans h.2.2.2⟩
/-- a slice of descriptors, nil too, that reads as L -/
def DescsAt (w : World) (v : Value) (L : List Dsc) : Prop :=
  ((∃ a c, v = .slice a 0 c ∧ (a = none → c = 0)) ∧ L = []) ∨ ∃ b o c : Nat, v = .slice (some ⟨b, o, none⟩) L.length c ∧ b < w.heap.size ∧ L.length ≤ c ∧ ∀ j, j < L.length → at4 w b (o + j * 4) (dat L j)
theorem DescsAt.below {w w' : World} {v : Value} {L : List Dsc} (h : DescsAt w v L) (hb : Below w.heap.size w w') : DescsAt w' v L := by
  rcases h with h | ⟨b, o, c, h1, h2, h3, h4⟩
  · exact Or.inl h
  · have := hb.size
    exact Or.inr ⟨b, o, c, h1, by omega, h3, fun j hj => (h4 j hj).below hb h2⟩
theorem DescsAt.len {w : World} {v : Value} {L : List Dsc} (h : DescsAt w v L) : ∃ a c, v = .slice a L.length c := by
  rcases h with ⟨⟨a, c, rfl, _⟩, rfl⟩ | ⟨b, o, c, rfl, _⟩
  · exact ⟨a, c, rfl⟩
  · exact ⟨_, c, rfl⟩

/-- the bytes of all of them -/
def tabB : List Dsc → List Int
  | [] => []
  | d :: L => dB d ++ tabB L
theorem tabB_length : ∀ L : List Dsc, (tabB L).length = 16 * L.length
  | [] => rfl
  | d :: L => by simp [tabB, dB_length, tabB_length L]; omega
theorem tabB_bytes : ∀ L : List Dsc, isBytes (tabB L)
  | [] => isBytes_nil
  | d :: L => isBytes_append (dB_bytes d) (tabB_bytes L)
theorem tabB_append : ∀ a b : List Dsc, tabB (a ++ b) = tabB a ++ tabB b
  | [], _ => rfl
  | d :: a, b => by simp [tabB, tabB_append a b]
theorem tabB_step (L : List Dsc) (k : Nat) (h : k < L.length) : tabB (L.take (k + 1)) = tabB (L.take k) ++ dB (dat L k) := by
  rw [List.take_succ_eq_append_getElem h, tabB_append]
  simp [tabB, dat, List.getD, h]

theorem below_setRow {B : Nat} {a w : World} (h : Below B a w) {g : Nat} (hg : B ≤ g) (cs : Array Value) : Below B a (w.setRow g cs) :=
  ⟨h.os, h.tape, h.output, by have := h.size; simpa using this, fun k hk => by rw [setRow_other _ _ _ _ (by omega)]; exact h.block k hk⟩

set_option maxHeartbeats 1000000 in
theorem table_any (v : Value) (L : List Dsc) (w : World) (hv : DescsAt w v L) (hu : isDscs L) (h300 : L.length ≤ 300) :
    Calls Tryz.prog 36 #[v] w fun e w' => e = .returned (.slice (some ⟨w.heap.size, 0, none⟩) (16 * L.length) (16 * L.length)) ∧ Row w' w.heap.size 5 (tabB L) ∧ Below w.heap.size w w' := by
  have hmk : ∀ u : World, (Instr.makeSlice 47 (.int .i64 (16 * (L.length : Int))) (.int .i64 (16 * (L.length : Int)))).run Tryz.prog u = .ok (.slice (some ⟨u.heap.size, 0, none⟩) (16 * L.length) (16 * L.length)) (u.alloc (.cells (bv (List.replicate (16 * L.length) 0)) 5)) := fun u => by
    have := makeB u .i64 (16 * L.length) (by omega)
    rw [show ((16 * L.length : Nat) : Int) = 16 * (L.length : Int) from by omega] at this
    exact this
  have hz : List.replicate (16 * L.length) 0 = put (List.replicate (16 * L.length) 0) 0 (tabB (L.take 0)) := by
    rw [List.take_zero]
    exact (put_nil _ _).symm
  rcases hv with ⟨⟨va, vc, rfl, _⟩, rfl⟩ | ⟨b, o, c, rfl, hb1, hb2, hb3⟩
  · have hm0 : ∀ u : World, (Instr.makeSlice 47 (.int .i64 0) (.int .i64 0)).run Tryz.prog u = .ok (.slice (some ⟨u.heap.size, 0, none⟩) 0 0) (u.alloc (.cells (bv []) 5)) := fun u => makeB u .i64 0 (by omega)
    clear hmk hz hu
    go_enter Tryz.func36, Tryz.ntmps36
    go_wp2_with fail
    go_loopw [4, 5, 6, 13] (fun _ _ _ i wr => i = .int .i64 0 ∧ wr = w.alloc (.cells (bv []) 5)) (fun _ _ _ i _ => 0)
    case atStart => exact ⟨rfl, rfl⟩
    case round =>
      obtain ⟨rfl, rfl⟩ := hrel
      go_wp2_with fail
      go_ret
      exact ⟨rfl, heap_alloc_new _ _, (Below.refl _ _).alloc (Nat.le_refl _) _⟩
  · have HC := hid_mk hb3
    have HU := hid_mk hu
    have h300i : (L.length : Int) ≤ 300 := by omega
    have HZ := hid_mk hz
    clear hb3 hu hz
    go_enter Tryz.func36, Tryz.ntmps36
    go_wp2_with fail
    go_loopw [4, 5, 6, 13] (fun _ _ _ i wr => ∃ k : Nat, k ≤ L.length ∧ i = .int .i64 k ∧ Row wr w.heap.size 5 (put (List.replicate (16 * L.length) 0) 0 (tabB (L.take k))) ∧ Below w.heap.size w wr) (fun _ _ _ i _ => L.length - (intOf i).toNat)
    case atStart => exact ⟨0, Nat.zero_le _, rfl, by rw [← HZ.out]; exact heap_alloc_new _ _, (Below.refl _ _).alloc (Nat.le_refl _) _⟩
    case round =>
      obtain ⟨k, hk, rfl, hrow, hbel⟩ := hrel
      by_cases hlt : k < L.length
      · obtain ⟨c0, c1, c2, c3⟩ := (HC.out k hlt).below hbel hb1
        have HROW := hid_mk hrow
        have HB := hid_mk hbel
        have HD := hid_mk (fun (u : World) (hr : Row u (wr.heap.size + 1) 166 (List.replicate 16 0)) => setDesc_any _ _ _ (dat L k) u hr (by simp) (dat_is HU.out k))
        have hge := hbel.size
        have hge2 := lt_blk hrow
        have hw16 : IntKind.i64.wrap (16 * (k : Int)) = 16 * (k : Int) := IntWalk.i64_in _ (by omega)
        have hle16 : 16 * (k : Int) ≤ 16 * (L.length : Int) := by omega
        clear hrow
        go_wp2_with fail
        refine (HD.out _ (by rw [Row, rep16]; exact row16 (wr.alloc _) _ _ _ (sizeA _ _))).mono ?_
        rintro e w1 ⟨rfl, hr, hc⟩
        have hb2 : Below wr.heap.size wr w1 := (((Below.refl _ _).alloc (Nat.le_refl _) _).alloc (by rw [sizeA]; omega) _).trans (hc.below (B := wr.heap.size) (by rw [sizeA, sizeA]; omega) (fun k hk => by omega))
        have hrow1 : Row w1 w.heap.size 5 (put (List.replicate (16 * L.length) 0) 0 (tabB (L.take k))) := keepB hb2 HROW.out
        have hplen : (put (List.replicate (16 * L.length) 0) 0 (tabB (L.take k))).length = 16 * L.length := by
          rw [put_length _ _ _ (by rw [tabB_length]; simp; omega)]
          simp
        have hcp := fun ty => copyB w1.drew ty w.heap.size (16 * k) (16 * L.length - 16 * k) (16 * L.length - 16 * k) (wr.heap.size + 1) 0 16 16 _ (dB (dat L k)) _ (show w1.drew.heap[w.heap.size]? = _ from hrow1) (by rw [dB_length]; omega) (fun j hj => by rw [Nat.zero_add]; exact cellB (show w1.drew.heap[wr.heap.size + 1]? = _ from hr) j hj) (by rw [hplen, dB_length]; omega)
        have hput : put (put (List.replicate (16 * L.length) 0) 0 (tabB (L.take k))) (16 * k) (dB (dat L k)) = put (List.replicate (16 * L.length) 0) 0 (tabB (L.take (k + 1))) := by
          have h := put_put (List.replicate (16 * L.length) 0) 0 (tabB (L.take k)) (dB (dat L k)) (by rw [tabB_length, dB_length]; simp; omega)
          rw [tabB_length, List.length_take, Nat.zero_add, show 16 * min k L.length = 16 * k from by omega] at h
          rw [h, tabB_step L k hlt]
        have HPUT := hid_mk hput
        have HR1 := hid_mk hrow1
        have HB1 := hid_mk (hbel.trans (hb2.mono hbel.size))
        clear hr hc hb2 hrow1 hplen hput hge hge2 hbel c0 c1 c2 c3
        go_wp2_with fail
        go_region
        go_wp2_with fail
        go_roundw
        case rel => exact ⟨k + 1, by omega, by go_num, by rw [← HPUT.out]; exact setRow_heap _ _ _ _ _ _ (show w1.drew.heap[w.heap.size]? = _ from HR1.out), below_setRow HB1.out.drew (Nat.le_refl _) _⟩
        case measure => simp [intOf] <;> omega
      · obtain rfl : k = L.length := by omega
        have hrow2 := hrow
        rw [List.take_of_length_le (Nat.le_refl _), put_all _ _ (by rw [tabB_length]; simp)] at hrow2
        have HROW := hid_mk hrow2
        have HB := hid_mk hbel
        clear hrow hrow2 hbel
        go_wp2_with fail
        go_ret
        exact ⟨rfl, HROW.out, HB.out⟩
end Go.Proofs.YtfhhgcgbgmilcaaGreat

/- Contracts of the kit's small functions: Pick. Conditions: as each theorem names them. -/
namespace Go.Proofs.YtfhhgcgbgmilcaaGreat
open Go.ChangeShapes Go.WideShapes Go.ChangeAt Go.RowKit
set_option linter.unusedVariables false
set_option maxRecDepth 100000

theorem pick_any (n m : Int) (w : World) (h : 1 ≤ m) (hm : m ≤ 9223372036854775807) :
    Calls Tryz.prog 7 #[.int .i64 n, .int .i64 m] w fun e w' => e = .returned (.int .i64 (n % m)) ∧ w = w' := by
  have ht : n.tmod m = n % m ∨ (n.tmod m < 0 ∧ n.tmod m + m = n % m) := by
    by_cases hn : n < 0
    · have e1 := Int.tmod_eq_emod (a := n) (b := m)
      have e2 := Int.emod_nonneg n (show m ≠ 0 by omega)
      have e3 := Int.emod_lt_of_pos n (show 0 < m by omega)
      by_cases hd : m ∣ n
      · left
        rw [e1]
        simp [hd]
      · right
        rw [if_neg (by simp [hd]; omega)] at e1
        omega
    · left
      exact Int.tmod_eq_emod_of_nonneg (by omega)
  have hb0 := Int.emod_nonneg n (show m ≠ 0 by omega)
  have hb1 := Int.emod_lt_of_pos n (show 0 < m by omega)
  rcases ht with ht | ⟨ht1, ht2⟩
  · have H : Hid (n.tmod m = n % m) := ht
    have ht0 : 0 ≤ n.tmod m := by omega
    clear ht
    go_enter Tryz.func7, Tryz.ntmps7
    go_wp2
    go_ret
    exact ⟨ret_eq (by rw [← H.out]; rfl), rfl⟩
  · have H : Hid (n.tmod m + m = n % m) := ht2
    have hlo : 0 ≤ n.tmod m + m := by omega
    clear ht2
    go_enter Tryz.func7, Tryz.ntmps7
    go_wp2
    go_ret
    exact ⟨ret_eq (by rw [← H.out]; rfl), rfl⟩

theorem pick_at (n m r : Int) (w : World) (h : 1 ≤ m) (hm : m ≤ 9223372036854775807) (hr : n % m = r) :
    Calls Tryz.prog 7 #[.int .i64 n, .int .i64 m] w fun e w' => e = .returned (.int .i64 r) ∧ w = w' := by
  subst hr
  exact pick_any n m w h hm
end Go.Proofs.YtfhhgcgbgmilcaaGreat
