/- Outl4 Bh6 Bh7: joined texts. Conditions: as each theorem names them. -/
import Derived.Test.YtfhhgcgbgmilcaaGreatKp25
import Derived.Test.YtfhhgcgbgmilcaaGreatKp45
import Derived.Test.YtfhhgcgbgmilcaaGreatKp18
/- A call through an interface within a drawn region. No program in sight. -/
namespace Go.Proofs.YtfhhgcgbgmilcaaGreat
open Go Go.RowKit
set_option linter.unusedVariables false

section
variable {P : Program} {ops : Array Oper} {Q : Exit → Act → World → Prop} {a0 : Act} {S : World → Prop} {R : Nat → Value → World → Prop} {lk : Nat} {sp : Sps} {dd : List (Nat × Nat)} {pr : List (Nat × (World → Prop))}
/-- a call through an interface value that the region itself has made -/
theorem qstep_inv {i : Nat} {o : Oper} (f : Nat) (hcb : callB P f = true) (r : Nat) (name : String) (xs : Array Operand) (ts : Array TypeId) (hi : ops[i]? = some o) (hd : o.dst.isSome = true) (hne : sp.lookup i = none) (ho : o.op = .call { callee := .invoke (.tmp r) name, args := xs, argTypes := ts })
    (h : ∀ listed a w, QInv ops a0 S R lk dd pr listed a w → listed.getD i false = false → (∀ e ∈ o.after, Region.binds .any e = true → listed.getD e.on false = true) → Region.wanted o (yielded ops a.tmps) = true ∧ ∃ T v fr vals, a.eval (.tmp r) = .iface T v ∧ (method (P.types.size + Made.depth) T v name).run P w = .ok (f, fr) w ∧ xs.map a.eval = vals ∧ Calls P f (#[fr] ++ vals) w fun e w' => ∃ v, e = .returned v ∧ R i v w' ∧ Below w.heap.size w w') : QStep P ops Q a0 S R lk sp dd pr i o := by
  intro listed a w hinv hnl hall
  obtain ⟨h1, T, v, fr, vals, hr0, hm, h2, h3⟩ := h listed a w hinv hnl hall
  unfold wpOp
  simp only [hi, h1, if_true]
  refine Or.inl ?_
  unfold Oper.wp execOp
  have hr : ((do let d ← resolve a.eval { callee := .invoke (.tmp r) name, args := xs, argTypes := ts } o.type; invoke d.target d.args : Sem Next)).run P w = .ok (.enter f (#[fr] ++ vals)) w := by
    rw [← h2]
    have e0 : (#[Value.iface T v] ++ Array.map a.eval xs)[0]? = some (Value.iface T v) := by simp [Array.getElem?_append]
    have e1 : (Array.map a.eval xs).extract 0 xs.size = Array.map a.eval xs := by
      apply Array.ext'
      simp
      exact List.take_of_length_le (by simp)
    simp [resolve, invoke, hr0, callMethod, e0, e1, run_program, hm, run_callFunc_body hcb]
  simp only [ho, hr, Oper.upon]
  refine h3.mono ?_
  rintro e w' ⟨v, rfl, hv, hb⟩
  refine ⟨v, rfl, ?_, Goes.below hne hb⟩
  rw [if_neg (fun e => by rw [e] at hd; cases hd)]
  exact hv
end
end Go.Proofs.YtfhhgcgbgmilcaaGreat

/- Rows that are made and filled one by one. Conditions: as each theorem names them. -/
namespace Go.Proofs.YtfhhgcgbgmilcaaGreat
open Go.ChangeShapes Go.WideShapes Go.ChangeAt Go.RowKit
set_option linter.unusedVariables false
set_option maxRecDepth 100000

/-! ### a row filled so far -/
def rowS {α : Type} (z : α) (X : List α) (k : Nat) : List α := X.take k ++ List.replicate (X.length - k) z
theorem rowS_length {α : Type} {z : α} {X : List α} {k : Nat} (h : k ≤ X.length) : (rowS z X k).length = X.length := by
  simp [rowS]
  omega
theorem rowS_zero {α : Type} (z : α) (X : List α) : rowS z X 0 = List.replicate X.length z := by simp [rowS]
theorem rowS_all {α : Type} (z : α) (X : List α) : rowS z X X.length = X := by simp [rowS]
theorem rowS_step {α : Type} {z : α} {X : List α} {k : Nat} (h : k < X.length) : (rowS z X k).set k (X.getD k z) = rowS z X (k + 1) := by
  unfold rowS
  have h1 : (X.take k).length = k := by rw [List.length_take]; omega
  have h2 : X.take (k + 1) = X.take k ++ [X.getD k z] := by
    rw [List.take_succ_eq_append_getElem h]
    simp [List.getD, h]
  rw [List.set_append_right _ _ (by omega), h1, Nat.sub_self, h2, show X.length - k = X.length - (k + 1) + 1 from by omega, List.replicate_succ]
  simp

/-! ### rows of puts -/
theorem ptCells_set : ∀ (L : List Pt) (k : Nat) (x : Pt), k < L.length → (((((ptCells L).set (k * 5) (.int .i64 x.i)).set (k * 5 + 1) (.int .u64 x.d.a)).set (k * 5 + 2) (.int .u32 x.d.l)).set (k * 5 + 3) (.int .u16 x.d.f)).set (k * 5 + 4) (.int .u16 x.d.n) = ptCells (L.set k x)
  | [], k, x, h => by simp at h
  | y :: L, 0, x, _ => by simp [ptCells]
  | y :: L, k + 1, x, h => by
    have ih := ptCells_set L k x (by simpa using h)
    rw [show (k + 1) * 5 = k * 5 + 1 + 1 + 1 + 1 + 1 from by omega, show k * 5 + 1 + 1 + 1 + 1 + 1 + 2 = k * 5 + 2 + 1 + 1 + 1 + 1 + 1 from by omega, show k * 5 + 1 + 1 + 1 + 1 + 1 + 3 = k * 5 + 3 + 1 + 1 + 1 + 1 + 1 from by omega, show k * 5 + 1 + 1 + 1 + 1 + 1 + 4 = k * 5 + 4 + 1 + 1 + 1 + 1 + 1 from by omega]
    simp only [ptCells, List.set_cons_succ, ih]
theorem put_row5 {w : World} {db : Nat} {L : List Pt} {t : TypeId} {k : Nat} (x : Pt) (h : BlkAt w db (ptCells L) t) (hk : k < L.length) : BlkAt (((((w.setCell ⟨db, k * 5, none⟩ (.int .i64 x.i)).setCell ⟨db, k * 5 + 1, none⟩ (.int .u64 x.d.a)).setCell ⟨db, k * 5 + 2, none⟩ (.int .u32 x.d.l)).setCell ⟨db, k * 5 + 3, none⟩ (.int .u16 x.d.f)).setCell ⟨db, k * 5 + 4, none⟩ (.int .u16 x.d.n)) db (ptCells (L.set k x)) t := by
  have := ((((h.set (k * 5) (.int .i64 x.i)).set (k * 5 + 1) (.int .u64 x.d.a)).set (k * 5 + 2) (.int .u32 x.d.l)).set (k * 5 + 3) (.int .u16 x.d.f)).set (k * 5 + 4) (.int .u16 x.d.n)
  rw [ptCells_set L k x hk] at this
  exact this
theorem put_row4 {w : World} {db : Nat} {L : List Dsc} {t : TypeId} {k : Nat} (x : Dsc) (h : BlkAt w db (dCs L) t) (hk : k < L.length) : BlkAt ((((w.setCell ⟨db, k * 4, none⟩ (.int .u64 x.a)).setCell ⟨db, k * 4 + 1, none⟩ (.int .u32 x.l)).setCell ⟨db, k * 4 + 2, none⟩ (.int .u16 x.f)).setCell ⟨db, k * 4 + 3, none⟩ (.int .u16 x.n)) db (dCs (L.set k x)) t := by
  have := (((h.set (k * 4) (.int .u64 x.a)).set (k * 4 + 1) (.int .u32 x.l)).set (k * 4 + 2) (.int .u16 x.f)).set (k * 4 + 3) (.int .u16 x.n)
  rw [dCs_set L k x hk] at this
  exact this
theorem made5 : ∀ n : Nat, (madeCells #[Value.int .i64 0, Value.int .u64 0, Value.int .u32 0, Value.int .u16 0, Value.int .u16 0] (n * 5)).toList = ptCells (List.replicate n zPt) := by
  intro n
  apply List.ext_getElem?
  intro i
  by_cases hi : i < n * 5
  · have h := ptCells_at (List.replicate n zPt) (i / 5) (by simp; omega)
    have hd : ptat (List.replicate n zPt) (i / 5) = zPt := by simp [ptat, List.getD, show i / 5 < n from by omega]
    rw [hd] at h
    rcases (show i % 5 = 0 ∨ i % 5 = 1 ∨ i % 5 = 2 ∨ i % 5 = 3 ∨ i % 5 = 4 from by omega) with e | e | e | e | e
    · have e2 : i = i / 5 * 5 := by omega
      have g := h.1
      rw [← e2] at g
      rw [g]
      simp [madeCells, hi, e, zPt]
    · have e2 : i = i / 5 * 5 + 1 := by omega
      have g := h.2.1
      rw [← e2] at g
      rw [g]
      simp [madeCells, hi, e, zPt]
    · have e2 : i = i / 5 * 5 + 2 := by omega
      have g := h.2.2.1
      rw [← e2] at g
      rw [g]
      simp [madeCells, hi, e, zPt]
    · have e2 : i = i / 5 * 5 + 3 := by omega
      have g := h.2.2.2.1
      rw [← e2] at g
      rw [g]
      simp [madeCells, hi, e, zPt]
    · have e2 : i = i / 5 * 5 + 4 := by omega
      have g := h.2.2.2.2
      rw [← e2] at g
      rw [g]
      simp [madeCells, hi, e, zPt]
  · have h1 := size_madeCells #[Value.int .i64 0, Value.int .u64 0, Value.int .u32 0, Value.int .u16 0, Value.int .u16 0] (n * 5)
    have h2 := ptCells_length (List.replicate n zPt)
    rw [List.getElem?_eq_none (by rw [Array.length_toList, h1]; omega), List.getElem?_eq_none (by rw [h2]; simp; omega)]
theorem rowPut : (Tryz.prog.info? 46).map (fun i => (i.zero, i.size, i.bytes)) = some (some (.agg #[.int .i64 0, .int .u64 0, .int .u32 0, .int .u16 0, .int .u16 0]), 5, 24) := by kernel_rfl
theorem rowPutP : (Tryz.prog.info? 65).map (fun i => (i.zero, i.size, i.bytes)) = some (some (.agg #[.int .i64 0, .int .u64 0, .int .u32 0, .int .u16 0, .int .u16 0]), 5, 24) := by kernel_rfl
theorem rowPacked : (Tryz.prog.info? 63).map (fun i => (i.zero, i.size, i.bytes)) = some (some (.agg #[.int .u64 0, .int .u32 0, .int .u16 0, .int .u16 0]), 4, 16) := by kernel_rfl
theorem makePut (w : World) (k : IntKind) (n : Nat) (h : n ≤ 1000000) :
    (Instr.makeSlice 37 (.int k (n : Int)) (.int k (n : Int))).run Tryz.prog w = .ok (.slice (some ⟨w.heap.size, 0, none⟩) n n) (w.alloc (.cells (ptCells (List.replicate n zPt)).toArray 46)) := by
  obtain ⟨i0, hi, hz0, hz1, hz2⟩ := info_parts rowPut
  have hr := run_make (P := Tryz.prog) w 37 46 i0 _ Tryz.underlying37 hi hz0 k k n n (by omega) (Int.le_refl _) (by rw [hz2]; omega) (by omega)
  rw [hr]
  simp only [Int.toNat_natCast, hz1]
  congr 3
  apply Array.ext'
  rw [← made5 n]
  rfl
theorem makePutP (w : World) (k : IntKind) (n : Nat) (h : n ≤ 1000000) :
    (Instr.makeSlice 59 (.int k (n : Int)) (.int k (n : Int))).run Tryz.prog w = .ok (.slice (some ⟨w.heap.size, 0, none⟩) n n) (w.alloc (.cells (ptCells (List.replicate n zPt)).toArray 65)) := by
  obtain ⟨i0, hi, hz0, hz1, hz2⟩ := info_parts rowPutP
  have hr := run_make (P := Tryz.prog) w 59 65 i0 _ Tryz.underlying59 hi hz0 k k n n (by omega) (Int.le_refl _) (by rw [hz2]; omega) (by omega)
  rw [hr]
  simp only [Int.toNat_natCast, hz1]
  congr 3
  apply Array.ext'
  rw [← made5 n]
  rfl
theorem makePacked (w : World) (k : IntKind) (n : Nat) (h : n ≤ 1000000) :
    (Instr.makeSlice 119 (.int k (n : Int)) (.int k (n : Int))).run Tryz.prog w = .ok (.slice (some ⟨w.heap.size, 0, none⟩) n n) (w.alloc (.cells (dCs (List.replicate n zD)).toArray 63)) := by
  obtain ⟨i0, hi, hz0, hz1, hz2⟩ := info_parts rowPacked
  have hr := run_make (P := Tryz.prog) w 119 63 i0 _ Tryz.underlying119 hi hz0 k k n n (by omega) (Int.le_refl _) (by rw [hz2]; omega) (by omega)
  rw [hr]
  simp only [Int.toNat_natCast, hz1]
  congr 3
  apply Array.ext'
  rw [← made4 n]
  rfl

/-- cells of block db are written -/
def PutC (db : Nat) (W W' : World) : Prop := ∃ L : List (Nat × Value), W' = L.foldl (fun U q => U.setCell ⟨db, q.1, none⟩ q.2) W
theorem row5 {w : World} {db : Nat} {L : List Pt} {t : TypeId} {k : Nat} (h : BlkAt w db (ptCells L) t) (hk : k < L.length) : (∃ c0 c1 c2 c3 c4, db < w.heap.size ∧ w.cell? ⟨db, k * 5, none⟩ = some c0 ∧ w.cell? ⟨db, k * 5 + 1, none⟩ = some c1 ∧ w.cell? ⟨db, k * 5 + 2, none⟩ = some c2 ∧ w.cell? ⟨db, k * 5 + 3, none⟩ = some c3 ∧ w.cell? ⟨db, k * 5 + 4, none⟩ = some c4) ∧ w.frozen? ⟨db, k * 5, none⟩ = false ∧ w.frozen? ⟨db, k * 5 + 1, none⟩ = false ∧ w.frozen? ⟨db, k * 5 + 2, none⟩ = false ∧ w.frozen? ⟨db, k * 5 + 3, none⟩ = false ∧ w.frozen? ⟨db, k * 5 + 4, none⟩ = false := by
  obtain ⟨g0, g1, g2, g3, g4⟩ := ptCells_at L k hk
  exact ⟨⟨_, _, _, _, _, h.lt, (h.cell _).trans g0, (h.cell _).trans g1, (h.cell _).trans g2, (h.cell _).trans g3, (h.cell _).trans g4⟩, h.free _, h.free _, h.free _, h.free _, h.free _⟩
theorem row4 {w : World} {db : Nat} {L : List Dsc} {t : TypeId} {k : Nat} (h : BlkAt w db (dCs L) t) (hk : k < L.length) : (∃ c0 c1 c2 c3, db < w.heap.size ∧ w.cell? ⟨db, k * 4, none⟩ = some c0 ∧ w.cell? ⟨db, k * 4 + 1, none⟩ = some c1 ∧ w.cell? ⟨db, k * 4 + 2, none⟩ = some c2 ∧ w.cell? ⟨db, k * 4 + 3, none⟩ = some c3) ∧ w.frozen? ⟨db, k * 4, none⟩ = false ∧ w.frozen? ⟨db, k * 4 + 1, none⟩ = false ∧ w.frozen? ⟨db, k * 4 + 2, none⟩ = false ∧ w.frozen? ⟨db, k * 4 + 3, none⟩ = false := by
  obtain ⟨g0, g1, g2, g3⟩ := dCs_at L k hk
  exact ⟨⟨_, _, _, _, h.lt, (h.cell _).trans g0, (h.cell _).trans g1, (h.cell _).trans g2, (h.cell _).trans g3⟩, h.free _, h.free _, h.free _, h.free _⟩
theorem PutC.below {db B : Nat} {W W' w : World} (h : PutC db W W') (hb : Below B w W) (hd : B ≤ db) : Below B w W' := by
  obtain ⟨L, rfl⟩ := h
  induction L generalizing W with
  | nil => exact hb
  | cons q L ih => exact ih (hb.setCell hd _)

/-! ### the region -/
structure ChS (w : World) (bx db : Nat) (B : List Value) (t t2 : TypeId) (W : World) : Prop where
  box : BlkAt W bx B t
  old : Below w.heap.size w W
  res : ∃ C2, BlkAt W db C2 t2
theorem ChS.below {w W W' : World} {bx db : Nat} {B : List Value} {t t2 : TypeId} (h : ChS w bx db B t t2 W) (hb : Below W.heap.size W W') : ChS w bx db B t t2 W' := by
  obtain ⟨C2, hr⟩ := h.res
  exact ⟨h.box.below hb, below_then h.old hb, C2, hr.below hb⟩
theorem ChS.put {w W W' : World} {bx db : Nat} {B : List Value} {t t2 : TypeId} (h : ChS w bx db B t t2 W) (hne : bx ≠ db) (hw : w.heap.size ≤ db) (hp : PutC db W W') : ChS w bx db B t t2 W' := by
  obtain ⟨L, rfl⟩ := hp
  induction L generalizing W with
  | nil => exact h
  | cons q L ih =>
    refine ih ?_
    obtain ⟨C2, hr⟩ := h.res
    exact ⟨h.box.other hne _, h.old.setCell hw _, _, hr.set q.1 q.2⟩

end Go.Proofs.YtfhhgcgbgmilcaaGreat

/- build's chain of a split ring. Conditions: as each theorem names them. -/
namespace Go.Proofs.YtfhhgcgbgmilcaaGreat
open Go.ChangeShapes Go.WideShapes Go.ChangeAt Go.RowKit
set_option linter.unusedVariables false
set_option maxRecDepth 100000

theorem flg_next (t nx : Bool) : (bits .and .u16 (flgN t nx : Nat) 1 != 0) = nx := by cases t <;> cases nx <;> decide +kernel
theorem ptD_at {L : List Pt} {k : Nat} : L.getD k zPt = ptat L k := rfl
theorem meth1 (n : Nat) (x : Value) (W : World) : (method (n + 1) 93 x "dumbwaiter/build.put").run Tryz.prog W = .ok (40, x) W := by kernel_rfl
set_option maxHeartbeats 2000000 in
theorem bchain1 (v u : Value) (I : List Int) (L : List Sg) (w : World) (hv : IntsZ w v I) (hu : SegsAt w u L) (hn : I.length = L.length) (h0 : 0 < L.length) (hl : L.length ≤ 1000) (hok : ∀ j, j < L.length → 0 ≤ I.getD j 0 ∧ I.getD j 0 < 32768) :
    Calls Tryz.prog 29 #[v, u] w fun e w' => e = .returned (.slice (some ⟨w.heap.size, 0, none⟩) L.length L.length) ∧ BlkAt w' w.heap.size (ptCells (splL I L)) 46 ∧ Below w.heap.size w w' := by
  rcases hv with ⟨_, rfl⟩ | ⟨vb, vo, vc, rfl, hv1, hv2, hv3⟩
  · simp at hn
    omega
  rcases hu with ⟨_, rfl⟩ | ⟨ub, uo, uc, rfl, hu1, hu2, hu3⟩
  · simp at h0
  have hmk := fun W => makePut W .i64 L.length (by omega)
  have HV := hid_mk hv3
  have HU := hid_mk hu3
  have HOK := hid_mk hok
  have HL := hid_mk hl
  have HN := hid_mk hn
  have HS := hid_mk bsegpart
  have hlen := splL_len I L
  have HZ := hid_mk (rowS_zero zPt (splL I L))
  rw [hlen] at HZ
  have HST := hid_mk (fun k (h : k < L.length) => rowS_step (z := zPt) (X := splL I L) (k := k) (by rw [hlen]; exact h))
  have HAT := hid_mk (fun k (h : k < L.length) => splL_at (I := I) h)
  have HRL := hid_mk (fun k (h : k ≤ L.length) => rowS_length (z := zPt) (X := splL I L) (k := k) (by rw [hlen]; exact h))
  rw [hlen] at HRL
  have HAL := hid_mk (rowS_all zPt (splL I L))
  rw [hlen] at HAL
  clear hv3 hu3 hok hlen hl
  have hl2 : (L.length : Int) ≤ 1000 := by have := HL.out; omega
  rw [hn] at hv2 ⊢
  obtain ⟨db, hdb⟩ : ∃ db, w.heap.size = db := ⟨_, rfl⟩
  have HDb : Hid (w.heap.size ≤ db) := hid_mk (by omega)
  go_enter Tryz.func29, Tryz.ntmps29
  go_wp2_with fail
  go_loopw [6, 7, 13] (fun _ _ i wr => ∃ k : Nat, k ≤ L.length ∧ i = .int .i64 k ∧ Hid (BlkAt wr db (ptCells (rowS zPt (splL I L) k)) 46) ∧ Hid (Below w.heap.size w wr)) (fun _ _ i _ => L.length - (intOf i).toNat)
  case atStart => exact ⟨0, Nat.zero_le _, rfl, hid_mk (by rw [HZ.out, ← hdb]; exact blk_new _ _ _), hid_mk (below_box _ _)⟩
  case round =>
    obtain ⟨k, hk, rfl, hrow, hold⟩ := hrel
    by_cases hlt : k < L.length
    · obtain ⟨c0, c1, c2⟩ := (HU.out k hlt).below hold.out hu1
      have hux : ub < wr.heap.size := Nat.lt_of_lt_of_le hu1 hold.out.size
      have hki : (k : Int) < (L.length : Int) := by omega
      have hnx : decide ((k : Int) < (L.length : Int) - 1) = nxB L k := by
        unfold nxB
        rw [decide_eq_decide]
        omega
      have hk6 : (k : Int) < 1000 := by omega
      have HS1 := hid_mk (HS.out (sat L k) (nxB L k))
      have HV0 := hid_mk (HV.out k (by omega))
      have HP := hid_mk (fun W (hW : Below w.heap.size w W) => bscput vb vo vc L.length k (I.getD k 0) (if nxB L k = true then I.getD (k + 1) 0 else 0) (sat L k).a (sat L k).n (flgN (sat L k).t (nxB L k)) (nxB L k) W (Nat.lt_of_lt_of_le hv1 hW.size) ((hW.cell (p := ⟨vb, vo + k, none⟩) hv1).trans HV0.out) hlt HL.out (fun h => by
        rw [if_pos h]
        have h2 : k + 1 < L.length := of_decide_eq_true h
        exact ⟨h2, (hW.cell (p := ⟨vb, vo + (k + 1), none⟩) hv1).trans (HV.out (k + 1) (by omega)), HOK.out (k + 1) h2⟩) (fun h => by rw [if_neg (by rw [h]; decide)]) (flg_next _ _))
      have HX := hid_mk (HST.out k hlt)
      rw [ptD_at, HAT.out k hlt] at HX
      unfold splD at HX
      have hlen := HRL.out k hk
      generalize (if nxB L k = true then I.getD (k + 1) 0 else 0) = x1 at *
      generalize flgN (sat L k).t (nxB L k) = f at *
      generalize (sat L k).a = sa at *
      generalize (sat L k).n = sn at *
      generalize (sat L k).t = st at *
      generalize I.getD k 0 = x at *
      generalize nxB L k = nx at *
      have hm := meth1
      clear HS HV0
      go_wp2_with fail
      refine (HS1.out _).mono ?_
      rintro e w1 ⟨rfl, hb1⟩
      have HB1 := hid_mk (below_then (hold.out.alloc hold.out.size (.cells #[.int .u64 sa, .int .u32 sn, .bool st] 28)) hb1)
      have HR1 := hid_mk ((hrow.out.below (below_box _ (.cells #[.int .u64 sa, .int .u32 sn, .bool st] 28))).below hb1)
      clear hb1 hrow hold
      go_wp2_with fail
      refine (HP.out _ HB1.out).mono ?_
      rintro e w2 ⟨rfl, hb2⟩
      have HB2 := hid_mk (below_then HB1.out hb2)
      have HR2 := hid_mk (HR1.out.below hb2)
      have HF := hid_mk (put_row5 ⟨x, ⟨sa, sn, f, x1⟩⟩ HR2.out (k := k) (by omega))
      rw [HX.out] at HF
      obtain ⟨⟨d0, d1, d2, d3, d4, hlt2, k0, k1, k2, k3, k4⟩, f0, f1, f2, f3, f4⟩ := row5 HR2.out (k := k) (by omega)
      clear hb2 HR1 HB1 hnx hux c0 c1 c2
      go_wp2_with fail
      go_roundw
      case rel => exact ⟨k + 1, by omega, by simp, HF, hid_mk (((((HB2.out.setCell HDb.out _).setCell HDb.out _).setCell HDb.out _).setCell HDb.out _).setCell HDb.out _)⟩
      case measure => simp [intOf]; omega
    · obtain rfl : k = L.length := by omega
      have HR := hid_mk hrow.out
      rw [HAL.out] at HR
      go_wp2_with fail
      go_ret
      exact ⟨ret_eq (by rw [hdb]; rfl), by rw [hdb]; exact HR.out, hold.out⟩
end Go.Proofs.YtfhhgcgbgmilcaaGreat
