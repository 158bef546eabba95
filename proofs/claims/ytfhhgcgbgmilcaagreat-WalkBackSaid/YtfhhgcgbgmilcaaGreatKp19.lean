/- Dsc10 Dsc11 Rd1: joined texts. Conditions: as each theorem names them. -/
import Derived.Test.YtfhhgcgbgmilcaaGreatKp18
import Derived.Test.YtfhhgcgbgmilcaaGreatKp16
import Derived.Test.YtfhhgcgbgmilcaaGreatKp06
import Derived.OpenShut
import Derived.ShutString
import Derived.Deep.SlicePairs
import Derived.Lib.SmallJoins
import Derived.BigQuiet
import Derived.Laws.AppendOwn
import Derived.OwnWalk
import Derived.Maps.AppendAt
/- What desc's theorems need of bytes and words: reading back; comparisons. Conditions: as each theorem names them. -/
namespace Go.Proofs.YtfhhgcgbgmilcaaGreat
open Go.ChangeShapes Go.WideShapes Go.ChangeAt Go.RowKit
set_option linter.unusedVariables false
set_option maxRecDepth 100000

theorem dR_dB {d : Dsc} (h : isDsc d) : dR (dB d) = d := by
  obtain ⟨ha, hl, hf, hn⟩ := h
  have e0 : ((dB d).drop 0).take 8 = leB 8 d.a := by
    unfold dB
    rw [List.drop_zero, List.take_append_of_le_length (by rw [leB_length]; omega), List.take_of_length_le (by rw [leB_length]; omega)]
  have e1 : ((dB d).drop 8).take 4 = leB 4 d.l := by
    unfold dB
    rw [List.drop_append, List.drop_of_length_le (by rw [leB_length]; omega), leB_length, List.nil_append, Nat.sub_self, List.drop_zero, List.take_append_of_le_length (by rw [leB_length]; omega), List.take_of_length_le (by rw [leB_length]; omega)]
  have e2 : ((dB d).drop 12).take 2 = leB 2 d.f := by
    unfold dB
    rw [List.drop_append, List.drop_of_length_le (by rw [leB_length]; omega), leB_length, List.nil_append, List.drop_append, List.drop_of_length_le (by rw [leB_length]; omega), leB_length, List.nil_append]
    rw [show 12 - 8 - 4 = 0 from rfl, List.drop_zero, List.take_append_of_le_length (by rw [leB_length]; omega), List.take_of_length_le (by rw [leB_length]; omega)]
  have e3 : ((dB d).drop 14).take 2 = leB 2 d.n := by
    unfold dB
    rw [List.drop_append, List.drop_of_length_le (by rw [leB_length]; omega), leB_length, List.nil_append, List.drop_append, List.drop_of_length_le (by rw [leB_length]; omega), leB_length, List.nil_append, List.drop_append, List.drop_of_length_le (by rw [leB_length]; omega), leB_length, List.nil_append]
    rw [show 14 - 8 - 4 - 2 = 0 from rfl, List.drop_zero, List.take_of_length_le (by rw [leB_length]; omega)]
  unfold dR
  rw [e0, e1, e2, e3, le_leB 8 _ ha.1 ha.2, le_leB 4 _ hl.1 hl.2, le_leB 2 _ hf.1 hf.2, le_leB 2 _ hn.1 hn.2]
theorem tabB_part : ∀ (L : List Dsc) (k : Nat), k < L.length → ((tabB L).drop (16 * k)).take 16 = dB (dat L k)
  | [], k, h => by simp at h
  | d :: L, 0, _ => by
    have := dB_length d
    rw [tabB, Nat.mul_zero, List.drop_zero, List.take_append_of_le_length (by omega), List.take_of_length_le (by omega)]
    rfl
  | d :: L, k + 1, h => by
    have h1 := dB_length d
    have ih := tabB_part L k (by simpa using h)
    rw [dat_succ, tabB, List.drop_append, List.drop_of_length_le (by omega), List.nil_append, h1, show 16 * (k + 1) - 16 = 16 * k from by omega, ih]
theorem rdT_tabB {L : List Dsc} (h : isDscs L) : rdT L.length (tabB L) = L := by
  apply List.ext_getElem
  · rw [rdT_length]
  · intro i h1 h2
    have hd := dR_dB (dat_is h i)
    have hp := tabB_part L i h2
    simp only [rdT, List.getElem_map, List.getElem_range, hp, hd]
    simp [dat, List.getD, h2]
theorem dB_inj {a b : Dsc} (ha : isDsc a) (hb : isDsc b) (h : dB a = dB b) : a = b := by
  rw [← dR_dB ha, ← dR_dB hb, h]
theorem nums_inj : ∀ {a b : List Int}, isBytes a → isBytes b → (strOfNums a).data.toList = (strOfNums b).data.toList → a = b := by
  intro a b ha hb h2
  rw [strOfNums_data, strOfNums_data] at h2
  induction a generalizing b with
  | nil =>
    cases b with
    | nil => rfl
    | cons y b => simp at h2
  | cons x a ih =>
    cases b with
    | nil => simp at h2
    | cons y b =>
      simp only [List.map_cons, List.cons.injEq] at h2
      have hx := (isBytes_cons ha).1
      have hy := (isBytes_cons hb).1
      have e := congrArg UInt8.toNat h2.1
      rw [UInt8.toNat_ofNat', UInt8.toNat_ofNat'] at e
      rw [ih (isBytes_cons ha).2 (isBytes_cons hb).2 h2.2, show x = y by omega]
/-- are they the same? -/
def sameD (x y : Dsc) : Bool := x.a == y.a && x.l == y.l && x.f == y.f && x.n == y.n
theorem sameD_iff (x y : Dsc) : sameD x y = true ↔ x = y := by
  obtain ⟨a, l, f, n⟩ := x
  obtain ⟨a', l', f', n'⟩ := y
  simp [sameD, and_assoc]
theorem sameD_self (x : Dsc) : sameD x x = true := (sameD_iff x x).2 rfl
theorem sameD_no {x y : Dsc} (h : x ≠ y) : sameD x y = false := by
  cases hs : sameD x y
  · rfl
  · exact absurd ((sameD_iff x y).1 hs) h
theorem fieldsD : Tryz.prog.underlying 44 = some (.struct (Tryz.prog.fieldsOf 44)) := by kernel_rfl
theorem stoodD : Tryz.prog.stoodInHeld 44 = false := by kernel_rfl
theorem eqD (x y : Dsc) (w : World) : (binOp .eql 44 (dV x) (dV y)).run Tryz.prog w = .ok (.bool (sameD x y)) w := by
  rw [run_eql_struct, run_equalIn_agg w 9999 44 _ _ fieldsD stoodD]
  have hf := fieldsD
  rw [Tryz.underlying44] at hf
  simp at hf
  rw [← hf]
  simp [Op.eqFields, go_sem, Tryz.underlying25, Tryz.underlying26, Tryz.underlying42, sameD]
  by_cases h1 : x.a = y.a <;> by_cases h2 : x.l = y.l <;> by_cases h3 : x.f = y.f <;> by_cases h4 : x.n = y.n <;> simp [h1, h2, h3, h4]
theorem fieldsP : Tryz.prog.underlying 63 = some (.struct (Tryz.prog.fieldsOf 63)) := by kernel_rfl
theorem stoodP : Tryz.prog.stoodInHeld 63 = false := by kernel_rfl
theorem eqP (x y : Dsc) (w : World) : (binOp .eql 63 (dV x) (dV y)).run Tryz.prog w = .ok (.bool (sameD x y)) w := by
  rw [run_eql_struct, run_equalIn_agg w 9999 63 _ _ fieldsP stoodP]
  have hf := fieldsP
  rw [Tryz.underlying63] at hf
  simp at hf
  rw [← hf]
  simp [Op.eqFields, go_sem, Tryz.underlying25, Tryz.underlying26, Tryz.underlying42, sameD]
  by_cases h1 : x.a = y.a <;> by_cases h2 : x.l = y.l <;> by_cases h3 : x.f = y.f <;> by_cases h4 : x.n = y.n <;> simp [h1, h2, h3, h4]
/-- two strings of bytes -/
theorem eqS (a b : List Int) (w : World) (ha : isBytes a) (hb : isBytes b) : (binOp .eql 9 (.string (strOfNums a)) (.string (strOfNums b))).run Tryz.prog w = .ok (.bool (decide (a = b))) w := by
  by_cases h : a = b
  · subst h
    simp [go_sem]
  · have hne : ¬(strOfNums a).toList = (strOfNums b).toList := fun e => h (nums_inj ha hb (by rw [ByteArray.toList_eq, ByteArray.toList_eq] at e; exact e))
    simp [go_sem, h, hne]
theorem eqSD (a b : Dsc) (w : World) (ha : isDsc a) (hb : isDsc b) : (binOp .eql 9 (.string (strOfNums (dB a))) (.string (strOfNums (dB b)))).run Tryz.prog w = .ok (.bool (sameD a b)) w := by
  rw [eqS _ _ _ (dB_bytes _) (dB_bytes _)]
  by_cases h : a = b
  · subst h
    simp [sameD_self]
  · have hne : dB a ≠ dB b := fun e => h (dB_inj ha hb e)
    rw [sameD_no h]
    simp [hne]
end Go.Proofs.YtfhhgcgbgmilcaaGreat

/- Layer 3's arguments as they came in; kit.SameDescs of two slices of the same descriptors. Conditions: as each theorem names them. -/
namespace Go.Proofs.YtfhhgcgbgmilcaaGreat
open Go.ChangeShapes Go.WideShapes Go.ChangeAt Go.RowKit
set_option linter.unusedVariables false
set_option maxRecDepth 100000

section
variable {H : Type} {enc : TypeId × Value → H} {W : World} {r : Reach} {b0 : Nat} {v : Value} {d : DataW H} {p : List MemPlace}

theorem open_dsc (hval : Value.okWide Tryz.prog W r b0 44 v) (h : DataW.Trod enc Tryz.prog W 0 (fun _ => true) true 44 v d p) : ∃ x : Dsc, v = dV x ∧ isDsc x := by
  obtain ⟨c0, c1, c2, c3, y0, y1, y2, y3, m, rfl, rfl, rfl, h0, h1, h2, h3⟩ := Go.Joins.open_agg4 Tryz.underlying44 (by kernel_rfl) (by kernel_rfl) hval h
  obtain ⟨n0, e0, _, w0⟩ := DataW.trod_int Tryz.underlying25 h0
  obtain ⟨n1, e1, _, w1⟩ := DataW.trod_int Tryz.underlying26 h1
  obtain ⟨n2, e2, _, w2⟩ := DataW.trod_int Tryz.underlying42 h2
  obtain ⟨n3, e3, _, w3⟩ := DataW.trod_int Tryz.underlying42 h3
  simp at e0 e1 e2 e3
  subst e0 e1 e2 e3
  have u0 := bounds_u64 w0
  have u1 := bounds_u32 w1
  have u2 := bounds_u16 w2
  have u3 := bounds_u16 w3
  exact ⟨⟨n0, n1, n2, n3⟩, rfl, ⟨by simp only; omega, by simp only; omega, by simp only; omega, by simp only; omega⟩⟩
theorem open_pck (hval : Value.okWide Tryz.prog W r b0 63 v) (h : DataW.Trod enc Tryz.prog W 0 (fun _ => true) true 63 v d p) : ∃ x : Dsc, v = dV x ∧ isDsc x := by
  obtain ⟨c0, c1, c2, c3, y0, y1, y2, y3, m, rfl, rfl, rfl, h0, h1, h2, h3⟩ := Go.Joins.open_agg4 Tryz.underlying63 (by kernel_rfl) (by kernel_rfl) hval h
  obtain ⟨n0, e0, _, w0⟩ := DataW.trod_int Tryz.underlying25 h0
  obtain ⟨n1, e1, _, w1⟩ := DataW.trod_int Tryz.underlying26 h1
  obtain ⟨n2, e2, _, w2⟩ := DataW.trod_int Tryz.underlying42 h2
  obtain ⟨n3, e3, _, w3⟩ := DataW.trod_int Tryz.underlying42 h3
  simp at e0 e1 e2 e3
  subst e0 e1 e2 e3
  have u0 := bounds_u64 w0
  have u1 := bounds_u32 w1
  have u2 := bounds_u16 w2
  have u3 := bounds_u16 w3
  exact ⟨⟨n0, n1, n2, n3⟩, rfl, ⟨by simp only; omega, by simp only; omega, by simp only; omega, by simp only; omega⟩⟩
instance : Inhabited Dsc := ⟨⟨0, 0, 0, 0⟩⟩
theorem list4 {α : Type} {l : List α} (h : l.length = 4) : ∃ a b c d, l = [a, b, c, d] := by
  match l, h with
  | [a, b, c, d], _ => exact ⟨a, b, c, d, rfl⟩
theorem open_descs (hval : Value.okWide Tryz.prog W r b0 103 v) (h : DataW.Trod enc Tryz.prog W 0 (fun _ => true) true 103 v d p) :
    ∃ L, DescsAt W v L ∧ isDscs L ∧ L.length ≤ maxLen := by
  obtain ⟨a, len, cap, rfl⟩ := okWide_slice Tryz.underlying103 hval
  obtain ⟨fuel, hf⟩ := h
  rcases Go.Deep.open_slice Tryz.underlying103 hf with ⟨hcs, _⟩ | ⟨a', len', cap', m, n, D, Pl, hcs, _, hle, hmax, hm, _, hx⟩
  · simp [Value.cells] at hcs
    obtain ⟨rfl, rfl, rfl⟩ := hcs
    exact ⟨[], Or.inl ⟨⟨_, _, rfl, fun _ => rfl⟩, rfl⟩, (fun d hd => by cases hd), by simp⟩
  · simp [Value.cells] at hcs
    obtain ⟨rfl, rfl, rfl⟩ := hcs
    simp only [if_true] at hm
    subst hm
    have hC : Tryz.prog.cellsOf 44 = 4 := by kernel_rfl
    have hC64 : Tryz.prog.cellsOf 25 = 1 := by kernel_rfl
    have hC32 : Tryz.prog.cellsOf 26 = 1 := by kernel_rfl
    have hC16 : Tryz.prog.cellsOf 42 = 1 := by kernel_rfl
    have each : ∀ i, i < len → ∃ x : Dsc, (W.cell? (a'.add (i * 4)) = some (.int .u64 x.a) ∧ W.cell? (a'.add (i * 4 + 1)) = some (.int .u32 x.l) ∧ W.cell? (a'.add (i * 4 + 2)) = some (.int .u16 x.f) ∧ W.cell? (a'.add (i * 4 + 3)) = some (.int .u16 x.n)) ∧ isDsc x := fun i hi => by
      obtain ⟨cs', h1, h2⟩ := hx i (by omega)
      rw [hC] at h1
      obtain ⟨_, hlen, hcell⟩ := World.cells?_some h1
      obtain ⟨v0, v1, v2, v3, rfl⟩ := list4 hlen
      obtain ⟨xs, k, hk, hxy, _, hxl, hfd⟩ := DataW.trod_struct Tryz.underlying44 h2
      obtain ⟨y0, y1, y2, y3, rfl⟩ := list4 hxl
      have g0 := hfd 0 _ rfl
      have g1 := hfd 1 _ rfl
      have g2 := hfd 2 _ rfl
      have g3 := hfd 3 _ rfl
      simp [hC64, hC32, hC16] at g0 g1 g2 g3
      obtain ⟨n0, e0, _, w0⟩ := DataW.trod_int Tryz.underlying25 g0
      obtain ⟨n1, e1, _, w1⟩ := DataW.trod_int Tryz.underlying26 g1
      obtain ⟨n2, e2, _, w2⟩ := DataW.trod_int Tryz.underlying42 g2
      obtain ⟨n3, e3, _, w3⟩ := DataW.trod_int Tryz.underlying42 g3
      simp at e0 e1 e2 e3
      subst e0 e1 e2 e3
      have c0 := hcell 0 (by omega)
      have c1 := hcell 1 (by omega)
      have c2 := hcell 2 (by omega)
      have c3 := hcell 3 (by omega)
      rw [Go.Deep.add_add] at c0 c1 c2 c3
      have u0 := bounds_u64 w0
      have u1 := bounds_u32 w1
      have u2 := bounds_u16 w2
      have u3 := bounds_u16 w3
      exact ⟨⟨n0, n1, n2, n3⟩, ⟨c0, c1, c2, c3⟩, ⟨by simp only; omega, by simp only; omega, by simp only; omega, by simp only; omega⟩⟩
    obtain ⟨f, hf2⟩ := Go.Deep.choose_lt each
    have hlen : ((List.range len).map f).length = len := by simp
    have hat : ∀ i, i < len → dat ((List.range len).map f) i = f i := fun i hi => by simp [dat, List.getD, hi]
    refine ⟨(List.range len).map f, ?_, (fun d hd => by
      obtain ⟨i, hi, rfl⟩ := List.mem_map.1 hd
      exact (hf2 i (by simpa using hi)).2), by rw [hlen]; omega⟩
    by_cases h0 : len = 0
    · subst h0
      exact Or.inl ⟨⟨_, _, rfl, fun h => by cases h⟩, rfl⟩
    · obtain ⟨b, off, spot⟩ := a'
      have hspot : spot = none := by simpa [Addr.add] using World.cell?_spot (hf2 0 (by omega)).1.1
      subst hspot
      have h00 := (hf2 0 (by omega)).1.1
      rw [add_plain] at h00
      refine Or.inr ⟨b, off, m, by rw [hlen], World.block_lt_of_cell? W _ h00, by omega, fun j hj => ?_⟩
      rw [hlen] at hj
      have h1 := (hf2 j hj).1
      simp only [add_plain] at h1
      rw [hat j hj]
      exact ⟨h1.1, by rw [Nat.add_assoc]; exact h1.2.1, by rw [Nat.add_assoc]; exact h1.2.2.1, by rw [Nat.add_assoc]; exact h1.2.2.2⟩
end

/-! ## the contracts with a name for the new block -/
theorem pbytes_ex (d : Dsc) (w : World) (hd : isDsc d) :
    Calls Tryz.prog 47 #[dV d] w fun e w' => ∃ b, e = .returned (.slice (some ⟨b, 0, none⟩) 16 16) ∧ w.heap.size ≤ b ∧ Row w' b 166 (dB d) ∧ Below w.heap.size w w' := by
  refine (pbytes_any d w hd).mono ?_
  rintro e w' ⟨rfl, hr, hb⟩
  exact ⟨_, rfl, by omega, hr, hb⟩
theorem table_ex (v : Value) (L : List Dsc) (w : World) (hv : DescsAt w v L) (hu : isDscs L) (h300 : L.length ≤ 300) :
    Calls Tryz.prog 36 #[v] w fun e w' => ∃ b, e = .returned (.slice (some ⟨b, 0, none⟩) (16 * L.length) (16 * L.length)) ∧ w.heap.size ≤ b ∧ Row w' b 5 (tabB L) ∧ Below w.heap.size w w' := by
  refine (table_any v L w hv hu h300).mono ?_
  rintro e w' ⟨rfl, hr, hb⟩
  exact ⟨_, rfl, Nat.le_refl _, hr, hb⟩
/-- Read of what a block holds -/
theorem readRow (b : Nat) (t : TypeId) (M : List Int) (w : World) (h : Row w b t M) (hB : isBytes M) (hM : M.length = 16) :
    Calls Tryz.prog 108 #[.slice (some ⟨b, 0, none⟩) 16 16] w fun e w' => e = .returned (.tuple #[dV (dR M), .int .i64 0]) ∧ Below w.heap.size w w' :=
  read_at b 0 16 M w hB hM (lt_blk h) (fun j hj => by rw [Nat.zero_add]; exact cellB h j (by omega))
theorem preadRow (b : Nat) (t : TypeId) (M : List Int) (w : World) (h : Row w b t M) (hB : isBytes M) (hM : M.length = 16) :
    Calls Tryz.prog 106 #[.slice (some ⟨b, 0, none⟩) 16 16] w fun e w' => e = .returned (.tuple #[dV (dR M), .int .i64 0]) ∧ Below w.heap.size w w' :=
  pread_at b 0 16 M w hB hM (lt_blk h) (fun j hj => by rw [Nat.zero_add]; exact cellB h j (by omega))
theorem readBack (d : Dsc) (b : Nat) (t : TypeId) (w : World) (h : Row w b t (dB d)) (hd : isDsc d) :
    Calls Tryz.prog 108 #[.slice (some ⟨b, 0, none⟩) 16 16] w fun e w' => e = .returned (.tuple #[dV d, .int .i64 0]) ∧ Below w.heap.size w w' := by
  have := readRow b t (dB d) w h (dB_bytes d) (dB_length d)
  rw [dR_dB hd] at this
  exact this
theorem preadBack (d : Dsc) (b : Nat) (t : TypeId) (w : World) (h : Row w b t (dB d)) (hd : isDsc d) :
    Calls Tryz.prog 106 #[.slice (some ⟨b, 0, none⟩) 16 16] w fun e w' => e = .returned (.tuple #[dV d, .int .i64 0]) ∧ Below w.heap.size w w' := by
  have := preadRow b t (dB d) w h (dB_bytes d) (dB_length d)
  rw [dR_dB hd] at this
  exact this
theorem below_more {w a b : World} (h : Below w.heap.size w a) (hb : Below a.heap.size a b) : Below w.heap.size w b := h.trans (hb.mono h.size)
end Go.Proofs.YtfhhgcgbgmilcaaGreat

/- The reference of layer 3: put, get. Conditions: as each theorem names them. -/
namespace Go.Proofs.YtfhhgcgbgmilcaaGreat
open Go.ChangeShapes Go.WideShapes Go.ChangeAt Go.RowKit
set_option linter.unusedVariables false
set_option maxRecDepth 100000

/-- bytes in a row of the call's own -/
abbrev OwnB (w : World) (B : Nat) (v : Value) (l : List Int) : Prop := w.ownsRow B 5 1 v l.length (l.map (Value.int .u8))
theorem byte_shr (x : Int) (j : Nat) (h0 : 0 ≤ x) : x / 2 ^ (8 * j) % 256 = x / pow2 (8 * j) % 256 := by rw [two_pow_int]
theorem rput_any (v : Value) (B : Nat) (l : List Int) (x : Int) (n : Nat) (w : World) (ho : OwnB w B v l) (hB : B ≤ w.heap.size) (hl : l.length ≤ 100000) (h8 : n ≤ 8) (hx : 0 ≤ x ∧ x < 18446744073709551616) :
    Calls Tryz.prog 32 #[v, .int .u64 x, .int .i64 n] w fun e w' => ∃ v', e = .returned v' ∧ OwnB w' B v' (l ++ leB n x) ∧ Below B w w' := by
  obtain ⟨i0, hi, hz0, hz1, hz2⟩ := info_parts rowU8
  obtain ⟨hx0, hx1⟩ := hx
  have HI := hid_mk hi
  have HZ := hid_mk (And.intro hz0 (And.intro hz1 hz2))
  have HO := hid_mk ho
  have HB := hid_mk hB
  have hni : (n : Int) ≤ 8 := by omega
  clear hi hz0 hz1 hz2 ho hB
  go_enter Tryz.func32, Tryz.ntmps32
  go_wp2_with fail
  go_loopw [0, 7] (fun s i wr => ∃ k : Nat, k ≤ n ∧ i = .int .i64 k ∧ Hid (OwnB wr B s (l ++ leB k x)) ∧ Below B w wr) (fun _ i _ => n - (intOf i).toNat)
  case atStart => exact ⟨0, Nat.zero_le _, rfl, hid_mk (by rw [leB, List.append_nil]; exact HO.out), Below.refl _ _⟩
  case round =>
    obtain ⟨k, hk, rfl, hO, hbel⟩ := hrel
    have hz := hbel.size
    by_cases hlt : k < n
    · have hki : (k : Int) < (n : Int) := by omega
      have hwk : IntKind.i64.wrap (8 * (k : Int)) = 8 * (k : Int) := IntWalk.i64_in _ (by omega)
      have hwu : IntKind.u64.wrap (8 * (k : Int)) = 8 * (k : Int) := by rw [IntKind.wrap_u64]; omega
      have hnew : l ++ leB (k + 1) x = (l ++ leB k x) ++ [x / 2 ^ (8 * k) % 256] := by rw [leB_snoc, List.append_assoc, two_pow_int]
      have hll : (l ++ leB k x).length = l.length + k := by rw [List.length_append, leB_length]
      have hnl : (l ++ leB (k + 1) x).length = (l ++ leB k x).length + 1 := by rw [List.length_append, List.length_append, leB_length, leB_length]; omega
      have hra : ∃ v' w2, (∀ ty, (Builtin.append_ #[47, 47] ty #[u0, .slice (some ⟨wr.heap.size, 0, none⟩) 1 1]).run Tryz.prog (wr.alloc (.cells #[.int .u8 (x / 2 ^ (8 * k) % 256)] 5)) = .ok v' w2) ∧ OwnB w2 B v' (l ++ leB (k + 1) x) ∧ Below B w w2 := by
        obtain ⟨v', w2, h1, h2, h3, _⟩ := run_append_own (P := Tryz.prog) (wr.alloc (.cells #[.int .u8 (x / 2 ^ (8 * k) % 256)] 5)) B 47 47 5 i0 _ 1 1 Tryz.underlying47 HI.out HZ.out.1 HZ.out.2.1 HZ.out.2.2 rfl (by decide) u0 _ _ (hO.out.alloc _) ⟨wr.heap.size, 0, none⟩ 1 1 [.int .u8 (x / 2 ^ (8 * k) % 256)] rfl (cell_one_new _ _ _) (fun u hu => by
          rw [List.mem_singleton] at hu
          subst hu
          rfl) (by rw [hll]; simp [maxLen]; omega) (by rw [hll]; omega) (by rw [sizeA]; have := HB.out; omega)
        refine ⟨v', w2, fun ty => h1, ?_, ?_⟩
        · unfold OwnB
          rw [hnl, hnew, List.map_append]
          exact h2
        · have hq : Below B wr w2 := ((Below.refl _ _).alloc (by have := HB.out; omega) _).trans (grown_below h3 (by rw [sizeA]; have := HB.out; omega) (fun q hq => (hO.out.lt q hq).1))
          exact hbel.trans hq
      obtain ⟨v', w2, h1, h2, h3⟩ := hra
      have HR := hid_mk h1
      have HO2 := hid_mk h2
      have HB2 := hid_mk h3
      clear h1 h2 h3 hnew hll hnl hz
      go_wp2_with (at_builtin; refine wpList_append_run (v := u0) (u := .slice (some ⟨wr.heap.size, 0, none⟩) 1 1) (v' := v') (w' := w2) rfl (.tmp 13) (.tmp 20) 47 rfl (by first | rfl | go_simp) (by first | rfl | go_simp) (HR.out _) ?_)
      go_roundw
      case rel => exact ⟨k + 1, by omega, by go_num, HO2, HB2.out⟩
      case measure => simp [intOf] <;> omega
    · obtain rfl : k = n := by omega
      go_wp2_with fail
      go_ret
      exact ⟨_, rfl, hO.out, hbel⟩

end Go.Proofs.YtfhhgcgbgmilcaaGreat
