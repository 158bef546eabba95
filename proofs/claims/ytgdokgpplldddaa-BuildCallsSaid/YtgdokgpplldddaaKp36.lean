/- Dsc10 Dsc11: joined texts. Conditions: as each theorem names them. -/
import Derived.Test.YtgdokgpplldddaaKp35
import Derived.Test.YtgdokgpplldddaaKp24
import Derived.OpenShut
import Derived.ShutString
import Derived.Deep.SlicePairs
import Derived.Lib.SmallJoins
import Derived.BigQuiet
/- What desc's theorems need of bytes and words: reading back; comparisons. Conditions: as each theorem names them. -/
namespace Go.Proofs.Ytgdokgpplldddaa
open Go.ChangeShapes Go.WideShapes Go.ChangeAt Go.RowKit
set_option linter.unusedVariables false
set_option maxRecDepth 100000

theorem dR_dB {d : Dsc} (h : isDsc d) : dR (dB d) = d := by
  obtain ⟨ha, hl, hf, hn⟩ := h
  have e0 : ((dB d).drop 0).take 8 = leB 8 d.a := by
    unfold dB
    rw [List.drop_zero, List.take_append_of_le_length (by rw [leB_length]; omega), List.take_of_length_le (by rw [leB_length]; omega)]
  have e1 : ((dB d).drop 8).take 4 = leB 4 d.l := by
    unfold dB
    rw [List.drop_append, List.drop_of_length_le (by rw [leB_length]; omega), leB_length, List.nil_append, Nat.sub_self, List.drop_zero, List.take_append_of_le_length (by rw [leB_length]; omega), List.take_of_length_le (by rw [leB_length]; omega)]
  have e2 : ((dB d).drop 12).take 2 = leB 2 d.f := by
    unfold dB
    rw [List.drop_append, List.drop_of_length_le (by rw [leB_length]; omega), leB_length, List.nil_append, List.drop_append, List.drop_of_length_le (by rw [leB_length]; omega), leB_length, List.nil_append]
    rw [show 12 - 8 - 4 = 0 from rfl, List.drop_zero, List.take_append_of_le_length (by rw [leB_length]; omega), List.take_of_length_le (by rw [leB_length]; omega)]
  have e3 : ((dB d).drop 14).take 2 = leB 2 d.n := by
    unfold dB
    rw [List.drop_append, List.drop_of_length_le (by rw [leB_length]; omega), leB_length, List.nil_append, List.drop_append, List.drop_of_length_le (by rw [leB_length]; omega), leB_length, List.nil_append, List.drop_append, List.drop_of_length_le (by rw [leB_length]; omega), leB_length, List.nil_append]
    rw [show 14 - 8 - 4 - 2 = 0 from rfl, List.drop_zero, List.take_of_length_le (by rw [leB_length]; omega)]
  unfold dR
  rw [e0, e1, e2, e3, le_leB 8 _ ha.1 ha.2, le_leB 4 _ hl.1 hl.2, le_leB 2 _ hf.1 hf.2, le_leB 2 _ hn.1 hn.2]
theorem tabB_part : ∀ (L : List Dsc) (k : Nat), k < L.length → ((tabB L).drop (16 * k)).take 16 = dB (dat L k)
  | [], k, h => by simp at h
  | d :: L, 0, _ => by
    have := dB_length d
    rw [tabB, Nat.mul_zero, List.drop_zero, List.take_append_of_le_length (by omega), List.take_of_length_le (by omega)]
    rfl
  | d :: L, k + 1, h => by
    have h1 := dB_length d
    have ih := tabB_part L k (by simpa using h)
    rw [dat_succ, tabB, List.drop_append, List.drop_of_length_le (by omega), List.nil_append, h1, show 16 * (k + 1) - 16 = 16 * k from by omega, ih]
theorem rdT_tabB {L : List Dsc} (h : isDscs L) : rdT L.length (tabB L) = L := by
  apply List.ext_getElem
  · rw [rdT_length]
  · intro i h1 h2
    have hd := dR_dB (dat_is h i)
    have hp := tabB_part L i h2
    simp only [rdT, List.getElem_map, List.getElem_range, hp, hd]
    simp [dat, List.getD, h2]
theorem dB_inj {a b : Dsc} (ha : isDsc a) (hb : isDsc b) (h : dB a = dB b) : a = b := by
  rw [← dR_dB ha, ← dR_dB hb, h]
theorem nums_inj : ∀ {a b : List Int}, isBytes a → isBytes b → (strOfNums a).data.toList = (strOfNums b).data.toList → a = b := by
  intro a b ha hb h2
  rw [strOfNums_data, strOfNums_data] at h2
  induction a generalizing b with
  | nil =>
    cases b with
    | nil => rfl
    | cons y b => simp at h2
  | cons x a ih =>
    cases b with
    | nil => simp at h2
    | cons y b =>
      simp only [List.map_cons, List.cons.injEq] at h2
      have hx := (isBytes_cons ha).1
      have hy := (isBytes_cons hb).1
      have e := congrArg UInt8.toNat h2.1
      rw [UInt8.toNat_ofNat', UInt8.toNat_ofNat'] at e
      rw [ih (isBytes_cons ha).2 (isBytes_cons hb).2 h2.2, show x = y by omega]
/-- are they the same? -/
def sameD (x y : Dsc) : Bool := x.a == y.a && x.l == y.l && x.f == y.f && x.n == y.n
theorem sameD_iff (x y : Dsc) : sameD x y = true ↔ x = y := by
  obtain ⟨a, l, f, n⟩ := x
  obtain ⟨a', l', f', n'⟩ := y
  simp [sameD, and_assoc]
theorem sameD_self (x : Dsc) : sameD x x = true := (sameD_iff x x).2 rfl
theorem sameD_no {x y : Dsc} (h : x ≠ y) : sameD x y = false := by
  cases hs : sameD x y
  · rfl
  · exact absurd ((sameD_iff x y).1 hs) h
theorem fieldsD : Try.prog.underlying 38 = some (.struct (Try.prog.fieldsOf 38)) := by kernel_rfl
theorem stoodD : Try.prog.stoodInHeld 38 = false := by kernel_rfl
theorem eqD (x y : Dsc) (w : World) : (binOp .eql 38 (dV x) (dV y)).run Try.prog w = .ok (.bool (sameD x y)) w := by
  rw [run_eql_struct, run_equalIn_agg w 9999 38 _ _ fieldsD stoodD]
  have hf := fieldsD
  rw [Try.underlying38] at hf
  simp at hf
  rw [← hf]
  simp [Op.eqFields, go_sem, Try.underlying34, Try.underlying35, Try.underlying36, sameD]
  by_cases h1 : x.a = y.a <;> by_cases h2 : x.l = y.l <;> by_cases h3 : x.f = y.f <;> by_cases h4 : x.n = y.n <;> simp [h1, h2, h3, h4]
theorem fieldsP : Try.prog.underlying 44 = some (.struct (Try.prog.fieldsOf 44)) := by kernel_rfl
theorem stoodP : Try.prog.stoodInHeld 44 = false := by kernel_rfl
theorem eqP (x y : Dsc) (w : World) : (binOp .eql 44 (dV x) (dV y)).run Try.prog w = .ok (.bool (sameD x y)) w := by
  rw [run_eql_struct, run_equalIn_agg w 9999 44 _ _ fieldsP stoodP]
  have hf := fieldsP
  rw [Try.underlying44] at hf
  simp at hf
  rw [← hf]
  simp [Op.eqFields, go_sem, Try.underlying34, Try.underlying35, Try.underlying36, sameD]
  by_cases h1 : x.a = y.a <;> by_cases h2 : x.l = y.l <;> by_cases h3 : x.f = y.f <;> by_cases h4 : x.n = y.n <;> simp [h1, h2, h3, h4]
/-- two strings of bytes -/
theorem eqS (a b : List Int) (w : World) (ha : isBytes a) (hb : isBytes b) : (binOp .eql 9 (.string (strOfNums a)) (.string (strOfNums b))).run Try.prog w = .ok (.bool (decide (a = b))) w := by
  by_cases h : a = b
  · subst h
    simp [go_sem]
  · have hne : ¬(strOfNums a).toList = (strOfNums b).toList := fun e => h (nums_inj ha hb (by rw [ByteArray.toList_eq, ByteArray.toList_eq] at e; exact e))
    simp [go_sem, h, hne]
theorem eqSD (a b : Dsc) (w : World) (ha : isDsc a) (hb : isDsc b) : (binOp .eql 9 (.string (strOfNums (dB a))) (.string (strOfNums (dB b)))).run Try.prog w = .ok (.bool (sameD a b)) w := by
  rw [eqS _ _ _ (dB_bytes _) (dB_bytes _)]
  by_cases h : a = b
  · subst h
    simp [sameD_self]
  · have hne : dB a ≠ dB b := fun e => h (dB_inj ha hb e)
    rw [sameD_no h]
    simp [hne]
end Go.Proofs.Ytgdokgpplldddaa

/- Layer 3's arguments as they came in; kit.SameDescs of two slices of the same descriptors. Conditions: as each theorem names them. -/
namespace Go.Proofs.Ytgdokgpplldddaa
open Go.ChangeShapes Go.WideShapes Go.ChangeAt Go.RowKit
set_option linter.unusedVariables false
set_option maxRecDepth 100000

section
variable {H : Type} {enc : TypeId × Value → H} {W : World} {r : Reach} {b0 : Nat} {v : Value} {d : DataW H} {p : List MemPlace}

theorem open_dsc (hval : Value.okWide Try.prog W r b0 38 v) (h : DataW.Trod enc Try.prog W 0 (fun _ => true) true 38 v d p) : ∃ x : Dsc, v = dV x ∧ isDsc x := by
  obtain ⟨c0, c1, c2, c3, y0, y1, y2, y3, m, rfl, rfl, rfl, h0, h1, h2, h3⟩ := Go.Joins.open_agg4 Try.underlying38 (by kernel_rfl) (by kernel_rfl) hval h
  obtain ⟨n0, e0, _, w0⟩ := DataW.trod_int Try.underlying34 h0
  obtain ⟨n1, e1, _, w1⟩ := DataW.trod_int Try.underlying35 h1
  obtain ⟨n2, e2, _, w2⟩ := DataW.trod_int Try.underlying36 h2
  obtain ⟨n3, e3, _, w3⟩ := DataW.trod_int Try.underlying36 h3
  simp at e0 e1 e2 e3
  subst e0 e1 e2 e3
  have u0 := bounds_u64 w0
  have u1 := bounds_u32 w1
  have u2 := bounds_u16 w2
  have u3 := bounds_u16 w3
  exact ⟨⟨n0, n1, n2, n3⟩, rfl, ⟨by simp only; omega, by simp only; omega, by simp only; omega, by simp only; omega⟩⟩
theorem open_pck (hval : Value.okWide Try.prog W r b0 44 v) (h : DataW.Trod enc Try.prog W 0 (fun _ => true) true 44 v d p) : ∃ x : Dsc, v = dV x ∧ isDsc x := by
  obtain ⟨c0, c1, c2, c3, y0, y1, y2, y3, m, rfl, rfl, rfl, h0, h1, h2, h3⟩ := Go.Joins.open_agg4 Try.underlying44 (by kernel_rfl) (by kernel_rfl) hval h
  obtain ⟨n0, e0, _, w0⟩ := DataW.trod_int Try.underlying34 h0
  obtain ⟨n1, e1, _, w1⟩ := DataW.trod_int Try.underlying35 h1
  obtain ⟨n2, e2, _, w2⟩ := DataW.trod_int Try.underlying36 h2
  obtain ⟨n3, e3, _, w3⟩ := DataW.trod_int Try.underlying36 h3
  simp at e0 e1 e2 e3
  subst e0 e1 e2 e3
  have u0 := bounds_u64 w0
  have u1 := bounds_u32 w1
  have u2 := bounds_u16 w2
  have u3 := bounds_u16 w3
  exact ⟨⟨n0, n1, n2, n3⟩, rfl, ⟨by simp only; omega, by simp only; omega, by simp only; omega, by simp only; omega⟩⟩
instance : Inhabited Dsc := ⟨⟨0, 0, 0, 0⟩⟩
theorem list4 {α : Type} {l : List α} (h : l.length = 4) : ∃ a b c d, l = [a, b, c, d] := by
  match l, h with
  | [a, b, c, d], _ => exact ⟨a, b, c, d, rfl⟩
theorem open_descs (hval : Value.okWide Try.prog W r b0 59 v) (h : DataW.Trod enc Try.prog W 0 (fun _ => true) true 59 v d p) :
    ∃ L, DescsAt W v L ∧ isDscs L ∧ L.length ≤ maxLen := by
  obtain ⟨a, len, cap, rfl⟩ := okWide_slice Try.underlying59 hval
  obtain ⟨fuel, hf⟩ := h
  rcases Go.Deep.open_slice Try.underlying59 hf with ⟨hcs, _⟩ | ⟨a', len', cap', m, n, D, Pl, hcs, _, hle, hmax, hm, _, hx⟩
  · simp [Value.cells] at hcs
    obtain ⟨rfl, rfl, rfl⟩ := hcs
    exact ⟨[], Or.inl ⟨⟨_, _, rfl, fun _ => rfl⟩, rfl⟩, (fun d hd => by cases hd), by simp⟩
  · simp [Value.cells] at hcs
    obtain ⟨rfl, rfl, rfl⟩ := hcs
    simp only [if_true] at hm
    subst hm
    have hC : Try.prog.cellsOf 38 = 4 := by kernel_rfl
    have hC64 : Try.prog.cellsOf 34 = 1 := by kernel_rfl
    have hC32 : Try.prog.cellsOf 35 = 1 := by kernel_rfl
    have hC16 : Try.prog.cellsOf 36 = 1 := by kernel_rfl
    have each : ∀ i, i < len → ∃ x : Dsc, (W.cell? (a'.add (i * 4)) = some (.int .u64 x.a) ∧ W.cell? (a'.add (i * 4 + 1)) = some (.int .u32 x.l) ∧ W.cell? (a'.add (i * 4 + 2)) = some (.int .u16 x.f) ∧ W.cell? (a'.add (i * 4 + 3)) = some (.int .u16 x.n)) ∧ isDsc x := fun i hi => by
      obtain ⟨cs', h1, h2⟩ := hx i (by omega)
      rw [hC] at h1
      obtain ⟨_, hlen, hcell⟩ := World.cells?_some h1
      obtain ⟨v0, v1, v2, v3, rfl⟩ := list4 hlen
      obtain ⟨xs, k, hk, hxy, _, hxl, hfd⟩ := DataW.trod_struct Try.underlying38 h2
      obtain ⟨y0, y1, y2, y3, rfl⟩ := list4 hxl
      have g0 := hfd 0 _ rfl
      have g1 := hfd 1 _ rfl
      have g2 := hfd 2 _ rfl
      have g3 := hfd 3 _ rfl
      simp [hC64, hC32, hC16] at g0 g1 g2 g3
      obtain ⟨n0, e0, _, w0⟩ := DataW.trod_int Try.underlying34 g0
      obtain ⟨n1, e1, _, w1⟩ := DataW.trod_int Try.underlying35 g1
      obtain ⟨n2, e2, _, w2⟩ := DataW.trod_int Try.underlying36 g2
      obtain ⟨n3, e3, _, w3⟩ := DataW.trod_int Try.underlying36 g3
      simp at e0 e1 e2 e3
      subst e0 e1 e2 e3
      have c0 := hcell 0 (by omega)
      have c1 := hcell 1 (by omega)
      have c2 := hcell 2 (by omega)
      have c3 := hcell 3 (by omega)
      rw [Go.Deep.add_add] at c0 c1 c2 c3
      have u0 := bounds_u64 w0
      have u1 := bounds_u32 w1
      have u2 := bounds_u16 w2
      have u3 := bounds_u16 w3
      exact ⟨⟨n0, n1, n2, n3⟩, ⟨c0, c1, c2, c3⟩, ⟨by simp only; omega, by simp only; omega, by simp only; omega, by simp only; omega⟩⟩
    obtain ⟨f, hf2⟩ := Go.Deep.choose_lt each
    have hlen : ((List.range len).map f).length = len := by simp
    have hat : ∀ i, i < len → dat ((List.range len).map f) i = f i := fun i hi => by simp [dat, List.getD, hi]
    refine ⟨(List.range len).map f, ?_, (fun d hd => by
      obtain ⟨i, hi, rfl⟩ := List.mem_map.1 hd
      exact (hf2 i (by simpa using hi)).2), by rw [hlen]; omega⟩
    by_cases h0 : len = 0
    · subst h0
      exact Or.inl ⟨⟨_, _, rfl, fun h => by cases h⟩, rfl⟩
    · obtain ⟨b, off, spot⟩ := a'
      have hspot : spot = none := by simpa [Addr.add] using World.cell?_spot (hf2 0 (by omega)).1.1
      subst hspot
      have h00 := (hf2 0 (by omega)).1.1
      rw [add_plain] at h00
      refine Or.inr ⟨b, off, m, by rw [hlen], World.block_lt_of_cell? W _ h00, by omega, fun j hj => ?_⟩
      rw [hlen] at hj
      have h1 := (hf2 j hj).1
      simp only [add_plain] at h1
      rw [hat j hj]
      exact ⟨h1.1, by rw [Nat.add_assoc]; exact h1.2.1, by rw [Nat.add_assoc]; exact h1.2.2.1, by rw [Nat.add_assoc]; exact h1.2.2.2⟩
end

/-! ## the contracts with a name for the new block -/
theorem pbytes_ex (d : Dsc) (w : World) (hd : isDsc d) :
    Calls Try.prog 51 #[dV d] w fun e w' => ∃ b, e = .returned (.slice (some ⟨b, 0, none⟩) 16 16) ∧ w.heap.size ≤ b ∧ Row w' b 111 (dB d) ∧ Below w.heap.size w w' := by
  refine (pbytes_any d w hd).mono ?_
  rintro e w' ⟨rfl, hr, hb⟩
  exact ⟨_, rfl, by omega, hr, hb⟩
theorem table_ex (v : Value) (L : List Dsc) (w : World) (hv : DescsAt w v L) (hu : isDscs L) (h300 : L.length ≤ 300) :
    Calls Try.prog 43 #[v] w fun e w' => ∃ b, e = .returned (.slice (some ⟨b, 0, none⟩) (16 * L.length) (16 * L.length)) ∧ w.heap.size ≤ b ∧ Row w' b 5 (tabB L) ∧ Below w.heap.size w w' := by
  refine (table_any v L w hv hu h300).mono ?_
  rintro e w' ⟨rfl, hr, hb⟩
  exact ⟨_, rfl, Nat.le_refl _, hr, hb⟩
theorem below_more {w a b : World} (h : Below w.heap.size w a) (hb : Below a.heap.size a b) : Below w.heap.size w b := h.trans (hb.mono h.size)
end Go.Proofs.Ytgdokgpplldddaa
