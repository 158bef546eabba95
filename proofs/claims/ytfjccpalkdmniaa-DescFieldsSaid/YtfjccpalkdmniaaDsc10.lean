/- What desc's theorems need of bytes and words: reading back; comparisons. Conditions: as each theorem names them. -/
import Derived.Test.YtfjccpalkdmniaaDsc9
import Derived.OpenShut
import Derived.ShutString
namespace Go.Proofs.Ytfjccpalkdmniaa
open Go.ChangeShapes Go.WideShapes Go.ChangeAt Go.RowKit
set_option linter.unusedVariables false
set_option maxRecDepth 100000

theorem dR_dB {d : Dsc} (h : isDsc d) : dR (dB d) = d := by
  obtain ⟨ha, hl, hf, hn⟩ := h
  have e0 : ((dB d).drop 0).take 8 = leB 8 d.a := by
    unfold dB
    rw [List.drop_zero, List.take_append_of_le_length (by rw [leB_length]; omega), List.take_of_length_le (by rw [leB_length]; omega)]
  have e1 : ((dB d).drop 8).take 4 = leB 4 d.l := by
    unfold dB
    rw [List.drop_append, List.drop_of_length_le (by rw [leB_length]; omega), leB_length, List.nil_append, Nat.sub_self, List.drop_zero, List.take_append_of_le_length (by rw [leB_length]; omega), List.take_of_length_le (by rw [leB_length]; omega)]
  have e2 : ((dB d).drop 12).take 2 = leB 2 d.f := by
    unfold dB
    rw [List.drop_append, List.drop_of_length_le (by rw [leB_length]; omega), leB_length, List.nil_append, List.drop_append, List.drop_of_length_le (by rw [leB_length]; omega), leB_length, List.nil_append]
    rw [show 12 - 8 - 4 = 0 from rfl, List.drop_zero, List.take_append_of_le_length (by rw [leB_length]; omega), List.take_of_length_le (by rw [leB_length]; omega)]
  have e3 : ((dB d).drop 14).take 2 = leB 2 d.n := by
    unfold dB
    rw [List.drop_append, List.drop_of_length_le (by rw [leB_length]; omega), leB_length, List.nil_append, List.drop_append, List.drop_of_length_le (by rw [leB_length]; omega), leB_length, List.nil_append, List.drop_append, List.drop_of_length_le (by rw [leB_length]; omega), leB_length, List.nil_append]
    rw [show 14 - 8 - 4 - 2 = 0 from rfl, List.drop_zero, List.take_of_length_le (by rw [leB_length]; omega)]
  unfold dR
  rw [e0, e1, e2, e3, le_leB 8 _ ha.1 ha.2, le_leB 4 _ hl.1 hl.2, le_leB 2 _ hf.1 hf.2, le_leB 2 _ hn.1 hn.2]
theorem tabB_part : ∀ (L : List Dsc) (k : Nat), k < L.length → ((tabB L).drop (16 * k)).take 16 = dB (dat L k)
  | [], k, h => by simp at h
  | d :: L, 0, _ => by
    have := dB_length d
    rw [tabB, Nat.mul_zero, List.drop_zero, List.take_append_of_le_length (by omega), List.take_of_length_le (by omega)]
    rfl
  | d :: L, k + 1, h => by
    have h1 := dB_length d
    have ih := tabB_part L k (by simpa using h)
    rw [dat_succ, tabB, List.drop_append, List.drop_of_length_le (by omega), List.nil_append, h1, show 16 * (k + 1) - 16 = 16 * k from by omega, ih]
theorem rdT_tabB {L : List Dsc} (h : isDscs L) : rdT L.length (tabB L) = L := by
  apply List.ext_getElem
  · rw [rdT_length]
  · intro i h1 h2
    have hd := dR_dB (dat_is h i)
    have hp := tabB_part L i h2
    simp only [rdT, List.getElem_map, List.getElem_range, hp, hd]
    simp [dat, List.getD, h2]
theorem dB_inj {a b : Dsc} (ha : isDsc a) (hb : isDsc b) (h : dB a = dB b) : a = b := by
  rw [← dR_dB ha, ← dR_dB hb, h]
theorem nums_inj : ∀ {a b : List Int}, isBytes a → isBytes b → (strOfNums a).data.toList = (strOfNums b).data.toList → a = b := by
  intro a b ha hb h2
  rw [strOfNums_data, strOfNums_data] at h2
  induction a generalizing b with
  | nil =>
    cases b with
    | nil => rfl
    | cons y b => simp at h2
  | cons x a ih =>
    cases b with
    | nil => simp at h2
    | cons y b =>
      simp only [List.map_cons, List.cons.injEq] at h2
      have hx := (isBytes_cons ha).1
      have hy := (isBytes_cons hb).1
      have e := congrArg UInt8.toNat h2.1
      rw [UInt8.toNat_ofNat', UInt8.toNat_ofNat'] at e
      rw [ih (isBytes_cons ha).2 (isBytes_cons hb).2 h2.2, show x = y by omega]
/-- are they the same? -/
def sameD (x y : Dsc) : Bool := x.a == y.a && x.l == y.l && x.f == y.f && x.n == y.n
theorem sameD_iff (x y : Dsc) : sameD x y = true ↔ x = y := by
  obtain ⟨a, l, f, n⟩ := x
  obtain ⟨a', l', f', n'⟩ := y
  simp [sameD, and_assoc]
theorem sameD_self (x : Dsc) : sameD x x = true := (sameD_iff x x).2 rfl
theorem sameD_no {x y : Dsc} (h : x ≠ y) : sameD x y = false := by
  cases hs : sameD x y
  · rfl
  · exact absurd ((sameD_iff x y).1 hs) h
theorem fieldsD : Try.prog.underlying 56 = some (.struct (Try.prog.fieldsOf 56)) := by kernel_rfl
theorem stoodD : Try.prog.stoodInHeld 56 = false := by kernel_rfl
theorem eqD (x y : Dsc) (w : World) : (binOp .eql 56 (dV x) (dV y)).run Try.prog w = .ok (.bool (sameD x y)) w := by
  rw [run_eql_struct, run_equalIn_agg w 9999 56 _ _ fieldsD stoodD]
  have hf := fieldsD
  rw [Try.underlying56] at hf
  simp at hf
  rw [← hf]
  simp [Op.eqFields, go_sem, Try.underlying26, Try.underlying53, Try.underlying54, sameD]
  by_cases h1 : x.a = y.a <;> by_cases h2 : x.l = y.l <;> by_cases h3 : x.f = y.f <;> by_cases h4 : x.n = y.n <;> simp [h1, h2, h3, h4]
theorem fieldsP : Try.prog.underlying 60 = some (.struct (Try.prog.fieldsOf 60)) := by kernel_rfl
theorem stoodP : Try.prog.stoodInHeld 60 = false := by kernel_rfl
theorem eqP (x y : Dsc) (w : World) : (binOp .eql 60 (dV x) (dV y)).run Try.prog w = .ok (.bool (sameD x y)) w := by
  rw [run_eql_struct, run_equalIn_agg w 9999 60 _ _ fieldsP stoodP]
  have hf := fieldsP
  rw [Try.underlying60] at hf
  simp at hf
  rw [← hf]
  simp [Op.eqFields, go_sem, Try.underlying26, Try.underlying53, Try.underlying54, sameD]
  by_cases h1 : x.a = y.a <;> by_cases h2 : x.l = y.l <;> by_cases h3 : x.f = y.f <;> by_cases h4 : x.n = y.n <;> simp [h1, h2, h3, h4]
theorem fieldsU : Try.prog.underlying 68 = some (.struct (Try.prog.fieldsOf 68)) := by kernel_rfl
theorem stoodU : Try.prog.stoodInHeld 68 = false := by kernel_rfl
theorem eqU (x y x' y' : Int) (w : World) : (binOp .eql 68 (.agg #[.int .u32 x, .int .u32 y]) (.agg #[.int .u32 x', .int .u32 y'])).run Try.prog w = .ok (.bool (x == x' && y == y')) w := by
  rw [run_eql_struct, run_equalIn_agg w 9999 68 _ _ fieldsU stoodU]
  have hf := fieldsU
  rw [Try.underlying68] at hf
  simp at hf
  rw [← hf]
  simp [Op.eqFields, go_sem, Try.underlying53]
  by_cases h1 : x = x' <;> by_cases h2 : y = y' <;> simp [h1, h2]
theorem fieldsE : Try.prog.underlying 71 = some (.struct (Try.prog.fieldsOf 71)) := by kernel_rfl
theorem stoodE : Try.prog.stoodInHeld 71 = false := by kernel_rfl
theorem eqE (x y x' y' : Int) (w : World) : (binOp .eql 71 (.agg #[.int .u16 x, .int .u16 y]) (.agg #[.int .u16 x', .int .u16 y'])).run Try.prog w = .ok (.bool (x == x' && y == y')) w := by
  rw [run_eql_struct, run_equalIn_agg w 9999 71 _ _ fieldsE stoodE]
  have hf := fieldsE
  rw [Try.underlying71] at hf
  simp at hf
  rw [← hf]
  simp [Op.eqFields, go_sem, Try.underlying54]
  by_cases h1 : x = x' <;> by_cases h2 : y = y' <;> simp [h1, h2]

/-- two strings of bytes -/
theorem eqS (a b : List Int) (w : World) (ha : isBytes a) (hb : isBytes b) : (binOp .eql 9 (.string (strOfNums a)) (.string (strOfNums b))).run Try.prog w = .ok (.bool (decide (a = b))) w := by
  by_cases h : a = b
  · subst h
    simp [go_sem]
  · have hne : ¬(strOfNums a).toList = (strOfNums b).toList := fun e => h (nums_inj ha hb (by rw [ByteArray.toList_eq, ByteArray.toList_eq] at e; exact e))
    simp [go_sem, h, hne]
theorem eqSD (a b : Dsc) (w : World) (ha : isDsc a) (hb : isDsc b) : (binOp .eql 9 (.string (strOfNums (dB a))) (.string (strOfNums (dB b)))).run Try.prog w = .ok (.bool (sameD a b)) w := by
  rw [eqS _ _ _ (dB_bytes _) (dB_bytes _)]
  by_cases h : a = b
  · subst h
    simp [sameD_self]
  · have hne : dB a ≠ dB b := fun e => h (dB_inj ha hb e)
    rw [sameD_no h]
    simp [hne]
end Go.Proofs.Ytfjccpalkdmniaa
