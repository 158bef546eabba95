/- Contracts of the kit's copies: Own, Regions; and of its looks: LightRegions, SameRegions. Conditions: as each theorem names them. -/
import Derived.Test.YteolnghnlfeakaaGm8
import Derived.Laws.AppendOwn
import Derived.Laws.OwnMore
import Derived.Deep.RegionHeld3
import Derived.OwnWalk
namespace Go.Proofs.Yteolnghnlfeakaa
open Go.ChangeShapes Go.WideShapes Go.ChangeAt Go.RowKit
set_option linter.unusedVariables false
set_option maxRecDepth 100000

/-- append by an equation of its run -/
theorem wpList_append_run {P : Program} {w w' : World} {ops : Array Oper} {rest : List Oper} {o : Oper} {a : Act} {Q : Exit → Act → World → Prop} {v u v' : Value} (hgd : o.guard = none) (s x : Operand) (t : TypeId)
    (ho : o.op = .call { callee := .builtin .append, args := #[s, x], argTypes := #[t, t] }) (hs : a.eval s = v) (hx : a.eval x = u)
    (hrun : (Builtin.append_ #[t, t] o.type #[v, u]).run P w = .ok v' w') (h : wpList P ops Q rest (a.put o.dst v') w') : wpList P ops Q (o :: rest) a w := by
  refine wpList_plain hgd fun K hK => ?_
  unfold Oper.wp
  simp [execOp, ho, resolve, invoke, builtin, hs, hx, hrun, Result.andThen]
  exact hK _ _ h

theorem newBytes_of {B : Nat} {w : World} {v : Value} {n : Nat} {l : List Int} (h : w.ownsRow B 5 1 v n (l.map (Value.int .u8))) : NewBytes B w v l := by
  obtain ⟨h1, h2⟩ := h
  simp at h1
  rcases h2 with ⟨rfl, rfl⟩ | ⟨g, cap, cur, rfl, hg, hh, hn, hm, hs, ht⟩
  · left
    exact ⟨rfl, List.length_eq_zero_iff.1 h1⟩
  · right
    subst h1
    simp only [Nat.mul_one] at hs ht
    refine ⟨g, cap, rfl, hg, hn, cur.toList.drop l.length, ?_, ?_⟩
    · rw [hh, ← ht, List.take_append_drop]
    · simp [hs]
      omega
theorem grown_below {w w' : World} {row : Option Nat} {B : Nat} (hg : w.grownBy w' row) (hB : B ≤ w.heap.size) (hr : ∀ k, row = some k → B ≤ k) : Below B w w' := (Below.refl B w).grown hg hB hr
theorem news_of {W : World} {b o c : Nat} {l : List Int} (h : ∀ j, j < l.length → W.cell? ⟨b, o + j, none⟩ = some (.int .u8 (l.getD j 0))) : ∀ j u, (l.map (Value.int .u8))[j]? = some u → W.cell? ((⟨b, o, none⟩ : Addr).add j) = some u := fun j u hu => by
  have hj : j < l.length := by
    have := (List.getElem?_eq_some_iff.1 hu).1
    simpa using this
  rw [show (⟨b, o, none⟩ : Addr).add j = ⟨b, o + j, none⟩ from by unfold Addr.add; split <;> simp_all, h j hj]
  simp [hj] at hu
  subst hu
  simp [List.getD, hj]
theorem one_of {k : IntKind} {l : List Int} : ∀ u ∈ l.map (Value.int k), u.oneCell' = true := fun u hu => by
  obtain ⟨x, _, rfl⟩ := List.mem_map.1 hu
  rfl

theorem own_any (v : Value) (l : List Int) (w : World) (hv : BytesAt w v l) (hl : l.length ≤ 1000000) :
    Calls Try.prog 29 #[v] w fun e w' => ∃ v', e = .returned v' ∧ NewBytes w.heap.size w' v' l ∧ Below w.heap.size w w' := by
  obtain ⟨i0, hi, hz0, hz1, hz2⟩ := info_parts rowU8
  have hown := World.ownsRow_made (e := 5) (size := 1) (base := w.heap.size) w #[] 0 (Nat.le_refl _) (by simp [maxLen]) rfl
  have hbase : w.heap.size ≤ (w.alloc (.cells #[] 5)).heap.size := by rw [sizeA]; omega
  have hrun : ∃ v' w', (∀ ty, (Builtin.append_ #[38, 38] ty #[.slice (some ⟨w.heap.size, 0, none⟩) 0 0, v]).run Try.prog (w.alloc (.cells #[] 5)) = .ok v' w') ∧ NewBytes w.heap.size w' v' l ∧ Below w.heap.size w w' := by
    rcases hv with ⟨⟨a, c, rfl, hac⟩, rfl⟩ | ⟨b, o, c, rfl, hb1, hb2, hb3⟩
    · cases a with
      | none =>
        refine ⟨_, _, fun ty => by rw [hac rfl]; exact run_append_owned_none _ w.heap.size 38 ty 5 i0 1 Try.underlying38 hi _ 0 [] hown, ?_, ?_⟩
        · exact Or.inr ⟨w.heap.size, 0, rfl, Nat.le_refl _, Nat.le_refl _, [], heap_alloc_new _ _, rfl⟩
        · exact (Below.refl _ _).alloc (Nat.le_refl _) _
      | some a =>
        obtain ⟨v', w', h1, h2, h3, _⟩ := run_append_own (w.alloc (.cells #[] 5)) w.heap.size 38 38 5 i0 _ 1 1 Try.underlying38 hi hz0 hz1 hz2 rfl (by decide) _ 0 [] hown a 0 c [] rfl (fun j u hu => by simp at hu) (fun u hu => by cases hu) (by simp [maxLen]) (by decide) hbase
        exact ⟨v', w', fun ty => h1, newBytes_of h2, ((Below.refl _ _).alloc (Nat.le_refl _) _).trans (grown_below h3 hbase (fun k hk => by simp [Value.ownBlock] at hk; omega))⟩
    · have hb3' : ∀ j, j < l.length → (w.alloc (.cells #[] 5)).cell? ⟨b, o + j, none⟩ = some (.int .u8 (l.getD j 0)) := fun j hj =>
        ((Below.alloc (Below.refl _ _) (Nat.le_refl _) _ : Below w.heap.size w (w.alloc (.cells #[] 5))).cell (p := ⟨b, o + j, none⟩) hb1).trans (hb3 j hj)
      obtain ⟨v', w', h1, h2, h3, _⟩ := run_append_own (w.alloc (.cells #[] 5)) w.heap.size 38 38 5 i0 _ 1 1 Try.underlying38 hi hz0 hz1 hz2 rfl (by decide) _ 0 [] hown ⟨b, o, none⟩ l.length c (l.map (Value.int .u8)) (by simp) (news_of (c := c) hb3') one_of (by simp [maxLen]; omega) (by omega) hbase
      rw [List.nil_append] at h2
      exact ⟨v', w', fun ty => h1, newBytes_of h2, ((Below.refl _ _).alloc (Nat.le_refl _) _).trans (grown_below h3 hbase (fun k hk => by simp [Value.ownBlock] at hk; omega))⟩
  obtain ⟨v', w', hrun, hn, hb⟩ := hrun
  have HN := hid_mk hn
  have HB := hid_mk hb
  clear hv hl hown hbase hi hz0 hz1 hz2 hn hb
  go_enter Try.func29, Try.ntmps29
  go_wp2_with (at_builtin; refine wpList_append_run rfl _ _ _ rfl rfl rfl (hrun _) ?_)
  go_ret
  exact ⟨v', rfl, HN.out, HB.out⟩

/-! ## Regions -/
theorem rowReg2 : (Try.prog.info? 28).map (fun i => (i.zero, i.size, i.bytes)) = some (some (.agg #[.int .u64 0, .int .u64 0]), 2, 16) := rowReg
theorem newRegs_of {B : Nat} {w : World} {v : Value} {n : Nat} {L : List (Int × Int)} (h : w.ownsRow B 28 2 v n (regCells L)) : RegsAt w v L := by
  obtain ⟨h1, h2⟩ := h
  rw [regCells_length] at h1
  have hn : n = L.length := by omega
  subst hn
  rcases h2 with ⟨rfl, h0⟩ | ⟨g, cap, cur, rfl, hg, hh, hn, hm, hs, ht⟩
  · left
    exact ⟨⟨none, 0, rfl, fun _ => rfl⟩, List.length_eq_zero_iff.1 h0⟩
  · refine regsAt_row (cs := cur.toList.drop (L.length * 2)) (t := 28) (fr := (0, 0)) ?_ hn
    rw [hh, ← ht, List.take_append_drop]
theorem newsR_of {W : World} {b o c : Nat} {L : List (Int × Int)} (h : ∀ j, j < L.length → W.cell? ⟨b, o + j * 2, none⟩ = some (.int .u64 (at_ L j).1) ∧ W.cell? ⟨b, o + j * 2 + 1, none⟩ = some (.int .u64 (at_ L j).2)) : ∀ j u, (regCells L)[j]? = some u → W.cell? ((⟨b, o, none⟩ : Addr).add j) = some u := fun j u hu => by
  have hl := regCells_length L
  have hj : j < L.length * 2 := by
    have := (List.getElem?_eq_some_iff.1 hu).1
    omega
  rw [show (⟨b, o, none⟩ : Addr).add j = ⟨b, o + j, none⟩ from by unfold Addr.add; split <;> simp_all]
  have hr := regCells_at L (j / 2) (by omega)
  have hc := h (j / 2) (by omega)
  rcases Nat.mod_two_eq_zero_or_one j with hm | hm
  · have e : j = j / 2 * 2 := by omega
    rw [e] at hu ⊢
    rw [hc.1]
    rw [hr.1] at hu
    exact hu
  · have e : j = j / 2 * 2 + 1 := by omega
    rw [e] at hu ⊢
    rw [← Nat.add_assoc, hc.2]
    rw [hr.2] at hu
    exact hu
theorem oneR_of : ∀ {L : List (Int × Int)}, ∀ u ∈ regCells L, u.oneCell' = true
  | [], u, hu => by cases hu
  | r :: L, u, hu => by
    simp only [regCells, List.mem_cons] at hu
    rcases hu with rfl | rfl | hu
    · rfl
    · rfl
    · exact oneR_of u hu

theorem kregs_any (v : Value) (L : List (Int × Int)) (w : World) (hv : RegsAt w v L) (hl : L.length ≤ 1000000) :
    Calls Try.prog 18 #[v] w fun e w' => ∃ v', e = .returned v' ∧ RegsAt w' v' L ∧ Below w.heap.size w w' := by
  obtain ⟨i0, hi, hz0, hz1, hz2⟩ := info_parts rowReg2
  have hown := World.ownsRow_made (e := 28) (size := 2) (base := w.heap.size) w #[] 0 (Nat.le_refl _) (by simp [maxLen]) rfl
  have hbase : w.heap.size ≤ (w.alloc (.cells #[] 28)).heap.size := by rw [sizeA]; omega
  have hrun : ∃ v' w', (∀ ty, (Builtin.append_ #[29, 29] ty #[.slice (some ⟨w.heap.size, 0, none⟩) 0 0, v]).run Try.prog (w.alloc (.cells #[] 28)) = .ok v' w') ∧ RegsAt w' v' L ∧ Below w.heap.size w w' := by
    rcases hv with ⟨⟨a, c, rfl, hac⟩, rfl⟩ | ⟨b, o, c, rfl, hb1, hb2, hb3⟩
    · cases a with
      | none =>
        refine ⟨_, _, fun ty => by rw [hac rfl]; exact run_append_owned_none _ w.heap.size 29 ty 28 i0 2 Try.underlying29 hi _ 0 [] hown, ?_, ?_⟩
        · exact Or.inl ⟨⟨_, _, rfl, fun h => by cases h⟩, rfl⟩
        · exact (Below.refl _ _).alloc (Nat.le_refl _) _
      | some a =>
        obtain ⟨v', w', h1, h2, h3, _⟩ := run_append_own (w.alloc (.cells #[] 28)) w.heap.size 29 29 28 i0 _ 2 16 Try.underlying29 hi hz0 hz1 hz2 rfl (by decide) _ 0 [] hown a 0 c [] rfl (fun j u hu => by simp at hu) (fun u hu => by cases hu) (by simp [maxLen]) (by decide) hbase
        exact ⟨v', w', fun ty => h1, newRegs_of (L := []) h2, ((Below.refl _ _).alloc (Nat.le_refl _) _).trans (grown_below h3 hbase (fun k hk => by simp [Value.ownBlock] at hk; omega))⟩
    · have hba : Below w.heap.size w (w.alloc (.cells #[] 28)) := Below.alloc (Below.refl _ _) (Nat.le_refl _) _
      have hb3' : ∀ j, j < L.length → (w.alloc (.cells #[] 28)).cell? ⟨b, o + j * 2, none⟩ = some (.int .u64 (at_ L j).1) ∧ (w.alloc (.cells #[] 28)).cell? ⟨b, o + j * 2 + 1, none⟩ = some (.int .u64 (at_ L j).2) := fun j hj =>
        ⟨(hba.cell (p := ⟨b, o + j * 2, none⟩) hb1).trans (hb3 j hj).1, (hba.cell (p := ⟨b, o + j * 2 + 1, none⟩) hb1).trans (hb3 j hj).2⟩
      obtain ⟨v', w', h1, h2, h3, _⟩ := run_append_own (w.alloc (.cells #[] 28)) w.heap.size 29 29 28 i0 _ 2 16 Try.underlying29 hi hz0 hz1 hz2 rfl (by decide) _ 0 [] hown ⟨b, o, none⟩ L.length c (regCells L) (regCells_length L) (newsR_of (c := c) hb3') oneR_of (by simp [maxLen]; omega) (by omega) hbase
      rw [List.nil_append] at h2
      exact ⟨v', w', fun ty => h1, newRegs_of h2, ((Below.refl _ _).alloc (Nat.le_refl _) _).trans (grown_below h3 hbase (fun k hk => by simp [Value.ownBlock] at hk; omega))⟩
  obtain ⟨v', w', hrun, hn, hb⟩ := hrun
  have HN := hid_mk hn
  have HB := hid_mk hb
  clear hv hl hown hbase hi hz0 hz1 hz2 hn hb
  go_enter Try.func18, Try.ntmps18
  go_wp2_with (at_builtin; refine wpList_append_run rfl _ _ _ rfl rfl rfl (hrun _) ?_)
  go_ret
  exact ⟨v', rfl, HN.out, HB.out⟩

/-! ## LightRegions -/
def lightSum : List (Int × Int) → Int
  | [] => 0
  | r :: l => min r.2 1073741824 + lightSum l
theorem lightSum_take (L : List (Int × Int)) (k : Nat) (h : k < L.length) : lightSum (L.take (k + 1)) = lightSum (L.take k) + min (at_ L k).2 1073741824 := by
  induction L generalizing k with
  | nil => simp at h
  | cons r l ih =>
    cases k with
    | zero => simp [lightSum, at_]
    | succ k =>
      have := ih k (by simpa using h)
      simp only [List.take_succ_cons, lightSum, at_succ, this]
      omega
theorem lightSum_bd : ∀ {L : List (Int × Int)}, isRegs L → 0 ≤ lightSum L ∧ lightSum L ≤ 1073741824 * L.length
  | [], _ => by simp [lightSum]
  | r :: l, h => by
    have h1 := h r (by simp)
    have h2 := lightSum_bd (L := l) (fun x hx => h x (by simp [hx]))
    have h3 : 0 ≤ r.2 := h1.2.1
    simp only [lightSum, List.length_cons]
    omega
def lightB (L : List (Int × Int)) (most : Int) : Bool := decide (L.length ≤ 40) && decide (lightSum L ≤ most)
theorem isRegs_take {L : List (Int × Int)} (h : isRegs L) (k : Nat) : isRegs (L.take k) := fun r hr => h r (List.mem_of_mem_take hr)
theorem light_any (v : Value) (L : List (Int × Int)) (m : Int) (w : World) (hv : RegsAt w v L) (hu : isRegs L) :
    Calls Try.prog 17 #[v, .int .u64 m] w fun e w' => e = .returned (.bool (lightB L m)) ∧ w = w' := by
  rcases hv with ⟨⟨va, vc, rfl, _⟩, rfl⟩ | ⟨b, o, c, rfl, hb1, hb2, hb3⟩
  · go_enter Try.func17, Try.ntmps17
    go_wp2
    go_loop [5, 6] (fun n i => n = .int .u64 0 ∧ i = .int .i64 0) (fun _ i => 0)
    case atStart => exact ⟨rfl, rfl⟩
    case round =>
      obtain ⟨rfl, rfl⟩ := hrel
      go_wp2
      go_ret
      exact ⟨rfl, rfl⟩
  · by_cases h40 : 40 < L.length
    · have h40i : (40 : Int) < (L.length : Int) := by omega
      go_enter Try.func17, Try.ntmps17
      go_wp2
      go_ret
      exact ⟨ret_eq (by simp [lightB]; omega), rfl⟩
    · have h40i : (L.length : Int) ≤ 40 := by omega
      have HC := hid_mk hb3
      have HU := hid_mk hu
      clear hb3 hu
      go_enter Try.func17, Try.ntmps17
      go_wp2
      go_loop [5, 6] (fun n i => ∃ k : Nat, k ≤ L.length ∧ i = .int .i64 k ∧ n = .int .u64 (lightSum (L.take k))) (fun _ i => L.length - (intOf i).toNat)
      case atStart => exact ⟨0, Nat.zero_le _, rfl, rfl⟩
      case round =>
        obtain ⟨k, hk, rfl, rfl⟩ := hrel
        by_cases hlt : k < L.length
        · have hc := (HC.out k hlt).2
          have hst := lightSum_take L k hlt
          have hbd := lightSum_bd (isRegs_take HU.out (k + 1))
          have hbd0 := lightSum_bd (isRegs_take HU.out k)
          have hlen : (L.take (k + 1)).length ≤ 40 := by simp; omega
          have hsum : IntKind.u64.wrap (lightSum (L.take k) + min (at_ L k).2 1073741824) = lightSum (L.take (k + 1)) := by
            rw [IntKind.wrap_u64]
            omega
          have HS := hid_mk hsum
          have hy := (isRegs_at HU.out k).2.1
          clear hst hbd hsum hbd0 hlen
          generalize (at_ L k).2 = y at *
          go_wp2
          go_round
          case rel => exact ⟨k + 1, by omega, by go_num, by rw [← HS.out]⟩
          case measure => simp [intOf]; omega
        · obtain rfl : k = L.length := by omega
          go_wp2
          go_ret
          refine ⟨ret_eq ?_, rfl⟩
          show Value.bool (decide (lightSum L ≤ m)) = _
          unfold lightB
          rw [show decide (L.length ≤ 40) = true from by simp; omega]
          rfl
end Go.Proofs.Yteolnghnlfeakaa
