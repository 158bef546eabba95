/- Pm3 SgOpen: joined texts. Conditions: as each theorem names them. -/
import Derived.Test.YteolnghnlfeakaaKp28
import Derived.Test.YteolnghnlfeakaaKp08
import Derived.Test.YteolnghnlfeakaaKp17
import Derived.Deep.SlicePairs
import Derived.Lib.SmallJoins
/- Plain facts for SegScatters' end: bytes set one by one, read back; the head of a slice of bytes. Conditions: as each theorem names them. -/
namespace Go.Proofs.Yteolnghnlfeakaa
open Go.ChangeShapes Go.WideShapes Go.ChangeAt Go.RowKit
set_option linter.unusedVariables false
set_option maxRecDepth 100000

theorem setAll_min : ∀ (M : List Int) (ps : List Nat) (b : List Int), setAll M (ps.take (min b.length ps.length)) (b.take (min b.length ps.length)) = setAll M ps b
  | M, [], b => by simp [setAll_none]
  | M, p :: ps, [] => by simp [setAll_nil]
  | M, p :: ps, x :: xs => by
    have ih := setAll_min (M.set p x) ps xs
    have e : min (x :: xs).length (p :: ps).length = min xs.length ps.length + 1 := by
      simp only [List.length_cons]
      omega
    rw [e]
    exact ih
theorem setAll_step {M : List Int} {ps : List Nat} {b : List Int} {k : Nat} (h1 : k < ps.length) (h2 : k < b.length) : setAll M (ps.take (k + 1)) (b.take (k + 1)) = (setAll M (ps.take k) (b.take k)).set (ps.getD k 0) (b.getD k 0) := by
  have e1 : ps.take (k + 1) = ps.take k ++ [ps.getD k 0] := by
    rw [List.take_succ_eq_append_getElem h1]
    simp [List.getD, h1]
  have e2 : b.take (k + 1) = b.take k ++ [b.getD k 0] := by
    rw [List.take_succ_eq_append_getElem h2]
    simp [List.getD, h2]
  have e3 : (ps.take k).length = (b.take k).length := by
    rw [List.length_take, List.length_take]
    omega
  rw [e1, setAll_append, e2, e3, List.take_left, List.drop_left]
  rfl
theorem plc_lt : ∀ {L : List Sg}, allIn R1 L = true → ∀ p ∈ plcS L, p < 2000
  | [], _, p, hp => by cases hp
  | s :: l, h, p, hp => by
    obtain ⟨a1, a2⟩ := allIn_cons h
    obtain ⟨q0, q1, q2⟩ := locR1_some a1
    simp only [plcS, List.mem_append] at hp
    rcases hp with hp | hp
    · by_cases ht : s.t = true
      · rw [if_pos ht] at hp
        have := List.mem_range'_1.1 hp
        omega
      · rw [if_neg ht] at hp
        cases hp
    · exact plc_lt a2 p hp
theorem okS_turn : ∀ {P : List Sg} {p : Bool}, okS p P → okS false (P.map rdg)
  | [], p, h => True.intro
  | s :: l, p, h => ⟨⟨h.1.1, h.1.2.1, fun e => by cases e⟩, okS_turn h.2⟩
theorem sumS_turn : ∀ P : List Sg, sumS (P.map rdg) = sumS P
  | [] => rfl
  | s :: l => by
    simp only [List.map_cons, sumS, sumS_turn l]
    rfl
theorem isSgs_turn {P : List Sg} (h : isSgs P) : isSgs (P.map rdg) := fun s hs => by
  obtain ⟨x, hx, rfl⟩ := List.mem_map.1 hs
  exact h x hx
theorem segE_turn {P : List Sg} (hu : isSgs P) (h : segE P = 0) : segE (P.map rdg) = 0 := by
  obtain ⟨o1, o2, o3⟩ := (segE_ok hu).1 h
  exact (segE_ok (isSgs_turn hu)).2 ⟨by rw [List.length_map]; exact o1, okS_turn o2, by rw [sumS_turn]; exact o3⟩
theorem allIn_turn {R : List (Int × Int)} {P : List Sg} (h : allIn R P = true) : allIn R (P.map rdg) = true := by
  unfold allIn at h ⊢
  rw [List.all_eq_true] at h ⊢
  intro s hs
  obtain ⟨x, hx, rfl⟩ := List.mem_map.1 hs
  exact h x hx
/-- what is gathered from the written segments, cut to what was scattered -/
theorem back_eq {L : List Sg} {M0 l : List Int} (hM : M0.length = 2000) (ha : allIn R1 L = true) (hd : (plcS L).Nodup) : (((plcS L).map fun p => (setAll M0 (plcS L) l).getD p 0).take (min l.length (plcS L).length)) = l.take (min l.length (plcS L).length) := by
  have h := get_set M0 (plcS L) l hd (fun p hp => by rw [hM]; exact plc_lt ha p hp)
  have h2 := congrArg (List.take (min l.length (plcS L).length)) h
  rw [List.take_take, List.take_take, show min (min l.length (plcS L).length) l.length = min l.length (plcS L).length from by omega, show min (min l.length (plcS L).length) (plcS L).length = min l.length (plcS L).length from by omega] at h2
  exact h2

theorem convB {w : World} {v : Value} {l : List Int} (h : BytesAt w v l) : (convert 38 9 v).run Try.prog w = .ok (.string (strOfNums l)) w := by
  rcases h with ⟨⟨a, c, rfl, hac⟩, rfl⟩ | ⟨b, o, c, rfl, h1, h2, h3⟩
  · cases a with
    | none => exact run_convert_bytes_nil w 38 5 Try.underlying38 Try.underlying5 0 c 9 Try.underlying9
    | some a =>
      have hl : (loadCells a 0).run Try.prog w = .ok (([] : List Int).map (Value.int .u8)).toArray w := by
        have := run_loadCells_list (P := Try.prog) w a [] (fun j v hj => by simp at hj)
        simpa using this
      rw [run_convert_bytes_string w 38 9 5 _ 0 c Try.underlying38 Try.underlying5 Try.underlying9, run_bytesToString w _ 0 c [] hl]
      rfl
  · exact run_convert_bytes_arg w 38 5 Try.underlying38 Try.underlying5 b o l.length c l rfl (fun i hi => h3 i hi) 9 Try.underlying9
theorem slicePre {w : World} {va : Option Addr} {vc : Nat} {l : List Int} (hv : BytesAt w (.slice va l.length vc) l) (n : Nat) (h : n ≤ l.length) :
    ∃ v1, (∀ u, (Instr.sliceAt 38 (.slice va l.length vc) none (some (.int .i64 (n : Int))) none).run Try.prog u = .ok v1 u) ∧ BytesAt w v1 (l.take n) := by
  have hlen : (l.take n).length = n := by
    rw [List.length_take]
    omega
  rcases hv with ⟨⟨a, c, he, hac⟩, rfl⟩ | ⟨b, o, c, he, h2, h3, h4⟩
  · cases he
    obtain rfl : n = 0 := by simpa using h
    cases va with
    | none =>
      obtain rfl := hac rfl
      refine ⟨.slice none 0 0, fun u => ?_, Or.inl ⟨⟨_, _, rfl, fun _ => rfl⟩, rfl⟩⟩
      simp [go_sem]
    | some a =>
      refine ⟨.slice (some a) 0 vc, fun u => ?_, Or.inl ⟨⟨_, _, rfl, fun h => by cases h⟩, rfl⟩⟩
      simp [go_sem]
  · cases he
    have hci : (n : Int) ≤ (vc : Int) := by omega
    refine ⟨.slice (some ⟨b, o, none⟩) n vc, fun u => ?_, Or.inr ⟨b, o, vc, by rw [hlen], h2, by rw [hlen]; omega, fun j hj => ?_⟩⟩
    · simp [go_sem, hci]
    · rw [hlen] at hj
      rw [h4 j (by omega)]
      congr 2
      rw [List.getD_eq_getElem?_getD, List.getD_eq_getElem?_getD, List.getElem?_take_of_lt hj]
end Go.Proofs.Yteolnghnlfeakaa

/- How a parameter of type []api.Seg opens. Conditions: as each theorem names them. -/
namespace Go.Proofs.Yteolnghnlfeakaa
open Go.ChangeShapes Go.WideShapes Go.ChangeAt Go.RowKit
set_option linter.unusedVariables false
set_option maxRecDepth 100000

section
variable {H : Type} {enc : TypeId × Value → H} {W : World} {r : Reach} {b0 : Nat} {v : Value} {d : DataW H} {p : List MemPlace}
instance : Inhabited Sg := ⟨⟨0, 0, false⟩⟩
theorem list3 {α : Type} {l : List α} (h : l.length = 3) : ∃ a b c, l = [a, b, c] := by
  match l, h with
  | [a, b, c], _ => exact ⟨a, b, c, rfl⟩
theorem open_segs (hval : Value.okWide Try.prog W r b0 33 v) (h : DataW.Trod enc Try.prog W 0 (fun _ => true) true 33 v d p) :
    ∃ L, SegsAt W v L ∧ isSgs L ∧ L.length ≤ maxLen := by
  obtain ⟨a, len, cap, rfl⟩ := okWide_slice Try.underlying33 hval
  obtain ⟨fuel, hf⟩ := h
  rcases Go.Deep.open_slice Try.underlying33 hf with ⟨hcs, _⟩ | ⟨a', len', cap', m, n, D, Pl, hcs, _, hle, hmax, hm, _, hx⟩
  · simp [Value.cells] at hcs
    obtain ⟨rfl, rfl, rfl⟩ := hcs
    exact ⟨[], Or.inl ⟨⟨_, _, rfl, fun _ => rfl⟩, rfl⟩, (fun d hd => by cases hd), by simp⟩
  · simp [Value.cells] at hcs
    obtain ⟨rfl, rfl, rfl⟩ := hcs
    simp only [if_true] at hm
    subst hm
    have hC : Try.prog.cellsOf 32 = 3 := by kernel_rfl
    have hC64 : Try.prog.cellsOf 26 = 1 := by kernel_rfl
    have hC32 : Try.prog.cellsOf 30 = 1 := by kernel_rfl
    have hCb : Try.prog.cellsOf 4 = 1 := by kernel_rfl
    have each : ∀ i, i < len → ∃ x : Sg, (W.cell? (a'.add (i * 3)) = some (.int .u64 x.a) ∧ W.cell? (a'.add (i * 3 + 1)) = some (.int .u32 x.n) ∧ W.cell? (a'.add (i * 3 + 2)) = some (.bool x.t)) ∧ isSg x := fun i hi => by
      obtain ⟨cs', h1, h2⟩ := hx i (by omega)
      rw [hC] at h1
      obtain ⟨_, hlen, hcell⟩ := World.cells?_some h1
      obtain ⟨v0, v1, v2, rfl⟩ := list3 hlen
      obtain ⟨xs, k, hk, hxy, _, hxl, hfd⟩ := DataW.trod_struct Try.underlying32 h2
      obtain ⟨y0, y1, y2, rfl⟩ := list3 hxl
      have g0 := hfd 0 _ rfl
      have g1 := hfd 1 _ rfl
      have g2 := hfd 2 _ rfl
      simp [hC64, hC32, hCb] at g0 g1 g2
      obtain ⟨n0, e0, _, w0⟩ := DataW.trod_int Try.underlying26 g0
      obtain ⟨n1, e1, _, w1⟩ := DataW.trod_int Try.underlying30 g1
      obtain ⟨n2, e2, _⟩ := DataW.trod_bool Try.underlying4 g2
      simp at e0 e1 e2
      subst e0 e1 e2
      have c0 := hcell 0 (by omega)
      have c1 := hcell 1 (by omega)
      have c2 := hcell 2 (by omega)
      rw [Go.Deep.add_add] at c0 c1 c2
      have u0 := bounds_u64 w0
      have u1 := bounds_u32 w1
      exact ⟨⟨n0, n1, n2⟩, ⟨c0, c1, c2⟩, ⟨⟨by simp only; omega, by simp only; omega⟩, by simp only; omega, by simp only; omega⟩⟩
    obtain ⟨f, hf2⟩ := Go.Deep.choose_lt each
    have hlen : ((List.range len).map f).length = len := by simp
    have hat : ∀ i, i < len → sat ((List.range len).map f) i = f i := fun i hi => by simp [sat, List.getD, hi]
    refine ⟨(List.range len).map f, ?_, (fun d hd => by
      obtain ⟨i, hi, rfl⟩ := List.mem_map.1 hd
      exact (hf2 i (by simpa using hi)).2), by rw [hlen]; omega⟩
    by_cases h0 : len = 0
    · subst h0
      exact Or.inl ⟨⟨_, _, rfl, fun h => by cases h⟩, rfl⟩
    · obtain ⟨b, off, spot⟩ := a'
      have hspot : spot = none := by simpa [Addr.add] using World.cell?_spot (hf2 0 (by omega)).1.1
      subst hspot
      have h00 := (hf2 0 (by omega)).1.1
      rw [add_plain] at h00
      refine Or.inr ⟨b, off, m, by rw [hlen], World.block_lt_of_cell? W _ h00, by omega, fun j hj => ?_⟩
      rw [hlen] at hj
      have h1 := (hf2 j hj).1
      simp only [add_plain] at h1
      rw [hat j hj]
      exact ⟨h1.1, by rw [Nat.add_assoc]; exact h1.2.1, by rw [Nat.add_assoc]; exact h1.2.2⟩
end
end Go.Proofs.Yteolnghnlfeakaa
