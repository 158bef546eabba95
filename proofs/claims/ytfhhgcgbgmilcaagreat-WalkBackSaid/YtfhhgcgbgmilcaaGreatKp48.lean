/- Bd5 Bd6 Bd7: joined texts. Conditions: as each theorem names them. -/
import Derived.Test.YtfhhgcgbgmilcaaGreatKp45
import Derived.Test.YtfhhgcgbgmilcaaGreatKp20
import Derived.Test.YtfhhgcgbgmilcaaGreatKp38
/- The reference of layer 9: Packed. Conditions: as each theorem names them. Written by mkbd5.py. -/
namespace Go.Proofs.YtfhhgcgbgmilcaaGreat
open Go.ChangeShapes Go.WideShapes Go.ChangeAt Go.RowKit
set_option linter.unusedVariables false
set_option maxRecDepth 100000

theorem OwnPk.below {B : Nat} {w w' : World} {v : Value} {l : List Pt} (h : OwnPk B w v l) (hb : Below w.heap.size w w') : OwnPk B w' v l := by
  refine ⟨h.1, ?_⟩
  rcases h.2 with hn | ⟨gg, cap, cur, rfl, hg, hh, rest⟩
  · exact .inl hn
  · exact .inr ⟨gg, cap, cur, rfl, hg, (hb.block gg (lt_blk hh)).trans hh, rest⟩
theorem OwnPk.setCell {B : Nat} {w : World} {v : Value} {l : List Pt} (h : OwnPk B w v l) {db i : Nat} {C : List Value} (hb : BlkAt w db C 58) (x : Value) : OwnPk B (w.setCell ⟨db, i, none⟩ x) v l := by
  refine ⟨h.1, ?_⟩
  have hne := own_block h (t2 := 58) (by decide) hb
  rcases h.2 with hn | ⟨gg, cap, cur, rfl, hg, hh, rest⟩
  · exact .inl hn
  · exact .inr ⟨gg, cap, cur, rfl, hg, (Below.heap_setCell w ⟨db, i, none⟩ x gg (hne gg rfl).2).trans hh, rest⟩
/-- what the build's end keeps: the position's box, and what was there -/
structure ApQ (w : World) (db : Nat) (p : Int) (b : Bool) (W : World) : Prop where
  box : BlkAt W db [.int .i64 p, .bool b] 58
  old : Below w.heap.size w W
theorem ApQ.below {w W W' : World} {db : Nat} {p : Int} {b : Bool} (h : ApQ w db p b W) (hb : Below W.heap.size W W') : ApQ w db p b W' := ⟨h.box.below hb, below_then h.old hb⟩
theorem ApQ.gr {w W W' : World} {db : Nat} {p : Int} {b : Bool} {vo : Value} (h : ApQ w db p b W) (hg : GrT vo W W') (hv : ∀ g, vo.ownBlock = some g → w.heap.size ≤ g ∧ g ≠ db) : ApQ w db p b W' := by
  refine ⟨(hg.block db h.box.lt (fun e => (hv db e.symm).2 rfl)).trans h.box, h.old.trans (grown_below hg h.old.size (fun k hk => (hv k hk).1))⟩
theorem go_next {p n : Int} {k : Nat} (b : Bool) (h0 : 0 ≤ p) (h1 : p < n) (hk : (k : Int) < n) : goA (goA p k n) 1 n = goA p (k + 1 : Nat) n ∧ goW (goA p k n) 1 n (goW p k n b) = goW p (k + 1 : Nat) n b ∧ 0 ≤ goA p k n ∧ goA p k n < n := by
  unfold goA goW
  by_cases c1 : p + (k : Int) < n
  · rw [if_pos c1, if_pos c1]
    by_cases c2 : p + (k : Int) + 1 < n
    · rw [if_pos c2, if_pos c2, if_pos (show p + ((k + 1 : Nat) : Int) < n by omega), if_pos (show p + ((k + 1 : Nat) : Int) < n by omega)]
      exact ⟨by omega, rfl, by omega, by omega⟩
    · rw [if_neg c2, if_neg c2, if_neg (show ¬ p + ((k + 1 : Nat) : Int) < n by omega), if_neg (show ¬ p + ((k + 1 : Nat) : Int) < n by omega)]
      exact ⟨by omega, rfl, by omega, by omega⟩
  · rw [if_neg c1, if_neg c1, if_pos (show p + (k : Int) - n + 1 < n by omega), if_pos (show p + (k : Int) - n + 1 < n by omega), if_neg (show ¬ p + ((k + 1 : Nat) : Int) < n by omega), if_neg (show ¬ p + ((k + 1 : Nat) : Int) < n by omega)]
    exact ⟨by omega, rfl, by omega, by omega⟩
theorem go_none {p n : Int} (b : Bool) (h1 : p < n) : goA p (0 : Nat) n = p ∧ goW p (0 : Nat) n b = b := by
  unfold goA goW
  rw [if_pos (by omega), if_pos (by omega)]
  exact ⟨by omega, rfl⟩
theorem pck_no {p n : Int} {b : Bool} {id : Int} {L : List Sg} (h : mayE L = 0) (h2 : pckB p n id L = false) : pckE p n id L = 2 ∧ pckR p n b id L = [] := by
  have e : pckE p n id L = 2 := by
    unfold pckE
    rw [if_pos h, h2]
    rfl
  refine ⟨e, ?_⟩
  unfold pckR
  rw [e]
  rfl
theorem pck_bad {p n : Int} {b : Bool} {id : Int} {L : List Sg} (h : mayE L ≠ 0) : pckE p n id L = mayE L ∧ pckR p n b id L = [] := by
  have e : pckE p n id L = mayE L := by
    unfold pckE
    rw [if_neg h]
  refine ⟨e, ?_⟩
  unfold pckR
  rw [e, if_neg h]
theorem pck_yes {p n : Int} {b : Bool} {id : Int} {L : List Sg} (h : mayE L = 0) (h2 : pckB p n id L = true) : pckE p n id L = 0 ∧ pckR p n b id L = pckL p n b id L := by
  have e : pckE p n id L = 0 := by
    unfold pckE
    rw [if_pos h, h2]
    rfl
  refine ⟨e, ?_⟩
  unfold pckR
  rw [e]
  rfl
theorem pck_false {p n id : Int} {L : List Sg} (hp : okP p n = true) (h : pckB p n id L = false) : id < 0 ∨ (0 ≤ id ∧ n ≤ id) ∨ (0 ≤ id ∧ id < n ∧ n < (L.length : Int)) := by
  unfold pckB at h
  rw [hp, Bool.true_and] at h
  by_cases h0 : id < 0
  · exact Or.inl h0
  · by_cases h1 : n ≤ id
    · exact Or.inr (Or.inl ⟨by omega, h1⟩)
    · refine Or.inr (Or.inr ⟨by omega, by omega, ?_⟩)
      rw [okI_iff.2 (show 0 ≤ id ∧ id < n by omega), Bool.true_and, decide_eq_false_iff_not] at h
      omega
theorem pck_true {p n id : Int} {L : List Sg} (h : pckB p n id L = true) : okP p n = true ∧ (0 ≤ id ∧ id < n) ∧ (L.length : Int) ≤ n := by
  unfold pckB at h
  simp only [Bool.and_eq_true, decide_eq_true_eq, okI_iff] at h
  exact ⟨h.1, h.2.1, h.2.2⟩

theorem BlkAt.two {w : World} {b : Nat} {x y : Value} {t : TypeId} (h : BlkAt w b [x, y] t) : b < w.heap.size ∧ w.cell? ⟨b, 0, none⟩ = some x ∧ w.cell? ⟨b, 1, none⟩ = some y ∧ True := ⟨h.lt, h.cell 0, h.cell 1, trivial⟩
theorem BlkAt.five {w : World} {b : Nat} {x y : Value} {t : TypeId} (h : BlkAt w b [x, y] t) : b < w.heap.size ∧ w.cell? ⟨b, 0, none⟩ = some x ∧ w.cell? ⟨b, 1, none⟩ = some y ∧ w.frozen? ⟨b, 0, none⟩ = false ∧ w.frozen? ⟨b, 1, none⟩ = false := ⟨h.lt, h.cell 0, h.cell 1, h.free 0, h.free 1⟩
end Go.Proofs.YtfhhgcgbgmilcaaGreat

/- The reference of layer 9: SplitTable. Conditions: as each theorem names them. -/
namespace Go.Proofs.YtfhhgcgbgmilcaaGreat
open Go.ChangeShapes Go.WideShapes Go.ChangeAt Go.RowKit
set_option linter.unusedVariables false
set_option maxRecDepth 100000

theorem tabB_snoc (d : Dsc) : ∀ M : List Dsc, tabB (M ++ [d]) = tabB M ++ dB d
  | [] => by simp [tabB]
  | x :: M => by
    show dB x ++ tabB (M ++ [d]) = (dB x ++ tabB M) ++ dB d
    rw [tabB_snoc d M, List.append_assoc]
/-- a descriptor's bytes behind a table of the call's own -/
theorem app_dsc {B B1 : Nat} {w : World} {v v1 : Value} {M : List Dsc} {d : Dsc} (hv : OwnB w B v (tabB M)) (h1 : OwnB w B1 v1 (dB d)) (hB : B ≤ w.heap.size) (hl : M.length ≤ 1000) :
    ∃ v' w', (∀ ty, (Builtin.append_ #[47, 47] ty #[v, v1]).run Tryz.prog w = .ok v' w') ∧ OwnB w' B v' (tabB (M ++ [d])) ∧ Below B w w' := by
  obtain ⟨i0, hi, hz0, hz1, hz2⟩ := info_parts rowU8
  obtain ⟨g, cg, rfl, hg1, hg2, hg3, hg4⟩ := (newBytes_of h1).form (by rw [dB_length]; omega)
  have hlen : (tabB M).length = 16 * M.length := tabB_length M
  rw [dB_length] at hg3 hg4
  obtain ⟨v', w2, h1, h2, h3, _⟩ := run_append_own (P := Tryz.prog) w B 47 47 5 i0 _ 1 1 Tryz.underlying47 hi hz0 hz1 hz2 rfl (by decide) v _ _ hv ⟨g, 0, none⟩ 16 cg ((dB d).map (Value.int .u8)) (by rw [List.length_map, dB_length]) (fun j u hu => by
    have hj : j < (dB d).length := by
      have := (List.getElem?_eq_some_iff.1 hu).1
      simpa using this
    rw [show (⟨g, 0, none⟩ : Addr).add j = ⟨g, j, none⟩ from by unfold Addr.add; split <;> simp_all, hg4 j (by rw [dB_length] at hj; exact hj)]
    simp [hj] at hu
    subst hu
    simp [List.getD, hj]) one_of (by rw [hlen]; simp [maxLen]; omega) (by rw [hlen]; omega) hB
  refine ⟨v', w2, fun ty => ?_, ?_, grown_below h3 hB (fun q hq => (hv.lt q hq).1)⟩
  · rw [dB_length]
    exact h1
  · unfold OwnB
    rw [tabB_snoc, List.length_append, dB_length, List.map_append]
    exact h2
theorem numI_len (n : Nat) : (numI n).length = n := by simp [numI]
theorem numI_ok {n : Nat} (h : n ≤ 1000) : okT 32768 (numI n) (numI n).length = true := by
  refine (okT_iff (Nat.le_refl _)).2 ⟨fun x hx => ?_, ?_⟩
  · rw [List.take_length] at hx
    unfold numI at hx
    obtain ⟨i, hi, rfl⟩ := List.mem_map.1 hx
    have := List.mem_range.1 hi
    omega
  · rw [List.take_length]
    unfold numI
    exact List.pairwise_map.2 (List.Pairwise.imp (fun {a b} (hab : a ≠ b) => fun e => hab (by omega)) (show List.Pairwise (· ≠ ·) (List.range n) from List.nodup_range))
theorem spl_num {L : List Sg} (hl : L.length ≤ 1000) : splE (numI L.length) L = mayE L ∧ splR (numI L.length) L = if mayE L = 0 then splL (numI L.length) L else [] := by
  by_cases h : mayE L = 0
  · obtain ⟨e1, e2⟩ := spl_yes h (numI_len _) (numI_ok hl)
    rw [e1, e2, if_pos h, h]
    exact ⟨rfl, rfl⟩
  · obtain ⟨e1, e2⟩ := spl_bad (I := numI L.length) h
    rw [e1, e2, if_neg h]
    exact ⟨rfl, rfl⟩
theorem spl_is {L : List Sg} (hs : isSgs L) (hl : L.length ≤ 1000) (k : Nat) (hk : k < L.length) : isDsc (splD (numI L.length) L k).d := by
  obtain ⟨⟨a1, a2⟩, n1, n2⟩ := sat_is hs k
  have hf := flgN_lt (sat L k).t (nxB L k)
  refine ⟨⟨a1, a2⟩, ⟨n1, n2⟩, ⟨by show (0 : Int) ≤ ((flgN _ _ : Nat) : Int); omega, by show ((flgN _ _ : Nat) : Int) < _; omega⟩, ?_⟩
  show (0 : Int) ≤ (if nxB L k = true then (numI L.length).getD (k + 1) 0 else 0) ∧ (if nxB L k = true then (numI L.length).getD (k + 1) 0 else 0) < 65536
  by_cases h : nxB L k = true
  · rw [if_pos h]
    have h2 : k + 1 < L.length := of_decide_eq_true h
    have := okT_at (numI_ok hl) (show k + 1 < (numI L.length).length by rw [numI_len]; exact h2)
    omega
  · rw [if_neg h]
    omega
theorem ints_z {w : World} {v : Value} {L : List Nat} (h : IntsAt w v L) : IntsZ w v (L.map (fun i : Nat => (i : Int))) := by
  rcases h with ⟨h1, rfl⟩ | ⟨b, o, c, rfl, h1, h2, h3⟩
  · exact Or.inl ⟨h1, rfl⟩
  · refine Or.inr ⟨b, o, c, by rw [List.length_map], h1, by rw [List.length_map]; exact h2, fun j hj => ?_⟩
    rw [List.length_map] at hj
    rw [h3 j hj]
    simp [List.getD, hj]

theorem own1_len {B n : Nat} {w : World} {t : TypeId} {v : Value} {C : List Value} (h : w.ownsRow B t 1 v n C) : ∃ a c, v = .slice a n c := by
  rcases h.2 with ⟨rfl, h0⟩ | ⟨g, cap, cur, rfl, _⟩
  · exact ⟨none, 0, by rw [h0]⟩
  · exact ⟨_, cap, rfl⟩
theorem own1_mono {B B2 n : Nat} {w : World} {t : TypeId} {v : Value} {z : Nat} {C : List Value} (h : w.ownsRow B t z v n C) (hB : B2 ≤ B) : w.ownsRow B2 t z v n C := by
  refine ⟨h.1, ?_⟩
  rcases h.2 with hn | ⟨gg, cap, cur, rfl, hg, rest⟩
  · exact .inl hn
  · exact .inr ⟨gg, cap, cur, rfl, by omega, rest⟩
end Go.Proofs.YtfhhgcgbgmilcaaGreat

/- The reference of layer 9: PackedTable. Conditions: as each theorem names them. -/
namespace Go.Proofs.YtfhhgcgbgmilcaaGreat
open Go.ChangeShapes Go.WideShapes Go.ChangeAt Go.RowKit
set_option linter.unusedVariables false
set_option maxRecDepth 100000

theorem own1_set {B n : Nat} {w : World} {t t2 : TypeId} {v : Value} {C C2 : List Value} {db i : Nat} (h : w.ownsRow B t 1 v n C) (hne : t ≠ t2) (hb : BlkAt w db C2 t2) (x : Value) : (w.setCell ⟨db, i, none⟩ x).ownsRow B t 1 v n C := by
  refine ⟨h.1, ?_⟩
  rcases h.2 with hn | ⟨gg, cap, cur, rfl, hg, hh, rest⟩
  · exact .inl hn
  · refine .inr ⟨gg, cap, cur, rfl, hg, (Below.heap_setCell w ⟨db, i, none⟩ x gg (fun e => ?_)).trans hh, rest⟩
    have e : gg = db := e
    subst e
    have h2 : w.heap[gg]? = some (.cells C2.toArray t2 (0, 0)) := hb
    rw [hh] at h2
    injection h2 with h2
    injection h2 with _ h3
    exact hne h3
/-- bytes that a function gave: nil, or a slice -/
def BytesR (w : World) (v : Value) (l : List Int) : Prop :=
  (v = .slice none 0 0 ∧ l = []) ∨ ∃ b o c : Nat, v = .slice (some ⟨b, o, none⟩) l.length c ∧ b < w.heap.size ∧ l.length ≤ c ∧ ∀ j, j < l.length → w.cell? ⟨b, o + j, none⟩ = some (.int .u8 (l.getD j 0))
theorem BytesR.at {w : World} {v : Value} {l : List Int} (h : BytesR w v l) : BytesAt w v l := by
  rcases h with ⟨h1, h2⟩ | h
  · exact Or.inl ⟨⟨none, 0, h1, fun _ => rfl⟩, h2⟩
  · exact Or.inr h
theorem BytesR.below {w w' : World} {v : Value} {l : List Int} (h : BytesR w v l) (hb : Below w.heap.size w w') : BytesR w' v l := by
  rcases h with h | ⟨b, o, c, h1, h2, h3, h4⟩
  · exact Or.inl h
  · have := hb.size
    exact Or.inr ⟨b, o, c, h1, by omega, h3, fun j hj => (hb.cell (p := ⟨b, o + j, none⟩) h2).trans (h4 j hj)⟩
theorem convBR {w : World} {v : Value} {l : List Int} (h : BytesR w v l) : (convert 47 9 v).run Tryz.prog w = .ok (.string (strOfNums l)) w := by
  rcases h with ⟨rfl, rfl⟩ | ⟨b, o, c, rfl, h1, h2, h3⟩
  · exact run_convert_bytes_nil w 47 5 Tryz.underlying47 Tryz.underlying5 0 0 9 Tryz.underlying9
  · exact run_convert_bytes_arg w 47 5 Tryz.underlying47 Tryz.underlying5 b o l.length c l rfl (fun i hi => by rw [h3 i (by omega)]) 9 Tryz.underlying9
theorem own_r {B : Nat} {w : World} {v : Value} {l : List Int} (h : OwnB w B v l) : BytesR w v l := by
  rcases newBytes_of h with ⟨h1, h2⟩ | ⟨b, c, h1, h2, h3, cs, h4, h5⟩
  · exact Or.inl ⟨h1, h2⟩
  · refine Or.inr ⟨b, 0, c, h1, lt_blk h4, h3, fun j hj => ?_⟩
    rw [cellK h4, Nat.zero_add, List.getElem?_append_left (by simpa using hj)]
    simp [hj, List.getD]
end Go.Proofs.YtfhhgcgbgmilcaaGreat
