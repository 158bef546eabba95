/- Sg4 Rf1 Rf2: joined texts. Conditions: as each theorem names them. -/
import Derived.Test.YtfhhgcgbgmilcaaGreatKp14
import Derived.Test.YtfhhgcgbgmilcaaGreatKp05
import Derived.BigQuiet
/- Rows of segments that a call owns; kit.Segs; one segment appended. Conditions: as each theorem names them. -/
namespace Go.Proofs.YtfhhgcgbgmilcaaGreat
open Go.ChangeShapes Go.WideShapes Go.ChangeAt Go.RowKit
set_option linter.unusedVariables false
set_option maxRecDepth 100000

theorem rowSg : (Tryz.prog.info? 28).map (fun i => (i.zero, i.size, i.bytes)) = some (some (.agg #[.int .u64 0, .int .u32 0, .bool false]), 3, 16) := by kernel_rfl
def segCells : List Sg → List Value
  | [] => []
  | s :: L => .int .u64 s.a :: .int .u32 s.n :: .bool s.t :: segCells L
theorem segCells_length : ∀ L : List Sg, (segCells L).length = L.length * 3
  | [] => rfl
  | s :: L => by simp [segCells, segCells_length L]; omega
theorem segCells_append : ∀ a b : List Sg, segCells (a ++ b) = segCells a ++ segCells b
  | [], _ => rfl
  | s :: a, b => by simp [segCells, segCells_append a b]
theorem segCells_at : ∀ (L : List Sg) (j : Nat), j < L.length → (segCells L)[j * 3]? = some (.int .u64 (sat L j).a) ∧ (segCells L)[j * 3 + 1]? = some (.int .u32 (sat L j).n) ∧ (segCells L)[j * 3 + 2]? = some (.bool (sat L j).t)
  | [], j, h => by simp at h
  | s :: L, 0, h => ⟨rfl, rfl, rfl⟩
  | s :: L, j + 1, h => by
    have := segCells_at L j (by simpa using h)
    have e : ∀ q, (segCells (s :: L))[(j + 1) * 3 + q]? = (segCells L)[j * 3 + q]? := fun q => by
      rw [show (j + 1) * 3 + q = (j * 3 + q) + 1 + 1 + 1 from by omega]
      rfl
    have e0 := e 0
    simp only [Nat.add_zero] at e0
    rw [e0, e 1, e 2]
    exact this
theorem oneS_of : ∀ {L : List Sg}, ∀ u ∈ segCells L, u.oneCell' = true
  | [], u, hu => by cases hu
  | s :: L, u, hu => by
    simp only [segCells, List.mem_cons] at hu
    rcases hu with rfl | rfl | rfl | hu
    · rfl
    · rfl
    · rfl
    · exact oneS_of u hu
/-- a row of segments of the call's own -/
abbrev OwnS (B : Nat) (w : World) (v : Value) (L : List Sg) : Prop := w.ownsRow B 28 3 v L.length (segCells L)
theorem OwnS.at {B : Nat} {w : World} {v : Value} {L : List Sg} (h : OwnS B w v L) : SegsAt w v L := by
  obtain ⟨h1, h2⟩ := h
  rcases h2 with ⟨rfl, h0⟩ | ⟨g, cap, cur, rfl, hg, hh, hn, hm, hs, ht⟩
  · left
    exact ⟨⟨none, 0, rfl, fun _ => rfl⟩, List.length_eq_zero_iff.1 h0⟩
  · right
    refine ⟨g, 0, cap, rfl, lt_blk hh, hn, fun j hj => ?_⟩
    have e : cur = (segCells L ++ cur.toList.drop (L.length * 3)).toArray := by
      rw [← ht, List.take_append_drop]
    rw [e] at hh
    have hl := segCells_length L
    have hc := segCells_at L j hj
    have hk : ∀ q, q < 3 → w.cell? ⟨g, j * 3 + q, none⟩ = (segCells L)[j * 3 + q]? := fun q hq => by
      rw [cellK hh, List.getElem?_append_left (by omega)]
    simp only [at3, Nat.zero_add]
    have k0 := hk 0 (by omega)
    simp only [Nat.add_zero] at k0
    rw [k0, hk 1 (by omega), hk 2 (by omega)]
    exact hc
theorem newsS_of {W : World} {b o : Nat} {L : List Sg} (h : ∀ j, j < L.length → at3 W b (o + j * 3) (sat L j)) : ∀ j u, (segCells L)[j]? = some u → W.cell? ((⟨b, o, none⟩ : Addr).add j) = some u := fun j u hu => by
  have hl := segCells_length L
  have hj : j < L.length * 3 := by
    have := (List.getElem?_eq_some_iff.1 hu).1
    omega
  rw [show (⟨b, o, none⟩ : Addr).add j = ⟨b, o + j, none⟩ from by unfold Addr.add; split <;> simp_all]
  have hr := segCells_at L (j / 3) (by omega)
  obtain ⟨c0, c1, c2⟩ := h (j / 3) (by omega)
  have hm : j % 3 = 0 ∨ j % 3 = 1 ∨ j % 3 = 2 := by omega
  rcases hm with hm | hm | hm
  · have e : j = j / 3 * 3 := by omega
    rw [e] at hu ⊢
    rw [c0]
    rw [hr.1] at hu
    exact hu
  · have e : j = j / 3 * 3 + 1 := by omega
    rw [e] at hu ⊢
    rw [← Nat.add_assoc, c1]
    rw [hr.2.1] at hu
    exact hu
  · have e : j = j / 3 * 3 + 2 := by omega
    rw [e] at hu ⊢
    rw [← Nat.add_assoc, c2]
    rw [hr.2.2] at hu
    exact hu

/-- append(v, s): one segment behind an owned row -/
theorem app_seg {B : Nat} {w : World} {v : Value} {L : List Sg} (s : Sg) (h : OwnS B w v L) (hB : B ≤ w.heap.size) (hl : L.length ≤ 1000) :
    ∃ g cap w', (∀ ty, (Builtin.append_ #[22, 22] ty #[v, .slice (some ⟨w.heap.size, 0, none⟩) 1 1]).run Tryz.prog (w.alloc (.cells #[.int .u64 s.a, .int .u32 s.n, .bool s.t] 28)) = .ok (.slice (some ⟨g, 0, none⟩) (L.length + 1) cap) w') ∧ OwnS B w' (.slice (some ⟨g, 0, none⟩) (L.length + 1) cap) (L ++ [s]) ∧ Below B w w' := by
  obtain ⟨i0, hi, hz0, hz1, hz2⟩ := info_parts rowSg
  have hown := World.ownsRow.alloc h (.cells #[.int .u64 s.a, .int .u32 s.n, .bool s.t] 28)
  have hcells : ∀ j u, (segCells [s])[j]? = some u → (w.alloc (.cells #[.int .u64 s.a, .int .u32 s.n, .bool s.t] 28)).cell? ((⟨w.heap.size, 0, none⟩ : Addr).add j) = some u := fun j u hu => by
    rw [show (⟨w.heap.size, 0, none⟩ : Addr).add j = ⟨w.heap.size, j, none⟩ from by unfold Addr.add; split <;> simp_all]
    exact (cellK (cs := segCells [s]) (t := 28) (fr := (0, 0)) (heap_alloc_new w (.cells #[.int .u64 s.a, .int .u32 s.n, .bool s.t] 28)) j).trans hu
  obtain ⟨v', w', h1, h2, h3, h4⟩ := run_append_own (P := Tryz.prog) (w.alloc (.cells #[.int .u64 s.a, .int .u32 s.n, .bool s.t] 28)) B 22 22 28 i0 _ 3 16 Tryz.underlying22 hi hz0 hz1 hz2 rfl (by decide) v L.length (segCells L) hown ⟨w.heap.size, 0, none⟩ 1 1 (segCells [s]) rfl hcells oneS_of (by simp [maxLen]; omega) (by omega) (by rw [sizeA]; omega)
  rw [← segCells_append] at h2
  have hb : Below B w w' := ((Below.refl B w).alloc hB _).trans (grown_below h3 (by rw [sizeA]; omega) (fun q hq => (World.ownsRow.lt h q hq).1))
  obtain ⟨g, cap, rfl⟩ : ∃ g cap, v' = .slice (some ⟨g, 0, none⟩) (L.length + 1) cap := by
    rcases h2.2 with ⟨_, h0⟩ | ⟨g, cap, cur, he, _⟩
    · omega
    · exact ⟨g, cap, he⟩
  refine ⟨g, cap, w', fun ty => ?_, ?_, hb⟩
  · exact h1
  · have e : (L ++ [s]).length = L.length + 1 := by simp
    show w'.ownsRow B 28 3 _ (L ++ [s]).length (segCells (L ++ [s]))
    rw [e]
    exact h2

end Go.Proofs.YtfhhgcgbgmilcaaGreat

/- The reference of layer 2: Check says the same as the program's. Conditions: the words are 64 bits. -/
namespace Go.Proofs.YtfhhgcgbgmilcaaGreat
open Go.ChangeShapes Go.WideShapes Go.ChangeAt Go.RowKit
set_option linter.unusedVariables false

/-- what the reference's Check has seen when it comes to region k with so many bytes -/
structure RChk (L : List (Int × Int)) (k : Nat) (S : Int) : Prop where
  lo : 0 ≤ S
  hi : S ≤ 1048576 * (k : Int)
  inv : ChkInv L k (1048576 - S) ∨ (okR (-1) 1048576 L = false ∧ 1048576 < S)
theorem RChk.start (L : List (Int × Int)) : RChk L 0 0 := ⟨by omega, by omega, Or.inl (ChkInv.start L)⟩
theorem RChk.stop {L : List (Int × Int)} {k : Nat} {S : Int} (h : RChk L k S) (hk : k < L.length) (hu : isRegs L) (hc : (at_ L k).2 = 0 ∨ 1048576 < (at_ L k).2 ∨ lastI (at_ L k).1 (at_ L k).2 < (at_ L k).1 ∨ (k ≠ 0 ∧ (at_ L k).1 ≤ lastI (at_ L (k - 1)).1 (at_ L (k - 1)).2)) : chkE L = 2 := by
  have : okR (-1) 1048576 L = false := by
    rcases h.inv with hi | hi
    · have h0 := h.lo
      exact hi.stop hk hu (by rcases hc with hc | hc | hc | hc; exact Or.inl hc; exact Or.inr (Or.inl (by omega)); exact Or.inr (Or.inr (Or.inl hc)); exact Or.inr (Or.inr (Or.inr hc)))
    · exact hi.1
  unfold chkE
  rw [if_neg (by rw [this]; simp)]
theorem RChk.next {L : List (Int × Int)} {k : Nat} {S : Int} (h : RChk L k S) (hk : k < L.length) (hu : isRegs L) (h1 : (at_ L k).2 ≠ 0) (h2 : (at_ L k).2 ≤ 1048576) (h3 : (at_ L k).1 ≤ lastI (at_ L k).1 (at_ L k).2) (h4 : k = 0 ∨ lastI (at_ L (k - 1)).1 (at_ L (k - 1)).2 < (at_ L k).1) : RChk L (k + 1) (S + (at_ L k).2) := by
  have h0 := h.lo
  have hh := h.hi
  have hU := isRegs_at hu k
  refine ⟨by omega, by omega, ?_⟩
  rcases h.inv with hi | hi
  · by_cases hr : (at_ L k).2 ≤ 1048576 - S
    · left
      have := hi.next hk hu h1 hr h3 h4
      rw [show 1048576 - (S + (at_ L k).2) = 1048576 - S - (at_ L k).2 from by omega]
      exact this
    · exact Or.inr ⟨hi.stop hk hu (Or.inr (Or.inl (by omega))), by omega⟩
  · exact Or.inr ⟨hi.1, by omega⟩
theorem RChk.done {L : List (Int × Int)} {S : Int} (h : RChk L L.length S) (h16 : L.length ≤ 16) : chkE L = if 1048576 < S then 2 else 0 := by
  unfold chkE
  rcases h.inv with hi | hi
  · have := hi.r0
    rw [if_pos ⟨h16, hi.done⟩, if_neg (by omega)]
  · rw [if_neg (by rw [hi.1]; simp), if_pos hi.2]

set_option maxRecDepth 100000 in
set_option maxHeartbeats 4000000 in
theorem rcheck_any (v : Value) (L : List (Int × Int)) (w : World) (hv : RegsAt w v L) (hu : isRegs L) (hm : L.length ≤ 4611686018427387904) :
    Calls Tryz.prog 58 #[v] w fun e w' => e = .returned (.int .i64 (chkE L)) ∧ ∃ m, w' = w.drewN m := by
  rcases hv with ⟨⟨va, vc, rfl, _⟩, rfl⟩ | ⟨b, o, c, rfl, hb1, hb2, hb3⟩
  · go_enter Tryz.func58, Tryz.ntmps58
    go_wp2
    go_loop [3, 4] (fun n i => n = .int .u64 0 ∧ i = .int .i64 0) (fun _ i => 0)
    case atStart => exact ⟨rfl, rfl⟩
    case round =>
      obtain ⟨rfl, rfl⟩ := hrel
      go_wp2
      go_ret
      exact ⟨rfl, 0, rfl⟩
  · by_cases h16 : 16 < L.length
    · have h16i : (16 : Int) < (L.length : Int) := by omega
      go_enter Tryz.func58, Tryz.ntmps58
      go_wp2
      go_ret
      refine ⟨ret_eq ?_, 0, rfl⟩
      unfold chkE
      rw [if_neg (by omega)]
      rfl
    · have HC := hid_mk hb3
      have HU := hid_mk hu
      have h16i : (L.length : Int) ≤ 16 := by omega
      clear hb3 hu hm
      go_enter Tryz.func58, Tryz.ntmps58
      go_wp2
      go_loopw [3, 4] (fun n i wr => ∃ (k m : Nat) (S : Int), k ≤ L.length ∧ i = .int .i64 k ∧ n = .int .u64 S ∧ wr = w.drewN m ∧ Hid (RChk L k S)) (fun _ i _ => L.length - (intOf i).toNat)
      case atStart => exact ⟨0, 0, 0, Nat.zero_le _, rfl, rfl, rfl, hid_mk (RChk.start L)⟩
      case round =>
        obtain ⟨k, m, S, hk, rfl, rfl, rfl, hinv⟩ := hrel
        by_cases hlt : k < L.length
        · have hc := HC.out k hlt
          obtain ⟨c0, c1⟩ := hc
          have HK := hid_mk (fun h => hinv.out.stop hlt HU.out h)
          have HN := hid_mk (fun h1 h2 h3 h4 => hinv.out.next hlt HU.out h1 h2 h3 h4)
          have hr0 := hinv.out.lo
          have hr1 := hinv.out.hi
          obtain ⟨hx, hy⟩ := isRegs_at HU.out k
          clear hinv
          generalize (at_ L k).1 = x at *
          generalize (at_ L k).2 = y at *
          by_cases y0 : y = 0
          · subst y0
            have HF := hid_mk (HK.out (Or.inl rfl))
            go_wp2_with fail
            go_quiet (fail)
            go_wp2_with fail
            go_ret
            exact ⟨ret_eq (by rw [HF.out]; rfl), _, drewN_drewN _ _ _⟩
          · have hyb : (y == 0) = false := by simp; exact y0
            by_cases yR : 1048576 < y
            · have HF := hid_mk (HK.out (Or.inr (Or.inl yR)))
              have hd : decide (1048576 < y) = true := by simp; exact yR
              go_wp2_with fail
              go_quiet (fail)
              go_wp2_with fail
              go_ret
              exact ⟨ret_eq (by rw [HF.out]; rfl), _, drewN_drewN _ _ _⟩
            · have hd : decide (1048576 < y) = false := by simp; omega
              have hw2 : IntKind.u64.wrap (y - 1) = y - 1 := by rw [IntKind.wrap_u64]; omega
              have hll : lastI x y = IntKind.u64.wrap (x + (y - 1)) := by unfold lastI; rw [hw2]
              by_cases hl : lastI x y < x
              · have HF := hid_mk (HK.out (Or.inr (Or.inr (Or.inl hl))))
                have hd2 : decide (IntKind.u64.wrap (x + (y - 1)) < x) = true := by rw [← hll]; simp; exact hl
                clear hl hll
                go_wp2_with fail
                go_quiet (fail)
                go_wp2_with fail
                go_ret
                exact ⟨ret_eq (by rw [HF.out]; rfl), _, drewN_drewN _ _ _⟩
              · have hd2 : decide (IntKind.u64.wrap (x + (y - 1)) < x) = false := by rw [← hll]; simp; exact Int.not_lt.1 hl
                have hw : IntKind.u64.wrap (S + y) = S + y := by rw [IntKind.wrap_u64]; omega
                have HL := hid_mk (Int.not_lt.1 hl)
                clear hl hll hr0 hr1
                go_wp2_with fail
                go_quiet (fail)
                clear hd hd2 hyb
                rcases Nat.eq_zero_or_pos k with hk0 | hkp
                · subst hk0
                  have HX := hid_mk (HN.out y0 (by omega) HL.out (Or.inl rfl))
                  go_wp2_with fail
                  go_quiet (fail)
                  clear hw hw2 hx hy y0 yR
                  go_wp2_with fail
                  go_roundw
                  case rel => exact ⟨1, _, S + y, by omega, by go_num, rfl, rfl, hid_mk HX.out⟩
                  case measure => simp [intOf]; omega
                · obtain ⟨q, rfl⟩ : ∃ q, k = q + 1 := ⟨k - 1, by omega⟩
                  obtain ⟨c2, c3⟩ := HC.out q (by omega)
                  simp only [Nat.add_sub_cancel] at HK HN
                  generalize (at_ L q).1 = x2 at *
                  generalize (at_ L q).2 = y2 at *
                  have hgt : decide ((0 : Int) < (q : Int) + 1) = true := by simp
                  have hi1 : IntKind.i64.wrap ((q : Int) + 1 - 1) = (q : Int) := by rw [show (q : Int) + 1 - 1 = q from by omega]; exact IntWalk.i64_in _ (by omega)
                  have hi4 : IntKind.i64.wrap (q : Int) = (q : Int) := IntWalk.i64_in _ (by omega)
                  have hi2 : (0 : Int) ≤ (q : Int) := by omega
                  have hi3 : (q : Int) < (L.length : Int) := by omega
                  by_cases hpl : x ≤ lastI x2 y2
                  · have HF := hid_mk (HK.out (Or.inr (Or.inr (Or.inr ⟨by omega, hpl⟩))))
                    have hd3 : decide (x ≤ IntKind.u64.wrap (x2 + IntKind.u64.wrap (y2 - 1))) = true := by simp; exact hpl
                    clear hpl
                    go_wp2_with fail
                    go_quiet (fail)
                    go_wp2_with fail
                    go_ret
                    exact ⟨ret_eq (by rw [HF.out]; rfl), _, drewN_drewN _ _ _⟩
                  · have HX := hid_mk (HN.out y0 (by omega) HL.out (Or.inr (by omega)))
                    have hd3 : decide (x ≤ IntKind.u64.wrap (x2 + IntKind.u64.wrap (y2 - 1))) = false := by simp; exact Int.not_le.1 hpl
                    clear hpl
                    go_wp2_with fail
                    go_quiet (fail)
                    clear hw hw2 hx hy y0 yR hd3 hgt
                    go_wp2_with fail
                    go_roundw
                    case rel => exact ⟨q + 1 + 1, _, S + y, by omega, by go_num, rfl, rfl, hid_mk HX.out⟩
                    case measure => simp [intOf]; omega
        · obtain rfl : k = L.length := by omega
          have HD := hid_mk (hinv.out.done (by omega))
          have hs := hinv.out.lo
          clear hinv
          by_cases hS : 1048576 < S
          · have HD2 := hid_mk (HD.out.trans (if_pos hS))
            have hd : decide (1048576 < S) = true := by simp; exact hS
            go_wp2_with fail
            go_ret
            exact ⟨ret_eq (by rw [HD2.out]; rfl), m, rfl⟩
          · have HD2 := hid_mk (HD.out.trans (if_neg hS))
            have hd : decide (1048576 < S) = false := by simp; omega
            go_wp2_with fail
            go_ret
            exact ⟨ret_eq (by rw [HD2.out]; rfl), m, rfl⟩
end Go.Proofs.YtfhhgcgbgmilcaaGreat

/- The reference's memory of layer 2: regions, and the bytes of each in a block of its own; find, Has, Load. Conditions: as each theorem names them. -/
namespace Go.Proofs.YtfhhgcgbgmilcaaGreat
open Go.ChangeShapes Go.WideShapes Go.ChangeAt Go.RowKit
set_option linter.unusedVariables false

/-- the bytes of region i -/
def part (L : List (Int × Int)) (M : List Int) (i : Nat) : List Int := (M.drop (off L i)).take (at_ L i).2.toNat
/-- block rp is a reference's memory with regions L and bytes M; piece i lies in block D i; all of it above base -/
structure IsRef (w : World) (base rp lb bb cL cB : Nat) (aB : Option Addr) (D : Nat → Nat) (L : List (Int × Int)) (M : List Int) : Prop where
  o0 : w.cell? ⟨rp, 0, none⟩ = some (.slice (some ⟨lb, 0, none⟩) L.length cL)
  o1 : w.cell? ⟨rp, 1, none⟩ = some (.slice aB L.length cB)
  aB : 0 < L.length → aB = some ⟨bb, 0, none⟩
  regs : ∀ j, j < L.length → w.cell? ⟨lb, j * 2, none⟩ = some (.int .u64 (at_ L j).1) ∧ w.cell? ⟨lb, j * 2 + 1, none⟩ = some (.int .u64 (at_ L j).2)
  rows : ∀ j, j < L.length → w.cell? ⟨bb, j, none⟩ = some (.slice (some ⟨D j, 0, none⟩) (at_ L j).2.toNat (at_ L j).2.toNat)
  parts : ∀ j, j < L.length → w.heap[D j]? = some (.cells ((part L M j).map (Value.int .u8)).toArray 5 (0, 0))
  inj : ∀ i j, i < L.length → j < L.length → D i = D j → i = j
  ne : ∀ j, j < L.length → D j ≠ rp ∧ D j ≠ lb ∧ D j ≠ bb ∧ base ≤ D j
  ok : okR (-1) 1048576 L = true
  n16 : L.length ≤ 16
  len : M.length = sumR L
  rng : isBytes M
theorem IsRef.keep {w w' : World} {base rp lb bb cL cB : Nat} {aB : Option Addr} {D : Nat → Nat} {L : List (Int × Int)} {M : List Int} (h : IsRef w base rp lb bb cL cB aB D L M) {S : Nat → Prop} (hc : Chg S w w') (h1 : ¬ S rp) (h2 : 0 < L.length → ¬ S lb ∧ ¬ S bb) (h3 : ∀ j, j < L.length → ¬ S (D j)) : IsRef w' base rp lb bb cL cB aB D L M :=
  ⟨(hc.cell (World.block_lt_of_cell? _ _ h.o0) h1).trans h.o0, (hc.cell (World.block_lt_of_cell? _ _ h.o1) h1).trans h.o1, h.aB,
   fun j hj => ⟨(hc.cell (World.block_lt_of_cell? _ _ (h.regs j hj).1) (h2 (by omega)).1).trans (h.regs j hj).1, (hc.cell (World.block_lt_of_cell? _ _ (h.regs j hj).2) (h2 (by omega)).1).trans (h.regs j hj).2⟩,
   fun j hj => (hc.cell (World.block_lt_of_cell? _ _ (h.rows j hj)) (h2 (by omega)).2).trans (h.rows j hj),
   fun j hj => hc.keep (h.parts j hj) (h3 j hj), h.inj, h.ne, h.ok, h.n16, h.len, h.rng⟩
theorem IsRef.below {w w' : World} {base rp lb bb cL cB : Nat} {aB : Option Addr} {D : Nat → Nat} {L : List (Int × Int)} {M : List Int} (h : IsRef w base rp lb bb cL cB aB D L M) (hb : Below w.heap.size w w') : IsRef w' base rp lb bb cL cB aB D L M :=
  h.keep (S := fun _ => False) (Chg.of_below hb) (fun h => h) (fun _ => ⟨fun h => h, fun h => h⟩) (fun _ _ h => h)
theorem part_len {L : List (Int × Int)} {M : List Int} (hlen : M.length = sumR L) {i : Nat} (hi : i < L.length) : (part L M i).length = (at_ L i).2.toNat := by
  have := off_room L i hi
  unfold part
  simp
  omega
theorem part_getD {L : List (Int × Int)} {M : List Int} {i k : Nat} (hk : k < (at_ L i).2.toNat) : (part L M i).getD k 0 = M.getD (off L i + k) 0 := by
  unfold part
  simp only [List.getD_eq_getElem?_getD, List.getElem?_take, List.getElem?_drop]
  rw [if_pos hk]
/-- what find answers -/
def RFound (L : List (Int × Int)) (a n x y : Int) : Prop :=
  (loc L a n = none ∧ x = -1 ∧ y = 0) ∨ ∃ i k : Nat, i < L.length ∧ loc L a n = some (off L i + k) ∧ x = (i : Int) ∧ y = (k : Int) ∧ (k : Int) + n ≤ (at_ L i).2 ∧ 1 ≤ n

set_option maxRecDepth 100000 in
set_option maxHeartbeats 4000000 in
theorem rfind_any (base rp lb bb cL cB : Nat) (aB : Option Addr) (D : Nat → Nat) (L : List (Int × Int)) (M : List Int) (a n : Int) (w : World) (h : IsRef w base rp lb bb cL cB aB D L M) (ha : U64 a) (hn : U64 n) :
    Calls Tryz.prog 59 #[.pointer (some ⟨rp, 0, none⟩), .int .u64 a, .int .u64 n] w fun e w' => ∃ x y : Int, e = .returned (.tuple #[.int .i64 x, .int .i64 y]) ∧ RFound L a n x y ∧ Below w.heap.size w w' := by
  have o0 := h.o0
  have hol := World.block_lt_of_cell? _ _ o0
  have h16i : (L.length : Int) ≤ 16 := by have := h.n16; omega
  have HR := hid_mk h.regs
  have HOK := hid_mk h.ok
  clear h
  go_enter Tryz.func59, Tryz.ntmps59
  go_wp2
  go_loopw [8] (fun i wr => ∃ k : Nat, k ≤ L.length ∧ i = .int .i64 k ∧ Below w.heap.size w wr ∧ Hid (∀ j, j < k → ¬ ((at_ L j).1 ≤ a ∧ a + n ≤ (at_ L j).1 + (at_ L j).2 ∧ 1 ≤ n))) (fun i _ => L.length - (intOf i).toNat)
  case atStart => exact ⟨0, Nat.zero_le _, rfl, Below.refl _ _, hid_mk (fun j hj => by omega)⟩
  case round =>
    obtain ⟨k, hk, rfl, hbel, hI⟩ := hrel
    have p0 := (hbel.cell (p := ⟨rp, 0, none⟩) hol).trans o0
    by_cases hlt : k < L.length
    · obtain ⟨q0, q1⟩ := HR.out k hlt
      have hlb := World.block_lt_of_cell? _ _ q0
      have c0 := (hbel.cell (p := ⟨lb, k * 2, none⟩) hlb).trans q0
      have c1 := (hbel.cell (p := ⟨lb, k * 2 + 1, none⟩) hlb).trans q1
      have hz := hbel.size
      have hat := okR_at HOK.out k hlt
      obtain ⟨t1, t2, t3, t4⟩ := hat
      have HMK := hid_mk (fun h1 h2 h3 => loc_mk HOK.out (a := a) (n := n) hlt h1 h2 h3)
      clear q0 q1
      generalize hx : (at_ L k).1 = x at *
      generalize hy : (at_ L k).2 = y at *
      have hNext : Hid (¬ (x ≤ a ∧ a + n ≤ x + y ∧ 1 ≤ n) → ∀ j, j < k + 1 → ¬ ((at_ L j).1 ≤ a ∧ a + n ≤ (at_ L j).1 + (at_ L j).2 ∧ 1 ≤ n)) := hid_mk (fun h j hj => by
        rcases Nat.lt_succ_iff_lt_or_eq.1 hj with h' | rfl
        · exact hI.out j h'
        · rw [hx, hy]
          exact h)
      have HY := hid_mk hy
      clear hx hy
      by_cases n0 : n < 1
      · have d1 : decide (1 ≤ n) = false := by simp; omega
        have HF := hid_mk (hNext.out (by omega))
        clear t1 t2 t3 t4
        go_wp2_with fail
        go_roundw
        case rel => exact ⟨k + 1, by omega, by go_num, by repeat (first | exact hbel | (refine Below.setCell ?_ hbel.size _) | (refine Below.alloc ?_ hbel.size _)), HF⟩
        case measure => simp [intOf]; omega
      · have d1 : decide (1 ≤ n) = true := by simp; omega
        by_cases c2 : a < x
        · have d2 : decide (x ≤ a) = false := by simp; omega
          have HF := hid_mk (hNext.out (by omega))
          clear t1 t2 t3 t4
          go_wp2_with fail
          go_roundw
          case rel => exact ⟨k + 1, by omega, by go_num, by repeat (first | exact hbel | (refine Below.setCell ?_ hbel.size _) | (refine Below.alloc ?_ hbel.size _)), HF⟩
          case measure => simp [intOf]; omega
        · have d2 : decide (x ≤ a) = true := by simp; omega
          by_cases c3 : y < n
          · have d3 : decide (n ≤ y) = false := by simp; omega
            have HF := hid_mk (hNext.out (by omega))
            clear t1 t2 t3 t4
            go_wp2_with fail
            go_roundw
            case rel => exact ⟨k + 1, by omega, by go_num, by repeat (first | exact hbel | (refine Below.setCell ?_ hbel.size _) | (refine Below.alloc ?_ hbel.size _)), HF⟩
            case measure => simp [intOf]; omega
          · have d3 : decide (n ≤ y) = true := by simp; omega
            have hw1 : IntKind.u64.wrap (a - x) = a - x := by rw [IntKind.wrap_u64]; omega
            have hw2 : IntKind.u64.wrap (y - n) = y - n := by rw [IntKind.wrap_u64]; omega
            by_cases c4 : y - n < a - x
            · have d4 : decide (a - x ≤ y - n) = false := by simp; omega
              have HF := hid_mk (hNext.out (by omega))
              clear t1 t2 t3 t4
              go_wp2_with fail
              go_roundw
              case rel => exact ⟨k + 1, by omega, by go_num, by repeat (first | exact hbel | (refine Below.setCell ?_ hbel.size _) | (refine Below.alloc ?_ hbel.size _)), HF⟩
              case measure => simp [intOf]; omega
            · have d4 : decide (a - x ≤ y - n) = true := by simp; omega
              have hw3 : IntKind.i64.wrap (a - x) = a - x := IntWalk.i64_in _ (by omega)
              have HF := hid_mk (HMK.out (by omega) (by omega) (by omega))
              have HE := hid_mk (show a - x = ((a - x).toNat : Int) ∧ ((a - x).toNat : Int) + n ≤ y ∧ 1 ≤ n by omega)
              clear t1 t2 t3 t4
              go_wp2_with fail
              go_quiet (fail)
              go_wp2_with fail
              go_ret2
              refine ⟨(k : Int), a - x, ret_eq rfl, Or.inr ⟨k, (a - x).toNat, hlt, HF.out, rfl, HE.out.1, by rw [HY.out]; exact HE.out.2.1, HE.out.2.2⟩, ?_⟩
              repeat (first | exact hbel | (refine below_dn ?_ _) | (refine Below.setCell ?_ hbel.size _) | (refine Below.alloc ?_ hbel.size _))
    · obtain rfl : k = L.length := by omega
      have HN := hid_mk (loc_no (fun i hi => hI.out i hi))
      go_wp2_with fail
      go_ret2
      exact ⟨-1, 0, rfl, Or.inl ⟨HN.out, rfl, rfl⟩, hbel⟩

end Go.Proofs.YtfhhgcgbgmilcaaGreat
