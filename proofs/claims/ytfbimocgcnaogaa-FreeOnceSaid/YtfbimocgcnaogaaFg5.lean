/- Package free's New. Conditions: as each theorem names them. -/
import Derived.Test.YtfbimocgcnaogaaFg4
import Derived.Test.YtfbimocgcnaogaaFe6
namespace Go.Proofs.Ytfbimocgcnaogaa
open Go.ChangeShapes Go.WideShapes Go.ChangeAt Go.RowKit
set_option linter.unusedVariables false
set_option maxRecDepth 100000

theorem mapI_at {L : List Int} {j : Nat} (h : j < L.length) : (L.map (Value.int .i64))[j]? = some (.int .i64 (L.getD j 0)) := by
  simp [h, List.getD]
theorem chk_nil (S : Int) : chkL S [] = newLB S := by
  rw [Bool.eq_iff_iff, chkL_iff]
  unfold newLB
  simp
  omega
/-- a row of zeros -/
def zrow (n : Nat) : List Value := (List.replicate n (0 : Int)).map (Value.int .i64)
theorem makeI (w : World) (n : Nat) (h : n ≤ 100000) :
    (Instr.makeSlice 22 (.int .i64 (n : Int)) (.int .i64 (n : Int))).run Try.prog w = .ok (.slice (some ⟨w.heap.size, 0, none⟩) n n) (w.alloc (.cells (zrow n).toArray 3)) := by
  obtain ⟨i0, hi, hz0, hz1, hz2⟩ := info_parts rowI64
  have hr := run_make (P := Try.prog) w 22 3 i0 (.int .i64 0) Try.underlying22 hi hz0 .i64 .i64 n n (by omega) (Int.le_refl _) (by rw [hz2]; omega) (by omega)
  rw [hr]
  simp only [Int.toNat_natCast, hz1, Nat.mul_one]
  congr 3
  apply Array.ext'
  rw [show (Value.int IntKind.i64 0).cells = #[.int .i64 0] from rfl, toList_madeCells_one]
  simp [zrow]
/-- the first k numbers are in place -/
def numsL (n k : Nat) : List Int := (List.range k).map (fun i : Nat => (i : Int)) ++ List.replicate (n - k) 0
theorem numsL_zero (n : Nat) : numsL n 0 = List.replicate n 0 := by simp [numsL]
theorem numsL_all (n : Nat) : numsL n n = (List.range n).map (fun i : Nat => (i : Int)) := by simp [numsL]
theorem numsL_len {n k : Nat} (h : k ≤ n) : (numsL n k).length = n := by
  unfold numsL
  simp
  omega
theorem numsL_set {n k : Nat} (h : k < n) : (numsL n k).set k (k : Int) = numsL n (k + 1) := by
  unfold numsL
  have e : List.replicate (n - k) (0 : Int) = 0 :: List.replicate (n - (k + 1)) 0 := by
    rw [show n - k = (n - (k + 1)) + 1 by omega, List.replicate_succ]
  rw [e, List.set_append_right _ _ (by simp), List.range_succ, List.map_append]
  simp
/-- where New stands -/
structure NuS (w : World) (S : Int) (n rb bx lb k : Nat) (W : World) : Prop where
  box : BlkAt W bx [.int .i64 S, .slice (some ⟨lb, 0, none⟩) n n] 24
  res : BlkAt W rb [.int .i64 0, .slice none 0 0] 24
  row : BlkAt W lb ((numsL n k).map (Value.int .i64)) 3
  old : Below w.heap.size w W
theorem NuS.set {w W : World} {S : Int} {n rb bx lb k : Nat} (h : NuS w S n rb bx lb k W) (hk : k < n) (hb : lb ≠ bx) (hr : lb ≠ rb) (hw : w.heap.size ≤ lb) : NuS w S n rb bx lb (k + 1) (W.setCell ⟨lb, k, none⟩ (.int .i64 k)) := by
  refine ⟨h.box.other (Ne.symm hb) _, h.res.other (Ne.symm hr) _, ?_, h.old.setCell hw _⟩
  have := h.row.set k (.int .i64 k)
  rw [← List.map_set, numsL_set hk] at this
  exact this

set_option maxHeartbeats 4000000 in
theorem frnew (S : Int) (w : World) (hS : I64 S) :
    Calls Try.prog 7 #[.int .i64 S] w fun e w' => ∃ v, e = .returned (.tuple #[frV (newLS S) v, .int .i64 (newLE S)]) ∧ IntsK 0 w' v (newLL S) ∧ From w v [] ∧ Below w.heap.size w w' := by
  have HC := hid_mk (fun u => frcheck S (.slice none 0 0) [] u (IntsZ.nil u) hS (by simp))
  unfold chkLE at HC
  rw [chk_nil] at HC
  unfold frV at *
  have X2 := (two_fr w 0 (.slice none 0 0) (.int .i64 S) (.slice none 0 0) 24 24)
  have HX := hid_mk X2
  clear X2
  by_cases hn : newLB S = false
  · have e : newLB S = false := hn
    have e1 : newLS S = 0 ∧ newLE S = 2 ∧ newLL S = [] := by
      unfold newLS newLE newLL
      rw [e]
      exact ⟨rfl, rfl, rfl⟩
    rw [e1.1, e1.2.1, e1.2.2]
    rw [e, if_neg (by decide)] at HC
    clear e e1 hn
    go_enter Try.func7, Try.ntmps7
    go_wp2_with fail
    refine (HC.out _).mono ?_
    rintro e w1 ⟨rfl, hb⟩
    have B1 := hid_mk (below_then HX.out.2.2 hb)
    obtain ⟨r0, q0, q1, f0, f1⟩ := blk2 (HX.out.1.below hb)
    clear hb
    go_wp2_with fail
    exact bodyPost_ret (v := .tuple #[.agg #[.int .i64 0, .slice none 0 0], .int .i64 2]) (by simp [results, Try.results7, go_sem, q0, q1]) rfl ⟨_, rfl, IntsK.nil _ _, (fun a n c e => by cases e), put2 B1.out (Nat.le_refl _) _ _⟩
  · have e : newLB S = true := by simpa using hn
    have e1 : newLS S = S ∧ newLE S = 0 := by
      unfold newLS newLE
      rw [e]
      exact ⟨rfl, rfl⟩
    rw [e1.1, e1.2]
    rw [e, if_pos rfl] at HC
    have hb2 := e
    unfold newLB at hb2
    simp at hb2
    obtain ⟨n, rfl⟩ := Int.eq_ofNat_of_zero_le (show 0 ≤ S by omega)
    have eL := newLL_at (k := n) (by omega) (by omega)
    rw [eL]
    have HN : Hid (n ≤ 32768) := hid_mk (by omega)
    have HMk := hid_mk (fun u => makeI u n (by omega))
    clear e e1 hn hb2 eL hS
    go_enter Try.func7, Try.ntmps7
    go_wp2_with fail
    refine (HC.out _).mono ?_
    rintro e w1 ⟨rfl, hb⟩
    have B1 := hid_mk (below_then HX.out.2.2 hb)
    have HRes := hid_mk (HX.out.1.below hb)
    have HBox := hid_mk (HX.out.2.1.below hb)
    clear hb HX HC
    have hx1 := HBox.out.lt
    obtain ⟨x0, x1, x2, x3, x4⟩ := blk2 (HBox.out.below (below_box w1 (.cells (zrow n).toArray 3)))
    obtain ⟨lb, hlb⟩ : ∃ lb, w1.heap.size = lb := ⟨_, rfl⟩
    obtain ⟨rb, hrb⟩ : ∃ rb, w.heap.size = rb := ⟨_, rfl⟩
    have HNu : Hid (NuS w n n rb (rb + 1) lb 0 (((w1.alloc (.cells (zrow n).toArray 3)).setCell ⟨rb + 1, 1, none⟩ (.slice (some ⟨lb, 0, none⟩) n n)))) := hid_mk (by
      refine ⟨?_, ?_, ?_, ?_⟩
      · have := (HBox.out.below (below_box w1 (.cells (zrow n).toArray 3))).set 1 (.slice (some ⟨lb, 0, none⟩) n n)
        rw [hrb] at this
        exact this
      · have := (HRes.out.below (below_box w1 (.cells (zrow n).toArray 3)))
        rw [hrb] at this
        exact this.other (by omega) _
      · have := (blk_new w1 (zrow n) 3)
        rw [hlb] at this
        rw [numsL_zero]
        show BlkAt _ _ (zrow n) _
        exact this.other (by omega) _
      · exact (B1.out.alloc B1.out.size _).setCell (by show w.heap.size ≤ rb + 1; omega) _)
    have hmk := HMk.out w1
    rw [hlb] at hmk
    rw [hrb] at x0 x1 x2 x3 x4 hx1 ⊢
    go_wp2_with fail
    generalize ((w1.alloc (.cells (zrow n).toArray 3)).setCell ⟨rb + 1, 1, none⟩ (.slice (some ⟨lb, 0, none⟩) n n)) = w2 at *
    have HLb : Hid (rb + 1 < lb) := hid_mk (by omega)
    have HRb := hid_mk hrb
    obtain ⟨bx, hbx⟩ : ∃ bx, rb + 1 = bx := ⟨_, rfl⟩
    rw [hbx] at HNu HLb ⊢
    have HBx : Hid (rb < bx) := hid_mk (by omega)
    clear x0 x1 x2 x3 x4 hx1 hrb hlb hbx hmk HRes HBox B1 HMk
    go_loopw [6, 19] (fun _ i wr => ∃ k : Nat, k ≤ n ∧ i = .int .i64 k ∧ Hid (NuS w n n rb bx lb k wr)) (fun _ i _ => n - (intOf i).toNat)
    case atStart => exact ⟨0, Nat.zero_le _, rfl, HNu⟩
    case round =>
      obtain ⟨k, hk, rfl, hs⟩ := hrel
      obtain ⟨x2, x0, x1, f0, f1⟩ := blk2 hs.out.box
      by_cases hlt : k < n
      · have hki : (k : Int) < (n : Int) := by omega
        have hk6 : (k : Int) < 100000 := by
          have := HN.out
          omega
        have c0 := (hs.out.row.cell k).trans (show _ = some (Value.int .i64 ((numsL n k).getD k 0)) by
          have : k < (numsL n k).length := by rw [numsL_len hk]; exact hlt
          simp [this, List.getD])
        have g0 := hs.out.row.free k
        have HNx := hid_mk (hs.out.set hlt (by have := HLb.out; omega) (by have := HLb.out; have := HBx.out; omega) (by have := HLb.out; have := HBx.out; have := HRb.out; omega))
        clear hs
        generalize (numsL n k).getD k 0 = y at *
        go_wp2_with fail
        go_roundw
        case rel => exact ⟨k + 1, by omega, by simp, HNx⟩
        case measure => simp [intOf]; omega
      · obtain rfl : k = n := by omega
        obtain ⟨r2, q0, q1, p0, p1⟩ := blk2 hs.out.res
        go_wp2_with fail
        exact bodyPost_ret (v := .tuple #[.agg #[.int .i64 k, .slice (some ⟨lb, 0, none⟩) k k], .int .i64 0]) (by simp [results, Try.results7, go_sem, q0, q1]) rfl ⟨_, rfl, by
          have hrl := HLb.out
          have hbl := HBx.out
          have hrow := hs.out.row
          rw [numsL_all] at hrow
          have hrow2 := (hrow.other (show lb ≠ rb by omega) (.int .i64 k) (i := 0)).other (show lb ≠ rb by omega) (.slice (some ⟨lb, 0, none⟩) k k) (i := 1)
          refine ⟨Or.inr ⟨lb, 0, k, by simp, hrow2.lt, by simp, fun j hj => ?_⟩, fun a n c e hn => ?_⟩
          · rw [Nat.zero_add, hrow2.cell j, mapI_at hj]
          · cases e
            exact Or.inr ⟨_, _, hrow2⟩, (fun a n c e hn => by
          cases e
          have := HLb.out
          have := HBx.out
          have := HRb.out
          exact Or.inl (by show w.heap.size ≤ lb; omega)), put2 hs.out.old (by have := HRb.out; omega) _ _⟩
end Go.Proofs.Ytfbimocgcnaogaa
