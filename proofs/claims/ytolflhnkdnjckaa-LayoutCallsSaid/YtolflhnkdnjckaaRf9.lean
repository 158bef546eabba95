/- The reference's New of layer 2. Conditions: as each theorem names them. -/
import Derived.Test.YtolflhnkdnjckaaRf8
import Derived.Maps.AppendAt
import Derived.BigRegion
namespace Go.Proofs.Ytolflhnkdnjckaa
open Go.ChangeShapes Go.WideShapes Go.ChangeAt Go.RowKit
set_option linter.unusedVariables false
set_option maxRecDepth 100000

theorem rowBB : (Try.prog.info? 64).map (fun i => (i.zero, i.size, i.bytes)) = some (some (.slice none 0 0), 1, 24) := by kernel_rfl
theorem rnew_no (v : Value) (L : List (Int × Int)) (w : World) (hv : RegsAt w v L) (hu : isRegs L) (hm : L.length ≤ 4611686018427387904) (hno : chkE L ≠ 0) :
    Calls Try.prog 23 #[v] w fun e w' => e = .returned (.tuple #[.pointer none, .int .i64 2]) ∧ Below w.heap.size w w' := by
  have hchk := rcheck_any v L w hv hu hm
  have h2 : (chkE L != 0) = true := by simp; exact hno
  clear hv hu hm hno
  generalize chkE L = x at *
  go_enter Try.func23, Try.ntmps23
  go_wp2_with fail
  refine hchk.mono ?_
  rintro e w1 ⟨rfl, m, rfl⟩
  go_wp2_with fail
  go_ret2
  exact ⟨rfl, below_drewN _ _⟩

/-- append([]api.Region{}, l...): a row of the call's own, not nil -/
theorem append_regs (v : Value) (L : List (Int × Int)) (w : World) (hv : RegsAt w v L) (hl : L.length ≤ 1000000) :
    ∃ g cap w', (∀ ty, (Builtin.append_ #[35, 35] ty #[.slice (some ⟨w.heap.size, 0, none⟩) 0 0, v]).run Try.prog (w.alloc (.cells #[] 34)) = .ok (.slice (some ⟨g, 0, none⟩) L.length cap) w') ∧
      (∀ j, j < L.length → w'.cell? ⟨g, j * 2, none⟩ = some (.int .u64 (at_ L j).1) ∧ w'.cell? ⟨g, j * 2 + 1, none⟩ = some (.int .u64 (at_ L j).2)) ∧ w.heap.size ≤ g ∧ g < w'.heap.size ∧ Below w.heap.size w w' := by
  obtain ⟨i0, hi, hz0, hz1, hz2⟩ := info_parts rowReg2
  have hown := World.ownsRow_made (e := 34) (size := 2) (base := w.heap.size) w #[] 0 (Nat.le_refl _) (by simp [maxLen]) rfl
  have hbase : w.heap.size ≤ (w.alloc (.cells #[] 34)).heap.size := by rw [sizeA]; omega
  have hfin : ∀ (v' : Value) (w' : World), w'.ownsRow w.heap.size 34 2 v' L.length (regCells L) → v' ≠ .slice none 0 0 → ∃ g cap, v' = .slice (some ⟨g, 0, none⟩) L.length cap ∧
      (∀ j, j < L.length → w'.cell? ⟨g, j * 2, none⟩ = some (.int .u64 (at_ L j).1) ∧ w'.cell? ⟨g, j * 2 + 1, none⟩ = some (.int .u64 (at_ L j).2)) ∧ w.heap.size ≤ g ∧ g < w'.heap.size := by
    intro v' w' ho hne
    rcases ho.2 with ⟨rfl, h0⟩ | ⟨g, cap, cur, rfl, hg, hh, hn, hm, hs, ht⟩
    · exact absurd rfl hne
    · refine ⟨g, cap, rfl, fun j hj => ?_, hg, lt_blk hh⟩
      have hr := regCells_at L j hj
      have hlr := regCells_length L
      have hc := fun i (u : Value) (hu : (regCells L)[i]? = some u) => ho.cells (g := g) rfl i u hu
      have e : ∀ i, (⟨g, 0, none⟩ : Addr).add i = ⟨g, i, none⟩ := fun i => by unfold Addr.add; split <;> simp_all
      exact ⟨by rw [← e]; exact hc _ _ hr.1, by rw [← e]; exact hc _ _ hr.2⟩
  rcases hv with ⟨⟨a, c, rfl, hac⟩, rfl⟩ | ⟨b, o, c, rfl, hb1, hb2, hb3⟩
  · cases a with
    | none =>
      refine ⟨w.heap.size, 0, w.alloc (.cells #[] 34), fun ty => by rw [hac rfl]; exact run_append_owned_none _ w.heap.size 35 ty 34 i0 2 Try.underlying35 hi _ 0 [] hown, fun j hj => by simp at hj, Nat.le_refl _, by rw [sizeA]; omega, (Below.refl _ _).alloc (Nat.le_refl _) _⟩
    | some a =>
      obtain ⟨v', w', h1, h2, h3, h4⟩ := run_append_own (w.alloc (.cells #[] 34)) w.heap.size 35 35 34 i0 _ 2 16 Try.underlying35 hi hz0 hz1 hz2 rfl (by decide) _ 0 [] hown a 0 c [] rfl (fun j u hu => by simp at hu) (fun u hu => by cases hu) (by simp [maxLen]) (by decide) hbase
      obtain ⟨g, cap, rfl, q1, q2, q3⟩ := hfin v' w' h2 (fun e => by simpa using h4.1 e)
      exact ⟨g, cap, w', fun ty => h1, q1, q2, q3, ((Below.refl _ _).alloc (Nat.le_refl _) _).trans (grown_below h3 hbase (fun k hk => by simp [Value.ownBlock] at hk; omega))⟩
  · have hba : Below w.heap.size w (w.alloc (.cells #[] 34)) := Below.alloc (Below.refl _ _) (Nat.le_refl _) _
    have hb3' : ∀ j, j < L.length → (w.alloc (.cells #[] 34)).cell? ⟨b, o + j * 2, none⟩ = some (.int .u64 (at_ L j).1) ∧ (w.alloc (.cells #[] 34)).cell? ⟨b, o + j * 2 + 1, none⟩ = some (.int .u64 (at_ L j).2) := fun j hj =>
      ⟨(hba.cell (p := ⟨b, o + j * 2, none⟩) hb1).trans (hb3 j hj).1, (hba.cell (p := ⟨b, o + j * 2 + 1, none⟩) hb1).trans (hb3 j hj).2⟩
    obtain ⟨v', w', h1, h2, h3, h4⟩ := run_append_own (w.alloc (.cells #[] 34)) w.heap.size 35 35 34 i0 _ 2 16 Try.underlying35 hi hz0 hz1 hz2 rfl (by decide) _ 0 [] hown ⟨b, o, none⟩ L.length c (regCells L) (regCells_length L) (newsR_of (c := c) hb3') oneR_of (by simp [maxLen]; omega) (by omega) hbase
    rw [List.nil_append, Nat.zero_add] at h2
    obtain ⟨g, cap, rfl, q1, q2, q3⟩ := hfin v' w' h2 (fun e => by simpa using h4.1 e)
    exact ⟨g, cap, w', fun ty => h1, q1, q2, q3, ((Below.refl _ _).alloc (Nat.le_refl _) _).trans (grown_below h3 hbase (fun k hk => by simp [Value.ownBlock] at hk; omega))⟩
end Go.Proofs.Ytolflhnkdnjckaa
