/- Pg13 Pg14: joined texts. Conditions: as each theorem names them. -/
import Derived.Test.YteolnghnlfeakaaKp15
import Derived.Test.YteolnghnlfeakaaKp25
/- Plain facts of cuts for SegCuts and SegBoth; rows of segments put together. Conditions: as each theorem names them. -/
namespace Go.Proofs.Yteolnghnlfeakaa
open Go.ChangeShapes Go.WideShapes Go.ChangeAt Go.RowKit
set_option linter.unusedVariables false
set_option maxRecDepth 100000

theorem totE_ok {t : Bool} {L : List Sg} (h : segE L = 0) : totE t L = totS t L := by
  unfold totE
  rw [if_pos h]
theorem totE_sum {L : List Sg} (h : segE L = 0) : totE false L + totE true L = sumS L := by
  rw [totE_ok h, totE_ok h]
  exact totS_sum L
theorem cutE_ok {L : List Sg} {f n : Int} (h : segE L = 0) : cutE L f n = cutS L f n := by
  unfold cutE
  rw [if_pos h]
theorem partE_ok {t : Bool} {L : List Sg} (h : segE L = 0) : partE t L = partS t L := by
  unfold partE
  rw [if_pos h]
theorem sum_cut {L : List Sg} {f n : Int} (hu : isSgs L) (hf : 0 ≤ f) (hn : 0 ≤ n) : sumS (cutS L f n) = if f < sumS L then min n (sumS L - f) else 0 := sumS_cut L f n hu hf hn
theorem segE_cut {L : List Sg} {f n : Int} (hu : isSgs L) (h : segE L = 0) (hf : 0 ≤ f) (hn : 0 ≤ n) : segE (cutS L f n) = 0 ∧ isSgs (cutS L f n) := by
  obtain ⟨o1, o2, o3⟩ := (segE_ok hu).1 h
  have hi := cutS_is L f n false hu o2 hf hn
  refine ⟨(segE_ok hi).2 ⟨Nat.le_trans (cutS_len L f n) o1, okS_cut L f n false o2 hf hn, ?_⟩, hi⟩
  rw [sum_cut hu hf hn]
  split <;> omega
theorem app_segs {B : Nat} {w : World} {v v2 : Value} {L L2 : List Sg} (h : OwnS B w v L) (hB : B ≤ w.heap.size) (h2 : SegsAt w v2 L2) (hl : L.length + L2.length ≤ 1000) :
    ∃ v' w', (∀ ty, (Builtin.append_ #[33, 33] ty #[v, v2]).run Try.prog w = .ok v' w') ∧ OwnS B w' v' (L ++ L2) ∧ Below B w w' := by
  obtain ⟨i0, hi, hz0, hz1, hz2⟩ := info_parts rowSg
  have hlt := fun q hq => (World.ownsRow.lt h q hq).1
  rcases h2 with ⟨⟨a, c, rfl, hac⟩, rfl⟩ | ⟨b, o, c, rfl, hb1, hb2, hb3⟩
  · cases a with
    | none =>
      refine ⟨v, w, fun ty => by rw [hac rfl]; exact run_append_owned_none _ B 33 ty 32 i0 3 Try.underlying33 hi _ _ _ h, ?_, Below.refl _ _⟩
      rw [List.append_nil]
      exact h
    | some a =>
      obtain ⟨v', w', h1, h2, h3, _⟩ := run_append_own (P := Try.prog) w B 33 33 32 i0 _ 3 16 Try.underlying33 hi hz0 hz1 hz2 rfl (by decide) v _ _ h a 0 c [] rfl (fun j u hu => by simp at hu) (fun u hu => by cases hu) (by simp [maxLen]; simp at hl; omega) (by simp at hl; omega) hB
      refine ⟨v', w', fun ty => h1, ?_, grown_below h3 hB hlt⟩
      rw [List.append_nil] at h2 ⊢
      exact h2
  · obtain ⟨v', w', h1, h2, h3, _⟩ := run_append_own (P := Try.prog) w B 33 33 32 i0 _ 3 16 Try.underlying33 hi hz0 hz1 hz2 rfl (by decide) v _ _ h ⟨b, o, none⟩ L2.length c (segCells L2) (segCells_length L2) (newsS_of hb3) oneS_of (by simp [maxLen]; omega) (by omega) hB
    refine ⟨v', w', fun ty => h1, ?_, grown_below h3 hB hlt⟩
    rw [← segCells_append] at h2
    have e2 : (L ++ L2).length = L.length + L2.length := by simp
    show w'.ownsRow B 32 3 v' (L ++ L2).length _
    rw [e2]
    exact h2
theorem own_empty (w : World) : OwnS w.heap.size (w.alloc (.cells #[] 32)) (.slice (some ⟨w.heap.size, 0, none⟩) 0 0) [] :=
  World.ownsRow_made (e := 32) (size := 3) (base := w.heap.size) w #[] 0 (Nat.le_refl _) (by simp [maxLen]) rfl
theorem ownS_mono {B B' : Nat} {w : World} {v : Value} {L : List Sg} (h : OwnS B w v L) (hB : B' ≤ B) : OwnS B' w v L := by
  refine ⟨h.1, ?_⟩
  rcases h.2 with hn | ⟨g, cap, cur, rfl, hg, hh, rest⟩
  · exact .inl hn
  · exact .inr ⟨g, cap, cur, rfl, Nat.le_trans hB hg, hh, rest⟩

/-- what SegCuts says of a valid buffer's sums -/
theorem cut_twice {L : List Sg} {f n m : Int} (hu : isSgs L) (h : segE L = 0) (hf : 0 ≤ f) (hn : 0 ≤ n) (hm : 0 ≤ m) : cutS (cutS L f n) m n = cutS L (f + m) (n - min m n) := by
  obtain ⟨o1, o2, o3⟩ := (segE_ok hu).1 h
  rw [cutS_cut L f n m n false hu o2 hf hn hm hn]
  by_cases hc : m ≤ n
  · rw [show min n (n - m) = n - m from by omega, show n - min m n = n - m from by omega]
  · rw [cutS_zero _ _ _ (by omega), cutS_zero _ _ _ (by omega)]
theorem two_halves {L : List Sg} {f : Int} (t : Bool) (hu : isSgs L) (h : segE L = 0) (hf : 0 ≤ f) : totS t (cutS L 0 f) + totS t (cutS L f (sumS L)) = totS t L := by
  obtain ⟨o1, o2, o3⟩ := (segE_ok hu).1 h
  have := sumS_nonneg hu
  exact totS_two L f (sumS L) t false hu o2 hf (by omega) this
theorem tot_bd {L : List Sg} (t : Bool) (hu : isSgs L) (h : segE L = 0) : 0 ≤ totS t L ∧ totS t L < 4294967296 := by
  obtain ⟨o1, o2, o3⟩ := (segE_ok hu).1 h
  have h1 := totS_sum L
  have h2 := totS_nonneg false hu
  have h3 := totS_nonneg true hu
  cases t <;> omega
/-- Total, Cut, Part of a valid buffer, by name -/
theorem ptotal_ok {v : Value} {L : List Sg} {w : World} (hv : SegsAt w v L) (hu : isSgs L) (h : segE L = 0) {r t : Int} (hr : totS false L = r) (ht : totS true L = t) :
    Calls Try.prog 9 #[v] w fun e w' => e = .returned (.tuple #[.int .u64 r, .int .u64 t]) ∧ Below w.heap.size w w' := by
  have := ptotal v L w hv hu
  rw [totE_ok h, totE_ok h, hr, ht] at this
  exact this
theorem pcut_ok {v : Value} {f n : Int} {L : List Sg} {w : World} (hv : SegsAt w v L) (hu : isSgs L) (h : segE L = 0) (hf : U64 f) (hn : U64 n) {C : List Sg} (hC : cutS L f n = C) :
    Calls Try.prog 26 #[v, .int .u64 f, .int .u64 n] w fun e w' => ∃ a c, e = .returned (.slice a C.length c) ∧ OwnS w.heap.size w' (.slice a C.length c) C ∧ Below w.heap.size w w' := by
  refine (pcut v f n L w hv hu hf hn).mono ?_
  rw [cutE_ok h, hC]
  rintro e w' ⟨v', rfl, ho, hb⟩
  obtain ⟨a, c, rfl⟩ := ho.at.len
  exact ⟨a, c, rfl, ho, hb⟩
theorem ppart_ok {v : Value} {t : Bool} {L : List Sg} {w : World} (hv : SegsAt w v L) (hu : isSgs L) (h : segE L = 0) {C : List Sg} (hC : partS t L = C) :
    Calls Try.prog 24 #[v, .bool t] w fun e w' => ∃ a c, e = .returned (.slice a C.length c) ∧ OwnS w.heap.size w' (.slice a C.length c) C ∧ Below w.heap.size w w' := by
  refine (ppart v t L w hv hu).mono ?_
  rw [partE_ok h, hC]
  rintro e w' ⟨v', rfl, ho, hb⟩
  obtain ⟨a, c, rfl⟩ := ho.at.len
  exact ⟨a, c, rfl, ho, hb⟩
theorem psame_ok {v1 v2 : Value} {L : List Sg} {w : World} (h1 : SegsAt w v1 L) (h2 : SegsAt w v2 L) (hl : L.length ≤ 1000) :
    Calls Try.prog 16 #[v1, v2] w fun e w' => e = .returned (.bool true) ∧ Below w.heap.size w w' := by
  have := psame v1 v2 L L w h1 h2 hl
  rw [sameS_self] at this
  exact this.mono fun e w' ⟨he, m, hm⟩ => ⟨he, by rw [hm]; exact below_drewN _ _⟩
end Go.Proofs.Yteolnghnlfeakaa

/- Bytes of a row as a string; a made slice of segments; Check of too many. Conditions: as each theorem names them. -/
namespace Go.Proofs.Yteolnghnlfeakaa
open Go.ChangeShapes Go.WideShapes Go.ChangeAt Go.RowKit
set_option linter.unusedVariables false
set_option maxRecDepth 100000

theorem conv_at {w : World} {b o c n : Nat} {l : List Int} (hn : l.length = n) (h4 : ∀ j, j < l.length → w.cell? ⟨b, o + j, none⟩ = some (.int .u8 (l.getD j 0))) : (convert 38 9 (.slice (some ⟨b, o, none⟩) n c)).run Try.prog w = .ok (.string (strOfNums l)) w :=
  run_convert_bytes_arg w 38 5 Try.underlying38 Try.underlying5 b o n c l hn (fun i hi => by rw [h4 i (by omega)]) 9 Try.underlying9
theorem bytesLitF (w : World) (l : List Int) (t : TypeId) (fr : Nat × Nat) : BytesAt (w.alloc (.cells (bv l) t fr)) (.slice (some ⟨w.heap.size, 0, none⟩) l.length l.length) l :=
  Or.inr ⟨w.heap.size, 0, l.length, rfl, by rw [sizeA]; omega, Nat.le_refl _, fun j hj => by rw [Nat.zero_add]; exact cellB (M := l) (heap_alloc_new w _) j hj⟩
theorem make_segs (n : Nat) (h : n ≤ 1000000) : ∃ cs, ∀ w, (Instr.makeSlice 33 (.int .i64 (n : Int)) (.int .i64 (n : Int))).run Try.prog w = .ok (.slice (some ⟨w.heap.size, 0, none⟩) n n) (w.alloc (.cells cs 32)) := by
  obtain ⟨i0, hi, hz0, hz1, hz2⟩ := info_parts rowSg
  have hr := fun w => run_make (P := Try.prog) w 33 32 i0 _ Try.underlying33 hi hz0 .i64 .i64 n n (by omega) (Int.le_refl _) (by rw [hz2]; omega) (by omega)
  simp only [Int.toNat_natCast] at hr
  exact ⟨_, hr⟩
theorem pcheck_long (a : Option Addr) (n c : Nat) (w : World) (h : 64 < n) :
    Calls Try.prog 14 #[.slice a n c] w fun e w' => e = .returned (.int .i64 3) ∧ w = w' := by
  have h64i : (64 : Int) < (n : Int) := by omega
  go_enter Try.func14, Try.ntmps14
  go_wp2
  go_ret
  exact ⟨rfl, rfl⟩
end Go.Proofs.Yteolnghnlfeakaa
