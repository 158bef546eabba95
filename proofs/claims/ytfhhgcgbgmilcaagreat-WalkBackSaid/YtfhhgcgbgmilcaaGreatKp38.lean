/- Rd2 Lay8 Lay9: joined texts. Conditions: as each theorem names them. -/
import Derived.Test.YtfhhgcgbgmilcaaGreatKp19
import Derived.Test.YtfhhgcgbgmilcaaGreatKp25
import Derived.Test.YtfhhgcgbgmilcaaGreatKp28
/- The reference of layer 3: Bytes, PackedBytes. Conditions: as each theorem names them. -/
namespace Go.Proofs.YtfhhgcgbgmilcaaGreat
open Go.ChangeShapes Go.WideShapes Go.ChangeAt Go.RowKit
set_option linter.unusedVariables false
set_option maxRecDepth 100000

theorem rput_nil (B : Nat) (x : Int) (w : World) (hB : B ≤ w.heap.size) (hx : 0 ≤ x ∧ x < 18446744073709551616) :
    Calls Tryz.prog 32 #[.slice none 0 0, .int .u64 x, .int .i64 8] w fun e w' => ∃ v', e = .returned v' ∧ OwnB w' B v' (leB 8 x) ∧ Below B w w' :=
  rput_any (.slice none 0 0) B [] x 8 w (World.ownsRow_nil _ _ _ _) hB (by simp) (by omega) hx
theorem rput_4 (v : Value) (B : Nat) (l : List Int) (x : Int) (w : World) (ho : OwnB w B v l) (hB : B ≤ w.heap.size) (hl : l.length ≤ 1000) (hx : 0 ≤ x ∧ x < 18446744073709551616) :
    Calls Tryz.prog 32 #[v, .int .u64 x, .int .i64 4] w fun e w' => ∃ v', e = .returned v' ∧ OwnB w' B v' (l ++ leB 4 x) ∧ Below B w w' :=
  rput_any v B l x 4 w ho hB (by omega) (by omega) hx
theorem rput_2 (v : Value) (B : Nat) (l : List Int) (x : Int) (w : World) (ho : OwnB w B v l) (hB : B ≤ w.heap.size) (hl : l.length ≤ 1000) (hx : 0 ≤ x ∧ x < 18446744073709551616) :
    Calls Tryz.prog 32 #[v, .int .u64 x, .int .i64 2] w fun e w' => ∃ v', e = .returned v' ∧ OwnB w' B v' (l ++ leB 2 x) ∧ Below B w w' :=
  rput_any v B l x 2 w ho hB (by omega) (by omega) hx



/-- what the region's loads read, and how far the heap has come -/
def SB (B b : Nat) (d : Dsc) (w0 W : World) : Prop := at4 W b 0 d ∧ b < B ∧ B ≤ W.heap.size ∧ Below w0.heap.size w0 W
theorem SB.keep {B b : Nat} {d : Dsc} {w0 W W' : World} (h : SB B b d w0 W) (hb : Below B W W') (hle : w0.heap.size ≤ B) : SB B b d w0 W' := ⟨h.1.below hb h.2.1, h.2.1, Nat.le_trans h.2.2.1 hb.size, h.2.2.2.trans (hb.mono hle)⟩
theorem eval_c (a : Act) (v : Value) : a.eval (.const v) = v := rfl

set_option maxHeartbeats 4000000 in
theorem rbytes_any (d : Dsc) (w : World) (hd : isDsc d) :
    Calls Tryz.prog 10 #[dV d] w fun e w' => ∃ v, e = .returned v ∧ OwnB w' (w.heap.size + 1) v (dB d) ∧ Below w.heap.size w w' := by
  obtain ⟨a0, a1⟩ := hd.a
  obtain ⟨l0, l1⟩ := hd.l
  obtain ⟨f0, f1⟩ := hd.f
  obtain ⟨n0, n1⟩ := hd.n
  have wl : IntKind.u64.wrap d.l = d.l := by rw [IntKind.wrap_u64]; omega
  have wf : IntKind.u64.wrap d.f = d.f := by rw [IntKind.wrap_u64]; omega
  have wn : IntKind.u64.wrap d.n = d.n := by rw [IntKind.wrap_u64]; omega
  have hfin : (((leB 8 d.a ++ leB 4 d.l) ++ leB 2 d.f) ++ leB 2 d.n) = dB d := by simp [dB]
  have HF := hid_mk hfin
  have HS := hid_mk (show SB (w.heap.size + 1) w.heap.size d w (w.alloc (.cells (dC d).toArray 44)).drew from ⟨⟨by simp [go_sem], by simp [go_sem], by simp [go_sem], by simp [go_sem]⟩, by omega, by show _ ≤ (w.alloc _).heap.size; rw [sizeA]; omega, ((Below.refl _ _).alloc (Nat.le_refl _) _).drew⟩)
  clear hd hfin
  go_enter Tryz.func10, Tryz.ntmps10
  go_wp2_with fail
  refine wp_region_phases [2, 6, 10, 14, 15]
    [.eq (.pointer (some ⟨w.heap.size, 0, none⟩)), .eq (.int .u64 d.a), .nxt 0 (fun v W => OwnB W (w.heap.size + 1) v (leB 8 d.a)),
     .eq (.pointer (some ⟨w.heap.size, 1, none⟩)), .eq (.int .u32 d.l), .eq (.int .u64 d.l), .nxt 1 (fun v W => OwnB W (w.heap.size + 1) v (leB 8 d.a ++ leB 4 d.l)),
     .eq (.pointer (some ⟨w.heap.size, 2, none⟩)), .eq (.int .u16 d.f), .eq (.int .u64 d.f), .nxt 2 (fun v W => OwnB W (w.heap.size + 1) v (leB 8 d.a ++ leB 4 d.l ++ leB 2 d.f)),
     .eq (.pointer (some ⟨w.heap.size, 3, none⟩)), .eq (.int .u16 d.n), .eq (.int .u64 d.n), .nxt 3 (fun v W => OwnB W (w.heap.size + 1) v (dB d)), .nxt 4 (fun v W => OwnB W (w.heap.size + 1) v (dB d))]
    (fun _ W => SB (w.heap.size + 1) w.heap.size d w W) (by kernel_rfl) (by kernel_rfl) (by kernel_rfl) HS.out ?_ ?_
  · refine And.intro ?_ (And.intro ?_ (And.intro ?_ (And.intro ?_ (And.intro ?_ (And.intro ?_ (And.intro ?_ (And.intro ?_ (And.intro ?_ (And.intro ?_ (And.intro ?_ (And.intro ?_ (And.intro ?_ (And.intro ?_ (And.intro ?_ (And.intro ?_ (True.intro))))))))))))))))
    · refine pstep_val (.pointer (some ⟨w.heap.size, 0, none⟩)) (by kernel_rfl) (by kernel_rfl) (fun t1 l1 A1 W1 inv hall hlate => ⟨wanted_none rfl, ?_, rfl⟩)
      have h1 : A1.eval (.tmp 1) = .pointer (some ⟨w.heap.size, 0, none⟩) := (inv.base 1 (by kernel_rfl)).trans rfl
      simp only [execOp, h1]
      simp [go_sem]
    · refine pstep_val (.int .u64 d.a) (by kernel_rfl) (by kernel_rfl) (fun t1 l1 A1 W1 inv hall hlate => ⟨wanted_none rfl, ?_, rfl⟩)
      have h1 : A1.eval (.tmp 3) = .pointer (some ⟨w.heap.size, 0, none⟩) := inv.get hall 0 3 (by kernel_rfl) (by kernel_rfl)
      obtain ⟨c0, c1, c2, c3⟩ := inv.s.1
      simp only [execOp, h1]
      simp [go_sem, c0]
    · refine pstep_call 0 32 (by kernel_rfl) _ _ (by kernel_rfl) rfl rfl (fun l1 A1 W1 inv hall => ⟨wanted_none rfl, #[.slice none 0 0, .int .u64 d.a, .int .i64 8], ?_, ?_⟩)
      · have h1 : A1.eval (.tmp 4) = .int .u64 d.a := inv.get hall 1 4 (by kernel_rfl) (by kernel_rfl)
        simp only [List.map_toArray, List.map_cons, List.map_nil, h1, eval_c]
      · refine (rput_nil (w.heap.size + 1) d.a W1 inv.s.2.2.1 ⟨a0, a1⟩).mono ?_
        rintro e W2 ⟨v', rfl, ho, hb⟩
        exact ⟨v', rfl, fun _ => ho, inv.s.keep hb (by omega)⟩
    · refine pstep_val (.pointer (some ⟨w.heap.size, 1, none⟩)) (by kernel_rfl) (by kernel_rfl) (fun t1 l1 A1 W1 inv hall hlate => ⟨wanted_none rfl, ?_, rfl⟩)
      have h1 : A1.eval (.tmp 1) = .pointer (some ⟨w.heap.size, 0, none⟩) := (inv.base 1 (by kernel_rfl)).trans rfl
      simp only [execOp, h1]
      simp [go_sem]
    · refine pstep_val (.int .u32 d.l) (by kernel_rfl) (by kernel_rfl) (fun t1 l1 A1 W1 inv hall hlate => ⟨wanted_none rfl, ?_, rfl⟩)
      have h1 : A1.eval (.tmp 6) = .pointer (some ⟨w.heap.size, 1, none⟩) := inv.get hall 3 6 (by kernel_rfl) (by kernel_rfl)
      obtain ⟨c0, c1, c2, c3⟩ := inv.s.1
      simp only [execOp, h1]
      simp [go_sem, c1]
    · refine pstep_val (.int .u64 d.l) (by kernel_rfl) (by kernel_rfl) (fun t1 l1 A1 W1 inv hall hlate => ⟨wanted_none rfl, ?_, rfl⟩)
      have h1 : A1.eval (.tmp 7) = .int .u32 d.l := inv.get hall 4 7 (by kernel_rfl) (by kernel_rfl)
      simp only [execOp, h1]
      simp [go_sem, Tryz.underlying25, Tryz.underlying26, wl]
    · refine pstep_call 1 32 (by kernel_rfl) _ _ (by kernel_rfl) rfl rfl (fun l1 A1 W1 inv hall => ⟨wanted_none rfl, #[A1.eval (.tmp 5), .int .u64 d.l, .int .i64 4], ?_, ?_⟩)
      · have h1 : A1.eval (.tmp 8) = .int .u64 d.l := inv.get hall 5 8 (by kernel_rfl) (by kernel_rfl)
        simp only [List.map_toArray, List.map_cons, List.map_nil, h1, eval_c]
      · have hp : OwnB W1 (w.heap.size + 1) (A1.eval (.tmp 5)) (leB 8 d.a) := (inv.get hall 2 5 (by kernel_rfl) (by kernel_rfl) : 1 = 0 + 1 → _) rfl
        refine (rput_4 _ (w.heap.size + 1) (leB 8 d.a) d.l W1 hp inv.s.2.2.1 (by simp [leB_length]) ⟨l0, by omega⟩).mono ?_
        rintro e W2 ⟨v', rfl, ho, hb⟩
        exact ⟨v', rfl, fun _ => ho, inv.s.keep hb (by omega)⟩
    · refine pstep_val (.pointer (some ⟨w.heap.size, 2, none⟩)) (by kernel_rfl) (by kernel_rfl) (fun t1 l1 A1 W1 inv hall hlate => ⟨wanted_none rfl, ?_, rfl⟩)
      have h1 : A1.eval (.tmp 1) = .pointer (some ⟨w.heap.size, 0, none⟩) := (inv.base 1 (by kernel_rfl)).trans rfl
      simp only [execOp, h1]
      simp [go_sem]
    · refine pstep_val (.int .u16 d.f) (by kernel_rfl) (by kernel_rfl) (fun t1 l1 A1 W1 inv hall hlate => ⟨wanted_none rfl, ?_, rfl⟩)
      have h1 : A1.eval (.tmp 10) = .pointer (some ⟨w.heap.size, 2, none⟩) := inv.get hall 7 10 (by kernel_rfl) (by kernel_rfl)
      obtain ⟨c0, c1, c2, c3⟩ := inv.s.1
      simp only [execOp, h1]
      simp [go_sem, c2]
    · refine pstep_val (.int .u64 d.f) (by kernel_rfl) (by kernel_rfl) (fun t1 l1 A1 W1 inv hall hlate => ⟨wanted_none rfl, ?_, rfl⟩)
      have h1 : A1.eval (.tmp 11) = .int .u16 d.f := inv.get hall 8 11 (by kernel_rfl) (by kernel_rfl)
      simp only [execOp, h1]
      simp [go_sem, Tryz.underlying25, Tryz.underlying42, wf]
    · refine pstep_call 2 32 (by kernel_rfl) _ _ (by kernel_rfl) rfl rfl (fun l1 A1 W1 inv hall => ⟨wanted_none rfl, #[A1.eval (.tmp 9), .int .u64 d.f, .int .i64 2], ?_, ?_⟩)
      · have h1 : A1.eval (.tmp 12) = .int .u64 d.f := inv.get hall 9 12 (by kernel_rfl) (by kernel_rfl)
        simp only [List.map_toArray, List.map_cons, List.map_nil, h1, eval_c]
      · have hp : OwnB W1 (w.heap.size + 1) (A1.eval (.tmp 9)) (leB 8 d.a ++ leB 4 d.l) := (inv.get hall 6 9 (by kernel_rfl) (by kernel_rfl) : 2 = 1 + 1 → _) rfl
        refine (rput_2 _ (w.heap.size + 1) (leB 8 d.a ++ leB 4 d.l) d.f W1 hp inv.s.2.2.1 (by simp [leB_length]) ⟨f0, by omega⟩).mono ?_
        rintro e W2 ⟨v', rfl, ho, hb⟩
        exact ⟨v', rfl, fun _ => ho, inv.s.keep hb (by omega)⟩
    · refine pstep_val (.pointer (some ⟨w.heap.size, 3, none⟩)) (by kernel_rfl) (by kernel_rfl) (fun t1 l1 A1 W1 inv hall hlate => ⟨wanted_none rfl, ?_, rfl⟩)
      have h1 : A1.eval (.tmp 1) = .pointer (some ⟨w.heap.size, 0, none⟩) := (inv.base 1 (by kernel_rfl)).trans rfl
      simp only [execOp, h1]
      simp [go_sem]
    · refine pstep_val (.int .u16 d.n) (by kernel_rfl) (by kernel_rfl) (fun t1 l1 A1 W1 inv hall hlate => ⟨wanted_none rfl, ?_, rfl⟩)
      have h1 : A1.eval (.tmp 14) = .pointer (some ⟨w.heap.size, 3, none⟩) := inv.get hall 11 14 (by kernel_rfl) (by kernel_rfl)
      obtain ⟨c0, c1, c2, c3⟩ := inv.s.1
      simp only [execOp, h1]
      simp [go_sem, c3]
    · refine pstep_val (.int .u64 d.n) (by kernel_rfl) (by kernel_rfl) (fun t1 l1 A1 W1 inv hall hlate => ⟨wanted_none rfl, ?_, rfl⟩)
      have h1 : A1.eval (.tmp 15) = .int .u16 d.n := inv.get hall 12 15 (by kernel_rfl) (by kernel_rfl)
      simp only [execOp, h1]
      simp [go_sem, Tryz.underlying25, Tryz.underlying42, wn]
    · refine pstep_call 3 32 (by kernel_rfl) _ _ (by kernel_rfl) rfl rfl (fun l1 A1 W1 inv hall => ⟨wanted_none rfl, #[A1.eval (.tmp 13), .int .u64 d.n, .int .i64 2], ?_, ?_⟩)
      · have h1 : A1.eval (.tmp 16) = .int .u64 d.n := inv.get hall 13 16 (by kernel_rfl) (by kernel_rfl)
        simp only [List.map_toArray, List.map_cons, List.map_nil, h1, eval_c]
      · have hp : OwnB W1 (w.heap.size + 1) (A1.eval (.tmp 13)) (leB 8 d.a ++ leB 4 d.l ++ leB 2 d.f) := (inv.get hall 10 13 (by kernel_rfl) (by kernel_rfl) : 3 = 2 + 1 → _) rfl
        refine (rput_2 _ (w.heap.size + 1) (leB 8 d.a ++ leB 4 d.l ++ leB 2 d.f) d.n W1 hp inv.s.2.2.1 (by simp [leB_length]) ⟨n0, by omega⟩).mono ?_
        rintro e W2 ⟨v', rfl, ho, hb⟩
        exact ⟨v', rfl, fun _ => by rw [HF.out] at ho; exact ho, inv.s.keep hb (by omega)⟩
    · refine pstep_run 4 (by kernel_rfl) rfl (fun l1 A1 W1 inv hall => ⟨wanted_none rfl, A1.eval (.tmp 17), W1, by simp only [execOp, Sem.run_pure], fun _ => ?_, inv.s⟩)
      exact (inv.get hall 14 17 (by kernel_rfl) (by kernel_rfl) : 4 = 3 + 1 → _) rfl
  · intro t1 l1 A1 W1 inv hall
    have ht : 5 ≤ t1 := (inv.phase 4 15 rfl).1 (hall 15 (Nat.lt_of_lt_of_eq (by decide : 15 < 16) (by kernel_rfl)))
    have ht2 : t1 = 5 := Nat.le_antisymm inv.tle ht
    subst ht2
    have hlast : OwnB W1 (w.heap.size + 1) (A1.eval (.tmp 2)) (dB d) := (inv.fin 15 2 (by kernel_rfl) (hall 15 (Nat.lt_of_lt_of_eq (by decide : 15 < 16) (by kernel_rfl))) : 5 = 4 + 1 → _) rfl
    refine (by assumption : ∀ (a : Act) (w : World), Code.wp Tryz.prog Code.ret _ a w → _) A1 W1 ?_
    go_wp2_with fail
    simp only [Act.eval, Array.getD_eq_getD_getElem?] at hlast
    exact bodyPost_ret (v := A1.tmps[2]?.getD undef) (by simp [results, Tryz.results10, go_sem]) inv.dfr ⟨_, rfl, hlast, inv.s.2.2.2⟩

set_option maxHeartbeats 4000000 in
theorem rpbytes_any (d : Dsc) (w : World) (hd : isDsc d) :
    Calls Tryz.prog 17 #[dV d] w fun e w' => ∃ v, e = .returned v ∧ OwnB w' (w.heap.size + 1) v (dB d) ∧ Below w.heap.size w w' := by
  obtain ⟨a0, a1⟩ := hd.a
  obtain ⟨l0, l1⟩ := hd.l
  obtain ⟨f0, f1⟩ := hd.f
  obtain ⟨n0, n1⟩ := hd.n
  have wl : IntKind.u64.wrap d.l = d.l := by rw [IntKind.wrap_u64]; omega
  have wf : IntKind.u64.wrap d.f = d.f := by rw [IntKind.wrap_u64]; omega
  have wn : IntKind.u64.wrap d.n = d.n := by rw [IntKind.wrap_u64]; omega
  have hfin : (((leB 8 d.a ++ leB 4 d.l) ++ leB 2 d.f) ++ leB 2 d.n) = dB d := by simp [dB]
  have HF := hid_mk hfin
  have HS := hid_mk (show SB (w.heap.size + 1) w.heap.size d w (w.alloc (.cells (dC d).toArray 63)).drew from ⟨⟨by simp [go_sem], by simp [go_sem], by simp [go_sem], by simp [go_sem]⟩, by omega, by show _ ≤ (w.alloc _).heap.size; rw [sizeA]; omega, ((Below.refl _ _).alloc (Nat.le_refl _) _).drew⟩)
  clear hd hfin
  go_enter Tryz.func17, Tryz.ntmps17
  go_wp2_with fail
  refine wp_region_phases [2, 6, 10, 14, 15]
    [.eq (.pointer (some ⟨w.heap.size, 0, none⟩)), .eq (.int .u64 d.a), .nxt 0 (fun v W => OwnB W (w.heap.size + 1) v (leB 8 d.a)),
     .eq (.pointer (some ⟨w.heap.size, 1, none⟩)), .eq (.int .u32 d.l), .eq (.int .u64 d.l), .nxt 1 (fun v W => OwnB W (w.heap.size + 1) v (leB 8 d.a ++ leB 4 d.l)),
     .eq (.pointer (some ⟨w.heap.size, 2, none⟩)), .eq (.int .u16 d.f), .eq (.int .u64 d.f), .nxt 2 (fun v W => OwnB W (w.heap.size + 1) v (leB 8 d.a ++ leB 4 d.l ++ leB 2 d.f)),
     .eq (.pointer (some ⟨w.heap.size, 3, none⟩)), .eq (.int .u16 d.n), .eq (.int .u64 d.n), .nxt 3 (fun v W => OwnB W (w.heap.size + 1) v (dB d)), .nxt 4 (fun v W => OwnB W (w.heap.size + 1) v (dB d))]
    (fun _ W => SB (w.heap.size + 1) w.heap.size d w W) (by kernel_rfl) (by kernel_rfl) (by kernel_rfl) HS.out ?_ ?_
  · refine And.intro ?_ (And.intro ?_ (And.intro ?_ (And.intro ?_ (And.intro ?_ (And.intro ?_ (And.intro ?_ (And.intro ?_ (And.intro ?_ (And.intro ?_ (And.intro ?_ (And.intro ?_ (And.intro ?_ (And.intro ?_ (And.intro ?_ (And.intro ?_ (True.intro))))))))))))))))
    · refine pstep_val (.pointer (some ⟨w.heap.size, 0, none⟩)) (by kernel_rfl) (by kernel_rfl) (fun t1 l1 A1 W1 inv hall hlate => ⟨wanted_none rfl, ?_, rfl⟩)
      have h1 : A1.eval (.tmp 1) = .pointer (some ⟨w.heap.size, 0, none⟩) := (inv.base 1 (by kernel_rfl)).trans rfl
      simp only [execOp, h1]
      simp [go_sem]
    · refine pstep_val (.int .u64 d.a) (by kernel_rfl) (by kernel_rfl) (fun t1 l1 A1 W1 inv hall hlate => ⟨wanted_none rfl, ?_, rfl⟩)
      have h1 : A1.eval (.tmp 3) = .pointer (some ⟨w.heap.size, 0, none⟩) := inv.get hall 0 3 (by kernel_rfl) (by kernel_rfl)
      obtain ⟨c0, c1, c2, c3⟩ := inv.s.1
      simp only [execOp, h1]
      simp [go_sem, c0]
    · refine pstep_call 0 32 (by kernel_rfl) _ _ (by kernel_rfl) rfl rfl (fun l1 A1 W1 inv hall => ⟨wanted_none rfl, #[.slice none 0 0, .int .u64 d.a, .int .i64 8], ?_, ?_⟩)
      · have h1 : A1.eval (.tmp 4) = .int .u64 d.a := inv.get hall 1 4 (by kernel_rfl) (by kernel_rfl)
        simp only [List.map_toArray, List.map_cons, List.map_nil, h1, eval_c]
      · refine (rput_nil (w.heap.size + 1) d.a W1 inv.s.2.2.1 ⟨a0, a1⟩).mono ?_
        rintro e W2 ⟨v', rfl, ho, hb⟩
        exact ⟨v', rfl, fun _ => ho, inv.s.keep hb (by omega)⟩
    · refine pstep_val (.pointer (some ⟨w.heap.size, 1, none⟩)) (by kernel_rfl) (by kernel_rfl) (fun t1 l1 A1 W1 inv hall hlate => ⟨wanted_none rfl, ?_, rfl⟩)
      have h1 : A1.eval (.tmp 1) = .pointer (some ⟨w.heap.size, 0, none⟩) := (inv.base 1 (by kernel_rfl)).trans rfl
      simp only [execOp, h1]
      simp [go_sem]
    · refine pstep_val (.int .u32 d.l) (by kernel_rfl) (by kernel_rfl) (fun t1 l1 A1 W1 inv hall hlate => ⟨wanted_none rfl, ?_, rfl⟩)
      have h1 : A1.eval (.tmp 6) = .pointer (some ⟨w.heap.size, 1, none⟩) := inv.get hall 3 6 (by kernel_rfl) (by kernel_rfl)
      obtain ⟨c0, c1, c2, c3⟩ := inv.s.1
      simp only [execOp, h1]
      simp [go_sem, c1]
    · refine pstep_val (.int .u64 d.l) (by kernel_rfl) (by kernel_rfl) (fun t1 l1 A1 W1 inv hall hlate => ⟨wanted_none rfl, ?_, rfl⟩)
      have h1 : A1.eval (.tmp 7) = .int .u32 d.l := inv.get hall 4 7 (by kernel_rfl) (by kernel_rfl)
      simp only [execOp, h1]
      simp [go_sem, Tryz.underlying25, Tryz.underlying26, wl]
    · refine pstep_call 1 32 (by kernel_rfl) _ _ (by kernel_rfl) rfl rfl (fun l1 A1 W1 inv hall => ⟨wanted_none rfl, #[A1.eval (.tmp 5), .int .u64 d.l, .int .i64 4], ?_, ?_⟩)
      · have h1 : A1.eval (.tmp 8) = .int .u64 d.l := inv.get hall 5 8 (by kernel_rfl) (by kernel_rfl)
        simp only [List.map_toArray, List.map_cons, List.map_nil, h1, eval_c]
      · have hp : OwnB W1 (w.heap.size + 1) (A1.eval (.tmp 5)) (leB 8 d.a) := (inv.get hall 2 5 (by kernel_rfl) (by kernel_rfl) : 1 = 0 + 1 → _) rfl
        refine (rput_4 _ (w.heap.size + 1) (leB 8 d.a) d.l W1 hp inv.s.2.2.1 (by simp [leB_length]) ⟨l0, by omega⟩).mono ?_
        rintro e W2 ⟨v', rfl, ho, hb⟩
        exact ⟨v', rfl, fun _ => ho, inv.s.keep hb (by omega)⟩
    · refine pstep_val (.pointer (some ⟨w.heap.size, 2, none⟩)) (by kernel_rfl) (by kernel_rfl) (fun t1 l1 A1 W1 inv hall hlate => ⟨wanted_none rfl, ?_, rfl⟩)
      have h1 : A1.eval (.tmp 1) = .pointer (some ⟨w.heap.size, 0, none⟩) := (inv.base 1 (by kernel_rfl)).trans rfl
      simp only [execOp, h1]
      simp [go_sem]
    · refine pstep_val (.int .u16 d.f) (by kernel_rfl) (by kernel_rfl) (fun t1 l1 A1 W1 inv hall hlate => ⟨wanted_none rfl, ?_, rfl⟩)
      have h1 : A1.eval (.tmp 10) = .pointer (some ⟨w.heap.size, 2, none⟩) := inv.get hall 7 10 (by kernel_rfl) (by kernel_rfl)
      obtain ⟨c0, c1, c2, c3⟩ := inv.s.1
      simp only [execOp, h1]
      simp [go_sem, c2]
    · refine pstep_val (.int .u64 d.f) (by kernel_rfl) (by kernel_rfl) (fun t1 l1 A1 W1 inv hall hlate => ⟨wanted_none rfl, ?_, rfl⟩)
      have h1 : A1.eval (.tmp 11) = .int .u16 d.f := inv.get hall 8 11 (by kernel_rfl) (by kernel_rfl)
      simp only [execOp, h1]
      simp [go_sem, Tryz.underlying25, Tryz.underlying42, wf]
    · refine pstep_call 2 32 (by kernel_rfl) _ _ (by kernel_rfl) rfl rfl (fun l1 A1 W1 inv hall => ⟨wanted_none rfl, #[A1.eval (.tmp 9), .int .u64 d.f, .int .i64 2], ?_, ?_⟩)
      · have h1 : A1.eval (.tmp 12) = .int .u64 d.f := inv.get hall 9 12 (by kernel_rfl) (by kernel_rfl)
        simp only [List.map_toArray, List.map_cons, List.map_nil, h1, eval_c]
      · have hp : OwnB W1 (w.heap.size + 1) (A1.eval (.tmp 9)) (leB 8 d.a ++ leB 4 d.l) := (inv.get hall 6 9 (by kernel_rfl) (by kernel_rfl) : 2 = 1 + 1 → _) rfl
        refine (rput_2 _ (w.heap.size + 1) (leB 8 d.a ++ leB 4 d.l) d.f W1 hp inv.s.2.2.1 (by simp [leB_length]) ⟨f0, by omega⟩).mono ?_
        rintro e W2 ⟨v', rfl, ho, hb⟩
        exact ⟨v', rfl, fun _ => ho, inv.s.keep hb (by omega)⟩
    · refine pstep_val (.pointer (some ⟨w.heap.size, 3, none⟩)) (by kernel_rfl) (by kernel_rfl) (fun t1 l1 A1 W1 inv hall hlate => ⟨wanted_none rfl, ?_, rfl⟩)
      have h1 : A1.eval (.tmp 1) = .pointer (some ⟨w.heap.size, 0, none⟩) := (inv.base 1 (by kernel_rfl)).trans rfl
      simp only [execOp, h1]
      simp [go_sem]
    · refine pstep_val (.int .u16 d.n) (by kernel_rfl) (by kernel_rfl) (fun t1 l1 A1 W1 inv hall hlate => ⟨wanted_none rfl, ?_, rfl⟩)
      have h1 : A1.eval (.tmp 14) = .pointer (some ⟨w.heap.size, 3, none⟩) := inv.get hall 11 14 (by kernel_rfl) (by kernel_rfl)
      obtain ⟨c0, c1, c2, c3⟩ := inv.s.1
      simp only [execOp, h1]
      simp [go_sem, c3]
    · refine pstep_val (.int .u64 d.n) (by kernel_rfl) (by kernel_rfl) (fun t1 l1 A1 W1 inv hall hlate => ⟨wanted_none rfl, ?_, rfl⟩)
      have h1 : A1.eval (.tmp 15) = .int .u16 d.n := inv.get hall 12 15 (by kernel_rfl) (by kernel_rfl)
      simp only [execOp, h1]
      simp [go_sem, Tryz.underlying25, Tryz.underlying42, wn]
    · refine pstep_call 3 32 (by kernel_rfl) _ _ (by kernel_rfl) rfl rfl (fun l1 A1 W1 inv hall => ⟨wanted_none rfl, #[A1.eval (.tmp 13), .int .u64 d.n, .int .i64 2], ?_, ?_⟩)
      · have h1 : A1.eval (.tmp 16) = .int .u64 d.n := inv.get hall 13 16 (by kernel_rfl) (by kernel_rfl)
        simp only [List.map_toArray, List.map_cons, List.map_nil, h1, eval_c]
      · have hp : OwnB W1 (w.heap.size + 1) (A1.eval (.tmp 13)) (leB 8 d.a ++ leB 4 d.l ++ leB 2 d.f) := (inv.get hall 10 13 (by kernel_rfl) (by kernel_rfl) : 3 = 2 + 1 → _) rfl
        refine (rput_2 _ (w.heap.size + 1) (leB 8 d.a ++ leB 4 d.l ++ leB 2 d.f) d.n W1 hp inv.s.2.2.1 (by simp [leB_length]) ⟨n0, by omega⟩).mono ?_
        rintro e W2 ⟨v', rfl, ho, hb⟩
        exact ⟨v', rfl, fun _ => by rw [HF.out] at ho; exact ho, inv.s.keep hb (by omega)⟩
    · refine pstep_run 4 (by kernel_rfl) rfl (fun l1 A1 W1 inv hall => ⟨wanted_none rfl, A1.eval (.tmp 17), W1, by simp only [execOp, Sem.run_pure], fun _ => ?_, inv.s⟩)
      exact (inv.get hall 14 17 (by kernel_rfl) (by kernel_rfl) : 4 = 3 + 1 → _) rfl
  · intro t1 l1 A1 W1 inv hall
    have ht : 5 ≤ t1 := (inv.phase 4 15 rfl).1 (hall 15 (Nat.lt_of_lt_of_eq (by decide : 15 < 16) (by kernel_rfl)))
    have ht2 : t1 = 5 := Nat.le_antisymm inv.tle ht
    subst ht2
    have hlast : OwnB W1 (w.heap.size + 1) (A1.eval (.tmp 2)) (dB d) := (inv.fin 15 2 (by kernel_rfl) (hall 15 (Nat.lt_of_lt_of_eq (by decide : 15 < 16) (by kernel_rfl))) : 5 = 4 + 1 → _) rfl
    refine (by assumption : ∀ (a : Act) (w : World), Code.wp Tryz.prog Code.ret _ a w → _) A1 W1 ?_
    go_wp2_with fail
    simp only [Act.eval, Array.getD_eq_getD_getElem?] at hlast
    exact bodyPost_ret (v := A1.tmps[2]?.getD undef) (by simp [results, Tryz.results17, go_sem]) inv.dfr ⟨_, rfl, hlast, inv.s.2.2.2⟩
end Go.Proofs.YtfhhgcgbgmilcaaGreat

/- Contract of layout.Place: what it returns, and that old memory stays. Conditions: as each theorem names them. Written by mklay8.py. -/
namespace Go.Proofs.YtfhhgcgbgmilcaaGreat
open Go.ChangeShapes Go.WideShapes Go.ChangeAt Go.RowKit
set_option linter.unusedVariables false
set_option maxRecDepth 100000

theorem powB2 : powB 2 = true := by decide
theorem powB4 : powB 4 = true := by decide
theorem powB16 : powB 16 = true := by decide
theorem alOk_num {x t : Int} (hp : powB t = true) : alOk x t = decide (x + t ≤ 18446744073709551616) := by
  unfold alOk
  rw [hp]
  rfl
theorem alV_num {x t : Int} (hp : powB t = true) (h : x + t ≤ 18446744073709551616) : alV x t = t * ((x + t - 1) / t) ∧ alE x t = 0 := by
  unfold alV alE
  rw [alOk_num hp, decide_eq_true h]
  exact ⟨rfl, rfl⟩
theorem alV_far {x t : Int} (hp : powB t = true) (h : 18446744073709551616 < x + t) : alV x t = 0 ∧ alE x t = 2 := by
  unfold alV alE
  rw [alOk_num hp, decide_eq_false (by omega)]
  exact ⟨rfl, rfl⟩

/-- where Device begins, behind Desc's address; the bytes that all take -/
def cO (pk : Bool) (n : Int) : Int := if pk then 16 * n + 4 else 4 * ((18 * n + 9) / 4)
def totL (pk : Bool) (n : Int) : Int := cO pk n + pC pk n
def plOk (pk : Bool) (n b : Int) : Bool := szB pk n && (alOk b 16 && decide (alV b 16 + totL pk n ≤ 18446744073709551616))
def plV (pk : Bool) (n b : Int) : Value := if plOk pk n b = true then rV pk n (alV b 16) (alV b 16 + 16 * n) (alV b 16 + cO pk n) else rV false 0 0 0 0
def plN (pk : Bool) (n b : Int) : Int := if plOk pk n b = true then alV b 16 - b + totL pk n else 0
def plE (pk : Bool) (n b : Int) : Int := if plOk pk n b = true then 0 else 2
abbrev plR (pk : Bool) (n b : Int) : Ending := .returned (.tuple #[plV pk n b, .int .u64 (plN pk n b), .int .i64 (plE pk n b)])
theorem pl_no {pk : Bool} {n b : Int} (h : plOk pk n b = false) : Ending.returned (.tuple #[rV false 0 0 0 0, .int .u64 0, .int .i64 2]) = plR pk n b := by
  unfold plR plV plN plE
  rw [h]
  rfl
theorem pl_yes {pk : Bool} {n b : Int} (h : plOk pk n b = true) : Ending.returned (.tuple #[rV pk n (alV b 16) (alV b 16 + 16 * n) (alV b 16 + cO pk n), .int .u64 (alV b 16 - b + totL pk n), .int .i64 0]) = plR pk n b := by
  unfold plR plV plN plE
  rw [h]
  rfl
/-- the numbers of valid rings -/
theorem tot_rng {pk : Bool} {n : Int} (h : szB pk n = true) : pD pk n = 16 * n ∧ 1 ≤ n ∧ n ≤ 32768 ∧ 16 * n + pG pk n ≤ cO pk n ∧ cO pk n ≤ 16 * n + pG pk n + 3 ∧ cO pk n % 4 = 0 ∧ totL pk n = cO pk n + pC pk n ∧ 4 * ((16 * n + pG pk n + 3) / 4) = cO pk n := by
  have hr := szB_rng h
  unfold totL cO pD pG pC
  rw [h]
  cases pk <;> simp <;> omega


end Go.Proofs.YtfhhgcgbgmilcaaGreat

/- Contract of the reference's Place of layer 4: what it returns, and that old memory stays. Conditions: as each theorem names them. Written by mklay9.py. -/
namespace Go.Proofs.YtfhhgcgbgmilcaaGreat
open Go.ChangeShapes Go.WideShapes Go.ChangeAt Go.RowKit
set_option linter.unusedVariables false
set_option maxRecDepth 100000


set_option maxHeartbeats 4000000 in
theorem rplace_false_0 (n b D G C a1 e1 a2 e2 a3 e3 ck : Int) (w : World) (hD0 : ¬ D = 0)  (h0 : (e1 != 0) = true)
    (HP : ∀ w, Calls Tryz.prog 49 #[rV false n 0 0 0] w fun e w' => e = .returned (.tuple #[.int .u64 D, .int .u64 G, .int .u64 C]) ∧ Below w.heap.size w w')
    (H1 : ∀ w, Calls Tryz.prog 50 #[.int .u64 b, .int .u64 16] w fun e w' => e = .returned (.tuple #[.int .u64 a1, .int .i64 e1]) ∧ w = w')
    (H2 : ∀ w, Calls Tryz.prog 50 #[.int .u64 (IntKind.u64.wrap (a1 + D)), .int .u64 2] w fun e w' => e = .returned (.tuple #[.int .u64 a2, .int .i64 e2]) ∧ w = w')
    (H3 : ∀ w, Calls Tryz.prog 50 #[.int .u64 (IntKind.u64.wrap (a2 + G)), .int .u64 4] w fun e w' => e = .returned (.tuple #[.int .u64 a3, .int .i64 e3]) ∧ w = w')
    (HC : ∀ w, Calls Tryz.prog 51 #[rV false n a1 a2 a3] w fun e w' => e = .returned (.int .i64 ck) ∧ Below w.heap.size w w') :
    Calls Tryz.prog 22 #[.bool false, .int .i64 n, .int .u64 b] w fun e w' => e = .returned (.tuple #[rV false 0 0 0 0, .int .u64 0, .int .i64 2]) ∧ Below w.heap.size w w' := by
  have HP' := hid_mk HP
  have H1' := hid_mk H1
  have H2' := hid_mk H2
  have H3' := hid_mk H3
  have HC' := hid_mk HC
  clear HP H1 H2 H3 HC
  go_enter Tryz.func22, Tryz.ntmps22
  go_wp2_with fail
  refine (HP'.out _).mono ?_
  rintro e w1 ⟨rfl, hb1⟩
  have B1 := hid_mk (below_new2 hb1)
  have z1 := hb1.size
  simp at z1
  have q0 : w.heap.size < w1.heap.size := by omega
  have q1 : w.heap.size + 1 < w1.heap.size := by omega
  have cx00 := hb1.cell (p := ⟨w.heap.size, 0, none⟩) (by first | (simp; done) | (simp; omega))
  have fx00 := hb1.frozen (p := ⟨w.heap.size, 0, none⟩) (by first | (simp; done) | (simp; omega))
  simp [go_sem] at cx00 fx00
  have cx01 := hb1.cell (p := ⟨w.heap.size, 1, none⟩) (by first | (simp; done) | (simp; omega))
  have fx01 := hb1.frozen (p := ⟨w.heap.size, 1, none⟩) (by first | (simp; done) | (simp; omega))
  simp [go_sem] at cx01 fx01
  have cx02 := hb1.cell (p := ⟨w.heap.size, 2, none⟩) (by first | (simp; done) | (simp; omega))
  have fx02 := hb1.frozen (p := ⟨w.heap.size, 2, none⟩) (by first | (simp; done) | (simp; omega))
  simp [go_sem] at cx02 fx02
  have cx03 := hb1.cell (p := ⟨w.heap.size, 3, none⟩) (by first | (simp; done) | (simp; omega))
  have fx03 := hb1.frozen (p := ⟨w.heap.size, 3, none⟩) (by first | (simp; done) | (simp; omega))
  simp [go_sem] at cx03 fx03
  have cx04 := hb1.cell (p := ⟨w.heap.size, 4, none⟩) (by first | (simp; done) | (simp; omega))
  have fx04 := hb1.frozen (p := ⟨w.heap.size, 4, none⟩) (by first | (simp; done) | (simp; omega))
  simp [go_sem] at cx04 fx04
  have cx10 := hb1.cell (p := ⟨w.heap.size + 1, 0, none⟩) (by first | (simp; done) | (simp; omega))
  have fx10 := hb1.frozen (p := ⟨w.heap.size + 1, 0, none⟩) (by first | (simp; done) | (simp; omega))
  simp [go_sem] at cx10 fx10
  have cx11 := hb1.cell (p := ⟨w.heap.size + 1, 1, none⟩) (by first | (simp; done) | (simp; omega))
  have fx11 := hb1.frozen (p := ⟨w.heap.size + 1, 1, none⟩) (by first | (simp; done) | (simp; omega))
  simp [go_sem] at cx11 fx11
  have cx12 := hb1.cell (p := ⟨w.heap.size + 1, 2, none⟩) (by first | (simp; done) | (simp; omega))
  have fx12 := hb1.frozen (p := ⟨w.heap.size + 1, 2, none⟩) (by first | (simp; done) | (simp; omega))
  simp [go_sem] at cx12 fx12
  have cx13 := hb1.cell (p := ⟨w.heap.size + 1, 3, none⟩) (by first | (simp; done) | (simp; omega))
  have fx13 := hb1.frozen (p := ⟨w.heap.size + 1, 3, none⟩) (by first | (simp; done) | (simp; omega))
  simp [go_sem] at cx13 fx13
  have cx14 := hb1.cell (p := ⟨w.heap.size + 1, 4, none⟩) (by first | (simp; done) | (simp; omega))
  have fx14 := hb1.frozen (p := ⟨w.heap.size + 1, 4, none⟩) (by first | (simp; done) | (simp; omega))
  simp [go_sem] at cx14 fx14
  clear hb1
  go_wp2_with fail
  refine (H1'.out _).mono ?_
  rintro e w' ⟨rfl, rfl⟩
  go_wp2_with fail
  refine (H2'.out _).mono ?_
  rintro e w' ⟨rfl, rfl⟩
  go_wp2_with fail
  refine (H3'.out _).mono ?_
  rintro e w' ⟨rfl, rfl⟩
  go_wp2_with fail
  refine bodyPost_ret (v := .tuple #[rV false 0 0 0 0, .int .u64 0, .int .i64 2]) ?_ rfl ⟨rfl, ?_⟩
  · simp [results, Tryz.results22, go_sem, cx00, cx01, cx02, cx03, cx04]
  · clear HP' H1' H2' H3' HC'
    repeat (refine Below.setCell ?_ (by simp only []; omega) _)
    exact B1.out

set_option maxHeartbeats 4000000 in
theorem rplace_false_1 (n b D G C a1 e1 a2 e2 a3 e3 ck : Int) (w : World) (hD0 : ¬ D = 0) (h0 : (e1 != 0) = false) (h1 : (e2 != 0) = true)
    (HP : ∀ w, Calls Tryz.prog 49 #[rV false n 0 0 0] w fun e w' => e = .returned (.tuple #[.int .u64 D, .int .u64 G, .int .u64 C]) ∧ Below w.heap.size w w')
    (H1 : ∀ w, Calls Tryz.prog 50 #[.int .u64 b, .int .u64 16] w fun e w' => e = .returned (.tuple #[.int .u64 a1, .int .i64 e1]) ∧ w = w')
    (H2 : ∀ w, Calls Tryz.prog 50 #[.int .u64 (IntKind.u64.wrap (a1 + D)), .int .u64 2] w fun e w' => e = .returned (.tuple #[.int .u64 a2, .int .i64 e2]) ∧ w = w')
    (H3 : ∀ w, Calls Tryz.prog 50 #[.int .u64 (IntKind.u64.wrap (a2 + G)), .int .u64 4] w fun e w' => e = .returned (.tuple #[.int .u64 a3, .int .i64 e3]) ∧ w = w')
    (HC : ∀ w, Calls Tryz.prog 51 #[rV false n a1 a2 a3] w fun e w' => e = .returned (.int .i64 ck) ∧ Below w.heap.size w w') :
    Calls Tryz.prog 22 #[.bool false, .int .i64 n, .int .u64 b] w fun e w' => e = .returned (.tuple #[rV false 0 0 0 0, .int .u64 0, .int .i64 2]) ∧ Below w.heap.size w w' := by
  have HP' := hid_mk HP
  have H1' := hid_mk H1
  have H2' := hid_mk H2
  have H3' := hid_mk H3
  have HC' := hid_mk HC
  clear HP H1 H2 H3 HC
  go_enter Tryz.func22, Tryz.ntmps22
  go_wp2_with fail
  refine (HP'.out _).mono ?_
  rintro e w1 ⟨rfl, hb1⟩
  have B1 := hid_mk (below_new2 hb1)
  have z1 := hb1.size
  simp at z1
  have q0 : w.heap.size < w1.heap.size := by omega
  have q1 : w.heap.size + 1 < w1.heap.size := by omega
  have cx00 := hb1.cell (p := ⟨w.heap.size, 0, none⟩) (by first | (simp; done) | (simp; omega))
  have fx00 := hb1.frozen (p := ⟨w.heap.size, 0, none⟩) (by first | (simp; done) | (simp; omega))
  simp [go_sem] at cx00 fx00
  have cx01 := hb1.cell (p := ⟨w.heap.size, 1, none⟩) (by first | (simp; done) | (simp; omega))
  have fx01 := hb1.frozen (p := ⟨w.heap.size, 1, none⟩) (by first | (simp; done) | (simp; omega))
  simp [go_sem] at cx01 fx01
  have cx02 := hb1.cell (p := ⟨w.heap.size, 2, none⟩) (by first | (simp; done) | (simp; omega))
  have fx02 := hb1.frozen (p := ⟨w.heap.size, 2, none⟩) (by first | (simp; done) | (simp; omega))
  simp [go_sem] at cx02 fx02
  have cx03 := hb1.cell (p := ⟨w.heap.size, 3, none⟩) (by first | (simp; done) | (simp; omega))
  have fx03 := hb1.frozen (p := ⟨w.heap.size, 3, none⟩) (by first | (simp; done) | (simp; omega))
  simp [go_sem] at cx03 fx03
  have cx04 := hb1.cell (p := ⟨w.heap.size, 4, none⟩) (by first | (simp; done) | (simp; omega))
  have fx04 := hb1.frozen (p := ⟨w.heap.size, 4, none⟩) (by first | (simp; done) | (simp; omega))
  simp [go_sem] at cx04 fx04
  have cx10 := hb1.cell (p := ⟨w.heap.size + 1, 0, none⟩) (by first | (simp; done) | (simp; omega))
  have fx10 := hb1.frozen (p := ⟨w.heap.size + 1, 0, none⟩) (by first | (simp; done) | (simp; omega))
  simp [go_sem] at cx10 fx10
  have cx11 := hb1.cell (p := ⟨w.heap.size + 1, 1, none⟩) (by first | (simp; done) | (simp; omega))
  have fx11 := hb1.frozen (p := ⟨w.heap.size + 1, 1, none⟩) (by first | (simp; done) | (simp; omega))
  simp [go_sem] at cx11 fx11
  have cx12 := hb1.cell (p := ⟨w.heap.size + 1, 2, none⟩) (by first | (simp; done) | (simp; omega))
  have fx12 := hb1.frozen (p := ⟨w.heap.size + 1, 2, none⟩) (by first | (simp; done) | (simp; omega))
  simp [go_sem] at cx12 fx12
  have cx13 := hb1.cell (p := ⟨w.heap.size + 1, 3, none⟩) (by first | (simp; done) | (simp; omega))
  have fx13 := hb1.frozen (p := ⟨w.heap.size + 1, 3, none⟩) (by first | (simp; done) | (simp; omega))
  simp [go_sem] at cx13 fx13
  have cx14 := hb1.cell (p := ⟨w.heap.size + 1, 4, none⟩) (by first | (simp; done) | (simp; omega))
  have fx14 := hb1.frozen (p := ⟨w.heap.size + 1, 4, none⟩) (by first | (simp; done) | (simp; omega))
  simp [go_sem] at cx14 fx14
  clear hb1
  go_wp2_with fail
  refine (H1'.out _).mono ?_
  rintro e w' ⟨rfl, rfl⟩
  go_wp2_with fail
  refine (H2'.out _).mono ?_
  rintro e w' ⟨rfl, rfl⟩
  go_wp2_with fail
  refine (H3'.out _).mono ?_
  rintro e w' ⟨rfl, rfl⟩
  go_wp2_with fail
  refine bodyPost_ret (v := .tuple #[rV false 0 0 0 0, .int .u64 0, .int .i64 2]) ?_ rfl ⟨rfl, ?_⟩
  · simp [results, Tryz.results22, go_sem, cx00, cx01, cx02, cx03, cx04]
  · clear HP' H1' H2' H3' HC'
    repeat (refine Below.setCell ?_ (by simp only []; omega) _)
    exact B1.out

set_option maxHeartbeats 4000000 in
theorem rplace_false_2 (n b D G C a1 e1 a2 e2 a3 e3 ck : Int) (w : World) (hD0 : ¬ D = 0) (h0 : (e1 != 0) = false) (h1 : (e2 != 0) = false) (h2 : (e3 != 0) = true)
    (HP : ∀ w, Calls Tryz.prog 49 #[rV false n 0 0 0] w fun e w' => e = .returned (.tuple #[.int .u64 D, .int .u64 G, .int .u64 C]) ∧ Below w.heap.size w w')
    (H1 : ∀ w, Calls Tryz.prog 50 #[.int .u64 b, .int .u64 16] w fun e w' => e = .returned (.tuple #[.int .u64 a1, .int .i64 e1]) ∧ w = w')
    (H2 : ∀ w, Calls Tryz.prog 50 #[.int .u64 (IntKind.u64.wrap (a1 + D)), .int .u64 2] w fun e w' => e = .returned (.tuple #[.int .u64 a2, .int .i64 e2]) ∧ w = w')
    (H3 : ∀ w, Calls Tryz.prog 50 #[.int .u64 (IntKind.u64.wrap (a2 + G)), .int .u64 4] w fun e w' => e = .returned (.tuple #[.int .u64 a3, .int .i64 e3]) ∧ w = w')
    (HC : ∀ w, Calls Tryz.prog 51 #[rV false n a1 a2 a3] w fun e w' => e = .returned (.int .i64 ck) ∧ Below w.heap.size w w') :
    Calls Tryz.prog 22 #[.bool false, .int .i64 n, .int .u64 b] w fun e w' => e = .returned (.tuple #[rV false 0 0 0 0, .int .u64 0, .int .i64 2]) ∧ Below w.heap.size w w' := by
  have HP' := hid_mk HP
  have H1' := hid_mk H1
  have H2' := hid_mk H2
  have H3' := hid_mk H3
  have HC' := hid_mk HC
  clear HP H1 H2 H3 HC
  go_enter Tryz.func22, Tryz.ntmps22
  go_wp2_with fail
  refine (HP'.out _).mono ?_
  rintro e w1 ⟨rfl, hb1⟩
  have B1 := hid_mk (below_new2 hb1)
  have z1 := hb1.size
  simp at z1
  have q0 : w.heap.size < w1.heap.size := by omega
  have q1 : w.heap.size + 1 < w1.heap.size := by omega
  have cx00 := hb1.cell (p := ⟨w.heap.size, 0, none⟩) (by first | (simp; done) | (simp; omega))
  have fx00 := hb1.frozen (p := ⟨w.heap.size, 0, none⟩) (by first | (simp; done) | (simp; omega))
  simp [go_sem] at cx00 fx00
  have cx01 := hb1.cell (p := ⟨w.heap.size, 1, none⟩) (by first | (simp; done) | (simp; omega))
  have fx01 := hb1.frozen (p := ⟨w.heap.size, 1, none⟩) (by first | (simp; done) | (simp; omega))
  simp [go_sem] at cx01 fx01
  have cx02 := hb1.cell (p := ⟨w.heap.size, 2, none⟩) (by first | (simp; done) | (simp; omega))
  have fx02 := hb1.frozen (p := ⟨w.heap.size, 2, none⟩) (by first | (simp; done) | (simp; omega))
  simp [go_sem] at cx02 fx02
  have cx03 := hb1.cell (p := ⟨w.heap.size, 3, none⟩) (by first | (simp; done) | (simp; omega))
  have fx03 := hb1.frozen (p := ⟨w.heap.size, 3, none⟩) (by first | (simp; done) | (simp; omega))
  simp [go_sem] at cx03 fx03
  have cx04 := hb1.cell (p := ⟨w.heap.size, 4, none⟩) (by first | (simp; done) | (simp; omega))
  have fx04 := hb1.frozen (p := ⟨w.heap.size, 4, none⟩) (by first | (simp; done) | (simp; omega))
  simp [go_sem] at cx04 fx04
  have cx10 := hb1.cell (p := ⟨w.heap.size + 1, 0, none⟩) (by first | (simp; done) | (simp; omega))
  have fx10 := hb1.frozen (p := ⟨w.heap.size + 1, 0, none⟩) (by first | (simp; done) | (simp; omega))
  simp [go_sem] at cx10 fx10
  have cx11 := hb1.cell (p := ⟨w.heap.size + 1, 1, none⟩) (by first | (simp; done) | (simp; omega))
  have fx11 := hb1.frozen (p := ⟨w.heap.size + 1, 1, none⟩) (by first | (simp; done) | (simp; omega))
  simp [go_sem] at cx11 fx11
  have cx12 := hb1.cell (p := ⟨w.heap.size + 1, 2, none⟩) (by first | (simp; done) | (simp; omega))
  have fx12 := hb1.frozen (p := ⟨w.heap.size + 1, 2, none⟩) (by first | (simp; done) | (simp; omega))
  simp [go_sem] at cx12 fx12
  have cx13 := hb1.cell (p := ⟨w.heap.size + 1, 3, none⟩) (by first | (simp; done) | (simp; omega))
  have fx13 := hb1.frozen (p := ⟨w.heap.size + 1, 3, none⟩) (by first | (simp; done) | (simp; omega))
  simp [go_sem] at cx13 fx13
  have cx14 := hb1.cell (p := ⟨w.heap.size + 1, 4, none⟩) (by first | (simp; done) | (simp; omega))
  have fx14 := hb1.frozen (p := ⟨w.heap.size + 1, 4, none⟩) (by first | (simp; done) | (simp; omega))
  simp [go_sem] at cx14 fx14
  clear hb1
  go_wp2_with fail
  refine (H1'.out _).mono ?_
  rintro e w' ⟨rfl, rfl⟩
  go_wp2_with fail
  refine (H2'.out _).mono ?_
  rintro e w' ⟨rfl, rfl⟩
  go_wp2_with fail
  refine (H3'.out _).mono ?_
  rintro e w' ⟨rfl, rfl⟩
  go_wp2_with fail
  refine bodyPost_ret (v := .tuple #[rV false 0 0 0 0, .int .u64 0, .int .i64 2]) ?_ rfl ⟨rfl, ?_⟩
  · simp [results, Tryz.results22, go_sem, cx00, cx01, cx02, cx03, cx04]
  · clear HP' H1' H2' H3' HC'
    repeat (refine Below.setCell ?_ (by simp only []; omega) _)
    exact B1.out

set_option maxHeartbeats 4000000 in
theorem rplace_false_3 (n b D G C a1 e1 a2 e2 a3 e3 ck : Int) (w : World) (hD0 : ¬ D = 0) (h0 : (e1 != 0) = false) (h1 : (e2 != 0) = false) (h2 : (e3 != 0) = false) (h3 : decide (IntKind.u64.wrap (a1 + D) < a1) = true)
    (HP : ∀ w, Calls Tryz.prog 49 #[rV false n 0 0 0] w fun e w' => e = .returned (.tuple #[.int .u64 D, .int .u64 G, .int .u64 C]) ∧ Below w.heap.size w w')
    (H1 : ∀ w, Calls Tryz.prog 50 #[.int .u64 b, .int .u64 16] w fun e w' => e = .returned (.tuple #[.int .u64 a1, .int .i64 e1]) ∧ w = w')
    (H2 : ∀ w, Calls Tryz.prog 50 #[.int .u64 (IntKind.u64.wrap (a1 + D)), .int .u64 2] w fun e w' => e = .returned (.tuple #[.int .u64 a2, .int .i64 e2]) ∧ w = w')
    (H3 : ∀ w, Calls Tryz.prog 50 #[.int .u64 (IntKind.u64.wrap (a2 + G)), .int .u64 4] w fun e w' => e = .returned (.tuple #[.int .u64 a3, .int .i64 e3]) ∧ w = w')
    (HC : ∀ w, Calls Tryz.prog 51 #[rV false n a1 a2 a3] w fun e w' => e = .returned (.int .i64 ck) ∧ Below w.heap.size w w') :
    Calls Tryz.prog 22 #[.bool false, .int .i64 n, .int .u64 b] w fun e w' => e = .returned (.tuple #[rV false 0 0 0 0, .int .u64 0, .int .i64 2]) ∧ Below w.heap.size w w' := by
  have HP' := hid_mk HP
  have H1' := hid_mk H1
  have H2' := hid_mk H2
  have H3' := hid_mk H3
  have HC' := hid_mk HC
  clear HP H1 H2 H3 HC
  go_enter Tryz.func22, Tryz.ntmps22
  go_wp2_with fail
  refine (HP'.out _).mono ?_
  rintro e w1 ⟨rfl, hb1⟩
  have B1 := hid_mk (below_new2 hb1)
  have z1 := hb1.size
  simp at z1
  have q0 : w.heap.size < w1.heap.size := by omega
  have q1 : w.heap.size + 1 < w1.heap.size := by omega
  have cx00 := hb1.cell (p := ⟨w.heap.size, 0, none⟩) (by first | (simp; done) | (simp; omega))
  have fx00 := hb1.frozen (p := ⟨w.heap.size, 0, none⟩) (by first | (simp; done) | (simp; omega))
  simp [go_sem] at cx00 fx00
  have cx01 := hb1.cell (p := ⟨w.heap.size, 1, none⟩) (by first | (simp; done) | (simp; omega))
  have fx01 := hb1.frozen (p := ⟨w.heap.size, 1, none⟩) (by first | (simp; done) | (simp; omega))
  simp [go_sem] at cx01 fx01
  have cx02 := hb1.cell (p := ⟨w.heap.size, 2, none⟩) (by first | (simp; done) | (simp; omega))
  have fx02 := hb1.frozen (p := ⟨w.heap.size, 2, none⟩) (by first | (simp; done) | (simp; omega))
  simp [go_sem] at cx02 fx02
  have cx03 := hb1.cell (p := ⟨w.heap.size, 3, none⟩) (by first | (simp; done) | (simp; omega))
  have fx03 := hb1.frozen (p := ⟨w.heap.size, 3, none⟩) (by first | (simp; done) | (simp; omega))
  simp [go_sem] at cx03 fx03
  have cx04 := hb1.cell (p := ⟨w.heap.size, 4, none⟩) (by first | (simp; done) | (simp; omega))
  have fx04 := hb1.frozen (p := ⟨w.heap.size, 4, none⟩) (by first | (simp; done) | (simp; omega))
  simp [go_sem] at cx04 fx04
  have cx10 := hb1.cell (p := ⟨w.heap.size + 1, 0, none⟩) (by first | (simp; done) | (simp; omega))
  have fx10 := hb1.frozen (p := ⟨w.heap.size + 1, 0, none⟩) (by first | (simp; done) | (simp; omega))
  simp [go_sem] at cx10 fx10
  have cx11 := hb1.cell (p := ⟨w.heap.size + 1, 1, none⟩) (by first | (simp; done) | (simp; omega))
  have fx11 := hb1.frozen (p := ⟨w.heap.size + 1, 1, none⟩) (by first | (simp; done) | (simp; omega))
  simp [go_sem] at cx11 fx11
  have cx12 := hb1.cell (p := ⟨w.heap.size + 1, 2, none⟩) (by first | (simp; done) | (simp; omega))
  have fx12 := hb1.frozen (p := ⟨w.heap.size + 1, 2, none⟩) (by first | (simp; done) | (simp; omega))
  simp [go_sem] at cx12 fx12
  have cx13 := hb1.cell (p := ⟨w.heap.size + 1, 3, none⟩) (by first | (simp; done) | (simp; omega))
  have fx13 := hb1.frozen (p := ⟨w.heap.size + 1, 3, none⟩) (by first | (simp; done) | (simp; omega))
  simp [go_sem] at cx13 fx13
  have cx14 := hb1.cell (p := ⟨w.heap.size + 1, 4, none⟩) (by first | (simp; done) | (simp; omega))
  have fx14 := hb1.frozen (p := ⟨w.heap.size + 1, 4, none⟩) (by first | (simp; done) | (simp; omega))
  simp [go_sem] at cx14 fx14
  clear hb1
  go_wp2_with fail
  refine (H1'.out _).mono ?_
  rintro e w' ⟨rfl, rfl⟩
  go_wp2_with fail
  refine (H2'.out _).mono ?_
  rintro e w' ⟨rfl, rfl⟩
  go_wp2_with fail
  refine (H3'.out _).mono ?_
  rintro e w' ⟨rfl, rfl⟩
  go_wp2_with fail
  refine bodyPost_ret (v := .tuple #[rV false 0 0 0 0, .int .u64 0, .int .i64 2]) ?_ rfl ⟨rfl, ?_⟩
  · simp [results, Tryz.results22, go_sem, cx00, cx01, cx02, cx03, cx04]
  · clear HP' H1' H2' H3' HC'
    repeat (refine Below.setCell ?_ (by simp only []; omega) _)
    exact B1.out

set_option maxHeartbeats 4000000 in
theorem rplace_false_4 (n b D G C a1 e1 a2 e2 a3 e3 ck : Int) (w : World) (hD0 : ¬ D = 0) (h0 : (e1 != 0) = false) (h1 : (e2 != 0) = false) (h2 : (e3 != 0) = false) (h3 : decide (IntKind.u64.wrap (a1 + D) < a1) = false) (h4 : decide (IntKind.u64.wrap (a2 + G) < a2) = true)
    (HP : ∀ w, Calls Tryz.prog 49 #[rV false n 0 0 0] w fun e w' => e = .returned (.tuple #[.int .u64 D, .int .u64 G, .int .u64 C]) ∧ Below w.heap.size w w')
    (H1 : ∀ w, Calls Tryz.prog 50 #[.int .u64 b, .int .u64 16] w fun e w' => e = .returned (.tuple #[.int .u64 a1, .int .i64 e1]) ∧ w = w')
    (H2 : ∀ w, Calls Tryz.prog 50 #[.int .u64 (IntKind.u64.wrap (a1 + D)), .int .u64 2] w fun e w' => e = .returned (.tuple #[.int .u64 a2, .int .i64 e2]) ∧ w = w')
    (H3 : ∀ w, Calls Tryz.prog 50 #[.int .u64 (IntKind.u64.wrap (a2 + G)), .int .u64 4] w fun e w' => e = .returned (.tuple #[.int .u64 a3, .int .i64 e3]) ∧ w = w')
    (HC : ∀ w, Calls Tryz.prog 51 #[rV false n a1 a2 a3] w fun e w' => e = .returned (.int .i64 ck) ∧ Below w.heap.size w w') :
    Calls Tryz.prog 22 #[.bool false, .int .i64 n, .int .u64 b] w fun e w' => e = .returned (.tuple #[rV false 0 0 0 0, .int .u64 0, .int .i64 2]) ∧ Below w.heap.size w w' := by
  have HP' := hid_mk HP
  have H1' := hid_mk H1
  have H2' := hid_mk H2
  have H3' := hid_mk H3
  have HC' := hid_mk HC
  clear HP H1 H2 H3 HC
  go_enter Tryz.func22, Tryz.ntmps22
  go_wp2_with fail
  refine (HP'.out _).mono ?_
  rintro e w1 ⟨rfl, hb1⟩
  have B1 := hid_mk (below_new2 hb1)
  have z1 := hb1.size
  simp at z1
  have q0 : w.heap.size < w1.heap.size := by omega
  have q1 : w.heap.size + 1 < w1.heap.size := by omega
  have cx00 := hb1.cell (p := ⟨w.heap.size, 0, none⟩) (by first | (simp; done) | (simp; omega))
  have fx00 := hb1.frozen (p := ⟨w.heap.size, 0, none⟩) (by first | (simp; done) | (simp; omega))
  simp [go_sem] at cx00 fx00
  have cx01 := hb1.cell (p := ⟨w.heap.size, 1, none⟩) (by first | (simp; done) | (simp; omega))
  have fx01 := hb1.frozen (p := ⟨w.heap.size, 1, none⟩) (by first | (simp; done) | (simp; omega))
  simp [go_sem] at cx01 fx01
  have cx02 := hb1.cell (p := ⟨w.heap.size, 2, none⟩) (by first | (simp; done) | (simp; omega))
  have fx02 := hb1.frozen (p := ⟨w.heap.size, 2, none⟩) (by first | (simp; done) | (simp; omega))
  simp [go_sem] at cx02 fx02
  have cx03 := hb1.cell (p := ⟨w.heap.size, 3, none⟩) (by first | (simp; done) | (simp; omega))
  have fx03 := hb1.frozen (p := ⟨w.heap.size, 3, none⟩) (by first | (simp; done) | (simp; omega))
  simp [go_sem] at cx03 fx03
  have cx04 := hb1.cell (p := ⟨w.heap.size, 4, none⟩) (by first | (simp; done) | (simp; omega))
  have fx04 := hb1.frozen (p := ⟨w.heap.size, 4, none⟩) (by first | (simp; done) | (simp; omega))
  simp [go_sem] at cx04 fx04
  have cx10 := hb1.cell (p := ⟨w.heap.size + 1, 0, none⟩) (by first | (simp; done) | (simp; omega))
  have fx10 := hb1.frozen (p := ⟨w.heap.size + 1, 0, none⟩) (by first | (simp; done) | (simp; omega))
  simp [go_sem] at cx10 fx10
  have cx11 := hb1.cell (p := ⟨w.heap.size + 1, 1, none⟩) (by first | (simp; done) | (simp; omega))
  have fx11 := hb1.frozen (p := ⟨w.heap.size + 1, 1, none⟩) (by first | (simp; done) | (simp; omega))
  simp [go_sem] at cx11 fx11
  have cx12 := hb1.cell (p := ⟨w.heap.size + 1, 2, none⟩) (by first | (simp; done) | (simp; omega))
  have fx12 := hb1.frozen (p := ⟨w.heap.size + 1, 2, none⟩) (by first | (simp; done) | (simp; omega))
  simp [go_sem] at cx12 fx12
  have cx13 := hb1.cell (p := ⟨w.heap.size + 1, 3, none⟩) (by first | (simp; done) | (simp; omega))
  have fx13 := hb1.frozen (p := ⟨w.heap.size + 1, 3, none⟩) (by first | (simp; done) | (simp; omega))
  simp [go_sem] at cx13 fx13
  have cx14 := hb1.cell (p := ⟨w.heap.size + 1, 4, none⟩) (by first | (simp; done) | (simp; omega))
  have fx14 := hb1.frozen (p := ⟨w.heap.size + 1, 4, none⟩) (by first | (simp; done) | (simp; omega))
  simp [go_sem] at cx14 fx14
  clear hb1
  go_wp2_with fail
  refine (H1'.out _).mono ?_
  rintro e w' ⟨rfl, rfl⟩
  go_wp2_with fail
  refine (H2'.out _).mono ?_
  rintro e w' ⟨rfl, rfl⟩
  go_wp2_with fail
  refine (H3'.out _).mono ?_
  rintro e w' ⟨rfl, rfl⟩
  go_wp2_with fail
  refine bodyPost_ret (v := .tuple #[rV false 0 0 0 0, .int .u64 0, .int .i64 2]) ?_ rfl ⟨rfl, ?_⟩
  · simp [results, Tryz.results22, go_sem, cx00, cx01, cx02, cx03, cx04]
  · clear HP' H1' H2' H3' HC'
    repeat (refine Below.setCell ?_ (by simp only []; omega) _)
    exact B1.out

set_option maxHeartbeats 4000000 in
theorem rplace_false_5 (n b D G C a1 e1 a2 e2 a3 e3 ck : Int) (w : World) (hD0 : ¬ D = 0) (h0 : (e1 != 0) = false) (h1 : (e2 != 0) = false) (h2 : (e3 != 0) = false) (h3 : decide (IntKind.u64.wrap (a1 + D) < a1) = false) (h4 : decide (IntKind.u64.wrap (a2 + G) < a2) = false) (h5 : decide (IntKind.u64.wrap (a3 + IntKind.u64.wrap (C - 1)) < a3) = true)
    (HP : ∀ w, Calls Tryz.prog 49 #[rV false n 0 0 0] w fun e w' => e = .returned (.tuple #[.int .u64 D, .int .u64 G, .int .u64 C]) ∧ Below w.heap.size w w')
    (H1 : ∀ w, Calls Tryz.prog 50 #[.int .u64 b, .int .u64 16] w fun e w' => e = .returned (.tuple #[.int .u64 a1, .int .i64 e1]) ∧ w = w')
    (H2 : ∀ w, Calls Tryz.prog 50 #[.int .u64 (IntKind.u64.wrap (a1 + D)), .int .u64 2] w fun e w' => e = .returned (.tuple #[.int .u64 a2, .int .i64 e2]) ∧ w = w')
    (H3 : ∀ w, Calls Tryz.prog 50 #[.int .u64 (IntKind.u64.wrap (a2 + G)), .int .u64 4] w fun e w' => e = .returned (.tuple #[.int .u64 a3, .int .i64 e3]) ∧ w = w')
    (HC : ∀ w, Calls Tryz.prog 51 #[rV false n a1 a2 a3] w fun e w' => e = .returned (.int .i64 ck) ∧ Below w.heap.size w w') :
    Calls Tryz.prog 22 #[.bool false, .int .i64 n, .int .u64 b] w fun e w' => e = .returned (.tuple #[rV false 0 0 0 0, .int .u64 0, .int .i64 2]) ∧ Below w.heap.size w w' := by
  have HP' := hid_mk HP
  have H1' := hid_mk H1
  have H2' := hid_mk H2
  have H3' := hid_mk H3
  have HC' := hid_mk HC
  clear HP H1 H2 H3 HC
  go_enter Tryz.func22, Tryz.ntmps22
  go_wp2_with fail
  refine (HP'.out _).mono ?_
  rintro e w1 ⟨rfl, hb1⟩
  have B1 := hid_mk (below_new2 hb1)
  have z1 := hb1.size
  simp at z1
  have q0 : w.heap.size < w1.heap.size := by omega
  have q1 : w.heap.size + 1 < w1.heap.size := by omega
  have cx00 := hb1.cell (p := ⟨w.heap.size, 0, none⟩) (by first | (simp; done) | (simp; omega))
  have fx00 := hb1.frozen (p := ⟨w.heap.size, 0, none⟩) (by first | (simp; done) | (simp; omega))
  simp [go_sem] at cx00 fx00
  have cx01 := hb1.cell (p := ⟨w.heap.size, 1, none⟩) (by first | (simp; done) | (simp; omega))
  have fx01 := hb1.frozen (p := ⟨w.heap.size, 1, none⟩) (by first | (simp; done) | (simp; omega))
  simp [go_sem] at cx01 fx01
  have cx02 := hb1.cell (p := ⟨w.heap.size, 2, none⟩) (by first | (simp; done) | (simp; omega))
  have fx02 := hb1.frozen (p := ⟨w.heap.size, 2, none⟩) (by first | (simp; done) | (simp; omega))
  simp [go_sem] at cx02 fx02
  have cx03 := hb1.cell (p := ⟨w.heap.size, 3, none⟩) (by first | (simp; done) | (simp; omega))
  have fx03 := hb1.frozen (p := ⟨w.heap.size, 3, none⟩) (by first | (simp; done) | (simp; omega))
  simp [go_sem] at cx03 fx03
  have cx04 := hb1.cell (p := ⟨w.heap.size, 4, none⟩) (by first | (simp; done) | (simp; omega))
  have fx04 := hb1.frozen (p := ⟨w.heap.size, 4, none⟩) (by first | (simp; done) | (simp; omega))
  simp [go_sem] at cx04 fx04
  have cx10 := hb1.cell (p := ⟨w.heap.size + 1, 0, none⟩) (by first | (simp; done) | (simp; omega))
  have fx10 := hb1.frozen (p := ⟨w.heap.size + 1, 0, none⟩) (by first | (simp; done) | (simp; omega))
  simp [go_sem] at cx10 fx10
  have cx11 := hb1.cell (p := ⟨w.heap.size + 1, 1, none⟩) (by first | (simp; done) | (simp; omega))
  have fx11 := hb1.frozen (p := ⟨w.heap.size + 1, 1, none⟩) (by first | (simp; done) | (simp; omega))
  simp [go_sem] at cx11 fx11
  have cx12 := hb1.cell (p := ⟨w.heap.size + 1, 2, none⟩) (by first | (simp; done) | (simp; omega))
  have fx12 := hb1.frozen (p := ⟨w.heap.size + 1, 2, none⟩) (by first | (simp; done) | (simp; omega))
  simp [go_sem] at cx12 fx12
  have cx13 := hb1.cell (p := ⟨w.heap.size + 1, 3, none⟩) (by first | (simp; done) | (simp; omega))
  have fx13 := hb1.frozen (p := ⟨w.heap.size + 1, 3, none⟩) (by first | (simp; done) | (simp; omega))
  simp [go_sem] at cx13 fx13
  have cx14 := hb1.cell (p := ⟨w.heap.size + 1, 4, none⟩) (by first | (simp; done) | (simp; omega))
  have fx14 := hb1.frozen (p := ⟨w.heap.size + 1, 4, none⟩) (by first | (simp; done) | (simp; omega))
  simp [go_sem] at cx14 fx14
  clear hb1
  go_wp2_with fail
  refine (H1'.out _).mono ?_
  rintro e w' ⟨rfl, rfl⟩
  go_wp2_with fail
  refine (H2'.out _).mono ?_
  rintro e w' ⟨rfl, rfl⟩
  go_wp2_with fail
  refine (H3'.out _).mono ?_
  rintro e w' ⟨rfl, rfl⟩
  go_wp2_with fail
  refine bodyPost_ret (v := .tuple #[rV false 0 0 0 0, .int .u64 0, .int .i64 2]) ?_ rfl ⟨rfl, ?_⟩
  · simp [results, Tryz.results22, go_sem, cx00, cx01, cx02, cx03, cx04]
  · clear HP' H1' H2' H3' HC'
    repeat (refine Below.setCell ?_ (by simp only []; omega) _)
    exact B1.out

set_option maxHeartbeats 4000000 in
theorem rplace_false_6 (n b D G C a1 e1 a2 e2 a3 e3 ck : Int) (w : World) (hD0 : ¬ D = 0) (h0 : (e1 != 0) = false) (h1 : (e2 != 0) = false) (h2 : (e3 != 0) = false) (h3 : decide (IntKind.u64.wrap (a1 + D) < a1) = false) (h4 : decide (IntKind.u64.wrap (a2 + G) < a2) = false) (h5 : decide (IntKind.u64.wrap (a3 + IntKind.u64.wrap (C - 1)) < a3) = false) (h6 : (ck != 0) = true)
    (HP : ∀ w, Calls Tryz.prog 49 #[rV false n 0 0 0] w fun e w' => e = .returned (.tuple #[.int .u64 D, .int .u64 G, .int .u64 C]) ∧ Below w.heap.size w w')
    (H1 : ∀ w, Calls Tryz.prog 50 #[.int .u64 b, .int .u64 16] w fun e w' => e = .returned (.tuple #[.int .u64 a1, .int .i64 e1]) ∧ w = w')
    (H2 : ∀ w, Calls Tryz.prog 50 #[.int .u64 (IntKind.u64.wrap (a1 + D)), .int .u64 2] w fun e w' => e = .returned (.tuple #[.int .u64 a2, .int .i64 e2]) ∧ w = w')
    (H3 : ∀ w, Calls Tryz.prog 50 #[.int .u64 (IntKind.u64.wrap (a2 + G)), .int .u64 4] w fun e w' => e = .returned (.tuple #[.int .u64 a3, .int .i64 e3]) ∧ w = w')
    (HC : ∀ w, Calls Tryz.prog 51 #[rV false n a1 a2 a3] w fun e w' => e = .returned (.int .i64 ck) ∧ Below w.heap.size w w') :
    Calls Tryz.prog 22 #[.bool false, .int .i64 n, .int .u64 b] w fun e w' => e = .returned (.tuple #[rV false 0 0 0 0, .int .u64 0, .int .i64 2]) ∧ Below w.heap.size w w' := by
  have HP' := hid_mk HP
  have H1' := hid_mk H1
  have H2' := hid_mk H2
  have H3' := hid_mk H3
  have HC' := hid_mk HC
  clear HP H1 H2 H3 HC
  go_enter Tryz.func22, Tryz.ntmps22
  go_wp2_with fail
  refine (HP'.out _).mono ?_
  rintro e w1 ⟨rfl, hb1⟩
  have B1 := hid_mk (below_new2 hb1)
  have z1 := hb1.size
  simp at z1
  have q0 : w.heap.size < w1.heap.size := by omega
  have q1 : w.heap.size + 1 < w1.heap.size := by omega
  have cx00 := hb1.cell (p := ⟨w.heap.size, 0, none⟩) (by first | (simp; done) | (simp; omega))
  have fx00 := hb1.frozen (p := ⟨w.heap.size, 0, none⟩) (by first | (simp; done) | (simp; omega))
  simp [go_sem] at cx00 fx00
  have cx01 := hb1.cell (p := ⟨w.heap.size, 1, none⟩) (by first | (simp; done) | (simp; omega))
  have fx01 := hb1.frozen (p := ⟨w.heap.size, 1, none⟩) (by first | (simp; done) | (simp; omega))
  simp [go_sem] at cx01 fx01
  have cx02 := hb1.cell (p := ⟨w.heap.size, 2, none⟩) (by first | (simp; done) | (simp; omega))
  have fx02 := hb1.frozen (p := ⟨w.heap.size, 2, none⟩) (by first | (simp; done) | (simp; omega))
  simp [go_sem] at cx02 fx02
  have cx03 := hb1.cell (p := ⟨w.heap.size, 3, none⟩) (by first | (simp; done) | (simp; omega))
  have fx03 := hb1.frozen (p := ⟨w.heap.size, 3, none⟩) (by first | (simp; done) | (simp; omega))
  simp [go_sem] at cx03 fx03
  have cx04 := hb1.cell (p := ⟨w.heap.size, 4, none⟩) (by first | (simp; done) | (simp; omega))
  have fx04 := hb1.frozen (p := ⟨w.heap.size, 4, none⟩) (by first | (simp; done) | (simp; omega))
  simp [go_sem] at cx04 fx04
  have cx10 := hb1.cell (p := ⟨w.heap.size + 1, 0, none⟩) (by first | (simp; done) | (simp; omega))
  have fx10 := hb1.frozen (p := ⟨w.heap.size + 1, 0, none⟩) (by first | (simp; done) | (simp; omega))
  simp [go_sem] at cx10 fx10
  have cx11 := hb1.cell (p := ⟨w.heap.size + 1, 1, none⟩) (by first | (simp; done) | (simp; omega))
  have fx11 := hb1.frozen (p := ⟨w.heap.size + 1, 1, none⟩) (by first | (simp; done) | (simp; omega))
  simp [go_sem] at cx11 fx11
  have cx12 := hb1.cell (p := ⟨w.heap.size + 1, 2, none⟩) (by first | (simp; done) | (simp; omega))
  have fx12 := hb1.frozen (p := ⟨w.heap.size + 1, 2, none⟩) (by first | (simp; done) | (simp; omega))
  simp [go_sem] at cx12 fx12
  have cx13 := hb1.cell (p := ⟨w.heap.size + 1, 3, none⟩) (by first | (simp; done) | (simp; omega))
  have fx13 := hb1.frozen (p := ⟨w.heap.size + 1, 3, none⟩) (by first | (simp; done) | (simp; omega))
  simp [go_sem] at cx13 fx13
  have cx14 := hb1.cell (p := ⟨w.heap.size + 1, 4, none⟩) (by first | (simp; done) | (simp; omega))
  have fx14 := hb1.frozen (p := ⟨w.heap.size + 1, 4, none⟩) (by first | (simp; done) | (simp; omega))
  simp [go_sem] at cx14 fx14
  clear hb1
  go_wp2_with fail
  refine (H1'.out _).mono ?_
  rintro e w' ⟨rfl, rfl⟩
  go_wp2_with fail
  refine (H2'.out _).mono ?_
  rintro e w' ⟨rfl, rfl⟩
  go_wp2_with fail
  refine (H3'.out _).mono ?_
  rintro e w' ⟨rfl, rfl⟩
  go_wp2_with fail
  refine (HC'.out _).mono ?_
  rintro e w3 ⟨rfl, hb3⟩
  have B3 : Hid (Below w.heap.size w w3) := by
    clear HP' H1' H2' H3' HC'
    refine below_then ?_ hb3
    repeat (refine Below.setCell ?_ (by simp only []; omega) _)
    exact B1.out
  have z3 := hb3.size
  simp at z3
  have q30 : w.heap.size < w3.heap.size := by omega
  have q31 : w.heap.size + 1 < w3.heap.size := by omega
  have cy00 := hb3.cell (p := ⟨w.heap.size, 0, none⟩) (by first | (simp; done) | (simp; omega))
  have fy00 := hb3.frozen (p := ⟨w.heap.size, 0, none⟩) (by first | (simp; done) | (simp; omega))
  simp [go_sem, cx00] at cy00
  simp [go_sem, fx00] at fy00
  have cy01 := hb3.cell (p := ⟨w.heap.size, 1, none⟩) (by first | (simp; done) | (simp; omega))
  have fy01 := hb3.frozen (p := ⟨w.heap.size, 1, none⟩) (by first | (simp; done) | (simp; omega))
  simp [go_sem, cx01] at cy01
  simp [go_sem, fx01] at fy01
  have cy02 := hb3.cell (p := ⟨w.heap.size, 2, none⟩) (by first | (simp; done) | (simp; omega))
  have fy02 := hb3.frozen (p := ⟨w.heap.size, 2, none⟩) (by first | (simp; done) | (simp; omega))
  simp [go_sem, cx02] at cy02
  simp [go_sem, fx02] at fy02
  have cy03 := hb3.cell (p := ⟨w.heap.size, 3, none⟩) (by first | (simp; done) | (simp; omega))
  have fy03 := hb3.frozen (p := ⟨w.heap.size, 3, none⟩) (by first | (simp; done) | (simp; omega))
  simp [go_sem, cx03] at cy03
  simp [go_sem, fx03] at fy03
  have cy04 := hb3.cell (p := ⟨w.heap.size, 4, none⟩) (by first | (simp; done) | (simp; omega))
  have fy04 := hb3.frozen (p := ⟨w.heap.size, 4, none⟩) (by first | (simp; done) | (simp; omega))
  simp [go_sem, cx04] at cy04
  simp [go_sem, fx04] at fy04
  have cy10 := hb3.cell (p := ⟨w.heap.size + 1, 0, none⟩) (by first | (simp; done) | (simp; omega))
  have fy10 := hb3.frozen (p := ⟨w.heap.size + 1, 0, none⟩) (by first | (simp; done) | (simp; omega))
  simp [go_sem, cx10] at cy10
  simp [go_sem, fx10] at fy10
  have cy11 := hb3.cell (p := ⟨w.heap.size + 1, 1, none⟩) (by first | (simp; done) | (simp; omega))
  have fy11 := hb3.frozen (p := ⟨w.heap.size + 1, 1, none⟩) (by first | (simp; done) | (simp; omega))
  simp [go_sem, cx11] at cy11
  simp [go_sem, fx11] at fy11
  have cy12 := hb3.cell (p := ⟨w.heap.size + 1, 2, none⟩) (by first | (simp; done) | (simp; omega))
  have fy12 := hb3.frozen (p := ⟨w.heap.size + 1, 2, none⟩) (by first | (simp; done) | (simp; omega))
  simp [go_sem, cx12] at cy12
  simp [go_sem, fx12] at fy12
  have cy13 := hb3.cell (p := ⟨w.heap.size + 1, 3, none⟩) (by first | (simp; done) | (simp; omega))
  have fy13 := hb3.frozen (p := ⟨w.heap.size + 1, 3, none⟩) (by first | (simp; done) | (simp; omega))
  simp [go_sem, cx13] at cy13
  simp [go_sem, fx13] at fy13
  have cy14 := hb3.cell (p := ⟨w.heap.size + 1, 4, none⟩) (by first | (simp; done) | (simp; omega))
  have fy14 := hb3.frozen (p := ⟨w.heap.size + 1, 4, none⟩) (by first | (simp; done) | (simp; omega))
  simp [go_sem, cx14] at cy14
  simp [go_sem, fx14] at fy14
  clear cx00 fx00 cx01 fx01 cx02 fx02 cx03 fx03 cx04 fx04 cx10 fx10 cx11 fx11 cx12 fx12 cx13 fx13 cx14 fx14
  clear hb3 q0 q1 z1
  go_wp2_with fail
  refine bodyPost_ret (v := .tuple #[rV false 0 0 0 0, .int .u64 0, .int .i64 2]) ?_ rfl ⟨rfl, ?_⟩
  · simp [results, Tryz.results22, go_sem, cy00, cy01, cy02, cy03, cy04]
  · clear HP' H1' H2' H3' HC'
    repeat (refine Below.setCell ?_ (by simp only []; omega) _)
    exact B3.out

set_option maxHeartbeats 4000000 in
theorem rplace_false_7 (n b D G C a1 e1 a2 e2 a3 e3 ck : Int) (w : World) (hD0 : ¬ D = 0) (h0 : (e1 != 0) = false) (h1 : (e2 != 0) = false) (h2 : (e3 != 0) = false) (h3 : decide (IntKind.u64.wrap (a1 + D) < a1) = false) (h4 : decide (IntKind.u64.wrap (a2 + G) < a2) = false) (h5 : decide (IntKind.u64.wrap (a3 + IntKind.u64.wrap (C - 1)) < a3) = false) (h6 : (ck != 0) = false)
    (HP : ∀ w, Calls Tryz.prog 49 #[rV false n 0 0 0] w fun e w' => e = .returned (.tuple #[.int .u64 D, .int .u64 G, .int .u64 C]) ∧ Below w.heap.size w w')
    (H1 : ∀ w, Calls Tryz.prog 50 #[.int .u64 b, .int .u64 16] w fun e w' => e = .returned (.tuple #[.int .u64 a1, .int .i64 e1]) ∧ w = w')
    (H2 : ∀ w, Calls Tryz.prog 50 #[.int .u64 (IntKind.u64.wrap (a1 + D)), .int .u64 2] w fun e w' => e = .returned (.tuple #[.int .u64 a2, .int .i64 e2]) ∧ w = w')
    (H3 : ∀ w, Calls Tryz.prog 50 #[.int .u64 (IntKind.u64.wrap (a2 + G)), .int .u64 4] w fun e w' => e = .returned (.tuple #[.int .u64 a3, .int .i64 e3]) ∧ w = w')
    (HC : ∀ w, Calls Tryz.prog 51 #[rV false n a1 a2 a3] w fun e w' => e = .returned (.int .i64 ck) ∧ Below w.heap.size w w') :
    Calls Tryz.prog 22 #[.bool false, .int .i64 n, .int .u64 b] w fun e w' => e = .returned (.tuple #[rV false n a1 a2 a3, .int .u64 (IntKind.u64.wrap (IntKind.u64.wrap (a3 + C) - b)), .int .i64 0]) ∧ Below w.heap.size w w' := by
  have HP' := hid_mk HP
  have H1' := hid_mk H1
  have H2' := hid_mk H2
  have H3' := hid_mk H3
  have HC' := hid_mk HC
  clear HP H1 H2 H3 HC
  go_enter Tryz.func22, Tryz.ntmps22
  go_wp2_with fail
  refine (HP'.out _).mono ?_
  rintro e w1 ⟨rfl, hb1⟩
  have B1 := hid_mk (below_new2 hb1)
  have z1 := hb1.size
  simp at z1
  have q0 : w.heap.size < w1.heap.size := by omega
  have q1 : w.heap.size + 1 < w1.heap.size := by omega
  have cx00 := hb1.cell (p := ⟨w.heap.size, 0, none⟩) (by first | (simp; done) | (simp; omega))
  have fx00 := hb1.frozen (p := ⟨w.heap.size, 0, none⟩) (by first | (simp; done) | (simp; omega))
  simp [go_sem] at cx00 fx00
  have cx01 := hb1.cell (p := ⟨w.heap.size, 1, none⟩) (by first | (simp; done) | (simp; omega))
  have fx01 := hb1.frozen (p := ⟨w.heap.size, 1, none⟩) (by first | (simp; done) | (simp; omega))
  simp [go_sem] at cx01 fx01
  have cx02 := hb1.cell (p := ⟨w.heap.size, 2, none⟩) (by first | (simp; done) | (simp; omega))
  have fx02 := hb1.frozen (p := ⟨w.heap.size, 2, none⟩) (by first | (simp; done) | (simp; omega))
  simp [go_sem] at cx02 fx02
  have cx03 := hb1.cell (p := ⟨w.heap.size, 3, none⟩) (by first | (simp; done) | (simp; omega))
  have fx03 := hb1.frozen (p := ⟨w.heap.size, 3, none⟩) (by first | (simp; done) | (simp; omega))
  simp [go_sem] at cx03 fx03
  have cx04 := hb1.cell (p := ⟨w.heap.size, 4, none⟩) (by first | (simp; done) | (simp; omega))
  have fx04 := hb1.frozen (p := ⟨w.heap.size, 4, none⟩) (by first | (simp; done) | (simp; omega))
  simp [go_sem] at cx04 fx04
  have cx10 := hb1.cell (p := ⟨w.heap.size + 1, 0, none⟩) (by first | (simp; done) | (simp; omega))
  have fx10 := hb1.frozen (p := ⟨w.heap.size + 1, 0, none⟩) (by first | (simp; done) | (simp; omega))
  simp [go_sem] at cx10 fx10
  have cx11 := hb1.cell (p := ⟨w.heap.size + 1, 1, none⟩) (by first | (simp; done) | (simp; omega))
  have fx11 := hb1.frozen (p := ⟨w.heap.size + 1, 1, none⟩) (by first | (simp; done) | (simp; omega))
  simp [go_sem] at cx11 fx11
  have cx12 := hb1.cell (p := ⟨w.heap.size + 1, 2, none⟩) (by first | (simp; done) | (simp; omega))
  have fx12 := hb1.frozen (p := ⟨w.heap.size + 1, 2, none⟩) (by first | (simp; done) | (simp; omega))
  simp [go_sem] at cx12 fx12
  have cx13 := hb1.cell (p := ⟨w.heap.size + 1, 3, none⟩) (by first | (simp; done) | (simp; omega))
  have fx13 := hb1.frozen (p := ⟨w.heap.size + 1, 3, none⟩) (by first | (simp; done) | (simp; omega))
  simp [go_sem] at cx13 fx13
  have cx14 := hb1.cell (p := ⟨w.heap.size + 1, 4, none⟩) (by first | (simp; done) | (simp; omega))
  have fx14 := hb1.frozen (p := ⟨w.heap.size + 1, 4, none⟩) (by first | (simp; done) | (simp; omega))
  simp [go_sem] at cx14 fx14
  clear hb1
  go_wp2_with fail
  refine (H1'.out _).mono ?_
  rintro e w' ⟨rfl, rfl⟩
  go_wp2_with fail
  refine (H2'.out _).mono ?_
  rintro e w' ⟨rfl, rfl⟩
  go_wp2_with fail
  refine (H3'.out _).mono ?_
  rintro e w' ⟨rfl, rfl⟩
  go_wp2_with fail
  refine (HC'.out _).mono ?_
  rintro e w3 ⟨rfl, hb3⟩
  have B3 : Hid (Below w.heap.size w w3) := by
    clear HP' H1' H2' H3' HC'
    refine below_then ?_ hb3
    repeat (refine Below.setCell ?_ (by simp only []; omega) _)
    exact B1.out
  have z3 := hb3.size
  simp at z3
  have q30 : w.heap.size < w3.heap.size := by omega
  have q31 : w.heap.size + 1 < w3.heap.size := by omega
  have cy00 := hb3.cell (p := ⟨w.heap.size, 0, none⟩) (by first | (simp; done) | (simp; omega))
  have fy00 := hb3.frozen (p := ⟨w.heap.size, 0, none⟩) (by first | (simp; done) | (simp; omega))
  simp [go_sem, cx00] at cy00
  simp [go_sem, fx00] at fy00
  have cy01 := hb3.cell (p := ⟨w.heap.size, 1, none⟩) (by first | (simp; done) | (simp; omega))
  have fy01 := hb3.frozen (p := ⟨w.heap.size, 1, none⟩) (by first | (simp; done) | (simp; omega))
  simp [go_sem, cx01] at cy01
  simp [go_sem, fx01] at fy01
  have cy02 := hb3.cell (p := ⟨w.heap.size, 2, none⟩) (by first | (simp; done) | (simp; omega))
  have fy02 := hb3.frozen (p := ⟨w.heap.size, 2, none⟩) (by first | (simp; done) | (simp; omega))
  simp [go_sem, cx02] at cy02
  simp [go_sem, fx02] at fy02
  have cy03 := hb3.cell (p := ⟨w.heap.size, 3, none⟩) (by first | (simp; done) | (simp; omega))
  have fy03 := hb3.frozen (p := ⟨w.heap.size, 3, none⟩) (by first | (simp; done) | (simp; omega))
  simp [go_sem, cx03] at cy03
  simp [go_sem, fx03] at fy03
  have cy04 := hb3.cell (p := ⟨w.heap.size, 4, none⟩) (by first | (simp; done) | (simp; omega))
  have fy04 := hb3.frozen (p := ⟨w.heap.size, 4, none⟩) (by first | (simp; done) | (simp; omega))
  simp [go_sem, cx04] at cy04
  simp [go_sem, fx04] at fy04
  have cy10 := hb3.cell (p := ⟨w.heap.size + 1, 0, none⟩) (by first | (simp; done) | (simp; omega))
  have fy10 := hb3.frozen (p := ⟨w.heap.size + 1, 0, none⟩) (by first | (simp; done) | (simp; omega))
  simp [go_sem, cx10] at cy10
  simp [go_sem, fx10] at fy10
  have cy11 := hb3.cell (p := ⟨w.heap.size + 1, 1, none⟩) (by first | (simp; done) | (simp; omega))
  have fy11 := hb3.frozen (p := ⟨w.heap.size + 1, 1, none⟩) (by first | (simp; done) | (simp; omega))
  simp [go_sem, cx11] at cy11
  simp [go_sem, fx11] at fy11
  have cy12 := hb3.cell (p := ⟨w.heap.size + 1, 2, none⟩) (by first | (simp; done) | (simp; omega))
  have fy12 := hb3.frozen (p := ⟨w.heap.size + 1, 2, none⟩) (by first | (simp; done) | (simp; omega))
  simp [go_sem, cx12] at cy12
  simp [go_sem, fx12] at fy12
  have cy13 := hb3.cell (p := ⟨w.heap.size + 1, 3, none⟩) (by first | (simp; done) | (simp; omega))
  have fy13 := hb3.frozen (p := ⟨w.heap.size + 1, 3, none⟩) (by first | (simp; done) | (simp; omega))
  simp [go_sem, cx13] at cy13
  simp [go_sem, fx13] at fy13
  have cy14 := hb3.cell (p := ⟨w.heap.size + 1, 4, none⟩) (by first | (simp; done) | (simp; omega))
  have fy14 := hb3.frozen (p := ⟨w.heap.size + 1, 4, none⟩) (by first | (simp; done) | (simp; omega))
  simp [go_sem, cx14] at cy14
  simp [go_sem, fx14] at fy14
  clear cx00 fx00 cx01 fx01 cx02 fx02 cx03 fx03 cx04 fx04 cx10 fx10 cx11 fx11 cx12 fx12 cx13 fx13 cx14 fx14
  clear hb3 q0 q1 z1
  go_wp2_with fail
  go_region
  go_wp2_with fail
  refine bodyPost_ret (v := .tuple #[rV false n a1 a2 a3, .int .u64 (IntKind.u64.wrap (IntKind.u64.wrap (a3 + C) - b)), .int .i64 0]) ?_ rfl ⟨rfl, ?_⟩
  · simp [results, Tryz.results22, go_sem, cy00, cy01, cy02, cy03, cy04]
  · clear HP' H1' H2' H3' HC'
    refine Below.drew ?_
    repeat (refine Below.setCell ?_ (by simp only []; omega) _)
    exact B3.out

set_option maxHeartbeats 4000000 in
theorem rplace_true_0 (n b D G C a1 e1 a2 e2 a3 e3 ck : Int) (w : World) (hD0 : ¬ D = 0)  (h0 : (e1 != 0) = true)
    (HP : ∀ w, Calls Tryz.prog 49 #[rV true n 0 0 0] w fun e w' => e = .returned (.tuple #[.int .u64 D, .int .u64 G, .int .u64 C]) ∧ Below w.heap.size w w')
    (H1 : ∀ w, Calls Tryz.prog 50 #[.int .u64 b, .int .u64 16] w fun e w' => e = .returned (.tuple #[.int .u64 a1, .int .i64 e1]) ∧ w = w')
    (H2 : ∀ w, Calls Tryz.prog 50 #[.int .u64 (IntKind.u64.wrap (a1 + D)), .int .u64 4] w fun e w' => e = .returned (.tuple #[.int .u64 a2, .int .i64 e2]) ∧ w = w')
    (H3 : ∀ w, Calls Tryz.prog 50 #[.int .u64 (IntKind.u64.wrap (a2 + G)), .int .u64 4] w fun e w' => e = .returned (.tuple #[.int .u64 a3, .int .i64 e3]) ∧ w = w')
    (HC : ∀ w, Calls Tryz.prog 51 #[rV true n a1 a2 a3] w fun e w' => e = .returned (.int .i64 ck) ∧ Below w.heap.size w w') :
    Calls Tryz.prog 22 #[.bool true, .int .i64 n, .int .u64 b] w fun e w' => e = .returned (.tuple #[rV false 0 0 0 0, .int .u64 0, .int .i64 2]) ∧ Below w.heap.size w w' := by
  have HP' := hid_mk HP
  have H1' := hid_mk H1
  have H2' := hid_mk H2
  have H3' := hid_mk H3
  have HC' := hid_mk HC
  clear HP H1 H2 H3 HC
  go_enter Tryz.func22, Tryz.ntmps22
  go_wp2_with fail
  refine (HP'.out _).mono ?_
  rintro e w1 ⟨rfl, hb1⟩
  have B1 := hid_mk (below_new2 hb1)
  have z1 := hb1.size
  simp at z1
  have q0 : w.heap.size < w1.heap.size := by omega
  have q1 : w.heap.size + 1 < w1.heap.size := by omega
  have cx00 := hb1.cell (p := ⟨w.heap.size, 0, none⟩) (by first | (simp; done) | (simp; omega))
  have fx00 := hb1.frozen (p := ⟨w.heap.size, 0, none⟩) (by first | (simp; done) | (simp; omega))
  simp [go_sem] at cx00 fx00
  have cx01 := hb1.cell (p := ⟨w.heap.size, 1, none⟩) (by first | (simp; done) | (simp; omega))
  have fx01 := hb1.frozen (p := ⟨w.heap.size, 1, none⟩) (by first | (simp; done) | (simp; omega))
  simp [go_sem] at cx01 fx01
  have cx02 := hb1.cell (p := ⟨w.heap.size, 2, none⟩) (by first | (simp; done) | (simp; omega))
  have fx02 := hb1.frozen (p := ⟨w.heap.size, 2, none⟩) (by first | (simp; done) | (simp; omega))
  simp [go_sem] at cx02 fx02
  have cx03 := hb1.cell (p := ⟨w.heap.size, 3, none⟩) (by first | (simp; done) | (simp; omega))
  have fx03 := hb1.frozen (p := ⟨w.heap.size, 3, none⟩) (by first | (simp; done) | (simp; omega))
  simp [go_sem] at cx03 fx03
  have cx04 := hb1.cell (p := ⟨w.heap.size, 4, none⟩) (by first | (simp; done) | (simp; omega))
  have fx04 := hb1.frozen (p := ⟨w.heap.size, 4, none⟩) (by first | (simp; done) | (simp; omega))
  simp [go_sem] at cx04 fx04
  have cx10 := hb1.cell (p := ⟨w.heap.size + 1, 0, none⟩) (by first | (simp; done) | (simp; omega))
  have fx10 := hb1.frozen (p := ⟨w.heap.size + 1, 0, none⟩) (by first | (simp; done) | (simp; omega))
  simp [go_sem] at cx10 fx10
  have cx11 := hb1.cell (p := ⟨w.heap.size + 1, 1, none⟩) (by first | (simp; done) | (simp; omega))
  have fx11 := hb1.frozen (p := ⟨w.heap.size + 1, 1, none⟩) (by first | (simp; done) | (simp; omega))
  simp [go_sem] at cx11 fx11
  have cx12 := hb1.cell (p := ⟨w.heap.size + 1, 2, none⟩) (by first | (simp; done) | (simp; omega))
  have fx12 := hb1.frozen (p := ⟨w.heap.size + 1, 2, none⟩) (by first | (simp; done) | (simp; omega))
  simp [go_sem] at cx12 fx12
  have cx13 := hb1.cell (p := ⟨w.heap.size + 1, 3, none⟩) (by first | (simp; done) | (simp; omega))
  have fx13 := hb1.frozen (p := ⟨w.heap.size + 1, 3, none⟩) (by first | (simp; done) | (simp; omega))
  simp [go_sem] at cx13 fx13
  have cx14 := hb1.cell (p := ⟨w.heap.size + 1, 4, none⟩) (by first | (simp; done) | (simp; omega))
  have fx14 := hb1.frozen (p := ⟨w.heap.size + 1, 4, none⟩) (by first | (simp; done) | (simp; omega))
  simp [go_sem] at cx14 fx14
  clear hb1
  go_wp2_with fail
  refine (H1'.out _).mono ?_
  rintro e w' ⟨rfl, rfl⟩
  go_wp2_with fail
  refine (H2'.out _).mono ?_
  rintro e w' ⟨rfl, rfl⟩
  go_wp2_with fail
  refine (H3'.out _).mono ?_
  rintro e w' ⟨rfl, rfl⟩
  go_wp2_with fail
  refine bodyPost_ret (v := .tuple #[rV false 0 0 0 0, .int .u64 0, .int .i64 2]) ?_ rfl ⟨rfl, ?_⟩
  · simp [results, Tryz.results22, go_sem, cx00, cx01, cx02, cx03, cx04]
  · clear HP' H1' H2' H3' HC'
    repeat (refine Below.setCell ?_ (by simp only []; omega) _)
    exact B1.out

set_option maxHeartbeats 4000000 in
theorem rplace_true_1 (n b D G C a1 e1 a2 e2 a3 e3 ck : Int) (w : World) (hD0 : ¬ D = 0) (h0 : (e1 != 0) = false) (h1 : (e2 != 0) = true)
    (HP : ∀ w, Calls Tryz.prog 49 #[rV true n 0 0 0] w fun e w' => e = .returned (.tuple #[.int .u64 D, .int .u64 G, .int .u64 C]) ∧ Below w.heap.size w w')
    (H1 : ∀ w, Calls Tryz.prog 50 #[.int .u64 b, .int .u64 16] w fun e w' => e = .returned (.tuple #[.int .u64 a1, .int .i64 e1]) ∧ w = w')
    (H2 : ∀ w, Calls Tryz.prog 50 #[.int .u64 (IntKind.u64.wrap (a1 + D)), .int .u64 4] w fun e w' => e = .returned (.tuple #[.int .u64 a2, .int .i64 e2]) ∧ w = w')
    (H3 : ∀ w, Calls Tryz.prog 50 #[.int .u64 (IntKind.u64.wrap (a2 + G)), .int .u64 4] w fun e w' => e = .returned (.tuple #[.int .u64 a3, .int .i64 e3]) ∧ w = w')
    (HC : ∀ w, Calls Tryz.prog 51 #[rV true n a1 a2 a3] w fun e w' => e = .returned (.int .i64 ck) ∧ Below w.heap.size w w') :
    Calls Tryz.prog 22 #[.bool true, .int .i64 n, .int .u64 b] w fun e w' => e = .returned (.tuple #[rV false 0 0 0 0, .int .u64 0, .int .i64 2]) ∧ Below w.heap.size w w' := by
  have HP' := hid_mk HP
  have H1' := hid_mk H1
  have H2' := hid_mk H2
  have H3' := hid_mk H3
  have HC' := hid_mk HC
  clear HP H1 H2 H3 HC
  go_enter Tryz.func22, Tryz.ntmps22
  go_wp2_with fail
  refine (HP'.out _).mono ?_
  rintro e w1 ⟨rfl, hb1⟩
  have B1 := hid_mk (below_new2 hb1)
  have z1 := hb1.size
  simp at z1
  have q0 : w.heap.size < w1.heap.size := by omega
  have q1 : w.heap.size + 1 < w1.heap.size := by omega
  have cx00 := hb1.cell (p := ⟨w.heap.size, 0, none⟩) (by first | (simp; done) | (simp; omega))
  have fx00 := hb1.frozen (p := ⟨w.heap.size, 0, none⟩) (by first | (simp; done) | (simp; omega))
  simp [go_sem] at cx00 fx00
  have cx01 := hb1.cell (p := ⟨w.heap.size, 1, none⟩) (by first | (simp; done) | (simp; omega))
  have fx01 := hb1.frozen (p := ⟨w.heap.size, 1, none⟩) (by first | (simp; done) | (simp; omega))
  simp [go_sem] at cx01 fx01
  have cx02 := hb1.cell (p := ⟨w.heap.size, 2, none⟩) (by first | (simp; done) | (simp; omega))
  have fx02 := hb1.frozen (p := ⟨w.heap.size, 2, none⟩) (by first | (simp; done) | (simp; omega))
  simp [go_sem] at cx02 fx02
  have cx03 := hb1.cell (p := ⟨w.heap.size, 3, none⟩) (by first | (simp; done) | (simp; omega))
  have fx03 := hb1.frozen (p := ⟨w.heap.size, 3, none⟩) (by first | (simp; done) | (simp; omega))
  simp [go_sem] at cx03 fx03
  have cx04 := hb1.cell (p := ⟨w.heap.size, 4, none⟩) (by first | (simp; done) | (simp; omega))
  have fx04 := hb1.frozen (p := ⟨w.heap.size, 4, none⟩) (by first | (simp; done) | (simp; omega))
  simp [go_sem] at cx04 fx04
  have cx10 := hb1.cell (p := ⟨w.heap.size + 1, 0, none⟩) (by first | (simp; done) | (simp; omega))
  have fx10 := hb1.frozen (p := ⟨w.heap.size + 1, 0, none⟩) (by first | (simp; done) | (simp; omega))
  simp [go_sem] at cx10 fx10
  have cx11 := hb1.cell (p := ⟨w.heap.size + 1, 1, none⟩) (by first | (simp; done) | (simp; omega))
  have fx11 := hb1.frozen (p := ⟨w.heap.size + 1, 1, none⟩) (by first | (simp; done) | (simp; omega))
  simp [go_sem] at cx11 fx11
  have cx12 := hb1.cell (p := ⟨w.heap.size + 1, 2, none⟩) (by first | (simp; done) | (simp; omega))
  have fx12 := hb1.frozen (p := ⟨w.heap.size + 1, 2, none⟩) (by first | (simp; done) | (simp; omega))
  simp [go_sem] at cx12 fx12
  have cx13 := hb1.cell (p := ⟨w.heap.size + 1, 3, none⟩) (by first | (simp; done) | (simp; omega))
  have fx13 := hb1.frozen (p := ⟨w.heap.size + 1, 3, none⟩) (by first | (simp; done) | (simp; omega))
  simp [go_sem] at cx13 fx13
  have cx14 := hb1.cell (p := ⟨w.heap.size + 1, 4, none⟩) (by first | (simp; done) | (simp; omega))
  have fx14 := hb1.frozen (p := ⟨w.heap.size + 1, 4, none⟩) (by first | (simp; done) | (simp; omega))
  simp [go_sem] at cx14 fx14
  clear hb1
  go_wp2_with fail
  refine (H1'.out _).mono ?_
  rintro e w' ⟨rfl, rfl⟩
  go_wp2_with fail
  refine (H2'.out _).mono ?_
  rintro e w' ⟨rfl, rfl⟩
  go_wp2_with fail
  refine (H3'.out _).mono ?_
  rintro e w' ⟨rfl, rfl⟩
  go_wp2_with fail
  refine bodyPost_ret (v := .tuple #[rV false 0 0 0 0, .int .u64 0, .int .i64 2]) ?_ rfl ⟨rfl, ?_⟩
  · simp [results, Tryz.results22, go_sem, cx00, cx01, cx02, cx03, cx04]
  · clear HP' H1' H2' H3' HC'
    repeat (refine Below.setCell ?_ (by simp only []; omega) _)
    exact B1.out

set_option maxHeartbeats 4000000 in
theorem rplace_true_2 (n b D G C a1 e1 a2 e2 a3 e3 ck : Int) (w : World) (hD0 : ¬ D = 0) (h0 : (e1 != 0) = false) (h1 : (e2 != 0) = false) (h2 : (e3 != 0) = true)
    (HP : ∀ w, Calls Tryz.prog 49 #[rV true n 0 0 0] w fun e w' => e = .returned (.tuple #[.int .u64 D, .int .u64 G, .int .u64 C]) ∧ Below w.heap.size w w')
    (H1 : ∀ w, Calls Tryz.prog 50 #[.int .u64 b, .int .u64 16] w fun e w' => e = .returned (.tuple #[.int .u64 a1, .int .i64 e1]) ∧ w = w')
    (H2 : ∀ w, Calls Tryz.prog 50 #[.int .u64 (IntKind.u64.wrap (a1 + D)), .int .u64 4] w fun e w' => e = .returned (.tuple #[.int .u64 a2, .int .i64 e2]) ∧ w = w')
    (H3 : ∀ w, Calls Tryz.prog 50 #[.int .u64 (IntKind.u64.wrap (a2 + G)), .int .u64 4] w fun e w' => e = .returned (.tuple #[.int .u64 a3, .int .i64 e3]) ∧ w = w')
    (HC : ∀ w, Calls Tryz.prog 51 #[rV true n a1 a2 a3] w fun e w' => e = .returned (.int .i64 ck) ∧ Below w.heap.size w w') :
    Calls Tryz.prog 22 #[.bool true, .int .i64 n, .int .u64 b] w fun e w' => e = .returned (.tuple #[rV false 0 0 0 0, .int .u64 0, .int .i64 2]) ∧ Below w.heap.size w w' := by
  have HP' := hid_mk HP
  have H1' := hid_mk H1
  have H2' := hid_mk H2
  have H3' := hid_mk H3
  have HC' := hid_mk HC
  clear HP H1 H2 H3 HC
  go_enter Tryz.func22, Tryz.ntmps22
  go_wp2_with fail
  refine (HP'.out _).mono ?_
  rintro e w1 ⟨rfl, hb1⟩
  have B1 := hid_mk (below_new2 hb1)
  have z1 := hb1.size
  simp at z1
  have q0 : w.heap.size < w1.heap.size := by omega
  have q1 : w.heap.size + 1 < w1.heap.size := by omega
  have cx00 := hb1.cell (p := ⟨w.heap.size, 0, none⟩) (by first | (simp; done) | (simp; omega))
  have fx00 := hb1.frozen (p := ⟨w.heap.size, 0, none⟩) (by first | (simp; done) | (simp; omega))
  simp [go_sem] at cx00 fx00
  have cx01 := hb1.cell (p := ⟨w.heap.size, 1, none⟩) (by first | (simp; done) | (simp; omega))
  have fx01 := hb1.frozen (p := ⟨w.heap.size, 1, none⟩) (by first | (simp; done) | (simp; omega))
  simp [go_sem] at cx01 fx01
  have cx02 := hb1.cell (p := ⟨w.heap.size, 2, none⟩) (by first | (simp; done) | (simp; omega))
  have fx02 := hb1.frozen (p := ⟨w.heap.size, 2, none⟩) (by first | (simp; done) | (simp; omega))
  simp [go_sem] at cx02 fx02
  have cx03 := hb1.cell (p := ⟨w.heap.size, 3, none⟩) (by first | (simp; done) | (simp; omega))
  have fx03 := hb1.frozen (p := ⟨w.heap.size, 3, none⟩) (by first | (simp; done) | (simp; omega))
  simp [go_sem] at cx03 fx03
  have cx04 := hb1.cell (p := ⟨w.heap.size, 4, none⟩) (by first | (simp; done) | (simp; omega))
  have fx04 := hb1.frozen (p := ⟨w.heap.size, 4, none⟩) (by first | (simp; done) | (simp; omega))
  simp [go_sem] at cx04 fx04
  have cx10 := hb1.cell (p := ⟨w.heap.size + 1, 0, none⟩) (by first | (simp; done) | (simp; omega))
  have fx10 := hb1.frozen (p := ⟨w.heap.size + 1, 0, none⟩) (by first | (simp; done) | (simp; omega))
  simp [go_sem] at cx10 fx10
  have cx11 := hb1.cell (p := ⟨w.heap.size + 1, 1, none⟩) (by first | (simp; done) | (simp; omega))
  have fx11 := hb1.frozen (p := ⟨w.heap.size + 1, 1, none⟩) (by first | (simp; done) | (simp; omega))
  simp [go_sem] at cx11 fx11
  have cx12 := hb1.cell (p := ⟨w.heap.size + 1, 2, none⟩) (by first | (simp; done) | (simp; omega))
  have fx12 := hb1.frozen (p := ⟨w.heap.size + 1, 2, none⟩) (by first | (simp; done) | (simp; omega))
  simp [go_sem] at cx12 fx12
  have cx13 := hb1.cell (p := ⟨w.heap.size + 1, 3, none⟩) (by first | (simp; done) | (simp; omega))
  have fx13 := hb1.frozen (p := ⟨w.heap.size + 1, 3, none⟩) (by first | (simp; done) | (simp; omega))
  simp [go_sem] at cx13 fx13
  have cx14 := hb1.cell (p := ⟨w.heap.size + 1, 4, none⟩) (by first | (simp; done) | (simp; omega))
  have fx14 := hb1.frozen (p := ⟨w.heap.size + 1, 4, none⟩) (by first | (simp; done) | (simp; omega))
  simp [go_sem] at cx14 fx14
  clear hb1
  go_wp2_with fail
  refine (H1'.out _).mono ?_
  rintro e w' ⟨rfl, rfl⟩
  go_wp2_with fail
  refine (H2'.out _).mono ?_
  rintro e w' ⟨rfl, rfl⟩
  go_wp2_with fail
  refine (H3'.out _).mono ?_
  rintro e w' ⟨rfl, rfl⟩
  go_wp2_with fail
  refine bodyPost_ret (v := .tuple #[rV false 0 0 0 0, .int .u64 0, .int .i64 2]) ?_ rfl ⟨rfl, ?_⟩
  · simp [results, Tryz.results22, go_sem, cx00, cx01, cx02, cx03, cx04]
  · clear HP' H1' H2' H3' HC'
    repeat (refine Below.setCell ?_ (by simp only []; omega) _)
    exact B1.out

set_option maxHeartbeats 4000000 in
theorem rplace_true_3 (n b D G C a1 e1 a2 e2 a3 e3 ck : Int) (w : World) (hD0 : ¬ D = 0) (h0 : (e1 != 0) = false) (h1 : (e2 != 0) = false) (h2 : (e3 != 0) = false) (h3 : decide (IntKind.u64.wrap (a1 + D) < a1) = true)
    (HP : ∀ w, Calls Tryz.prog 49 #[rV true n 0 0 0] w fun e w' => e = .returned (.tuple #[.int .u64 D, .int .u64 G, .int .u64 C]) ∧ Below w.heap.size w w')
    (H1 : ∀ w, Calls Tryz.prog 50 #[.int .u64 b, .int .u64 16] w fun e w' => e = .returned (.tuple #[.int .u64 a1, .int .i64 e1]) ∧ w = w')
    (H2 : ∀ w, Calls Tryz.prog 50 #[.int .u64 (IntKind.u64.wrap (a1 + D)), .int .u64 4] w fun e w' => e = .returned (.tuple #[.int .u64 a2, .int .i64 e2]) ∧ w = w')
    (H3 : ∀ w, Calls Tryz.prog 50 #[.int .u64 (IntKind.u64.wrap (a2 + G)), .int .u64 4] w fun e w' => e = .returned (.tuple #[.int .u64 a3, .int .i64 e3]) ∧ w = w')
    (HC : ∀ w, Calls Tryz.prog 51 #[rV true n a1 a2 a3] w fun e w' => e = .returned (.int .i64 ck) ∧ Below w.heap.size w w') :
    Calls Tryz.prog 22 #[.bool true, .int .i64 n, .int .u64 b] w fun e w' => e = .returned (.tuple #[rV false 0 0 0 0, .int .u64 0, .int .i64 2]) ∧ Below w.heap.size w w' := by
  have HP' := hid_mk HP
  have H1' := hid_mk H1
  have H2' := hid_mk H2
  have H3' := hid_mk H3
  have HC' := hid_mk HC
  clear HP H1 H2 H3 HC
  go_enter Tryz.func22, Tryz.ntmps22
  go_wp2_with fail
  refine (HP'.out _).mono ?_
  rintro e w1 ⟨rfl, hb1⟩
  have B1 := hid_mk (below_new2 hb1)
  have z1 := hb1.size
  simp at z1
  have q0 : w.heap.size < w1.heap.size := by omega
  have q1 : w.heap.size + 1 < w1.heap.size := by omega
  have cx00 := hb1.cell (p := ⟨w.heap.size, 0, none⟩) (by first | (simp; done) | (simp; omega))
  have fx00 := hb1.frozen (p := ⟨w.heap.size, 0, none⟩) (by first | (simp; done) | (simp; omega))
  simp [go_sem] at cx00 fx00
  have cx01 := hb1.cell (p := ⟨w.heap.size, 1, none⟩) (by first | (simp; done) | (simp; omega))
  have fx01 := hb1.frozen (p := ⟨w.heap.size, 1, none⟩) (by first | (simp; done) | (simp; omega))
  simp [go_sem] at cx01 fx01
  have cx02 := hb1.cell (p := ⟨w.heap.size, 2, none⟩) (by first | (simp; done) | (simp; omega))
  have fx02 := hb1.frozen (p := ⟨w.heap.size, 2, none⟩) (by first | (simp; done) | (simp; omega))
  simp [go_sem] at cx02 fx02
  have cx03 := hb1.cell (p := ⟨w.heap.size, 3, none⟩) (by first | (simp; done) | (simp; omega))
  have fx03 := hb1.frozen (p := ⟨w.heap.size, 3, none⟩) (by first | (simp; done) | (simp; omega))
  simp [go_sem] at cx03 fx03
  have cx04 := hb1.cell (p := ⟨w.heap.size, 4, none⟩) (by first | (simp; done) | (simp; omega))
  have fx04 := hb1.frozen (p := ⟨w.heap.size, 4, none⟩) (by first | (simp; done) | (simp; omega))
  simp [go_sem] at cx04 fx04
  have cx10 := hb1.cell (p := ⟨w.heap.size + 1, 0, none⟩) (by first | (simp; done) | (simp; omega))
  have fx10 := hb1.frozen (p := ⟨w.heap.size + 1, 0, none⟩) (by first | (simp; done) | (simp; omega))
  simp [go_sem] at cx10 fx10
  have cx11 := hb1.cell (p := ⟨w.heap.size + 1, 1, none⟩) (by first | (simp; done) | (simp; omega))
  have fx11 := hb1.frozen (p := ⟨w.heap.size + 1, 1, none⟩) (by first | (simp; done) | (simp; omega))
  simp [go_sem] at cx11 fx11
  have cx12 := hb1.cell (p := ⟨w.heap.size + 1, 2, none⟩) (by first | (simp; done) | (simp; omega))
  have fx12 := hb1.frozen (p := ⟨w.heap.size + 1, 2, none⟩) (by first | (simp; done) | (simp; omega))
  simp [go_sem] at cx12 fx12
  have cx13 := hb1.cell (p := ⟨w.heap.size + 1, 3, none⟩) (by first | (simp; done) | (simp; omega))
  have fx13 := hb1.frozen (p := ⟨w.heap.size + 1, 3, none⟩) (by first | (simp; done) | (simp; omega))
  simp [go_sem] at cx13 fx13
  have cx14 := hb1.cell (p := ⟨w.heap.size + 1, 4, none⟩) (by first | (simp; done) | (simp; omega))
  have fx14 := hb1.frozen (p := ⟨w.heap.size + 1, 4, none⟩) (by first | (simp; done) | (simp; omega))
  simp [go_sem] at cx14 fx14
  clear hb1
  go_wp2_with fail
  refine (H1'.out _).mono ?_
  rintro e w' ⟨rfl, rfl⟩
  go_wp2_with fail
  refine (H2'.out _).mono ?_
  rintro e w' ⟨rfl, rfl⟩
  go_wp2_with fail
  refine (H3'.out _).mono ?_
  rintro e w' ⟨rfl, rfl⟩
  go_wp2_with fail
  refine bodyPost_ret (v := .tuple #[rV false 0 0 0 0, .int .u64 0, .int .i64 2]) ?_ rfl ⟨rfl, ?_⟩
  · simp [results, Tryz.results22, go_sem, cx00, cx01, cx02, cx03, cx04]
  · clear HP' H1' H2' H3' HC'
    repeat (refine Below.setCell ?_ (by simp only []; omega) _)
    exact B1.out

set_option maxHeartbeats 4000000 in
theorem rplace_true_4 (n b D G C a1 e1 a2 e2 a3 e3 ck : Int) (w : World) (hD0 : ¬ D = 0) (h0 : (e1 != 0) = false) (h1 : (e2 != 0) = false) (h2 : (e3 != 0) = false) (h3 : decide (IntKind.u64.wrap (a1 + D) < a1) = false) (h4 : decide (IntKind.u64.wrap (a2 + G) < a2) = true)
    (HP : ∀ w, Calls Tryz.prog 49 #[rV true n 0 0 0] w fun e w' => e = .returned (.tuple #[.int .u64 D, .int .u64 G, .int .u64 C]) ∧ Below w.heap.size w w')
    (H1 : ∀ w, Calls Tryz.prog 50 #[.int .u64 b, .int .u64 16] w fun e w' => e = .returned (.tuple #[.int .u64 a1, .int .i64 e1]) ∧ w = w')
    (H2 : ∀ w, Calls Tryz.prog 50 #[.int .u64 (IntKind.u64.wrap (a1 + D)), .int .u64 4] w fun e w' => e = .returned (.tuple #[.int .u64 a2, .int .i64 e2]) ∧ w = w')
    (H3 : ∀ w, Calls Tryz.prog 50 #[.int .u64 (IntKind.u64.wrap (a2 + G)), .int .u64 4] w fun e w' => e = .returned (.tuple #[.int .u64 a3, .int .i64 e3]) ∧ w = w')
    (HC : ∀ w, Calls Tryz.prog 51 #[rV true n a1 a2 a3] w fun e w' => e = .returned (.int .i64 ck) ∧ Below w.heap.size w w') :
    Calls Tryz.prog 22 #[.bool true, .int .i64 n, .int .u64 b] w fun e w' => e = .returned (.tuple #[rV false 0 0 0 0, .int .u64 0, .int .i64 2]) ∧ Below w.heap.size w w' := by
  have HP' := hid_mk HP
  have H1' := hid_mk H1
  have H2' := hid_mk H2
  have H3' := hid_mk H3
  have HC' := hid_mk HC
  clear HP H1 H2 H3 HC
  go_enter Tryz.func22, Tryz.ntmps22
  go_wp2_with fail
  refine (HP'.out _).mono ?_
  rintro e w1 ⟨rfl, hb1⟩
  have B1 := hid_mk (below_new2 hb1)
  have z1 := hb1.size
  simp at z1
  have q0 : w.heap.size < w1.heap.size := by omega
  have q1 : w.heap.size + 1 < w1.heap.size := by omega
  have cx00 := hb1.cell (p := ⟨w.heap.size, 0, none⟩) (by first | (simp; done) | (simp; omega))
  have fx00 := hb1.frozen (p := ⟨w.heap.size, 0, none⟩) (by first | (simp; done) | (simp; omega))
  simp [go_sem] at cx00 fx00
  have cx01 := hb1.cell (p := ⟨w.heap.size, 1, none⟩) (by first | (simp; done) | (simp; omega))
  have fx01 := hb1.frozen (p := ⟨w.heap.size, 1, none⟩) (by first | (simp; done) | (simp; omega))
  simp [go_sem] at cx01 fx01
  have cx02 := hb1.cell (p := ⟨w.heap.size, 2, none⟩) (by first | (simp; done) | (simp; omega))
  have fx02 := hb1.frozen (p := ⟨w.heap.size, 2, none⟩) (by first | (simp; done) | (simp; omega))
  simp [go_sem] at cx02 fx02
  have cx03 := hb1.cell (p := ⟨w.heap.size, 3, none⟩) (by first | (simp; done) | (simp; omega))
  have fx03 := hb1.frozen (p := ⟨w.heap.size, 3, none⟩) (by first | (simp; done) | (simp; omega))
  simp [go_sem] at cx03 fx03
  have cx04 := hb1.cell (p := ⟨w.heap.size, 4, none⟩) (by first | (simp; done) | (simp; omega))
  have fx04 := hb1.frozen (p := ⟨w.heap.size, 4, none⟩) (by first | (simp; done) | (simp; omega))
  simp [go_sem] at cx04 fx04
  have cx10 := hb1.cell (p := ⟨w.heap.size + 1, 0, none⟩) (by first | (simp; done) | (simp; omega))
  have fx10 := hb1.frozen (p := ⟨w.heap.size + 1, 0, none⟩) (by first | (simp; done) | (simp; omega))
  simp [go_sem] at cx10 fx10
  have cx11 := hb1.cell (p := ⟨w.heap.size + 1, 1, none⟩) (by first | (simp; done) | (simp; omega))
  have fx11 := hb1.frozen (p := ⟨w.heap.size + 1, 1, none⟩) (by first | (simp; done) | (simp; omega))
  simp [go_sem] at cx11 fx11
  have cx12 := hb1.cell (p := ⟨w.heap.size + 1, 2, none⟩) (by first | (simp; done) | (simp; omega))
  have fx12 := hb1.frozen (p := ⟨w.heap.size + 1, 2, none⟩) (by first | (simp; done) | (simp; omega))
  simp [go_sem] at cx12 fx12
  have cx13 := hb1.cell (p := ⟨w.heap.size + 1, 3, none⟩) (by first | (simp; done) | (simp; omega))
  have fx13 := hb1.frozen (p := ⟨w.heap.size + 1, 3, none⟩) (by first | (simp; done) | (simp; omega))
  simp [go_sem] at cx13 fx13
  have cx14 := hb1.cell (p := ⟨w.heap.size + 1, 4, none⟩) (by first | (simp; done) | (simp; omega))
  have fx14 := hb1.frozen (p := ⟨w.heap.size + 1, 4, none⟩) (by first | (simp; done) | (simp; omega))
  simp [go_sem] at cx14 fx14
  clear hb1
  go_wp2_with fail
  refine (H1'.out _).mono ?_
  rintro e w' ⟨rfl, rfl⟩
  go_wp2_with fail
  refine (H2'.out _).mono ?_
  rintro e w' ⟨rfl, rfl⟩
  go_wp2_with fail
  refine (H3'.out _).mono ?_
  rintro e w' ⟨rfl, rfl⟩
  go_wp2_with fail
  refine bodyPost_ret (v := .tuple #[rV false 0 0 0 0, .int .u64 0, .int .i64 2]) ?_ rfl ⟨rfl, ?_⟩
  · simp [results, Tryz.results22, go_sem, cx00, cx01, cx02, cx03, cx04]
  · clear HP' H1' H2' H3' HC'
    repeat (refine Below.setCell ?_ (by simp only []; omega) _)
    exact B1.out

set_option maxHeartbeats 4000000 in
theorem rplace_true_5 (n b D G C a1 e1 a2 e2 a3 e3 ck : Int) (w : World) (hD0 : ¬ D = 0) (h0 : (e1 != 0) = false) (h1 : (e2 != 0) = false) (h2 : (e3 != 0) = false) (h3 : decide (IntKind.u64.wrap (a1 + D) < a1) = false) (h4 : decide (IntKind.u64.wrap (a2 + G) < a2) = false) (h5 : decide (IntKind.u64.wrap (a3 + IntKind.u64.wrap (C - 1)) < a3) = true)
    (HP : ∀ w, Calls Tryz.prog 49 #[rV true n 0 0 0] w fun e w' => e = .returned (.tuple #[.int .u64 D, .int .u64 G, .int .u64 C]) ∧ Below w.heap.size w w')
    (H1 : ∀ w, Calls Tryz.prog 50 #[.int .u64 b, .int .u64 16] w fun e w' => e = .returned (.tuple #[.int .u64 a1, .int .i64 e1]) ∧ w = w')
    (H2 : ∀ w, Calls Tryz.prog 50 #[.int .u64 (IntKind.u64.wrap (a1 + D)), .int .u64 4] w fun e w' => e = .returned (.tuple #[.int .u64 a2, .int .i64 e2]) ∧ w = w')
    (H3 : ∀ w, Calls Tryz.prog 50 #[.int .u64 (IntKind.u64.wrap (a2 + G)), .int .u64 4] w fun e w' => e = .returned (.tuple #[.int .u64 a3, .int .i64 e3]) ∧ w = w')
    (HC : ∀ w, Calls Tryz.prog 51 #[rV true n a1 a2 a3] w fun e w' => e = .returned (.int .i64 ck) ∧ Below w.heap.size w w') :
    Calls Tryz.prog 22 #[.bool true, .int .i64 n, .int .u64 b] w fun e w' => e = .returned (.tuple #[rV false 0 0 0 0, .int .u64 0, .int .i64 2]) ∧ Below w.heap.size w w' := by
  have HP' := hid_mk HP
  have H1' := hid_mk H1
  have H2' := hid_mk H2
  have H3' := hid_mk H3
  have HC' := hid_mk HC
  clear HP H1 H2 H3 HC
  go_enter Tryz.func22, Tryz.ntmps22
  go_wp2_with fail
  refine (HP'.out _).mono ?_
  rintro e w1 ⟨rfl, hb1⟩
  have B1 := hid_mk (below_new2 hb1)
  have z1 := hb1.size
  simp at z1
  have q0 : w.heap.size < w1.heap.size := by omega
  have q1 : w.heap.size + 1 < w1.heap.size := by omega
  have cx00 := hb1.cell (p := ⟨w.heap.size, 0, none⟩) (by first | (simp; done) | (simp; omega))
  have fx00 := hb1.frozen (p := ⟨w.heap.size, 0, none⟩) (by first | (simp; done) | (simp; omega))
  simp [go_sem] at cx00 fx00
  have cx01 := hb1.cell (p := ⟨w.heap.size, 1, none⟩) (by first | (simp; done) | (simp; omega))
  have fx01 := hb1.frozen (p := ⟨w.heap.size, 1, none⟩) (by first | (simp; done) | (simp; omega))
  simp [go_sem] at cx01 fx01
  have cx02 := hb1.cell (p := ⟨w.heap.size, 2, none⟩) (by first | (simp; done) | (simp; omega))
  have fx02 := hb1.frozen (p := ⟨w.heap.size, 2, none⟩) (by first | (simp; done) | (simp; omega))
  simp [go_sem] at cx02 fx02
  have cx03 := hb1.cell (p := ⟨w.heap.size, 3, none⟩) (by first | (simp; done) | (simp; omega))
  have fx03 := hb1.frozen (p := ⟨w.heap.size, 3, none⟩) (by first | (simp; done) | (simp; omega))
  simp [go_sem] at cx03 fx03
  have cx04 := hb1.cell (p := ⟨w.heap.size, 4, none⟩) (by first | (simp; done) | (simp; omega))
  have fx04 := hb1.frozen (p := ⟨w.heap.size, 4, none⟩) (by first | (simp; done) | (simp; omega))
  simp [go_sem] at cx04 fx04
  have cx10 := hb1.cell (p := ⟨w.heap.size + 1, 0, none⟩) (by first | (simp; done) | (simp; omega))
  have fx10 := hb1.frozen (p := ⟨w.heap.size + 1, 0, none⟩) (by first | (simp; done) | (simp; omega))
  simp [go_sem] at cx10 fx10
  have cx11 := hb1.cell (p := ⟨w.heap.size + 1, 1, none⟩) (by first | (simp; done) | (simp; omega))
  have fx11 := hb1.frozen (p := ⟨w.heap.size + 1, 1, none⟩) (by first | (simp; done) | (simp; omega))
  simp [go_sem] at cx11 fx11
  have cx12 := hb1.cell (p := ⟨w.heap.size + 1, 2, none⟩) (by first | (simp; done) | (simp; omega))
  have fx12 := hb1.frozen (p := ⟨w.heap.size + 1, 2, none⟩) (by first | (simp; done) | (simp; omega))
  simp [go_sem] at cx12 fx12
  have cx13 := hb1.cell (p := ⟨w.heap.size + 1, 3, none⟩) (by first | (simp; done) | (simp; omega))
  have fx13 := hb1.frozen (p := ⟨w.heap.size + 1, 3, none⟩) (by first | (simp; done) | (simp; omega))
  simp [go_sem] at cx13 fx13
  have cx14 := hb1.cell (p := ⟨w.heap.size + 1, 4, none⟩) (by first | (simp; done) | (simp; omega))
  have fx14 := hb1.frozen (p := ⟨w.heap.size + 1, 4, none⟩) (by first | (simp; done) | (simp; omega))
  simp [go_sem] at cx14 fx14
  clear hb1
  go_wp2_with fail
  refine (H1'.out _).mono ?_
  rintro e w' ⟨rfl, rfl⟩
  go_wp2_with fail
  refine (H2'.out _).mono ?_
  rintro e w' ⟨rfl, rfl⟩
  go_wp2_with fail
  refine (H3'.out _).mono ?_
  rintro e w' ⟨rfl, rfl⟩
  go_wp2_with fail
  refine bodyPost_ret (v := .tuple #[rV false 0 0 0 0, .int .u64 0, .int .i64 2]) ?_ rfl ⟨rfl, ?_⟩
  · simp [results, Tryz.results22, go_sem, cx00, cx01, cx02, cx03, cx04]
  · clear HP' H1' H2' H3' HC'
    repeat (refine Below.setCell ?_ (by simp only []; omega) _)
    exact B1.out

set_option maxHeartbeats 4000000 in
theorem rplace_true_6 (n b D G C a1 e1 a2 e2 a3 e3 ck : Int) (w : World) (hD0 : ¬ D = 0) (h0 : (e1 != 0) = false) (h1 : (e2 != 0) = false) (h2 : (e3 != 0) = false) (h3 : decide (IntKind.u64.wrap (a1 + D) < a1) = false) (h4 : decide (IntKind.u64.wrap (a2 + G) < a2) = false) (h5 : decide (IntKind.u64.wrap (a3 + IntKind.u64.wrap (C - 1)) < a3) = false) (h6 : (ck != 0) = true)
    (HP : ∀ w, Calls Tryz.prog 49 #[rV true n 0 0 0] w fun e w' => e = .returned (.tuple #[.int .u64 D, .int .u64 G, .int .u64 C]) ∧ Below w.heap.size w w')
    (H1 : ∀ w, Calls Tryz.prog 50 #[.int .u64 b, .int .u64 16] w fun e w' => e = .returned (.tuple #[.int .u64 a1, .int .i64 e1]) ∧ w = w')
    (H2 : ∀ w, Calls Tryz.prog 50 #[.int .u64 (IntKind.u64.wrap (a1 + D)), .int .u64 4] w fun e w' => e = .returned (.tuple #[.int .u64 a2, .int .i64 e2]) ∧ w = w')
    (H3 : ∀ w, Calls Tryz.prog 50 #[.int .u64 (IntKind.u64.wrap (a2 + G)), .int .u64 4] w fun e w' => e = .returned (.tuple #[.int .u64 a3, .int .i64 e3]) ∧ w = w')
    (HC : ∀ w, Calls Tryz.prog 51 #[rV true n a1 a2 a3] w fun e w' => e = .returned (.int .i64 ck) ∧ Below w.heap.size w w') :
    Calls Tryz.prog 22 #[.bool true, .int .i64 n, .int .u64 b] w fun e w' => e = .returned (.tuple #[rV false 0 0 0 0, .int .u64 0, .int .i64 2]) ∧ Below w.heap.size w w' := by
  have HP' := hid_mk HP
  have H1' := hid_mk H1
  have H2' := hid_mk H2
  have H3' := hid_mk H3
  have HC' := hid_mk HC
  clear HP H1 H2 H3 HC
  go_enter Tryz.func22, Tryz.ntmps22
  go_wp2_with fail
  refine (HP'.out _).mono ?_
  rintro e w1 ⟨rfl, hb1⟩
  have B1 := hid_mk (below_new2 hb1)
  have z1 := hb1.size
  simp at z1
  have q0 : w.heap.size < w1.heap.size := by omega
  have q1 : w.heap.size + 1 < w1.heap.size := by omega
  have cx00 := hb1.cell (p := ⟨w.heap.size, 0, none⟩) (by first | (simp; done) | (simp; omega))
  have fx00 := hb1.frozen (p := ⟨w.heap.size, 0, none⟩) (by first | (simp; done) | (simp; omega))
  simp [go_sem] at cx00 fx00
  have cx01 := hb1.cell (p := ⟨w.heap.size, 1, none⟩) (by first | (simp; done) | (simp; omega))
  have fx01 := hb1.frozen (p := ⟨w.heap.size, 1, none⟩) (by first | (simp; done) | (simp; omega))
  simp [go_sem] at cx01 fx01
  have cx02 := hb1.cell (p := ⟨w.heap.size, 2, none⟩) (by first | (simp; done) | (simp; omega))
  have fx02 := hb1.frozen (p := ⟨w.heap.size, 2, none⟩) (by first | (simp; done) | (simp; omega))
  simp [go_sem] at cx02 fx02
  have cx03 := hb1.cell (p := ⟨w.heap.size, 3, none⟩) (by first | (simp; done) | (simp; omega))
  have fx03 := hb1.frozen (p := ⟨w.heap.size, 3, none⟩) (by first | (simp; done) | (simp; omega))
  simp [go_sem] at cx03 fx03
  have cx04 := hb1.cell (p := ⟨w.heap.size, 4, none⟩) (by first | (simp; done) | (simp; omega))
  have fx04 := hb1.frozen (p := ⟨w.heap.size, 4, none⟩) (by first | (simp; done) | (simp; omega))
  simp [go_sem] at cx04 fx04
  have cx10 := hb1.cell (p := ⟨w.heap.size + 1, 0, none⟩) (by first | (simp; done) | (simp; omega))
  have fx10 := hb1.frozen (p := ⟨w.heap.size + 1, 0, none⟩) (by first | (simp; done) | (simp; omega))
  simp [go_sem] at cx10 fx10
  have cx11 := hb1.cell (p := ⟨w.heap.size + 1, 1, none⟩) (by first | (simp; done) | (simp; omega))
  have fx11 := hb1.frozen (p := ⟨w.heap.size + 1, 1, none⟩) (by first | (simp; done) | (simp; omega))
  simp [go_sem] at cx11 fx11
  have cx12 := hb1.cell (p := ⟨w.heap.size + 1, 2, none⟩) (by first | (simp; done) | (simp; omega))
  have fx12 := hb1.frozen (p := ⟨w.heap.size + 1, 2, none⟩) (by first | (simp; done) | (simp; omega))
  simp [go_sem] at cx12 fx12
  have cx13 := hb1.cell (p := ⟨w.heap.size + 1, 3, none⟩) (by first | (simp; done) | (simp; omega))
  have fx13 := hb1.frozen (p := ⟨w.heap.size + 1, 3, none⟩) (by first | (simp; done) | (simp; omega))
  simp [go_sem] at cx13 fx13
  have cx14 := hb1.cell (p := ⟨w.heap.size + 1, 4, none⟩) (by first | (simp; done) | (simp; omega))
  have fx14 := hb1.frozen (p := ⟨w.heap.size + 1, 4, none⟩) (by first | (simp; done) | (simp; omega))
  simp [go_sem] at cx14 fx14
  clear hb1
  go_wp2_with fail
  refine (H1'.out _).mono ?_
  rintro e w' ⟨rfl, rfl⟩
  go_wp2_with fail
  refine (H2'.out _).mono ?_
  rintro e w' ⟨rfl, rfl⟩
  go_wp2_with fail
  refine (H3'.out _).mono ?_
  rintro e w' ⟨rfl, rfl⟩
  go_wp2_with fail
  refine (HC'.out _).mono ?_
  rintro e w3 ⟨rfl, hb3⟩
  have B3 : Hid (Below w.heap.size w w3) := by
    clear HP' H1' H2' H3' HC'
    refine below_then ?_ hb3
    repeat (refine Below.setCell ?_ (by simp only []; omega) _)
    exact B1.out
  have z3 := hb3.size
  simp at z3
  have q30 : w.heap.size < w3.heap.size := by omega
  have q31 : w.heap.size + 1 < w3.heap.size := by omega
  have cy00 := hb3.cell (p := ⟨w.heap.size, 0, none⟩) (by first | (simp; done) | (simp; omega))
  have fy00 := hb3.frozen (p := ⟨w.heap.size, 0, none⟩) (by first | (simp; done) | (simp; omega))
  simp [go_sem, cx00] at cy00
  simp [go_sem, fx00] at fy00
  have cy01 := hb3.cell (p := ⟨w.heap.size, 1, none⟩) (by first | (simp; done) | (simp; omega))
  have fy01 := hb3.frozen (p := ⟨w.heap.size, 1, none⟩) (by first | (simp; done) | (simp; omega))
  simp [go_sem, cx01] at cy01
  simp [go_sem, fx01] at fy01
  have cy02 := hb3.cell (p := ⟨w.heap.size, 2, none⟩) (by first | (simp; done) | (simp; omega))
  have fy02 := hb3.frozen (p := ⟨w.heap.size, 2, none⟩) (by first | (simp; done) | (simp; omega))
  simp [go_sem, cx02] at cy02
  simp [go_sem, fx02] at fy02
  have cy03 := hb3.cell (p := ⟨w.heap.size, 3, none⟩) (by first | (simp; done) | (simp; omega))
  have fy03 := hb3.frozen (p := ⟨w.heap.size, 3, none⟩) (by first | (simp; done) | (simp; omega))
  simp [go_sem, cx03] at cy03
  simp [go_sem, fx03] at fy03
  have cy04 := hb3.cell (p := ⟨w.heap.size, 4, none⟩) (by first | (simp; done) | (simp; omega))
  have fy04 := hb3.frozen (p := ⟨w.heap.size, 4, none⟩) (by first | (simp; done) | (simp; omega))
  simp [go_sem, cx04] at cy04
  simp [go_sem, fx04] at fy04
  have cy10 := hb3.cell (p := ⟨w.heap.size + 1, 0, none⟩) (by first | (simp; done) | (simp; omega))
  have fy10 := hb3.frozen (p := ⟨w.heap.size + 1, 0, none⟩) (by first | (simp; done) | (simp; omega))
  simp [go_sem, cx10] at cy10
  simp [go_sem, fx10] at fy10
  have cy11 := hb3.cell (p := ⟨w.heap.size + 1, 1, none⟩) (by first | (simp; done) | (simp; omega))
  have fy11 := hb3.frozen (p := ⟨w.heap.size + 1, 1, none⟩) (by first | (simp; done) | (simp; omega))
  simp [go_sem, cx11] at cy11
  simp [go_sem, fx11] at fy11
  have cy12 := hb3.cell (p := ⟨w.heap.size + 1, 2, none⟩) (by first | (simp; done) | (simp; omega))
  have fy12 := hb3.frozen (p := ⟨w.heap.size + 1, 2, none⟩) (by first | (simp; done) | (simp; omega))
  simp [go_sem, cx12] at cy12
  simp [go_sem, fx12] at fy12
  have cy13 := hb3.cell (p := ⟨w.heap.size + 1, 3, none⟩) (by first | (simp; done) | (simp; omega))
  have fy13 := hb3.frozen (p := ⟨w.heap.size + 1, 3, none⟩) (by first | (simp; done) | (simp; omega))
  simp [go_sem, cx13] at cy13
  simp [go_sem, fx13] at fy13
  have cy14 := hb3.cell (p := ⟨w.heap.size + 1, 4, none⟩) (by first | (simp; done) | (simp; omega))
  have fy14 := hb3.frozen (p := ⟨w.heap.size + 1, 4, none⟩) (by first | (simp; done) | (simp; omega))
  simp [go_sem, cx14] at cy14
  simp [go_sem, fx14] at fy14
  clear cx00 fx00 cx01 fx01 cx02 fx02 cx03 fx03 cx04 fx04 cx10 fx10 cx11 fx11 cx12 fx12 cx13 fx13 cx14 fx14
  clear hb3 q0 q1 z1
  go_wp2_with fail
  refine bodyPost_ret (v := .tuple #[rV false 0 0 0 0, .int .u64 0, .int .i64 2]) ?_ rfl ⟨rfl, ?_⟩
  · simp [results, Tryz.results22, go_sem, cy00, cy01, cy02, cy03, cy04]
  · clear HP' H1' H2' H3' HC'
    repeat (refine Below.setCell ?_ (by simp only []; omega) _)
    exact B3.out

set_option maxHeartbeats 4000000 in
theorem rplace_true_7 (n b D G C a1 e1 a2 e2 a3 e3 ck : Int) (w : World) (hD0 : ¬ D = 0) (h0 : (e1 != 0) = false) (h1 : (e2 != 0) = false) (h2 : (e3 != 0) = false) (h3 : decide (IntKind.u64.wrap (a1 + D) < a1) = false) (h4 : decide (IntKind.u64.wrap (a2 + G) < a2) = false) (h5 : decide (IntKind.u64.wrap (a3 + IntKind.u64.wrap (C - 1)) < a3) = false) (h6 : (ck != 0) = false)
    (HP : ∀ w, Calls Tryz.prog 49 #[rV true n 0 0 0] w fun e w' => e = .returned (.tuple #[.int .u64 D, .int .u64 G, .int .u64 C]) ∧ Below w.heap.size w w')
    (H1 : ∀ w, Calls Tryz.prog 50 #[.int .u64 b, .int .u64 16] w fun e w' => e = .returned (.tuple #[.int .u64 a1, .int .i64 e1]) ∧ w = w')
    (H2 : ∀ w, Calls Tryz.prog 50 #[.int .u64 (IntKind.u64.wrap (a1 + D)), .int .u64 4] w fun e w' => e = .returned (.tuple #[.int .u64 a2, .int .i64 e2]) ∧ w = w')
    (H3 : ∀ w, Calls Tryz.prog 50 #[.int .u64 (IntKind.u64.wrap (a2 + G)), .int .u64 4] w fun e w' => e = .returned (.tuple #[.int .u64 a3, .int .i64 e3]) ∧ w = w')
    (HC : ∀ w, Calls Tryz.prog 51 #[rV true n a1 a2 a3] w fun e w' => e = .returned (.int .i64 ck) ∧ Below w.heap.size w w') :
    Calls Tryz.prog 22 #[.bool true, .int .i64 n, .int .u64 b] w fun e w' => e = .returned (.tuple #[rV true n a1 a2 a3, .int .u64 (IntKind.u64.wrap (IntKind.u64.wrap (a3 + C) - b)), .int .i64 0]) ∧ Below w.heap.size w w' := by
  have HP' := hid_mk HP
  have H1' := hid_mk H1
  have H2' := hid_mk H2
  have H3' := hid_mk H3
  have HC' := hid_mk HC
  clear HP H1 H2 H3 HC
  go_enter Tryz.func22, Tryz.ntmps22
  go_wp2_with fail
  refine (HP'.out _).mono ?_
  rintro e w1 ⟨rfl, hb1⟩
  have B1 := hid_mk (below_new2 hb1)
  have z1 := hb1.size
  simp at z1
  have q0 : w.heap.size < w1.heap.size := by omega
  have q1 : w.heap.size + 1 < w1.heap.size := by omega
  have cx00 := hb1.cell (p := ⟨w.heap.size, 0, none⟩) (by first | (simp; done) | (simp; omega))
  have fx00 := hb1.frozen (p := ⟨w.heap.size, 0, none⟩) (by first | (simp; done) | (simp; omega))
  simp [go_sem] at cx00 fx00
  have cx01 := hb1.cell (p := ⟨w.heap.size, 1, none⟩) (by first | (simp; done) | (simp; omega))
  have fx01 := hb1.frozen (p := ⟨w.heap.size, 1, none⟩) (by first | (simp; done) | (simp; omega))
  simp [go_sem] at cx01 fx01
  have cx02 := hb1.cell (p := ⟨w.heap.size, 2, none⟩) (by first | (simp; done) | (simp; omega))
  have fx02 := hb1.frozen (p := ⟨w.heap.size, 2, none⟩) (by first | (simp; done) | (simp; omega))
  simp [go_sem] at cx02 fx02
  have cx03 := hb1.cell (p := ⟨w.heap.size, 3, none⟩) (by first | (simp; done) | (simp; omega))
  have fx03 := hb1.frozen (p := ⟨w.heap.size, 3, none⟩) (by first | (simp; done) | (simp; omega))
  simp [go_sem] at cx03 fx03
  have cx04 := hb1.cell (p := ⟨w.heap.size, 4, none⟩) (by first | (simp; done) | (simp; omega))
  have fx04 := hb1.frozen (p := ⟨w.heap.size, 4, none⟩) (by first | (simp; done) | (simp; omega))
  simp [go_sem] at cx04 fx04
  have cx10 := hb1.cell (p := ⟨w.heap.size + 1, 0, none⟩) (by first | (simp; done) | (simp; omega))
  have fx10 := hb1.frozen (p := ⟨w.heap.size + 1, 0, none⟩) (by first | (simp; done) | (simp; omega))
  simp [go_sem] at cx10 fx10
  have cx11 := hb1.cell (p := ⟨w.heap.size + 1, 1, none⟩) (by first | (simp; done) | (simp; omega))
  have fx11 := hb1.frozen (p := ⟨w.heap.size + 1, 1, none⟩) (by first | (simp; done) | (simp; omega))
  simp [go_sem] at cx11 fx11
  have cx12 := hb1.cell (p := ⟨w.heap.size + 1, 2, none⟩) (by first | (simp; done) | (simp; omega))
  have fx12 := hb1.frozen (p := ⟨w.heap.size + 1, 2, none⟩) (by first | (simp; done) | (simp; omega))
  simp [go_sem] at cx12 fx12
  have cx13 := hb1.cell (p := ⟨w.heap.size + 1, 3, none⟩) (by first | (simp; done) | (simp; omega))
  have fx13 := hb1.frozen (p := ⟨w.heap.size + 1, 3, none⟩) (by first | (simp; done) | (simp; omega))
  simp [go_sem] at cx13 fx13
  have cx14 := hb1.cell (p := ⟨w.heap.size + 1, 4, none⟩) (by first | (simp; done) | (simp; omega))
  have fx14 := hb1.frozen (p := ⟨w.heap.size + 1, 4, none⟩) (by first | (simp; done) | (simp; omega))
  simp [go_sem] at cx14 fx14
  clear hb1
  go_wp2_with fail
  refine (H1'.out _).mono ?_
  rintro e w' ⟨rfl, rfl⟩
  go_wp2_with fail
  refine (H2'.out _).mono ?_
  rintro e w' ⟨rfl, rfl⟩
  go_wp2_with fail
  refine (H3'.out _).mono ?_
  rintro e w' ⟨rfl, rfl⟩
  go_wp2_with fail
  refine (HC'.out _).mono ?_
  rintro e w3 ⟨rfl, hb3⟩
  have B3 : Hid (Below w.heap.size w w3) := by
    clear HP' H1' H2' H3' HC'
    refine below_then ?_ hb3
    repeat (refine Below.setCell ?_ (by simp only []; omega) _)
    exact B1.out
  have z3 := hb3.size
  simp at z3
  have q30 : w.heap.size < w3.heap.size := by omega
  have q31 : w.heap.size + 1 < w3.heap.size := by omega
  have cy00 := hb3.cell (p := ⟨w.heap.size, 0, none⟩) (by first | (simp; done) | (simp; omega))
  have fy00 := hb3.frozen (p := ⟨w.heap.size, 0, none⟩) (by first | (simp; done) | (simp; omega))
  simp [go_sem, cx00] at cy00
  simp [go_sem, fx00] at fy00
  have cy01 := hb3.cell (p := ⟨w.heap.size, 1, none⟩) (by first | (simp; done) | (simp; omega))
  have fy01 := hb3.frozen (p := ⟨w.heap.size, 1, none⟩) (by first | (simp; done) | (simp; omega))
  simp [go_sem, cx01] at cy01
  simp [go_sem, fx01] at fy01
  have cy02 := hb3.cell (p := ⟨w.heap.size, 2, none⟩) (by first | (simp; done) | (simp; omega))
  have fy02 := hb3.frozen (p := ⟨w.heap.size, 2, none⟩) (by first | (simp; done) | (simp; omega))
  simp [go_sem, cx02] at cy02
  simp [go_sem, fx02] at fy02
  have cy03 := hb3.cell (p := ⟨w.heap.size, 3, none⟩) (by first | (simp; done) | (simp; omega))
  have fy03 := hb3.frozen (p := ⟨w.heap.size, 3, none⟩) (by first | (simp; done) | (simp; omega))
  simp [go_sem, cx03] at cy03
  simp [go_sem, fx03] at fy03
  have cy04 := hb3.cell (p := ⟨w.heap.size, 4, none⟩) (by first | (simp; done) | (simp; omega))
  have fy04 := hb3.frozen (p := ⟨w.heap.size, 4, none⟩) (by first | (simp; done) | (simp; omega))
  simp [go_sem, cx04] at cy04
  simp [go_sem, fx04] at fy04
  have cy10 := hb3.cell (p := ⟨w.heap.size + 1, 0, none⟩) (by first | (simp; done) | (simp; omega))
  have fy10 := hb3.frozen (p := ⟨w.heap.size + 1, 0, none⟩) (by first | (simp; done) | (simp; omega))
  simp [go_sem, cx10] at cy10
  simp [go_sem, fx10] at fy10
  have cy11 := hb3.cell (p := ⟨w.heap.size + 1, 1, none⟩) (by first | (simp; done) | (simp; omega))
  have fy11 := hb3.frozen (p := ⟨w.heap.size + 1, 1, none⟩) (by first | (simp; done) | (simp; omega))
  simp [go_sem, cx11] at cy11
  simp [go_sem, fx11] at fy11
  have cy12 := hb3.cell (p := ⟨w.heap.size + 1, 2, none⟩) (by first | (simp; done) | (simp; omega))
  have fy12 := hb3.frozen (p := ⟨w.heap.size + 1, 2, none⟩) (by first | (simp; done) | (simp; omega))
  simp [go_sem, cx12] at cy12
  simp [go_sem, fx12] at fy12
  have cy13 := hb3.cell (p := ⟨w.heap.size + 1, 3, none⟩) (by first | (simp; done) | (simp; omega))
  have fy13 := hb3.frozen (p := ⟨w.heap.size + 1, 3, none⟩) (by first | (simp; done) | (simp; omega))
  simp [go_sem, cx13] at cy13
  simp [go_sem, fx13] at fy13
  have cy14 := hb3.cell (p := ⟨w.heap.size + 1, 4, none⟩) (by first | (simp; done) | (simp; omega))
  have fy14 := hb3.frozen (p := ⟨w.heap.size + 1, 4, none⟩) (by first | (simp; done) | (simp; omega))
  simp [go_sem, cx14] at cy14
  simp [go_sem, fx14] at fy14
  clear cx00 fx00 cx01 fx01 cx02 fx02 cx03 fx03 cx04 fx04 cx10 fx10 cx11 fx11 cx12 fx12 cx13 fx13 cx14 fx14
  clear hb3 q0 q1 z1
  go_wp2_with fail
  go_region
  go_wp2_with fail
  refine bodyPost_ret (v := .tuple #[rV true n a1 a2 a3, .int .u64 (IntKind.u64.wrap (IntKind.u64.wrap (a3 + C) - b)), .int .i64 0]) ?_ rfl ⟨rfl, ?_⟩
  · simp [results, Tryz.results22, go_sem, cy00, cy01, cy02, cy03, cy04]
  · clear HP' H1' H2' H3' HC'
    refine Below.drew ?_
    repeat (refine Below.setCell ?_ (by simp only []; omega) _)
    exact B3.out
end Go.Proofs.YtfhhgcgbgmilcaaGreat
