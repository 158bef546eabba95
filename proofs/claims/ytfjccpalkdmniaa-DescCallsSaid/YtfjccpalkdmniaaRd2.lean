/- The reference of layer 3: Bytes, PackedBytes. Conditions: as each theorem names them. -/
import Derived.Test.YtfjccpalkdmniaaRd1
import Derived.Test.YtfjccpalkdmniaaOutl2
namespace Go.Proofs.Ytfjccpalkdmniaa
open Go.ChangeShapes Go.WideShapes Go.ChangeAt Go.RowKit
set_option linter.unusedVariables false
set_option maxRecDepth 100000

theorem rput_nil (B : Nat) (x : Int) (w : World) (hB : B ≤ w.heap.size) (hx : 0 ≤ x ∧ x < 18446744073709551616) :
    Calls Try.prog 75 #[.slice none 0 0, .int .u64 x, .int .i64 8] w fun e w' => ∃ v', e = .returned v' ∧ OwnB w' B v' (leB 8 x) ∧ Below B w w' :=
  rput_any (.slice none 0 0) B [] x 8 w (World.ownsRow_nil _ _ _ _) hB (by simp) (by omega) hx
theorem rput_4 (v : Value) (B : Nat) (l : List Int) (x : Int) (w : World) (ho : OwnB w B v l) (hB : B ≤ w.heap.size) (hl : l.length ≤ 1000) (hx : 0 ≤ x ∧ x < 18446744073709551616) :
    Calls Try.prog 75 #[v, .int .u64 x, .int .i64 4] w fun e w' => ∃ v', e = .returned v' ∧ OwnB w' B v' (l ++ leB 4 x) ∧ Below B w w' :=
  rput_any v B l x 4 w ho hB (by omega) (by omega) hx
theorem rput_2 (v : Value) (B : Nat) (l : List Int) (x : Int) (w : World) (ho : OwnB w B v l) (hB : B ≤ w.heap.size) (hl : l.length ≤ 1000) (hx : 0 ≤ x ∧ x < 18446744073709551616) :
    Calls Try.prog 75 #[v, .int .u64 x, .int .i64 2] w fun e w' => ∃ v', e = .returned v' ∧ OwnB w' B v' (l ++ leB 2 x) ∧ Below B w w' :=
  rput_any v B l x 2 w ho hB (by omega) (by omega) hx



/-- what the region's loads read, and how far the heap has come -/
def SB (B b : Nat) (d : Dsc) (w0 W : World) : Prop := at4 W b 0 d ∧ b < B ∧ B ≤ W.heap.size ∧ Below w0.heap.size w0 W
theorem SB.keep {B b : Nat} {d : Dsc} {w0 W W' : World} (h : SB B b d w0 W) (hb : Below B W W') (hle : w0.heap.size ≤ B) : SB B b d w0 W' := ⟨h.1.below hb h.2.1, h.2.1, Nat.le_trans h.2.2.1 hb.size, h.2.2.2.trans (hb.mono hle)⟩
theorem eval_c (a : Act) (v : Value) : a.eval (.const v) = v := rfl

set_option maxHeartbeats 4000000 in
theorem rbytes_any (d : Dsc) (w : World) (hd : isDsc d) :
    Calls Try.prog 47 #[dV d] w fun e w' => ∃ v, e = .returned v ∧ OwnB w' (w.heap.size + 1) v (dB d) ∧ Below w.heap.size w w' := by
  obtain ⟨a0, a1⟩ := hd.a
  obtain ⟨l0, l1⟩ := hd.l
  obtain ⟨f0, f1⟩ := hd.f
  obtain ⟨n0, n1⟩ := hd.n
  have wl : IntKind.u64.wrap d.l = d.l := by rw [IntKind.wrap_u64]; omega
  have wf : IntKind.u64.wrap d.f = d.f := by rw [IntKind.wrap_u64]; omega
  have wn : IntKind.u64.wrap d.n = d.n := by rw [IntKind.wrap_u64]; omega
  have hfin : (((leB 8 d.a ++ leB 4 d.l) ++ leB 2 d.f) ++ leB 2 d.n) = dB d := by simp [dB]
  have HF := hid_mk hfin
  have HS := hid_mk (show SB (w.heap.size + 1) w.heap.size d w (w.alloc (.cells (dC d).toArray 56)).drew from ⟨⟨by simp [go_sem], by simp [go_sem], by simp [go_sem], by simp [go_sem]⟩, by omega, by show _ ≤ (w.alloc _).heap.size; rw [sizeA]; omega, ((Below.refl _ _).alloc (Nat.le_refl _) _).drew⟩)
  clear hd hfin
  go_enter Try.func47, Try.ntmps47
  go_wp2_with fail
  refine wp_region_phases [2, 6, 10, 14, 15]
    [.eq (.pointer (some ⟨w.heap.size, 0, none⟩)), .eq (.int .u64 d.a), .nxt 0 (fun v W => OwnB W (w.heap.size + 1) v (leB 8 d.a)),
     .eq (.pointer (some ⟨w.heap.size, 1, none⟩)), .eq (.int .u32 d.l), .eq (.int .u64 d.l), .nxt 1 (fun v W => OwnB W (w.heap.size + 1) v (leB 8 d.a ++ leB 4 d.l)),
     .eq (.pointer (some ⟨w.heap.size, 2, none⟩)), .eq (.int .u16 d.f), .eq (.int .u64 d.f), .nxt 2 (fun v W => OwnB W (w.heap.size + 1) v (leB 8 d.a ++ leB 4 d.l ++ leB 2 d.f)),
     .eq (.pointer (some ⟨w.heap.size, 3, none⟩)), .eq (.int .u16 d.n), .eq (.int .u64 d.n), .nxt 3 (fun v W => OwnB W (w.heap.size + 1) v (dB d)), .nxt 4 (fun v W => OwnB W (w.heap.size + 1) v (dB d))]
    (fun _ W => SB (w.heap.size + 1) w.heap.size d w W) (by kernel_rfl) (by kernel_rfl) (by kernel_rfl) HS.out ?_ ?_
  · refine And.intro ?_ (And.intro ?_ (And.intro ?_ (And.intro ?_ (And.intro ?_ (And.intro ?_ (And.intro ?_ (And.intro ?_ (And.intro ?_ (And.intro ?_ (And.intro ?_ (And.intro ?_ (And.intro ?_ (And.intro ?_ (And.intro ?_ (And.intro ?_ (True.intro))))))))))))))))
    · refine pstep_val (.pointer (some ⟨w.heap.size, 0, none⟩)) (by kernel_rfl) (by kernel_rfl) (fun t1 l1 A1 W1 inv hall hlate => ⟨wanted_none rfl, ?_, rfl⟩)
      have h1 : A1.eval (.tmp 1) = .pointer (some ⟨w.heap.size, 0, none⟩) := (inv.base 1 (by kernel_rfl)).trans rfl
      simp only [execOp, h1]
      simp [go_sem]
    · refine pstep_val (.int .u64 d.a) (by kernel_rfl) (by kernel_rfl) (fun t1 l1 A1 W1 inv hall hlate => ⟨wanted_none rfl, ?_, rfl⟩)
      have h1 : A1.eval (.tmp 3) = .pointer (some ⟨w.heap.size, 0, none⟩) := inv.get hall 0 3 (by kernel_rfl) (by kernel_rfl)
      obtain ⟨c0, c1, c2, c3⟩ := inv.s.1
      simp only [execOp, h1]
      simp [go_sem, c0]
    · refine pstep_call 0 75 (by kernel_rfl) _ _ (by kernel_rfl) rfl rfl (fun l1 A1 W1 inv hall => ⟨wanted_none rfl, #[.slice none 0 0, .int .u64 d.a, .int .i64 8], ?_, ?_⟩)
      · have h1 : A1.eval (.tmp 4) = .int .u64 d.a := inv.get hall 1 4 (by kernel_rfl) (by kernel_rfl)
        simp only [List.map_toArray, List.map_cons, List.map_nil, h1, eval_c]
      · refine (rput_nil (w.heap.size + 1) d.a W1 inv.s.2.2.1 ⟨a0, a1⟩).mono ?_
        rintro e W2 ⟨v', rfl, ho, hb⟩
        exact ⟨v', rfl, fun _ => ho, inv.s.keep hb (by omega)⟩
    · refine pstep_val (.pointer (some ⟨w.heap.size, 1, none⟩)) (by kernel_rfl) (by kernel_rfl) (fun t1 l1 A1 W1 inv hall hlate => ⟨wanted_none rfl, ?_, rfl⟩)
      have h1 : A1.eval (.tmp 1) = .pointer (some ⟨w.heap.size, 0, none⟩) := (inv.base 1 (by kernel_rfl)).trans rfl
      simp only [execOp, h1]
      simp [go_sem]
    · refine pstep_val (.int .u32 d.l) (by kernel_rfl) (by kernel_rfl) (fun t1 l1 A1 W1 inv hall hlate => ⟨wanted_none rfl, ?_, rfl⟩)
      have h1 : A1.eval (.tmp 6) = .pointer (some ⟨w.heap.size, 1, none⟩) := inv.get hall 3 6 (by kernel_rfl) (by kernel_rfl)
      obtain ⟨c0, c1, c2, c3⟩ := inv.s.1
      simp only [execOp, h1]
      simp [go_sem, c1]
    · refine pstep_val (.int .u64 d.l) (by kernel_rfl) (by kernel_rfl) (fun t1 l1 A1 W1 inv hall hlate => ⟨wanted_none rfl, ?_, rfl⟩)
      have h1 : A1.eval (.tmp 7) = .int .u32 d.l := inv.get hall 4 7 (by kernel_rfl) (by kernel_rfl)
      simp only [execOp, h1]
      simp [go_sem, Try.underlying26, Try.underlying53, wl]
    · refine pstep_call 1 75 (by kernel_rfl) _ _ (by kernel_rfl) rfl rfl (fun l1 A1 W1 inv hall => ⟨wanted_none rfl, #[A1.eval (.tmp 5), .int .u64 d.l, .int .i64 4], ?_, ?_⟩)
      · have h1 : A1.eval (.tmp 8) = .int .u64 d.l := inv.get hall 5 8 (by kernel_rfl) (by kernel_rfl)
        simp only [List.map_toArray, List.map_cons, List.map_nil, h1, eval_c]
      · have hp : OwnB W1 (w.heap.size + 1) (A1.eval (.tmp 5)) (leB 8 d.a) := (inv.get hall 2 5 (by kernel_rfl) (by kernel_rfl) : 1 = 0 + 1 → _) rfl
        refine (rput_4 _ (w.heap.size + 1) (leB 8 d.a) d.l W1 hp inv.s.2.2.1 (by simp [leB_length]) ⟨l0, by omega⟩).mono ?_
        rintro e W2 ⟨v', rfl, ho, hb⟩
        exact ⟨v', rfl, fun _ => ho, inv.s.keep hb (by omega)⟩
    · refine pstep_val (.pointer (some ⟨w.heap.size, 2, none⟩)) (by kernel_rfl) (by kernel_rfl) (fun t1 l1 A1 W1 inv hall hlate => ⟨wanted_none rfl, ?_, rfl⟩)
      have h1 : A1.eval (.tmp 1) = .pointer (some ⟨w.heap.size, 0, none⟩) := (inv.base 1 (by kernel_rfl)).trans rfl
      simp only [execOp, h1]
      simp [go_sem]
    · refine pstep_val (.int .u16 d.f) (by kernel_rfl) (by kernel_rfl) (fun t1 l1 A1 W1 inv hall hlate => ⟨wanted_none rfl, ?_, rfl⟩)
      have h1 : A1.eval (.tmp 10) = .pointer (some ⟨w.heap.size, 2, none⟩) := inv.get hall 7 10 (by kernel_rfl) (by kernel_rfl)
      obtain ⟨c0, c1, c2, c3⟩ := inv.s.1
      simp only [execOp, h1]
      simp [go_sem, c2]
    · refine pstep_val (.int .u64 d.f) (by kernel_rfl) (by kernel_rfl) (fun t1 l1 A1 W1 inv hall hlate => ⟨wanted_none rfl, ?_, rfl⟩)
      have h1 : A1.eval (.tmp 11) = .int .u16 d.f := inv.get hall 8 11 (by kernel_rfl) (by kernel_rfl)
      simp only [execOp, h1]
      simp [go_sem, Try.underlying26, Try.underlying54, wf]
    · refine pstep_call 2 75 (by kernel_rfl) _ _ (by kernel_rfl) rfl rfl (fun l1 A1 W1 inv hall => ⟨wanted_none rfl, #[A1.eval (.tmp 9), .int .u64 d.f, .int .i64 2], ?_, ?_⟩)
      · have h1 : A1.eval (.tmp 12) = .int .u64 d.f := inv.get hall 9 12 (by kernel_rfl) (by kernel_rfl)
        simp only [List.map_toArray, List.map_cons, List.map_nil, h1, eval_c]
      · have hp : OwnB W1 (w.heap.size + 1) (A1.eval (.tmp 9)) (leB 8 d.a ++ leB 4 d.l) := (inv.get hall 6 9 (by kernel_rfl) (by kernel_rfl) : 2 = 1 + 1 → _) rfl
        refine (rput_2 _ (w.heap.size + 1) (leB 8 d.a ++ leB 4 d.l) d.f W1 hp inv.s.2.2.1 (by simp [leB_length]) ⟨f0, by omega⟩).mono ?_
        rintro e W2 ⟨v', rfl, ho, hb⟩
        exact ⟨v', rfl, fun _ => ho, inv.s.keep hb (by omega)⟩
    · refine pstep_val (.pointer (some ⟨w.heap.size, 3, none⟩)) (by kernel_rfl) (by kernel_rfl) (fun t1 l1 A1 W1 inv hall hlate => ⟨wanted_none rfl, ?_, rfl⟩)
      have h1 : A1.eval (.tmp 1) = .pointer (some ⟨w.heap.size, 0, none⟩) := (inv.base 1 (by kernel_rfl)).trans rfl
      simp only [execOp, h1]
      simp [go_sem]
    · refine pstep_val (.int .u16 d.n) (by kernel_rfl) (by kernel_rfl) (fun t1 l1 A1 W1 inv hall hlate => ⟨wanted_none rfl, ?_, rfl⟩)
      have h1 : A1.eval (.tmp 14) = .pointer (some ⟨w.heap.size, 3, none⟩) := inv.get hall 11 14 (by kernel_rfl) (by kernel_rfl)
      obtain ⟨c0, c1, c2, c3⟩ := inv.s.1
      simp only [execOp, h1]
      simp [go_sem, c3]
    · refine pstep_val (.int .u64 d.n) (by kernel_rfl) (by kernel_rfl) (fun t1 l1 A1 W1 inv hall hlate => ⟨wanted_none rfl, ?_, rfl⟩)
      have h1 : A1.eval (.tmp 15) = .int .u16 d.n := inv.get hall 12 15 (by kernel_rfl) (by kernel_rfl)
      simp only [execOp, h1]
      simp [go_sem, Try.underlying26, Try.underlying54, wn]
    · refine pstep_call 3 75 (by kernel_rfl) _ _ (by kernel_rfl) rfl rfl (fun l1 A1 W1 inv hall => ⟨wanted_none rfl, #[A1.eval (.tmp 13), .int .u64 d.n, .int .i64 2], ?_, ?_⟩)
      · have h1 : A1.eval (.tmp 16) = .int .u64 d.n := inv.get hall 13 16 (by kernel_rfl) (by kernel_rfl)
        simp only [List.map_toArray, List.map_cons, List.map_nil, h1, eval_c]
      · have hp : OwnB W1 (w.heap.size + 1) (A1.eval (.tmp 13)) (leB 8 d.a ++ leB 4 d.l ++ leB 2 d.f) := (inv.get hall 10 13 (by kernel_rfl) (by kernel_rfl) : 3 = 2 + 1 → _) rfl
        refine (rput_2 _ (w.heap.size + 1) (leB 8 d.a ++ leB 4 d.l ++ leB 2 d.f) d.n W1 hp inv.s.2.2.1 (by simp [leB_length]) ⟨n0, by omega⟩).mono ?_
        rintro e W2 ⟨v', rfl, ho, hb⟩
        exact ⟨v', rfl, fun _ => by rw [HF.out] at ho; exact ho, inv.s.keep hb (by omega)⟩
    · refine pstep_run 4 (by kernel_rfl) rfl (fun l1 A1 W1 inv hall => ⟨wanted_none rfl, A1.eval (.tmp 17), W1, by simp only [execOp, Sem.run_pure], fun _ => ?_, inv.s⟩)
      exact (inv.get hall 14 17 (by kernel_rfl) (by kernel_rfl) : 4 = 3 + 1 → _) rfl
  · intro t1 l1 A1 W1 inv hall
    have ht : 5 ≤ t1 := (inv.phase 4 15 rfl).1 (hall 15 (Nat.lt_of_lt_of_eq (by decide : 15 < 16) (by kernel_rfl)))
    have ht2 : t1 = 5 := Nat.le_antisymm inv.tle ht
    subst ht2
    have hlast : OwnB W1 (w.heap.size + 1) (A1.eval (.tmp 2)) (dB d) := (inv.fin 15 2 (by kernel_rfl) (hall 15 (Nat.lt_of_lt_of_eq (by decide : 15 < 16) (by kernel_rfl))) : 5 = 4 + 1 → _) rfl
    refine (by assumption : ∀ (a : Act) (w : World), Code.wp Try.prog Code.ret _ a w → _) A1 W1 ?_
    go_wp2_with fail
    simp only [Act.eval, Array.getD_eq_getD_getElem?] at hlast
    exact bodyPost_ret (v := A1.tmps[2]?.getD undef) (by simp [results, Try.results47, go_sem]) inv.dfr ⟨_, rfl, hlast, inv.s.2.2.2⟩

set_option maxHeartbeats 4000000 in
theorem rpbytes_any (d : Dsc) (w : World) (hd : isDsc d) :
    Calls Try.prog 49 #[dV d] w fun e w' => ∃ v, e = .returned v ∧ OwnB w' (w.heap.size + 1) v (dB d) ∧ Below w.heap.size w w' := by
  obtain ⟨a0, a1⟩ := hd.a
  obtain ⟨l0, l1⟩ := hd.l
  obtain ⟨f0, f1⟩ := hd.f
  obtain ⟨n0, n1⟩ := hd.n
  have wl : IntKind.u64.wrap d.l = d.l := by rw [IntKind.wrap_u64]; omega
  have wf : IntKind.u64.wrap d.f = d.f := by rw [IntKind.wrap_u64]; omega
  have wn : IntKind.u64.wrap d.n = d.n := by rw [IntKind.wrap_u64]; omega
  have hfin : (((leB 8 d.a ++ leB 4 d.l) ++ leB 2 d.f) ++ leB 2 d.n) = dB d := by simp [dB]
  have HF := hid_mk hfin
  have HS := hid_mk (show SB (w.heap.size + 1) w.heap.size d w (w.alloc (.cells (dC d).toArray 60)).drew from ⟨⟨by simp [go_sem], by simp [go_sem], by simp [go_sem], by simp [go_sem]⟩, by omega, by show _ ≤ (w.alloc _).heap.size; rw [sizeA]; omega, ((Below.refl _ _).alloc (Nat.le_refl _) _).drew⟩)
  clear hd hfin
  go_enter Try.func49, Try.ntmps49
  go_wp2_with fail
  refine wp_region_phases [2, 6, 10, 14, 15]
    [.eq (.pointer (some ⟨w.heap.size, 0, none⟩)), .eq (.int .u64 d.a), .nxt 0 (fun v W => OwnB W (w.heap.size + 1) v (leB 8 d.a)),
     .eq (.pointer (some ⟨w.heap.size, 1, none⟩)), .eq (.int .u32 d.l), .eq (.int .u64 d.l), .nxt 1 (fun v W => OwnB W (w.heap.size + 1) v (leB 8 d.a ++ leB 4 d.l)),
     .eq (.pointer (some ⟨w.heap.size, 2, none⟩)), .eq (.int .u16 d.f), .eq (.int .u64 d.f), .nxt 2 (fun v W => OwnB W (w.heap.size + 1) v (leB 8 d.a ++ leB 4 d.l ++ leB 2 d.f)),
     .eq (.pointer (some ⟨w.heap.size, 3, none⟩)), .eq (.int .u16 d.n), .eq (.int .u64 d.n), .nxt 3 (fun v W => OwnB W (w.heap.size + 1) v (dB d)), .nxt 4 (fun v W => OwnB W (w.heap.size + 1) v (dB d))]
    (fun _ W => SB (w.heap.size + 1) w.heap.size d w W) (by kernel_rfl) (by kernel_rfl) (by kernel_rfl) HS.out ?_ ?_
  · refine And.intro ?_ (And.intro ?_ (And.intro ?_ (And.intro ?_ (And.intro ?_ (And.intro ?_ (And.intro ?_ (And.intro ?_ (And.intro ?_ (And.intro ?_ (And.intro ?_ (And.intro ?_ (And.intro ?_ (And.intro ?_ (And.intro ?_ (And.intro ?_ (True.intro))))))))))))))))
    · refine pstep_val (.pointer (some ⟨w.heap.size, 0, none⟩)) (by kernel_rfl) (by kernel_rfl) (fun t1 l1 A1 W1 inv hall hlate => ⟨wanted_none rfl, ?_, rfl⟩)
      have h1 : A1.eval (.tmp 1) = .pointer (some ⟨w.heap.size, 0, none⟩) := (inv.base 1 (by kernel_rfl)).trans rfl
      simp only [execOp, h1]
      simp [go_sem]
    · refine pstep_val (.int .u64 d.a) (by kernel_rfl) (by kernel_rfl) (fun t1 l1 A1 W1 inv hall hlate => ⟨wanted_none rfl, ?_, rfl⟩)
      have h1 : A1.eval (.tmp 3) = .pointer (some ⟨w.heap.size, 0, none⟩) := inv.get hall 0 3 (by kernel_rfl) (by kernel_rfl)
      obtain ⟨c0, c1, c2, c3⟩ := inv.s.1
      simp only [execOp, h1]
      simp [go_sem, c0]
    · refine pstep_call 0 75 (by kernel_rfl) _ _ (by kernel_rfl) rfl rfl (fun l1 A1 W1 inv hall => ⟨wanted_none rfl, #[.slice none 0 0, .int .u64 d.a, .int .i64 8], ?_, ?_⟩)
      · have h1 : A1.eval (.tmp 4) = .int .u64 d.a := inv.get hall 1 4 (by kernel_rfl) (by kernel_rfl)
        simp only [List.map_toArray, List.map_cons, List.map_nil, h1, eval_c]
      · refine (rput_nil (w.heap.size + 1) d.a W1 inv.s.2.2.1 ⟨a0, a1⟩).mono ?_
        rintro e W2 ⟨v', rfl, ho, hb⟩
        exact ⟨v', rfl, fun _ => ho, inv.s.keep hb (by omega)⟩
    · refine pstep_val (.pointer (some ⟨w.heap.size, 1, none⟩)) (by kernel_rfl) (by kernel_rfl) (fun t1 l1 A1 W1 inv hall hlate => ⟨wanted_none rfl, ?_, rfl⟩)
      have h1 : A1.eval (.tmp 1) = .pointer (some ⟨w.heap.size, 0, none⟩) := (inv.base 1 (by kernel_rfl)).trans rfl
      simp only [execOp, h1]
      simp [go_sem]
    · refine pstep_val (.int .u32 d.l) (by kernel_rfl) (by kernel_rfl) (fun t1 l1 A1 W1 inv hall hlate => ⟨wanted_none rfl, ?_, rfl⟩)
      have h1 : A1.eval (.tmp 6) = .pointer (some ⟨w.heap.size, 1, none⟩) := inv.get hall 3 6 (by kernel_rfl) (by kernel_rfl)
      obtain ⟨c0, c1, c2, c3⟩ := inv.s.1
      simp only [execOp, h1]
      simp [go_sem, c1]
    · refine pstep_val (.int .u64 d.l) (by kernel_rfl) (by kernel_rfl) (fun t1 l1 A1 W1 inv hall hlate => ⟨wanted_none rfl, ?_, rfl⟩)
      have h1 : A1.eval (.tmp 7) = .int .u32 d.l := inv.get hall 4 7 (by kernel_rfl) (by kernel_rfl)
      simp only [execOp, h1]
      simp [go_sem, Try.underlying26, Try.underlying53, wl]
    · refine pstep_call 1 75 (by kernel_rfl) _ _ (by kernel_rfl) rfl rfl (fun l1 A1 W1 inv hall => ⟨wanted_none rfl, #[A1.eval (.tmp 5), .int .u64 d.l, .int .i64 4], ?_, ?_⟩)
      · have h1 : A1.eval (.tmp 8) = .int .u64 d.l := inv.get hall 5 8 (by kernel_rfl) (by kernel_rfl)
        simp only [List.map_toArray, List.map_cons, List.map_nil, h1, eval_c]
      · have hp : OwnB W1 (w.heap.size + 1) (A1.eval (.tmp 5)) (leB 8 d.a) := (inv.get hall 2 5 (by kernel_rfl) (by kernel_rfl) : 1 = 0 + 1 → _) rfl
        refine (rput_4 _ (w.heap.size + 1) (leB 8 d.a) d.l W1 hp inv.s.2.2.1 (by simp [leB_length]) ⟨l0, by omega⟩).mono ?_
        rintro e W2 ⟨v', rfl, ho, hb⟩
        exact ⟨v', rfl, fun _ => ho, inv.s.keep hb (by omega)⟩
    · refine pstep_val (.pointer (some ⟨w.heap.size, 2, none⟩)) (by kernel_rfl) (by kernel_rfl) (fun t1 l1 A1 W1 inv hall hlate => ⟨wanted_none rfl, ?_, rfl⟩)
      have h1 : A1.eval (.tmp 1) = .pointer (some ⟨w.heap.size, 0, none⟩) := (inv.base 1 (by kernel_rfl)).trans rfl
      simp only [execOp, h1]
      simp [go_sem]
    · refine pstep_val (.int .u16 d.f) (by kernel_rfl) (by kernel_rfl) (fun t1 l1 A1 W1 inv hall hlate => ⟨wanted_none rfl, ?_, rfl⟩)
      have h1 : A1.eval (.tmp 10) = .pointer (some ⟨w.heap.size, 2, none⟩) := inv.get hall 7 10 (by kernel_rfl) (by kernel_rfl)
      obtain ⟨c0, c1, c2, c3⟩ := inv.s.1
      simp only [execOp, h1]
      simp [go_sem, c2]
    · refine pstep_val (.int .u64 d.f) (by kernel_rfl) (by kernel_rfl) (fun t1 l1 A1 W1 inv hall hlate => ⟨wanted_none rfl, ?_, rfl⟩)
      have h1 : A1.eval (.tmp 11) = .int .u16 d.f := inv.get hall 8 11 (by kernel_rfl) (by kernel_rfl)
      simp only [execOp, h1]
      simp [go_sem, Try.underlying26, Try.underlying54, wf]
    · refine pstep_call 2 75 (by kernel_rfl) _ _ (by kernel_rfl) rfl rfl (fun l1 A1 W1 inv hall => ⟨wanted_none rfl, #[A1.eval (.tmp 9), .int .u64 d.f, .int .i64 2], ?_, ?_⟩)
      · have h1 : A1.eval (.tmp 12) = .int .u64 d.f := inv.get hall 9 12 (by kernel_rfl) (by kernel_rfl)
        simp only [List.map_toArray, List.map_cons, List.map_nil, h1, eval_c]
      · have hp : OwnB W1 (w.heap.size + 1) (A1.eval (.tmp 9)) (leB 8 d.a ++ leB 4 d.l) := (inv.get hall 6 9 (by kernel_rfl) (by kernel_rfl) : 2 = 1 + 1 → _) rfl
        refine (rput_2 _ (w.heap.size + 1) (leB 8 d.a ++ leB 4 d.l) d.f W1 hp inv.s.2.2.1 (by simp [leB_length]) ⟨f0, by omega⟩).mono ?_
        rintro e W2 ⟨v', rfl, ho, hb⟩
        exact ⟨v', rfl, fun _ => ho, inv.s.keep hb (by omega)⟩
    · refine pstep_val (.pointer (some ⟨w.heap.size, 3, none⟩)) (by kernel_rfl) (by kernel_rfl) (fun t1 l1 A1 W1 inv hall hlate => ⟨wanted_none rfl, ?_, rfl⟩)
      have h1 : A1.eval (.tmp 1) = .pointer (some ⟨w.heap.size, 0, none⟩) := (inv.base 1 (by kernel_rfl)).trans rfl
      simp only [execOp, h1]
      simp [go_sem]
    · refine pstep_val (.int .u16 d.n) (by kernel_rfl) (by kernel_rfl) (fun t1 l1 A1 W1 inv hall hlate => ⟨wanted_none rfl, ?_, rfl⟩)
      have h1 : A1.eval (.tmp 14) = .pointer (some ⟨w.heap.size, 3, none⟩) := inv.get hall 11 14 (by kernel_rfl) (by kernel_rfl)
      obtain ⟨c0, c1, c2, c3⟩ := inv.s.1
      simp only [execOp, h1]
      simp [go_sem, c3]
    · refine pstep_val (.int .u64 d.n) (by kernel_rfl) (by kernel_rfl) (fun t1 l1 A1 W1 inv hall hlate => ⟨wanted_none rfl, ?_, rfl⟩)
      have h1 : A1.eval (.tmp 15) = .int .u16 d.n := inv.get hall 12 15 (by kernel_rfl) (by kernel_rfl)
      simp only [execOp, h1]
      simp [go_sem, Try.underlying26, Try.underlying54, wn]
    · refine pstep_call 3 75 (by kernel_rfl) _ _ (by kernel_rfl) rfl rfl (fun l1 A1 W1 inv hall => ⟨wanted_none rfl, #[A1.eval (.tmp 13), .int .u64 d.n, .int .i64 2], ?_, ?_⟩)
      · have h1 : A1.eval (.tmp 16) = .int .u64 d.n := inv.get hall 13 16 (by kernel_rfl) (by kernel_rfl)
        simp only [List.map_toArray, List.map_cons, List.map_nil, h1, eval_c]
      · have hp : OwnB W1 (w.heap.size + 1) (A1.eval (.tmp 13)) (leB 8 d.a ++ leB 4 d.l ++ leB 2 d.f) := (inv.get hall 10 13 (by kernel_rfl) (by kernel_rfl) : 3 = 2 + 1 → _) rfl
        refine (rput_2 _ (w.heap.size + 1) (leB 8 d.a ++ leB 4 d.l ++ leB 2 d.f) d.n W1 hp inv.s.2.2.1 (by simp [leB_length]) ⟨n0, by omega⟩).mono ?_
        rintro e W2 ⟨v', rfl, ho, hb⟩
        exact ⟨v', rfl, fun _ => by rw [HF.out] at ho; exact ho, inv.s.keep hb (by omega)⟩
    · refine pstep_run 4 (by kernel_rfl) rfl (fun l1 A1 W1 inv hall => ⟨wanted_none rfl, A1.eval (.tmp 17), W1, by simp only [execOp, Sem.run_pure], fun _ => ?_, inv.s⟩)
      exact (inv.get hall 14 17 (by kernel_rfl) (by kernel_rfl) : 4 = 3 + 1 → _) rfl
  · intro t1 l1 A1 W1 inv hall
    have ht : 5 ≤ t1 := (inv.phase 4 15 rfl).1 (hall 15 (Nat.lt_of_lt_of_eq (by decide : 15 < 16) (by kernel_rfl)))
    have ht2 : t1 = 5 := Nat.le_antisymm inv.tle ht
    subst ht2
    have hlast : OwnB W1 (w.heap.size + 1) (A1.eval (.tmp 2)) (dB d) := (inv.fin 15 2 (by kernel_rfl) (hall 15 (Nat.lt_of_lt_of_eq (by decide : 15 < 16) (by kernel_rfl))) : 5 = 4 + 1 → _) rfl
    refine (by assumption : ∀ (a : Act) (w : World), Code.wp Try.prog Code.ret _ a w → _) A1 W1 ?_
    go_wp2_with fail
    simp only [Act.eval, Array.getD_eq_getD_getElem?] at hlast
    exact bodyPost_ret (v := A1.tmps[2]?.getD undef) (by simp [results, Try.results49, go_sem]) inv.dfr ⟨_, rfl, hlast, inv.s.2.2.2⟩
end Go.Proofs.Ytfjccpalkdmniaa
