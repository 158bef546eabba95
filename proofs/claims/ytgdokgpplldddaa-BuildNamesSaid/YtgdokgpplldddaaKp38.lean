/- Rd5 Rd2: joined texts. Conditions: as each theorem names them. -/
import Derived.Test.YtgdokgpplldddaaKp37
import Derived.Test.YtgdokgpplldddaaKp27
/- The reference of layer 3: Table, ReadTable. Conditions: as each theorem names them. -/
namespace Go.Proofs.Ytgdokgpplldddaa
open Go.ChangeShapes Go.WideShapes Go.ChangeAt Go.RowKit
set_option linter.unusedVariables false
set_option maxRecDepth 100000

theorem ownsRow_below {w w' : World} {B : Nat} {e : TypeId} {size n : Nat} {v : Value} {xs : List Value} (h : w.ownsRow B e size v n xs) (hb : Below w.heap.size w w') : w'.ownsRow B e size v n xs := by
  refine ⟨h.1, ?_⟩
  rcases h.2 with h2 | ⟨g, cap, cur, h1, h2, h3, h4⟩
  · exact Or.inl h2
  · exact Or.inr ⟨g, cap, cur, h1, h2, keepB hb h3, h4⟩

/-! ## ReadTable -/
theorem dCs_append : ∀ (a b : List Dsc), dCs (a ++ b) = dCs a ++ dCs b
  | [], _ => rfl
  | d :: a, b => by simp [dCs, dCs_append a b]
theorem dCs_one : ∀ (L : List Dsc), ∀ u ∈ dCs L, u.oneCell' = true
  | [], u, h => by cases h
  | d :: L, u, h => by
    simp only [dCs, List.mem_cons] at h
    rcases h with rfl | rfl | rfl | rfl | h
    · rfl
    · rfl
    · rfl
    · rfl
    · exact dCs_one L u h
theorem descs_of {B : Nat} {w : World} {v : Value} {L : List Dsc} (h : w.ownsRow B 38 4 v L.length (dCs L)) : DescsAt w v L := by
  rcases h.2 with ⟨rfl, h0⟩ | ⟨g, cap, cur, rfl, hg, hh, hn, hm, hs, ht⟩
  · exact Or.inl ⟨⟨none, 0, rfl, fun _ => rfl⟩, List.length_eq_zero_iff.1 h0⟩
  · refine Or.inr ⟨g, 0, cap, rfl, lt_blk hh, hn, fun j hj => ?_⟩
    have hcell : ∀ i u, (dCs L)[i]? = some u → w.cell? ⟨g, i, none⟩ = some u := fun i u hu => by
      rw [cell_of_row w g i _ _ _ hh, ← hu, ← ht]
      have hi : i < L.length * 4 := by
        have := (List.getElem?_eq_some_iff.1 hu).1
        rw [dCs_length] at this
        exact this
      rw [List.getElem?_take, if_pos hi]
      simp
    obtain ⟨h0, h1, h2, h3⟩ := dCs_at L j hj
    rw [Nat.zero_add]
    exact ⟨hcell _ _ h0, hcell _ _ h1, hcell _ _ h2, hcell _ _ h3⟩

set_option maxHeartbeats 1000000 in
theorem rreadTable_at (b o c n : Nat) (l : List Int) (w : World) (hB : isBytes l) (hl : l.length = 16 * n) (hn : n ≤ 400) (hb : b < w.heap.size) (hcap : 16 * n ≤ c) (hc : ∀ j, j < l.length → w.cell? ⟨b, o + j, none⟩ = some (.int .u8 (l.getD j 0))) :
    Calls Try.prog 27 #[.slice (some ⟨b, o, none⟩) (16 * n) c] w fun e w' => ∃ v, e = .returned (.tuple #[v, .int .i64 0]) ∧ DescsAt w' v (rdT n l) ∧ Below w.heap.size w w' := by
  obtain ⟨i0, hi, hz0, hz1, hz2⟩ := info_parts rowDesc
  have HI := hid_mk hi
  have HZ := hid_mk (And.intro hz0 (And.intro hz1 hz2))
  have HC := hid_mk hc
  have HBY := hid_mk hB
  have hni : (n : Int) ≤ 400 := by omega
  clear hi hz0 hz1 hz2 hc hB
  go_enter Try.func27, Try.ntmps27
  go_wp2_with fail
  go_loopw [4, 5, 6, 7] (fun s i _ _ wr => ∃ k : Nat, k ≤ n ∧ i = .int .i64 (16 * (k : Int)) ∧ Hid (wr.ownsRow w.heap.size 38 4 s k (dCs ((rdT n l).take k))) ∧ Below w.heap.size w wr) (fun _ i _ _ _ => 16 * n - (intOf i).toNat)
  case atStart => exact ⟨0, Nat.zero_le _, rfl, hid_mk (World.ownsRow_nil _ _ _ _), Below.refl _ _⟩
  case round =>
    obtain ⟨k, hk, rfl, hO, hbel⟩ := hrel
    by_cases hlt : k < n
    · obtain ⟨C, hCdef⟩ : ∃ C, C = (l.drop (16 * k)).take 16 := ⟨_, rfl⟩
      have hCl : C.length = 16 := by subst hCdef; simp; omega
      have hCB : isBytes C := by subst hCdef; exact isBytes_take (isBytes_drop HBY.out _) _
      have hrd := rdread_at b (o + 16 * k) (c - 16 * k) C wr hCB hCl (by have := hbel.size; omega) (fun j hj => by
        rw [hbel.cell (p := ⟨b, o + 16 * k + j, none⟩) hb, Nat.add_assoc, HC.out (16 * k + j) (by omega)]
        subst hCdef
        congr 2
        simp only [List.getD_eq_getElem?_getD, List.getElem?_take, List.getElem?_drop]
        rw [if_pos (by omega)])
      have hstep : dCs ((rdT n l).take (k + 1)) = dCs ((rdT n l).take k) ++ dC (dR C) := by
        rw [List.take_succ_eq_append_getElem (by rw [rdT_length]; exact hlt), dCs_append]
        subst hCdef
        simp [rdT, dCs]
      have hlt16 : 16 * (k : Int) < 16 * (n : Int) := by omega
      have hw16 : IntKind.i64.wrap (16 * (k : Int) + 16) = 16 * (k : Int) + 16 := IntWalk.i64_in _ (by omega)
      have hle16 : 16 * (k : Int) + 16 ≤ 16 * (n : Int) := by omega
      have hz := hbel.size
      have HRD := hid_mk hrd
      have HST := hid_mk hstep
      have HB := hid_mk hbel
      clear hrd hstep hbel hCl hCB
      go_wp2_with fail
      refine HRD.out.mono ?_
      rintro e w1 ⟨rfl, hb2⟩
      have hz1 := hb2.size
      obtain ⟨dd, hdd⟩ : ∃ dd, dd = dR C := ⟨_, rfl⟩
      rw [← hdd]
      have hra : ∃ v' w2, (∀ ty, (Builtin.append_ #[59, 59] ty #[u4, .slice (some ⟨w1.heap.size + 1, 0, none⟩) 1 1]).run Try.prog ((w1.alloc (.cells (dC dd).toArray 38)).alloc (.cells (dC dd).toArray 38)) = .ok v' w2) ∧ Hid (w2.ownsRow w.heap.size 38 4 v' (k + 1) (dCs ((rdT n l).take (k + 1)))) ∧ Below w.heap.size w w2 := by
        have ho1 := ((ownsRow_below hO.out hb2).alloc (.cells (dC dd).toArray 38)).alloc (.cells (dC dd).toArray 38)
        obtain ⟨v', w2, h1, h2, h3, _⟩ := run_append_own (P := Try.prog) _ w.heap.size 59 59 38 i0 _ 4 16 Try.underlying59 HI.out HZ.out.1 HZ.out.2.1 HZ.out.2.2 rfl (by decide) u4 _ _ ho1 ⟨w1.heap.size + 1, 0, none⟩ 1 1 (dC dd) rfl (fun j u hu => by
          rw [show (⟨w1.heap.size + 1, 0, none⟩ : Addr).add j = ⟨w1.heap.size + 1, j, none⟩ from by unfold Addr.add; split <;> simp_all, cellK (heap_alloc_at _ _ _ (sizeA _ _)) j]
          exact hu) (by
          intro u hu
          simp only [List.mem_cons, List.not_mem_nil, or_false] at hu
          rcases hu with rfl | rfl | rfl | rfl <;> rfl) (by simp [maxLen]; omega) (by omega) (by rw [sizeA, sizeA]; omega)
        refine ⟨v', w2, fun ty => h1, hid_mk ?_, ?_⟩
        · rw [HST.out, ← hdd]
          exact h2
        · have hq : Below w.heap.size w ((w1.alloc (.cells (dC dd).toArray 38)).alloc (.cells (dC dd).toArray 38)) := ((HB.out.trans (hb2.mono hz)).alloc (by omega) _).alloc (by rw [sizeA]; omega) _
          exact hq.trans (grown_below h3 (by rw [sizeA, sizeA]; omega) (fun q hq => (ho1.lt q hq).1))
      obtain ⟨v', w2, h1, h2, h3⟩ := hra
      have HR := hid_mk h1
      have HB2 := hid_mk h3
      clear h1 h3 hb2 hz1 hz hdd
      go_wp2_with (at_builtin; refine wpList_append_run (v := u4) (u := .slice (some ⟨w1.heap.size + 1, 0, none⟩) 1 1) (v' := v') (w' := w2) rfl (.tmp 27) (.tmp 29) 59 rfl (by first | rfl | go_simp) (by first | rfl | go_simp) (HR.out _) ?_)
      go_roundw
      case rel => exact ⟨k + 1, by omega, by go_num, h2, HB2.out⟩
      case measure => simp [intOf] <;> omega
    · obtain rfl : k = n := by omega
      go_wp2_with fail
      go_ret2
      refine ⟨_, rfl, ?_, hbel⟩
      have := hO.out
      rw [List.take_of_length_le (by rw [rdT_length]; exact Nat.le_refl _)] at this
      exact descs_of (by rw [rdT_length]; exact this)

theorem rreadTable_nil (a : Option Addr) (c : Nat) (w : World) :
    Calls Try.prog 27 #[.slice a 0 c] w fun e w' => e = .returned (.tuple #[.slice none 0 0, .int .i64 0]) ∧ w = w' := by
  go_enter Try.func27, Try.ntmps27
  go_wp2_with fail
  go_loop [4, 5, 6, 7] (fun s i _ _ => s = .slice none 0 0 ∧ i = .int .i64 0) (fun _ _ _ _ => 0)
  case atStart => exact ⟨rfl, rfl⟩
  case round =>
    obtain ⟨rfl, rfl⟩ := hrel
    go_wp2_with fail
    go_ret2
    exact ⟨rfl, rfl⟩
theorem rreadTable_no (a : Option Addr) (n c : Nat) (w : World) (hn : n % 16 ≠ 0) (hm : n ≤ 100000) :
    Calls Try.prog 27 #[.slice a n c] w fun e w' => e = .returned (.tuple #[.slice none 0 0, .int .i64 4]) ∧ w = w' := by
  have h0 : (0 : Int) ≤ (n : Int) := by omega
  have h1 : (n : Int) ≤ 100000 := by omega
  have h2 : ((n : Int) % 16 != 0) = true := by simp; omega
  have h3 : ((n : Int).tmod 16 != 0) = true := by rw [Int.tmod_eq_emod_of_nonneg h0]; exact h2
  go_enter Try.func27, Try.ntmps27
  go_wp2_with fail
  go_ret2
  exact ⟨rfl, rfl⟩
theorem rreadTable_any (v : Value) (l : List Int) (w : World) (hv : BytesAt w v l) (hB : isBytes l) (hm : l.length ≤ 5000) :
    Calls Try.prog 27 #[v] w fun e w' => ∃ v', e = .returned (.tuple #[v', .int .i64 (rtE l)]) ∧ DescsAt w' v' (rtD l) ∧ Below w.heap.size w w' := by
  rcases hv with ⟨⟨a, c, rfl, _⟩, rfl⟩ | ⟨b, o, c, rfl, h1, h2, h3⟩
  · refine (rreadTable_nil a c w).mono ?_
    rintro e w' ⟨rfl, rfl⟩
    exact ⟨_, rfl, Or.inl ⟨⟨none, 0, rfl, fun _ => rfl⟩, rfl⟩, Below.refl _ _⟩
  · by_cases h : l.length % 16 = 0
    · have hl : l.length = 16 * (l.length / 16) := by omega
      have hE : rtE l = 0 := by simp [rtE, h]
      have hD : rtD l = rdT (l.length / 16) l := by simp [rtD, h]
      rw [hE, hD]
      have hr := rreadTable_at b o c (l.length / 16) l w hB hl (by omega) h1 (by omega) h3
      rw [← hl] at hr
      exact hr
    · have hE : rtE l = 4 := by simp [rtE, h]
      have hD : rtD l = [] := by simp [rtD, h]
      rw [hE, hD]
      refine (rreadTable_no (some ⟨b, o, none⟩) l.length c w h (by omega)).mono ?_
      rintro e w' ⟨rfl, rfl⟩
      exact ⟨_, rfl, Or.inl ⟨⟨none, 0, rfl, fun _ => rfl⟩, rfl⟩, Below.refl _ _⟩
end Go.Proofs.Ytgdokgpplldddaa

/- The reference of layer 3: Bytes, PackedBytes. Conditions: as each theorem names them. -/
namespace Go.Proofs.Ytgdokgpplldddaa
open Go.ChangeShapes Go.WideShapes Go.ChangeAt Go.RowKit
set_option linter.unusedVariables false
set_option maxRecDepth 100000

theorem rput_nil (B : Nat) (x : Int) (w : World) (hB : B ≤ w.heap.size) (hx : 0 ≤ x ∧ x < 18446744073709551616) :
    Calls Try.prog 72 #[.slice none 0 0, .int .u64 x, .int .i64 8] w fun e w' => ∃ v', e = .returned v' ∧ OwnB w' B v' (leB 8 x) ∧ Below B w w' :=
  rput_any (.slice none 0 0) B [] x 8 w (World.ownsRow_nil _ _ _ _) hB (by simp) (by omega) hx
theorem rput_4 (v : Value) (B : Nat) (l : List Int) (x : Int) (w : World) (ho : OwnB w B v l) (hB : B ≤ w.heap.size) (hl : l.length ≤ 1000) (hx : 0 ≤ x ∧ x < 18446744073709551616) :
    Calls Try.prog 72 #[v, .int .u64 x, .int .i64 4] w fun e w' => ∃ v', e = .returned v' ∧ OwnB w' B v' (l ++ leB 4 x) ∧ Below B w w' :=
  rput_any v B l x 4 w ho hB (by omega) (by omega) hx
theorem rput_2 (v : Value) (B : Nat) (l : List Int) (x : Int) (w : World) (ho : OwnB w B v l) (hB : B ≤ w.heap.size) (hl : l.length ≤ 1000) (hx : 0 ≤ x ∧ x < 18446744073709551616) :
    Calls Try.prog 72 #[v, .int .u64 x, .int .i64 2] w fun e w' => ∃ v', e = .returned v' ∧ OwnB w' B v' (l ++ leB 2 x) ∧ Below B w w' :=
  rput_any v B l x 2 w ho hB (by omega) (by omega) hx



/-- what the region's loads read, and how far the heap has come -/
def SB (B b : Nat) (d : Dsc) (w0 W : World) : Prop := at4 W b 0 d ∧ b < B ∧ B ≤ W.heap.size ∧ Below w0.heap.size w0 W
theorem SB.keep {B b : Nat} {d : Dsc} {w0 W W' : World} (h : SB B b d w0 W) (hb : Below B W W') (hle : w0.heap.size ≤ B) : SB B b d w0 W' := ⟨h.1.below hb h.2.1, h.2.1, Nat.le_trans h.2.2.1 hb.size, h.2.2.2.trans (hb.mono hle)⟩
theorem eval_c (a : Act) (v : Value) : a.eval (.const v) = v := rfl

set_option maxHeartbeats 4000000 in
theorem rbytes_any (d : Dsc) (w : World) (hd : isDsc d) :
    Calls Try.prog 49 #[dV d] w fun e w' => ∃ v, e = .returned v ∧ OwnB w' (w.heap.size + 1) v (dB d) ∧ Below w.heap.size w w' := by
  obtain ⟨a0, a1⟩ := hd.a
  obtain ⟨l0, l1⟩ := hd.l
  obtain ⟨f0, f1⟩ := hd.f
  obtain ⟨n0, n1⟩ := hd.n
  have wl : IntKind.u64.wrap d.l = d.l := by rw [IntKind.wrap_u64]; omega
  have wf : IntKind.u64.wrap d.f = d.f := by rw [IntKind.wrap_u64]; omega
  have wn : IntKind.u64.wrap d.n = d.n := by rw [IntKind.wrap_u64]; omega
  have hfin : (((leB 8 d.a ++ leB 4 d.l) ++ leB 2 d.f) ++ leB 2 d.n) = dB d := by simp [dB]
  have HF := hid_mk hfin
  have HS := hid_mk (show SB (w.heap.size + 1) w.heap.size d w (w.alloc (.cells (dC d).toArray 38)).drew from ⟨⟨by simp [go_sem], by simp [go_sem], by simp [go_sem], by simp [go_sem]⟩, by omega, by show _ ≤ (w.alloc _).heap.size; rw [sizeA]; omega, ((Below.refl _ _).alloc (Nat.le_refl _) _).drew⟩)
  clear hd hfin
  go_enter Try.func49, Try.ntmps49
  go_wp2_with fail
  refine wp_region_phases [2, 6, 10, 14, 15]
    [.eq (.pointer (some ⟨w.heap.size, 0, none⟩)), .eq (.int .u64 d.a), .nxt 0 (fun v W => OwnB W (w.heap.size + 1) v (leB 8 d.a)),
     .eq (.pointer (some ⟨w.heap.size, 1, none⟩)), .eq (.int .u32 d.l), .eq (.int .u64 d.l), .nxt 1 (fun v W => OwnB W (w.heap.size + 1) v (leB 8 d.a ++ leB 4 d.l)),
     .eq (.pointer (some ⟨w.heap.size, 2, none⟩)), .eq (.int .u16 d.f), .eq (.int .u64 d.f), .nxt 2 (fun v W => OwnB W (w.heap.size + 1) v (leB 8 d.a ++ leB 4 d.l ++ leB 2 d.f)),
     .eq (.pointer (some ⟨w.heap.size, 3, none⟩)), .eq (.int .u16 d.n), .eq (.int .u64 d.n), .nxt 3 (fun v W => OwnB W (w.heap.size + 1) v (dB d)), .nxt 4 (fun v W => OwnB W (w.heap.size + 1) v (dB d))]
    (fun _ W => SB (w.heap.size + 1) w.heap.size d w W) (by kernel_rfl) (by kernel_rfl) (by kernel_rfl) HS.out ?_ ?_
  · refine And.intro ?_ (And.intro ?_ (And.intro ?_ (And.intro ?_ (And.intro ?_ (And.intro ?_ (And.intro ?_ (And.intro ?_ (And.intro ?_ (And.intro ?_ (And.intro ?_ (And.intro ?_ (And.intro ?_ (And.intro ?_ (And.intro ?_ (And.intro ?_ (True.intro))))))))))))))))
    · refine pstep_val (.pointer (some ⟨w.heap.size, 0, none⟩)) (by kernel_rfl) (by kernel_rfl) (fun t1 l1 A1 W1 inv hall hlate => ⟨wanted_none rfl, ?_, rfl⟩)
      have h1 : A1.eval (.tmp 1) = .pointer (some ⟨w.heap.size, 0, none⟩) := (inv.base 1 (by kernel_rfl)).trans rfl
      simp only [execOp, h1]
      simp [go_sem]
    · refine pstep_val (.int .u64 d.a) (by kernel_rfl) (by kernel_rfl) (fun t1 l1 A1 W1 inv hall hlate => ⟨wanted_none rfl, ?_, rfl⟩)
      have h1 : A1.eval (.tmp 3) = .pointer (some ⟨w.heap.size, 0, none⟩) := inv.get hall 0 3 (by kernel_rfl) (by kernel_rfl)
      obtain ⟨c0, c1, c2, c3⟩ := inv.s.1
      simp only [execOp, h1]
      simp [go_sem, c0]
    · refine pstep_call 0 72 (by kernel_rfl) _ _ (by kernel_rfl) rfl rfl (fun l1 A1 W1 inv hall => ⟨wanted_none rfl, #[.slice none 0 0, .int .u64 d.a, .int .i64 8], ?_, ?_⟩)
      · have h1 : A1.eval (.tmp 4) = .int .u64 d.a := inv.get hall 1 4 (by kernel_rfl) (by kernel_rfl)
        simp only [List.map_toArray, List.map_cons, List.map_nil, h1, eval_c]
      · refine (rput_nil (w.heap.size + 1) d.a W1 inv.s.2.2.1 ⟨a0, a1⟩).mono ?_
        rintro e W2 ⟨v', rfl, ho, hb⟩
        exact ⟨v', rfl, fun _ => ho, inv.s.keep hb (by omega)⟩
    · refine pstep_val (.pointer (some ⟨w.heap.size, 1, none⟩)) (by kernel_rfl) (by kernel_rfl) (fun t1 l1 A1 W1 inv hall hlate => ⟨wanted_none rfl, ?_, rfl⟩)
      have h1 : A1.eval (.tmp 1) = .pointer (some ⟨w.heap.size, 0, none⟩) := (inv.base 1 (by kernel_rfl)).trans rfl
      simp only [execOp, h1]
      simp [go_sem]
    · refine pstep_val (.int .u32 d.l) (by kernel_rfl) (by kernel_rfl) (fun t1 l1 A1 W1 inv hall hlate => ⟨wanted_none rfl, ?_, rfl⟩)
      have h1 : A1.eval (.tmp 6) = .pointer (some ⟨w.heap.size, 1, none⟩) := inv.get hall 3 6 (by kernel_rfl) (by kernel_rfl)
      obtain ⟨c0, c1, c2, c3⟩ := inv.s.1
      simp only [execOp, h1]
      simp [go_sem, c1]
    · refine pstep_val (.int .u64 d.l) (by kernel_rfl) (by kernel_rfl) (fun t1 l1 A1 W1 inv hall hlate => ⟨wanted_none rfl, ?_, rfl⟩)
      have h1 : A1.eval (.tmp 7) = .int .u32 d.l := inv.get hall 4 7 (by kernel_rfl) (by kernel_rfl)
      simp only [execOp, h1]
      simp [go_sem, Try.underlying34, Try.underlying35, wl]
    · refine pstep_call 1 72 (by kernel_rfl) _ _ (by kernel_rfl) rfl rfl (fun l1 A1 W1 inv hall => ⟨wanted_none rfl, #[A1.eval (.tmp 5), .int .u64 d.l, .int .i64 4], ?_, ?_⟩)
      · have h1 : A1.eval (.tmp 8) = .int .u64 d.l := inv.get hall 5 8 (by kernel_rfl) (by kernel_rfl)
        simp only [List.map_toArray, List.map_cons, List.map_nil, h1, eval_c]
      · have hp : OwnB W1 (w.heap.size + 1) (A1.eval (.tmp 5)) (leB 8 d.a) := (inv.get hall 2 5 (by kernel_rfl) (by kernel_rfl) : 1 = 0 + 1 → _) rfl
        refine (rput_4 _ (w.heap.size + 1) (leB 8 d.a) d.l W1 hp inv.s.2.2.1 (by simp [leB_length]) ⟨l0, by omega⟩).mono ?_
        rintro e W2 ⟨v', rfl, ho, hb⟩
        exact ⟨v', rfl, fun _ => ho, inv.s.keep hb (by omega)⟩
    · refine pstep_val (.pointer (some ⟨w.heap.size, 2, none⟩)) (by kernel_rfl) (by kernel_rfl) (fun t1 l1 A1 W1 inv hall hlate => ⟨wanted_none rfl, ?_, rfl⟩)
      have h1 : A1.eval (.tmp 1) = .pointer (some ⟨w.heap.size, 0, none⟩) := (inv.base 1 (by kernel_rfl)).trans rfl
      simp only [execOp, h1]
      simp [go_sem]
    · refine pstep_val (.int .u16 d.f) (by kernel_rfl) (by kernel_rfl) (fun t1 l1 A1 W1 inv hall hlate => ⟨wanted_none rfl, ?_, rfl⟩)
      have h1 : A1.eval (.tmp 10) = .pointer (some ⟨w.heap.size, 2, none⟩) := inv.get hall 7 10 (by kernel_rfl) (by kernel_rfl)
      obtain ⟨c0, c1, c2, c3⟩ := inv.s.1
      simp only [execOp, h1]
      simp [go_sem, c2]
    · refine pstep_val (.int .u64 d.f) (by kernel_rfl) (by kernel_rfl) (fun t1 l1 A1 W1 inv hall hlate => ⟨wanted_none rfl, ?_, rfl⟩)
      have h1 : A1.eval (.tmp 11) = .int .u16 d.f := inv.get hall 8 11 (by kernel_rfl) (by kernel_rfl)
      simp only [execOp, h1]
      simp [go_sem, Try.underlying34, Try.underlying36, wf]
    · refine pstep_call 2 72 (by kernel_rfl) _ _ (by kernel_rfl) rfl rfl (fun l1 A1 W1 inv hall => ⟨wanted_none rfl, #[A1.eval (.tmp 9), .int .u64 d.f, .int .i64 2], ?_, ?_⟩)
      · have h1 : A1.eval (.tmp 12) = .int .u64 d.f := inv.get hall 9 12 (by kernel_rfl) (by kernel_rfl)
        simp only [List.map_toArray, List.map_cons, List.map_nil, h1, eval_c]
      · have hp : OwnB W1 (w.heap.size + 1) (A1.eval (.tmp 9)) (leB 8 d.a ++ leB 4 d.l) := (inv.get hall 6 9 (by kernel_rfl) (by kernel_rfl) : 2 = 1 + 1 → _) rfl
        refine (rput_2 _ (w.heap.size + 1) (leB 8 d.a ++ leB 4 d.l) d.f W1 hp inv.s.2.2.1 (by simp [leB_length]) ⟨f0, by omega⟩).mono ?_
        rintro e W2 ⟨v', rfl, ho, hb⟩
        exact ⟨v', rfl, fun _ => ho, inv.s.keep hb (by omega)⟩
    · refine pstep_val (.pointer (some ⟨w.heap.size, 3, none⟩)) (by kernel_rfl) (by kernel_rfl) (fun t1 l1 A1 W1 inv hall hlate => ⟨wanted_none rfl, ?_, rfl⟩)
      have h1 : A1.eval (.tmp 1) = .pointer (some ⟨w.heap.size, 0, none⟩) := (inv.base 1 (by kernel_rfl)).trans rfl
      simp only [execOp, h1]
      simp [go_sem]
    · refine pstep_val (.int .u16 d.n) (by kernel_rfl) (by kernel_rfl) (fun t1 l1 A1 W1 inv hall hlate => ⟨wanted_none rfl, ?_, rfl⟩)
      have h1 : A1.eval (.tmp 14) = .pointer (some ⟨w.heap.size, 3, none⟩) := inv.get hall 11 14 (by kernel_rfl) (by kernel_rfl)
      obtain ⟨c0, c1, c2, c3⟩ := inv.s.1
      simp only [execOp, h1]
      simp [go_sem, c3]
    · refine pstep_val (.int .u64 d.n) (by kernel_rfl) (by kernel_rfl) (fun t1 l1 A1 W1 inv hall hlate => ⟨wanted_none rfl, ?_, rfl⟩)
      have h1 : A1.eval (.tmp 15) = .int .u16 d.n := inv.get hall 12 15 (by kernel_rfl) (by kernel_rfl)
      simp only [execOp, h1]
      simp [go_sem, Try.underlying34, Try.underlying36, wn]
    · refine pstep_call 3 72 (by kernel_rfl) _ _ (by kernel_rfl) rfl rfl (fun l1 A1 W1 inv hall => ⟨wanted_none rfl, #[A1.eval (.tmp 13), .int .u64 d.n, .int .i64 2], ?_, ?_⟩)
      · have h1 : A1.eval (.tmp 16) = .int .u64 d.n := inv.get hall 13 16 (by kernel_rfl) (by kernel_rfl)
        simp only [List.map_toArray, List.map_cons, List.map_nil, h1, eval_c]
      · have hp : OwnB W1 (w.heap.size + 1) (A1.eval (.tmp 13)) (leB 8 d.a ++ leB 4 d.l ++ leB 2 d.f) := (inv.get hall 10 13 (by kernel_rfl) (by kernel_rfl) : 3 = 2 + 1 → _) rfl
        refine (rput_2 _ (w.heap.size + 1) (leB 8 d.a ++ leB 4 d.l ++ leB 2 d.f) d.n W1 hp inv.s.2.2.1 (by simp [leB_length]) ⟨n0, by omega⟩).mono ?_
        rintro e W2 ⟨v', rfl, ho, hb⟩
        exact ⟨v', rfl, fun _ => by rw [HF.out] at ho; exact ho, inv.s.keep hb (by omega)⟩
    · refine pstep_run 4 (by kernel_rfl) rfl (fun l1 A1 W1 inv hall => ⟨wanted_none rfl, A1.eval (.tmp 17), W1, by simp only [execOp, Sem.run_pure], fun _ => ?_, inv.s⟩)
      exact (inv.get hall 14 17 (by kernel_rfl) (by kernel_rfl) : 4 = 3 + 1 → _) rfl
  · intro t1 l1 A1 W1 inv hall
    have ht : 5 ≤ t1 := (inv.phase 4 15 rfl).1 (hall 15 (Nat.lt_of_lt_of_eq (by decide : 15 < 16) (by kernel_rfl)))
    have ht2 : t1 = 5 := Nat.le_antisymm inv.tle ht
    subst ht2
    have hlast : OwnB W1 (w.heap.size + 1) (A1.eval (.tmp 2)) (dB d) := (inv.fin 15 2 (by kernel_rfl) (hall 15 (Nat.lt_of_lt_of_eq (by decide : 15 < 16) (by kernel_rfl))) : 5 = 4 + 1 → _) rfl
    refine (by assumption : ∀ (a : Act) (w : World), Code.wp Try.prog Code.ret _ a w → _) A1 W1 ?_
    go_wp2_with fail
    simp only [Act.eval, Array.getD_eq_getD_getElem?] at hlast
    exact bodyPost_ret (v := A1.tmps[2]?.getD undef) (by simp [results, Try.results49, go_sem]) inv.dfr ⟨_, rfl, hlast, inv.s.2.2.2⟩

set_option maxHeartbeats 4000000 in
theorem rpbytes_any (d : Dsc) (w : World) (hd : isDsc d) :
    Calls Try.prog 52 #[dV d] w fun e w' => ∃ v, e = .returned v ∧ OwnB w' (w.heap.size + 1) v (dB d) ∧ Below w.heap.size w w' := by
  obtain ⟨a0, a1⟩ := hd.a
  obtain ⟨l0, l1⟩ := hd.l
  obtain ⟨f0, f1⟩ := hd.f
  obtain ⟨n0, n1⟩ := hd.n
  have wl : IntKind.u64.wrap d.l = d.l := by rw [IntKind.wrap_u64]; omega
  have wf : IntKind.u64.wrap d.f = d.f := by rw [IntKind.wrap_u64]; omega
  have wn : IntKind.u64.wrap d.n = d.n := by rw [IntKind.wrap_u64]; omega
  have hfin : (((leB 8 d.a ++ leB 4 d.l) ++ leB 2 d.f) ++ leB 2 d.n) = dB d := by simp [dB]
  have HF := hid_mk hfin
  have HS := hid_mk (show SB (w.heap.size + 1) w.heap.size d w (w.alloc (.cells (dC d).toArray 44)).drew from ⟨⟨by simp [go_sem], by simp [go_sem], by simp [go_sem], by simp [go_sem]⟩, by omega, by show _ ≤ (w.alloc _).heap.size; rw [sizeA]; omega, ((Below.refl _ _).alloc (Nat.le_refl _) _).drew⟩)
  clear hd hfin
  go_enter Try.func52, Try.ntmps52
  go_wp2_with fail
  refine wp_region_phases [2, 6, 10, 14, 15]
    [.eq (.pointer (some ⟨w.heap.size, 0, none⟩)), .eq (.int .u64 d.a), .nxt 0 (fun v W => OwnB W (w.heap.size + 1) v (leB 8 d.a)),
     .eq (.pointer (some ⟨w.heap.size, 1, none⟩)), .eq (.int .u32 d.l), .eq (.int .u64 d.l), .nxt 1 (fun v W => OwnB W (w.heap.size + 1) v (leB 8 d.a ++ leB 4 d.l)),
     .eq (.pointer (some ⟨w.heap.size, 2, none⟩)), .eq (.int .u16 d.f), .eq (.int .u64 d.f), .nxt 2 (fun v W => OwnB W (w.heap.size + 1) v (leB 8 d.a ++ leB 4 d.l ++ leB 2 d.f)),
     .eq (.pointer (some ⟨w.heap.size, 3, none⟩)), .eq (.int .u16 d.n), .eq (.int .u64 d.n), .nxt 3 (fun v W => OwnB W (w.heap.size + 1) v (dB d)), .nxt 4 (fun v W => OwnB W (w.heap.size + 1) v (dB d))]
    (fun _ W => SB (w.heap.size + 1) w.heap.size d w W) (by kernel_rfl) (by kernel_rfl) (by kernel_rfl) HS.out ?_ ?_
  · refine And.intro ?_ (And.intro ?_ (And.intro ?_ (And.intro ?_ (And.intro ?_ (And.intro ?_ (And.intro ?_ (And.intro ?_ (And.intro ?_ (And.intro ?_ (And.intro ?_ (And.intro ?_ (And.intro ?_ (And.intro ?_ (And.intro ?_ (And.intro ?_ (True.intro))))))))))))))))
    · refine pstep_val (.pointer (some ⟨w.heap.size, 0, none⟩)) (by kernel_rfl) (by kernel_rfl) (fun t1 l1 A1 W1 inv hall hlate => ⟨wanted_none rfl, ?_, rfl⟩)
      have h1 : A1.eval (.tmp 1) = .pointer (some ⟨w.heap.size, 0, none⟩) := (inv.base 1 (by kernel_rfl)).trans rfl
      simp only [execOp, h1]
      simp [go_sem]
    · refine pstep_val (.int .u64 d.a) (by kernel_rfl) (by kernel_rfl) (fun t1 l1 A1 W1 inv hall hlate => ⟨wanted_none rfl, ?_, rfl⟩)
      have h1 : A1.eval (.tmp 3) = .pointer (some ⟨w.heap.size, 0, none⟩) := inv.get hall 0 3 (by kernel_rfl) (by kernel_rfl)
      obtain ⟨c0, c1, c2, c3⟩ := inv.s.1
      simp only [execOp, h1]
      simp [go_sem, c0]
    · refine pstep_call 0 72 (by kernel_rfl) _ _ (by kernel_rfl) rfl rfl (fun l1 A1 W1 inv hall => ⟨wanted_none rfl, #[.slice none 0 0, .int .u64 d.a, .int .i64 8], ?_, ?_⟩)
      · have h1 : A1.eval (.tmp 4) = .int .u64 d.a := inv.get hall 1 4 (by kernel_rfl) (by kernel_rfl)
        simp only [List.map_toArray, List.map_cons, List.map_nil, h1, eval_c]
      · refine (rput_nil (w.heap.size + 1) d.a W1 inv.s.2.2.1 ⟨a0, a1⟩).mono ?_
        rintro e W2 ⟨v', rfl, ho, hb⟩
        exact ⟨v', rfl, fun _ => ho, inv.s.keep hb (by omega)⟩
    · refine pstep_val (.pointer (some ⟨w.heap.size, 1, none⟩)) (by kernel_rfl) (by kernel_rfl) (fun t1 l1 A1 W1 inv hall hlate => ⟨wanted_none rfl, ?_, rfl⟩)
      have h1 : A1.eval (.tmp 1) = .pointer (some ⟨w.heap.size, 0, none⟩) := (inv.base 1 (by kernel_rfl)).trans rfl
      simp only [execOp, h1]
      simp [go_sem]
    · refine pstep_val (.int .u32 d.l) (by kernel_rfl) (by kernel_rfl) (fun t1 l1 A1 W1 inv hall hlate => ⟨wanted_none rfl, ?_, rfl⟩)
      have h1 : A1.eval (.tmp 6) = .pointer (some ⟨w.heap.size, 1, none⟩) := inv.get hall 3 6 (by kernel_rfl) (by kernel_rfl)
      obtain ⟨c0, c1, c2, c3⟩ := inv.s.1
      simp only [execOp, h1]
      simp [go_sem, c1]
    · refine pstep_val (.int .u64 d.l) (by kernel_rfl) (by kernel_rfl) (fun t1 l1 A1 W1 inv hall hlate => ⟨wanted_none rfl, ?_, rfl⟩)
      have h1 : A1.eval (.tmp 7) = .int .u32 d.l := inv.get hall 4 7 (by kernel_rfl) (by kernel_rfl)
      simp only [execOp, h1]
      simp [go_sem, Try.underlying34, Try.underlying35, wl]
    · refine pstep_call 1 72 (by kernel_rfl) _ _ (by kernel_rfl) rfl rfl (fun l1 A1 W1 inv hall => ⟨wanted_none rfl, #[A1.eval (.tmp 5), .int .u64 d.l, .int .i64 4], ?_, ?_⟩)
      · have h1 : A1.eval (.tmp 8) = .int .u64 d.l := inv.get hall 5 8 (by kernel_rfl) (by kernel_rfl)
        simp only [List.map_toArray, List.map_cons, List.map_nil, h1, eval_c]
      · have hp : OwnB W1 (w.heap.size + 1) (A1.eval (.tmp 5)) (leB 8 d.a) := (inv.get hall 2 5 (by kernel_rfl) (by kernel_rfl) : 1 = 0 + 1 → _) rfl
        refine (rput_4 _ (w.heap.size + 1) (leB 8 d.a) d.l W1 hp inv.s.2.2.1 (by simp [leB_length]) ⟨l0, by omega⟩).mono ?_
        rintro e W2 ⟨v', rfl, ho, hb⟩
        exact ⟨v', rfl, fun _ => ho, inv.s.keep hb (by omega)⟩
    · refine pstep_val (.pointer (some ⟨w.heap.size, 2, none⟩)) (by kernel_rfl) (by kernel_rfl) (fun t1 l1 A1 W1 inv hall hlate => ⟨wanted_none rfl, ?_, rfl⟩)
      have h1 : A1.eval (.tmp 1) = .pointer (some ⟨w.heap.size, 0, none⟩) := (inv.base 1 (by kernel_rfl)).trans rfl
      simp only [execOp, h1]
      simp [go_sem]
    · refine pstep_val (.int .u16 d.f) (by kernel_rfl) (by kernel_rfl) (fun t1 l1 A1 W1 inv hall hlate => ⟨wanted_none rfl, ?_, rfl⟩)
      have h1 : A1.eval (.tmp 10) = .pointer (some ⟨w.heap.size, 2, none⟩) := inv.get hall 7 10 (by kernel_rfl) (by kernel_rfl)
      obtain ⟨c0, c1, c2, c3⟩ := inv.s.1
      simp only [execOp, h1]
      simp [go_sem, c2]
    · refine pstep_val (.int .u64 d.f) (by kernel_rfl) (by kernel_rfl) (fun t1 l1 A1 W1 inv hall hlate => ⟨wanted_none rfl, ?_, rfl⟩)
      have h1 : A1.eval (.tmp 11) = .int .u16 d.f := inv.get hall 8 11 (by kernel_rfl) (by kernel_rfl)
      simp only [execOp, h1]
      simp [go_sem, Try.underlying34, Try.underlying36, wf]
    · refine pstep_call 2 72 (by kernel_rfl) _ _ (by kernel_rfl) rfl rfl (fun l1 A1 W1 inv hall => ⟨wanted_none rfl, #[A1.eval (.tmp 9), .int .u64 d.f, .int .i64 2], ?_, ?_⟩)
      · have h1 : A1.eval (.tmp 12) = .int .u64 d.f := inv.get hall 9 12 (by kernel_rfl) (by kernel_rfl)
        simp only [List.map_toArray, List.map_cons, List.map_nil, h1, eval_c]
      · have hp : OwnB W1 (w.heap.size + 1) (A1.eval (.tmp 9)) (leB 8 d.a ++ leB 4 d.l) := (inv.get hall 6 9 (by kernel_rfl) (by kernel_rfl) : 2 = 1 + 1 → _) rfl
        refine (rput_2 _ (w.heap.size + 1) (leB 8 d.a ++ leB 4 d.l) d.f W1 hp inv.s.2.2.1 (by simp [leB_length]) ⟨f0, by omega⟩).mono ?_
        rintro e W2 ⟨v', rfl, ho, hb⟩
        exact ⟨v', rfl, fun _ => ho, inv.s.keep hb (by omega)⟩
    · refine pstep_val (.pointer (some ⟨w.heap.size, 3, none⟩)) (by kernel_rfl) (by kernel_rfl) (fun t1 l1 A1 W1 inv hall hlate => ⟨wanted_none rfl, ?_, rfl⟩)
      have h1 : A1.eval (.tmp 1) = .pointer (some ⟨w.heap.size, 0, none⟩) := (inv.base 1 (by kernel_rfl)).trans rfl
      simp only [execOp, h1]
      simp [go_sem]
    · refine pstep_val (.int .u16 d.n) (by kernel_rfl) (by kernel_rfl) (fun t1 l1 A1 W1 inv hall hlate => ⟨wanted_none rfl, ?_, rfl⟩)
      have h1 : A1.eval (.tmp 14) = .pointer (some ⟨w.heap.size, 3, none⟩) := inv.get hall 11 14 (by kernel_rfl) (by kernel_rfl)
      obtain ⟨c0, c1, c2, c3⟩ := inv.s.1
      simp only [execOp, h1]
      simp [go_sem, c3]
    · refine pstep_val (.int .u64 d.n) (by kernel_rfl) (by kernel_rfl) (fun t1 l1 A1 W1 inv hall hlate => ⟨wanted_none rfl, ?_, rfl⟩)
      have h1 : A1.eval (.tmp 15) = .int .u16 d.n := inv.get hall 12 15 (by kernel_rfl) (by kernel_rfl)
      simp only [execOp, h1]
      simp [go_sem, Try.underlying34, Try.underlying36, wn]
    · refine pstep_call 3 72 (by kernel_rfl) _ _ (by kernel_rfl) rfl rfl (fun l1 A1 W1 inv hall => ⟨wanted_none rfl, #[A1.eval (.tmp 13), .int .u64 d.n, .int .i64 2], ?_, ?_⟩)
      · have h1 : A1.eval (.tmp 16) = .int .u64 d.n := inv.get hall 13 16 (by kernel_rfl) (by kernel_rfl)
        simp only [List.map_toArray, List.map_cons, List.map_nil, h1, eval_c]
      · have hp : OwnB W1 (w.heap.size + 1) (A1.eval (.tmp 13)) (leB 8 d.a ++ leB 4 d.l ++ leB 2 d.f) := (inv.get hall 10 13 (by kernel_rfl) (by kernel_rfl) : 3 = 2 + 1 → _) rfl
        refine (rput_2 _ (w.heap.size + 1) (leB 8 d.a ++ leB 4 d.l ++ leB 2 d.f) d.n W1 hp inv.s.2.2.1 (by simp [leB_length]) ⟨n0, by omega⟩).mono ?_
        rintro e W2 ⟨v', rfl, ho, hb⟩
        exact ⟨v', rfl, fun _ => by rw [HF.out] at ho; exact ho, inv.s.keep hb (by omega)⟩
    · refine pstep_run 4 (by kernel_rfl) rfl (fun l1 A1 W1 inv hall => ⟨wanted_none rfl, A1.eval (.tmp 17), W1, by simp only [execOp, Sem.run_pure], fun _ => ?_, inv.s⟩)
      exact (inv.get hall 14 17 (by kernel_rfl) (by kernel_rfl) : 4 = 3 + 1 → _) rfl
  · intro t1 l1 A1 W1 inv hall
    have ht : 5 ≤ t1 := (inv.phase 4 15 rfl).1 (hall 15 (Nat.lt_of_lt_of_eq (by decide : 15 < 16) (by kernel_rfl)))
    have ht2 : t1 = 5 := Nat.le_antisymm inv.tle ht
    subst ht2
    have hlast : OwnB W1 (w.heap.size + 1) (A1.eval (.tmp 2)) (dB d) := (inv.fin 15 2 (by kernel_rfl) (hall 15 (Nat.lt_of_lt_of_eq (by decide : 15 < 16) (by kernel_rfl))) : 5 = 4 + 1 → _) rfl
    refine (by assumption : ∀ (a : Act) (w : World), Code.wp Try.prog Code.ret _ a w → _) A1 W1 ?_
    go_wp2_with fail
    simp only [Act.eval, Array.getD_eq_getD_getElem?] at hlast
    exact bodyPost_ret (v := A1.tmps[2]?.getD undef) (by simp [results, Try.results52, go_sem]) inv.dfr ⟨_, rfl, hlast, inv.s.2.2.2⟩
end Go.Proofs.Ytgdokgpplldddaa
