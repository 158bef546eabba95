/- The reference of layer 3: Table, ReadTable. Conditions: as each theorem names them. -/
import Derived.Test.YtfjccpalkdmniaaRd3
namespace Go.Proofs.Ytfjccpalkdmniaa
open Go.ChangeShapes Go.WideShapes Go.ChangeAt Go.RowKit
set_option linter.unusedVariables false
set_option maxRecDepth 100000

theorem ownsRow_below {w w' : World} {B : Nat} {e : TypeId} {size n : Nat} {v : Value} {xs : List Value} (h : w.ownsRow B e size v n xs) (hb : Below w.heap.size w w') : w'.ownsRow B e size v n xs := by
  refine ⟨h.1, ?_⟩
  rcases h.2 with h2 | ⟨g, cap, cur, h1, h2, h3, h4⟩
  · exact Or.inl h2
  · exact Or.inr ⟨g, cap, cur, h1, h2, keepB hb h3, h4⟩

set_option maxHeartbeats 1000000 in
theorem rtable_at (HRB : ∀ (d : Dsc) (w : World), isDsc d → Calls Try.prog 47 #[dV d] w fun e w' => ∃ v, e = .returned v ∧ OwnB w' (w.heap.size + 1) v (dB d) ∧ Below w.heap.size w w')
    (b o c : Nat) (L : List Dsc) (w : World) (hu : isDscs L) (h300 : L.length ≤ 300) (hb1 : b < w.heap.size) (hb3 : ∀ j, j < L.length → at4 w b (o + j * 4) (dat L j)) :
    Calls Try.prog 55 #[.slice (some ⟨b, o, none⟩) L.length c] w fun e w' => ∃ v, e = .returned v ∧ OwnB w' w.heap.size v (tabB L) ∧ Below w.heap.size w w' := by
  obtain ⟨i0, hi, hz0, hz1, hz2⟩ := info_parts rowU8
  have HI := hid_mk hi
  have HZ := hid_mk (And.intro hz0 (And.intro hz1 hz2))
  have HC := hid_mk hb3
  have HU := hid_mk hu
  have HH := hid_mk HRB
  have h300i : (L.length : Int) ≤ 300 := by omega
  clear hi hz0 hz1 hz2 hb3 hu HRB
  go_enter Try.func55, Try.ntmps55
  go_wp2_with fail
  go_loopw [3, 4] (fun s i wr => ∃ k : Nat, k ≤ L.length ∧ i = .int .i64 k ∧ Hid (OwnB wr w.heap.size s (tabB (L.take k))) ∧ Below w.heap.size w wr) (fun _ i _ => L.length - (intOf i).toNat)
  case atStart => exact ⟨0, Nat.zero_le _, rfl, hid_mk (World.ownsRow_nil _ _ _ _), Below.refl _ _⟩
  case round =>
    obtain ⟨k, hk, rfl, hO, hbel⟩ := hrel
    by_cases hlt : k < L.length
    · obtain ⟨c0, c1, c2, c3⟩ := (HC.out k hlt).below hbel hb1
      have hz := hbel.size
      have HB := hid_mk hbel
      clear hbel
      go_wp2_with fail
      clear c0 c1 c2 c3
      refine (HH.out (dat L k) wr (dat_is HU.out k)).mono ?_
      rintro e w1 ⟨v1, rfl, ho1, hb2⟩
      obtain ⟨g, cg, rfl, hg1, hg2, hg3, hg4⟩ := (newBytes_of ho1).form (by rw [dB_length]; omega)
      rw [dB_length] at hg3 hg4
      have hO1 : OwnB w1 w.heap.size u3 (tabB (L.take k)) := ownsRow_below hO.out hb2
      have hlen : (tabB (L.take k)).length = 16 * k := by rw [tabB_length, List.length_take]; omega
      have hst := tabB_step L k hlt
      have hra : ∃ v' w2, (∀ ty, (Builtin.append_ #[37, 37] ty #[u3, .slice (some ⟨g, 0, none⟩) 16 cg]).run Try.prog w1 = .ok v' w2) ∧ OwnB w2 w.heap.size v' (tabB (L.take (k + 1))) ∧ Below w.heap.size w w2 := by
        obtain ⟨v', w2, h1, h2, h3, _⟩ := run_append_own (P := Try.prog) w1 w.heap.size 37 37 5 i0 _ 1 1 Try.underlying37 HI.out HZ.out.1 HZ.out.2.1 HZ.out.2.2 rfl (by decide) u3 _ _ hO1 ⟨g, 0, none⟩ 16 cg ((dB (dat L k)).map (Value.int .u8)) (by rw [List.length_map, dB_length]) (fun j u hu => by
          have hj : j < (dB (dat L k)).length := by
            have := (List.getElem?_eq_some_iff.1 hu).1
            simpa using this
          rw [show (⟨g, 0, none⟩ : Addr).add j = ⟨g, j, none⟩ from by unfold Addr.add; split <;> simp_all, hg4 j (by rw [dB_length] at hj; exact hj)]
          simp [hj] at hu
          subst hu
          simp [List.getD, hj]) one_of (by rw [hlen]; simp [maxLen]; omega) (by rw [hlen]; omega) (Nat.le_trans hz hb2.size)
        refine ⟨v', w2, fun ty => h1, ?_, ?_⟩
        · unfold OwnB
          rw [hst, List.length_append, dB_length, List.map_append]
          exact h2
        · exact (HB.out.trans (hb2.mono hz)).trans (grown_below h3 (Nat.le_trans hz hb2.size) (fun q hq => (hO1.lt q hq).1))
      obtain ⟨v', w2, h1, h2, h3⟩ := hra
      have HR := hid_mk h1
      have HO2 := hid_mk h2
      have HB2 := hid_mk h3
      rw [dB_length]
      clear h1 h2 h3 hst hlen hO1 hg1 hg2 hg3 hg4 ho1 hb2
      go_wp2_with (at_builtin; refine wpList_append_run (v := u3) (u := .slice (some ⟨g, 0, none⟩) 16 cg) (v' := v') (w' := w2) rfl (.tmp 11) (.tmp 16) 37 rfl (by first | rfl | go_simp) (by first | rfl | go_simp) (HR.out _) ?_)
      go_roundw
      case rel => exact ⟨k + 1, by omega, by go_num, HO2, HB2.out⟩
      case measure => simp [intOf] <;> omega
    · obtain rfl : k = L.length := by omega
      go_wp2_with fail
      go_ret
      refine ⟨_, rfl, ?_, hbel⟩
      have := hO.out
      rw [List.take_of_length_le (Nat.le_refl _)] at this
      exact this
theorem rtable_nil (a : Option Addr) (c : Nat) (w : World) : Calls Try.prog 55 #[.slice a 0 c] w fun e w' => e = .returned (.slice none 0 0) ∧ w = w' := by
  go_enter Try.func55, Try.ntmps55
  go_wp2_with fail
  go_loop [3, 4] (fun s i => s = .slice none 0 0 ∧ i = .int .i64 0) (fun _ _ => 0)
  case atStart => exact ⟨rfl, rfl⟩
  case round =>
    obtain ⟨rfl, rfl⟩ := hrel
    go_wp2_with fail
    go_ret
    exact ⟨rfl, rfl⟩
theorem rtable_any (HRB : ∀ (d : Dsc) (w : World), isDsc d → Calls Try.prog 47 #[dV d] w fun e w' => ∃ v, e = .returned v ∧ OwnB w' (w.heap.size + 1) v (dB d) ∧ Below w.heap.size w w')
    (v : Value) (L : List Dsc) (w : World) (hv : DescsAt w v L) (hu : isDscs L) (h300 : L.length ≤ 300) :
    Calls Try.prog 55 #[v] w fun e w' => ∃ v', e = .returned v' ∧ OwnB w' w.heap.size v' (tabB L) ∧ Below w.heap.size w w' := by
  rcases hv with ⟨⟨a, c, rfl, _⟩, rfl⟩ | ⟨b, o, c, rfl, h1, h2, h3⟩
  · refine (rtable_nil a c w).mono ?_
    rintro e w' ⟨rfl, rfl⟩
    exact ⟨_, rfl, World.ownsRow_nil _ _ _ _, Below.refl _ _⟩
  · exact rtable_at HRB b o c L w hu h300 h1 h3

/-! ## ReadTable -/
theorem dCs_append : ∀ (a b : List Dsc), dCs (a ++ b) = dCs a ++ dCs b
  | [], _ => rfl
  | d :: a, b => by simp [dCs, dCs_append a b]
theorem dCs_one : ∀ (L : List Dsc), ∀ u ∈ dCs L, u.oneCell' = true
  | [], u, h => by cases h
  | d :: L, u, h => by
    simp only [dCs, List.mem_cons] at h
    rcases h with rfl | rfl | rfl | rfl | h
    · rfl
    · rfl
    · rfl
    · rfl
    · exact dCs_one L u h
theorem descs_of {B : Nat} {w : World} {v : Value} {L : List Dsc} (h : w.ownsRow B 56 4 v L.length (dCs L)) : DescsAt w v L := by
  rcases h.2 with ⟨rfl, h0⟩ | ⟨g, cap, cur, rfl, hg, hh, hn, hm, hs, ht⟩
  · exact Or.inl ⟨⟨none, 0, rfl, fun _ => rfl⟩, List.length_eq_zero_iff.1 h0⟩
  · refine Or.inr ⟨g, 0, cap, rfl, lt_blk hh, hn, fun j hj => ?_⟩
    have hcell : ∀ i u, (dCs L)[i]? = some u → w.cell? ⟨g, i, none⟩ = some u := fun i u hu => by
      rw [cell_of_row w g i _ _ _ hh, ← hu, ← ht]
      have hi : i < L.length * 4 := by
        have := (List.getElem?_eq_some_iff.1 hu).1
        rw [dCs_length] at this
        exact this
      rw [List.getElem?_take, if_pos hi]
      simp
    obtain ⟨h0, h1, h2, h3⟩ := dCs_at L j hj
    rw [Nat.zero_add]
    exact ⟨hcell _ _ h0, hcell _ _ h1, hcell _ _ h2, hcell _ _ h3⟩

set_option maxHeartbeats 1000000 in
theorem rreadTable_at (b o c n : Nat) (l : List Int) (w : World) (hB : isBytes l) (hl : l.length = 16 * n) (hn : n ≤ 400) (hb : b < w.heap.size) (hcap : 16 * n ≤ c) (hc : ∀ j, j < l.length → w.cell? ⟨b, o + j, none⟩ = some (.int .u8 (l.getD j 0))) :
    Calls Try.prog 42 #[.slice (some ⟨b, o, none⟩) (16 * n) c] w fun e w' => ∃ v, e = .returned (.tuple #[v, .int .i64 0]) ∧ DescsAt w' v (rdT n l) ∧ Below w.heap.size w w' := by
  obtain ⟨i0, hi, hz0, hz1, hz2⟩ := info_parts rowDesc
  have HI := hid_mk hi
  have HZ := hid_mk (And.intro hz0 (And.intro hz1 hz2))
  have HC := hid_mk hc
  have HBY := hid_mk hB
  have hni : (n : Int) ≤ 400 := by omega
  clear hi hz0 hz1 hz2 hc hB
  go_enter Try.func42, Try.ntmps42
  go_wp2_with fail
  go_loopw [4, 5, 6, 7] (fun s i _ _ wr => ∃ k : Nat, k ≤ n ∧ i = .int .i64 (16 * (k : Int)) ∧ Hid (wr.ownsRow w.heap.size 56 4 s k (dCs ((rdT n l).take k))) ∧ Below w.heap.size w wr) (fun _ i _ _ _ => 16 * n - (intOf i).toNat)
  case atStart => exact ⟨0, Nat.zero_le _, rfl, hid_mk (World.ownsRow_nil _ _ _ _), Below.refl _ _⟩
  case round =>
    obtain ⟨k, hk, rfl, hO, hbel⟩ := hrel
    by_cases hlt : k < n
    · obtain ⟨C, hCdef⟩ : ∃ C, C = (l.drop (16 * k)).take 16 := ⟨_, rfl⟩
      have hCl : C.length = 16 := by subst hCdef; simp; omega
      have hCB : isBytes C := by subst hCdef; exact isBytes_take (isBytes_drop HBY.out _) _
      have hrd := rdread_at b (o + 16 * k) (c - 16 * k) C wr hCB hCl (by have := hbel.size; omega) (fun j hj => by
        rw [hbel.cell (p := ⟨b, o + 16 * k + j, none⟩) hb, Nat.add_assoc, HC.out (16 * k + j) (by omega)]
        subst hCdef
        congr 2
        simp only [List.getD_eq_getElem?_getD, List.getElem?_take, List.getElem?_drop]
        rw [if_pos (by omega)])
      have hstep : dCs ((rdT n l).take (k + 1)) = dCs ((rdT n l).take k) ++ dC (dR C) := by
        rw [List.take_succ_eq_append_getElem (by rw [rdT_length]; exact hlt), dCs_append]
        subst hCdef
        simp [rdT, dCs]
      have hlt16 : 16 * (k : Int) < 16 * (n : Int) := by omega
      have hw16 : IntKind.i64.wrap (16 * (k : Int) + 16) = 16 * (k : Int) + 16 := IntWalk.i64_in _ (by omega)
      have hle16 : 16 * (k : Int) + 16 ≤ 16 * (n : Int) := by omega
      have hz := hbel.size
      have HRD := hid_mk hrd
      have HST := hid_mk hstep
      have HB := hid_mk hbel
      clear hrd hstep hbel hCl hCB
      go_wp2_with fail
      refine HRD.out.mono ?_
      rintro e w1 ⟨rfl, hb2⟩
      have hz1 := hb2.size
      obtain ⟨dd, hdd⟩ : ∃ dd, dd = dR C := ⟨_, rfl⟩
      rw [← hdd]
      have hra : ∃ v' w2, (∀ ty, (Builtin.append_ #[63, 63] ty #[u4, .slice (some ⟨w1.heap.size + 1, 0, none⟩) 1 1]).run Try.prog ((w1.alloc (.cells (dC dd).toArray 56)).alloc (.cells (dC dd).toArray 56)) = .ok v' w2) ∧ Hid (w2.ownsRow w.heap.size 56 4 v' (k + 1) (dCs ((rdT n l).take (k + 1)))) ∧ Below w.heap.size w w2 := by
        have ho1 := ((ownsRow_below hO.out hb2).alloc (.cells (dC dd).toArray 56)).alloc (.cells (dC dd).toArray 56)
        obtain ⟨v', w2, h1, h2, h3, _⟩ := run_append_own (P := Try.prog) _ w.heap.size 63 63 56 i0 _ 4 16 Try.underlying63 HI.out HZ.out.1 HZ.out.2.1 HZ.out.2.2 rfl (by decide) u4 _ _ ho1 ⟨w1.heap.size + 1, 0, none⟩ 1 1 (dC dd) rfl (fun j u hu => by
          rw [show (⟨w1.heap.size + 1, 0, none⟩ : Addr).add j = ⟨w1.heap.size + 1, j, none⟩ from by unfold Addr.add; split <;> simp_all, cellK (heap_alloc_at _ _ _ (sizeA _ _)) j]
          exact hu) (by
          intro u hu
          simp only [List.mem_cons, List.not_mem_nil, or_false] at hu
          rcases hu with rfl | rfl | rfl | rfl <;> rfl) (by simp [maxLen]; omega) (by omega) (by rw [sizeA, sizeA]; omega)
        refine ⟨v', w2, fun ty => h1, hid_mk ?_, ?_⟩
        · rw [HST.out, ← hdd]
          exact h2
        · have hq : Below w.heap.size w ((w1.alloc (.cells (dC dd).toArray 56)).alloc (.cells (dC dd).toArray 56)) := ((HB.out.trans (hb2.mono hz)).alloc (by omega) _).alloc (by rw [sizeA]; omega) _
          exact hq.trans (grown_below h3 (by rw [sizeA, sizeA]; omega) (fun q hq => (ho1.lt q hq).1))
      obtain ⟨v', w2, h1, h2, h3⟩ := hra
      have HR := hid_mk h1
      have HB2 := hid_mk h3
      clear h1 h3 hb2 hz1 hz hdd
      go_wp2_with (at_builtin; refine wpList_append_run (v := u4) (u := .slice (some ⟨w1.heap.size + 1, 0, none⟩) 1 1) (v' := v') (w' := w2) rfl (.tmp 27) (.tmp 29) 63 rfl (by first | rfl | go_simp) (by first | rfl | go_simp) (HR.out _) ?_)
      go_roundw
      case rel => exact ⟨k + 1, by omega, by go_num, h2, HB2.out⟩
      case measure => simp [intOf] <;> omega
    · obtain rfl : k = n := by omega
      go_wp2_with fail
      go_ret2
      refine ⟨_, rfl, ?_, hbel⟩
      have := hO.out
      rw [List.take_of_length_le (by rw [rdT_length]; exact Nat.le_refl _)] at this
      exact descs_of (by rw [rdT_length]; exact this)

theorem rreadTable_nil (a : Option Addr) (c : Nat) (w : World) :
    Calls Try.prog 42 #[.slice a 0 c] w fun e w' => e = .returned (.tuple #[.slice none 0 0, .int .i64 0]) ∧ w = w' := by
  go_enter Try.func42, Try.ntmps42
  go_wp2_with fail
  go_loop [4, 5, 6, 7] (fun s i _ _ => s = .slice none 0 0 ∧ i = .int .i64 0) (fun _ _ _ _ => 0)
  case atStart => exact ⟨rfl, rfl⟩
  case round =>
    obtain ⟨rfl, rfl⟩ := hrel
    go_wp2_with fail
    go_ret2
    exact ⟨rfl, rfl⟩
theorem rreadTable_no (a : Option Addr) (n c : Nat) (w : World) (hn : n % 16 ≠ 0) (hm : n ≤ 100000) :
    Calls Try.prog 42 #[.slice a n c] w fun e w' => e = .returned (.tuple #[.slice none 0 0, .int .i64 4]) ∧ w = w' := by
  have h0 : (0 : Int) ≤ (n : Int) := by omega
  have h1 : (n : Int) ≤ 100000 := by omega
  have h2 : ((n : Int) % 16 != 0) = true := by simp; omega
  have h3 : ((n : Int).tmod 16 != 0) = true := by rw [Int.tmod_eq_emod_of_nonneg h0]; exact h2
  go_enter Try.func42, Try.ntmps42
  go_wp2_with fail
  go_ret2
  exact ⟨rfl, rfl⟩
theorem rreadTable_any (v : Value) (l : List Int) (w : World) (hv : BytesAt w v l) (hB : isBytes l) (hm : l.length ≤ 5000) :
    Calls Try.prog 42 #[v] w fun e w' => ∃ v', e = .returned (.tuple #[v', .int .i64 (rtE l)]) ∧ DescsAt w' v' (rtD l) ∧ Below w.heap.size w w' := by
  rcases hv with ⟨⟨a, c, rfl, _⟩, rfl⟩ | ⟨b, o, c, rfl, h1, h2, h3⟩
  · refine (rreadTable_nil a c w).mono ?_
    rintro e w' ⟨rfl, rfl⟩
    exact ⟨_, rfl, Or.inl ⟨⟨none, 0, rfl, fun _ => rfl⟩, rfl⟩, Below.refl _ _⟩
  · by_cases h : l.length % 16 = 0
    · have hl : l.length = 16 * (l.length / 16) := by omega
      have hE : rtE l = 0 := by simp [rtE, h]
      have hD : rtD l = rdT (l.length / 16) l := by simp [rtD, h]
      rw [hE, hD]
      have hr := rreadTable_at b o c (l.length / 16) l w hB hl (by omega) h1 (by omega) h3
      rw [← hl] at hr
      exact hr
    · have hE : rtE l = 4 := by simp [rtE, h]
      have hD : rtD l = [] := by simp [rtD, h]
      rw [hE, hD]
      refine (rreadTable_no (some ⟨b, o, none⟩) l.length c w h (by omega)).mono ?_
      rintro e w' ⟨rfl, rfl⟩
      exact ⟨_, rfl, Or.inl ⟨⟨none, 0, rfl, fun _ => rfl⟩, rfl⟩, Below.refl _ _⟩
end Go.Proofs.Ytfjccpalkdmniaa
