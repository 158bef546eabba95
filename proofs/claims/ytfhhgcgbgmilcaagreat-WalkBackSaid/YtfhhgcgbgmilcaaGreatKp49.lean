/- Bh9 Bh10 Bh11: joined texts. Conditions: as each theorem names them. -/
import Derived.Test.YtfhhgcgbgmilcaaGreatKp47
import Derived.Test.YtfhhgcgbgmilcaaGreatKp48
/- build's Needs, Split, SplitTable, PackedTable, SplitOne. Conditions: as each theorem names them. -/
namespace Go.Proofs.YtfhhgcgbgmilcaaGreat
open Go.ChangeShapes Go.WideShapes Go.ChangeAt Go.RowKit
set_option linter.unusedVariables false
set_option maxRecDepth 100000

theorem chks1 {w : World} {x : Value} {E : Int} (t : TypeId) (hx : Chk w x E) : ∀ k, k < 1 → ∃ z, (w.alloc (.cells #[x] t)).cell? ⟨w.heap.size, k, none⟩ = some z ∧ Chk (w.alloc (.cells #[x] t)) z ([E].getD k 0) := fun k hk => by
  obtain rfl : k = 0 := by omega
  exact ⟨x, (blk_new w [x] t).cell 0, hx.below (below_box _ _)⟩
theorem chks2 {w : World} {x y : Value} {E F : Int} (t : TypeId) (hx : Chk w x E) (hy : Chk w y F) : ∀ k, k < 2 → ∃ z, (w.alloc (.cells #[x, y] t)).cell? ⟨w.heap.size, k, none⟩ = some z ∧ Chk (w.alloc (.cells #[x, y] t)) z ([E, F].getD k 0) := fun k hk => by
  rcases (show k = 0 ∨ k = 1 by omega) with rfl | rfl
  · exact ⟨x, (blk_new w [x, y] t).cell 0, hx.below (below_box _ _)⟩
  · exact ⟨y, (blk_new w [x, y] t).cell 1, hy.below (below_box _ _)⟩
theorem unlE_zero {b : Bool} : unlE b = 0 ↔ b = true := by cases b <;> decide
theorem fir1 (E : Int) : firE [E] = E := by
  simp only [firE]
  split
  · rename_i h
    exact h.symm
  · rfl
theorem fir2 (E F : Int) : firE [E, F] = if E = 0 then F else E := by
  rw [show firE [E, F] = if E = 0 then firE [F] else E from rfl, fir1]
theorem fir_cons (E : Int) (l : List Int) : firE (E :: l) = if E = 0 then firE l else E := rfl

set_option maxHeartbeats 1000000 in
theorem bdneeds (v : Value) (L : List Sg) (t : Bool) (w : World) (hv : SegsAt w v L) (hu : isSgs L) (hl : L.length ≤ 1000) :
    Calls Tryz.prog 5 #[v, .bool t] w fun e w' => e = .returned (.int .i64 (neeN L t)) ∧ Below w.heap.size w w' := by
  have HB := hid_mk (bisbuf v L w hv hu)
  obtain ⟨va, vc, rfl⟩ := hv.len
  unfold neeN
  clear hv hu hl
  by_cases h : mayE L = 0
  · rw [if_pos h]
    rw [h] at HB
    clear h
    cases t
    all_goals
      go_enter Tryz.func5, Tryz.ntmps5
      go_wp2_with fail
      refine HB.out.mono ?_
      rintro e w1 ⟨x, rfl, hx, hb1⟩
      have HX := hid_mk hx
      obtain ⟨f, caps, rfl, _⟩ := hx
      have HB1 := hid_mk hb1
      clear hb1
      go_wp2_with fail
      refine (bfirst w1.heap.size 1 [0] _ rfl (by omega) (by simp) (chks1 _ HX.out)).mono ?_
      rintro e w2 ⟨rfl, hb2⟩
      have HB2 := hid_mk (below_then (HB1.out.alloc HB1.out.size _) hb2)
      rw [fir1]
      clear hb2
      go_wp2_with fail
      go_ret
      exact ⟨rfl, HB2.out⟩
  · rw [if_neg h]
    have hz : (mayE L != 0) = true := by simp; exact h
    generalize mayE L = z at *
    go_enter Tryz.func5, Tryz.ntmps5
    go_wp2_with fail
    refine HB.out.mono ?_
    rintro e w1 ⟨x, rfl, hx, hb1⟩
    have HX := hid_mk hx
    obtain ⟨f, caps, rfl, _⟩ := hx
    have HB1 := hid_mk hb1
    clear hb1
    go_wp2_with fail
    refine (bfirst w1.heap.size 1 [z] _ rfl (by omega) (by simp) (chks1 _ HX.out)).mono ?_
    rintro e w2 ⟨rfl, hb2⟩
    have HB2 := hid_mk (below_then (HB1.out.alloc HB1.out.size _) hb2)
    rw [fir1]
    clear hb2 h
    go_wp2_with fail
    go_ret
    exact ⟨rfl, HB2.out⟩

theorem pts_of_blk {w : World} {b : Nat} {L : List Pt} {t : TypeId} {n : Nat} (h : BlkAt w b (ptCells L) t) (hn : L.length = n) : PtsAt w (.slice (some ⟨b, 0, none⟩) n n) L := by
  subst hn
  refine Or.inr ⟨b, 0, L.length, rfl, h.lt, Nat.le_refl _, fun j hj => ?_⟩
  obtain ⟨c0, c1, c2, c3, c4⟩ := ptCells_at L j hj
  refine ⟨?_, ?_, ?_, ?_, ?_⟩ <;> rw [Nat.zero_add, h.cell]
  · exact c0
  · exact c1
  · exact c2
  · exact c3
  · exact c4
theorem ds_of_blk {w : World} {b : Nat} {L : List Dsc} {t : TypeId} {n : Nat} (h : BlkAt w b (dCs L) t) (hn : L.length = n) : DescsAt w (.slice (some ⟨b, 0, none⟩) n n) L := by
  subst hn
  refine Or.inr ⟨b, 0, L.length, rfl, h.lt, Nat.le_refl _, fun j hj => ?_⟩
  obtain ⟨c0, c1, c2, c3⟩ := dCs_at L j hj
  refine ⟨?_, ?_, ?_, ?_⟩ <;> rw [Nat.zero_add, h.cell]
  · exact c0
  · exact c1
  · exact c2
  · exact c3
theorem row_r {w : World} {b n : Nat} {t : TypeId} {l : List Int} (h : Row w b t l) (hn : l.length = n) : BytesR w (.slice (some ⟨b, 0, none⟩) n n) l := by
  subst hn
  refine Or.inr ⟨b, 0, l.length, rfl, lt_blk h, Nat.le_refl _, fun j hj => ?_⟩
  rw [cellK h, Nat.zero_add]
  simp [hj, List.getD]
theorem splE_fir (I : List Int) (L : List Sg) : firE [mayE L, unlE (idsT I L.length)] = splE I L := by
  rw [fir2]
  rfl

set_option maxHeartbeats 1000000 in
theorem bdsplit (v u : Value) (I : List Int) (L : List Sg) (w : World) (hv : IntsZ w v I) (hu : SegsAt w u L) (hs : isSgs L) (hi : I.length ≤ 1000) (hl : L.length ≤ 1000) :
    Calls Tryz.prog 8 #[v, u] w fun e w' => ∃ x, e = .returned (.tuple #[x, .int .i64 (splE I L)]) ∧ PtsAt w' x (splR I L) ∧ Below w.heap.size w w' := by
  have HB := hid_mk (bisbuf u L w hu hs)
  have HA := hid_mk (fun u1 (h : IntsZ u1 v I) => barenum L.length v I u1 h hi)
  have HV := hid_mk hv
  have HU := hid_mk hu
  have HE := hid_mk (splE_fir I L)
  by_cases h : splE I L = 0
  · have hr : splR I L = splL I L := by
      unfold splR
      rw [if_pos h]
    have hm : mayE L = 0 := by
      by_cases hm : mayE L = 0
      · exact hm
      · unfold splE at h
        rw [if_neg hm] at h
        exact absurd h hm
    have hb : idsB I L = true := by
      cases hb : idsB I L
      · unfold splE at h
        rw [if_pos hm, hb] at h
        cases h
      · rfl
    unfold idsB at hb
    simp only [Bool.and_eq_true, decide_eq_true_eq] at hb
    obtain ⟨hb1, hb2⟩ := hb
    have HC := hid_mk (fun u1 (h1 : IntsZ u1 v I) (h2 : SegsAt u1 u L) => bchain1 v u I L u1 h1 h2 hb1 (mayE_ok hm).2 hl (fun j hj => okT_at hb2 (by omega)))
    rw [hr]
    rw [h] at HE ⊢
    obtain ⟨va, vc, rfl⟩ := hv.len
    obtain ⟨ua, uc, rfl⟩ := hu.len
    clear hv hu h hr hm hb1 hb2 hs hi hl
    go_enter Tryz.func8, Tryz.ntmps8
    go_wp2_with fail
    refine HB.out.mono ?_
    rintro e w1 ⟨x, rfl, hx, hb1⟩
    have HX := hid_mk hx
    obtain ⟨f, caps, rfl, _⟩ := hx
    have HB1 := hid_mk hb1
    clear hb1
    go_wp2_with fail
    refine (HA.out _ (HV.out.below HB1.out)).mono ?_
    rintro e w2 ⟨y, rfl, hy, hb2⟩
    have HY := hid_mk hy
    obtain ⟨f2, caps2, rfl, _⟩ := hy
    have HX2 := hid_mk (HX.out.below hb2)
    have HB2 := hid_mk (below_then HB1.out hb2)
    clear hb2
    go_wp2_with fail
    refine (bfirst w2.heap.size 2 [mayE L, unlE (idsT I L.length)] _ rfl (by omega) (by simp) (chks2 _ HX2.out HY.out)).mono ?_
    rintro e w3 ⟨rfl, hb3⟩
    have HB3 := hid_mk (below_then (HB2.out.alloc HB2.out.size _) hb3)
    rw [HE.out]
    clear hb3
    go_wp2_with fail
    refine (HC.out _ (HV.out.below HB3.out) (HU.out.below HB3.out)).mono ?_
    rintro e w4 ⟨rfl, hr, hb4⟩
    have HR := hid_mk hr
    have HB4 := hid_mk (below_then HB3.out hb4)
    clear hr hb4
    go_wp2_with fail
    go_ret2
    exact ⟨_, rfl, pts_of_blk HR.out (splL_len _ _), HB4.out⟩
  · have hr : splR I L = [] := by
      unfold splR
      rw [if_neg h]
    rw [hr]
    obtain ⟨z, hz⟩ : ∃ z, splE I L = z := ⟨_, rfl⟩
    rw [hz] at h HE ⊢
    have hzb : (z != 0) = true := by simp; exact h
    obtain ⟨va, vc, rfl⟩ := hv.len
    obtain ⟨ua, uc, rfl⟩ := hu.len
    clear hv hu h hr hs hi hl hz
    go_enter Tryz.func8, Tryz.ntmps8
    go_wp2_with fail
    refine HB.out.mono ?_
    rintro e w1 ⟨x, rfl, hx, hb1⟩
    have HX := hid_mk hx
    obtain ⟨f, caps, rfl, _⟩ := hx
    have HB1 := hid_mk hb1
    clear hb1
    go_wp2_with fail
    refine (HA.out _ (HV.out.below HB1.out)).mono ?_
    rintro e w2 ⟨y, rfl, hy, hb2⟩
    have HY := hid_mk hy
    obtain ⟨f2, caps2, rfl, _⟩ := hy
    have HX2 := hid_mk (HX.out.below hb2)
    have HB2 := hid_mk (below_then HB1.out hb2)
    clear hb2
    go_wp2_with fail
    refine (bfirst w2.heap.size 2 [mayE L, unlE (idsT I L.length)] _ rfl (by omega) (by simp) (chks2 _ HX2.out HY.out)).mono ?_
    rintro e w3 ⟨rfl, hb3⟩
    have HB3 := hid_mk (below_then (HB2.out.alloc HB2.out.size _) hb3)
    rw [HE.out]
    clear hb3
    go_wp2_with fail
    go_ret2
    exact ⟨_, rfl, PtsAt.nil _, HB3.out⟩

set_option maxHeartbeats 1000000 in
theorem bdtable (u : Value) (L : List Sg) (w : World) (hu : SegsAt w u L) (hs : isSgs L) (hl : L.length ≤ 1000) :
    Calls Tryz.prog 12 #[u] w fun e w' => ∃ x, e = .returned (.tuple #[x, .int .i64 (mayE L)]) ∧ BytesR w' x (stbB L) ∧ Below w.heap.size w w' := by
  have HB := hid_mk (bisbuf u L w hu hs)
  have HU := hid_mk hu
  unfold stbB
  by_cases h : mayE L = 0
  · obtain ⟨h1, h2⟩ := mayE_ok h
    have h64 := ((segE_ok hs).1 h1).1
    have HC := hid_mk (fun u1 (h : SegsAt u1 u L) => bchain3 u L u1 h h2 hl)
    have HT := hid_mk (fun v1 u1 (h : DescsAt u1 v1 (stbL L)) => table_any v1 (stbL L) u1 h (fun d hd => by
      unfold stbL at hd
      obtain ⟨p, hp, rfl⟩ := List.mem_map.1 hd
      unfold splL at hp
      obtain ⟨k, hk, rfl⟩ := List.mem_map.1 hp
      exact spl_is hs hl k (List.mem_range.1 hk)) (by rw [stbL_len]; omega))
    rw [stbL_len] at HT
    rw [if_pos h]
    rw [h] at HB ⊢
    obtain ⟨ua, uc, rfl⟩ := hu.len
    clear hu h h1 h2 h64 hs hl
    go_enter Tryz.func12, Tryz.ntmps12
    go_wp2_with fail
    refine HB.out.mono ?_
    rintro e w1 ⟨x, rfl, hx, hb1⟩
    have HX := hid_mk hx
    obtain ⟨f, caps, rfl, _⟩ := hx
    have HB1 := hid_mk hb1
    clear hb1
    go_wp2_with fail
    refine (bfirst w1.heap.size 1 [0] _ rfl (by omega) (by simp) (chks1 _ HX.out)).mono ?_
    rintro e w2 ⟨rfl, hb2⟩
    have HB2 := hid_mk (below_then (HB1.out.alloc HB1.out.size _) hb2)
    rw [fir1]
    clear hb2
    go_wp2_with fail
    refine (HC.out _ (HU.out.below HB2.out)).mono ?_
    rintro e w3 ⟨rfl, hr, hb3⟩
    have HR := hid_mk hr
    have HB3 := hid_mk (below_then HB2.out hb3)
    clear hr hb3
    go_wp2_with fail
    refine (HT.out _ _ (ds_of_blk HR.out (stbL_len _))).mono ?_
    rintro e w4 ⟨rfl, hr, hb4⟩
    have HR4 := hid_mk hr
    have HB4 := hid_mk (below_then HB3.out hb4)
    clear hr hb4
    go_wp2_with fail
    go_ret2
    exact ⟨_, rfl, row_r HR4.out (by rw [tabB_length, stbL_len]), HB4.out⟩
  · rw [if_neg h]
    have hz : (mayE L != 0) = true := by simp; exact h
    generalize mayE L = z at *
    obtain ⟨ua, uc, rfl⟩ := hu.len
    clear hu hs hl
    go_enter Tryz.func12, Tryz.ntmps12
    go_wp2_with fail
    refine HB.out.mono ?_
    rintro e w1 ⟨x, rfl, hx, hb1⟩
    have HX := hid_mk hx
    obtain ⟨f, caps, rfl, _⟩ := hx
    have HB1 := hid_mk hb1
    clear hb1
    go_wp2_with fail
    refine (bfirst w1.heap.size 1 [z] _ rfl (by omega) (by simp) (chks1 _ HX.out)).mono ?_
    rintro e w2 ⟨rfl, hb2⟩
    have HB2 := hid_mk (below_then (HB1.out.alloc HB1.out.size _) hb2)
    rw [fir1]
    clear hb2 h
    go_wp2_with fail
    go_ret2
    exact ⟨_, rfl, Or.inl ⟨rfl, rfl⟩, HB2.out⟩
end Go.Proofs.YtfhhgcgbgmilcaaGreat

/- build's PackedTable, SplitOne. Conditions: as each theorem names them. -/
namespace Go.Proofs.YtfhhgcgbgmilcaaGreat
open Go.ChangeShapes Go.WideShapes Go.ChangeAt Go.RowKit
set_option linter.unusedVariables false
set_option maxRecDepth 100000

/-- a descriptor's bytes behind a table of the call's own -/
theorem app_row16 {B : Nat} {w : World} {v : Value} {M : List Dsc} {d : Dsc} {g : Nat} {t : TypeId} (hv : OwnB w B v (tabB M)) (h1 : Row w g t (dB d)) (hB : B ≤ w.heap.size) (hl : M.length ≤ 1000) :
    ∃ v' w', (∀ ty, (Builtin.append_ #[47, 47] ty #[v, .slice (some ⟨g, 0, none⟩) 16 16]).run Tryz.prog w = .ok v' w') ∧ OwnB w' B v' (tabB (M ++ [d])) ∧ Below B w w' := by
  obtain ⟨i0, hi, hz0, hz1, hz2⟩ := info_parts rowU8
  have hlen : (tabB M).length = 16 * M.length := tabB_length M
  obtain ⟨v', w2, h1, h2, h3, _⟩ := run_append_own (P := Tryz.prog) w B 47 47 5 i0 _ 1 1 Tryz.underlying47 hi hz0 hz1 hz2 rfl (by decide) v _ _ hv ⟨g, 0, none⟩ 16 16 ((dB d).map (Value.int .u8)) (by rw [List.length_map, dB_length]) (fun j u hu => by
    have hj : j < (dB d).length := by
      have := (List.getElem?_eq_some_iff.1 hu).1
      simpa using this
    rw [show (⟨g, 0, none⟩ : Addr).add j = ⟨g, j, none⟩ from by unfold Addr.add; split <;> simp_all, cellK h1]
    simp [hj] at hu
    subst hu
    simp [hj]) one_of (by rw [hlen]; simp [maxLen]; omega) (by rw [hlen]; omega) hB
  refine ⟨v', w2, fun ty => h1, ?_, grown_below h3 hB (fun q hq => (hv.lt q hq).1)⟩
  unfold OwnB
  rw [tabB_snoc, List.length_append, dB_length, List.map_append]
  exact h2
theorem ptb_is {L : List Sg} (hs : isSgs L) (k : Nat) : isDsc (ptbD L k) := by
  obtain ⟨⟨a1, a2⟩, n1, n2⟩ := sat_is hs k
  have hf := flgN_lt (sat L k).t false
  exact ⟨⟨a1, a2⟩, ⟨n1, n2⟩, ⟨by show (0 : Int) ≤ 0; omega, by show (0 : Int) < 65536; omega⟩, ⟨by show (0 : Int) ≤ ((flgN _ _ : Nat) : Int); omega, by show ((flgN _ _ : Nat) : Int) < _; omega⟩⟩
set_option maxHeartbeats 2000000 in
theorem bdptable (u : Value) (L : List Sg) (w : World) (hu : SegsAt w u L) (hs : isSgs L) (hl : L.length ≤ 1000) :
    Calls Tryz.prog 19 #[u] w fun e w' => ∃ x, e = .returned (.tuple #[x, .int .i64 (mayE L)]) ∧ BytesR w' x (ptbB L) ∧ Below w.heap.size w w' := by
  have HB := hid_mk (bisbuf u L w hu hs)
  have HU := hid_mk hu
  unfold ptbB
  by_cases h : mayE L = 0
  · obtain ⟨h1, h2⟩ := mayE_ok h
    have HC := hid_mk (fun u1 (h : SegsAt u1 u L) => bchain4 u L u1 h h2 hl)
    have HP := hid_mk (fun k u1 => pbytes_any (ptbD L k) u1 (ptb_is hs k))
    have HL := hid_mk hl
    rw [if_pos h]
    rw [h] at HB ⊢
    obtain ⟨ua, uc, rfl⟩ := hu.len
    have hli : (L.length : Int) ≤ 1000 := by omega
    clear hu h h1 h2 hs hl
    go_enter Tryz.func19, Tryz.ntmps19
    go_wp2_with fail
    refine HB.out.mono ?_
    rintro e w1 ⟨x, rfl, hx, hb1⟩
    have HX := hid_mk hx
    obtain ⟨f, caps, rfl, _⟩ := hx
    have HB1 := hid_mk hb1
    clear hb1
    go_wp2_with fail
    refine (bfirst w1.heap.size 1 [0] _ rfl (by omega) (by simp) (chks1 _ HX.out)).mono ?_
    rintro e w2 ⟨rfl, hb2⟩
    have HB2 := hid_mk (below_then (HB1.out.alloc HB1.out.size _) hb2)
    rw [fir1]
    clear hb2
    go_wp2_with fail
    refine (HC.out _ (HU.out.below HB2.out)).mono ?_
    rintro e w3 ⟨rfl, hr, hb3⟩
    have HR := hid_mk hr
    have HB3 := hid_mk (below_then HB2.out hb3)
    obtain ⟨rb, hrb⟩ : ∃ rb, w2.heap.size + 1 = rb := ⟨_, rfl⟩
    rw [hrb] at HR ⊢
    clear hr hb3 hrb HB HU HC HB1 HX
    go_wp2_with fail
    go_loopw [5, 7, 19] (fun s _ i wr => ∃ k : Nat, k ≤ L.length ∧ i = .int .i64 k ∧ Hid (OwnB wr w3.heap.size s (tabB ((ptbL L).take k))) ∧ Hid (Below w3.heap.size w3 wr)) (fun _ _ i _ => L.length - (intOf i).toNat)
    case atStart => exact ⟨0, Nat.zero_le _, rfl, hid_mk (World.ownsRow_nil _ _ _ _), hid_mk (Below.refl _ _)⟩
    case round =>
      obtain ⟨k, hk, rfl, hown, hold⟩ := hrel
      by_cases hlt : k < L.length
      · have hki : (k : Int) < (L.length : Int) := by omega
        have HRk := HR.out.below hold.out
        obtain ⟨g0, g1, g2, g3⟩ := dCs_at (ptbL L) k (by rw [ptbL_len]; exact hlt)
        rw [ptbL_at2 hlt] at g0 g1 g2 g3
        have c0 := (HRk.cell (k * 4)).trans g0
        have c1 := (HRk.cell (k * 4 + 1)).trans g1
        have c2 := (HRk.cell (k * 4 + 2)).trans g2
        have c3 := (HRk.cell (k * 4 + 3)).trans g3
        have hrl := HRk.lt
        have HP1 := hid_mk (HP.out k)
        have HT := hid_mk (ptbL_take hlt)
        have HTl : Hid (((ptbL L).take k).length ≤ 1000) := hid_mk (by rw [List.length_take, ptbL_len]; have := HL.out; omega)
        obtain ⟨oa, oc, hov⟩ := own1_len hown.out
        subst hov
        generalize ptbD L k = d at *
        clear g0 g1 g2 g3 HRk
        go_wp2_with fail
        refine (HP1.out _).mono ?_
        rintro e w4 ⟨rfl, hr4, hb4⟩
        have HB4 := hid_mk (below_then (hold.out.alloc hold.out.size (.cells #[.int .u64 d.a, .int .u32 d.l, .int .u16 d.f, .int .u16 d.n] 63)) hb4)
        have HO4 := ownsRow_below (ownsRow_below hown.out (below_box wr (.cells #[.int .u64 d.a, .int .u32 d.l, .int .u16 d.f, .int .u16 d.n] 63))) hb4
        obtain ⟨v', w', h1, h2, h3⟩ := app_row16 HO4 hr4 HB4.out.size HTl.out
        rw [← HT.out] at h2
        have HRn := hid_mk h1
        have HO := hid_mk h2
        have HB5 := hid_mk (HB4.out.trans h3)
        obtain ⟨na, nc, hnv⟩ := own1_len h2
        subst hnv
        clear h1 h2 h3 hr4 hb4 HO4 hold hown c0 c1 c2 c3
        go_wp2_with (at_builtin; refine wpList_append_run (v := .slice oa (tabB ((ptbL L).take k)).length oc) (u := .slice (some ⟨_, 0, none⟩) 16 16) (v' := .slice na (tabB ((ptbL L).take (k + 1))).length nc) (w' := w') rfl _ _ 47 rfl (by first | rfl | go_simp) (by first | rfl | go_simp) (HRn.out _) ?_)
        go_roundw
        case rel => exact ⟨k + 1, by omega, by simp, HO, HB5⟩
        case measure => simp [intOf]; omega
      · obtain rfl : k = L.length := by omega
        have HO2 := hid_mk hown.out
        rw [show (ptbL L).take L.length = ptbL L from List.take_of_length_le (by rw [ptbL_len]; exact Nat.le_refl _)] at HO2
        go_wp2_with fail
        go_ret2
        exact ⟨_, rfl, own_r HO2.out, HB3.out.trans (hold.out.mono HB3.out.size)⟩
  · rw [if_neg h]
    have hz : (mayE L != 0) = true := by simp; exact h
    generalize mayE L = z at *
    obtain ⟨ua, uc, rfl⟩ := hu.len
    clear hu hs hl
    go_enter Tryz.func19, Tryz.ntmps19
    go_wp2_with fail
    refine HB.out.mono ?_
    rintro e w1 ⟨x, rfl, hx, hb1⟩
    have HX := hid_mk hx
    obtain ⟨f, caps, rfl, _⟩ := hx
    have HB1 := hid_mk hb1
    clear hb1
    go_wp2_with fail
    refine (bfirst w1.heap.size 1 [z] _ rfl (by omega) (by simp) (chks1 _ HX.out)).mono ?_
    rintro e w2 ⟨rfl, hb2⟩
    have HB2 := hid_mk (below_then (HB1.out.alloc HB1.out.size _) hb2)
    rw [fir1]
    clear hb2 h
    go_wp2_with fail
    go_ret2
    exact ⟨_, rfl, Or.inl ⟨rfl, rfl⟩, HB2.out⟩

theorem oneE_fir (id n : Int) : firE [unlE (okI 32768 id), unlE (decide (1 ≤ n) && decide (n ≤ 64))] = oneE id n := by
  rw [fir2]
  unfold oneE oneB unlE
  cases okI 32768 id <;> cases (decide (1 ≤ n) && decide (n ≤ 64)) <;> rfl
set_option maxHeartbeats 2000000 in
theorem bdone (id at_ n : Int) (w : World) (hid : I64 id) (ha : U64 at_) (hn : I64 n) :
    Calls Tryz.prog 13 #[.int .i64 id, .int .u64 at_, .int .i64 n] w fun e w' => e = .returned (.tuple #[pV (oneP id at_ n), .int .i64 (oneE id n)]) ∧ Below w.heap.size w w' := by
  have HA := hid_mk (fun u1 => bisbel id 32768 u1)
  have HC := hid_mk (fun u1 => biscnt n u1)
  have HE := hid_mk (oneE_fir id n)
  have HR0 := hid_mk (blk_new w (ptCells [zPt]) 46)
  have HB0 := hid_mk (below_box w (.cells (ptCells [zPt]).toArray 46))
  simp only [ptCells, zPt] at HR0 HB0
  clear hid ha hn
  by_cases h : oneB id n = true
  · have e1 : oneE id n = 0 := by unfold oneE; rw [if_pos h]
    have e2 : oneP id at_ n = ⟨id, ⟨at_, 16 * n, 4, 0⟩⟩ := by unfold oneP; rw [if_pos h]
    rw [e1] at HE ⊢
    rw [e2]
    unfold oneB at h
    simp only [Bool.and_eq_true, decide_eq_true_eq] at h
    obtain ⟨_, hn⟩ := h
    have HT := hid_mk (fun u1 => btabpart at_ n u1 hn)
    have HP := hid_mk (fun (b1 : Nat) (u1 : World) (h1 : b1 < u1.heap.size) (h2 : u1.cell? ⟨b1, 0, none⟩ = some (.int .i64 id)) => bscput b1 0 1 1 0 id 0 at_ (16 * n) 4 false u1 h1 h2 (by omega) (by omega) (fun h => by cases h) (fun _ => rfl) (by decide +kernel))
    unfold paV at HP HT
    rw [show ((4 : Nat) : Int) = 4 from rfl] at HP HT
    rw [show ((0 : Nat) : Int) = 0 from rfl] at HP
    clear e1 e2 hn
    go_enter Tryz.func13, Tryz.ntmps13
    go_wp2_with fail
    refine (HA.out _).mono ?_
    rintro e w1 ⟨x, rfl, hx, hb1⟩
    have HX := hid_mk hx
    obtain ⟨f, caps, rfl, _⟩ := hx
    have HR1 := hid_mk (HR0.out.below hb1)
    have HB1 := hid_mk (below_then HB0.out hb1)
    clear hb1
    go_wp2_with fail
    refine (HC.out _).mono ?_
    rintro e w2 ⟨y, rfl, hy, hb2⟩
    have HY := hid_mk hy
    obtain ⟨f2, caps2, rfl, _⟩ := hy
    have HX2 := hid_mk (HX.out.below hb2)
    have HR2 := hid_mk (HR1.out.below hb2)
    have HB2 := hid_mk (below_then HB1.out hb2)
    clear hb2
    go_wp2_with fail
    refine (bfirst w2.heap.size 2 [unlE (okI 32768 id), unlE (decide (1 ≤ n) && decide (n ≤ 64))] _ rfl (by omega) (by simp) (chks2 _ HX2.out HY.out)).mono ?_
    rintro e w3 ⟨rfl, hb3⟩
    have HB3 := hid_mk (below_then (HB2.out.alloc HB2.out.size _) hb3)
    have HR3 := hid_mk ((HR2.out.below (below_box _ _)).below hb3)
    rw [HE.out]
    clear hb3
    go_wp2_with fail
    refine (HT.out _).mono ?_
    rintro e w4 ⟨rfl, hb4⟩
    have c0 := (hb4.cell (p := ⟨w3.heap.size, 0, none⟩) (by simp)).trans ((blk_new w3 [.int .i64 id] 3).cell 0)
    have hl4 : w3.heap.size < w4.heap.size := Nat.lt_of_lt_of_le (by simp) hb4.size
    have HB4 := hid_mk (below_then (HB3.out.alloc HB3.out.size _) hb4)
    have HR4 := hid_mk ((HR3.out.below (below_box _ _)).below hb4)
    clear hb4
    go_wp2_with fail
    refine (HP.out _ _ hl4 c0).mono ?_
    rintro e w5 ⟨rfl, hb5⟩
    have HB5 := hid_mk (below_then HB4.out hb5)
    have HR5 := hid_mk (HR4.out.below hb5)
    obtain ⟨⟨y0, y1, y2, y3, y4, hcc, hlt, k0, k1, k2, k3, k4⟩, f0, f1, f2, f3, f4⟩ := blk5 HR5.out rfl
    cases hcc
    clear hb5 c0 hl4
    go_wp2_with fail
    exact bodyPost_ret (v := .tuple #[pV ⟨id, ⟨at_, 16 * n, 4, 0⟩⟩, .int .i64 0]) (by simp [results, Tryz.results13, go_sem, k0, k1, k2, k3, k4]) rfl ⟨rfl, put5_below HB5.out (Nat.le_refl _) _ _ _ _ _⟩
  · have e1 : oneE id n = 2 := by unfold oneE; rw [if_neg h]
    have e2 : oneP id at_ n = zPt := by unfold oneP; rw [if_neg h]
    rw [e1] at HE ⊢
    rw [e2]
    clear e1 e2 h
    go_enter Tryz.func13, Tryz.ntmps13
    go_wp2_with fail
    refine (HA.out _).mono ?_
    rintro e w1 ⟨x, rfl, hx, hb1⟩
    have HX := hid_mk hx
    obtain ⟨f, caps, rfl, _⟩ := hx
    have HR1 := hid_mk (HR0.out.below hb1)
    have HB1 := hid_mk (below_then HB0.out hb1)
    clear hb1
    go_wp2_with fail
    refine (HC.out _).mono ?_
    rintro e w2 ⟨y, rfl, hy, hb2⟩
    have HY := hid_mk hy
    obtain ⟨f2, caps2, rfl, _⟩ := hy
    have HX2 := hid_mk (HX.out.below hb2)
    have HR2 := hid_mk (HR1.out.below hb2)
    have HB2 := hid_mk (below_then HB1.out hb2)
    clear hb2
    go_wp2_with fail
    refine (bfirst w2.heap.size 2 [unlE (okI 32768 id), unlE (decide (1 ≤ n) && decide (n ≤ 64))] _ rfl (by omega) (by simp) (chks2 _ HX2.out HY.out)).mono ?_
    rintro e w3 ⟨rfl, hb3⟩
    have HB3 := hid_mk (below_then (HB2.out.alloc HB2.out.size _) hb3)
    have HR3 := hid_mk ((HR2.out.below (below_box _ _)).below hb3)
    rw [HE.out]
    clear hb3
    obtain ⟨⟨y0, y1, y2, y3, y4, hcc, hlt, k0, k1, k2, k3, k4⟩, f0, f1, f2, f3, f4⟩ := blk5 HR3.out rfl
    cases hcc
    go_wp2_with fail
    exact bodyPost_ret (v := .tuple #[pV zPt, .int .i64 2]) (by simp [results, Tryz.results13, go_sem, zPt, k0, k1, k2, k3, k4]) rfl ⟨rfl, put5_below HB3.out (Nat.le_refl _) _ _ _ _ _⟩
end Go.Proofs.YtfhhgcgbgmilcaaGreat

/- build's Packed, PackedOne. Conditions: as each theorem names them. Written by mkbh11.py. -/
namespace Go.Proofs.YtfhhgcgbgmilcaaGreat
open Go.ChangeShapes Go.WideShapes Go.ChangeAt Go.RowKit
set_option linter.unusedVariables false
set_option maxRecDepth 100000

theorem pckE_fir (p n id : Int) (L : List Sg) : firE [mayE L, chkI p n, unlE (okI n id), unlE (decide ((L.length : Int) ≤ n))] = pckE p n id L := by
  simp only [firE]
  unfold pckE pckB chkI unlE
  cases okP p n <;> cases okI n id <;> cases decide ((L.length : Int) ≤ n) <;> simp
theorem ponE_fir (p n id m : Int) : firE [chkI p n, unlE (okI n id), unlE (decide (1 ≤ m) && decide (m ≤ 64))] = ponE p n id m := by
  simp only [firE]
  unfold ponE ponB chkI unlE
  cases okP p n <;> cases okI n id <;> cases (decide (1 ≤ m) && decide (m ≤ 64)) <;> simp
theorem chks3 {w : World} {x y z : Value} {E F G : Int} (t : TypeId) (hx : Chk w x E) (hy : Chk w y F) (hz : Chk w z G) : ∀ k, k < 3 → ∃ q, (w.alloc (.cells #[x, y, z] t)).cell? ⟨w.heap.size, k, none⟩ = some q ∧ Chk (w.alloc (.cells #[x, y, z] t)) q ([E, F, G].getD k 0) := fun k hk => by
  rcases (show k = 0 ∨ k = 1 ∨ k = 2 by omega) with rfl | rfl | rfl
  · exact ⟨x, (blk_new w [x, y, z] t).cell 0, hx.below (below_box _ _)⟩
  · exact ⟨y, (blk_new w [x, y, z] t).cell 1, hy.below (below_box _ _)⟩
  · exact ⟨z, (blk_new w [x, y, z] t).cell 2, hz.below (below_box _ _)⟩
theorem chks4 {w : World} {x y z v : Value} {E F G H : Int} (t : TypeId) (hx : Chk w x E) (hy : Chk w y F) (hz : Chk w z G) (hv : Chk w v H) : ∀ k, k < 4 → ∃ q, (w.alloc (.cells #[x, y, z, v] t)).cell? ⟨w.heap.size, k, none⟩ = some q ∧ Chk (w.alloc (.cells #[x, y, z, v] t)) q ([E, F, G, H].getD k 0) := fun k hk => by
  rcases (show k = 0 ∨ k = 1 ∨ k = 2 ∨ k = 3 by omega) with rfl | rfl | rfl | rfl
  · exact ⟨x, (blk_new w [x, y, z, v] t).cell 0, hx.below (below_box _ _)⟩
  · exact ⟨y, (blk_new w [x, y, z, v] t).cell 1, hy.below (below_box _ _)⟩
  · exact ⟨z, (blk_new w [x, y, z, v] t).cell 2, hz.below (below_box _ _)⟩
  · exact ⟨v, (blk_new w [x, y, z, v] t).cell 3, hv.below (below_box _ _)⟩
/-- a row of checks, made in this call -/
def ChkRow (W : World) (v : Value) (n : Nat) (E : List Int) : Prop := ∃ l, v = .slice (some ⟨l, 0, none⟩) n n ∧ l < W.heap.size ∧ ∀ k, k < n → ∃ x, W.cell? ⟨l, k, none⟩ = some x ∧ Chk W x (E.getD k 0)
theorem ChkRow.below {W W' : World} {v : Value} {n : Nat} {E : List Int} (h : ChkRow W v n E) (hb : Below W.heap.size W W') : ChkRow W' v n E := by
  obtain ⟨l, h1, h2, h3⟩ := h
  refine ⟨l, h1, Nat.lt_of_lt_of_le h2 hb.size, fun k hk => ?_⟩
  obtain ⟨x, g1, g2⟩ := h3 k hk
  exact ⟨x, (hb.cell (p := ⟨l, k, none⟩) h2).trans g1, g2.below hb⟩
structure PaS (w : World) (cb : Nat) (C : List Value) (t : TypeId) (W : World) : Prop where
  box : BlkAt W cb C t
  old : Below w.heap.size w W
theorem PaS.below {w W W' : World} {cb : Nat} {C : List Value} {t : TypeId} (h : PaS w cb C t W) (hb : Below W.heap.size W W') : PaS w cb C t W' := ⟨h.box.below hb, below_then h.old hb⟩
theorem posLoad {W : World} {b : Nat} {p : Int} {t : Bool} (h : BlkAt W b [.int .i64 p, .bool t] 58) : W.cell? ⟨b, 0, none⟩ = some (.int .i64 p) ∧ W.cell? ⟨b, 1, none⟩ = some (.bool t) := ⟨h.cell 0, h.cell 1⟩
set_option maxHeartbeats 4000000 in
theorem bdpacked (p n : Int) (b : Bool) (id : Int) (u : Value) (L : List Sg) (w : World) (hp : I64 p) (hn : I64 n) (hid : I64 id) (hu : SegsAt w u L) (hs : isSgs L) (hl : L.length ≤ 1000) :
    Calls Tryz.prog 16 #[.agg #[.int .i64 p, .bool b], .int .i64 n, .int .i64 id, u] w fun e w' => ∃ x, e = .returned (.tuple #[x, .int .i64 (pckE p n id L)]) ∧ PtsAt w' x (pckR p n b id L) ∧ Below w.heap.size w w' := by
  have HU := hid_mk hu
  have HS := hid_mk hs
  have HP0 : Hid (PaS w w.heap.size [.int .i64 p, .bool b] 58 (w.alloc (.cells #[.int .i64 p, .bool b] 58)).drew) := hid_mk ⟨(blk_new _ _ _).below (Below.refl _ _).drew, (below_box _ _).drew⟩
  clear hp hn hid
  by_cases h : pckE p n id L = 0
  · have hm : mayE L = 0 := by
      by_cases hm : mayE L = 0
      · exact hm
      · unfold pckE at h
        rw [if_neg hm] at h
        exact absurd h hm
    have hb : pckB p n id L = true := by
      cases hb : pckB p n id L
      · unfold pckE at h
        rw [if_pos hm, hb] at h
        cases h
      · rfl
    obtain ⟨k1, k2, k3⟩ := pck_true hb
    obtain ⟨k4, k5, _, _⟩ := okP_t k1
    have hr : pckR p n b id L = pckL p n b id L := by
      unfold pckR
      rw [if_pos h]
    have HC := hid_mk (fun u1 (h1 : SegsAt u1 u L) => bchain2 p n id b u L u1 h1 (mayE_ok hm).2 hl k1 k3 ⟨k2.1, by omega⟩)
    rw [hr]
    obtain ⟨ua, uc, rfl⟩ := hu.len
    have HZ := hid_mk h
    clear hu hm hb hr hs hl k1 k2 k3 k4 k5 h
    go_enter Tryz.func16, Tryz.ntmps16
    go_wp2_with fail
    refine wp_region_outl3 0 [] [] []
        [(fun v _ => v = .slice ua L.length uc),
        (fun v W => Chk W v (mayE L)),
        (fun v _ => v = .agg #[.int .i64 p, .bool b]),
        (fun v _ => v = .int .i64 n),
        (fun v W => Chk W v (chkI p n)),
        (fun v _ => v = .int .i64 id),
        (fun v _ => v = .int .i64 n),
        (fun v W => Chk W v (unlE (okI n id))),
        (fun v _ => v = .slice ua L.length uc),
        (fun v _ => v = .int .i64 n),
        (fun v W => Chk W v (unlE (decide ((L.length : Int) ≤ n)))),
        (fun v W => ChkRow W v 4 [mayE L, chkI p n, unlE (okI n id), unlE (decide ((L.length : Int) ≤ n))]),
        (fun v _ => v = .int .i64 (pckE p n id L)),
        (fun v _ => v = .int .i64 (pckE p n id L))]
        (PaS w w.heap.size [.int .i64 p, .bool b] 58) (by kernel_rfl) (by kernel_rfl) (by kernel_rfl) ?_ (fun u u' hb h => h.below hb) (HP0.out) ?_ ?_ ?_ ?_ ?_
    · refine And.intro (up_eq _) ?_
      refine And.intro (fun v W W' hb h => h.below hb) ?_
      refine And.intro (up_eq _) ?_
      refine And.intro (up_eq _) ?_
      refine And.intro (fun v W W' hb h => h.below hb) ?_
      refine And.intro (up_eq _) ?_
      refine And.intro (up_eq _) ?_
      refine And.intro (fun v W W' hb h => h.below hb) ?_
      refine And.intro (up_eq _) ?_
      refine And.intro (up_eq _) ?_
      refine And.intro (fun v W W' hb h => h.below hb) ?_
      refine And.intro (fun v W W' hb h => h.below hb) ?_
      refine And.intro (up_eq _) ?_
      refine And.intro (up_eq _) ?_
      trivial
    · trivial
    · trivial
    · trivial
    · refine And.intro ?_ (And.intro ?_ (And.intro ?_ (And.intro ?_ (And.intro ?_ (And.intro ?_ (And.intro ?_ (And.intro ?_ (And.intro ?_ (And.intro ?_ (And.intro ?_ (And.intro ?_ (And.intro ?_ (And.intro ?_ (True.intro))))))))))))))
      · refine qstep_val (.slice ua L.length uc) (by kernel_rfl) (by kernel_rfl) rfl (fun _ A1 W1 inv hnl hall => ⟨wanted_none rfl, ?_, rfl⟩)
        have h3 : A1.eval (.tmp 3) = .slice ua L.length uc := (inv.base 3 (by kernel_rfl)).trans rfl
        simp only [execOp, h3, Sem.run_pure]
      · refine qstep_call 25 (by kernel_rfl) _ _ (by kernel_rfl) (by kernel_rfl) rfl rfl (fun _ A1 W1 inv hnl hall => ⟨wanted_none rfl, #[.slice ua L.length uc], ?_, ?_⟩)
        · have h11 : A1.eval (.tmp 11) = .slice ua L.length uc := inv.get hall 0 11 (by kernel_rfl) (by kernel_rfl) rfl
          simp [h11]
        · refine (bisbuf _ L _ (HU.out.below inv.s.old) HS.out).mono ?_
          rintro e u ⟨x, rfl, hx, hb⟩
          exact ⟨_, rfl, hx, hb⟩
      · refine qstep_val (.agg #[.int .i64 p, .bool b]) (by kernel_rfl) (by kernel_rfl) rfl (fun _ A1 W1 inv hnl hall => ⟨wanted_none rfl, ?_, rfl⟩)
        have h4 : A1.eval (.tmp 4) = .pointer (some ⟨w.heap.size, 0, none⟩) := (inv.base 4 (by kernel_rfl)).trans rfl
        obtain ⟨g0, g1⟩ := posLoad inv.s.box
        simp only [execOp, h4]
        simp [go_sem, g0, g1]
      · refine qstep_val (.int .i64 n) (by kernel_rfl) (by kernel_rfl) rfl (fun _ A1 W1 inv hnl hall => ⟨wanted_none rfl, ?_, rfl⟩)
        have h1 : A1.eval (.tmp 1) = .int .i64 n := (inv.base 1 (by kernel_rfl)).trans rfl
        simp only [execOp, h1, Sem.run_pure]
      · refine qstep_call 42 (by kernel_rfl) _ _ (by kernel_rfl) (by kernel_rfl) rfl rfl (fun _ A1 W1 inv hnl hall => ⟨wanted_none rfl, #[.agg #[.int .i64 p, .bool b], .int .i64 n], ?_, ?_⟩)
        · have h13 : A1.eval (.tmp 13) = .agg #[.int .i64 p, .bool b] := inv.get hall 2 13 (by kernel_rfl) (by kernel_rfl) rfl
          have h14 : A1.eval (.tmp 14) = .int .i64 n := inv.get hall 3 14 (by kernel_rfl) (by kernel_rfl) rfl
          simp [h13, h14]
        · refine (bispla p n b _).mono ?_
          rintro e u ⟨x, rfl, hx, hb⟩
          exact ⟨_, rfl, hx, hb⟩
      · refine qstep_val (.int .i64 id) (by kernel_rfl) (by kernel_rfl) rfl (fun _ A1 W1 inv hnl hall => ⟨wanted_none rfl, ?_, rfl⟩)
        have h2 : A1.eval (.tmp 2) = .int .i64 id := (inv.base 2 (by kernel_rfl)).trans rfl
        simp only [execOp, h2, Sem.run_pure]
      · refine qstep_val (.int .i64 n) (by kernel_rfl) (by kernel_rfl) rfl (fun _ A1 W1 inv hnl hall => ⟨wanted_none rfl, ?_, rfl⟩)
        have h1 : A1.eval (.tmp 1) = .int .i64 n := (inv.base 1 (by kernel_rfl)).trans rfl
        simp only [execOp, h1, Sem.run_pure]
      · refine qstep_call 38 (by kernel_rfl) _ _ (by kernel_rfl) (by kernel_rfl) rfl rfl (fun _ A1 W1 inv hnl hall => ⟨wanted_none rfl, #[.int .i64 id, .int .i64 n], ?_, ?_⟩)
        · have h16 : A1.eval (.tmp 16) = .int .i64 id := inv.get hall 5 16 (by kernel_rfl) (by kernel_rfl) rfl
          have h17 : A1.eval (.tmp 17) = .int .i64 n := inv.get hall 6 17 (by kernel_rfl) (by kernel_rfl) rfl
          simp [h16, h17]
        · refine (bisbel id n _).mono ?_
          rintro e u ⟨x, rfl, hx, hb⟩
          exact ⟨_, rfl, hx, hb⟩
      · refine qstep_val (.slice ua L.length uc) (by kernel_rfl) (by kernel_rfl) rfl (fun _ A1 W1 inv hnl hall => ⟨wanted_none rfl, ?_, rfl⟩)
        have h3 : A1.eval (.tmp 3) = .slice ua L.length uc := (inv.base 3 (by kernel_rfl)).trans rfl
        simp only [execOp, h3, Sem.run_pure]
      · refine qstep_val (.int .i64 n) (by kernel_rfl) (by kernel_rfl) rfl (fun _ A1 W1 inv hnl hall => ⟨wanted_none rfl, ?_, rfl⟩)
        have h1 : A1.eval (.tmp 1) = .int .i64 n := (inv.base 1 (by kernel_rfl)).trans rfl
        simp only [execOp, h1, Sem.run_pure]
      · refine qstep_call 43 (by kernel_rfl) _ _ (by kernel_rfl) (by kernel_rfl) rfl rfl (fun _ A1 W1 inv hnl hall => ⟨wanted_none rfl, #[.slice ua L.length uc, .int .i64 n], ?_, ?_⟩)
        · have h19 : A1.eval (.tmp 19) = .slice ua L.length uc := inv.get hall 8 19 (by kernel_rfl) (by kernel_rfl) rfl
          have h20 : A1.eval (.tmp 20) = .int .i64 n := inv.get hall 9 20 (by kernel_rfl) (by kernel_rfl) rfl
          simp [h19, h20]
        · refine (bfits L.length n ua uc _).mono ?_
          rintro e u ⟨x, rfl, hx, hb⟩
          exact ⟨_, rfl, hx, hb⟩
      · refine qstep_run (by kernel_rfl) (by kernel_rfl) rfl (fun _ A1 W1 inv hnl hall => ⟨wanted_none rfl, ?_⟩)
        have h12 : (fun v W => Chk W v (mayE L)) (A1.eval (.tmp 12)) W1 := inv.get hall 1 12 (by kernel_rfl) (by kernel_rfl) rfl
        have h15 : (fun v W => Chk W v (chkI p n)) (A1.eval (.tmp 15)) W1 := inv.get hall 4 15 (by kernel_rfl) (by kernel_rfl) rfl
        have h18 : (fun v W => Chk W v (unlE (okI n id))) (A1.eval (.tmp 18)) W1 := inv.get hall 7 18 (by kernel_rfl) (by kernel_rfl) rfl
        have h21 : (fun v W => Chk W v (unlE (decide ((L.length : Int) ≤ n)))) (A1.eval (.tmp 21)) W1 := inv.get hall 10 21 (by kernel_rfl) (by kernel_rfl) rfl
        have hc0 := h12
        obtain ⟨f0, c0, e0, _⟩ := h12
        rw [e0] at hc0
        have hc1 := h15
        obtain ⟨f1, c1, e1, _⟩ := h15
        rw [e1] at hc1
        have hc2 := h18
        obtain ⟨f2, c2, e2, _⟩ := h18
        rw [e2] at hc2
        have hc3 := h21
        obtain ⟨f3, c3, e3, _⟩ := h21
        rw [e3] at hc3
        refine ⟨.slice (some ⟨W1.heap.size, 0, none⟩) 4 4, W1.alloc (.cells #[.func (.func f0) #[] c0, .func (.func f1) #[] c1, .func (.func f2) #[] c2, .func (.func f3) #[] c3] 84), ?_, ⟨_, rfl, by simp, chks4 _ hc0 hc1 hc2 hc3⟩, below_box _ _⟩
        simp only [execOp, List.map_toArray, List.map_cons, List.map_nil, e0, e1, e2, e3]
        simp [go_sem]
      · refine qstep_call 24 (by kernel_rfl) _ _ (by kernel_rfl) (by kernel_rfl) rfl rfl (fun _ A1 W1 inv hnl hall => ⟨wanted_none rfl, #[A1.eval (.tmp 22)], ?_, ?_⟩)
        · simp
        · have h22 : (fun v W => ChkRow W v 4 [mayE L, chkI p n, unlE (okI n id), unlE (decide ((L.length : Int) ≤ n))]) (A1.eval (.tmp 22)) W1 := inv.get hall 11 22 (by kernel_rfl) (by kernel_rfl) rfl
          obtain ⟨l, e, hl, hc⟩ := h22
          rw [e]
          refine (bfirst l 4 [mayE L, chkI p n, unlE (okI n id), unlE (decide ((L.length : Int) ≤ n))] _ rfl (by omega) hl hc).mono ?_
          rintro e1 u ⟨rfl, hb⟩
          rw [pckE_fir]
          exact ⟨_, rfl, rfl, hb⟩
      · refine qstep_val (.int .i64 (pckE p n id L)) (by kernel_rfl) (by kernel_rfl) rfl (fun _ A1 W1 inv hnl hall => ⟨wanted_none rfl, ?_, rfl⟩)
        have h23 : A1.eval (.tmp 23) = .int .i64 (pckE p n id L) := inv.get hall 12 23 (by kernel_rfl) (by kernel_rfl) rfl
        simp only [execOp, h23, Sem.run_pure]
    · intro listed A1 W1 inv hall
      have e11 : A1.eval (.tmp 11) = .slice ua L.length uc := inv.fin 0 11 (by kernel_rfl) (hall 0 (Nat.lt_of_lt_of_eq (by decide : 0 < 14) (by kernel_rfl))) rfl
      have e13 : A1.eval (.tmp 13) = .agg #[.int .i64 p, .bool b] := inv.fin 2 13 (by kernel_rfl) (hall 2 (Nat.lt_of_lt_of_eq (by decide : 2 < 14) (by kernel_rfl))) rfl
      have e14 : A1.eval (.tmp 14) = .int .i64 n := inv.fin 3 14 (by kernel_rfl) (hall 3 (Nat.lt_of_lt_of_eq (by decide : 3 < 14) (by kernel_rfl))) rfl
      have e16 : A1.eval (.tmp 16) = .int .i64 id := inv.fin 5 16 (by kernel_rfl) (hall 5 (Nat.lt_of_lt_of_eq (by decide : 5 < 14) (by kernel_rfl))) rfl
      have e17 : A1.eval (.tmp 17) = .int .i64 n := inv.fin 6 17 (by kernel_rfl) (hall 6 (Nat.lt_of_lt_of_eq (by decide : 6 < 14) (by kernel_rfl))) rfl
      have e19 : A1.eval (.tmp 19) = .slice ua L.length uc := inv.fin 8 19 (by kernel_rfl) (hall 8 (Nat.lt_of_lt_of_eq (by decide : 8 < 14) (by kernel_rfl))) rfl
      have e20 : A1.eval (.tmp 20) = .int .i64 n := inv.fin 9 20 (by kernel_rfl) (hall 9 (Nat.lt_of_lt_of_eq (by decide : 9 < 14) (by kernel_rfl))) rfl
      have e23 : A1.eval (.tmp 23) = .int .i64 (pckE p n id L) := inv.fin 12 23 (by kernel_rfl) (hall 12 (Nat.lt_of_lt_of_eq (by decide : 12 < 14) (by kernel_rfl))) rfl
      have e10 : A1.eval (.tmp 10) = .int .i64 (pckE p n id L) := inv.fin 13 10 (by kernel_rfl) (hall 13 (Nat.lt_of_lt_of_eq (by decide : 13 < 14) (by kernel_rfl))) rfl
      have p12 : (fun v W => Chk W v (mayE L)) (A1.eval (.tmp 12)) W1 := inv.fin 1 12 (by kernel_rfl) (hall 1 (Nat.lt_of_lt_of_eq (by decide : 1 < 14) (by kernel_rfl))) rfl
      obtain ⟨v12, e12⟩ : ∃ v, A1.eval (.tmp 12) = v := ⟨_, rfl⟩
      rw [e12] at p12
      have p15 : (fun v W => Chk W v (chkI p n)) (A1.eval (.tmp 15)) W1 := inv.fin 4 15 (by kernel_rfl) (hall 4 (Nat.lt_of_lt_of_eq (by decide : 4 < 14) (by kernel_rfl))) rfl
      obtain ⟨v15, e15⟩ : ∃ v, A1.eval (.tmp 15) = v := ⟨_, rfl⟩
      rw [e15] at p15
      have p18 : (fun v W => Chk W v (unlE (okI n id))) (A1.eval (.tmp 18)) W1 := inv.fin 7 18 (by kernel_rfl) (hall 7 (Nat.lt_of_lt_of_eq (by decide : 7 < 14) (by kernel_rfl))) rfl
      obtain ⟨v18, e18⟩ : ∃ v, A1.eval (.tmp 18) = v := ⟨_, rfl⟩
      rw [e18] at p18
      have p21 : (fun v W => Chk W v (unlE (decide ((L.length : Int) ≤ n)))) (A1.eval (.tmp 21)) W1 := inv.fin 10 21 (by kernel_rfl) (hall 10 (Nat.lt_of_lt_of_eq (by decide : 10 < 14) (by kernel_rfl))) rfl
      obtain ⟨v21, e21⟩ : ∃ v, A1.eval (.tmp 21) = v := ⟨_, rfl⟩
      rw [e21] at p21
      have p22 : (fun v W => ChkRow W v 4 [mayE L, chkI p n, unlE (okI n id), unlE (decide ((L.length : Int) ≤ n))]) (A1.eval (.tmp 22)) W1 := inv.fin 11 22 (by kernel_rfl) (hall 11 (Nat.lt_of_lt_of_eq (by decide : 11 < 14) (by kernel_rfl))) rfl
      obtain ⟨v22, e22⟩ : ∃ v, A1.eval (.tmp 22) = v := ⟨_, rfl⟩
      rw [e22] at p22
      have HF := inv.frame hall
      have HS9 := hid_mk inv.s
      simp only [putEnd, e11, e13, e14, e16, e17, e19, e20, e23, e10, e12, e15, e18, e21, e22, Act.put, List.setIfInBounds_toArray, List.set_cons_succ, List.set_cons_zero] at HF
      clear e11 e13 e14 e16 e17 e19 e20 e23 e10 e12 e15 e18 e21 e22 inv hall
      subst HF
      have hz := HZ.out
      rw [hz]
      have HO9 := hid_mk HS9.out.old
      have HX9 := hid_mk HS9.out.box
      clear HS9
      obtain ⟨g0, g1⟩ := posLoad HX9.out
      have gl := HX9.out.lt
      go_wp2_with fail
      refine (HC.out _ (HU.out.below HO9.out)).mono ?_
      rintro e w2 ⟨rfl, hr, hb⟩
      have HR := hid_mk hr
      have HB := hid_mk (below_then HO9.out hb)
      clear hr hb
      go_wp2_with fail
      go_ret2
      exact ⟨_, by rw [HZ.out]; rfl, pts_of_blk HR.out (pckL_len _ _ _ _ _), HB.out⟩
  · have hr : pckR p n b id L = [] := by
      unfold pckR
      rw [if_neg h]
    rw [hr]
    have hzb : (pckE p n id L != 0) = true := by simp; exact h
    obtain ⟨ua, uc, rfl⟩ := hu.len
    clear hu h hr hs hl
    go_enter Tryz.func16, Tryz.ntmps16
    go_wp2_with fail
    refine wp_region_outl3 0 [] [] []
        [(fun v _ => v = .slice ua L.length uc),
        (fun v W => Chk W v (mayE L)),
        (fun v _ => v = .agg #[.int .i64 p, .bool b]),
        (fun v _ => v = .int .i64 n),
        (fun v W => Chk W v (chkI p n)),
        (fun v _ => v = .int .i64 id),
        (fun v _ => v = .int .i64 n),
        (fun v W => Chk W v (unlE (okI n id))),
        (fun v _ => v = .slice ua L.length uc),
        (fun v _ => v = .int .i64 n),
        (fun v W => Chk W v (unlE (decide ((L.length : Int) ≤ n)))),
        (fun v W => ChkRow W v 4 [mayE L, chkI p n, unlE (okI n id), unlE (decide ((L.length : Int) ≤ n))]),
        (fun v _ => v = .int .i64 (pckE p n id L)),
        (fun v _ => v = .int .i64 (pckE p n id L))]
        (PaS w w.heap.size [.int .i64 p, .bool b] 58) (by kernel_rfl) (by kernel_rfl) (by kernel_rfl) ?_ (fun u u' hb h => h.below hb) (HP0.out) ?_ ?_ ?_ ?_ ?_
    · refine And.intro (up_eq _) ?_
      refine And.intro (fun v W W' hb h => h.below hb) ?_
      refine And.intro (up_eq _) ?_
      refine And.intro (up_eq _) ?_
      refine And.intro (fun v W W' hb h => h.below hb) ?_
      refine And.intro (up_eq _) ?_
      refine And.intro (up_eq _) ?_
      refine And.intro (fun v W W' hb h => h.below hb) ?_
      refine And.intro (up_eq _) ?_
      refine And.intro (up_eq _) ?_
      refine And.intro (fun v W W' hb h => h.below hb) ?_
      refine And.intro (fun v W W' hb h => h.below hb) ?_
      refine And.intro (up_eq _) ?_
      refine And.intro (up_eq _) ?_
      trivial
    · trivial
    · trivial
    · trivial
    · refine And.intro ?_ (And.intro ?_ (And.intro ?_ (And.intro ?_ (And.intro ?_ (And.intro ?_ (And.intro ?_ (And.intro ?_ (And.intro ?_ (And.intro ?_ (And.intro ?_ (And.intro ?_ (And.intro ?_ (And.intro ?_ (True.intro))))))))))))))
      · refine qstep_val (.slice ua L.length uc) (by kernel_rfl) (by kernel_rfl) rfl (fun _ A1 W1 inv hnl hall => ⟨wanted_none rfl, ?_, rfl⟩)
        have h3 : A1.eval (.tmp 3) = .slice ua L.length uc := (inv.base 3 (by kernel_rfl)).trans rfl
        simp only [execOp, h3, Sem.run_pure]
      · refine qstep_call 25 (by kernel_rfl) _ _ (by kernel_rfl) (by kernel_rfl) rfl rfl (fun _ A1 W1 inv hnl hall => ⟨wanted_none rfl, #[.slice ua L.length uc], ?_, ?_⟩)
        · have h11 : A1.eval (.tmp 11) = .slice ua L.length uc := inv.get hall 0 11 (by kernel_rfl) (by kernel_rfl) rfl
          simp [h11]
        · refine (bisbuf _ L _ (HU.out.below inv.s.old) HS.out).mono ?_
          rintro e u ⟨x, rfl, hx, hb⟩
          exact ⟨_, rfl, hx, hb⟩
      · refine qstep_val (.agg #[.int .i64 p, .bool b]) (by kernel_rfl) (by kernel_rfl) rfl (fun _ A1 W1 inv hnl hall => ⟨wanted_none rfl, ?_, rfl⟩)
        have h4 : A1.eval (.tmp 4) = .pointer (some ⟨w.heap.size, 0, none⟩) := (inv.base 4 (by kernel_rfl)).trans rfl
        obtain ⟨g0, g1⟩ := posLoad inv.s.box
        simp only [execOp, h4]
        simp [go_sem, g0, g1]
      · refine qstep_val (.int .i64 n) (by kernel_rfl) (by kernel_rfl) rfl (fun _ A1 W1 inv hnl hall => ⟨wanted_none rfl, ?_, rfl⟩)
        have h1 : A1.eval (.tmp 1) = .int .i64 n := (inv.base 1 (by kernel_rfl)).trans rfl
        simp only [execOp, h1, Sem.run_pure]
      · refine qstep_call 42 (by kernel_rfl) _ _ (by kernel_rfl) (by kernel_rfl) rfl rfl (fun _ A1 W1 inv hnl hall => ⟨wanted_none rfl, #[.agg #[.int .i64 p, .bool b], .int .i64 n], ?_, ?_⟩)
        · have h13 : A1.eval (.tmp 13) = .agg #[.int .i64 p, .bool b] := inv.get hall 2 13 (by kernel_rfl) (by kernel_rfl) rfl
          have h14 : A1.eval (.tmp 14) = .int .i64 n := inv.get hall 3 14 (by kernel_rfl) (by kernel_rfl) rfl
          simp [h13, h14]
        · refine (bispla p n b _).mono ?_
          rintro e u ⟨x, rfl, hx, hb⟩
          exact ⟨_, rfl, hx, hb⟩
      · refine qstep_val (.int .i64 id) (by kernel_rfl) (by kernel_rfl) rfl (fun _ A1 W1 inv hnl hall => ⟨wanted_none rfl, ?_, rfl⟩)
        have h2 : A1.eval (.tmp 2) = .int .i64 id := (inv.base 2 (by kernel_rfl)).trans rfl
        simp only [execOp, h2, Sem.run_pure]
      · refine qstep_val (.int .i64 n) (by kernel_rfl) (by kernel_rfl) rfl (fun _ A1 W1 inv hnl hall => ⟨wanted_none rfl, ?_, rfl⟩)
        have h1 : A1.eval (.tmp 1) = .int .i64 n := (inv.base 1 (by kernel_rfl)).trans rfl
        simp only [execOp, h1, Sem.run_pure]
      · refine qstep_call 38 (by kernel_rfl) _ _ (by kernel_rfl) (by kernel_rfl) rfl rfl (fun _ A1 W1 inv hnl hall => ⟨wanted_none rfl, #[.int .i64 id, .int .i64 n], ?_, ?_⟩)
        · have h16 : A1.eval (.tmp 16) = .int .i64 id := inv.get hall 5 16 (by kernel_rfl) (by kernel_rfl) rfl
          have h17 : A1.eval (.tmp 17) = .int .i64 n := inv.get hall 6 17 (by kernel_rfl) (by kernel_rfl) rfl
          simp [h16, h17]
        · refine (bisbel id n _).mono ?_
          rintro e u ⟨x, rfl, hx, hb⟩
          exact ⟨_, rfl, hx, hb⟩
      · refine qstep_val (.slice ua L.length uc) (by kernel_rfl) (by kernel_rfl) rfl (fun _ A1 W1 inv hnl hall => ⟨wanted_none rfl, ?_, rfl⟩)
        have h3 : A1.eval (.tmp 3) = .slice ua L.length uc := (inv.base 3 (by kernel_rfl)).trans rfl
        simp only [execOp, h3, Sem.run_pure]
      · refine qstep_val (.int .i64 n) (by kernel_rfl) (by kernel_rfl) rfl (fun _ A1 W1 inv hnl hall => ⟨wanted_none rfl, ?_, rfl⟩)
        have h1 : A1.eval (.tmp 1) = .int .i64 n := (inv.base 1 (by kernel_rfl)).trans rfl
        simp only [execOp, h1, Sem.run_pure]
      · refine qstep_call 43 (by kernel_rfl) _ _ (by kernel_rfl) (by kernel_rfl) rfl rfl (fun _ A1 W1 inv hnl hall => ⟨wanted_none rfl, #[.slice ua L.length uc, .int .i64 n], ?_, ?_⟩)
        · have h19 : A1.eval (.tmp 19) = .slice ua L.length uc := inv.get hall 8 19 (by kernel_rfl) (by kernel_rfl) rfl
          have h20 : A1.eval (.tmp 20) = .int .i64 n := inv.get hall 9 20 (by kernel_rfl) (by kernel_rfl) rfl
          simp [h19, h20]
        · refine (bfits L.length n ua uc _).mono ?_
          rintro e u ⟨x, rfl, hx, hb⟩
          exact ⟨_, rfl, hx, hb⟩
      · refine qstep_run (by kernel_rfl) (by kernel_rfl) rfl (fun _ A1 W1 inv hnl hall => ⟨wanted_none rfl, ?_⟩)
        have h12 : (fun v W => Chk W v (mayE L)) (A1.eval (.tmp 12)) W1 := inv.get hall 1 12 (by kernel_rfl) (by kernel_rfl) rfl
        have h15 : (fun v W => Chk W v (chkI p n)) (A1.eval (.tmp 15)) W1 := inv.get hall 4 15 (by kernel_rfl) (by kernel_rfl) rfl
        have h18 : (fun v W => Chk W v (unlE (okI n id))) (A1.eval (.tmp 18)) W1 := inv.get hall 7 18 (by kernel_rfl) (by kernel_rfl) rfl
        have h21 : (fun v W => Chk W v (unlE (decide ((L.length : Int) ≤ n)))) (A1.eval (.tmp 21)) W1 := inv.get hall 10 21 (by kernel_rfl) (by kernel_rfl) rfl
        have hc0 := h12
        obtain ⟨f0, c0, e0, _⟩ := h12
        rw [e0] at hc0
        have hc1 := h15
        obtain ⟨f1, c1, e1, _⟩ := h15
        rw [e1] at hc1
        have hc2 := h18
        obtain ⟨f2, c2, e2, _⟩ := h18
        rw [e2] at hc2
        have hc3 := h21
        obtain ⟨f3, c3, e3, _⟩ := h21
        rw [e3] at hc3
        refine ⟨.slice (some ⟨W1.heap.size, 0, none⟩) 4 4, W1.alloc (.cells #[.func (.func f0) #[] c0, .func (.func f1) #[] c1, .func (.func f2) #[] c2, .func (.func f3) #[] c3] 84), ?_, ⟨_, rfl, by simp, chks4 _ hc0 hc1 hc2 hc3⟩, below_box _ _⟩
        simp only [execOp, List.map_toArray, List.map_cons, List.map_nil, e0, e1, e2, e3]
        simp [go_sem]
      · refine qstep_call 24 (by kernel_rfl) _ _ (by kernel_rfl) (by kernel_rfl) rfl rfl (fun _ A1 W1 inv hnl hall => ⟨wanted_none rfl, #[A1.eval (.tmp 22)], ?_, ?_⟩)
        · simp
        · have h22 : (fun v W => ChkRow W v 4 [mayE L, chkI p n, unlE (okI n id), unlE (decide ((L.length : Int) ≤ n))]) (A1.eval (.tmp 22)) W1 := inv.get hall 11 22 (by kernel_rfl) (by kernel_rfl) rfl
          obtain ⟨l, e, hl, hc⟩ := h22
          rw [e]
          refine (bfirst l 4 [mayE L, chkI p n, unlE (okI n id), unlE (decide ((L.length : Int) ≤ n))] _ rfl (by omega) hl hc).mono ?_
          rintro e1 u ⟨rfl, hb⟩
          rw [pckE_fir]
          exact ⟨_, rfl, rfl, hb⟩
      · refine qstep_val (.int .i64 (pckE p n id L)) (by kernel_rfl) (by kernel_rfl) rfl (fun _ A1 W1 inv hnl hall => ⟨wanted_none rfl, ?_, rfl⟩)
        have h23 : A1.eval (.tmp 23) = .int .i64 (pckE p n id L) := inv.get hall 12 23 (by kernel_rfl) (by kernel_rfl) rfl
        simp only [execOp, h23, Sem.run_pure]
    · intro listed A1 W1 inv hall
      have e11 : A1.eval (.tmp 11) = .slice ua L.length uc := inv.fin 0 11 (by kernel_rfl) (hall 0 (Nat.lt_of_lt_of_eq (by decide : 0 < 14) (by kernel_rfl))) rfl
      have e13 : A1.eval (.tmp 13) = .agg #[.int .i64 p, .bool b] := inv.fin 2 13 (by kernel_rfl) (hall 2 (Nat.lt_of_lt_of_eq (by decide : 2 < 14) (by kernel_rfl))) rfl
      have e14 : A1.eval (.tmp 14) = .int .i64 n := inv.fin 3 14 (by kernel_rfl) (hall 3 (Nat.lt_of_lt_of_eq (by decide : 3 < 14) (by kernel_rfl))) rfl
      have e16 : A1.eval (.tmp 16) = .int .i64 id := inv.fin 5 16 (by kernel_rfl) (hall 5 (Nat.lt_of_lt_of_eq (by decide : 5 < 14) (by kernel_rfl))) rfl
      have e17 : A1.eval (.tmp 17) = .int .i64 n := inv.fin 6 17 (by kernel_rfl) (hall 6 (Nat.lt_of_lt_of_eq (by decide : 6 < 14) (by kernel_rfl))) rfl
      have e19 : A1.eval (.tmp 19) = .slice ua L.length uc := inv.fin 8 19 (by kernel_rfl) (hall 8 (Nat.lt_of_lt_of_eq (by decide : 8 < 14) (by kernel_rfl))) rfl
      have e20 : A1.eval (.tmp 20) = .int .i64 n := inv.fin 9 20 (by kernel_rfl) (hall 9 (Nat.lt_of_lt_of_eq (by decide : 9 < 14) (by kernel_rfl))) rfl
      have e23 : A1.eval (.tmp 23) = .int .i64 (pckE p n id L) := inv.fin 12 23 (by kernel_rfl) (hall 12 (Nat.lt_of_lt_of_eq (by decide : 12 < 14) (by kernel_rfl))) rfl
      have e10 : A1.eval (.tmp 10) = .int .i64 (pckE p n id L) := inv.fin 13 10 (by kernel_rfl) (hall 13 (Nat.lt_of_lt_of_eq (by decide : 13 < 14) (by kernel_rfl))) rfl
      have p12 : (fun v W => Chk W v (mayE L)) (A1.eval (.tmp 12)) W1 := inv.fin 1 12 (by kernel_rfl) (hall 1 (Nat.lt_of_lt_of_eq (by decide : 1 < 14) (by kernel_rfl))) rfl
      obtain ⟨v12, e12⟩ : ∃ v, A1.eval (.tmp 12) = v := ⟨_, rfl⟩
      rw [e12] at p12
      have p15 : (fun v W => Chk W v (chkI p n)) (A1.eval (.tmp 15)) W1 := inv.fin 4 15 (by kernel_rfl) (hall 4 (Nat.lt_of_lt_of_eq (by decide : 4 < 14) (by kernel_rfl))) rfl
      obtain ⟨v15, e15⟩ : ∃ v, A1.eval (.tmp 15) = v := ⟨_, rfl⟩
      rw [e15] at p15
      have p18 : (fun v W => Chk W v (unlE (okI n id))) (A1.eval (.tmp 18)) W1 := inv.fin 7 18 (by kernel_rfl) (hall 7 (Nat.lt_of_lt_of_eq (by decide : 7 < 14) (by kernel_rfl))) rfl
      obtain ⟨v18, e18⟩ : ∃ v, A1.eval (.tmp 18) = v := ⟨_, rfl⟩
      rw [e18] at p18
      have p21 : (fun v W => Chk W v (unlE (decide ((L.length : Int) ≤ n)))) (A1.eval (.tmp 21)) W1 := inv.fin 10 21 (by kernel_rfl) (hall 10 (Nat.lt_of_lt_of_eq (by decide : 10 < 14) (by kernel_rfl))) rfl
      obtain ⟨v21, e21⟩ : ∃ v, A1.eval (.tmp 21) = v := ⟨_, rfl⟩
      rw [e21] at p21
      have p22 : (fun v W => ChkRow W v 4 [mayE L, chkI p n, unlE (okI n id), unlE (decide ((L.length : Int) ≤ n))]) (A1.eval (.tmp 22)) W1 := inv.fin 11 22 (by kernel_rfl) (hall 11 (Nat.lt_of_lt_of_eq (by decide : 11 < 14) (by kernel_rfl))) rfl
      obtain ⟨v22, e22⟩ : ∃ v, A1.eval (.tmp 22) = v := ⟨_, rfl⟩
      rw [e22] at p22
      have HF := inv.frame hall
      have HS9 := hid_mk inv.s
      simp only [putEnd, e11, e13, e14, e16, e17, e19, e20, e23, e10, e12, e15, e18, e21, e22, Act.put, List.setIfInBounds_toArray, List.set_cons_succ, List.set_cons_zero] at HF
      clear e11 e13 e14 e16 e17 e19 e20 e23 e10 e12 e15 e18 e21 e22 inv hall
      subst HF
      have HO9 := hid_mk HS9.out.old
      have HX9 := hid_mk HS9.out.box
      clear HS9
      go_wp2_with fail
      go_ret2
      exact ⟨_, rfl, PtsAt.nil _, HO9.out⟩
set_option maxHeartbeats 4000000 in
theorem bdpone (p n : Int) (b : Bool) (id at_ m : Int) (w : World) (hp : I64 p) (hn : I64 n) (hid : I64 id) (ha : U64 at_) (hm : I64 m) :
    Calls Tryz.prog 20 #[.agg #[.int .i64 p, .bool b], .int .i64 n, .int .i64 id, .int .u64 at_, .int .i64 m] w fun e w' => e = .returned (.tuple #[pV (ponP p n b id at_ m), .int .i64 (ponE p n id m)]) ∧ Below w.heap.size w w' := by
  have HA := hid_mk (fun u1 => bispla p n b u1)
  have HI := hid_mk (fun u1 => bisbel id n u1)
  have HN := hid_mk (fun u1 => biscnt m u1)
  have HE := hid_mk (ponE_fir p n id m)
  have HB0 : Hid (Below w.heap.size w ((w.alloc (.cells #[.int .i64 p, .bool b] 58)).alloc (.cells (ptCells [zPt]).toArray 65))) := hid_mk ((below_box w _).alloc (by simp) _)
  have HX0 : Hid (BlkAt ((w.alloc (.cells #[.int .i64 p, .bool b] 58)).alloc (.cells (ptCells [zPt]).toArray 65)) w.heap.size [.int .i64 p, .bool b] 58) := hid_mk ((blk_new w [.int .i64 p, .bool b] 58).below (below_box _ _))
  have HR0 : Hid (BlkAt ((w.alloc (.cells #[.int .i64 p, .bool b] 58)).alloc (.cells (ptCells [zPt]).toArray 65)) (w.heap.size + 1) (ptCells [zPt]) 65) := hid_mk (by
    have := blk_new (w.alloc (.cells #[.int .i64 p, .bool b] 58)) (ptCells [zPt]) 65
    simpa using this)
  simp only [ptCells, zPt] at HB0 HX0 HR0
  clear hp hn hid ha hm
  by_cases h : ponB p n id m = true
  · have e1 : ponE p n id m = 0 := by unfold ponE; rw [if_pos h]
    have e2 : ponP p n b id at_ m = ⟨p, ⟨at_, 16 * m, id, (markN 4 b false : Nat)⟩⟩ := by unfold ponP; rw [if_pos h]
    rw [e1] at HE ⊢
    rw [e2]
    unfold ponB at h
    simp only [Bool.and_eq_true, decide_eq_true_eq, okI_iff] at h
    obtain ⟨h1, ⟨h2, h3⟩, h4⟩ := h
    obtain ⟨g1, g2, g3, g4⟩ := okP_t h1
    have HT := hid_mk (fun u1 => btabpart at_ m u1 h4)
    have HPu := hid_mk (fun (u1 : World) => bpcput p n id at_ (16 * m) b 0 4 u1 (by decide) h1 (by simp; omega) ⟨h2, by omega⟩)
    rw [show goA p ((0 : Nat) : Int) n = p from by simp [goA, g4], show goW p ((0 : Nat) : Int) n b = b from by simp [goW, g4], show ((0 : Nat) : Int) = 0 from rfl] at HPu
    clear e1 e2 h1 h2 h3 h4 g1 g2 g3 g4
    go_enter Tryz.func20, Tryz.ntmps20
    go_wp2_with fail
    refine (HA.out _).mono ?_
    rintro e w1 ⟨x, rfl, hx, hb1⟩
    have HX := hid_mk hx
    obtain ⟨f, caps, rfl, _⟩ := hx
    have HR1 := hid_mk (HR0.out.below hb1)
    have HQ1 := hid_mk (HX0.out.below hb1)
    have HB1 := hid_mk (below_then HB0.out hb1)
    clear hb1
    go_wp2_with fail
    refine (HI.out _).mono ?_
    rintro e w2 ⟨y, rfl, hy, hb2⟩
    have HY := hid_mk hy
    obtain ⟨f2, caps2, rfl, _⟩ := hy
    have HX2 := hid_mk (HX.out.below hb2)
    have HR2 := hid_mk (HR1.out.below hb2)
    have HQ2 := hid_mk (HQ1.out.below hb2)
    have HB2 := hid_mk (below_then HB1.out hb2)
    clear hb2
    go_wp2_with fail
    refine (HN.out _).mono ?_
    rintro e w3 ⟨z, rfl, hz, hb3⟩
    have HZ := hid_mk hz
    obtain ⟨f3, caps3, rfl, _⟩ := hz
    have HX3 := hid_mk (HX2.out.below hb3)
    have HY3 := hid_mk (HY.out.below hb3)
    have HR3 := hid_mk (HR2.out.below hb3)
    have HQ3 := hid_mk (HQ2.out.below hb3)
    have HB3 := hid_mk (below_then HB2.out hb3)
    clear hb3
    go_wp2_with fail
    refine (bfirst w3.heap.size 3 [chkI p n, unlE (okI n id), unlE (decide (1 ≤ m) && decide (m ≤ 64))] _ rfl (by omega) (by simp) (chks3 _ HX3.out HY3.out HZ.out)).mono ?_
    rintro e w4 ⟨rfl, hb4⟩
    have HB4 := hid_mk (below_then (HB3.out.alloc HB3.out.size _) hb4)
    have HR4 := hid_mk ((HR3.out.below (below_box _ _)).below hb4)
    have HQ4 := hid_mk ((HQ3.out.below (below_box _ _)).below hb4)
    rw [HE.out]
    clear hb4
    have HES : Hid (EndS w w.heap.size (w.heap.size + 1) [.int .i64 p, .bool b] 58 65 w4.drew) := hid_mk ⟨HQ4.out.below (Below.refl _ _).drew, HB4.out.drew, _, rfl, HR4.out.below (Below.refl _ _).drew⟩
    obtain ⟨bx, hbx⟩ : ∃ bx, w.heap.size = bx := ⟨_, rfl⟩
    obtain ⟨rb, hrb⟩ : ∃ rb, bx + 1 = rb := ⟨_, rfl⟩
    have HNE : Hid (bx ≠ rb) := hid_mk (by omega)
    have HWR : Hid (w.heap.size ≤ rb) := hid_mk (by omega)
    rw [hbx, hrb] at HES
    rw [hbx]
    rw [hrb]
    have HBX := hid_mk hbx
    clear hbx hrb HB0 HX0 HR0
    go_wp2_with fail
    refine wp_region_outl3 10 [(8, Put5 rb)] [] []
        [(fun v _ => v = .agg #[.int .i64 p, .bool b]),
        (fun v _ => v = .int .i64 n),
        (fun v _ => v = .int .i64 id),
        (fun v _ => v = .agg #[.int .i64 p, .bool b, .int .i64 n, .int .i64 id]),
        (fun v _ => v = .int .u64 at_),
        (fun v _ => v = .int .i64 m),
        (fun v _ => v = paV at_ (16 * m) 4),
        (fun v _ => v = pV ⟨p, ⟨at_, 16 * m, id, (markN 4 b false : Nat)⟩⟩),
        (fun _ W => BlkAt W rb (ptCells [⟨p, ⟨at_, 16 * m, id, (markN 4 b false : Nat)⟩⟩]) 65),
        (fun v _ => v = .int .i64 0)]
        (EndS w bx rb [.int .i64 p, .bool b] 58 65) (by kernel_rfl) (by kernel_rfl) (by kernel_rfl) ?_ (fun u u' hb h => h.below hb) (HES.out) ?_ ?_ ?_ ?_ ?_
    · refine And.intro (up_eq _) ?_
      refine And.intro (up_eq _) ?_
      refine And.intro (up_eq _) ?_
      refine And.intro (up_eq _) ?_
      refine And.intro (up_eq _) ?_
      refine And.intro (up_eq _) ?_
      refine And.intro (up_eq _) ?_
      refine And.intro (up_eq _) ?_
      refine And.intro (up_end _ _ _) ?_
      refine And.intro (up_eq _) ?_
      trivial
    · trivial
    · trivial
    · refine And.intro (And.intro ?_ (fun u u' hb h => h.put HNE.out HWR.out hb)) ?_
      · refine And.intro (fun _ _ _ => ch_eq _ _) ?_
        refine And.intro (fun _ _ _ => ch_eq _ _) ?_
        refine And.intro (fun _ _ _ => ch_eq _ _) ?_
        refine And.intro (fun _ _ _ => ch_eq _ _) ?_
        refine And.intro (fun _ _ _ => ch_eq _ _) ?_
        refine And.intro (fun _ _ _ => ch_eq _ _) ?_
        refine And.intro (fun _ _ _ => ch_eq _ _) ?_
        refine And.intro (fun _ _ _ => ch_eq _ _) ?_
        refine And.intro (fun h _ _ => absurd rfl h) ?_
        refine And.intro (fun _ _ _ => ch_eq _ _) ?_
        trivial
      trivial
    · refine And.intro ?_ (And.intro ?_ (And.intro ?_ (And.intro ?_ (And.intro ?_ (And.intro ?_ (And.intro ?_ (And.intro ?_ (And.intro ?_ (And.intro ?_ (True.intro))))))))))
      · refine qstep_val (.agg #[.int .i64 p, .bool b]) (by kernel_rfl) (by kernel_rfl) rfl (fun _ A1 W1 inv hnl hall => ⟨wanted_none rfl, ?_, rfl⟩)
        have h5 : A1.eval (.tmp 5) = .pointer (some ⟨bx, 0, none⟩) := (inv.base 5 (by kernel_rfl)).trans rfl
        obtain ⟨g0, g1⟩ := posLoad inv.s.box
        simp only [execOp, h5]
        simp [go_sem, g0, g1]
      · refine qstep_val (.int .i64 n) (by kernel_rfl) (by kernel_rfl) rfl (fun _ A1 W1 inv hnl hall => ⟨wanted_none rfl, ?_, rfl⟩)
        have h1 : A1.eval (.tmp 1) = .int .i64 n := (inv.base 1 (by kernel_rfl)).trans rfl
        simp only [execOp, h1, Sem.run_pure]
      · refine qstep_val (.int .i64 id) (by kernel_rfl) (by kernel_rfl) rfl (fun _ A1 W1 inv hnl hall => ⟨wanted_none rfl, ?_, rfl⟩)
        have h2 : A1.eval (.tmp 2) = .int .i64 id := (inv.base 2 (by kernel_rfl)).trans rfl
        simp only [execOp, h2, Sem.run_pure]
      · refine qstep_val (.agg #[.int .i64 p, .bool b, .int .i64 n, .int .i64 id]) (by kernel_rfl) (by kernel_rfl) rfl (fun _ A1 W1 inv hnl hall => ⟨wanted_none rfl, ?_, rfl⟩)
        have h27 : A1.eval (.tmp 27) = .agg #[.int .i64 p, .bool b] := inv.get hall 0 27 (by kernel_rfl) (by kernel_rfl) rfl
        have h28 : A1.eval (.tmp 28) = .int .i64 n := inv.get hall 1 28 (by kernel_rfl) (by kernel_rfl) rfl
        have h29 : A1.eval (.tmp 29) = .int .i64 id := inv.get hall 2 29 (by kernel_rfl) (by kernel_rfl) rfl
        simp only [execOp, List.map_toArray, List.map_cons, List.map_nil, h27, h28, h29]
        simp [go_sem]
      · refine qstep_val (.int .u64 at_) (by kernel_rfl) (by kernel_rfl) rfl (fun _ A1 W1 inv hnl hall => ⟨wanted_none rfl, ?_, rfl⟩)
        have h3 : A1.eval (.tmp 3) = .int .u64 at_ := (inv.base 3 (by kernel_rfl)).trans rfl
        simp only [execOp, h3, Sem.run_pure]
      · refine qstep_val (.int .i64 m) (by kernel_rfl) (by kernel_rfl) rfl (fun _ A1 W1 inv hnl hall => ⟨wanted_none rfl, ?_, rfl⟩)
        have h4 : A1.eval (.tmp 4) = .int .i64 m := (inv.base 4 (by kernel_rfl)).trans rfl
        simp only [execOp, h4, Sem.run_pure]
      · refine qstep_call 41 (by kernel_rfl) _ _ (by kernel_rfl) (by kernel_rfl) rfl rfl (fun _ A1 W1 inv hnl hall => ⟨wanted_none rfl, #[.int .u64 at_, .int .i64 m], ?_, ?_⟩)
        · have h31 : A1.eval (.tmp 31) = .int .u64 at_ := inv.get hall 4 31 (by kernel_rfl) (by kernel_rfl) rfl
          have h32 : A1.eval (.tmp 32) = .int .i64 m := inv.get hall 5 32 (by kernel_rfl) (by kernel_rfl) rfl
          simp [h31, h32]
        · refine (HT.out _).mono ?_
          rintro e u ⟨rfl, hb⟩
          exact ⟨_, rfl, rfl, hb⟩
      · refine qstep_call 48 (by kernel_rfl) _ _ (by kernel_rfl) (by kernel_rfl) rfl rfl (fun _ A1 W1 inv hnl hall => ⟨wanted_none rfl, #[.agg #[.int .i64 p, .bool b, .int .i64 n, .int .i64 id], .int .i64 0, paV at_ (16 * m) 4], ?_, ?_⟩)
        · have h30 : A1.eval (.tmp 30) = .agg #[.int .i64 p, .bool b, .int .i64 n, .int .i64 id] := inv.get hall 3 30 (by kernel_rfl) (by kernel_rfl) rfl
          have h33 : A1.eval (.tmp 33) = paV at_ (16 * m) 4 := inv.get hall 6 33 (by kernel_rfl) (by kernel_rfl) rfl
          simp [h30, h33, eval_c2]
        · refine (HPu.out _).mono ?_
          rintro e u ⟨rfl, hb⟩
          exact ⟨_, rfl, rfl, hb⟩
      · refine qstep_skip (by kernel_rfl) (by kernel_rfl) rfl (fun _ A1 W1 inv hnl hall => ⟨wanted_none rfl, ?_⟩)
        have h10 : A1.eval (.tmp 10) = .pointer (some ⟨rb, 0, none⟩) := (inv.base 10 (by kernel_rfl)).trans rfl
        have h34 : A1.eval (.tmp 34) = pV ⟨p, ⟨at_, 16 * m, id, (markN 4 b false : Nat)⟩⟩ := inv.get hall 7 34 (by kernel_rfl) (by kernel_rfl) rfl
        obtain ⟨C2, hC2, hr⟩ := inv.s.res
        have hend := put5_pt ⟨p, ⟨at_, 16 * m, id, (markN 4 b false : Nat)⟩⟩ hr hC2
        obtain ⟨⟨c0, c1, c2, c3, c4, rfl, hlt, k0, k1, k2, k3, k4⟩, f0, f1, f2, f3, f4⟩ := blk5 hr hC2
        refine ⟨_, ?_, hend, ⟨_, _, _, _, _, rfl⟩⟩
        simp only [execOp, h10, h34]
        simp [go_sem, k0, k1, k2, k3, k4, f0, f1, f2, f3, f4]
      · refine qstep_val (.int .i64 0) (by kernel_rfl) (by kernel_rfl) rfl (fun _ A1 W1 inv hnl hall => ⟨wanted_none rfl, ?_, rfl⟩)
        simp only [execOp, Sem.run_pure]
        rfl
    · intro listed A1 W1 inv hall
      have e27 : A1.eval (.tmp 27) = .agg #[.int .i64 p, .bool b] := inv.fin 0 27 (by kernel_rfl) (hall 0 (Nat.lt_of_lt_of_eq (by decide : 0 < 10) (by kernel_rfl))) rfl
      have e28 : A1.eval (.tmp 28) = .int .i64 n := inv.fin 1 28 (by kernel_rfl) (hall 1 (Nat.lt_of_lt_of_eq (by decide : 1 < 10) (by kernel_rfl))) rfl
      have e29 : A1.eval (.tmp 29) = .int .i64 id := inv.fin 2 29 (by kernel_rfl) (hall 2 (Nat.lt_of_lt_of_eq (by decide : 2 < 10) (by kernel_rfl))) rfl
      have e30 : A1.eval (.tmp 30) = .agg #[.int .i64 p, .bool b, .int .i64 n, .int .i64 id] := inv.fin 3 30 (by kernel_rfl) (hall 3 (Nat.lt_of_lt_of_eq (by decide : 3 < 10) (by kernel_rfl))) rfl
      have e31 : A1.eval (.tmp 31) = .int .u64 at_ := inv.fin 4 31 (by kernel_rfl) (hall 4 (Nat.lt_of_lt_of_eq (by decide : 4 < 10) (by kernel_rfl))) rfl
      have e32 : A1.eval (.tmp 32) = .int .i64 m := inv.fin 5 32 (by kernel_rfl) (hall 5 (Nat.lt_of_lt_of_eq (by decide : 5 < 10) (by kernel_rfl))) rfl
      have e33 : A1.eval (.tmp 33) = paV at_ (16 * m) 4 := inv.fin 6 33 (by kernel_rfl) (hall 6 (Nat.lt_of_lt_of_eq (by decide : 6 < 10) (by kernel_rfl))) rfl
      have e34 : A1.eval (.tmp 34) = pV ⟨p, ⟨at_, 16 * m, id, (markN 4 b false : Nat)⟩⟩ := inv.fin 7 34 (by kernel_rfl) (hall 7 (Nat.lt_of_lt_of_eq (by decide : 7 < 10) (by kernel_rfl))) rfl
      have e11 : A1.eval (.tmp 11) = .int .i64 0 := inv.fin 9 11 (by kernel_rfl) (hall 9 (Nat.lt_of_lt_of_eq (by decide : 9 < 10) (by kernel_rfl))) rfl
      have hst8 := inv.fin0 8 (by kernel_rfl) (hall 8 (Nat.lt_of_lt_of_eq (by decide : 8 < 10) (by kernel_rfl))) rfl
      have HF := inv.frame hall
      have HS9 := hid_mk inv.s
      simp only [putEnd, e27, e28, e29, e30, e31, e32, e33, e34, e11, Act.put, List.setIfInBounds_toArray, List.set_cons_succ, List.set_cons_zero] at HF
      clear e27 e28 e29 e30 e31 e32 e33 e34 e11 inv hall
      subst HF
      have HE9 := hid_mk hst8
      obtain ⟨⟨c0, c1, c2, c3, c4, hcc, hlt, k0, k1, k2, k3, k4⟩, f0, f1, f2, f3, f4⟩ := blk5 HE9.out rfl
      cases hcc
      go_wp2_with fail
      exact bodyPost_ret (v := .tuple #[pV ⟨p, ⟨at_, 16 * m, id, (markN 4 b false : Nat)⟩⟩, .int .i64 0]) (by simp [results, Tryz.results20, go_sem, k0, k1, k2, k3, k4]) rfl ⟨rfl, HS9.out.old⟩
  · have e1 : ponE p n id m = 2 := by unfold ponE; rw [if_neg h]
    have e2 : ponP p n b id at_ m = zPt := by unfold ponP; rw [if_neg h]
    rw [e1] at HE ⊢
    rw [e2]
    clear e1 e2 h
    go_enter Tryz.func20, Tryz.ntmps20
    go_wp2_with fail
    refine (HA.out _).mono ?_
    rintro e w1 ⟨x, rfl, hx, hb1⟩
    have HX := hid_mk hx
    obtain ⟨f, caps, rfl, _⟩ := hx
    have HR1 := hid_mk (HR0.out.below hb1)
    have HQ1 := hid_mk (HX0.out.below hb1)
    have HB1 := hid_mk (below_then HB0.out hb1)
    clear hb1
    go_wp2_with fail
    refine (HI.out _).mono ?_
    rintro e w2 ⟨y, rfl, hy, hb2⟩
    have HY := hid_mk hy
    obtain ⟨f2, caps2, rfl, _⟩ := hy
    have HX2 := hid_mk (HX.out.below hb2)
    have HR2 := hid_mk (HR1.out.below hb2)
    have HQ2 := hid_mk (HQ1.out.below hb2)
    have HB2 := hid_mk (below_then HB1.out hb2)
    clear hb2
    go_wp2_with fail
    refine (HN.out _).mono ?_
    rintro e w3 ⟨z, rfl, hz, hb3⟩
    have HZ := hid_mk hz
    obtain ⟨f3, caps3, rfl, _⟩ := hz
    have HX3 := hid_mk (HX2.out.below hb3)
    have HY3 := hid_mk (HY.out.below hb3)
    have HR3 := hid_mk (HR2.out.below hb3)
    have HQ3 := hid_mk (HQ2.out.below hb3)
    have HB3 := hid_mk (below_then HB2.out hb3)
    clear hb3
    go_wp2_with fail
    refine (bfirst w3.heap.size 3 [chkI p n, unlE (okI n id), unlE (decide (1 ≤ m) && decide (m ≤ 64))] _ rfl (by omega) (by simp) (chks3 _ HX3.out HY3.out HZ.out)).mono ?_
    rintro e w4 ⟨rfl, hb4⟩
    have HB4 := hid_mk (below_then (HB3.out.alloc HB3.out.size _) hb4)
    have HR4 := hid_mk ((HR3.out.below (below_box _ _)).below hb4)
    have HQ4 := hid_mk ((HQ3.out.below (below_box _ _)).below hb4)
    rw [HE.out]
    clear hb4
    obtain ⟨⟨y0, y1, y2, y3, y4, hcc, hlt, k0, k1, k2, k3, k4⟩, f0, f1, f2, f3, f4⟩ := blk5 HR4.out rfl
    cases hcc
    go_wp2_with fail
    exact bodyPost_ret (v := .tuple #[pV zPt, .int .i64 2]) (by simp [results, Tryz.results20, go_sem, zPt, k0, k1, k2, k3, k4]) rfl ⟨rfl, put5_below HB4.out (Nat.le_succ _) _ _ _ _ _⟩
end Go.Proofs.YtfhhgcgbgmilcaaGreat
