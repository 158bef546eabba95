/- Bh9 Bh10: joined texts. Conditions: as each theorem names them. -/
import Derived.Test.YtgdokgpplldddaaKp33
import Derived.Test.YtgdokgpplldddaaKp34
import Derived.Test.YtgdokgpplldddaaKp39
/- build's Needs, Split, SplitTable, PackedTable, SplitOne. Conditions: as each theorem names them. -/
namespace Go.Proofs.Ytgdokgpplldddaa
open Go.ChangeShapes Go.WideShapes Go.ChangeAt Go.RowKit
set_option linter.unusedVariables false
set_option maxRecDepth 100000

theorem chks1 {w : World} {x : Value} {E : Int} (t : TypeId) (hx : Chk w x E) : ∀ k, k < 1 → ∃ z, (w.alloc (.cells #[x] t)).cell? ⟨w.heap.size, k, none⟩ = some z ∧ Chk (w.alloc (.cells #[x] t)) z ([E].getD k 0) := fun k hk => by
  obtain rfl : k = 0 := by omega
  exact ⟨x, (blk_new w [x] t).cell 0, hx.below (below_box _ _)⟩
theorem chks2 {w : World} {x y : Value} {E F : Int} (t : TypeId) (hx : Chk w x E) (hy : Chk w y F) : ∀ k, k < 2 → ∃ z, (w.alloc (.cells #[x, y] t)).cell? ⟨w.heap.size, k, none⟩ = some z ∧ Chk (w.alloc (.cells #[x, y] t)) z ([E, F].getD k 0) := fun k hk => by
  rcases (show k = 0 ∨ k = 1 by omega) with rfl | rfl
  · exact ⟨x, (blk_new w [x, y] t).cell 0, hx.below (below_box _ _)⟩
  · exact ⟨y, (blk_new w [x, y] t).cell 1, hy.below (below_box _ _)⟩
theorem unlE_zero {b : Bool} : unlE b = 0 ↔ b = true := by cases b <;> decide
theorem fir1 (E : Int) : firE [E] = E := by
  simp only [firE]
  split
  · rename_i h
    exact h.symm
  · rfl
theorem fir2 (E F : Int) : firE [E, F] = if E = 0 then F else E := by
  rw [show firE [E, F] = if E = 0 then firE [F] else E from rfl, fir1]
theorem fir_cons (E : Int) (l : List Int) : firE (E :: l) = if E = 0 then firE l else E := rfl

set_option maxHeartbeats 1000000 in
theorem bdneeds (v : Value) (L : List Sg) (t : Bool) (w : World) (hv : SegsAt w v L) (hu : isSgs L) (hl : L.length ≤ 1000) :
    Calls Try.prog 14 #[v, .bool t] w fun e w' => e = .returned (.int .i64 (neeN L t)) ∧ Below w.heap.size w w' := by
  have HB := hid_mk (bisbuf v L w hv hu)
  obtain ⟨va, vc, rfl⟩ := hv.len
  unfold neeN
  clear hv hu hl
  by_cases h : mayE L = 0
  · rw [if_pos h]
    rw [h] at HB
    clear h
    cases t
    all_goals
      go_enter Try.func14, Try.ntmps14
      go_wp2_with fail
      refine HB.out.mono ?_
      rintro e w1 ⟨x, rfl, hx, hb1⟩
      have HX := hid_mk hx
      obtain ⟨f, caps, rfl, _⟩ := hx
      have HB1 := hid_mk hb1
      clear hb1
      go_wp2_with fail
      refine (bfirst w1.heap.size 1 [0] _ rfl (by omega) (by simp) (chks1 _ HX.out)).mono ?_
      rintro e w2 ⟨rfl, hb2⟩
      have HB2 := hid_mk (below_then (HB1.out.alloc HB1.out.size _) hb2)
      rw [fir1]
      clear hb2
      go_wp2_with fail
      go_ret
      exact ⟨rfl, HB2.out⟩
  · rw [if_neg h]
    have hz : (mayE L != 0) = true := by simp; exact h
    generalize mayE L = z at *
    go_enter Try.func14, Try.ntmps14
    go_wp2_with fail
    refine HB.out.mono ?_
    rintro e w1 ⟨x, rfl, hx, hb1⟩
    have HX := hid_mk hx
    obtain ⟨f, caps, rfl, _⟩ := hx
    have HB1 := hid_mk hb1
    clear hb1
    go_wp2_with fail
    refine (bfirst w1.heap.size 1 [z] _ rfl (by omega) (by simp) (chks1 _ HX.out)).mono ?_
    rintro e w2 ⟨rfl, hb2⟩
    have HB2 := hid_mk (below_then (HB1.out.alloc HB1.out.size _) hb2)
    rw [fir1]
    clear hb2 h
    go_wp2_with fail
    go_ret
    exact ⟨rfl, HB2.out⟩

theorem pts_of_blk {w : World} {b : Nat} {L : List Pt} {t : TypeId} {n : Nat} (h : BlkAt w b (ptCells L) t) (hn : L.length = n) : PtsAt w (.slice (some ⟨b, 0, none⟩) n n) L := by
  subst hn
  refine Or.inr ⟨b, 0, L.length, rfl, h.lt, Nat.le_refl _, fun j hj => ?_⟩
  obtain ⟨c0, c1, c2, c3, c4⟩ := ptCells_at L j hj
  refine ⟨?_, ?_, ?_, ?_, ?_⟩ <;> rw [Nat.zero_add, h.cell]
  · exact c0
  · exact c1
  · exact c2
  · exact c3
  · exact c4
theorem ds_of_blk {w : World} {b : Nat} {L : List Dsc} {t : TypeId} {n : Nat} (h : BlkAt w b (dCs L) t) (hn : L.length = n) : DescsAt w (.slice (some ⟨b, 0, none⟩) n n) L := by
  subst hn
  refine Or.inr ⟨b, 0, L.length, rfl, h.lt, Nat.le_refl _, fun j hj => ?_⟩
  obtain ⟨c0, c1, c2, c3⟩ := dCs_at L j hj
  refine ⟨?_, ?_, ?_, ?_⟩ <;> rw [Nat.zero_add, h.cell]
  · exact c0
  · exact c1
  · exact c2
  · exact c3
theorem row_r {w : World} {b n : Nat} {t : TypeId} {l : List Int} (h : Row w b t l) (hn : l.length = n) : BytesR w (.slice (some ⟨b, 0, none⟩) n n) l := by
  subst hn
  refine Or.inr ⟨b, 0, l.length, rfl, lt_blk h, Nat.le_refl _, fun j hj => ?_⟩
  rw [cellK h, Nat.zero_add]
  simp [hj, List.getD]
theorem splE_fir (I : List Int) (L : List Sg) : firE [mayE L, unlE (idsT I L.length)] = splE I L := by
  rw [fir2]
  rfl

set_option maxHeartbeats 1000000 in
theorem bdsplit (v u : Value) (I : List Int) (L : List Sg) (w : World) (hv : IntsZ w v I) (hu : SegsAt w u L) (hs : isSgs L) (hi : I.length ≤ 1000) (hl : L.length ≤ 1000) :
    Calls Try.prog 7 #[v, u] w fun e w' => ∃ x, e = .returned (.tuple #[x, .int .i64 (splE I L)]) ∧ PtsAt w' x (splR I L) ∧ Below w.heap.size w w' := by
  have HB := hid_mk (bisbuf u L w hu hs)
  have HA := hid_mk (fun u1 (h : IntsZ u1 v I) => barenum L.length v I u1 h hi)
  have HV := hid_mk hv
  have HU := hid_mk hu
  have HE := hid_mk (splE_fir I L)
  by_cases h : splE I L = 0
  · have hr : splR I L = splL I L := by
      unfold splR
      rw [if_pos h]
    have hm : mayE L = 0 := by
      by_cases hm : mayE L = 0
      · exact hm
      · unfold splE at h
        rw [if_neg hm] at h
        exact absurd h hm
    have hb : idsB I L = true := by
      cases hb : idsB I L
      · unfold splE at h
        rw [if_pos hm, hb] at h
        cases h
      · rfl
    unfold idsB at hb
    simp only [Bool.and_eq_true, decide_eq_true_eq] at hb
    obtain ⟨hb1, hb2⟩ := hb
    have HC := hid_mk (fun u1 (h1 : IntsZ u1 v I) (h2 : SegsAt u1 u L) => bchain1 v u I L u1 h1 h2 hb1 (mayE_ok hm).2 hl (fun j hj => okT_at hb2 (by omega)))
    rw [hr]
    rw [h] at HE ⊢
    obtain ⟨va, vc, rfl⟩ := hv.len
    obtain ⟨ua, uc, rfl⟩ := hu.len
    clear hv hu h hr hm hb1 hb2 hs hi hl
    go_enter Try.func7, Try.ntmps7
    go_wp2_with fail
    refine HB.out.mono ?_
    rintro e w1 ⟨x, rfl, hx, hb1⟩
    have HX := hid_mk hx
    obtain ⟨f, caps, rfl, _⟩ := hx
    have HB1 := hid_mk hb1
    clear hb1
    go_wp2_with fail
    refine (HA.out _ (HV.out.below HB1.out)).mono ?_
    rintro e w2 ⟨y, rfl, hy, hb2⟩
    have HY := hid_mk hy
    obtain ⟨f2, caps2, rfl, _⟩ := hy
    have HX2 := hid_mk (HX.out.below hb2)
    have HB2 := hid_mk (below_then HB1.out hb2)
    clear hb2
    go_wp2_with fail
    refine (bfirst w2.heap.size 2 [mayE L, unlE (idsT I L.length)] _ rfl (by omega) (by simp) (chks2 _ HX2.out HY.out)).mono ?_
    rintro e w3 ⟨rfl, hb3⟩
    have HB3 := hid_mk (below_then (HB2.out.alloc HB2.out.size _) hb3)
    rw [HE.out]
    clear hb3
    go_wp2_with fail
    refine (HC.out _ (HV.out.below HB3.out) (HU.out.below HB3.out)).mono ?_
    rintro e w4 ⟨rfl, hr, hb4⟩
    have HR := hid_mk hr
    have HB4 := hid_mk (below_then HB3.out hb4)
    clear hr hb4
    go_wp2_with fail
    go_ret2
    exact ⟨_, rfl, pts_of_blk HR.out (splL_len _ _), HB4.out⟩
  · have hr : splR I L = [] := by
      unfold splR
      rw [if_neg h]
    rw [hr]
    obtain ⟨z, hz⟩ : ∃ z, splE I L = z := ⟨_, rfl⟩
    rw [hz] at h HE ⊢
    have hzb : (z != 0) = true := by simp; exact h
    obtain ⟨va, vc, rfl⟩ := hv.len
    obtain ⟨ua, uc, rfl⟩ := hu.len
    clear hv hu h hr hs hi hl hz
    go_enter Try.func7, Try.ntmps7
    go_wp2_with fail
    refine HB.out.mono ?_
    rintro e w1 ⟨x, rfl, hx, hb1⟩
    have HX := hid_mk hx
    obtain ⟨f, caps, rfl, _⟩ := hx
    have HB1 := hid_mk hb1
    clear hb1
    go_wp2_with fail
    refine (HA.out _ (HV.out.below HB1.out)).mono ?_
    rintro e w2 ⟨y, rfl, hy, hb2⟩
    have HY := hid_mk hy
    obtain ⟨f2, caps2, rfl, _⟩ := hy
    have HX2 := hid_mk (HX.out.below hb2)
    have HB2 := hid_mk (below_then HB1.out hb2)
    clear hb2
    go_wp2_with fail
    refine (bfirst w2.heap.size 2 [mayE L, unlE (idsT I L.length)] _ rfl (by omega) (by simp) (chks2 _ HX2.out HY.out)).mono ?_
    rintro e w3 ⟨rfl, hb3⟩
    have HB3 := hid_mk (below_then (HB2.out.alloc HB2.out.size _) hb3)
    rw [HE.out]
    clear hb3
    go_wp2_with fail
    go_ret2
    exact ⟨_, rfl, PtsAt.nil _, HB3.out⟩

set_option maxHeartbeats 1000000 in
theorem bdtable (u : Value) (L : List Sg) (w : World) (hu : SegsAt w u L) (hs : isSgs L) (hl : L.length ≤ 1000) :
    Calls Try.prog 12 #[u] w fun e w' => ∃ x, e = .returned (.tuple #[x, .int .i64 (mayE L)]) ∧ BytesR w' x (stbB L) ∧ Below w.heap.size w w' := by
  have HB := hid_mk (bisbuf u L w hu hs)
  have HU := hid_mk hu
  unfold stbB
  by_cases h : mayE L = 0
  · obtain ⟨h1, h2⟩ := mayE_ok h
    have h64 := ((segE_ok hs).1 h1).1
    have HC := hid_mk (fun u1 (h : SegsAt u1 u L) => bchain3 u L u1 h h2 hl)
    have HT := hid_mk (fun v1 u1 (h : DescsAt u1 v1 (stbL L)) => table_any v1 (stbL L) u1 h (fun d hd => by
      unfold stbL at hd
      obtain ⟨p, hp, rfl⟩ := List.mem_map.1 hd
      unfold splL at hp
      obtain ⟨k, hk, rfl⟩ := List.mem_map.1 hp
      exact spl_is hs hl k (List.mem_range.1 hk)) (by rw [stbL_len]; omega))
    rw [stbL_len] at HT
    rw [if_pos h]
    rw [h] at HB ⊢
    obtain ⟨ua, uc, rfl⟩ := hu.len
    clear hu h h1 h2 h64 hs hl
    go_enter Try.func12, Try.ntmps12
    go_wp2_with fail
    refine HB.out.mono ?_
    rintro e w1 ⟨x, rfl, hx, hb1⟩
    have HX := hid_mk hx
    obtain ⟨f, caps, rfl, _⟩ := hx
    have HB1 := hid_mk hb1
    clear hb1
    go_wp2_with fail
    refine (bfirst w1.heap.size 1 [0] _ rfl (by omega) (by simp) (chks1 _ HX.out)).mono ?_
    rintro e w2 ⟨rfl, hb2⟩
    have HB2 := hid_mk (below_then (HB1.out.alloc HB1.out.size _) hb2)
    rw [fir1]
    clear hb2
    go_wp2_with fail
    refine (HC.out _ (HU.out.below HB2.out)).mono ?_
    rintro e w3 ⟨rfl, hr, hb3⟩
    have HR := hid_mk hr
    have HB3 := hid_mk (below_then HB2.out hb3)
    clear hr hb3
    go_wp2_with fail
    refine (HT.out _ _ (ds_of_blk HR.out (stbL_len _))).mono ?_
    rintro e w4 ⟨rfl, hr, hb4⟩
    have HR4 := hid_mk hr
    have HB4 := hid_mk (below_then HB3.out hb4)
    clear hr hb4
    go_wp2_with fail
    go_ret2
    exact ⟨_, rfl, row_r HR4.out (by rw [tabB_length, stbL_len]), HB4.out⟩
  · rw [if_neg h]
    have hz : (mayE L != 0) = true := by simp; exact h
    generalize mayE L = z at *
    obtain ⟨ua, uc, rfl⟩ := hu.len
    clear hu hs hl
    go_enter Try.func12, Try.ntmps12
    go_wp2_with fail
    refine HB.out.mono ?_
    rintro e w1 ⟨x, rfl, hx, hb1⟩
    have HX := hid_mk hx
    obtain ⟨f, caps, rfl, _⟩ := hx
    have HB1 := hid_mk hb1
    clear hb1
    go_wp2_with fail
    refine (bfirst w1.heap.size 1 [z] _ rfl (by omega) (by simp) (chks1 _ HX.out)).mono ?_
    rintro e w2 ⟨rfl, hb2⟩
    have HB2 := hid_mk (below_then (HB1.out.alloc HB1.out.size _) hb2)
    rw [fir1]
    clear hb2 h
    go_wp2_with fail
    go_ret2
    exact ⟨_, rfl, Or.inl ⟨rfl, rfl⟩, HB2.out⟩
end Go.Proofs.Ytgdokgpplldddaa

/- build's PackedTable, SplitOne. Conditions: as each theorem names them. -/
namespace Go.Proofs.Ytgdokgpplldddaa
open Go.ChangeShapes Go.WideShapes Go.ChangeAt Go.RowKit
set_option linter.unusedVariables false
set_option maxRecDepth 100000

/-- a descriptor's bytes behind a table of the call's own -/
theorem app_row16 {B : Nat} {w : World} {v : Value} {M : List Dsc} {d : Dsc} {g : Nat} {t : TypeId} (hv : OwnB w B v (tabB M)) (h1 : Row w g t (dB d)) (hB : B ≤ w.heap.size) (hl : M.length ≤ 1000) :
    ∃ v' w', (∀ ty, (Builtin.append_ #[49, 49] ty #[v, .slice (some ⟨g, 0, none⟩) 16 16]).run Try.prog w = .ok v' w') ∧ OwnB w' B v' (tabB (M ++ [d])) ∧ Below B w w' := by
  obtain ⟨i0, hi, hz0, hz1, hz2⟩ := info_parts rowU8
  have hlen : (tabB M).length = 16 * M.length := tabB_length M
  obtain ⟨v', w2, h1, h2, h3, _⟩ := run_append_own (P := Try.prog) w B 49 49 5 i0 _ 1 1 Try.underlying49 hi hz0 hz1 hz2 rfl (by decide) v _ _ hv ⟨g, 0, none⟩ 16 16 ((dB d).map (Value.int .u8)) (by rw [List.length_map, dB_length]) (fun j u hu => by
    have hj : j < (dB d).length := by
      have := (List.getElem?_eq_some_iff.1 hu).1
      simpa using this
    rw [show (⟨g, 0, none⟩ : Addr).add j = ⟨g, j, none⟩ from by unfold Addr.add; split <;> simp_all, cellK h1]
    simp [hj] at hu
    subst hu
    simp [hj]) one_of (by rw [hlen]; simp [maxLen]; omega) (by rw [hlen]; omega) hB
  refine ⟨v', w2, fun ty => h1, ?_, grown_below h3 hB (fun q hq => (hv.lt q hq).1)⟩
  unfold OwnB
  rw [tabB_snoc, List.length_append, dB_length, List.map_append]
  exact h2
theorem ptb_is {L : List Sg} (hs : isSgs L) (k : Nat) : isDsc (ptbD L k) := by
  obtain ⟨⟨a1, a2⟩, n1, n2⟩ := sat_is hs k
  have hf := flgN_lt (sat L k).t false
  exact ⟨⟨a1, a2⟩, ⟨n1, n2⟩, ⟨by show (0 : Int) ≤ 0; omega, by show (0 : Int) < 65536; omega⟩, ⟨by show (0 : Int) ≤ ((flgN _ _ : Nat) : Int); omega, by show ((flgN _ _ : Nat) : Int) < _; omega⟩⟩
set_option maxHeartbeats 2000000 in
theorem bdptable (u : Value) (L : List Sg) (w : World) (hu : SegsAt w u L) (hs : isSgs L) (hl : L.length ≤ 1000) :
    Calls Try.prog 21 #[u] w fun e w' => ∃ x, e = .returned (.tuple #[x, .int .i64 (mayE L)]) ∧ BytesR w' x (ptbB L) ∧ Below w.heap.size w w' := by
  have HB := hid_mk (bisbuf u L w hu hs)
  have HU := hid_mk hu
  unfold ptbB
  by_cases h : mayE L = 0
  · obtain ⟨h1, h2⟩ := mayE_ok h
    have HC := hid_mk (fun u1 (h : SegsAt u1 u L) => bchain4 u L u1 h h2 hl)
    have HP := hid_mk (fun k u1 => pbytes_any (ptbD L k) u1 (ptb_is hs k))
    have HL := hid_mk hl
    rw [if_pos h]
    rw [h] at HB ⊢
    obtain ⟨ua, uc, rfl⟩ := hu.len
    have hli : (L.length : Int) ≤ 1000 := by omega
    clear hu h h1 h2 hs hl
    go_enter Try.func21, Try.ntmps21
    go_wp2_with fail
    refine HB.out.mono ?_
    rintro e w1 ⟨x, rfl, hx, hb1⟩
    have HX := hid_mk hx
    obtain ⟨f, caps, rfl, _⟩ := hx
    have HB1 := hid_mk hb1
    clear hb1
    go_wp2_with fail
    refine (bfirst w1.heap.size 1 [0] _ rfl (by omega) (by simp) (chks1 _ HX.out)).mono ?_
    rintro e w2 ⟨rfl, hb2⟩
    have HB2 := hid_mk (below_then (HB1.out.alloc HB1.out.size _) hb2)
    rw [fir1]
    clear hb2
    go_wp2_with fail
    refine (HC.out _ (HU.out.below HB2.out)).mono ?_
    rintro e w3 ⟨rfl, hr, hb3⟩
    have HR := hid_mk hr
    have HB3 := hid_mk (below_then HB2.out hb3)
    obtain ⟨rb, hrb⟩ : ∃ rb, w2.heap.size + 1 = rb := ⟨_, rfl⟩
    rw [hrb] at HR ⊢
    clear hr hb3 hrb HB HU HC HB1 HX
    go_wp2_with fail
    go_loopw [5, 7, 19] (fun s _ i wr => ∃ k : Nat, k ≤ L.length ∧ i = .int .i64 k ∧ Hid (OwnB wr w3.heap.size s (tabB ((ptbL L).take k))) ∧ Hid (Below w3.heap.size w3 wr)) (fun _ _ i _ => L.length - (intOf i).toNat)
    case atStart => exact ⟨0, Nat.zero_le _, rfl, hid_mk (World.ownsRow_nil _ _ _ _), hid_mk (Below.refl _ _)⟩
    case round =>
      obtain ⟨k, hk, rfl, hown, hold⟩ := hrel
      by_cases hlt : k < L.length
      · have hki : (k : Int) < (L.length : Int) := by omega
        have HRk := HR.out.below hold.out
        obtain ⟨g0, g1, g2, g3⟩ := dCs_at (ptbL L) k (by rw [ptbL_len]; exact hlt)
        rw [ptbL_at2 hlt] at g0 g1 g2 g3
        have c0 := (HRk.cell (k * 4)).trans g0
        have c1 := (HRk.cell (k * 4 + 1)).trans g1
        have c2 := (HRk.cell (k * 4 + 2)).trans g2
        have c3 := (HRk.cell (k * 4 + 3)).trans g3
        have hrl := HRk.lt
        have HP1 := hid_mk (HP.out k)
        have HT := hid_mk (ptbL_take hlt)
        have HTl : Hid (((ptbL L).take k).length ≤ 1000) := hid_mk (by rw [List.length_take, ptbL_len]; have := HL.out; omega)
        obtain ⟨oa, oc, hov⟩ := own1_len hown.out
        subst hov
        generalize ptbD L k = d at *
        clear g0 g1 g2 g3 HRk
        go_wp2_with fail
        refine (HP1.out _).mono ?_
        rintro e w4 ⟨rfl, hr4, hb4⟩
        have HB4 := hid_mk (below_then (hold.out.alloc hold.out.size (.cells #[.int .u64 d.a, .int .u32 d.l, .int .u16 d.f, .int .u16 d.n] 44)) hb4)
        have HO4 := ownsRow_below (ownsRow_below hown.out (below_box wr (.cells #[.int .u64 d.a, .int .u32 d.l, .int .u16 d.f, .int .u16 d.n] 44))) hb4
        obtain ⟨v', w', h1, h2, h3⟩ := app_row16 HO4 hr4 HB4.out.size HTl.out
        rw [← HT.out] at h2
        have HRn := hid_mk h1
        have HO := hid_mk h2
        have HB5 := hid_mk (HB4.out.trans h3)
        obtain ⟨na, nc, hnv⟩ := own1_len h2
        subst hnv
        clear h1 h2 h3 hr4 hb4 HO4 hold hown c0 c1 c2 c3
        go_wp2_with (at_builtin; refine wpList_append_run (v := .slice oa (tabB ((ptbL L).take k)).length oc) (u := .slice (some ⟨_, 0, none⟩) 16 16) (v' := .slice na (tabB ((ptbL L).take (k + 1))).length nc) (w' := w') rfl _ _ 49 rfl (by first | rfl | go_simp) (by first | rfl | go_simp) (HRn.out _) ?_)
        go_roundw
        case rel => exact ⟨k + 1, by omega, by simp, HO, HB5⟩
        case measure => simp [intOf]; omega
      · obtain rfl : k = L.length := by omega
        have HO2 := hid_mk hown.out
        rw [show (ptbL L).take L.length = ptbL L from List.take_of_length_le (by rw [ptbL_len]; exact Nat.le_refl _)] at HO2
        go_wp2_with fail
        go_ret2
        exact ⟨_, rfl, own_r HO2.out, HB3.out.trans (hold.out.mono HB3.out.size)⟩
  · rw [if_neg h]
    have hz : (mayE L != 0) = true := by simp; exact h
    generalize mayE L = z at *
    obtain ⟨ua, uc, rfl⟩ := hu.len
    clear hu hs hl
    go_enter Try.func21, Try.ntmps21
    go_wp2_with fail
    refine HB.out.mono ?_
    rintro e w1 ⟨x, rfl, hx, hb1⟩
    have HX := hid_mk hx
    obtain ⟨f, caps, rfl, _⟩ := hx
    have HB1 := hid_mk hb1
    clear hb1
    go_wp2_with fail
    refine (bfirst w1.heap.size 1 [z] _ rfl (by omega) (by simp) (chks1 _ HX.out)).mono ?_
    rintro e w2 ⟨rfl, hb2⟩
    have HB2 := hid_mk (below_then (HB1.out.alloc HB1.out.size _) hb2)
    rw [fir1]
    clear hb2 h
    go_wp2_with fail
    go_ret2
    exact ⟨_, rfl, Or.inl ⟨rfl, rfl⟩, HB2.out⟩

theorem oneE_fir (id n : Int) : firE [unlE (okI 32768 id), unlE (decide (1 ≤ n) && decide (n ≤ 64))] = oneE id n := by
  rw [fir2]
  unfold oneE oneB unlE
  cases okI 32768 id <;> cases (decide (1 ≤ n) && decide (n ≤ 64)) <;> rfl
set_option maxHeartbeats 2000000 in
theorem bdone (id at_ n : Int) (w : World) (hid : I64 id) (ha : U64 at_) (hn : I64 n) :
    Calls Try.prog 10 #[.int .i64 id, .int .u64 at_, .int .i64 n] w fun e w' => e = .returned (.tuple #[pV (oneP id at_ n), .int .i64 (oneE id n)]) ∧ Below w.heap.size w w' := by
  have HA := hid_mk (fun u1 => bisbel id 32768 u1)
  have HC := hid_mk (fun u1 => biscnt n u1)
  have HE := hid_mk (oneE_fir id n)
  have HR0 := hid_mk (blk_new w (ptCells [zPt]) 40)
  have HB0 := hid_mk (below_box w (.cells (ptCells [zPt]).toArray 40))
  simp only [ptCells, zPt] at HR0 HB0
  clear hid ha hn
  by_cases h : oneB id n = true
  · have e1 : oneE id n = 0 := by unfold oneE; rw [if_pos h]
    have e2 : oneP id at_ n = ⟨id, ⟨at_, 16 * n, 4, 0⟩⟩ := by unfold oneP; rw [if_pos h]
    rw [e1] at HE ⊢
    rw [e2]
    unfold oneB at h
    simp only [Bool.and_eq_true, decide_eq_true_eq] at h
    obtain ⟨_, hn⟩ := h
    have HT := hid_mk (fun u1 => btabpart at_ n u1 hn)
    have HP := hid_mk (fun (b1 : Nat) (u1 : World) (h1 : b1 < u1.heap.size) (h2 : u1.cell? ⟨b1, 0, none⟩ = some (.int .i64 id)) => bscput b1 0 1 1 0 id 0 at_ (16 * n) 4 false u1 h1 h2 (by omega) (by omega) (fun h => by cases h) (fun _ => rfl) (by decide +kernel))
    unfold paV at HP HT
    rw [show ((4 : Nat) : Int) = 4 from rfl] at HP HT
    rw [show ((0 : Nat) : Int) = 0 from rfl] at HP
    clear e1 e2 hn
    go_enter Try.func10, Try.ntmps10
    go_wp2_with fail
    refine (HA.out _).mono ?_
    rintro e w1 ⟨x, rfl, hx, hb1⟩
    have HX := hid_mk hx
    obtain ⟨f, caps, rfl, _⟩ := hx
    have HR1 := hid_mk (HR0.out.below hb1)
    have HB1 := hid_mk (below_then HB0.out hb1)
    clear hb1
    go_wp2_with fail
    refine (HC.out _).mono ?_
    rintro e w2 ⟨y, rfl, hy, hb2⟩
    have HY := hid_mk hy
    obtain ⟨f2, caps2, rfl, _⟩ := hy
    have HX2 := hid_mk (HX.out.below hb2)
    have HR2 := hid_mk (HR1.out.below hb2)
    have HB2 := hid_mk (below_then HB1.out hb2)
    clear hb2
    go_wp2_with fail
    refine (bfirst w2.heap.size 2 [unlE (okI 32768 id), unlE (decide (1 ≤ n) && decide (n ≤ 64))] _ rfl (by omega) (by simp) (chks2 _ HX2.out HY.out)).mono ?_
    rintro e w3 ⟨rfl, hb3⟩
    have HB3 := hid_mk (below_then (HB2.out.alloc HB2.out.size _) hb3)
    have HR3 := hid_mk ((HR2.out.below (below_box _ _)).below hb3)
    rw [HE.out]
    clear hb3
    go_wp2_with fail
    refine (HT.out _).mono ?_
    rintro e w4 ⟨rfl, hb4⟩
    have c0 := (hb4.cell (p := ⟨w3.heap.size, 0, none⟩) (by simp)).trans ((blk_new w3 [.int .i64 id] 3).cell 0)
    have hl4 : w3.heap.size < w4.heap.size := Nat.lt_of_lt_of_le (by simp) hb4.size
    have HB4 := hid_mk (below_then (HB3.out.alloc HB3.out.size _) hb4)
    have HR4 := hid_mk ((HR3.out.below (below_box _ _)).below hb4)
    clear hb4
    go_wp2_with fail
    refine (HP.out _ _ hl4 c0).mono ?_
    rintro e w5 ⟨rfl, hb5⟩
    have HB5 := hid_mk (below_then HB4.out hb5)
    have HR5 := hid_mk (HR4.out.below hb5)
    obtain ⟨⟨y0, y1, y2, y3, y4, hcc, hlt, k0, k1, k2, k3, k4⟩, f0, f1, f2, f3, f4⟩ := blk5 HR5.out rfl
    cases hcc
    clear hb5 c0 hl4
    go_wp2_with fail
    exact bodyPost_ret (v := .tuple #[pV ⟨id, ⟨at_, 16 * n, 4, 0⟩⟩, .int .i64 0]) (by simp [results, Try.results10, go_sem, k0, k1, k2, k3, k4]) rfl ⟨rfl, put5_below HB5.out (Nat.le_refl _) _ _ _ _ _⟩
  · have e1 : oneE id n = 2 := by unfold oneE; rw [if_neg h]
    have e2 : oneP id at_ n = zPt := by unfold oneP; rw [if_neg h]
    rw [e1] at HE ⊢
    rw [e2]
    clear e1 e2 h
    go_enter Try.func10, Try.ntmps10
    go_wp2_with fail
    refine (HA.out _).mono ?_
    rintro e w1 ⟨x, rfl, hx, hb1⟩
    have HX := hid_mk hx
    obtain ⟨f, caps, rfl, _⟩ := hx
    have HR1 := hid_mk (HR0.out.below hb1)
    have HB1 := hid_mk (below_then HB0.out hb1)
    clear hb1
    go_wp2_with fail
    refine (HC.out _).mono ?_
    rintro e w2 ⟨y, rfl, hy, hb2⟩
    have HY := hid_mk hy
    obtain ⟨f2, caps2, rfl, _⟩ := hy
    have HX2 := hid_mk (HX.out.below hb2)
    have HR2 := hid_mk (HR1.out.below hb2)
    have HB2 := hid_mk (below_then HB1.out hb2)
    clear hb2
    go_wp2_with fail
    refine (bfirst w2.heap.size 2 [unlE (okI 32768 id), unlE (decide (1 ≤ n) && decide (n ≤ 64))] _ rfl (by omega) (by simp) (chks2 _ HX2.out HY.out)).mono ?_
    rintro e w3 ⟨rfl, hb3⟩
    have HB3 := hid_mk (below_then (HB2.out.alloc HB2.out.size _) hb3)
    have HR3 := hid_mk ((HR2.out.below (below_box _ _)).below hb3)
    rw [HE.out]
    clear hb3
    obtain ⟨⟨y0, y1, y2, y3, y4, hcc, hlt, k0, k1, k2, k3, k4⟩, f0, f1, f2, f3, f4⟩ := blk5 HR3.out rfl
    cases hcc
    go_wp2_with fail
    exact bodyPost_ret (v := .tuple #[pV zPt, .int .i64 2]) (by simp [results, Try.results10, go_sem, zPt, k0, k1, k2, k3, k4]) rfl ⟨rfl, put5_below HB3.out (Nat.le_refl _) _ _ _ _ _⟩
end Go.Proofs.Ytgdokgpplldddaa
