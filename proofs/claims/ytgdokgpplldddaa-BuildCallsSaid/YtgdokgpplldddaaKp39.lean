/- Bd6 Bd7: joined texts. Conditions: as each theorem names them. -/
import Derived.Test.YtgdokgpplldddaaKp35
import Derived.Test.YtgdokgpplldddaaKp38
/- The reference of layer 9: SplitTable. Conditions: as each theorem names them. -/
namespace Go.Proofs.Ytgdokgpplldddaa
open Go.ChangeShapes Go.WideShapes Go.ChangeAt Go.RowKit
set_option linter.unusedVariables false
set_option maxRecDepth 100000

theorem tabB_snoc (d : Dsc) : ∀ M : List Dsc, tabB (M ++ [d]) = tabB M ++ dB d
  | [] => by simp [tabB]
  | x :: M => by
    show dB x ++ tabB (M ++ [d]) = (dB x ++ tabB M) ++ dB d
    rw [tabB_snoc d M, List.append_assoc]
/-- a descriptor's bytes behind a table of the call's own -/
theorem app_dsc {B B1 : Nat} {w : World} {v v1 : Value} {M : List Dsc} {d : Dsc} (hv : OwnB w B v (tabB M)) (h1 : OwnB w B1 v1 (dB d)) (hB : B ≤ w.heap.size) (hl : M.length ≤ 1000) :
    ∃ v' w', (∀ ty, (Builtin.append_ #[49, 49] ty #[v, v1]).run Try.prog w = .ok v' w') ∧ OwnB w' B v' (tabB (M ++ [d])) ∧ Below B w w' := by
  obtain ⟨i0, hi, hz0, hz1, hz2⟩ := info_parts rowU8
  obtain ⟨g, cg, rfl, hg1, hg2, hg3, hg4⟩ := (newBytes_of h1).form (by rw [dB_length]; omega)
  have hlen : (tabB M).length = 16 * M.length := tabB_length M
  rw [dB_length] at hg3 hg4
  obtain ⟨v', w2, h1, h2, h3, _⟩ := run_append_own (P := Try.prog) w B 49 49 5 i0 _ 1 1 Try.underlying49 hi hz0 hz1 hz2 rfl (by decide) v _ _ hv ⟨g, 0, none⟩ 16 cg ((dB d).map (Value.int .u8)) (by rw [List.length_map, dB_length]) (fun j u hu => by
    have hj : j < (dB d).length := by
      have := (List.getElem?_eq_some_iff.1 hu).1
      simpa using this
    rw [show (⟨g, 0, none⟩ : Addr).add j = ⟨g, j, none⟩ from by unfold Addr.add; split <;> simp_all, hg4 j (by rw [dB_length] at hj; exact hj)]
    simp [hj] at hu
    subst hu
    simp [List.getD, hj]) one_of (by rw [hlen]; simp [maxLen]; omega) (by rw [hlen]; omega) hB
  refine ⟨v', w2, fun ty => ?_, ?_, grown_below h3 hB (fun q hq => (hv.lt q hq).1)⟩
  · rw [dB_length]
    exact h1
  · unfold OwnB
    rw [tabB_snoc, List.length_append, dB_length, List.map_append]
    exact h2
theorem numI_len (n : Nat) : (numI n).length = n := by simp [numI]
theorem numI_ok {n : Nat} (h : n ≤ 1000) : okT 32768 (numI n) (numI n).length = true := by
  refine (okT_iff (Nat.le_refl _)).2 ⟨fun x hx => ?_, ?_⟩
  · rw [List.take_length] at hx
    unfold numI at hx
    obtain ⟨i, hi, rfl⟩ := List.mem_map.1 hx
    have := List.mem_range.1 hi
    omega
  · rw [List.take_length]
    unfold numI
    exact List.pairwise_map.2 (List.Pairwise.imp (fun {a b} (hab : a ≠ b) => fun e => hab (by omega)) (show List.Pairwise (· ≠ ·) (List.range n) from List.nodup_range))
theorem spl_num {L : List Sg} (hl : L.length ≤ 1000) : splE (numI L.length) L = mayE L ∧ splR (numI L.length) L = if mayE L = 0 then splL (numI L.length) L else [] := by
  by_cases h : mayE L = 0
  · obtain ⟨e1, e2⟩ := spl_yes h (numI_len _) (numI_ok hl)
    rw [e1, e2, if_pos h, h]
    exact ⟨rfl, rfl⟩
  · obtain ⟨e1, e2⟩ := spl_bad (I := numI L.length) h
    rw [e1, e2, if_neg h]
    exact ⟨rfl, rfl⟩
theorem spl_is {L : List Sg} (hs : isSgs L) (hl : L.length ≤ 1000) (k : Nat) (hk : k < L.length) : isDsc (splD (numI L.length) L k).d := by
  obtain ⟨⟨a1, a2⟩, n1, n2⟩ := sat_is hs k
  have hf := flgN_lt (sat L k).t (nxB L k)
  refine ⟨⟨a1, a2⟩, ⟨n1, n2⟩, ⟨by show (0 : Int) ≤ ((flgN _ _ : Nat) : Int); omega, by show ((flgN _ _ : Nat) : Int) < _; omega⟩, ?_⟩
  show (0 : Int) ≤ (if nxB L k = true then (numI L.length).getD (k + 1) 0 else 0) ∧ (if nxB L k = true then (numI L.length).getD (k + 1) 0 else 0) < 65536
  by_cases h : nxB L k = true
  · rw [if_pos h]
    have h2 : k + 1 < L.length := of_decide_eq_true h
    have := okT_at (numI_ok hl) (show k + 1 < (numI L.length).length by rw [numI_len]; exact h2)
    omega
  · rw [if_neg h]
    omega
theorem ints_z {w : World} {v : Value} {L : List Nat} (h : IntsAt w v L) : IntsZ w v (L.map (fun i : Nat => (i : Int))) := by
  rcases h with ⟨h1, rfl⟩ | ⟨b, o, c, rfl, h1, h2, h3⟩
  · exact Or.inl ⟨h1, rfl⟩
  · refine Or.inr ⟨b, o, c, by rw [List.length_map], h1, by rw [List.length_map]; exact h2, fun j hj => ?_⟩
    rw [List.length_map] at hj
    rw [h3 j hj]
    simp [List.getD, hj]

theorem own1_len {B n : Nat} {w : World} {t : TypeId} {v : Value} {C : List Value} (h : w.ownsRow B t 1 v n C) : ∃ a c, v = .slice a n c := by
  rcases h.2 with ⟨rfl, h0⟩ | ⟨g, cap, cur, rfl, _⟩
  · exact ⟨none, 0, by rw [h0]⟩
  · exact ⟨_, cap, rfl⟩
theorem own1_mono {B B2 n : Nat} {w : World} {t : TypeId} {v : Value} {z : Nat} {C : List Value} (h : w.ownsRow B t z v n C) (hB : B2 ≤ B) : w.ownsRow B2 t z v n C := by
  refine ⟨h.1, ?_⟩
  rcases h.2 with hn | ⟨gg, cap, cur, rfl, hg, rest⟩
  · exact .inl hn
  · exact .inr ⟨gg, cap, cur, rfl, by omega, rest⟩
set_option maxHeartbeats 4000000 in
theorem rsplitTable (u : Value) (L : List Sg) (w : World) (hu : SegsAt w u L) (hs : isSgs L) (hl : L.length ≤ 1000) :
    Calls Try.prog 20 #[u] w fun e w' => ∃ x, e = .returned (.tuple #[x, .int .i64 (mayE L)]) ∧ OwnB w' w.heap.size x (stbB L) ∧ Below w.heap.size w w' := by
  have HSp := hid_mk (fun v u1 (h1 : IntsZ u1 v (numI L.length)) (h2 : SegsAt u1 u L) => rsplit v u (numI L.length) L u1 h1 h2 hs (by rw [numI_len]; exact hl) hl)
  rw [(spl_num hl).1, (spl_num hl).2] at HSp
  have HU := hid_mk hu
  have HL := hid_mk hl
  have hli : (L.length : Int) ≤ 1000 := by omega
  have HDs := hid_mk (fun k (hk : k < L.length) => spl_is hs hl k hk)
  obtain ⟨ua, uc, rfl⟩ := hu.len
  clear hu hs hl
  go_enter Try.func20, Try.ntmps20
  go_wp2_with fail
  go_loopw [4, 5] (fun s i wr => ∃ k : Nat, k ≤ L.length ∧ i = .int .i64 k ∧ Hid (OwnI w.heap.size wr s (List.range k)) ∧ Hid (Below w.heap.size w wr)) (fun _ i _ => L.length - (intOf i).toNat)
  case atStart => exact ⟨0, Nat.zero_le _, rfl, hid_mk (World.ownsRow_nil _ _ _ _), hid_mk (Below.refl _ _)⟩
  case round =>
    obtain ⟨k, hk, rfl, hown, hold⟩ := hrel
    by_cases hlt : k < L.length
    · have hki : (k : Int) < (L.length : Int) := by omega
      obtain ⟨v', w', h1, h2, h3⟩ := app_int k hown.out hold.out.size (by have := HL.out; simp; omega)
      obtain ⟨oa, oc, hov⟩ := hown.out.len
      obtain ⟨na, nc, hnv⟩ := h2.len
      have hn1 : (List.range k).length = k := List.length_range
      have hn2 : (List.range k ++ [k]).length = k + 1 := by simp
      rw [hn1] at hov
      rw [hn2] at hnv
      have hr : List.range k ++ [k] = List.range (k + 1) := List.range_succ.symm
      rw [hr] at h2
      subst hov
      subst hnv
      have HR := hid_mk h1
      have HO := hid_mk h2
      have HB := hid_mk (hold.out.trans h3)
      clear h1 h2 h3 hold hown
      go_wp2_with (at_builtin; refine wpList_append_run (v := .slice oa k oc) (u := .slice (some ⟨wr.heap.size, 0, none⟩) 1 1) (v' := .slice na (k + 1) nc) (w' := w') rfl _ _ 26 rfl (by first | rfl | go_simp) (by first | rfl | go_simp) (HR.out _) ?_)
      go_roundw
      case rel => exact ⟨k + 1, by omega, by simp, HO, HB⟩
      case measure => simp [intOf]; omega
    · obtain rfl : k = L.length := by omega
      have HZ := hid_mk (ints_z hown.out.ints)
      rw [show (List.range L.length).map (fun i : Nat => (i : Int)) = numI L.length from rfl] at HZ
      go_wp2_with fail
      refine (HSp.out _ _ HZ.out (HU.out.below hold.out)).mono ?_
      rintro e w1 ⟨x, rfl, hp, hb⟩
      have HF : Hid (stbB L = tabB ((if mayE L = 0 then splL (numI L.length) L else []).map Pt.d)) := hid_mk (by
        unfold stbB stbL
        by_cases h : mayE L = 0
        · rw [if_pos h, if_pos h]
        · rw [if_neg h, if_neg h]
          rfl)
      have HI : Hid (∀ k, k < (if mayE L = 0 then splL (numI L.length) L else []).length → isDsc (ptat (if mayE L = 0 then splL (numI L.length) L else []) k).d) := hid_mk (by
        by_cases h : mayE L = 0
        · rw [if_pos h]
          intro k hk
          rw [splL_len] at hk
          rw [splL_at hk]
          exact HDs.out k hk
        · rw [if_neg h]
          intro k hk
          simp at hk)
      have HLn : Hid ((if mayE L = 0 then splL (numI L.length) L else []).length ≤ 1000) := hid_mk (by
        by_cases h : mayE L = 0
        · rw [if_pos h, splL_len]
          exact HL.out
        · rw [if_neg h]
          simp)
      generalize (if mayE L = 0 then splL (numI L.length) L else []) = P at *
      have HP := hid_mk hp.at
      obtain ⟨xa, xc, rfl⟩ := hp.at.len
      have HB1 := hid_mk (below_then hold.out hb)
      clear hp hb hold hown HSp HU HDs HZ
      go_wp2_with fail
      have hpl : (P.length : Int) ≤ 1000 := by
        have := HLn.out
        omega
      go_loopw [8, 9] (fun s i wr => ∃ k : Nat, k ≤ P.length ∧ i = .int .i64 k ∧ Hid (OwnB wr w1.heap.size s (tabB ((P.map Pt.d).take k))) ∧ Hid (Below w1.heap.size w1 wr)) (fun _ i _ => P.length - (intOf i).toNat)
      case atStart => exact ⟨0, Nat.zero_le _, rfl, hid_mk (World.ownsRow_nil _ _ _ _), hid_mk (Below.refl _ _)⟩
      case round =>
        obtain ⟨k, hk, rfl, hO, hbel⟩ := hrel
        by_cases hlt : k < P.length
        · have hki : (k : Int) < (P.length : Int) := by omega
          obtain ⟨g, o, rfl, hg1, hg2⟩ : ∃ g o, xa = some ⟨g, o, none⟩ ∧ g < wr.heap.size ∧ at5 wr g (o + k * 5) (ptat P k) := by
            rcases HP.out.below hbel.out with ⟨_, e⟩ | ⟨g, o, c, he, h1, h2, h3⟩
            · rw [e] at hlt
              simp at hlt
            · cases he
              exact ⟨g, o, rfl, h1, h3 k hlt⟩
          obtain ⟨_, c0, c1, c2, c3⟩ := hg2
          have hd := HI.out k hlt
          have HT : Hid ((P.map Pt.d).take (k + 1) = (P.map Pt.d).take k ++ [(ptat P k).d]) := hid_mk (by
            rw [List.take_succ_eq_append_getElem (by simpa using hlt)]
            simp [ptat, List.getD, hlt])
          have HTl : Hid (((P.map Pt.d).take k).length ≤ 1000) := hid_mk (by rw [List.length_take, List.length_map]; have := HLn.out; omega)
          generalize (ptat P k).d = d at *
          have HRB := hid_mk (rbytes_any d wr hd)
          go_wp2_with fail
          clear c0 c1 c2 c3
          refine HRB.out.mono ?_
          rintro e w2 ⟨v1, rfl, ho1, hb2⟩
          obtain ⟨v', w', h1, h2, h3⟩ := app_dsc (ownsRow_below hO.out hb2) ho1 (Nat.le_trans hbel.out.size hb2.size) HTl.out
          rw [← HT.out] at h2
          have HR := hid_mk h1
          have HO := hid_mk h2
          have HB := hid_mk ((below_then hbel.out hb2).trans h3)
          obtain ⟨oa, oc, hov⟩ := own1_len hO.out
          obtain ⟨na, nc, hnv⟩ := own1_len h2
          obtain ⟨da, dc, hdv⟩ := own1_len ho1
          subst hov
          subst hnv
          subst hdv
          clear h1 h2 h3 ho1 hb2 hO hbel
          go_wp2_with (at_builtin; refine wpList_append_run (v := .slice oa (tabB ((P.map Pt.d).take k)).length oc) (u := .slice da (dB d).length dc) (v' := .slice na (tabB ((P.map Pt.d).take (k + 1))).length nc) (w' := w') rfl _ _ 49 rfl (by first | rfl | go_simp) (by first | rfl | go_simp) (HR.out _) ?_)
          go_roundw
          case rel => exact ⟨k + 1, by omega, by simp, HO, HB⟩
          case measure => simp [intOf]; omega
        · obtain rfl : k = P.length := by omega
          have HO2 := hid_mk hO.out
          rw [List.take_of_length_le (by rw [List.length_map]; exact Nat.le_refl _), ← HF.out] at HO2
          go_wp2_with fail
          go_ret2
          exact ⟨_, rfl, own1_mono HO2.out HB1.out.size, HB1.out.trans (hbel.out.mono HB1.out.size)⟩
end Go.Proofs.Ytgdokgpplldddaa

/- The reference of layer 9: PackedTable. Conditions: as each theorem names them. -/
namespace Go.Proofs.Ytgdokgpplldddaa
open Go.ChangeShapes Go.WideShapes Go.ChangeAt Go.RowKit
set_option linter.unusedVariables false
set_option maxRecDepth 100000

theorem own1_set {B n : Nat} {w : World} {t t2 : TypeId} {v : Value} {C C2 : List Value} {db i : Nat} (h : w.ownsRow B t 1 v n C) (hne : t ≠ t2) (hb : BlkAt w db C2 t2) (x : Value) : (w.setCell ⟨db, i, none⟩ x).ownsRow B t 1 v n C := by
  refine ⟨h.1, ?_⟩
  rcases h.2 with hn | ⟨gg, cap, cur, rfl, hg, hh, rest⟩
  · exact .inl hn
  · refine .inr ⟨gg, cap, cur, rfl, hg, (Below.heap_setCell w ⟨db, i, none⟩ x gg (fun e => ?_)).trans hh, rest⟩
    have e : gg = db := e
    subst e
    have h2 : w.heap[gg]? = some (.cells C2.toArray t2 (0, 0)) := hb
    rw [hh] at h2
    injection h2 with h2
    injection h2 with _ h3
    exact hne h3
set_option maxHeartbeats 4000000 in
theorem rpackedTable (u : Value) (L : List Sg) (w : World) (hu : SegsAt w u L) (hs : isSgs L) (hl : L.length ≤ 1000) :
    Calls Try.prog 22 #[u] w fun e w' => ∃ x, e = .returned (.tuple #[x, .int .i64 (mayE L)]) ∧ OwnB w' w.heap.size x (ptbB L) ∧ Below w.heap.size w w' := by
  have HM := hid_mk (rmay u L w hu hs hl)
  have HU := hid_mk hu
  have HL := hid_mk hl
  have HS := hid_mk hs
  have hli : (L.length : Int) ≤ 1000 := by omega
  obtain ⟨ua, uc, rfl⟩ := hu.len
  unfold ptbB
  clear hu hs hl
  by_cases hm : mayE L = 0
  · rw [if_pos hm]
    rw [hm] at HM ⊢
    obtain ⟨_, hpos⟩ := mayE_ok hm
    obtain ⟨b2, o2, rfl, hd1, hd3⟩ : ∃ b2 o2, ua = some ⟨b2, o2, none⟩ ∧ b2 < w.heap.size ∧ ∀ j, j < L.length → at3 w b2 (o2 + j * 3) (sat L j) := by
      rcases HU.out with ⟨_, e⟩ | ⟨b, o, c, he, h1, h2, h3⟩
      · rw [e] at hpos
        simp at hpos
      · cases he
        exact ⟨b, o, rfl, h1, h3⟩
    have HD := hid_mk hd3
    clear hd3 hm HU
    go_enter Try.func22, Try.ntmps22
    go_wp2_with fail
    refine HM.out.mono ?_
    rintro e w1 ⟨rfl, m0, rfl⟩
    go_wp2_with fail
    go_loopw [5, 6, 7] (fun s i _ wr => ∃ k : Nat, k ≤ L.length ∧ i = .int .i64 k ∧ Hid (OwnB wr w.heap.size s (tabB ((ptbL L).take k))) ∧ Hid (Below w.heap.size w wr)) (fun _ i _ _ => L.length - (intOf i).toNat)
    case atStart => exact ⟨0, Nat.zero_le _, rfl, hid_mk (World.ownsRow_nil _ _ _ _), hid_mk (below_drewN _ _)⟩
    case round =>
      obtain ⟨k, hk, rfl, hown, hold⟩ := hrel
      by_cases hlt : k < L.length
      · obtain ⟨d0, d1, d2⟩ := (HD.out k hlt).below hold.out hd1
        have hdw : b2 < wr.heap.size := Nat.lt_of_lt_of_le hd1 hold.out.size
        have HT3 := hid_mk (ptbL_take hlt)
        have hki : (k : Int) < (L.length : Int) := by omega
        obtain ⟨oa, oc, hov⟩ := own1_len hown.out
        have HX := hid_mk (blk_new wr (dC ⟨(sat L k).a, (sat L k).n, 0, 0⟩) 44)
        have HBx := hid_mk (below_box wr (.cells (dC ⟨(sat L k).a, (sat L k).n, 0, 0⟩).toArray 44))
        have HDb : Hid (w.heap.size ≤ wr.heap.size) := hid_mk hold.out.size
        simp only [dC] at HX HBx
        unfold ptbD at HT3
        have HLT := hid_mk hlt
        have HTl : Hid (((ptbL L).take k).length ≤ 1000) := hid_mk (by rw [List.length_take, ptbL_len]; have := HL.out; omega)
        obtain ⟨hsa, hsn⟩ := sat_is HS.out k
        obtain ⟨m, hm⟩ : ∃ m, (tabB ((ptbL L).take k)).length = m := ⟨_, rfl⟩
        rw [hm] at hov
        subst hov
        clear hm
        generalize (sat L k).a = sa at *
        generalize (sat L k).n = sn at *
        generalize (sat L k).t = st at *
        go_wp2_with fail
        go_region
        obtain ⟨U0, hU0⟩ : ∃ U0, U0 = (wr.alloc (.cells #[.int .u64 sa, .int .u32 sn, .int .u16 0, .int .u16 0] 44)).drew := ⟨_, rfl⟩
        rw [← hU0]
        obtain ⟨db, hdb⟩ : ∃ db, wr.heap.size = db := ⟨_, rfl⟩
        have HBd : Hid (Below wr.heap.size wr U0) := hid_mk (by rw [hU0]; exact HBx.out.drew)
        have HX0 : Hid (BlkAt U0 db [.int .u64 sa, .int .u32 sn, .int .u16 0, .int .u16 0] 44) := hid_mk (by rw [hU0, ← hdb]; exact HX.out.below (Below.refl _ _).drew)
        have HOld : Hid (Below w.heap.size w U0) := hid_mk (hold.out.trans (HBd.out.mono hold.out.size))
        have HO := hid_mk (ownsRow_below hown.out HBd.out)
        replace d2 := (HBd.out.cell (p := ⟨b2, o2 + k * 3 + 2, none⟩) hdw).trans d2
        have hdw0 : b2 < U0.heap.size := Nat.lt_of_lt_of_le hdw HBd.out.size
        rw [hdb] at HDb ⊢
        clear d0 d1 hU0 HX HBx HBd hown hold hdw hdb
        cases st
        · obtain ⟨lx, x0, x1, x2, x3, f0, f1, f2, f3⟩ := blk4 HX0.out
          rw [show ((flgN false false : Nat) : Int) = 0 from rfl] at HT3
          have HX1 : Hid (BlkAt U0 db (dC ⟨sa, sn, 0, 0⟩) 44) := HX0
          have HB1 := HOld
          have HO1 := HO
          go_wp2_with fail
          have hd : isDsc ⟨sa, sn, 0, 0⟩ := ⟨hsa, hsn, ⟨by simp, by simp⟩, ⟨by simp, by simp⟩⟩
          refine (rpbytes_any ⟨sa, sn, 0, 0⟩ _ hd).mono ?_
          rintro e w2 ⟨v1, rfl, ho1, hb2⟩
          obtain ⟨v', w', h1, h2, h3⟩ := app_dsc (ownsRow_below HO1.out hb2) ho1 (Nat.le_trans HB1.out.size hb2.size) HTl.out
          rw [← HT3.out] at h2
          have HR := hid_mk h1
          have HO2 := hid_mk h2
          have HB2 := hid_mk ((below_then HB1.out hb2).trans h3)
          obtain ⟨na, nc, hnv⟩ := own1_len h2
          obtain ⟨da, dc, hdv⟩ := own1_len ho1
          subst hnv
          subst hdv
          clear h1 h2 h3 ho1 hb2
          go_wp2_with (at_builtin; refine wpList_append_run (v := .slice oa m oc) (u := .slice da (dB ⟨sa, sn, 0, 0⟩).length dc) (v' := .slice na (tabB ((ptbL L).take (k + 1))).length nc) (w' := w') rfl _ _ 49 rfl (by first | rfl | go_simp) (by first | rfl | go_simp) (HR.out _) ?_)
          go_roundw
          case rel => exact ⟨k + 1, by have := HLT.out; omega, by simp, HO2, HB2⟩
          case measure => simp [intOf]; have := HLT.out; omega
        · obtain ⟨lx, x0, x1, x2, x3, f0, f1, f2, f3⟩ := blk4 HX0.out
          rw [show ((flgN true false : Nat) : Int) = 2 from rfl] at HT3
          have HX1 : Hid (BlkAt (U0.setCell ⟨db, 3, none⟩ (.int .u16 2)) db (dC ⟨sa, sn, 0, 2⟩) 44) := hid_mk (HX0.out.set 3 (.int .u16 2))
          have HB1 : Hid (Below w.heap.size w (U0.setCell ⟨db, 3, none⟩ (.int .u16 2))) := hid_mk (HOld.out.setCell HDb.out _)
          have HO1 : Hid (OwnB (U0.setCell ⟨db, 3, none⟩ (.int .u16 2)) w.heap.size (.slice oa m oc) (tabB ((ptbL L).take k))) := hid_mk (own1_set HO.out (by decide) HX0.out _)
          obtain ⟨ly, y0, y1, y2, y3, g0, g1, g2, g3⟩ := blk4 HX1.out
          go_wp2_with fail
          have hd : isDsc ⟨sa, sn, 0, 2⟩ := ⟨hsa, hsn, ⟨by simp, by simp⟩, ⟨by simp, by simp⟩⟩
          refine (rpbytes_any ⟨sa, sn, 0, 2⟩ _ hd).mono ?_
          rintro e w2 ⟨v1, rfl, ho1, hb2⟩
          obtain ⟨v', w', h1, h2, h3⟩ := app_dsc (ownsRow_below HO1.out hb2) ho1 (Nat.le_trans HB1.out.size hb2.size) HTl.out
          rw [← HT3.out] at h2
          have HR := hid_mk h1
          have HO2 := hid_mk h2
          have HB2 := hid_mk ((below_then HB1.out hb2).trans h3)
          obtain ⟨na, nc, hnv⟩ := own1_len h2
          obtain ⟨da, dc, hdv⟩ := own1_len ho1
          subst hnv
          subst hdv
          clear h1 h2 h3 ho1 hb2
          go_wp2_with (at_builtin; refine wpList_append_run (v := .slice oa m oc) (u := .slice da (dB ⟨sa, sn, 0, 2⟩).length dc) (v' := .slice na (tabB ((ptbL L).take (k + 1))).length nc) (w' := w') rfl _ _ 49 rfl (by first | rfl | go_simp) (by first | rfl | go_simp) (HR.out _) ?_)
          go_roundw
          case rel => exact ⟨k + 1, by have := HLT.out; omega, by simp, HO2, HB2⟩
          case measure => simp [intOf]; have := HLT.out; omega
      · obtain rfl : k = L.length := by omega
        have HO2 := hid_mk hown.out
        rw [show (ptbL L).take L.length = ptbL L from List.take_of_length_le (by rw [ptbL_len]; exact Nat.le_refl _)] at HO2
        go_wp2_with fail
        go_ret2
        exact ⟨_, rfl, HO2.out, hold.out⟩
  · rw [if_neg hm]
    have hb : (mayE L != 0) = true := by simp; exact hm
    generalize mayE L = z at *
    clear hm HU
    go_enter Try.func22, Try.ntmps22
    go_wp2_with fail
    refine HM.out.mono ?_
    rintro e w1 ⟨rfl, m, rfl⟩
    go_wp2_with fail
    go_ret2
    exact ⟨_, rfl, World.ownsRow_nil _ _ _ _, below_drewN _ _⟩
/-- bytes that a function gave: nil, or a slice -/
def BytesR (w : World) (v : Value) (l : List Int) : Prop :=
  (v = .slice none 0 0 ∧ l = []) ∨ ∃ b o c : Nat, v = .slice (some ⟨b, o, none⟩) l.length c ∧ b < w.heap.size ∧ l.length ≤ c ∧ ∀ j, j < l.length → w.cell? ⟨b, o + j, none⟩ = some (.int .u8 (l.getD j 0))
theorem BytesR.at {w : World} {v : Value} {l : List Int} (h : BytesR w v l) : BytesAt w v l := by
  rcases h with ⟨h1, h2⟩ | h
  · exact Or.inl ⟨⟨none, 0, h1, fun _ => rfl⟩, h2⟩
  · exact Or.inr h
theorem BytesR.below {w w' : World} {v : Value} {l : List Int} (h : BytesR w v l) (hb : Below w.heap.size w w') : BytesR w' v l := by
  rcases h with h | ⟨b, o, c, h1, h2, h3, h4⟩
  · exact Or.inl h
  · have := hb.size
    exact Or.inr ⟨b, o, c, h1, by omega, h3, fun j hj => (hb.cell (p := ⟨b, o + j, none⟩) h2).trans (h4 j hj)⟩
theorem convBR {w : World} {v : Value} {l : List Int} (h : BytesR w v l) : (convert 49 9 v).run Try.prog w = .ok (.string (strOfNums l)) w := by
  rcases h with ⟨rfl, rfl⟩ | ⟨b, o, c, rfl, h1, h2, h3⟩
  · exact run_convert_bytes_nil w 49 5 Try.underlying49 Try.underlying5 0 0 9 Try.underlying9
  · exact run_convert_bytes_arg w 49 5 Try.underlying49 Try.underlying5 b o l.length c l rfl (fun i hi => by rw [h3 i (by omega)]) 9 Try.underlying9
theorem own_r {B : Nat} {w : World} {v : Value} {l : List Int} (h : OwnB w B v l) : BytesR w v l := by
  rcases newBytes_of h with ⟨h1, h2⟩ | ⟨b, c, h1, h2, h3, cs, h4, h5⟩
  · exact Or.inl ⟨h1, h2⟩
  · refine Or.inr ⟨b, 0, c, h1, lt_blk h4, h3, fun j hj => ?_⟩
    rw [cellK h4, Nat.zero_add, List.getElem?_append_left (by simpa using hj)]
    simp [hj, List.getD]
end Go.Proofs.Ytgdokgpplldddaa
