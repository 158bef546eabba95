/- Sg5 Sg6: joined texts. Conditions: as each theorem names them. -/
import Derived.Test.YteolnghnlfeakaaKp10
/- The reference's Part and Cut of layer 5; kit.SameSegs. Conditions: as each theorem names them. -/
namespace Go.Proofs.Yteolnghnlfeakaa
open Go.ChangeShapes Go.WideShapes Go.ChangeAt Go.RowKit
set_option linter.unusedVariables false
set_option maxRecDepth 100000

theorem partS_append (t : Bool) (a b : List Sg) : partS t (a ++ b) = partS t a ++ partS t b := by
  unfold partS
  exact List.filter_append ..
theorem partS_step {t : Bool} {L : List Sg} {k : Nat} (h : k < L.length) : partS t (L.take (k + 1)) = partS t (L.take k) ++ if (sat L k).t = t then [sat L k] else [] := by
  rw [take_sat h, partS_append]
  congr 1
  by_cases hq : (sat L k).t = t
  · rw [partS_yes hq, if_pos hq]
    rfl
  · rw [partS_no hq, if_neg hq]
    rfl
theorem partS_le (t : Bool) (L : List Sg) : (partS t L).length ≤ L.length := by
  unfold partS
  exact List.length_filter_le ..
theorem seg_pos {L : List Sg} (h : segE L ≠ 0) : 0 < L.length := by
  rcases Nat.eq_zero_or_pos L.length with q | q
  · rw [List.length_eq_zero_iff.1 q] at h
    exact absurd rfl h
  · exact q

set_option maxHeartbeats 4000000 in
theorem rsegpart (v : Value) (t : Bool) (L : List Sg) (w : World) (hv : SegsAt w v L) (hu : isSgs L) :
    Calls Try.prog 25 #[v, .bool t] w fun e w' => ∃ v', e = .returned v' ∧ OwnS w.heap.size w' v' (partE t L) ∧ Below w.heap.size w w' := by
  have HCk := hid_mk (fun u (hb : Below w.heap.size w u) => rsegchk v L u (hv.below hb) hu)
  have HV := hid_mk hv
  rcases hv with ⟨⟨va, vc, rfl, _⟩, rfl⟩ | ⟨b, o, c, rfl, hb1, hb2, hb3⟩
  · have e1 : partE t [] = [] := by
      unfold partE
      split <;> rfl
    rw [e1]
    go_enter Try.func25, Try.ntmps25
    go_wp2
    go_loop [5, 6] (fun a i => a = .slice none 0 0 ∧ i = .int .i64 0) (fun _ i => 0)
    case atStart => exact ⟨rfl, rfl⟩
    case round =>
      obtain ⟨rfl, rfl⟩ := hrel
      go_wp2
      go_ret
      exact ⟨_, rfl, World.ownsRow_nil _ _ _ _, Below.refl _ _⟩
  · by_cases hE : segE L = 0
    · have e1 : partE t L = partS t L := by
        unfold partE
        rw [if_pos hE]
      rw [e1]
      obtain ⟨o1, o2, o3⟩ := (segE_ok hu).1 hE
      rw [hE] at HCk
      have HC := hid_mk hb3
      have h64i : (L.length : Int) ≤ 64 := by omega
      clear hb3 hu e1 o2 o3 hE
      go_enter Try.func25, Try.ntmps25
      go_wp2
      go_loopw [5, 6] (fun a i wr => ∃ (k : Nat) (vo : Value), k ≤ L.length ∧ i = .int .i64 k ∧ vo = a ∧ Hid (OwnS w.heap.size wr vo (partS t (L.take k))) ∧ Hid (Below w.heap.size w wr)) (fun _ i _ => L.length - (intOf i).toNat)
      case atStart => exact ⟨0, _, Nat.zero_le _, rfl, rfl, hid_mk (World.ownsRow_nil _ _ _ _), hid_mk (Below.refl _ _)⟩
      case round =>
        obtain ⟨k, vo, hk, rfl, rfl, hown, hbel⟩ := hrel
        by_cases hlt : k < L.length
        · obtain ⟨c0', c1', c2'⟩ := HC.out k hlt
          have hst := partS_step (t := t) hlt
          have hle := partS_le t (L.take k)
          rw [List.length_take] at hle
          go_wp2_with fail
          refine (HCk.out _ hbel.out).mono ?_
          rintro e w' ⟨rfl, m2, hm2⟩
          have hb2 : Below w.heap.size w w' := by
            rw [hm2]
            exact below_dn hbel.out m2
          have ho2 : OwnS w.heap.size w' vo (partS t (L.take k)) := by
            rw [hm2]
            exact hown.out
          obtain ⟨c0, c1, c2⟩ := HC.out k hlt
          have d0 := (hb2.cell (p := ⟨b, o + k * 3, none⟩) hb1).trans c0
          have d1 := (hb2.cell (p := ⟨b, o + k * 3 + 1, none⟩) hb1).trans c1
          have d2 := (hb2.cell (p := ⟨b, o + k * 3 + 2, none⟩) hb1).trans c2
          have HB2 := hid_mk hb2
          have HO2 := hid_mk ho2
          clear hm2 c0 c1 c2 c0' c1' c2' hb2 ho2
          by_cases ht : (sat L k).t = t
          · rw [if_pos ht] at hst
            obtain ⟨g, cap, w3, hrun, ho3, hb3⟩ := app_seg (sat L k) HO2.out HB2.out.size (by omega)
            have HR := hid_mk hrun
            have HO3 := hid_mk ho3
            have HB3 := hid_mk (HB2.out.trans hb3)
            have HST := hid_mk hst
            have htb : ((sat L k).t == t) = true := by simp [ht]
            clear hrun ho3 hb3 hst ht
            generalize (partS t (L.take k)).length = q at *
            go_wp2_with (at_builtin; refine wpList_append_run (v := vo) (u := .slice (some ⟨w'.heap.size, 0, none⟩) 1 1) (v' := .slice (some ⟨g, 0, none⟩) (q + 1) cap) (w' := w3) rfl (.tmp 25) (.tmp 30) 33 rfl (by first | rfl | go_simp) (by first | rfl | go_simp) (HR.out _) ?_)
            go_roundw
            case rel => exact ⟨k + 1, _, by omega, by go_num, rfl, by rw [HST.out]; exact HO3, HB3⟩
            case measure => simp [intOf]; omega
          · rw [if_neg ht, List.append_nil] at hst
            have HST := hid_mk hst
            have htb : ((sat L k).t == t) = false := by simp [ht]
            clear hst ht
            go_wp2_with fail
            go_roundw
            case rel => exact ⟨k + 1, _, by omega, by go_num, rfl, by rw [HST.out]; exact HO2, HB2⟩
            case measure => simp [intOf]; omega
        · obtain rfl : k = L.length := by omega
          rw [List.take_length] at hown
          go_wp2_with fail
          go_ret
          exact ⟨_, rfl, hown.out, hbel.out⟩
    · have e1 : partE t L = [] := by
        unfold partE
        rw [if_neg hE]
      rw [e1]
      have hE2 : (segE L == 0) = false := by simp [hE]
      have h0 := seg_pos hE
      have h0i : (0 : Int) < (L.length : Int) := by omega
      clear e1 hE hu hb3
      generalize segE L = x at *
      go_enter Try.func25, Try.ntmps25
      go_wp2
      go_loopw [5, 6] (fun a i wr => i = .int .i64 0 ∧ a = .slice none 0 0 ∧ wr = w) (fun _ i _ => 0)
      case atStart => exact ⟨rfl, rfl, rfl⟩
      case round =>
        obtain ⟨rfl, rfl, rfl⟩ := hrel
        go_wp2_with fail
        refine (HCk.out _ (Below.refl _ _)).mono ?_
        rintro e w' ⟨rfl, m2, rfl⟩
        go_wp2_with fail
        go_ret
        exact ⟨_, rfl, World.ownsRow_nil _ _ _ _, below_drewN _ _⟩
end Go.Proofs.Yteolnghnlfeakaa

/- The reference's Cut of layer 5. Conditions: as each theorem names them. -/
namespace Go.Proofs.Yteolnghnlfeakaa
open Go.ChangeShapes Go.WideShapes Go.ChangeAt Go.RowKit
set_option linter.unusedVariables false
set_option maxRecDepth 100000

/-- what Cut holds when it comes to segment k -/
structure CutInv (L : List Sg) (f0 n0 : Int) (k : Nat) (f n : Int) (acc : List Sg) : Prop where
  uf : U64 f
  un : U64 n
  len : acc.length ≤ k
  eq : cutS L f0 n0 = acc ++ cutS (L.drop k) f n
theorem CutInv.skip {L : List Sg} {f0 n0 : Int} {k : Nat} {f n : Int} {acc : List Sg} (h : CutInv L f0 n0 k f n acc) (hk : k < L.length) (hu : isSgs L) (hf : (sat L k).n ≤ f) : CutInv L f0 n0 (k + 1) (f - (sat L k).n) n acc := by
  have h1 := h.uf
  obtain ⟨_, h2, h3⟩ := sat_is hu k
  refine ⟨⟨by omega, by omega⟩, h.un, Nat.le_succ_of_le h.len, ?_⟩
  rw [h.eq, drop_sat hk, cutS_le hf]
theorem CutInv.some {L : List Sg} {f0 n0 : Int} {k : Nat} {f n : Int} {acc : List Sg} (h : CutInv L f0 n0 k f n acc) (hk : k < L.length) (hu : isSgs L) (hf : f < (sat L k).n) {q : Int} (hq : min ((sat L k).n - f) n = q) (h0 : 0 < q) : CutInv L f0 n0 (k + 1) 0 (n - q) (acc ++ [⟨(sat L k).a + f, q, (sat L k).t⟩]) := by
  have h1 := h.uf
  have h2 := h.un
  refine ⟨by decide, ⟨by omega, by omega⟩, by have := h.len; simp; omega, ?_⟩
  rw [h.eq, drop_sat hk, cutS_some hf hq h0, List.append_assoc]
  rfl
theorem CutInv.none {L : List Sg} {f0 n0 : Int} {k : Nat} {f n : Int} {acc : List Sg} (h : CutInv L f0 n0 k f n acc) (hk : k < L.length) (hu : isSgs L) (hf : f < (sat L k).n) {q : Int} (hq : min ((sat L k).n - f) n = q) (h0 : q ≤ 0) : CutInv L f0 n0 (k + 1) 0 (n - q) acc := by
  have h1 := h.uf
  have h2 := h.un
  refine ⟨by decide, ⟨by omega, by omega⟩, Nat.le_succ_of_le h.len, ?_⟩
  rw [h.eq, drop_sat hk, cutS_none hf hq h0]

set_option maxHeartbeats 4000000 in
theorem rsegcut (v : Value) (f0 n0 : Int) (L : List Sg) (w : World) (hv : SegsAt w v L) (hu : isSgs L) (hf0 : U64 f0) (hn0 : U64 n0) :
    Calls Try.prog 27 #[v, .int .u64 f0, .int .u64 n0] w fun e w' => ∃ v', e = .returned v' ∧ OwnS w.heap.size w' v' (cutE L f0 n0) ∧ Below w.heap.size w w' := by
  have HCk := hid_mk (fun u (hb : Below w.heap.size w u) => rsegchk v L u (hv.below hb) hu)
  rcases hv with ⟨⟨va, vc, rfl, _⟩, rfl⟩ | ⟨b, o, c, rfl, hb1, hb2, hb3⟩
  · have e1 : cutE [] f0 n0 = [] := by
      unfold cutE
      split <;> rfl
    rw [e1]
    go_enter Try.func27, Try.ntmps27
    go_wp2
    go_loop [7, 8] (fun a i => a = .slice none 0 0 ∧ i = .int .i64 0) (fun _ i => 0)
    case atStart => exact ⟨rfl, rfl⟩
    case round =>
      obtain ⟨rfl, rfl⟩ := hrel
      go_wp2
      go_ret
      exact ⟨_, rfl, World.ownsRow_nil _ _ _ _, Below.refl _ _⟩
  · by_cases hE : segE L = 0
    · have e1 : cutE L f0 n0 = cutS L f0 n0 := by
        unfold cutE
        rw [if_pos hE]
      rw [e1]
      obtain ⟨o1, o2, o3⟩ := (segE_ok hu).1 hE
      rw [hE] at HCk
      have HC := hid_mk hb3
      have HU := hid_mk hu
      have HO := hid_mk o2
      have h64i : (L.length : Int) ≤ 64 := by omega
      have HS : Hid (CutInv L f0 n0 0 f0 n0 []) := ⟨hf0, hn0, Nat.zero_le _, rfl⟩
      clear hb3 hu e1 o2 o3 hE hf0 hn0
      go_enter Try.func27, Try.ntmps27
      go_wp2
      go_loopw [1, 2, 7, 8] (fun tf tn a i wr => ∃ (k : Nat) (vo : Value) (f n : Int) (acc : List Sg), k ≤ L.length ∧ i = .int .i64 k ∧ tf = .int .u64 f ∧ tn = .int .u64 n ∧ vo = a ∧ Hid (CutInv L f0 n0 k f n acc) ∧ Hid (OwnS w.heap.size wr vo acc) ∧ Hid (Below w.heap.size w wr)) (fun _ _ _ i _ => L.length - (intOf i).toNat)
      case atStart => exact ⟨0, _, _, _, _, Nat.zero_le _, rfl, rfl, rfl, rfl, HS, hid_mk (World.ownsRow_nil _ _ _ _), hid_mk (Below.refl _ _)⟩
      case round =>
        obtain ⟨k, vo, f, n, acc, hk, rfl, rfl, rfl, rfl, hinv, hown, hbel⟩ := hrel
        by_cases hlt : k < L.length
        · have hlen := hinv.out.len
          obtain ⟨⟨x0, x1⟩, y0, y1⟩ := sat_is HU.out k
          obtain ⟨y2, xy⟩ := okS_at HO.out k hlt
          obtain ⟨f1, f2⟩ := hinv.out.uf
          obtain ⟨n1, n2⟩ := hinv.out.un
          go_wp2_with fail
          refine (HCk.out _ hbel.out).mono ?_
          rintro e w' ⟨rfl, m2, hm2⟩
          have hb2 : Below w.heap.size w w' := by
            rw [hm2]
            exact below_dn hbel.out m2
          have ho2 : OwnS w.heap.size w' vo acc := by
            rw [hm2]
            exact hown.out
          obtain ⟨c0, c1, c2⟩ := HC.out k hlt
          have d0 := (hb2.cell (p := ⟨b, o + k * 3, none⟩) hb1).trans c0
          have d1 := (hb2.cell (p := ⟨b, o + k * 3 + 1, none⟩) hb1).trans c1
          have d2 := (hb2.cell (p := ⟨b, o + k * 3 + 2, none⟩) hb1).trans c2
          have hbw : b < w'.heap.size := Nat.lt_of_lt_of_le hb1 hb2.size
          have HB2 := hid_mk hb2
          have HO2 := hid_mk ho2
          have H1 := hid_mk (fun hf => hinv.out.skip hlt HU.out hf)
          have H2 := hid_mk (fun hf q hq h0 => hinv.out.some hlt HU.out hf (q := q) hq h0)
          have H3 := hid_mk (fun hf q hq h0 => hinv.out.none hlt HU.out hf (q := q) hq h0)
          have hyw : IntKind.u64.wrap (sat L k).n = (sat L k).n := by rw [IntKind.wrap_u64]; omega
          clear hm2 c0 c1 c2 hb2 ho2 hinv hown hbel
          by_cases hf : (sat L k).n ≤ f
          · have HX := hid_mk (H1.out hf)
            have hw1 : IntKind.u64.wrap (f - (sat L k).n) = f - (sat L k).n := by rw [IntKind.wrap_u64]; omega
            generalize (sat L k).n = y at *
            go_wp2_with fail
            go_roundw
            case rel => exact ⟨k + 1, _, _, _, _, by omega, by go_num, rfl, rfl, rfl, HX, hid_mk (World.ownsRow.alloc HO2.out _), hid_mk (HB2.out.alloc HB2.out.size _)⟩
            case measure => simp [intOf]; omega
          · have hf' : f < (sat L k).n := by omega
            obtain ⟨q, hq⟩ : ∃ q, min ((sat L k).n - f) n = q := ⟨_, rfl⟩
            have hw1 : IntKind.u64.wrap ((sat L k).n - f) = (sat L k).n - f := by rw [IntKind.wrap_u64]; omega
            have hw2 : IntKind.u64.wrap (n - q) = n - q := by rw [IntKind.wrap_u64]; omega
            by_cases h0 : 0 < q
            · have HX := hid_mk (H2.out hf' q hq h0)
              have hw3 : IntKind.u64.wrap ((sat L k).a + f) = (sat L k).a + f := by rw [IntKind.wrap_u64]; omega
              have hw4 : IntKind.u32.wrap q = q := by rw [IntKind.wrap_u32]; omega
              obtain ⟨g, cap, w3, hrun, ho3, hb3⟩ := app_seg (w := w'.alloc (.cells #[.int .u64 (sat L k).a, .int .u32 (sat L k).n, .bool (sat L k).t] 32)) ⟨(sat L k).a + f, q, (sat L k).t⟩ (World.ownsRow.alloc HO2.out _) (by rw [sizeA]; have := HB2.out.size; omega) (by omega)
              rw [sizeA] at hrun
              have HR := hid_mk hrun
              have HO3 := hid_mk ho3
              have HB3 := hid_mk ((HB2.out.alloc HB2.out.size _).trans hb3)
              have el : (acc ++ [(⟨(sat L k).a + f, q, (sat L k).t⟩ : Sg)]).length = acc.length + 1 := by simp
              have EL := hid_mk el
              clear hrun ho3 hb3 el
              generalize (sat L k).n = y at *
              generalize (sat L k).a = x at *
              generalize (sat L k).t = z at *
              go_wp2_with (at_builtin; refine wpList_append_run (v := vo) (u := .slice (some ⟨w'.heap.size + 1, 0, none⟩) 1 1) (v' := .slice (some ⟨g, 0, none⟩) (acc.length + 1) cap) (w' := w3) rfl (.tmp 43) (.tmp 53) 33 rfl (by first | rfl | go_simp) (by first | rfl | go_simp) (HR.out _) ?_)
              go_roundw
              case rel => exact ⟨k + 1, _, _, _, _, by omega, by go_num, rfl, rfl, rfl, HX, HO3, HB3⟩
              case measure => simp [intOf]; omega
            · have HX := hid_mk (H3.out hf' q hq (by omega))
              have h0' : q ≤ 0 := by omega
              generalize (sat L k).n = y at *
              go_wp2_with fail
              go_roundw
              case rel => exact ⟨k + 1, _, _, _, _, by omega, by go_num, rfl, rfl, rfl, HX, hid_mk (World.ownsRow.alloc HO2.out _), hid_mk (HB2.out.alloc HB2.out.size _)⟩
              case measure => simp [intOf]; omega
        · obtain rfl : k = L.length := by omega
          have he := hinv.out.eq
          rw [List.drop_length] at he
          have he2 : cutS L f0 n0 = acc := by
            rw [he]
            exact List.append_nil _
          have HE := hid_mk he2
          clear he he2
          go_wp2_with fail
          go_ret
          exact ⟨_, rfl, by rw [HE.out]; exact hown.out, hbel.out⟩
    · have e1 : cutE L f0 n0 = [] := by
        unfold cutE
        rw [if_neg hE]
      rw [e1]
      have hE2 : (segE L == 0) = false := by simp [hE]
      have h0 := seg_pos hE
      have h0i : (0 : Int) < (L.length : Int) := by omega
      clear e1 hE hu hb3
      generalize segE L = x at *
      go_enter Try.func27, Try.ntmps27
      go_wp2
      go_loopw [7, 8] (fun a i wr => i = .int .i64 0 ∧ a = .slice none 0 0 ∧ wr = w) (fun _ i _ => 0)
      case atStart => exact ⟨rfl, rfl, rfl⟩
      case round =>
        obtain ⟨rfl, rfl, rfl⟩ := hrel
        go_wp2_with fail
        refine (HCk.out _ (Below.refl _ _)).mono ?_
        rintro e w' ⟨rfl, m2, rfl⟩
        go_wp2_with fail
        go_ret
        exact ⟨_, rfl, World.ownsRow_nil _ _ _ _, below_drewN _ _⟩
end Go.Proofs.Yteolnghnlfeakaa
