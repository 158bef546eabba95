/- The reference's In of layer 5. Conditions: as each theorem names them. -/
import Derived.Test.YteolnghnlfeakaaSg7
import Derived.Test.YteolnghnlfeakaaRf2
import Derived.Deep.RegionHeld3
namespace Go.Proofs.Yteolnghnlfeakaa
open Go.ChangeShapes Go.WideShapes Go.ChangeAt Go.RowKit
set_option linter.unusedVariables false
set_option maxRecDepth 100000

theorem allIn_append (R : List (Int × Int)) (a b : List Sg) : allIn R (a ++ b) = (allIn R a && allIn R b) := by
  unfold allIn
  exact List.all_append
theorem allIn_step {R : List (Int × Int)} {L : List Sg} {k : Nat} (h : k < L.length) : allIn R (L.take (k + 1)) = (allIn R (L.take k) && (loc R (sat L k).a (sat L k).n).isSome) := by
  rw [take_sat h, allIn_append]
  simp [allIn]
theorem allIn_no {R : List (Int × Int)} {L : List Sg} {k : Nat} (h : k < L.length) (hn : (loc R (sat L k).a (sat L k).n).isSome = false) : allIn R L = false := by
  have e := allIn_append R (L.take (k + 1)) (L.drop (k + 1))
  rw [List.take_append_drop, allIn_step h, hn] at e
  rw [e]
  simp
abbrev StI (w : World) (b p q : Nat) (x y : Value) (base rp lb bb cL cB : Nat) (aB : Option Addr) (D : Nat → Nat) (R : List (Int × Int)) (M : List Int) (W : World) : Prop := Below w.heap.size w W ∧ (W.cell? ⟨b, p, none⟩ = some x ∧ W.cell? ⟨b, q, none⟩ = some y ∧ b < W.heap.size) ∧ IsRef W base rp lb bb cL cB aB D R M
theorem StI.keep {w : World} {b p q : Nat} {x y : Value} {base rp lb bb cL cB : Nat} {aB : Option Addr} {D : Nat → Nat} {R : List (Int × Int)} {M : List Int} {W W' : World} (h : StI w b p q x y base rp lb bb cL cB aB D R M W) (hb : Below W.heap.size W W') : StI w b p q x y base rp lb bb cL cB aB D R M W' :=
  ⟨below_then h.1 hb, ⟨(hb.cell (p := ⟨b, p, none⟩) h.2.1.2.2).trans h.2.1.1, (hb.cell (p := ⟨b, q, none⟩) h.2.1.2.2).trans h.2.1.2.1, Nat.lt_of_lt_of_le h.2.1.2.2 hb.size⟩, h.2.2.below hb⟩

theorem rsegin_nil (v : Value) (w : World) :
    Calls Try.prog 22 #[.pointer none, v] w fun e w' => e = .returned (.int .i64 1) ∧ w = w' := by
  go_enter Try.func22, Try.ntmps22
  go_wp2
  go_ret
  exact ⟨rfl, rfl⟩

set_option maxHeartbeats 4000000 in
theorem rsegin (v : Value) (L : List Sg) (base rp lb bb cL cB : Nat) (aB : Option Addr) (D : Nat → Nat) (R : List (Int × Int)) (M : List Int) (w : World) (hv : SegsAt w v L) (hu : isSgs L) (hr : IsRef w base rp lb bb cL cB aB D R M) :
    Calls Try.prog 22 #[.pointer (some ⟨rp, 0, none⟩), v] w fun e w' => e = .returned (.int .i64 (inE R L)) ∧ Below w.heap.size w w' := by
  have HCk := hid_mk (rsegchk v L w hv hu)
  rcases hv with ⟨⟨va, vc, rfl, _⟩, rfl⟩ | ⟨b, o, c, rfl, hb1, hb2, hb3⟩
  · have e1 : inE R [] = 0 := rfl
    rw [e1]
    go_enter Try.func22, Try.ntmps22
    go_wp2_with fail
    refine HCk.out.mono ?_
    rintro e w1 ⟨rfl, m, rfl⟩
    have e2 : segE [] = 0 := rfl
    rw [e2]
    go_wp2_with fail
    go_loop [5, 6] (fun x i => x = .int .i64 0 ∧ i = .int .i64 0) (fun x i => 0)
    case atStart => exact ⟨rfl, rfl⟩
    case round =>
      obtain ⟨rfl, rfl⟩ := hrel
      go_wp2
      go_ret
      exact ⟨rfl, below_drewN _ _⟩
  · by_cases hE : segE L = 0
    · have e1 : inE R L = if allIn R L = true then 0 else 5 := by
        unfold inE
        rw [if_pos hE]
      obtain ⟨r, er⟩ : ∃ r : Int, (if allIn R L = true then (0 : Int) else 5) = r := ⟨_, rfl⟩
      rw [e1, er]
      have ER := hid_mk er
      obtain ⟨o1, o2, o3⟩ := (segE_ok hu).1 hE
      rw [hE] at HCk
      have HC := hid_mk hb3
      have HU := hid_mk hu
      have HR := hid_mk hr
      have h64i : (L.length : Int) ≤ 64 := by omega
      clear hb3 hu e1 o2 o3 hE hr er
      go_enter Try.func22, Try.ntmps22
      go_wp2_with fail
      refine HCk.out.mono ?_
      rintro e w1 ⟨rfl, m, hm⟩
      have HB1 : Hid (Below w.heap.size w w1) := by
        rw [hm]
        exact below_drewN _ _
      have HR1 : Hid (IsRef w1 base rp lb bb cL cB aB D R M) := by
        rw [hm]
        exact HR.out.below (below_drewN _ _)
      clear hm
      go_wp2_with fail
      go_loopw [5, 6] (fun ev i wr => ∃ (k : Nat) (ei : Int), k ≤ L.length ∧ i = .int .i64 k ∧ ev = .int .i64 ei ∧ Hid ((ei = 0 ∧ allIn R (L.take k) = true) ∨ (ei = 5 ∧ allIn R L = false)) ∧ Hid (Below w.heap.size w wr) ∧ Hid (IsRef wr base rp lb bb cL cB aB D R M)) (fun _ i _ => L.length - (intOf i).toNat)
      case atStart => exact ⟨0, 0, Nat.zero_le _, rfl, rfl, Or.inl ⟨rfl, rfl⟩, HB1, HR1⟩
      case round =>
        obtain ⟨k, ei, hk, rfl, rfl, hst, hbel, href⟩ := hrel
        by_cases hlt : k < L.length
        · rcases hst.out with ⟨he, ha⟩ | ⟨he, ha⟩
          · subst he
            obtain ⟨c0, c1, _⟩ := HC.out k hlt
            obtain ⟨hx, hy0, hy1⟩ := sat_is HU.out k
            have d0 := (hbel.out.cell (p := ⟨b, o + k * 3, none⟩) hb1).trans c0
            have d1 := (hbel.out.cell (p := ⟨b, o + k * 3 + 1, none⟩) hb1).trans c1
            have hbw : b < wr.heap.size := Nat.lt_of_lt_of_le hb1 hbel.out.size
            have hyw : IntKind.u64.wrap (sat L k).n = (sat L k).n := by rw [IntKind.wrap_u64]; omega
            have HH := hid_mk (fun u (h : IsRef u base rp lb bb cL cB aB D R M) => rhas_any base rp lb bb cL cB aB D R M (sat L k).a (sat L k).n u h hx ⟨by omega, by omega⟩)
            have HN : Hid ((loc R (sat L k).a (sat L k).n).isSome = false → allIn R L = false) := allIn_no hlt
            have HY : Hid ((loc R (sat L k).a (sat L k).n).isSome = true → allIn R (L.take (k + 1)) = true) := fun h => by
              show allIn R (L.take (k + 1)) = true
              rw [allIn_step hlt, ha, h]
              rfl
            have HS := hid_mk (show StI w b (o + k * 3) (o + k * 3 + 1) (.int .u64 (sat L k).a) (.int .u32 (sat L k).n) base rp lb bb cL cB aB D R M wr.drew from StI.keep (w := w) ⟨hbel.out, ⟨d0, d1, hbw⟩, href.out⟩ (Below.refl _ _).drew)
            clear c0 c1 hst hbel href ha hx hy0 hy1
            generalize (sat L k).a = x at *
            generalize (sat L k).n = y at *
            go_upto_region 7 with fail
            go_region_held3 (fun w' => Below w.heap.size w w' ∧ (w'.cell? ⟨b, o + k * 3, none⟩ = some (.int .u64 x) ∧ w'.cell? ⟨b, o + k * 3 + 1, none⟩ = some (.int .u32 y) ∧ b < w'.heap.size) ∧ IsRef w' base rp lb bb cL cB aB D R M) (first | exact HS.out | exact StI.keep (by assumption) (by assumption))
              (first | (go_at_call 47; refine (HH.out _ (And.right (And.right (by assumption)))).mono ?_; rintro e w' ⟨rfl, hb⟩))
            have hz : StI w b (o + k * 3) (o + k * 3 + 1) (.int .u64 x) (.int .u32 y) base rp lb bb cL cB aB D R M w' := by
              first | assumption | exact StI.keep (by assumption) (by assumption)
            have HZ1 := hid_mk hz.1
            have HZ2 := hid_mk hz.2.2
            clear hz
            cases hn : (loc R x y).isNone
            · have hs : (loc R x y).isSome = true := by
                cases h : loc R x y
                · rw [h] at hn
                  cases hn
                · rfl
              have HX := hid_mk (HY.out hs)
              clear hs
              go_wp2_with fail
              go_roundw
              case rel => exact ⟨k + 1, 0, by omega, by go_num, rfl, Or.inl ⟨rfl, HX.out⟩, HZ1, HZ2⟩
              case measure => simp [intOf]; omega
            · have hs : (loc R x y).isSome = false := by
                cases h : loc R x y
                · rfl
                · rw [h] at hn
                  cases hn
              have HX := hid_mk (HN.out hs)
              clear hs
              go_wp2_with fail
              go_roundw
              case rel => exact ⟨k + 1, 5, by omega, by go_num, rfl, Or.inr ⟨rfl, HX.out⟩, HZ1, HZ2⟩
              case measure => simp [intOf]; omega
          · subst he
            have HF : Hid (Value.int .i64 5 = .int .i64 r) := by
              rw [← ER.out, ha]
              rfl
            clear hst ha
            go_wp2_with fail
            go_ret
            exact ⟨ret_eq HF.out, hbel.out⟩
        · obtain rfl : k = L.length := by omega
          rcases hst.out with ⟨he, ha⟩ | ⟨he, ha⟩
          · subst he
            rw [List.take_length] at ha
            have HF : Hid (Value.int .i64 0 = .int .i64 r) := by
              rw [← ER.out, ha]
              rfl
            clear hst ha
            go_wp2_with fail
            go_ret
            exact ⟨ret_eq HF.out, hbel.out⟩
          · subst he
            have HF : Hid (Value.int .i64 5 = .int .i64 r) := by
              rw [← ER.out, ha]
              rfl
            clear hst ha
            go_wp2_with fail
            go_ret
            exact ⟨ret_eq HF.out, hbel.out⟩
    · have e1 : inE R L = segE L := by
        unfold inE
        rw [if_neg hE]
      rw [e1]
      have hE2 : (segE L == 0) = false := by simp [hE]
      have h0 := seg_pos hE
      have h0i : (0 : Int) < (L.length : Int) := by omega
      clear e1 hE hu hb3 hr
      generalize segE L = x at *
      go_enter Try.func22, Try.ntmps22
      go_wp2_with fail
      refine HCk.out.mono ?_
      rintro e w1 ⟨rfl, m, rfl⟩
      go_wp2_with fail
      go_loopw [5, 6] (fun y i wr => y = .int .i64 x ∧ i = .int .i64 0 ∧ wr = w.drewN m) (fun _ i _ => 0)
      case atStart => exact ⟨rfl, rfl, rfl⟩
      case round =>
        obtain ⟨rfl, rfl, rfl⟩ := hrel
        go_wp2_with fail
        go_ret
        exact ⟨rfl, below_drewN _ _⟩
end Go.Proofs.Yteolnghnlfeakaa
