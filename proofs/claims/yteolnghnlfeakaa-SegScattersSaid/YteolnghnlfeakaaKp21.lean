/- Sg9 Pg8: joined texts. Conditions: as each theorem names them. -/
import Derived.Test.YteolnghnlfeakaaKp16
import Derived.Test.YteolnghnlfeakaaKp20
import Derived.Lib.AppendZeros
/- Rows of bytes that a call owns; the reference's Gather of layer 5. Conditions: as each theorem names them. -/
namespace Go.Proofs.Yteolnghnlfeakaa
open Go.ChangeShapes Go.WideShapes Go.ChangeAt Go.RowKit
set_option linter.unusedVariables false
set_option maxRecDepth 100000

/-- a row of bytes of the call's own -/
abbrev OwnB (B : Nat) (w : World) (v : Value) (l : List Int) : Prop := w.ownsRow B 5 1 v l.length (l.map (Value.int .u8))
theorem own_below {B : Nat} {w w' : World} {e : TypeId} {z : Nat} {v : Value} {n : Nat} {xs : List Value} (h : w.ownsRow B e z v n xs) (hb : Below w.heap.size w w') : w'.ownsRow B e z v n xs := by
  refine ⟨h.1, ?_⟩
  rcases h.2 with hn | ⟨g, cap, cur, rfl, hg, hh, rest⟩
  · exact .inl hn
  · exact .inr ⟨g, cap, cur, rfl, hg, keepB hb hh, rest⟩
theorem rowU8b : (Try.prog.info? 5).map (fun i => (i.zero, i.size, i.bytes)) = some (some (.int .u8 0), 1, 1) := by kernel_rfl
theorem app_bytes {B : Nat} {w : World} {v v2 : Value} {l l2 : List Int} (h : OwnB B w v l) (hB : B ≤ w.heap.size) (h2 : BytesAt w v2 l2) (hl : l.length + l2.length ≤ 8589934592) :
    ∃ v' w', (∀ ty, (Builtin.append_ #[38, 38] ty #[v, v2]).run Try.prog w = .ok v' w') ∧ OwnB B w' v' (l ++ l2) ∧ Below B w w' := by
  obtain ⟨i0, hi, hz0, hz1, hz2⟩ := info_parts rowU8b
  have hlt := fun q hq => (World.ownsRow.lt h q hq).1
  have e : l.map (Value.int .u8) ++ l2.map (Value.int .u8) = (l ++ l2).map (Value.int .u8) := by simp
  have e2 : (l ++ l2).length = l.length + l2.length := by simp
  rcases h2 with ⟨⟨a, c, rfl, hac⟩, rfl⟩ | ⟨b, o, c, rfl, hb1, hb2, hb3⟩
  · cases a with
    | none =>
      refine ⟨v, w, fun ty => by rw [hac rfl]; exact run_append_owned_none _ B 38 ty 5 i0 1 Try.underlying38 hi _ _ _ h, ?_, Below.refl _ _⟩
      rw [List.append_nil]
      exact h
    | some a =>
      obtain ⟨v', w', h1, h2, h3, _⟩ := run_append_own (P := Try.prog) w B 38 38 5 i0 _ 1 1 Try.underlying38 hi hz0 hz1 hz2 rfl (by decide) v _ _ h a 0 c [] rfl (fun j u hu => by simp at hu) (fun u hu => by cases hu) (by simp [maxLen]; simp at hl; omega) (by simp at hl; omega) hB
      refine ⟨v', w', fun ty => h1, ?_, grown_below h3 hB hlt⟩
      rw [List.append_nil] at h2 ⊢
      exact h2
  · obtain ⟨v', w', h1, h2, h3, _⟩ := run_append_own (P := Try.prog) w B 38 38 5 i0 _ 1 1 Try.underlying38 hi hz0 hz1 hz2 rfl (by decide) v _ _ h ⟨b, o, none⟩ l2.length c (l2.map (Value.int .u8)) (by simp) (news_of (c := c) hb3) one_of (by simp [maxLen]; omega) (by omega) hB
    refine ⟨v', w', fun ty => h1, ?_, grown_below h3 hB hlt⟩
    rw [e] at h2
    show w'.ownsRow B 5 1 v' (l ++ l2).length _
    rw [e2]
    exact h2
theorem own_new {B : Nat} {w : World} {v : Value} {l : List Int} (h : OwnB B w v l) : NewBytes B w v l := newBytes_of h

theorem gatS_append (R : List (Int × Int)) (M : List Int) : ∀ a b : List Sg, gatS R M (a ++ b) = gatS R M a ++ gatS R M b
  | [], _ => rfl
  | s :: a, b => by simp [gatS, gatS_append R M a b]
theorem gatS_step {R : List (Int × Int)} {M : List Int} {L : List Sg} {k : Nat} (h : k < L.length) : gatS R M (L.take (k + 1)) = gatS R M (L.take k) ++ if (sat L k).t = true then [] else readL R M (sat L k).a (sat L k).n := by
  rw [take_sat h, gatS_append]
  simp [gatS]
theorem readL_le (R : List (Int × Int)) (M : List Int) (a n : Int) (hn : 0 ≤ n) : ((readL R M a n).length : Int) ≤ n := by
  unfold readL
  split
  · rw [List.length_take]
    omega
  · simpa using hn
theorem gatS_le (R : List (Int × Int)) (M : List Int) : ∀ {L : List Sg}, isSgs L → ((gatS R M L).length : Int) ≤ sumS L
  | [], _ => by simp [gatS, sumS]
  | s :: l, h => by
    obtain ⟨h1, h2⟩ := isSgs_cons h
    have ih := gatS_le R M h2
    have hr := readL_le R M s.a s.n h1.2.1
    have hn := h1.2.1
    simp only [gatS, sumS, List.length_append]
    split
    · simp
      omega
    · omega
abbrev StG (w : World) (b p q : Nat) (x y : Value) (base rp lb bb cL cB : Nat) (aB : Option Addr) (D : Nat → Nat) (R : List (Int × Int)) (M : List Int) (vo : Value) (acc : List Int) (W : World) : Prop := Below w.heap.size w W ∧ (W.cell? ⟨b, p, none⟩ = some x ∧ W.cell? ⟨b, q, none⟩ = some y ∧ b < W.heap.size) ∧ IsRef W base rp lb bb cL cB aB D R M ∧ OwnB w.heap.size W vo acc
theorem StG.keep {w : World} {b p q : Nat} {x y : Value} {base rp lb bb cL cB : Nat} {aB : Option Addr} {D : Nat → Nat} {R : List (Int × Int)} {M : List Int} {vo : Value} {acc : List Int} {W W' : World} (h : StG w b p q x y base rp lb bb cL cB aB D R M vo acc W) (hb : Below W.heap.size W W') : StG w b p q x y base rp lb bb cL cB aB D R M vo acc W' :=
  ⟨below_then h.1 hb, ⟨(hb.cell (p := ⟨b, p, none⟩) h.2.1.2.2).trans h.2.1.1, (hb.cell (p := ⟨b, q, none⟩) h.2.1.2.2).trans h.2.1.2.1, Nat.lt_of_lt_of_le h.2.1.2.2 hb.size⟩, h.2.2.1.below hb, own_below h.2.2.2 hb⟩
theorem StG.ref {w : World} {b p q : Nat} {x y : Value} {base rp lb bb cL cB : Nat} {aB : Option Addr} {D : Nat → Nat} {R : List (Int × Int)} {M : List Int} {vo : Value} {acc : List Int} {W : World} (h : StG w b p q x y base rp lb bb cL cB aB D R M vo acc W) : IsRef W base rp lb bb cL cB aB D R M := h.2.2.1

theorem rseggat_nil (v : Value) (w : World) :
    Calls Try.prog 31 #[.pointer none, v] w fun e w' => e = .returned (.tuple #[.slice none 0 0, .int .i64 1]) ∧ w = w' := by
  go_enter Try.func31, Try.ntmps31
  go_wp2_with (go_at_call 22; refine (rsegin_nil _ _).mono ?_; rintro e w' ⟨rfl, rfl⟩)
  go_ret2
  exact ⟨rfl, rfl⟩

set_option maxHeartbeats 4000000 in
theorem rseggat (v : Value) (L : List Sg) (base rp lb bb cL cB : Nat) (aB : Option Addr) (D : Nat → Nat) (R : List (Int × Int)) (M : List Int) (w : World) (hv : SegsAt w v L) (hu : isSgs L) (hr : IsRef w base rp lb bb cL cB aB D R M) :
    Calls Try.prog 31 #[.pointer (some ⟨rp, 0, none⟩), v] w fun e w' => ∃ v', e = .returned (.tuple #[v', .int .i64 (inE R L)]) ∧ NewBytes w.heap.size w' v' (gatL R M L) ∧ Below w.heap.size w w' := by
  have HI := hid_mk (rsegin v L base rp lb bb cL cB aB D R M w hv hu hr)
  by_cases hE : inE R L = 0
  · have e1 : gatL R M L = gatS R M L := by
      unfold gatL
      rw [if_pos hE]
    rw [e1, hE]
    rw [hE] at HI
    have hseg : segE L = 0 := by
      unfold inE at hE
      by_cases h : segE L = 0
      · exact h
      · rw [if_neg h] at hE
        exact hE
    obtain ⟨o1, o2, o3⟩ := (segE_ok hu).1 hseg
    rcases hv with ⟨⟨va, vc, rfl, _⟩, rfl⟩ | ⟨b, o, c, rfl, hb1, hb2, hb3⟩
    · clear hr hu hE e1 hseg
      go_enter Try.func31, Try.ntmps31
      go_wp2_with fail
      refine HI.out.mono ?_
      rintro e w1 ⟨rfl, hb⟩
      go_wp2_with fail
      go_loopw [7, 8, 9, 10] (fun a i p q wr => a = .slice none 0 0 ∧ i = .int .i64 0 ∧ wr = w1) (fun _ i _ _ _ => 0)
      case atStart => exact ⟨rfl, rfl, rfl⟩
      case round =>
        obtain ⟨rfl, rfl, rfl⟩ := hrel
        go_wp2
        go_ret2
        exact ⟨_, rfl, Or.inl ⟨rfl, rfl⟩, hb⟩
    · have HC := hid_mk hb3
      have HU := hid_mk hu
      have HR := hid_mk hr
      have HO3 := hid_mk o3
      have h64i : (L.length : Int) ≤ 64 := by omega
      clear hb3 hu e1 o2 o3 hE hr hseg o1
      go_enter Try.func31, Try.ntmps31
      go_wp2_with fail
      refine HI.out.mono ?_
      rintro e w1 ⟨rfl, hb⟩
      have HB1 := hid_mk hb
      clear hb
      go_wp2_with fail
      go_loopw [7, 8, 9, 10] (fun a i p q wr => ∃ (k : Nat) (vo : Value), k ≤ L.length ∧ i = .int .i64 k ∧ vo = a ∧ Hid (OwnB w.heap.size wr vo (gatS R M (L.take k))) ∧ Hid (Below w.heap.size w wr)) (fun _ i _ _ _ => L.length - (intOf i).toNat)
      case atStart => exact ⟨0, _, Nat.zero_le _, rfl, rfl, hid_mk (World.ownsRow_nil _ _ _ _), HB1⟩
      case round =>
        obtain ⟨k, vo, hk, rfl, rfl, hown, hbel⟩ := hrel
        by_cases hlt : k < L.length
        · obtain ⟨c0, c1, c2⟩ := HC.out k hlt
          obtain ⟨hx, hy0, hy1⟩ := sat_is HU.out k
          have d0 := (hbel.out.cell (p := ⟨b, o + k * 3, none⟩) hb1).trans c0
          have d1 := (hbel.out.cell (p := ⟨b, o + k * 3 + 1, none⟩) hb1).trans c1
          have d2 := (hbel.out.cell (p := ⟨b, o + k * 3 + 2, none⟩) hb1).trans c2
          have hbw : b < wr.heap.size := Nat.lt_of_lt_of_le hb1 hbel.out.size
          have hst := gatS_step (R := R) (M := M) hlt
          clear c0 c1 c2
          cases ht : (sat L k).t
          · rw [ht] at hst d2
            rw [if_neg (by decide)] at hst
            have hle := gatS_le R M (isSgs_take HU.out k)
            have hle2 := readL_le R M (sat L k).a (sat L k).n hy0
            have hle3 : sumS (L.take k) ≤ sumS L := by
              have := totS_le HU.out false k
              have := totS_le HU.out true k
              have h1 := totS_sum (L.take k)
              have h2 := isSgs_drop HU.out k
              have e := sumS_append (L.take k) (L.drop k)
              rw [List.take_append_drop] at e
              have := sumS_nonneg h2
              omega
            have hO := HO3.out
            have hlen : (gatS R M (L.take k)).length + (readL R M (sat L k).a (sat L k).n).length ≤ 8589934592 := by omega
            have HLN := hid_mk hlen
            have hyw : wrap64 (sat L k).n = (sat L k).n := by
              unfold wrap64
              omega
            have hyw2 : IntKind.i64.wrap (sat L k).n = (sat L k).n := IntWalk.i64_in _ (by omega)
            have HST := hid_mk hst
            have HRd := hid_mk (fun u (h : IsRef u base rp lb bb cL cB aB D R M) => rread_any base rp lb bb cL cB aB D R M (sat L k).a (sat L k).n u h hx (by omega))
            have HS := hid_mk (show StG w b (o + k * 3) (o + k * 3 + 1) (.int .u64 (sat L k).a) (.int .u32 (sat L k).n) base rp lb bb cL cB aB D R M vo (gatS R M (L.take k)) wr.drew from StG.keep (w := w) ⟨hbel.out, ⟨d0, d1, hbw⟩, HR.out.below (hbel.out.mono (Nat.le_refl _)), hown.out⟩ (Below.refl _ _).drew)
            have hbelo := hbel
            clear hst hle hle2 hle3 hO hlen hown hbel hx hy0 hy1 ht
            generalize hA : gatS R M (L.take k) = acc at *
            generalize hN : readL R M (sat L k).a (sat L k).n = news at *
            generalize (sat L k).a = x at *
            generalize (sat L k).n = y at *
            clear hA hN
            go_upto_region 9 with fail
            go_region_held3 (fun w' => Below w.heap.size w w' ∧ (w'.cell? ⟨b, o + k * 3, none⟩ = some (.int .u64 x) ∧ w'.cell? ⟨b, o + k * 3 + 1, none⟩ = some (.int .u32 y) ∧ b < w'.heap.size) ∧ IsRef w' base rp lb bb cL cB aB D R M ∧ OwnB w.heap.size w' vo acc) (first | exact HS.out | exact StG.keep (by assumption) (by assumption))
              (first | (go_at_call 51; refine (HRd.out _ (StG.ref (by assumption))).mono ?_; rintro e w' ⟨v2, rfl, hn2, hb⟩))
            have hz : StG w b (o + k * 3) (o + k * 3 + 1) (.int .u64 x) (.int .u32 y) base rp lb bb cL cB aB D R M vo acc w' := by
              first | assumption | exact StG.keep (by assumption) (by assumption)
            obtain ⟨v3, w3, happ, hown3, hb3⟩ := app_bytes hz.2.2.2 hz.1.size hn2.at HLN.out
            have HAP := hid_mk happ
            have HO3' := hid_mk hown3
            have HB3 := hid_mk (hz.1.trans hb3)
            clear happ hown3 hb3 hz
            go_wp2_with (at_builtin; refine wpList_append_run (v := vo) (u := v2) (v' := v3) (w' := w3) rfl (.tmp 45) (.tmp 46) 38 rfl (by first | rfl | go_simp) (by first | rfl | go_simp) (HAP.out _) ?_)
            go_roundw
            case rel => exact ⟨k + 1, _, by omega, by go_num, rfl, by rw [HST.out]; exact HO3', HB3⟩
            case measure => simp [intOf]; omega
          · rw [ht] at hst d2
            rw [if_pos rfl, List.append_nil] at hst
            have HST := hid_mk hst
            clear hst hx hy0 hy1 ht
            go_wp2_with fail
            go_roundw
            case rel => exact ⟨k + 1, _, by omega, by go_num, rfl, by rw [HST.out]; exact hown, hbel⟩
            case measure => simp [intOf]; omega
        · obtain rfl : k = L.length := by omega
          rw [List.take_length] at hown
          go_wp2_with fail
          go_ret2
          exact ⟨_, rfl, own_new hown.out, hbel.out⟩
  · have e1 : gatL R M L = [] := by
      unfold gatL
      rw [if_neg hE]
    rw [e1]
    have hE2 : (inE R L != 0) = true := by simp [hE]
    obtain ⟨va, vc, rfl⟩ := hv.len
    clear e1 hE hu hv hr
    generalize inE R L = x at *
    go_enter Try.func31, Try.ntmps31
    go_wp2_with fail
    refine HI.out.mono ?_
    rintro e w1 ⟨rfl, hb⟩
    go_wp2_with fail
    go_ret2
    exact ⟨_, rfl, Or.inl ⟨rfl, rfl⟩, hb⟩
end Go.Proofs.Yteolnghnlfeakaa

/- slices.Grow and slices.Concat at bytes. Conditions: as each theorem names them. -/
namespace Go.Proofs.Yteolnghnlfeakaa
open Go.ChangeShapes Go.WideShapes Go.ChangeAt Go.RowKit
set_option linter.unusedVariables false
set_option maxRecDepth 100000

theorem grow_run (n : Nat) (w : World) (hn : n ≤ 8589934592) (h0 : 0 < n) :
    ∃ g w', (∀ ty, (Builtin.append_ #[38, 3] ty #[.slice none 0 0, .int .i64 n]).run Try.prog w = .ok (.slice (some ⟨w.heap.size, 0, none⟩) n g) w') ∧ OwnB w.heap.size w' (.slice (some ⟨w.heap.size, 0, none⟩) 0 g) [] ∧ Below w.heap.size w w' := by
  obtain ⟨i0, hi, hz0, hz1, hz2⟩ := info_parts rowU8b
  have hb : Below w.heap.size w (w.drew.alloc (.cells (Builtin.zeroCells (Value.int .u8 0).cells n ++ Builtin.zeroCells (Value.int .u8 0).cells (grownCap w n 0 5 - n)) 5)) := Below.alloc (Below.drew (Below.refl _ _)) (Nat.le_refl _) _
  refine ⟨grownCap w n 0 5, _, fun ty => Lib.run_append_nil_zeros (P := Try.prog) w 38 3 ty 5 i0 (.int .u8 0) .i64 .i64 Try.underlying38 Try.underlying3 hi hz0 n h0 (by rw [hz1]; decide) (by omega) (by rw [hz2]; omega), ?_, hb⟩
  refine ⟨rfl, Or.inr ⟨w.heap.size, grownCap w n 0 5, _, rfl, Nat.le_refl _, heap_alloc_new w.drew _, Nat.zero_le _, grownCap_le_maxLen w n 0 5 (by unfold maxLen; omega), ?_, ?_⟩⟩
  · have := grownCap_ge w n 0 5
    rw [Array.size_append, size_zeroCells, size_zeroCells]
    have e : (Value.int .u8 0).cells.size = 1 := rfl
    rw [e]
    omega
  · simp

set_option maxHeartbeats 1000000 in
theorem pgrow (n : Nat) (w : World) (hn : n ≤ 8589934592) :
    Calls Try.prog 59 #[.slice none 0 0, .int .i64 n] w fun e w' => ∃ v', e = .returned v' ∧ OwnB w.heap.size w' v' [] ∧ Below w.heap.size w w' := by
  have hni : (n : Int) ≤ 8589934592 := by omega
  have hnn : ¬ ((n : Int) < 0) := by omega
  have hw : wrap64 ((n : Int) - 0) = (n : Int) := by unfold wrap64; omega
  rcases Nat.eq_zero_or_pos n with rfl | h0
  · clear hni hnn hw
    go_enter Try.func59, Try.ntmps59
    go_wp2
    go_ret
    exact ⟨_, rfl, World.ownsRow_nil _ _ _ _, Below.refl _ _⟩
  · obtain ⟨g, w', hrun, ho, hb⟩ := grow_run n w hn h0
    have HR := hid_mk hrun
    have HO := hid_mk ho
    have HB := hid_mk hb
    have hp : (0 : Int) < (n : Int) := by omega
    clear hrun ho hb
    go_enter Try.func59, Try.ntmps59
    go_wp2_with (at_builtin; refine Lib.wpList_append_run (P := Try.prog) w (w' := w') (v' := .slice (some ⟨w.heap.size, 0, none⟩) n g) rfl (.tmp 20) (.tmp 21) 38 3 rfl (.slice none 0 0) (.int .i64 n) (by first | rfl | go_simp) (by first | rfl | go_simp) (HR.out _) ?_)
    go_ret
    exact ⟨_, rfl, HO.out, HB.out⟩

/-- a row of slices of bytes: block pb, and what each reads as -/
structure PartsAt (w : World) (pb : Nat) (X : List (List Int)) : Prop where
  lt : pb < w.heap.size
  at_ : ∀ j, j < X.length → ∃ a c, w.cell? ⟨pb, j, none⟩ = some (.slice a (X.getD j []).length c) ∧ BytesAt w (.slice a (X.getD j []).length c) (X.getD j [])
theorem PartsAt.below {w w' : World} {pb : Nat} {X : List (List Int)} (h : PartsAt w pb X) (hb : Below w.heap.size w w') : PartsAt w' pb X :=
  ⟨Nat.lt_of_lt_of_le h.lt hb.size, fun j hj => by
    obtain ⟨a, c, h1, h2⟩ := h.at_ j hj
    exact ⟨a, c, (hb.cell (p := ⟨pb, j, none⟩) h.lt).trans h1, h2.below hb⟩⟩
theorem flat_step {X : List (List Int)} {k : Nat} (h : k < X.length) : (X.take (k + 1)).flatten = (X.take k).flatten ++ X.getD k [] := by
  have e : X.take (k + 1) = X.take k ++ [X.getD k []] := by
    rw [List.take_succ_eq_append_getElem h]
    simp [List.getD, h]
  rw [e, List.flatten_append]
  simp only [List.flatten_cons, List.flatten_nil, List.append_nil]
theorem flat_le (X : List (List Int)) (k : Nat) : (X.take k).flatten.length ≤ X.flatten.length := by
  have e : X.flatten = (X.take k).flatten ++ (X.drop k).flatten := by rw [← List.flatten_append, List.take_append_drop]
  rw [e, List.length_append]
  omega

def flN (X : List (List Int)) (k : Nat) : Nat := (X.take k).flatten.length
theorem flN_step {X : List (List Int)} {k : Nat} (h : k < X.length) : flN X (k + 1) = flN X k + (X.getD k []).length := by
  unfold flN
  rw [flat_step h, List.length_append]
theorem flN_le (X : List (List Int)) (k : Nat) : flN X k ≤ X.flatten.length := flat_le X k

set_option maxHeartbeats 1000000 in
theorem pconcat (pb : Nat) (X : List (List Int)) (w : World) (h : PartsAt w pb X) (hn : X.length ≤ 1000) (hs : X.flatten.length ≤ 8589934592) :
    Calls Try.prog 56 #[.slice (some ⟨pb, 0, none⟩) X.length X.length] w fun e w' => ∃ v', e = .returned v' ∧ OwnB w.heap.size w' v' X.flatten ∧ Below w.heap.size w w' := by
  have H := hid_mk h
  have HS := hid_mk hs
  have hni : (X.length : Int) ≤ 1000 := by omega
  have hpb := h.lt
  clear h hs
  go_enter Try.func56, Try.ntmps56
  go_wp2
  go_loop [3, 5, 11] (fun n s i => ∃ k : Nat, k ≤ X.length ∧ i = .int .i64 k ∧ n = .int .i64 (flN X k : Nat)) (fun _ _ i => X.length - (intOf i).toNat)
  case atStart => exact ⟨0, Nat.zero_le _, rfl, rfl⟩
  case round =>
    obtain ⟨k, hk, rfl, rfl⟩ := hrel
    by_cases hlt : k < X.length
    · obtain ⟨a, c, hc, _⟩ := H.out.at_ k hlt
      have hst := flN_step hlt
      have hle := flN_le X (k + 1)
      have hS := HS.out
      have h1 : (flN X k : Int) + ((X.getD k []).length : Int) ≤ 8589934592 := by omega
      have h2 : ¬ (flN X k : Int) + ((X.getD k []).length : Int) < 0 := by omega
      have HE : Hid ((flN X k : Int) + ((X.getD k []).length : Int) = (flN X (k + 1) : Int)) := by
        show _ = _
        omega
      clear hst hle hS
      generalize flN X k = m at *
      generalize (X.getD k []).length = q at *
      go_wp2_with fail
      go_round
      case rel => exact ⟨k + 1, by omega, by go_num, by rw [HE.out]⟩
      case measure => simp [intOf]; omega
    · obtain rfl : k = X.length := by omega
      have hsz : flN X X.length ≤ 8589934592 := Nat.le_trans (flN_le X _) HS.out
      generalize flN X X.length = sz at *
      go_wp2_with fail
      refine (pgrow sz _ hsz).mono ?_
      rintro e w1 ⟨v1, rfl, ho, hb⟩
      have HO1 := hid_mk ho
      have HB1 := hid_mk hb
      clear ho hb
      go_wp2_with fail
      go_loopw [6, 8, 27] (fun a s i wr => ∃ (k : Nat) (vo : Value), k ≤ X.length ∧ i = .int .i64 k ∧ vo = a ∧ Hid (OwnB w.heap.size wr vo (X.take k).flatten) ∧ Hid (Below w.heap.size w wr)) (fun _ _ i _ => X.length - (intOf i).toNat)
      case atStart => exact ⟨0, _, Nat.zero_le _, rfl, rfl, HO1, HB1⟩
      case round =>
        obtain ⟨k, vo, hk, rfl, rfl, hown, hbel⟩ := hrel
        by_cases hlt : k < X.length
        · obtain ⟨a, c, hc, hby⟩ := (H.out.below hbel.out).at_ k hlt
          have hst := flat_step hlt
          have hle := flat_le X (k + 1)
          have hS := HS.out
          have hlen := congrArg List.length hst
          rw [List.length_append] at hlen
          obtain ⟨v3, w3, happ, hown3, hb3⟩ := app_bytes hown.out hbel.out.size hby (by omega)
          have HAP := hid_mk happ
          rw [← hst] at hown3
          have HO3 := hid_mk hown3
          have HB3 := hid_mk (hbel.out.trans hb3)
          have hpw : pb < wr.heap.size := Nat.lt_of_lt_of_le hpb hbel.out.size
          clear hst hle hS hlen happ hown3 hb3 hown hbel hby
          generalize (X.getD k []).length = q at *
          go_wp2_with (at_builtin; refine wpList_append_run (v := vo) (u := .slice a q c) (v' := v3) (w' := w3) rfl (.tmp 31) (.tmp 32) 38 rfl (by first | rfl | go_simp) (by first | rfl | go_simp) (HAP.out _) ?_)
          go_roundw
          case rel => exact ⟨k + 1, _, by omega, by go_num, rfl, HO3, HB3⟩
          case measure => simp [intOf]; omega
        · obtain rfl : k = X.length := by omega
          rw [List.take_length] at hown
          go_wp2_with fail
          go_ret
          exact ⟨_, rfl, hown.out, hbel.out⟩
end Go.Proofs.Yteolnghnlfeakaa
