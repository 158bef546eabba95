/- slices.Grow and slices.Concat at bytes. Conditions: as each theorem names them. -/
import Derived.Test.YteolnghnlfeakaaSg9
import Derived.Lib.AppendZeros
namespace Go.Proofs.Yteolnghnlfeakaa
open Go.ChangeShapes Go.WideShapes Go.ChangeAt Go.RowKit
set_option linter.unusedVariables false
set_option maxRecDepth 100000

theorem grow_run (n : Nat) (w : World) (hn : n ≤ 8589934592) (h0 : 0 < n) :
    ∃ g w', (∀ ty, (Builtin.append_ #[38, 3] ty #[.slice none 0 0, .int .i64 n]).run Try.prog w = .ok (.slice (some ⟨w.heap.size, 0, none⟩) n g) w') ∧ OwnB w.heap.size w' (.slice (some ⟨w.heap.size, 0, none⟩) 0 g) [] ∧ Below w.heap.size w w' := by
  obtain ⟨i0, hi, hz0, hz1, hz2⟩ := info_parts rowU8b
  have hb : Below w.heap.size w (w.drew.alloc (.cells (Builtin.zeroCells (Value.int .u8 0).cells n ++ Builtin.zeroCells (Value.int .u8 0).cells (grownCap w n 0 5 - n)) 5)) := Below.alloc (Below.drew (Below.refl _ _)) (Nat.le_refl _) _
  refine ⟨grownCap w n 0 5, _, fun ty => Lib.run_append_nil_zeros (P := Try.prog) w 38 3 ty 5 i0 (.int .u8 0) .i64 .i64 Try.underlying38 Try.underlying3 hi hz0 n h0 (by rw [hz1]; decide) (by omega) (by rw [hz2]; omega), ?_, hb⟩
  refine ⟨rfl, Or.inr ⟨w.heap.size, grownCap w n 0 5, _, rfl, Nat.le_refl _, heap_alloc_new w.drew _, Nat.zero_le _, grownCap_le_maxLen w n 0 5 (by unfold maxLen; omega), ?_, ?_⟩⟩
  · have := grownCap_ge w n 0 5
    rw [Array.size_append, size_zeroCells, size_zeroCells]
    have e : (Value.int .u8 0).cells.size = 1 := rfl
    rw [e]
    omega
  · simp

set_option maxHeartbeats 1000000 in
theorem pgrow (n : Nat) (w : World) (hn : n ≤ 8589934592) :
    Calls Try.prog 59 #[.slice none 0 0, .int .i64 n] w fun e w' => ∃ v', e = .returned v' ∧ OwnB w.heap.size w' v' [] ∧ Below w.heap.size w w' := by
  have hni : (n : Int) ≤ 8589934592 := by omega
  have hnn : ¬ ((n : Int) < 0) := by omega
  have hw : wrap64 ((n : Int) - 0) = (n : Int) := by unfold wrap64; omega
  rcases Nat.eq_zero_or_pos n with rfl | h0
  · clear hni hnn hw
    go_enter Try.func59, Try.ntmps59
    go_wp2
    go_ret
    exact ⟨_, rfl, World.ownsRow_nil _ _ _ _, Below.refl _ _⟩
  · obtain ⟨g, w', hrun, ho, hb⟩ := grow_run n w hn h0
    have HR := hid_mk hrun
    have HO := hid_mk ho
    have HB := hid_mk hb
    have hp : (0 : Int) < (n : Int) := by omega
    clear hrun ho hb
    go_enter Try.func59, Try.ntmps59
    go_wp2_with (at_builtin; refine Lib.wpList_append_run (P := Try.prog) w (w' := w') (v' := .slice (some ⟨w.heap.size, 0, none⟩) n g) rfl (.tmp 20) (.tmp 21) 38 3 rfl (.slice none 0 0) (.int .i64 n) (by first | rfl | go_simp) (by first | rfl | go_simp) (HR.out _) ?_)
    go_ret
    exact ⟨_, rfl, HO.out, HB.out⟩

/-- a row of slices of bytes: block pb, and what each reads as -/
structure PartsAt (w : World) (pb : Nat) (X : List (List Int)) : Prop where
  lt : pb < w.heap.size
  at_ : ∀ j, j < X.length → ∃ a c, w.cell? ⟨pb, j, none⟩ = some (.slice a (X.getD j []).length c) ∧ BytesAt w (.slice a (X.getD j []).length c) (X.getD j [])
theorem PartsAt.below {w w' : World} {pb : Nat} {X : List (List Int)} (h : PartsAt w pb X) (hb : Below w.heap.size w w') : PartsAt w' pb X :=
  ⟨Nat.lt_of_lt_of_le h.lt hb.size, fun j hj => by
    obtain ⟨a, c, h1, h2⟩ := h.at_ j hj
    exact ⟨a, c, (hb.cell (p := ⟨pb, j, none⟩) h.lt).trans h1, h2.below hb⟩⟩
theorem flat_step {X : List (List Int)} {k : Nat} (h : k < X.length) : (X.take (k + 1)).flatten = (X.take k).flatten ++ X.getD k [] := by
  have e : X.take (k + 1) = X.take k ++ [X.getD k []] := by
    rw [List.take_succ_eq_append_getElem h]
    simp [List.getD, h]
  rw [e, List.flatten_append]
  simp only [List.flatten_cons, List.flatten_nil, List.append_nil]
theorem flat_le (X : List (List Int)) (k : Nat) : (X.take k).flatten.length ≤ X.flatten.length := by
  have e : X.flatten = (X.take k).flatten ++ (X.drop k).flatten := by rw [← List.flatten_append, List.take_append_drop]
  rw [e, List.length_append]
  omega

def flN (X : List (List Int)) (k : Nat) : Nat := (X.take k).flatten.length
theorem flN_step {X : List (List Int)} {k : Nat} (h : k < X.length) : flN X (k + 1) = flN X k + (X.getD k []).length := by
  unfold flN
  rw [flat_step h, List.length_append]
theorem flN_le (X : List (List Int)) (k : Nat) : flN X k ≤ X.flatten.length := flat_le X k

set_option maxHeartbeats 1000000 in
theorem pconcat (pb : Nat) (X : List (List Int)) (w : World) (h : PartsAt w pb X) (hn : X.length ≤ 1000) (hs : X.flatten.length ≤ 8589934592) :
    Calls Try.prog 56 #[.slice (some ⟨pb, 0, none⟩) X.length X.length] w fun e w' => ∃ v', e = .returned v' ∧ OwnB w.heap.size w' v' X.flatten ∧ Below w.heap.size w w' := by
  have H := hid_mk h
  have HS := hid_mk hs
  have hni : (X.length : Int) ≤ 1000 := by omega
  have hpb := h.lt
  clear h hs
  go_enter Try.func56, Try.ntmps56
  go_wp2
  go_loop [3, 5, 11] (fun n s i => ∃ k : Nat, k ≤ X.length ∧ i = .int .i64 k ∧ n = .int .i64 (flN X k : Nat)) (fun _ _ i => X.length - (intOf i).toNat)
  case atStart => exact ⟨0, Nat.zero_le _, rfl, rfl⟩
  case round =>
    obtain ⟨k, hk, rfl, rfl⟩ := hrel
    by_cases hlt : k < X.length
    · obtain ⟨a, c, hc, _⟩ := H.out.at_ k hlt
      have hst := flN_step hlt
      have hle := flN_le X (k + 1)
      have hS := HS.out
      have h1 : (flN X k : Int) + ((X.getD k []).length : Int) ≤ 8589934592 := by omega
      have h2 : ¬ (flN X k : Int) + ((X.getD k []).length : Int) < 0 := by omega
      have HE : Hid ((flN X k : Int) + ((X.getD k []).length : Int) = (flN X (k + 1) : Int)) := by
        show _ = _
        omega
      clear hst hle hS
      generalize flN X k = m at *
      generalize (X.getD k []).length = q at *
      go_wp2_with fail
      go_round
      case rel => exact ⟨k + 1, by omega, by go_num, by rw [HE.out]⟩
      case measure => simp [intOf]; omega
    · obtain rfl : k = X.length := by omega
      have hsz : flN X X.length ≤ 8589934592 := Nat.le_trans (flN_le X _) HS.out
      generalize flN X X.length = sz at *
      go_wp2_with fail
      refine (pgrow sz _ hsz).mono ?_
      rintro e w1 ⟨v1, rfl, ho, hb⟩
      have HO1 := hid_mk ho
      have HB1 := hid_mk hb
      clear ho hb
      go_wp2_with fail
      go_loopw [6, 8, 27] (fun a s i wr => ∃ (k : Nat) (vo : Value), k ≤ X.length ∧ i = .int .i64 k ∧ vo = a ∧ Hid (OwnB w.heap.size wr vo (X.take k).flatten) ∧ Hid (Below w.heap.size w wr)) (fun _ _ i _ => X.length - (intOf i).toNat)
      case atStart => exact ⟨0, _, Nat.zero_le _, rfl, rfl, HO1, HB1⟩
      case round =>
        obtain ⟨k, vo, hk, rfl, rfl, hown, hbel⟩ := hrel
        by_cases hlt : k < X.length
        · obtain ⟨a, c, hc, hby⟩ := (H.out.below hbel.out).at_ k hlt
          have hst := flat_step hlt
          have hle := flat_le X (k + 1)
          have hS := HS.out
          have hlen := congrArg List.length hst
          rw [List.length_append] at hlen
          obtain ⟨v3, w3, happ, hown3, hb3⟩ := app_bytes hown.out hbel.out.size hby (by omega)
          have HAP := hid_mk happ
          rw [← hst] at hown3
          have HO3 := hid_mk hown3
          have HB3 := hid_mk (hbel.out.trans hb3)
          have hpw : pb < wr.heap.size := Nat.lt_of_lt_of_le hpb hbel.out.size
          clear hst hle hS hlen happ hown3 hb3 hown hbel hby
          generalize (X.getD k []).length = q at *
          go_wp2_with (at_builtin; refine wpList_append_run (v := vo) (u := .slice a q c) (v' := v3) (w' := w3) rfl (.tmp 31) (.tmp 32) 38 rfl (by first | rfl | go_simp) (by first | rfl | go_simp) (HAP.out _) ?_)
          go_roundw
          case rel => exact ⟨k + 1, _, by omega, by go_num, rfl, HO3, HB3⟩
          case measure => simp [intOf]; omega
        · obtain rfl : k = X.length := by omega
          rw [List.take_length] at hown
          go_wp2_with fail
          go_ret
          exact ⟨_, rfl, hown.out, hbel.out⟩
end Go.Proofs.Yteolnghnlfeakaa
