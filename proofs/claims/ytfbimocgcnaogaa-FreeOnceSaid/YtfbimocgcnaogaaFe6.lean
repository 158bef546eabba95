/- The reference of layer 8: New, Is. Conditions: as each theorem names them. -/
import Derived.Test.YtfbimocgcnaogaaFe4
namespace Go.Proofs.Ytfbimocgcnaogaa
open Go.ChangeShapes Go.WideShapes Go.ChangeAt Go.RowKit
set_option linter.unusedVariables false
set_option maxRecDepth 100000

set_option maxHeartbeats 2000000 in
theorem rfis (S : Int) (v : Value) (L : List Int) (n : Int) (w : World) (hv : IntsZ w v L) (hl : L.length ≤ 1000000) :
    Calls Try.prog 22 #[frV S v, .int .i64 n] w fun e w' => e = .returned (.bool (isL S L n)) ∧ Below w.heap.size w w' := by
  have HC := hid_mk (fun u (hu : IntsZ u v L) => rfcheck S v L u hu)
  unfold chkLE at HC
  unfold isL
  have HV := hid_mk hv
  have HL := hid_mk hl
  obtain ⟨va, vc, rfl⟩ := hv.len
  have HI := hid_mk (fun u (hu : IntsZ u (.slice va L.length vc) L) => rin (.slice va L.length vc) L n u hu HL.out)
  have HX := hid_mk (blk_new w [.int .i64 S, .slice va L.length vc] 24)
  have HB0 := hid_mk (below_box w (.cells #[.int .i64 S, .slice va L.length vc] 24))
  unfold frV at *
  clear hv hl
  generalize inB L n = z at *
  cases hc : chkL S L
  · rw [hc, if_neg (by decide)] at HC
    rw [Bool.false_and]
    clear hc
    go_enter Try.func22, Try.ntmps22
    go_wp2_with fail
    refine (HC.out _ (HV.out.below HB0.out)).mono ?_
    rintro e w1 ⟨rfl, hb1⟩
    have B1 := hid_mk (below_then HB0.out hb1)
    clear hb1
    go_wp2_with fail
    go_ret
    exact ⟨rfl, B1.out⟩
  · rw [hc, if_pos rfl] at HC
    rw [Bool.true_and]
    clear hc
    go_enter Try.func22, Try.ntmps22
    go_wp2_with fail
    refine (HC.out _ (HV.out.below HB0.out)).mono ?_
    rintro e w1 ⟨rfl, hb1⟩
    have B1 := hid_mk (below_then HB0.out hb1)
    have V1 := hid_mk ((HV.out.below HB0.out).below hb1)
    obtain ⟨x0, x1, x2, _⟩ := blk2 (HX.out.below hb1)
    clear hb1
    go_wp2_with fail
    refine (HI.out _ V1.out).mono ?_
    rintro e w2 ⟨rfl, rfl⟩
    go_wp2_with fail
    go_ret
    exact ⟨rfl, B1.out⟩

/-- where New stands -/
structure NwS (w : World) (bx rb : Nat) (S : Int) (k : Nat) (v : Value) (W : World) : Prop where
  box : BlkAt W bx [.int .i64 S, v] 24
  res : BlkAt W rb [.int .i64 0, .slice none 0 0] 24
  old : Below w.heap.size w W
  own : OwnI (bx + 1) W v (List.range k)
  lt : rb < bx
  gw : w.heap.size ≤ rb
theorem NwS.push {w W : World} {bx rb k : Nat} {S : Int} {v : Value} (h : NwS w bx rb S k v W) (hk : k ≤ 100000) :
    ∃ v' w', (∀ ty, (Builtin.append_ #[22, 22] ty #[v, .slice (some ⟨W.heap.size, 0, none⟩) 1 1]).run Try.prog (W.alloc (.cells #[.int .i64 k] 3)) = .ok v' w') ∧ BlkAt w' bx [.int .i64 S, v] 24 ∧ NwS w bx rb S (k + 1) v' (w'.setCell ⟨bx, 1, none⟩ v') ∧ (∃ a c, v' = .slice a (k + 1) c) := by
  have hlt := h.box.lt
  obtain ⟨v', w', h1, h2, h3⟩ := app_int k h.own (by omega) (by simp; omega)
  have hbx : BlkAt w' bx [.int .i64 S, v] 24 := (h3.block bx (by omega)).trans h.box
  have hrb : BlkAt w' rb [.int .i64 0, .slice none 0 0] 24 := (h3.block rb (by have := h.lt; omega)).trans h.res
  have hlk := h.lt
  have hgw := h.gw
  have hold : Below w.heap.size w w' := h.old.trans (h3.mono (by omega))
  have hr : List.range k ++ [k] = List.range (k + 1) := List.range_succ.symm
  rw [hr] at h2
  refine ⟨v', w', h1, hbx, ⟨hbx.set 1 _, hrb.other (by omega) _, hold.setCell (by show w.heap.size ≤ bx; omega) _, ?_, hlk, hgw⟩, ?_⟩
  · refine ⟨h2.1, ?_⟩
    rcases h2.2 with hn | ⟨gg, cap, cur, rfl, hg, hh, rest⟩
    · exact .inl hn
    · refine .inr ⟨gg, cap, cur, rfl, hg, ?_, rest⟩
      rw [Below.heap_setCell w' ⟨bx, 1, none⟩ _ gg (show gg ≠ bx by omega)]
      exact hh
  · obtain ⟨a, c, e⟩ := h2.len
    exact ⟨a, c, by rw [e]; simp⟩
theorem newLL_at {k : Nat} (h1 : 1 ≤ k) (h2 : k ≤ 32768) : newLL (k : Int) = (List.range k).map (fun i : Nat => (i : Int)) := by
  unfold newLL newLB
  rw [if_pos (by simp; omega)]
  simp
theorem IntsAt.z {w : World} {v : Value} {L : List Nat} (h : IntsAt w v L) : IntsZ w v (L.map (fun i : Nat => (i : Int))) := by
  rcases h with ⟨h1, rfl⟩ | ⟨b, o, c, rfl, h1, h2, h3⟩
  · exact Or.inl ⟨h1, rfl⟩
  · refine Or.inr ⟨b, o, c, by rw [List.length_map], h1, by rw [List.length_map]; exact h2, fun j hj => ?_⟩
    rw [List.length_map] at hj
    rw [h3 j hj]
    simp [List.getD, hj]

set_option maxHeartbeats 4000000 in
theorem rfnew (S : Int) (w : World) (hS : I64 S) :
    Calls Try.prog 21 #[.int .i64 S] w fun e w' => ∃ v, e = .returned (.tuple #[frV (newLS S) v, .int .i64 (newLE S)]) ∧ IntsZ w' v (newLL S) ∧ Below w.heap.size w w' := by
  unfold frV
  by_cases h1 : S < 1
  · have e : newLB S = false := by
      unfold newLB
      rw [decide_eq_false (show ¬ 1 ≤ S by omega)]
      rfl
    have e1 : newLS S = 0 ∧ newLE S = 2 ∧ newLL S = [] := by
      unfold newLS newLE newLL
      rw [e]
      exact ⟨rfl, rfl, rfl⟩
    rw [e1.1, e1.2.1, e1.2.2]
    have hd : decide (S < 1) = true := decide_eq_true h1
    clear e e1
    go_enter Try.func21, Try.ntmps21
    go_wp2_with fail
    exact bodyPost_ret (v := .tuple #[.agg #[.int .i64 0, .slice none 0 0], .int .i64 2]) (by simp [results, Try.results21, go_sem]) rfl ⟨_, rfl, IntsZ.nil _, below_box w _⟩
  have hd : decide (S < 1) = false := decide_eq_false h1
  by_cases h2 : 32768 < S
  · have e : newLB S = false := by
      unfold newLB
      rw [decide_eq_false (show ¬ S ≤ 32768 by omega), Bool.and_false]
    have e1 : newLS S = 0 ∧ newLE S = 2 ∧ newLL S = [] := by
      unfold newLS newLE newLL
      rw [e]
      exact ⟨rfl, rfl, rfl⟩
    rw [e1.1, e1.2.1, e1.2.2]
    have hd2 : decide (32768 < S) = true := decide_eq_true h2
    clear e e1
    go_enter Try.func21, Try.ntmps21
    go_wp2_with fail
    exact bodyPost_ret (v := .tuple #[.agg #[.int .i64 0, .slice none 0 0], .int .i64 2]) (by simp [results, Try.results21, go_sem]) rfl ⟨_, rfl, IntsZ.nil _, below_box w _⟩
  have hd2 : decide (32768 < S) = false := decide_eq_false h2
  obtain ⟨n, rfl⟩ := Int.eq_ofNat_of_zero_le (show 0 ≤ S by omega)
  have e : newLB (n : Int) = true := by
    unfold newLB
    rw [decide_eq_true (show (1 : Int) ≤ n by omega), decide_eq_true (show (n : Int) ≤ 32768 by omega)]
    rfl
  have e1 : newLS (n : Int) = n ∧ newLE (n : Int) = 0 := by
    unfold newLS newLE
    rw [e]
    exact ⟨rfl, rfl⟩
  rw [e1.1, e1.2, newLL_at (by omega) (by omega)]
  have HN : Hid (n ≤ 32768) := hid_mk (by omega)
  clear e e1 hS
  have hx := blk_new w [.int .i64 0, .slice none 0 0] 24
  have hy := blk_new (w.alloc (.cells #[.int .i64 0, .slice none 0 0] 24)) [.int .i64 n, .slice none 0 0] 24
  have HS0 : Hid (NwS w (w.heap.size + 1) w.heap.size n 0 (.slice none 0 0) ((w.alloc (.cells #[.int .i64 0, .slice none 0 0] 24)).alloc (.cells #[.int .i64 n, .slice none 0 0] 24))) :=
    hid_mk ⟨by simpa using hy, hx.below (below_box _ _), (below_box w _).alloc (by simp) _, World.ownsRow_nil _ _ _ _, by omega, Nat.le_refl _⟩
  clear hx hy
  go_enter Try.func21, Try.ntmps21
  go_wp2_with fail
  generalize ((w.alloc (.cells #[.int .i64 0, .slice none 0 0] 24)).alloc (.cells #[.int .i64 n, .slice none 0 0] 24)) = w0 at *
  obtain ⟨rb, hrb⟩ : ∃ rb, w.heap.size = rb := ⟨_, rfl⟩
  obtain ⟨bx, hbx⟩ : ∃ bx, w.heap.size + 1 = bx := ⟨_, rfl⟩
  rw [hbx] at HS0 ⊢
  have HRB := hid_mk hrb
  rw [hrb]
  rw [show NwS w bx w.heap.size = NwS w bx rb by rw [hrb]] at HS0
  clear hrb hbx h1 h2
  go_loopw [5] (fun i wr => ∃ (k : Nat) (v : Value), k ≤ n ∧ i = .int .i64 k ∧ Hid (NwS w bx rb n k v wr)) (fun i _ => n - (intOf i).toNat)
  case atStart => exact ⟨0, _, Nat.zero_le _, rfl, HS0⟩
  case round =>
    obtain ⟨k, v, hk, rfl, hs⟩ := hrel
    obtain ⟨x2, x0, x1, f0, f1⟩ := blk2 hs.out.box
    by_cases hlt : k < n
    · have hki : (k : Int) < (n : Int) := by omega
      have hk6 : (k : Int) < 100000 := by
        have := HN.out
        omega
      obtain ⟨v', w', hrun, hbx', hnx, hsh⟩ := hs.out.push (by have := HN.out; omega)
      have HRun := hid_mk hrun
      have HNx := hid_mk hnx
      obtain ⟨y2, y0, y1, g0, g1⟩ := blk2 hbx'
      obtain ⟨a', c', rfl⟩ := hsh
      clear hrun hnx hs
      go_wp2_with (at_builtin; refine wpList_append_run (v := v) (u := .slice (some ⟨wr.heap.size, 0, none⟩) 1 1) (v' := .slice a' (k + 1) c') (w' := w') rfl _ _ 22 rfl (by first | rfl | go_simp) (by first | rfl | go_simp) (HRun.out _) ?_)
      exact ⟨⟨k + 1, _, by omega, by simp, HNx⟩, by simp [intOf]; omega⟩
    · obtain rfl : k = n := by omega
      obtain ⟨a, c, rfl⟩ := hs.out.own.len
      obtain ⟨r2, q0, q1, p0, p1⟩ := blk2 hs.out.res
      go_wp2_with fail
      exact bodyPost_ret (v := .tuple #[.agg #[.int .i64 k, .slice a (List.range k).length c], .int .i64 0]) (by simp [results, Try.results21, go_sem, q0, q1]) rfl ⟨_, rfl, by
        have hrl := hs.out.lt
        have h4 := (hs.out.own.ints).z
        rcases h4 with h4 | ⟨b, o, c2, e2, h5, h6, h7⟩
        · exact Or.inl h4
        · refine Or.inr ⟨b, o, c2, e2, by simpa using h5, h6, fun j hj => ?_⟩
          have hb : bx < b := by
            rcases hs.out.own.at with ⟨_, e3⟩ | ⟨g, c3, e3, hg, _⟩
            · rw [e3] at e2
              injection e2 with e4
              cases e4
            · rw [e3] at e2
              injection e2 with e4
              injection e4 with e5
              injection e5 with e6
              omega
          have hne : b ≠ rb := by omega
          rw [World.cell?_of_block ((Below.heap_setCell _ ⟨rb, 1, none⟩ _ b hne).trans (Below.heap_setCell _ ⟨rb, 0, none⟩ _ b hne))]
          exact h7 j hj, put2 hs.out.old hs.out.gw _ _⟩
end Go.Proofs.Ytfbimocgcnaogaa
