/- The reference of layer 8: Check, Is. Conditions: as each theorem names them. -/
import Derived.Test.YtfbimocgcnaogaaFe2
namespace Go.Proofs.Ytfbimocgcnaogaa
open Go.ChangeShapes Go.WideShapes Go.ChangeAt Go.RowKit
set_option linter.unusedVariables false
set_option maxRecDepth 100000

theorem okI_lo {S x : Int} (h : x < 0) : okI S x = false := by
  unfold okI
  rw [decide_eq_false (by omega)]
  rfl
theorem okI_hi {S x : Int} (h : S ≤ x) : okI S x = false := by
  unfold okI
  rw [decide_eq_false (show ¬ x < S by omega), Bool.and_false]
theorem okI_in {S x : Int} (h : 0 ≤ x) (h2 : x < S) : okI S x = true := by
  unfold okI
  rw [decide_eq_true h, decide_eq_true h2]
  rfl
theorem chk_no {S : Int} {L : List Int} (h : S < 1 ∨ 32768 < S ∨ S < (L.length : Int) ∨ okT S L L.length = false) : chkLE S L = 2 := by
  unfold chkLE
  refine if_neg (fun h2 => ?_)
  have h3 := chkL_iff.1 h2
  rcases h with h | h | h | h
  · omega
  · omega
  · omega
  · unfold chkL at h2
    rw [h, Bool.and_false] at h2
    cases h2
theorem chk_yes {S : Int} {L : List Int} (h1 : 1 ≤ S) (h2 : S ≤ 32768) (h3 : (L.length : Int) ≤ S) (h4 : okT S L L.length = true) : chkLE S L = 0 := by
  unfold chkLE chkL
  rw [if_pos]
  rw [h4, decide_eq_true h1, decide_eq_true h2, decide_eq_true h3]
  rfl
set_option maxHeartbeats 4000000 in
theorem rfcheck (S : Int) (v : Value) (L : List Int) (w : World) (hv : IntsZ w v L) :
    Calls Try.prog 19 #[frV S v] w fun e w' => e = .returned (.int .i64 (chkLE S L)) ∧ Below w.heap.size w w' := by
  obtain ⟨va, vc, rfl⟩ := hv.len
  unfold frV
  by_cases h1 : S < 1
  · have HE := hid_mk (chk_no (L := L) (Or.inl h1))
    go_enter Try.func19, Try.ntmps19
    go_wp2
    go_ret
    exact ⟨ret_eq (by rw [HE.out]; rfl), below_box w _⟩
  by_cases h2 : 32768 < S
  · have HE := hid_mk (chk_no (L := L) (Or.inr (Or.inl h2)))
    have h1' : ¬ S < 1 := h1
    go_enter Try.func19, Try.ntmps19
    go_wp2
    go_ret
    exact ⟨ret_eq (by rw [HE.out]; rfl), below_box w _⟩
  by_cases h3 : S < (L.length : Int)
  · have HE := hid_mk (chk_no (L := L) (Or.inr (Or.inr (Or.inl h3))))
    go_enter Try.func19, Try.ntmps19
    go_wp2
    go_ret
    exact ⟨ret_eq (by rw [HE.out]; rfl), below_box w _⟩
  have HV := hid_mk hv
  have HNo := hid_mk (fun h => chk_no (S := S) (L := L) (Or.inr (Or.inr (Or.inr h))))
  have HYes := hid_mk (fun h => chk_yes (S := S) (L := L) (by omega) (by omega) (by omega) h)
  have HL : Hid (L.length ≤ 1000000) := hid_mk (by omega)
  clear hv
  go_enter Try.func19, Try.ntmps19
  go_wp2
  have HW0 := hid_mk (fr_box w S (.slice va L.length vc) 24)
  have HB0 := hid_mk (below_box w (.cells #[.int .i64 S, .slice va L.length vc] 24))
  have HZ0 := hid_mk (show w.heap.size < (w.alloc (.cells #[.int .i64 S, .slice va L.length vc] 24)).heap.size by simp)
  have HV0 := hid_mk (HV.out.below HB0.out)
  generalize hw0 : w.alloc (.cells #[.int .i64 S, .slice va L.length vc] 24) = w0 at *
  generalize hbx : w.heap.size = bx at *
  clear h1 h2 h3 HV
  go_loopw [3] (fun i wr => ∃ k n : Nat, k ≤ L.length ∧ i = .int .i64 k ∧ Hid (wr = w0.drewN n) ∧ Hid (okT S L k = true)) (fun i _ => L.length - (intOf i).toNat)
  case atStart => exact ⟨0, 0, Nat.zero_le _, rfl, hid_mk rfl, hid_mk rfl⟩
  case round =>
    obtain ⟨k, n, hk, rfl, hwr, hok⟩ := hrel
    have x0 : wr.cell? ⟨bx, 0, none⟩ = some (.int .i64 S) := by rw [hwr.out]; exact HW0.out.1
    have x1 : wr.cell? ⟨bx, 1, none⟩ = some (.slice va L.length vc) := by rw [hwr.out]; exact HW0.out.2
    have x2 : bx < wr.heap.size := by rw [hwr.out]; exact HZ0.out
    by_cases hlt : k < L.length
    · have hC : ∃ b o, va = some ⟨b, o, none⟩ ∧ wr.cell? ⟨b, o + k, none⟩ = some (.int .i64 (L.getD k 0)) := by
        rw [hwr.out]
        rcases HV0.out with ⟨_, e⟩ | ⟨b, o, c, he, g1, g2, g3⟩
        · rw [e] at hlt
          simp at hlt
        · cases he
          exact ⟨b, o, rfl, g3 k hlt⟩
      obtain ⟨v1, _, hs1, hv1, _, _⟩ := slicesI HV0.out k hk
      have hl1 : (L.take k).length ≤ 1000000 := by
        have := HL.out
        rw [List.length_take]
        omega
      have HIN := hid_mk (fun u (hu : ∃ m, u = w0.drewN m) => rin v1 (L.take k) (L.getD k 0) u (by obtain ⟨m, rfl⟩ := hu; exact hv1.below (below_drewN _ _)) hl1)
      have HST := hid_mk (okT_succ S L k)
      have HN2 := hid_mk (fun h => HNo.out (okT_no (S := S) hlt h))
      clear hv1 hl1
      obtain ⟨b, o, rfl, c0⟩ := hC
      have hki : (k : Int) < (L.length : Int) := by omega
      have hk6 : (k : Int) < 1000000 := by
        have := HL.out
        omega
      generalize L.getD k 0 = x at *
      generalize inB (L.take k) x = z at *
      by_cases hx0 : x < 0
      · have hd : decide (x < 0) = true := decide_eq_true hx0
        have HE := hid_mk (HN2.out (by rw [okI_lo hx0]; rfl))
        clear HN2 HST hx0 HIN
        go_wp2
        go_quiet (fail)
        go_wp2
        go_ret
        exact ⟨ret_eq (by rw [HE.out]; rfl), by rw [hwr.out, hbx]; exact below_dn (below_dn HB0.out _) _⟩
      · have hd : decide (x < 0) = false := decide_eq_false hx0
        by_cases hxS : S ≤ x
        · have hd2 : decide (S ≤ x) = true := decide_eq_true hxS
          have HE := hid_mk (HN2.out (by rw [okI_hi hxS]; rfl))
          clear HN2 HST hx0 hxS HIN
          go_wp2
          go_quiet (fail)
          go_wp2
          go_ret
          exact ⟨ret_eq (by rw [HE.out]; rfl), by rw [hwr.out, hbx]; exact below_dn (below_dn HB0.out _) _⟩
        · have hd2 : decide (S ≤ x) = false := decide_eq_false hxS
          have ho := okI_in (S := S) (x := x) (by omega) (by omega)
          have HQ := hid_mk (fun q : Nat => (HIN.out (wr.drewN q) (by rw [hwr.out]; exact ⟨_, World.drewN_drewN _ _ _⟩)).mono (R' := fun e w' => e = .returned (.bool z) ∧ ∃ m, w' = (wr.drewN q).drewN m) (fun e w' h => ⟨h.1, 0, h.2⟩))
          cases z
          · have HE : Hid (okT S L (k + 1) = true) := hid_mk (by rw [HST.out, hok.out, ho]; rfl)
            clear HN2 HST hx0 hxS HIN ho
            go_wp2
            go_quiet (exact Calls.quiet_of (HQ.out _))
            go_wp2
            go_roundw
            case rel => exact ⟨k + 1, _, by omega, by simp, hid_mk (by rw [hwr.out, World.drewN_drewN]), HE⟩
            case measure => simp [intOf]; omega
          · have HE := hid_mk (HN2.out (by rw [ho]; rfl))
            clear HN2 HST hx0 hxS HIN ho
            go_wp2
            go_quiet (exact Calls.quiet_of (HQ.out _))
            go_wp2
            go_ret
            exact ⟨ret_eq (by rw [HE.out]; rfl), by rw [hwr.out, hbx]; exact below_dn (below_dn HB0.out _) _⟩
    · obtain rfl : k = L.length := by omega
      have HE := hid_mk (HYes.out hok.out)
      go_wp2
      go_ret
      exact ⟨ret_eq (by rw [HE.out]; rfl), by rw [hwr.out, hbx]; exact below_dn HB0.out _⟩
end Go.Proofs.Ytfbimocgcnaogaa
