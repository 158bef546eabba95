/- Sg2 Sg3: joined texts. Conditions: as each theorem names them. -/
import Derived.Test.YtgdokgpplldddaaKp18
import Derived.BigQuiet
/- The reference's Check of layer 5. Conditions: as each theorem names them. -/
namespace Go.Proofs.Ytgdokgpplldddaa
open Go.ChangeShapes Go.WideShapes Go.ChangeAt Go.RowKit
set_option linter.unusedVariables false
set_option maxRecDepth 100000

def prevT (L : List Sg) (k : Nat) : Bool := if k = 0 then false else (sat L (k - 1)).t
/-- what Check has seen when it comes to segment k with so many bytes -/
structure SgInv (L : List Sg) (k : Nat) (S : Int) : Prop where
  lo : 0 ≤ S
  hi : S ≤ 4294967296 * (k : Int)
  eq : sgC false 0 L = sgC (prevT L k) S (L.drop k)
theorem SgInv.start (L : List Sg) : SgInv L 0 0 := ⟨by omega, by omega, rfl⟩
theorem SgInv.stop {L : List Sg} {k : Nat} {S : Int} (h : SgInv L k S) (hk : k < L.length) (hc : (sat L k).n = 0 ∨ 18446744073709551616 < (sat L k).a + (sat L k).n ∨ (prevT L k = true ∧ (sat L k).t = false)) : sgC false 0 L = 2 := by
  rw [h.eq, drop_sat hk]
  show (if _ then _ else _) = _
  rw [if_pos hc]
theorem SgInv.next {L : List Sg} {k : Nat} {S : Int} (h : SgInv L k S) (hk : k < L.length) (hu : isSgs L) (hc : ¬ ((sat L k).n = 0 ∨ 18446744073709551616 < (sat L k).a + (sat L k).n ∨ (prevT L k = true ∧ (sat L k).t = false))) : SgInv L (k + 1) (S + (sat L k).n) := by
  have h0 := h.lo
  have h1 := h.hi
  obtain ⟨_, h2, h3⟩ := sat_is hu k
  refine ⟨by omega, by omega, ?_⟩
  have e : sgC (prevT L k) S (sat L k :: L.drop (k + 1)) = if (sat L k).n = 0 ∨ 18446744073709551616 < (sat L k).a + (sat L k).n ∨ (prevT L k = true ∧ (sat L k).t = false) then 2 else sgC (sat L k).t (S + (sat L k).n) (L.drop (k + 1)) := rfl
  rw [h.eq, drop_sat hk, e, if_neg hc]
  have e2 : prevT L (k + 1) = (sat L k).t := by simp [prevT]
  rw [e2]
theorem SgInv.done {L : List Sg} {S : Int} (h : SgInv L L.length S) : sgC false 0 L = if 4294967296 ≤ S then 2 else 0 := by
  rw [h.eq, List.drop_length]
  rfl

set_option maxHeartbeats 4000000 in
theorem rsegchk (v : Value) (L : List Sg) (w : World) (hv : SegsAt w v L) (hu : isSgs L) :
    Calls Try.prog 70 #[v] w fun e w' => e = .returned (.int .i64 (segE L)) ∧ ∃ m, w' = w.drewN m := by
  rcases hv with ⟨⟨va, vc, rfl, _⟩, rfl⟩ | ⟨b, o, c, rfl, hb1, hb2, hb3⟩
  · go_enter Try.func70, Try.ntmps70
    go_wp2
    go_loop [3, 4] (fun n i => n = .int .u64 0 ∧ i = .int .i64 0) (fun _ i => 0)
    case atStart => exact ⟨rfl, rfl⟩
    case round =>
      obtain ⟨rfl, rfl⟩ := hrel
      go_wp2
      go_ret
      exact ⟨rfl, 0, rfl⟩
  · by_cases h64 : 64 < L.length
    · have h64i : (64 : Int) < (L.length : Int) := by omega
      go_enter Try.func70, Try.ntmps70
      go_wp2
      go_ret
      refine ⟨ret_eq ?_, 0, rfl⟩
      unfold segE
      rw [if_pos h64]
      rfl
    · have HC := hid_mk hb3
      have HU := hid_mk hu
      have h64i : (L.length : Int) ≤ 64 := by omega
      have e64 : segE L = sgC false 0 L := by
        unfold segE
        rw [if_neg h64]
      rw [e64]
      clear hb3 hu e64
      go_enter Try.func70, Try.ntmps70
      go_wp2
      go_loopw [3, 4] (fun n i wr => ∃ (k m : Nat) (S : Int), k ≤ L.length ∧ i = .int .i64 k ∧ n = .int .u64 S ∧ wr = w.drewN m ∧ Hid (SgInv L k S)) (fun _ i _ => L.length - (intOf i).toNat)
      case atStart => exact ⟨0, 0, 0, Nat.zero_le _, rfl, rfl, rfl, hid_mk (SgInv.start L)⟩
      case round =>
        obtain ⟨k, m, S, hk, rfl, rfl, rfl, hinv⟩ := hrel
        by_cases hlt : k < L.length
        · have hc := HC.out k hlt
          obtain ⟨c0, c1, c2⟩ := hc
          have HK := hid_mk (fun h => hinv.out.stop hlt h)
          have HN := hid_mk (fun h => hinv.out.next hlt HU.out h)
          have hr0 := hinv.out.lo
          have hr1 := hinv.out.hi
          obtain ⟨hx, hy0, hy1⟩ := sat_is HU.out k
          have hpt : prevT L k = if k = 0 then false else (sat L (k - 1)).t := rfl
          clear hinv
          generalize (sat L k).a = x at *
          generalize (sat L k).n = y at *
          generalize (sat L k).t = z at *
          have hyw : IntKind.u64.wrap y = y := by rw [IntKind.wrap_u64]; omega
          by_cases y0 : y = 0
          · subst y0
            have HF := hid_mk (HK.out (Or.inl rfl))
            clear hr0 hr1 hpt
            go_wp2_with fail
            go_quiet (fail)
            go_wp2_with fail
            go_ret
            exact ⟨ret_eq (by rw [HF.out]; rfl), _, drewN_drewN _ _ _⟩
          · have hyb : (y == 0) = false := by simp; exact y0
            have hw2 : IntKind.u64.wrap (y - 1) = y - 1 := by rw [IntKind.wrap_u64]; omega
            by_cases hl : 18446744073709551616 < x + y
            · have HF := hid_mk (HK.out (Or.inr (Or.inl hl)))
              have hd2 : decide (IntKind.u64.wrap (x + (y - 1)) < x) = true := by
                simp only [decide_eq_true_eq]
                rw [IntKind.wrap_u64]
                omega
              clear hl hr0 hr1 hpt
              go_wp2_with fail
              go_quiet (fail)
              go_wp2_with fail
              go_ret
              exact ⟨ret_eq (by rw [HF.out]; rfl), _, drewN_drewN _ _ _⟩
            · have hd2 : decide (IntKind.u64.wrap (x + (y - 1)) < x) = false := by
                simp only [decide_eq_false_iff_not]
                rw [IntKind.wrap_u64]
                omega
              have hw : IntKind.u64.wrap (S + y) = S + y := by rw [IntKind.wrap_u64]; omega
              have HL := hid_mk hl
              have HY := hid_mk y0
              clear hl hr0 hr1
              rcases Nat.eq_zero_or_pos k with hk0 | hkp
              · subst hk0
                simp only [Nat.zero_mul, Nat.add_zero] at c0 c1 c2
                have HX := hid_mk (HN.out (by
                  rintro (h | h | h)
                  · exact HY.out h
                  · exact HL.out h
                  · rw [hpt] at h
                    simp at h))
                clear hpt
                go_wp2_with fail
                go_quiet (fail)
                clear hd2 hyb hx hy0 hy1 y0 hw2
                go_wp2_with fail
                go_roundw
                case rel => exact ⟨1, _, S + y, by omega, by go_num, rfl, rfl, hid_mk HX.out⟩
                case measure => simp [intOf]; omega
              · obtain ⟨q, rfl⟩ : ∃ q, k = q + 1 := ⟨k - 1, by omega⟩
                obtain ⟨_, _, c5⟩ := HC.out q (by omega)
                rw [if_neg (by omega), Nat.add_sub_cancel] at hpt
                generalize (sat L q).t = pz at *
                have hgt : decide ((0 : Int) < (q : Int) + 1) = true := by simp
                have hi1 : IntKind.i64.wrap ((q : Int) + 1 - 1) = (q : Int) := by rw [show (q : Int) + 1 - 1 = q from by omega]; exact IntWalk.i64_in _ (by omega)
                have hi4 : IntKind.i64.wrap (q : Int) = (q : Int) := IntWalk.i64_in _ (by omega)
                have hi2 : (0 : Int) ≤ (q : Int) := by omega
                have hi3 : (q : Int) < (L.length : Int) := by omega
                cases pz
                · have HX := hid_mk (HN.out (by
                    rintro (h | h | h)
                    · exact HY.out h
                    · exact HL.out h
                    · rw [hpt] at h
                      simp at h))
                  clear hpt
                  go_wp2_with fail
                  go_quiet (fail)
                  clear hd2 hyb hx hy0 hy1 y0 hw2 hgt
                  go_wp2_with fail
                  go_roundw
                  case rel => exact ⟨q + 1 + 1, _, S + y, by omega, by go_num, rfl, rfl, hid_mk HX.out⟩
                  case measure => simp [intOf]; omega
                · cases z
                  · have HF := hid_mk (HK.out (Or.inr (Or.inr ⟨hpt, rfl⟩)))
                    clear hpt
                    go_wp2_with fail
                    go_quiet (fail)
                    go_wp2_with fail
                    go_ret
                    exact ⟨ret_eq (by rw [HF.out]; rfl), _, drewN_drewN _ _ _⟩
                  · have HX := hid_mk (HN.out (by
                      rintro (h | h | h)
                      · exact HY.out h
                      · exact HL.out h
                      · simp at h))
                    clear hpt
                    go_wp2_with fail
                    go_quiet (fail)
                    clear hd2 hyb hx hy0 hy1 y0 hw2 hgt
                    go_wp2_with fail
                    go_roundw
                    case rel => exact ⟨q + 1 + 1, _, S + y, by omega, by go_num, rfl, rfl, hid_mk HX.out⟩
                    case measure => simp [intOf]; omega
        · obtain rfl : k = L.length := by omega
          have HD := hid_mk hinv.out.done
          have hs := hinv.out.lo
          clear hinv
          by_cases hS : 4294967296 ≤ S
          · have HD2 := hid_mk (HD.out.trans (if_pos hS))
            have hd : decide (4294967296 ≤ S) = true := by simp; exact hS
            go_wp2_with fail
            go_ret
            exact ⟨ret_eq (by rw [HD2.out]; rfl), m, rfl⟩
          · have HD2 := hid_mk (HD.out.trans (if_neg hS))
            have hd : decide (4294967296 ≤ S) = false := by simp; omega
            go_wp2_with fail
            go_ret
            exact ⟨ret_eq (by rw [HD2.out]; rfl), m, rfl⟩
end Go.Proofs.Ytgdokgpplldddaa

/- The reference's Total of layer 5. Conditions: as each theorem names them. -/
namespace Go.Proofs.Ytgdokgpplldddaa
open Go.ChangeShapes Go.WideShapes Go.ChangeAt Go.RowKit
set_option linter.unusedVariables false
set_option maxRecDepth 100000

theorem take_sat {L : List Sg} {k : Nat} (h : k < L.length) : L.take (k + 1) = L.take k ++ [sat L k] := by
  rw [List.take_succ_eq_append_getElem h]
  simp [sat, List.getD, h]
theorem totS_append (t : Bool) : ∀ a b : List Sg, totS t (a ++ b) = totS t a + totS t b
  | [], b => by simp [totS]
  | s :: a, b => by
    have := totS_append t a b
    simp only [List.cons_append, totS]
    omega
theorem totS_one (t : Bool) (s : Sg) : totS t [s] = if s.t = t then s.n else 0 := by
  simp [totS]
theorem totS_step {t : Bool} {L : List Sg} {k : Nat} (h : k < L.length) : totS t (L.take (k + 1)) = totS t (L.take k) + if (sat L k).t = t then (sat L k).n else 0 := by
  rw [take_sat h, totS_append, totS_one]
theorem isSgs_take {L : List Sg} (h : isSgs L) (k : Nat) : isSgs (L.take k) := fun s hs => h s (List.mem_of_mem_take hs)
theorem sumS_append : ∀ a b : List Sg, sumS (a ++ b) = sumS a + sumS b
  | [], b => by simp [sumS]
  | s :: a, b => by
    have := sumS_append a b
    simp only [List.cons_append, sumS]
    omega
theorem totS_le {L : List Sg} (h : isSgs L) (t : Bool) (k : Nat) : 0 ≤ totS t (L.take k) ∧ totS t (L.take k) ≤ sumS L := by
  have h1 := isSgs_take h k
  have h2 := isSgs_drop h k
  have e := sumS_append (L.take k) (L.drop k)
  rw [List.take_append_drop] at e
  have e2 := totS_sum (L.take k)
  have p1 := totS_nonneg true h1
  have p2 := totS_nonneg false h1
  have p3 := sumS_nonneg h2
  cases t <;> constructor <;> omega

end Go.Proofs.Ytgdokgpplldddaa
