/- feat's functions by name: All, Known, Closed, Accept, Needs, Best, Has, With, Opts. Conditions: as each theorem names them. -/
import Derived.Test.YtfiogaollejdbaaFc3
namespace Go.Proofs.Ytfiogaollejdbaa
open Go.ChangeShapes Go.WideShapes Go.ChangeAt Go.RowKit
set_option linter.unusedVariables false
set_option maxRecDepth 100000

theorem fall (k : Int) (w : World) :
    Calls Try.prog 34 #[.int .i64 k] w fun e w' => e = .returned (.int .u64 (allF k : Nat)) ∧ Below w.heap.size w w' :=
  (fall_q k w).mono fun e w' h => ⟨h.1, h.2 ▸ Below.refl _ _⟩
theorem fknown (k : Int) (s : Nat) (hs : s < N64) (w : World) :
    Calls Try.prog 46 #[.int .i64 k, .int .u64 s] w fun e w' => e = .returned (.bool (knownF k s)) ∧ Below w.heap.size w w' :=
  (fknown_q k s hs w).mono fun e w' h => ⟨h.1, h.2 ▸ Below.refl _ _⟩
theorem fhas_q (s : Nat) (hs : s < N64) (b : Int) (w : World) :
    Calls Try.prog 32 #[.int .u64 s, .int .i64 b] w fun e w' => e = .returned (.bool (hasF s b)) ∧ ∃ m, w' = w.drewN m :=
  (fhas_w s hs b w).mono fun e w' h => ⟨h.1, 0, h.2⟩
theorem fhas (s : Nat) (hs : s < N64) (b : Int) (w : World) :
    Calls Try.prog 32 #[.int .u64 s, .int .i64 b] w fun e w' => e = .returned (.bool (hasF s b)) ∧ Below w.heap.size w w' :=
  (fhas_w s hs b w).mono fun e w' h => ⟨h.1, h.2 ▸ Below.refl _ _⟩

set_option maxHeartbeats 2000000 in
theorem fneeds (k : Int) (s : Nat) (hs : s < N64) (w : World) :
    Calls Try.prog 51 #[.int .i64 k, .int .u64 s] w fun e w' => e = .returned (.int .u64 (needF k s : Nat)) ∧ Below w.heap.size w w' := by
  have HK := hid_mk (fknown_q k s hs)
  cases hk : knownF k s
  · have e : needF k s = 0 := by
      unfold needF
      rw [hk]
      rfl
    rw [e]
    rw [hk] at HK
    clear e hk
    go_enter Try.func51, Try.ntmps51
    go_wp2_with fail
    refine (HK.out _).mono ?_
    rintro e w1 ⟨rfl, rfl⟩
    go_wp2_with fail
    go_ret
    exact ⟨rfl, Below.refl _ _⟩
  · have e : needF k s = minF (cloF k s) s := by
      unfold needF
      rw [if_pos hk]
    rw [e]
    rw [hk] at HK
    have HO := hid_mk (u64_or_nat s (2 ^ 32) hs (by decide))
    rw [show ((2 ^ 32 : Nat) : Int) = 4294967296 by decide] at HO
    have HF := hid_mk (fsettle_add k (s ||| 2 ^ 32) (or_lt hs (by decide)))
    rw [runA_clo] at HF
    have HM := hid_mk (min_int (cloF_lt (k := k) hs) hs)
    clear e hk
    generalize cloF k s = c at *
    generalize s ||| 2 ^ 32 = t at *
    go_enter Try.func51, Try.ntmps51
    go_wp2_with fail
    refine (HK.out _).mono ?_
    rintro e w1 ⟨rfl, rfl⟩
    go_wp2_with fail
    rw [HO.out]
    refine (HF.out _).mono ?_
    rintro e w2 ⟨rfl, hb⟩
    go_wp2_with fail
    go_ret
    exact ⟨ret_eq (by rw [← HM.out]; rfl), hb⟩

set_option maxHeartbeats 2000000 in
theorem fclosed (k : Int) (s : Nat) (hs : s < N64) (w : World) :
    Calls Try.prog 50 #[.int .i64 k, .int .u64 s] w fun e w' => e = .returned (.bool (closedF k s)) ∧ Below w.heap.size w w' := by
  have HK := hid_mk (fknown_q k s hs)
  have HN := hid_mk (fneeds k s hs)
  have HC : closedF k s = (knownF k s && decide (needF k s = 0)) := rfl
  rw [HC]
  cases hk : knownF k s
  · rw [Bool.false_and]
    rw [hk] at HK
    clear HC hk HN
    go_enter Try.func50, Try.ntmps50
    go_wp2_with fail
    refine (HK.out _).mono ?_
    rintro e w1 ⟨rfl, rfl⟩
    go_wp2_with fail
    go_ret
    exact ⟨rfl, Below.refl _ _⟩
  · rw [Bool.true_and]
    rw [hk] at HK
    have HZ := hid_mk (zero_int (needF k s))
    clear HC hk
    generalize needF k s = z at *
    go_enter Try.func50, Try.ntmps50
    go_wp2_with fail
    refine (HK.out _).mono ?_
    rintro e w1 ⟨rfl, rfl⟩
    go_wp2_with fail
    refine (HN.out _).mono ?_
    rintro e w2 ⟨rfl, hb2⟩
    go_wp2_with fail
    go_ret
    exact ⟨ret_eq (by rw [← HZ.out]; rfl), hb2⟩

set_option maxHeartbeats 2000000 in
theorem faccept (k : Int) (o s : Nat) (ho : o < N64) (hs : s < N64) (w : World) :
    Calls Try.prog 48 #[.int .i64 k, .int .u64 o, .int .u64 s] w fun e w' => e = .returned (.bool (acceptF k o s)) ∧ Below w.heap.size w w' := by
  have HK := hid_mk (fclosed k s hs)
  have HC : acceptF k o s = (closedF k s && decide (minF s o = 0)) := rfl
  rw [HC]
  cases hk : closedF k s
  · rw [Bool.false_and]
    rw [hk] at HK
    clear HC hk
    go_enter Try.func48, Try.ntmps48
    go_wp2_with fail
    refine (HK.out _).mono ?_
    rintro e w1 ⟨rfl, hb1⟩
    go_wp2_with fail
    go_ret
    exact ⟨rfl, hb1⟩
  · rw [Bool.true_and]
    rw [hk] at HK
    have HW := hid_mk (fwithin_q s o hs ho)
    clear HC hk
    generalize decide (minF s o = 0) = z at *
    go_enter Try.func48, Try.ntmps48
    go_wp2_with fail
    refine (HK.out _).mono ?_
    rintro e w1 ⟨rfl, hb1⟩
    go_wp2_with fail
    refine (HW.out _).mono ?_
    rintro e w2 ⟨rfl, rfl⟩
    go_wp2_with fail
    go_ret
    exact ⟨rfl, hb1⟩

set_option maxHeartbeats 2000000 in
theorem fbest (k : Int) (o wt : Nat) (ho : o < N64) (hw : wt < N64) (w : World) :
    Calls Try.prog 22 #[.int .i64 k, .int .u64 o, .int .u64 wt] w fun e w' => e = .returned (.tuple #[.int .u64 (bestR k o wt : Nat), .int .i64 (bestE k o)]) ∧ Below w.heap.size w w' := by
  have HE := hid_mk (fexists_q k)
  have HA := hid_mk (fall_q k)
  have HH := hid_mk (fhas_w o ho 32)
  rw [show hasF o 32 = o.testBit 32 from hasF_nat (n := 32) (by decide)] at HH
  by_cases h0 : allF k = 0
  · have e : bestB k o = false := by
      unfold bestB
      rw [decide_eq_false (by simp [h0])]
      rfl
    have e1 : bestR k o wt = 0 := by
      unfold bestR
      rw [e]
      rfl
    have e2 : bestE k o = 2 := by
      unfold bestE
      rw [e]
      rfl
    rw [e1, e2]
    rw [decide_eq_false (by simp [h0])] at HE
    clear e e1 e2 h0 HH HA
    go_enter Try.func22, Try.ntmps22
    go_wp2_with fail
    refine (HE.out _).mono ?_
    rintro e w1 ⟨rfl, rfl⟩
    go_wp2_with fail
    exact bodyPost_ret (v := .tuple #[.int .u64 0, .int .i64 2]) (by simp [results, Try.results22, go_sem]) rfl ⟨rfl, Below.refl _ _⟩
  · rw [decide_eq_true h0] at HE
    cases hv : o.testBit 32
    · have e : bestB k o = false := by
        unfold bestB
        rw [hv, Bool.and_false]
      have e1 : bestR k o wt = 0 := by
        unfold bestR
        rw [e]
        rfl
      have e2 : bestE k o = 2 := by
        unfold bestE
        rw [e]
        rfl
      rw [e1, e2]
      rw [hv] at HH
      clear e e1 e2 h0 hv HA
      go_enter Try.func22, Try.ntmps22
      go_wp2_with fail
      refine (HE.out _).mono ?_
      rintro e w1 ⟨rfl, rfl⟩
      go_wp2_with fail
      refine (HH.out _).mono ?_
      rintro e w2 ⟨rfl, rfl⟩
      go_wp2_with fail
      exact bodyPost_ret (v := .tuple #[.int .u64 0, .int .i64 2]) (by simp [results, Try.results22, go_sem]) rfl ⟨rfl, Below.refl _ _⟩
    · have e : bestB k o = true := by
        unfold bestB
        rw [hv, decide_eq_true h0]
        rfl
      have e1 : bestR k o wt = bestF k o wt := by
        unfold bestR
        rw [if_pos e]
      have e2 : bestE k o = 0 := by
        unfold bestE
        rw [if_pos e]
      rw [e1, e2]
      rw [hv] at HH
      have HM1 := hid_mk (u64_or_nat wt (2 ^ 32) hw (by decide))
      have HM2 := hid_mk (u64_and_nat o (wt ||| 2 ^ 32) ho (or_lt hw (by decide)))
      have HM3 := hid_mk (u64_and_nat (o &&& (wt ||| 2 ^ 32)) (allF k) (and_lt _ ho) (allF_lt k))
      rw [show ((2 ^ 32 : Nat) : Int) = 4294967296 by decide] at HM1
      have HM : Hid (bits .and .u64 (bits .and .u64 o (bits .or .u64 wt 4294967296)) (allF k : Nat) = (candF k o wt : Nat)) := by
        show _ = _
        rw [HM1.out, HM2.out, HM3.out]
        rfl
      have HF := hid_mk (fsettle_drop k (candF k o wt) (candF_lt ho))
      rw [runD_best k o wt ho] at HF
      clear e e1 e2 h0 hv HM1 HM2 HM3
      generalize allF k = a at *
      generalize candF k o wt = c at *
      generalize bestF k o wt = z at *
      go_enter Try.func22, Try.ntmps22
      go_wp2_with fail
      refine (HE.out _).mono ?_
      rintro e w1 ⟨rfl, rfl⟩
      go_wp2_with fail
      refine (HH.out _).mono ?_
      rintro e w2 ⟨rfl, rfl⟩
      go_wp2_with fail
      refine (HA.out _).mono ?_
      rintro e w2 ⟨rfl, rfl⟩
      go_wp2_with fail
      rw [HM.out]
      refine (HF.out _).mono ?_
      rintro e w3 ⟨rfl, hb⟩
      go_wp2_with fail
      exact bodyPost_ret (v := .tuple #[.int .u64 z, .int .i64 0]) (by simp [results, Try.results22, go_sem]) rfl ⟨rfl, hb⟩

/-- With's answers -/
def withB (L : List Nat) : Bool := L.all fun b => decide (b < 64)
def withR (s : Nat) (L : List Nat) : Nat := if withB L = true then s ||| orF L else 0
def withE (L : List Nat) : Int := if withB L = true then 0 else 2
theorem withB_take {L : List Nat} {k : Nat} (hk : k < L.length) (h : L.getD k 0 < 64) (ht : withB (L.take k) = true) : withB (L.take (k + 1)) = true := by
  unfold withB at ht ⊢
  rw [List.take_succ_eq_append_getElem hk, List.all_append, ht]
  rw [List.getD_eq_getElem?_getD, List.getElem?_eq_getElem hk] at h
  simp at h
  simp [h]
theorem withB_no {L : List Nat} {k : Nat} (hk : k < L.length) (h : ¬ L.getD k 0 < 64) : withB L = false := by
  unfold withB
  rw [List.all_eq_false]
  refine ⟨L[k], List.getElem_mem hk, ?_⟩
  rw [List.getD_eq_getElem?_getD, List.getElem?_eq_getElem hk] at h
  simpa using h
theorem orF_takeS {L : List Nat} {k : Nat} (hk : k < L.length) (s : Nat) : (s ||| orF (L.take k)) ||| 2 ^ L.getD k 0 = s ||| orF (L.take (k + 1)) := by
  rw [orF_take hk, Nat.or_assoc]
theorem with_lt {L : List Nat} {s : Nat} (hs : s < N64) (k : Nat) (h : withB (L.take k) = true) : s ||| orF (L.take k) < N64 := by
  refine or_lt hs (orF_lt fun x hx => ?_)
  unfold withB at h
  rw [List.all_eq_true] at h
  exact of_decide_eq_true (h x hx)

end Go.Proofs.Ytfiogaollejdbaa
