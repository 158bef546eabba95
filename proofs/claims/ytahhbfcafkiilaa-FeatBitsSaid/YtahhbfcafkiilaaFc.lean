/- feat's functions by name: All, Known, Closed, Accept, Needs, Best, Has, With, Opts. Conditions: as each theorem names them. -/
import Derived.Test.YtahhbfcafkiilaaFc3
namespace Go.Proofs.Ytahhbfcafkiilaa
open Go.ChangeShapes Go.WideShapes Go.ChangeAt Go.RowKit
set_option linter.unusedVariables false
set_option maxRecDepth 100000

theorem fall (k : Int) (w : World) :
    Calls Try.prog 12 #[.int .i64 k] w fun e w' => e = .returned (.int .u64 (allF k : Nat)) ∧ Below w.heap.size w w' :=
  (fall_q k w).mono fun e w' h => ⟨h.1, h.2 ▸ Below.refl _ _⟩
theorem fknown (k : Int) (s : Nat) (hs : s < N64) (w : World) :
    Calls Try.prog 13 #[.int .i64 k, .int .u64 s] w fun e w' => e = .returned (.bool (knownF k s)) ∧ Below w.heap.size w w' :=
  (fknown_q k s hs w).mono fun e w' h => ⟨h.1, h.2 ▸ Below.refl _ _⟩
theorem fhas_q (s : Nat) (hs : s < N64) (b : Int) (w : World) :
    Calls Try.prog 15 #[.int .u64 s, .int .i64 b] w fun e w' => e = .returned (.bool (hasF s b)) ∧ ∃ m, w' = w.drewN m :=
  (fhas_w s hs b w).mono fun e w' h => ⟨h.1, 0, h.2⟩
theorem fhas (s : Nat) (hs : s < N64) (b : Int) (w : World) :
    Calls Try.prog 15 #[.int .u64 s, .int .i64 b] w fun e w' => e = .returned (.bool (hasF s b)) ∧ Below w.heap.size w w' :=
  (fhas_w s hs b w).mono fun e w' h => ⟨h.1, h.2 ▸ Below.refl _ _⟩

set_option maxHeartbeats 2000000 in
theorem fneeds (k : Int) (s : Nat) (hs : s < N64) (w : World) :
    Calls Try.prog 14 #[.int .i64 k, .int .u64 s] w fun e w' => e = .returned (.int .u64 (needF k s : Nat)) ∧ Below w.heap.size w w' := by
  have HK := hid_mk (fknown_q k s hs)
  cases hk : knownF k s
  · have e : needF k s = 0 := by
      unfold needF
      rw [hk]
      rfl
    rw [e]
    rw [hk] at HK
    clear e hk
    go_enter Try.func14, Try.ntmps14
    go_wp2_with fail
    refine (HK.out _).mono ?_
    rintro e w1 ⟨rfl, rfl⟩
    go_wp2_with fail
    go_ret
    exact ⟨rfl, Below.refl _ _⟩
  · have e : needF k s = minF (cloF k s) s := by
      unfold needF
      rw [if_pos hk]
    rw [e]
    rw [hk] at HK
    have HO := hid_mk (u64_or_nat s (2 ^ 32) hs (by decide))
    rw [show ((2 ^ 32 : Nat) : Int) = 4294967296 by decide] at HO
    have HF := hid_mk (fsettle_add k (s ||| 2 ^ 32) (or_lt hs (by decide)))
    rw [runA_clo] at HF
    have HM := hid_mk (min_int (cloF_lt (k := k) hs) hs)
    clear e hk
    generalize cloF k s = c at *
    generalize s ||| 2 ^ 32 = t at *
    go_enter Try.func14, Try.ntmps14
    go_wp2_with fail
    refine (HK.out _).mono ?_
    rintro e w1 ⟨rfl, rfl⟩
    go_wp2_with fail
    rw [HO.out]
    refine (HF.out _).mono ?_
    rintro e w2 ⟨rfl, hb⟩
    go_wp2_with fail
    go_ret
    exact ⟨ret_eq (by rw [← HM.out]; rfl), hb⟩

set_option maxHeartbeats 2000000 in
theorem fclosed (k : Int) (s : Nat) (hs : s < N64) (w : World) :
    Calls Try.prog 16 #[.int .i64 k, .int .u64 s] w fun e w' => e = .returned (.bool (closedF k s)) ∧ Below w.heap.size w w' := by
  have HK := hid_mk (fknown_q k s hs)
  have HN := hid_mk (fneeds k s hs)
  have HC : closedF k s = (knownF k s && decide (needF k s = 0)) := rfl
  rw [HC]
  cases hk : knownF k s
  · rw [Bool.false_and]
    rw [hk] at HK
    clear HC hk HN
    go_enter Try.func16, Try.ntmps16
    go_wp2_with fail
    refine (HK.out _).mono ?_
    rintro e w1 ⟨rfl, rfl⟩
    go_wp2_with fail
    go_ret
    exact ⟨rfl, Below.refl _ _⟩
  · rw [Bool.true_and]
    rw [hk] at HK
    have HZ := hid_mk (zero_int (needF k s))
    clear HC hk
    generalize needF k s = z at *
    go_enter Try.func16, Try.ntmps16
    go_wp2_with fail
    refine (HK.out _).mono ?_
    rintro e w1 ⟨rfl, rfl⟩
    go_wp2_with fail
    refine (HN.out _).mono ?_
    rintro e w2 ⟨rfl, hb2⟩
    go_wp2_with fail
    go_ret
    exact ⟨ret_eq (by rw [← HZ.out]; rfl), hb2⟩

set_option maxHeartbeats 2000000 in
theorem faccept (k : Int) (o s : Nat) (ho : o < N64) (hs : s < N64) (w : World) :
    Calls Try.prog 18 #[.int .i64 k, .int .u64 o, .int .u64 s] w fun e w' => e = .returned (.bool (acceptF k o s)) ∧ Below w.heap.size w w' := by
  have HK := hid_mk (fclosed k s hs)
  have HC : acceptF k o s = (closedF k s && decide (minF s o = 0)) := rfl
  rw [HC]
  cases hk : closedF k s
  · rw [Bool.false_and]
    rw [hk] at HK
    clear HC hk
    go_enter Try.func18, Try.ntmps18
    go_wp2_with fail
    refine (HK.out _).mono ?_
    rintro e w1 ⟨rfl, hb1⟩
    go_wp2_with fail
    go_ret
    exact ⟨rfl, hb1⟩
  · rw [Bool.true_and]
    rw [hk] at HK
    have HW := hid_mk (fwithin_q s o hs ho)
    clear HC hk
    generalize decide (minF s o = 0) = z at *
    go_enter Try.func18, Try.ntmps18
    go_wp2_with fail
    refine (HK.out _).mono ?_
    rintro e w1 ⟨rfl, hb1⟩
    go_wp2_with fail
    refine (HW.out _).mono ?_
    rintro e w2 ⟨rfl, rfl⟩
    go_wp2_with fail
    go_ret
    exact ⟨rfl, hb1⟩

set_option maxHeartbeats 2000000 in
theorem fbest (k : Int) (o wt : Nat) (ho : o < N64) (hw : wt < N64) (w : World) :
    Calls Try.prog 8 #[.int .i64 k, .int .u64 o, .int .u64 wt] w fun e w' => e = .returned (.tuple #[.int .u64 (bestR k o wt : Nat), .int .i64 (bestE k o)]) ∧ Below w.heap.size w w' := by
  have HE := hid_mk (fexists_q k)
  have HA := hid_mk (fall_q k)
  have HH := hid_mk (fhas_w o ho 32)
  rw [show hasF o 32 = o.testBit 32 from hasF_nat (n := 32) (by decide)] at HH
  by_cases h0 : allF k = 0
  · have e : bestB k o = false := by
      unfold bestB
      rw [decide_eq_false (by simp [h0])]
      rfl
    have e1 : bestR k o wt = 0 := by
      unfold bestR
      rw [e]
      rfl
    have e2 : bestE k o = 2 := by
      unfold bestE
      rw [e]
      rfl
    rw [e1, e2]
    rw [decide_eq_false (by simp [h0])] at HE
    clear e e1 e2 h0 HH HA
    go_enter Try.func8, Try.ntmps8
    go_wp2_with fail
    refine (HE.out _).mono ?_
    rintro e w1 ⟨rfl, rfl⟩
    go_wp2_with fail
    exact bodyPost_ret (v := .tuple #[.int .u64 0, .int .i64 2]) (by simp [results, Try.results8, go_sem]) rfl ⟨rfl, Below.refl _ _⟩
  · rw [decide_eq_true h0] at HE
    cases hv : o.testBit 32
    · have e : bestB k o = false := by
        unfold bestB
        rw [hv, Bool.and_false]
      have e1 : bestR k o wt = 0 := by
        unfold bestR
        rw [e]
        rfl
      have e2 : bestE k o = 2 := by
        unfold bestE
        rw [e]
        rfl
      rw [e1, e2]
      rw [hv] at HH
      clear e e1 e2 h0 hv HA
      go_enter Try.func8, Try.ntmps8
      go_wp2_with fail
      refine (HE.out _).mono ?_
      rintro e w1 ⟨rfl, rfl⟩
      go_wp2_with fail
      refine (HH.out _).mono ?_
      rintro e w2 ⟨rfl, rfl⟩
      go_wp2_with fail
      exact bodyPost_ret (v := .tuple #[.int .u64 0, .int .i64 2]) (by simp [results, Try.results8, go_sem]) rfl ⟨rfl, Below.refl _ _⟩
    · have e : bestB k o = true := by
        unfold bestB
        rw [hv, decide_eq_true h0]
        rfl
      have e1 : bestR k o wt = bestF k o wt := by
        unfold bestR
        rw [if_pos e]
      have e2 : bestE k o = 0 := by
        unfold bestE
        rw [if_pos e]
      rw [e1, e2]
      rw [hv] at HH
      have HM1 := hid_mk (u64_or_nat wt (2 ^ 32) hw (by decide))
      have HM2 := hid_mk (u64_and_nat o (wt ||| 2 ^ 32) ho (or_lt hw (by decide)))
      have HM3 := hid_mk (u64_and_nat (o &&& (wt ||| 2 ^ 32)) (allF k) (and_lt _ ho) (allF_lt k))
      rw [show ((2 ^ 32 : Nat) : Int) = 4294967296 by decide] at HM1
      have HM : Hid (bits .and .u64 (bits .and .u64 o (bits .or .u64 wt 4294967296)) (allF k : Nat) = (candF k o wt : Nat)) := by
        show _ = _
        rw [HM1.out, HM2.out, HM3.out]
        rfl
      have HF := hid_mk (fsettle_drop k (candF k o wt) (candF_lt ho))
      rw [runD_best k o wt ho] at HF
      clear e e1 e2 h0 hv HM1 HM2 HM3
      generalize allF k = a at *
      generalize candF k o wt = c at *
      generalize bestF k o wt = z at *
      go_enter Try.func8, Try.ntmps8
      go_wp2_with fail
      refine (HE.out _).mono ?_
      rintro e w1 ⟨rfl, rfl⟩
      go_wp2_with fail
      refine (HH.out _).mono ?_
      rintro e w2 ⟨rfl, rfl⟩
      go_wp2_with fail
      refine (HA.out _).mono ?_
      rintro e w2 ⟨rfl, rfl⟩
      go_wp2_with fail
      rw [HM.out]
      refine (HF.out _).mono ?_
      rintro e w3 ⟨rfl, hb⟩
      go_wp2_with fail
      exact bodyPost_ret (v := .tuple #[.int .u64 z, .int .i64 0]) (by simp [results, Try.results8, go_sem]) rfl ⟨rfl, hb⟩

/-- With's answers -/
def withB (L : List Nat) : Bool := L.all fun b => decide (b < 64)
def withR (s : Nat) (L : List Nat) : Nat := if withB L = true then s ||| orF L else 0
def withE (L : List Nat) : Int := if withB L = true then 0 else 2
theorem withB_take {L : List Nat} {k : Nat} (hk : k < L.length) (h : L.getD k 0 < 64) (ht : withB (L.take k) = true) : withB (L.take (k + 1)) = true := by
  unfold withB at ht ⊢
  rw [List.take_succ_eq_append_getElem hk, List.all_append, ht]
  rw [List.getD_eq_getElem?_getD, List.getElem?_eq_getElem hk] at h
  simp at h
  simp [h]
theorem withB_no {L : List Nat} {k : Nat} (hk : k < L.length) (h : ¬ L.getD k 0 < 64) : withB L = false := by
  unfold withB
  rw [List.all_eq_false]
  refine ⟨L[k], List.getElem_mem hk, ?_⟩
  rw [List.getD_eq_getElem?_getD, List.getElem?_eq_getElem hk] at h
  simpa using h
theorem orF_takeS {L : List Nat} {k : Nat} (hk : k < L.length) (s : Nat) : (s ||| orF (L.take k)) ||| 2 ^ L.getD k 0 = s ||| orF (L.take (k + 1)) := by
  rw [orF_take hk, Nat.or_assoc]
theorem with_lt {L : List Nat} {s : Nat} (hs : s < N64) (k : Nat) (h : withB (L.take k) = true) : s ||| orF (L.take k) < N64 := by
  refine or_lt hs (orF_lt fun x hx => ?_)
  unfold withB at h
  rw [List.all_eq_true] at h
  exact of_decide_eq_true (h x hx)

set_option maxHeartbeats 2000000 in
theorem fwith (s : Nat) (v : Value) (L : List Nat) (hs : s < N64) (hl : L.length < 1000000) (w : World) (hv : IntsAt w v L) :
    Calls Try.prog 9 #[.int .u64 s, v] w fun e w' => e = .returned (.tuple #[.int .u64 (withR s L : Nat), .int .i64 (withE L)]) ∧ Below w.heap.size w w' := by
  rcases hv with ⟨⟨va, vc, rfl, _⟩, rfl⟩ | ⟨b, o, c, rfl, hb1, hb2, hb3⟩
  · have e1 : withR s [] = s := by
      unfold withR withB orF
      simp
    have e2 : withE [] = 0 := by
      unfold withE withB
      simp
    rw [e1, e2]
    go_enter Try.func9, Try.ntmps9
    go_wp2
    go_loopw [0, 10] (fun u i wr => u = .int .u64 s ∧ i = .int .i64 0 ∧ wr = w) (fun _ _ _ => 0)
    case atStart => exact ⟨rfl, rfl, rfl⟩
    case round =>
      obtain ⟨rfl, rfl, rfl⟩ := hrel
      go_wp2
      exact bodyPost_ret (v := .tuple #[.int .u64 s, .int .i64 0]) (by simp [results, Try.results9, go_sem]) rfl ⟨rfl, Below.refl _ _⟩
  · have HC := hid_mk hb3
    have HS := hid_mk hs
    clear hb3 hs
    go_enter Try.func9, Try.ntmps9
    go_wp2
    go_loopw [0, 7, 10] (fun u y i wr => ∃ k : Nat, k ≤ L.length ∧ Hid (withB (L.take k) = true) ∧ i = .int .i64 k ∧ u = .int .u64 (s ||| orF (L.take k) : Nat) ∧ wr = w) (fun _ _ i _ => L.length - (intOf i).toNat)
    case atStart => exact ⟨0, Nat.zero_le _, hid_mk rfl, rfl, by simp [orF], rfl⟩
    case round =>
      obtain ⟨k, hk, hB, rfl, rfl, rfl⟩ := hrel
      by_cases hlt : k < L.length
      · have hc := HC.out k hlt
        have hlt' : (k : Int) < (L.length : Int) := by omega
        have HT := hid_mk (orF_takeS hlt s)
        have HL := hid_mk (with_lt HS.out k hB.out)
        by_cases hx : L.getD k 0 < 64
        · have HB := hid_mk (withB_take hlt hx hB.out)
          have HSh := hid_mk (shl_one64 hx)
          have HO := hid_mk (u64_or_nat _ _ HL.out (one_lt hx))
          have HI := hid_mk (fisbit_q (L.getD k 0 : Nat))
          rw [show (decide (0 ≤ ((L.getD k 0 : Nat) : Int)) && decide (((L.getD k 0 : Nat) : Int) < 64)) = true by
            rw [decide_eq_true (by omega), decide_eq_true (by omega)]
            rfl] at HI
          generalize L.getD k 0 = x at *
          have hw : IntKind.u64.wrap (x : Int) = x := by rw [IntKind.wrap_u64]; omega
          go_wp2_with fail
          refine (HI.out _).mono ?_
          rintro e w2 ⟨rfl, rfl⟩
          go_wp2_with fail
          refine ⟨⟨k + 1, by omega, HB, by simp, ?_⟩, by simp [intOf]; omega⟩
          rw [HSh.out, HO.out, HT.out]
          exact ⟨rfl, trivial⟩
        · have HB := withB_no hlt hx
          have e1 : withR s L = 0 := by
            unfold withR
            rw [HB]
            rfl
          have e2 : withE L = 2 := by
            unfold withE
            rw [HB]
            rfl
          have HE := hid_mk (And.intro e1 e2)
          have HI := hid_mk (fisbit_q (L.getD k 0 : Nat))
          rw [show (decide (0 ≤ ((L.getD k 0 : Nat) : Int)) && decide (((L.getD k 0 : Nat) : Int) < 64)) = false by
            rw [decide_eq_false (show ¬ (((L.getD k 0 : Nat) : Int) < 64) by omega), Bool.and_false]] at HI
          clear HB e1 e2 hx HT
          generalize L.getD k 0 = x at *
          go_wp2_with fail
          refine (HI.out _).mono ?_
          rintro e w2 ⟨rfl, rfl⟩
          go_wp2_with fail
          exact bodyPost_ret (v := .tuple #[.int .u64 0, .int .i64 2]) (by simp [results, Try.results9, go_sem]) rfl ⟨by rw [HE.out.1, HE.out.2]; rfl, Below.refl _ _⟩
      · have e : k = L.length := by omega
        subst e
        have hB2 := hB.out
        rw [List.take_length] at hB2
        have e1 : withR s L = s ||| orF L := by
          unfold withR
          rw [if_pos hB2]
        have e2 : withE L = 0 := by
          unfold withE
          rw [if_pos hB2]
        have HE := hid_mk (And.intro e1 e2)
        clear e1 e2 hB2
        rw [orF_all L]
        go_wp2_with fail
        exact bodyPost_ret (v := .tuple #[.int .u64 (s ||| orF L : Nat), .int .i64 0]) (by simp [results, Try.results9, go_sem]) rfl ⟨by rw [HE.out.1, HE.out.2], Below.refl _ _⟩

set_option maxHeartbeats 2000000 in
theorem fopts (s : Nat) (hs : s < N64) (w : World) :
    Calls Try.prog 11 #[.int .u64 s] w fun e w' => e = .returned (.agg #[.bool (s.testBit 29), .bool (s.testBit 28), .bool (s.testBit 34)]) ∧ Below w.heap.size w w' := by
  have H1 := hid_mk (fhas_w s hs 29)
  have H2 := hid_mk (fhas_w s hs 28)
  have H3 := hid_mk (fhas_w s hs 34)
  rw [show hasF s 29 = s.testBit 29 from hasF_nat (n := 29) (by decide)] at H1
  rw [show hasF s 28 = s.testBit 28 from hasF_nat (n := 28) (by decide)] at H2
  rw [show hasF s 34 = s.testBit 34 from hasF_nat (n := 34) (by decide)] at H3
  generalize s.testBit 29 = x at *
  generalize s.testBit 28 = y at *
  generalize s.testBit 34 = z at *
  go_enter Try.func11, Try.ntmps11
  go_wp2_with fail
  refine (H1.out _).mono ?_
  rintro e w1 ⟨rfl, rfl⟩
  go_wp2_with fail
  refine (H2.out _).mono ?_
  rintro e w1 ⟨rfl, rfl⟩
  go_wp2_with fail
  refine (H3.out _).mono ?_
  rintro e w1 ⟨rfl, rfl⟩
  go_wp2_with fail
  exact bodyPost_ret (v := .agg #[.bool x, .bool y, .bool z]) (by simp [results, Try.results11, go_sem]) rfl ⟨rfl, (Below.refl _ w).alloc (Nat.le_refl _) _⟩
end Go.Proofs.Ytahhbfcafkiilaa
