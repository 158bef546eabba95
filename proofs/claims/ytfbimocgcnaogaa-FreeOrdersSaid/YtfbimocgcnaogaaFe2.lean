/- Small functions over lists of ints: the reference's in, the kit's Ints and Free. Conditions: as each theorem names them. -/
import Derived.Test.YtfbimocgcnaogaaFe1
import Derived.BigQuiet
namespace Go.Proofs.Ytfbimocgcnaogaa
open Go.ChangeShapes Go.WideShapes Go.ChangeAt Go.RowKit
set_option linter.unusedVariables false
set_option maxRecDepth 100000

theorem beq_dec (x n : Int) : (x == n) = decide (x = n) := by
  by_cases h : x = n <;> simp [h]
theorem bne_dec (x n : Int) : (x != n) = !decide (x = n) := by
  by_cases h : x = n <;> simp [h]
set_option maxHeartbeats 1000000 in
theorem rin (v : Value) (L : List Int) (n : Int) (w : World) (hv : IntsZ w v L) (hl : L.length ≤ 1000000) :
    Calls Try.prog 30 #[v, .int .i64 n] w fun e w' => e = .returned (.bool (inB L n)) ∧ w' = w := by
  rcases hv with ⟨⟨va, vc, rfl, _⟩, rfl⟩ | ⟨b, o, c, rfl, hb1, hb2, hb3⟩
  · go_enter Try.func30, Try.ntmps30
    go_wp2
    go_loopw [5] (fun i wr => i = .int .i64 0 ∧ wr = w) (fun _ _ => 0)
    case atStart => exact ⟨rfl, rfl⟩
    case round =>
      obtain ⟨rfl, rfl⟩ := hrel
      go_wp2
      go_ret
      exact ⟨rfl, rfl⟩
  · have HC := hid_mk hb3
    have HL := hid_mk hl
    clear hb3 hl
    go_enter Try.func30, Try.ntmps30
    go_wp2
    go_loopw [5] (fun i wr => ∃ k : Nat, k ≤ L.length ∧ i = .int .i64 k ∧ wr = w ∧ Hid (inB (L.take k) n = false)) (fun i _ => L.length - (intOf i).toNat)
    case atStart => exact ⟨0, Nat.zero_le _, rfl, rfl, hid_mk (by simp [inB])⟩
    case round =>
      obtain ⟨k, hk, rfl, rfl, hno⟩ := hrel
      by_cases hlt : k < L.length
      · have c0 := HC.out k hlt
        have hki : (k : Int) < (L.length : Int) := by omega
        have HT := hid_mk (inB_take (n := n) hlt)
        have HM := hid_mk (getD_mem hlt)
        have hk6 : (k : Int) < 1000000 := by
          have := HL.out
          omega
        generalize L.getD k 0 = x at *
        have hb := beq_dec x n
        by_cases he : x = n
        · rw [decide_eq_true he] at hb
          have HE : Hid (inB L n = true) := hid_mk (by
            unfold inB
            rw [← he]
            exact decide_eq_true HM.out)
          clear he HM HT
          go_wp2
          go_ret
          exact ⟨ret_eq (by rw [HE.out]; rfl), rfl⟩
        · rw [decide_eq_false he] at hb
          have HE : Hid (inB (L.take (k + 1)) n = false) := hid_mk (by rw [HT.out, hno.out, decide_eq_false he]; rfl)
          clear he HM HT
          go_wp2
          go_roundw
          case rel => exact ⟨k + 1, by omega, by simp, trivial, HE⟩
          case measure => simp [intOf]; omega
      · obtain rfl : k = L.length := by omega
        have HE : Hid (inB L n = false) := hid_mk (by
          have := hno.out
          rwa [List.take_length] at this)
        go_wp2
        go_ret
        exact ⟨ret_eq (by rw [HE.out]; rfl), rfl⟩

theorem sameL_no {L M : List Int} {k : Nat} (hL : k < L.length) (hM : k < M.length) (h : ¬ L.getD k 0 = M.getD k 0) : sameL L M = false := by
  unfold sameL
  refine decide_eq_false (fun e => h ?_)
  rw [e]
theorem same_next {L M : List Int} {k : Nat} (hL : k < L.length) (hM : k < M.length) (h : L.getD k 0 = M.getD k 0) (ht : L.take k = M.take k) : L.take (k + 1) = M.take (k + 1) := by
  rw [take_succD hL, take_succD hM, ht, h]
set_option maxHeartbeats 2000000 in
theorem kints (v u : Value) (L M : List Int) (w : World) (hv : IntsZ w v L) (hu : IntsZ w u M) (hl : L.length ≤ 1000000) :
    Calls Try.prog 17 #[v, u] w fun e w' => e = .returned (.bool (sameL L M)) ∧ Below w.heap.size w w' := by
  obtain ⟨va, vc, rfl⟩ := hv.len
  obtain ⟨ua, uc, rfl⟩ := hu.len
  by_cases hne : L.length = M.length
  · have hC : ∀ k, k < L.length → ∃ b o b2 o2, va = some ⟨b, o, none⟩ ∧ ua = some ⟨b2, o2, none⟩ ∧ w.cell? ⟨b, o + k, none⟩ = some (.int .i64 (L.getD k 0)) ∧ w.cell? ⟨b2, o2 + k, none⟩ = some (.int .i64 (M.getD k 0)) := fun k hk => by
      rcases hv with ⟨_, rfl⟩ | ⟨b, o, c, he, h1, h2, h3⟩
      · simp at hk
      · rcases hu with ⟨_, rfl⟩ | ⟨b2, o2, c2, he2, g1, g2, g3⟩
        · rw [hne] at hk
          simp at hk
        · cases he
          cases he2
          exact ⟨b, o, b2, o2, rfl, rfl, h3 k hk, g3 k (by omega)⟩
    have HC := hid_mk hC
    have HL := hid_mk hl
    have hnb : ((L.length : Int) != (M.length : Int)) = false := by simp [hne]
    have HN := hid_mk hne
    clear hv hu hC hl hne
    go_enter Try.func17, Try.ntmps17
    go_wp2
    go_loopw [5] (fun i wr => ∃ k n : Nat, k ≤ L.length ∧ i = .int .i64 k ∧ wr = w.drewN n ∧ Hid (L.take k = M.take k)) (fun i _ => L.length - (intOf i).toNat)
    case atStart => exact ⟨0, 0, Nat.zero_le _, rfl, rfl, hid_mk rfl⟩
    case round =>
      obtain ⟨k, n, hk, rfl, rfl, hno⟩ := hrel
      clear hnb
      by_cases hlt : k < L.length
      · obtain ⟨b, o, b2, o2, hva, hua, c0, c1⟩ := HC.out k hlt
        subst hva
        subst hua
        have hki : (k : Int) < (L.length : Int) := by omega
        have hkm : (k : Int) < (M.length : Int) := by
          have := HN.out
          omega
        have hk6 : (k : Int) < 1000000 := by
          have := HL.out
          omega
        have HS := hid_mk (fun h => same_next hlt (by have := HN.out; omega) h hno.out)
        have HO := hid_mk (fun h => sameL_no (L := L) (M := M) hlt (by have := HN.out; omega) h)
        generalize L.getD k 0 = x at *
        generalize M.getD k 0 = y at *
        have hb := bne_dec x y
        by_cases he : x = y
        · rw [decide_eq_true he] at hb
          have HE := hid_mk (HS.out he)
          clear he HS HO
          simp only [Bool.not_true] at hb
          go_wp2
          go_quiet (fail)
          go_wp2
          go_roundw
          case rel => exact ⟨k + 1, _, by omega, by simp, rfl, HE⟩
          case measure => simp [intOf]; omega
        · rw [decide_eq_false he] at hb
          have HE := hid_mk (HO.out he)
          clear he HS HO
          simp only [Bool.not_false] at hb
          go_wp2
          go_quiet (fail)
          go_wp2
          go_ret
          exact ⟨ret_eq (by rw [HE.out]; rfl), below_dn (below_drewN _ _) _⟩
      · obtain rfl : k = L.length := by omega
        have HE : Hid (sameL L M = true) := hid_mk (by
          have h := hno.out
          have hn := HN.out
          rw [List.take_length, hn, List.take_length] at h
          unfold sameL
          exact decide_eq_true h)
        go_wp2
        go_ret
        exact ⟨ret_eq (by rw [HE.out]; rfl), below_drewN _ _⟩
  · have hnb : ((L.length : Int) != (M.length : Int)) = true := by
      simp
      omega
    have HE : Hid (sameL L M = false) := hid_mk (by
      unfold sameL
      refine decide_eq_false (fun e => hne ?_)
      rw [e])
    clear hv hu hl hne
    go_enter Try.func17, Try.ntmps17
    go_wp2
    go_ret
    exact ⟨ret_eq (by rw [HE.out]; rfl), Below.refl _ _⟩

theorem fr_box (w : World) (S : Int) (v : Value) (t : TypeId) : (w.alloc (.cells #[.int .i64 S, v] t)).cell? ⟨w.heap.size, 0, none⟩ = some (.int .i64 S) ∧ (w.alloc (.cells #[.int .i64 S, v] t)).cell? ⟨w.heap.size, 1, none⟩ = some v :=
  ⟨cellK (cs := [.int .i64 S, v]) (heap_alloc_new w _) 0, cellK (cs := [.int .i64 S, v]) (heap_alloc_new w _) 1⟩
set_option maxHeartbeats 2000000 in
theorem kfree (S T : Int) (v u : Value) (L M : List Int) (w : World) (hv : IntsZ w v L) (hu : IntsZ w u M) (hl : L.length ≤ 1000000) :
    Calls Try.prog 18 #[frV S v, frV T u] w fun e w' => e = .returned (.bool (sameF S L T M)) ∧ Below w.heap.size w w' := by
  have B2 : Below w.heap.size w ((w.alloc (.cells #[.int .i64 S, v] 24)).alloc (.cells #[.int .i64 T, u] 24)) := ((Below.refl _ w).alloc (Nat.le_refl _) _).alloc (by simp) _
  have HK := hid_mk (kints v u L M _ (hv.below B2) (hu.below B2) hl)
  have HB := hid_mk B2
  obtain ⟨va, vc, rfl⟩ := hv.len
  obtain ⟨ua, uc, rfl⟩ := hu.len
  unfold sameF
  have hb := beq_dec S T
  unfold frV
  clear hv hu hl B2
  by_cases he : S = T
  · rw [decide_eq_true he] at hb ⊢
    rw [Bool.true_and]
    clear he
    generalize sameL L M = z at *
    go_enter Try.func18, Try.ntmps18
    go_wp2_with fail
    refine (HK.out).mono ?_
    rintro e w1 ⟨rfl, hb1⟩
    go_wp2_with fail
    go_ret
    exact ⟨rfl, below_then HB.out hb1⟩
  · rw [decide_eq_false he] at hb ⊢
    rw [Bool.false_and]
    clear he
    go_enter Try.func18, Try.ntmps18
    go_wp2_with fail
    go_ret
    exact ⟨rfl, HB.out⟩
end Go.Proofs.Ytfbimocgcnaogaa
