/- Feature bits of the reference, layer 6: Best. Conditions: as each theorem names them. -/
import Derived.Test.YtfiogaollejdbaaFr3
namespace Go.Proofs.Ytfiogaollejdbaa
open Go.ChangeShapes Go.WideShapes Go.ChangeAt Go.RowKit
set_option linter.unusedVariables false
set_option maxRecDepth 100000

/-- what Best holds when all bits below m have been looked at -/
structure BestP (k : Int) (c m s : Nat) : Prop where
  lt : s < N64
  bit : ∀ i, s.testBit i = true ↔ c.testBit i = true ∧ (i < m → ∀ j, ndsF k i j = true → c.testBit j = true)
theorem BestP.start {k : Int} {c : Nat} (h : c < N64) : BestP k c 0 c := ⟨h, fun i => ⟨fun h => ⟨h, fun h => absurd h (Nat.not_lt_zero _)⟩, fun h => h.1⟩⟩
theorem BestP.need {k : Int} {c m s i j : Nat} (h : BestP k c m s) (hn : ndsF k i j = true) : s.testBit j = c.testBit j := by
  rw [Bool.eq_iff_iff, h.bit]
  exact ⟨fun h => h.1, fun h => ⟨h, fun _ q hq => by rw [ndsF_no hn] at hq; cases hq⟩⟩
theorem BestP.sub {k : Int} {c m s b : Nat} (h : BestP k c m s) : minF (nF k b) s = 0 ↔ ∀ j, ndsF k b j = true → c.testBit j = true := by
  rw [minF_zero h.lt (nF_lt _ _)]
  constructor
  · intro h1 j hj
    rw [← h.need hj]
    exact h1 j (by rw [nF_bit]; exact hj)
  · intro h1 j hj
    rw [nF_bit] at hj
    rw [h.need hj]
    exact h1 j hj
theorem BestP.skip {k : Int} {c m s b : Nat} (h : BestP k c m s) (hb : b ≤ m) (hs : s.testBit b = false ∨ minF (nF k b) s = 0) : BestP k c (max m (b + 1)) s := by
  refine ⟨h.lt, fun i => ?_⟩
  rw [h.bit]
  constructor
  · rintro ⟨h1, h2⟩
    refine ⟨h1, fun hi => ?_⟩
    by_cases e : i < m
    · exact h2 e
    · have e2 : i = b := by omega
      subst e2
      rcases hs with hs | hs
      · have := (h.bit i).2 ⟨h1, h2⟩
        rw [hs] at this
        cases this
      · exact h.sub.1 hs
  · rintro ⟨h1, h2⟩
    exact ⟨h1, fun hi => h2 (by omega)⟩
theorem BestP.drop {k : Int} {c m s b : Nat} (h : BestP k c m s) (hb : b ≤ m) (hb64 : b < 64) (hs : minF (nF k b) s ≠ 0) : BestP k c (max m (b + 1)) (minF s (2 ^ b)) := by
  refine ⟨minF_lt h.lt, fun i => ?_⟩
  rw [minF_bit (one_lt hb64) h.lt, Bool.and_eq_true, one_bit, h.bit]
  have hno : ¬ ∀ j, ndsF k b j = true → c.testBit j = true := fun h1 => hs (h.sub.2 h1)
  by_cases e : b = i
  · subst e
    rw [decide_eq_true rfl]
    constructor
    · rintro ⟨_, h2⟩
      cases h2
    · rintro ⟨_, h2⟩
      exact absurd (h2 (by omega)) hno
  · rw [decide_eq_false e]
    constructor
    · rintro ⟨⟨h1, h2⟩, _⟩
      exact ⟨h1, fun hi => h2 (by omega)⟩
    · rintro ⟨h1, h2⟩
      exact ⟨⟨h1, fun hi => h2 (by omega)⟩, rfl⟩
theorem BestP.done {k : Int} {o w s : Nat} (ho : o < N64) (h : BestP k (candF k o w) 64 s) : s = bestF k o w := by
  refine bit_ext fun i => ?_
  rw [Bool.eq_iff_iff, h.bit, bestF_bit ho]
  constructor
  · rintro ⟨h1, h2⟩
    exact ⟨h1, fun j hj => h2 (ndsF_lt hj).1 j hj⟩
  · rintro ⟨h1, h2⟩
    exact ⟨h1, fun _ => h2⟩

/-- Best's answers -/
def bestB (k : Int) (o : Nat) : Bool := decide (allF k ≠ 0) && o.testBit 32
def bestR (k : Int) (o w : Nat) : Nat := if bestB k o = true then bestF k o w else 0
def bestE (k : Int) (o : Nat) : Int := if bestB k o = true then 0 else 2

set_option maxHeartbeats 4000000 in
theorem rbest (k : Int) (o wt : Nat) (ho : o < N64) (hw : wt < N64) (w : World) :
    Calls Try.prog 19 #[.int .i64 k, .int .u64 o, .int .u64 wt] w fun e w' => e = .returned (.tuple #[.int .u64 (bestR k o wt : Nat), .int .i64 (bestE k o)]) ∧ Below w.heap.size w w' := by
  have HA := hid_mk (rall k)
  have HH := hid_mk (rhas o ho 32)
  have h32 : hasF o 32 = o.testBit 32 := hasF_nat (n := 32) (by decide)
  rw [h32] at HH
  by_cases h0 : allF k = 0
  · have e : bestB k o = false := by
      unfold bestB
      rw [decide_eq_false (by simp [h0])]
      rfl
    have e1 : bestR k o wt = 0 := by
      unfold bestR
      rw [e]
      rfl
    have e2 : bestE k o = 2 := by
      unfold bestE
      rw [e]
      rfl
    rw [e1, e2]
    rw [h0] at HA
    clear e e1 e2 h0 HH h32
    go_enter Try.func19, Try.ntmps19
    go_wp2_with fail
    refine (HA.out _).mono ?_
    rintro e w1 ⟨rfl, hb1⟩
    go_wp2_with fail
    exact bodyPost_ret (v := .tuple #[.int .u64 0, .int .i64 2]) (by simp [results, Try.results19, go_sem]) rfl ⟨rfl, hb1⟩
  · have h0i : ((allF k : Nat) : Int) ≠ 0 := by omega
    cases hv : o.testBit 32
    · have e : bestB k o = false := by
        unfold bestB
        rw [hv, Bool.and_false]
      have e1 : bestR k o wt = 0 := by
        unfold bestR
        rw [e]
        rfl
      have e2 : bestE k o = 2 := by
        unfold bestE
        rw [e]
        rfl
      rw [e1, e2]
      rw [hv] at HH
      clear e e1 e2 h0 h32 hv
      generalize allF k = a at *
      go_enter Try.func19, Try.ntmps19
      go_wp2_with fail
      refine (HA.out _).mono ?_
      rintro e w1 ⟨rfl, hb1⟩
      go_wp2_with fail
      refine (HH.out _).mono ?_
      rintro e w2 ⟨rfl, rfl⟩
      go_wp2_with fail
      exact bodyPost_ret (v := .tuple #[.int .u64 0, .int .i64 2]) (by simp [results, Try.results19, go_sem]) rfl ⟨rfl, hb1⟩
    · have e : bestB k o = true := by
        unfold bestB
        rw [hv, decide_eq_true h0]
        rfl
      have e1 : bestR k o wt = bestF k o wt := by
        unfold bestR
        rw [if_pos e]
      have e2 : bestE k o = 0 := by
        unfold bestE
        rw [if_pos e]
      rw [e1, e2]
      rw [hv] at HH
      have HB := hid_mk (rbits_lit [32] (2 ^ 32) (by decide) (by decide) (by decide) 3)
      have HHS := hid_mk (fun s hs b => rhas s hs b)
      have HN := hid_mk (fun b => rneeds1 k b)
      have HF := hid_mk (fun s => BestP.done (k := k) (w := wt) (s := s) ho)
      have HM1 := hid_mk (u64_or_nat wt (2 ^ 32) hw (by decide))
      have HM2 := hid_mk (u64_and_nat o (wt ||| 2 ^ 32) ho (or_lt hw (by decide)))
      have HM3 := hid_mk (u64_and_nat (o &&& (wt ||| 2 ^ 32)) (allF k) (and_lt _ ho) (allF_lt k))
      have HM : Hid (bits .and .u64 (bits .and .u64 o (bits .or .u64 wt ((2 ^ 32 : Nat) : Int))) (allF k : Nat) = (candF k o wt : Nat)) := by
        show _ = _
        rw [HM1.out, HM2.out, HM3.out]
        rfl
      have HC := hid_mk (BestP.start (k := k) (candF_lt (k := k) (w := wt) ho))
      clear e e1 e2 h0 h32 hv HM1 HM2 HM3
      generalize allF k = a at *
      generalize (2 : Nat) ^ 32 = t at *
      generalize candF k o wt = c at *
      go_enter Try.func19, Try.ntmps19
      go_wp2_with fail
      refine (HA.out _).mono ?_
      rintro e w1 ⟨rfl, hb1⟩
      go_wp2_with fail
      refine (HH.out _).mono ?_
      rintro e w2 ⟨rfl, rfl⟩
      go_wp2_with fail
      refine (HB.out _).mono ?_
      rintro e w2 ⟨rfl, hb2⟩
      have HB2 := hid_mk (below_two hb1 hb2)
      clear hb1 hb2
      go_wp2_with fail
      refine (HA.out _).mono ?_
      rintro e w3 ⟨rfl, hb3⟩
      have HB3 := hid_mk (below_two HB2.out hb3)
      clear hb3 HB2
      go_wp2_with fail
      rw [HM.out]
      go_loopw [8, 9] (fun u r wr => ∃ (s m n : Nat), n ≤ 3 ∧ m ≤ 64 ∧ (n = 0 ∨ m = 64) ∧ u = .int .u64 s ∧ r = .int .i64 n ∧ Hid (BestP k c m s) ∧ Hid (Below w.heap.size w wr)) (fun _ r _ => 3 - (intOf r).toNat)
      case atStart => exact ⟨c, 0, 0, by omega, by omega, Or.inl rfl, rfl, rfl, HC, HB3⟩
      case round =>
        obtain ⟨s, m, n, hn, hm, hnm, rfl, rfl, hp, hb⟩ := hrel
        by_cases hlt : n < 3
        · go_wp2_with fail
          have HLT := hid_mk hlt
          have hlb : decide ((n : Int) < 3) = true := decide_eq_true (by omega)
          rw [hlb]
          clear hlb
          obtain ⟨wo, rfl⟩ : ∃ wo : World, wo = wr := ⟨_, rfl⟩
          clear hlt
          go_loopw [8, 10] (fun u b wr => ∃ (s m q : Nat), q ≤ 64 ∧ q ≤ m ∧ m ≤ 64 ∧ u = .int .u64 s ∧ b = .int .i64 q ∧ Hid (BestP k c m s) ∧ Hid (Below w.heap.size w wr)) (fun _ b _ => 64 - (intOf b).toNat)
          case atStart => exact ⟨s, m, 0, by omega, by omega, hm, rfl, rfl, hp, hb⟩
          case round =>
            clear hp hb hnm hm
            obtain ⟨s, m, q, hq, hqm, hm, rfl, rfl, hp, hb⟩ := hrel
            by_cases hlq : q < 64
            · have hh := hasF_nat (s := s) hlq
              have HX := hid_mk (HHS.out s hp.out.lt q)
              cases ht : s.testBit q
              · rw [ht] at hh
                rw [hh] at HX
                have HP := hid_mk (hp.out.skip hqm (Or.inl ht))
                clear ht hh
                go_wp2_with fail
                refine (HX.out _).mono ?_
                rintro e w4 ⟨rfl, rfl⟩
                go_wp2_with fail
                go_roundw
                case rel => exact ⟨s, max m (q + 1), q + 1, by omega, by omega, by omega, rfl, by simp, HP, hb⟩
                case measure => simp [intOf]; omega
              · rw [ht] at hh
                rw [hh] at HX
                clear ht hh
                by_cases hz : minF (nF k q) s = 0
                · have HP := hid_mk (hp.out.skip hqm (Or.inr hz))
                  have HZ := hid_mk (min_int (nF_lt k q) hp.out.lt)
                  rw [hz] at HZ
                  clear hz
                  go_wp2_with fail
                  refine (HX.out _).mono ?_
                  rintro e w4 ⟨rfl, rfl⟩
                  go_wp2_with fail
                  refine (HN.out _ _).mono ?_
                  rintro e w5 ⟨rfl, hb5⟩
                  have HB5 := hid_mk (below_two hb.out hb5)
                  have hz2 : (bits BinOp.andNot IntKind.u64 (nF k q : Nat) (s : Nat) != 0) = false := by
                    rw [HZ.out]
                    rfl
                  go_wp2_with fail
                  go_roundw
                  case rel => exact ⟨s, max m (q + 1), q + 1, by omega, by omega, by omega, rfl, by simp, HP, HB5⟩
                  case measure => simp [intOf]; omega
                · have HP := hid_mk (hp.out.drop hqm hlq hz)
                  have HZ := hid_mk (min_int (nF_lt k q) hp.out.lt)
                  have HZ2 := hid_mk (min_int hp.out.lt (one_lt hlq))
                  have HS := hid_mk (shl_one64 hlq)
                  have HZ3 : Hid (((minF (nF k q) s : Nat) : Int) ≠ 0) := by
                    show _ ≠ _
                    omega
                  have hwq : IntKind.u64.wrap (q : Int) = q := by rw [IntKind.wrap_u64]; omega
                  clear hz
                  go_wp2_with fail
                  refine (HX.out _).mono ?_
                  rintro e w4 ⟨rfl, rfl⟩
                  go_wp2_with fail
                  refine (HN.out _ _).mono ?_
                  rintro e w5 ⟨rfl, hb5⟩
                  have HB5 := hid_mk (below_two hb.out hb5)
                  have hz2 : (bits BinOp.andNot IntKind.u64 (nF k q : Nat) (s : Nat) != 0) = true := by
                    rw [HZ.out]
                    simpa using HZ3.out
                  go_wp2_with fail
                  go_roundw
                  case rel => exact ⟨minF s (2 ^ q), max m (q + 1), q + 1, by omega, by omega, by omega, by rw [HS.out, HZ2.out], by simp, HP, HB5⟩
                  case measure => simp [intOf]; omega
            · have e : q = 64 := by omega
              subst e
              have e2 : m = 64 := by omega
              subst e2
              go_wp2_with fail
              go_roundw
              case rel => exact ⟨s, 64, n + 1, by have := HLT.out; omega, by omega, Or.inr rfl, rfl, by simp, hp, hb⟩
              case measure => have := HLT.out; simp [intOf]; omega
        · have e : n = 3 := by omega
          subst e
          have e2 : m = 64 := by omega
          subst e2
          have HE := hid_mk (HF.out s hp.out)
          go_wp2_with fail
          exact bodyPost_ret (v := .tuple #[.int .u64 s, .int .i64 0]) (by simp [results, Try.results19, go_sem]) rfl ⟨by rw [← HE.out], hb.out⟩
end Go.Proofs.Ytfiogaollejdbaa
