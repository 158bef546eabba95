/- Package free's bitmaps: add. Conditions: as each theorem names them. -/
import Derived.Test.YtfbimocgcnaogaaFg1
import Derived.Test.YtfbimocgcnaogaaFp
namespace Go.Proofs.Ytfbimocgcnaogaa
open Go.ChangeShapes Go.WideShapes Go.ChangeAt Go.RowKit
set_option linter.unusedVariables false
set_option maxRecDepth 100000

theorem or_bit (s r i : Nat) : (s ||| 2 ^ r).testBit i = (s.testBit i || decide (i = r)) := by
  rw [Nat.testBit_or, Nat.testBit_two_pow]
  congr 1
  exact decide_eq_decide.2 eq_comm
/-- one more number is marked -/
theorem Bm.set {w : World} {b K : Nat} {P Q : Nat → Bool} (h : Bm w b K P) {x : Nat} (hx : x < 64 * K) (hQ : ∀ y, Q y = (P y || decide (y = x))) :
    ∃ s : Nat, s < N64 ∧ w.cell? ⟨b, x / 64, none⟩ = some (.int .u64 s) ∧ w.frozen? ⟨b, x / 64, none⟩ = false ∧ Bm (w.setCell ⟨b, x / 64, none⟩ (.int .u64 ((s ||| 2 ^ (x % 64) : Nat) : Int))) b K Q := by
  obtain ⟨W, h1, h2, h3, h4⟩ := h
  have hq : x / 64 < W.length := by omega
  refine ⟨W.getD (x / 64) 0, getD_lt64 h2 _, (h3.cell (x / 64)).trans (wordsV_at hq), h3.free _, ⟨W.set (x / 64) (W.getD (x / 64) 0 ||| 2 ^ (x % 64)), by simp [h1], fun z hz => ?_, ?_, fun y hy => ?_⟩⟩
  · rcases List.mem_or_eq_of_mem_set hz with hz | rfl
    · exact h2 z hz
    · exact or_lt (getD_lt64 h2 _) (one_lt (Nat.mod_lt _ (by decide)))
  · have h6 := h3.set (x / 64) (.int .u64 ((W.getD (x / 64) 0 ||| 2 ^ (x % 64) : Nat) : Int))
    have e : wordsV (W.set (x / 64) (W.getD (x / 64) 0 ||| 2 ^ (x % 64))) = (wordsV W).set (x / 64) (.int .u64 ((W.getD (x / 64) 0 ||| 2 ^ (x % 64) : Nat) : Int)) := by
      unfold wordsV
      rw [List.map_set]
    rw [e]
    exact h6
  · rw [hQ, ← h4 y hy]
    by_cases hq2 : y / 64 = x / 64
    · rw [hq2, List.getD_eq_getElem?_getD, List.getElem?_set_self hq, Option.getD_some, or_bit]
      congr 1
      exact decide_eq_decide.2 ⟨fun h => by omega, fun h => by omega⟩
    · rw [List.getD_eq_getElem?_getD, List.getElem?_set_ne (by omega), ← List.getD_eq_getElem?_getD, decide_eq_false (by omega), Bool.or_false]

theorem inB_nat {L : List Int} {k : Nat} (h : k < L.length) {x : Nat} (hx : L.getD k 0 = (x : Int)) (y : Nat) : inB (L.take (k + 1)) (y : Int) = (inB (L.take k) (y : Int) || decide (y = x)) := by
  rw [inB_take h, hx]
  congr 1
  exact decide_eq_decide.2 ⟨fun h => by omega, fun h => by omega⟩
set_option maxHeartbeats 4000000 in
theorem padd (b K : Nat) (u : Value) (L G : List Int) (w : World) (hb : Bm w b K (fun x => inB L (x : Int))) (hu : IntsZ w u G) (hne : ∀ g o n c, u = .slice (some ⟨g, o, none⟩) n c → 0 < n → g ≠ b) (hr : ∀ j, j < G.length → 0 ≤ G.getD j 0 ∧ G.getD j 0 < 64 * (K : Int)) (hK : K ≤ 1000) (hl : G.length ≤ 1000000) :
    Calls Try.prog 26 #[.slice (some ⟨b, 0, none⟩) K K, u] w fun e w' => e = .returned (.bool (freshT L G G.length)) ∧ Chg (· = b) w w' ∧ (freshT L G G.length = true → Bm w' b K (fun x => inB L (x : Int) || inB G (x : Int))) := by
  rcases hu with ⟨⟨va, vc, rfl, _⟩, rfl⟩ | ⟨g, o, c, rfl, hb1, hb2, hb3⟩
  · have HB := hid_mk hb
    clear hb hr
    go_enter Try.func26, Try.ntmps26
    go_wp2
    go_loopw [6, 9] (fun _ i wr => i = .int .i64 0 ∧ wr = w) (fun _ _ _ => 0)
    case atStart => exact ⟨rfl, rfl⟩
    case round =>
      obtain ⟨rfl, rfl⟩ := hrel
      go_wp2
      go_ret
      exact ⟨rfl, Chg.refl _ _, fun _ => by
        have : (fun x : Nat => inB L (x : Int) || inB [] (x : Int)) = (fun x : Nat => inB L (x : Int)) := by
          funext x
          simp [inB]
        rw [this]
        exact HB.out⟩
  · have HC := hid_mk hb3
    have HL := hid_mk hl
    have HR := hid_mk hr
    have HNe : Hid (0 < G.length → g ≠ b) := hid_mk (hne g o _ c rfl)
    have HB0 : Hid (Bm w b K (fun x => inB L (x : Int) || inB (G.take 0) (x : Int))) := hid_mk (by
      have : (fun x : Nat => inB L (x : Int) || inB (G.take 0) (x : Int)) = (fun x : Nat => inB L (x : Int)) := by
        funext x
        simp [inB]
      rw [this]
      exact hb)
    clear hb3 hl hr hne hb
    go_enter Try.func26, Try.ntmps26
    go_wp2
    go_loopw [6, 9] (fun _ i wr => ∃ k : Nat, k ≤ G.length ∧ i = .int .i64 k ∧ Hid (Bm wr b K (fun x => inB L (x : Int) || inB (G.take k) (x : Int))) ∧ Hid (Chg (· = b) w wr) ∧ Hid (freshT L G k = true)) (fun _ i _ => G.length - (intOf i).toNat)
    case atStart => exact ⟨0, Nat.zero_le _, rfl, HB0, hid_mk (Chg.refl _ _), hid_mk rfl⟩
    case round =>
      obtain ⟨k, hk, rfl, hbm, hcg, hfr⟩ := hrel
      by_cases hlt : k < G.length
      · have c0 := (hcg.out.cell hb1 (HNe.out (by omega))).trans (HC.out k hlt)
        have hbw : g < wr.heap.size := Nat.lt_of_lt_of_le hb1 hcg.out.size
        have hki : (k : Int) < (G.length : Int) := by omega
        have hk6 : (k : Int) < 1000000 := by
          have := HL.out
          omega
        obtain ⟨hx0, hx1⟩ := HR.out k hlt
        obtain ⟨x, hx⟩ := Int.eq_ofNat_of_zero_le hx0
        have HT := hid_mk (freshT_succ L G k)
        have HN := hid_mk (fun h => freshT_no (L := L) (G := G) hlt h)
        have hQ := fun y : Nat => inB_nat hlt hx y
        rw [hx] at HT HN c0 hx1
        clear hx hx0
        have hxk : x < 64 * K := by omega
        have HP := hid_mk (phas b K x _ wr hbm.out hxk hK)
        cases he : (inB L (x : Int) || inB (G.take k) (x : Int))
        · have he2 : (!inB L (x : Int) && !inB (G.take k) (x : Int)) = true := by
            rw [← Bool.not_or, he]
            rfl
          simp only [he] at HP
          have HE : Hid (freshT L G (k + 1) = true) := hid_mk (by rw [HT.out, hfr.out, he2]; rfl)
          obtain ⟨s, hs, c1, f1, hset⟩ := hbm.out.set (Q := fun y => inB L (y : Int) || inB (G.take (k + 1)) (y : Int)) hxk (fun y => by rw [hQ y, Bool.or_assoc])
          have HSet := hid_mk hset
          have HOr : Hid (bits .or .u64 (s : Int) ((2 : Int) ^ (x % 64)) = ((s ||| 2 ^ (x % 64) : Nat) : Int)) := hid_mk (by
            rw [← u64_or_nat s (2 ^ (x % 64)) hs (one_lt (Nat.mod_lt _ (by decide)))]
            simp)
          have hsh := shl_one64 (n := x % 64) (Nat.mod_lt _ (by decide))
          have hr : (x : Int).tmod 64 = ((x % 64 : Nat) : Int) := by rw [Int.tmod_eq_emod_of_nonneg (by omega)]; omega
          have hq2 : (x : Int) / 64 = ((x / 64 : Nat) : Int) := by omega
          have hqk : x / 64 < K := by omega
          have hqi : ((x / 64 : Nat) : Int) < (K : Int) := by omega
          have hrk : x % 64 < 64 := by omega
          have HLT := hid_mk hbm.out.lt
          clear he he2 HT HN hset hQ hfr hbm hx1 hxk hk hb2
          generalize x / 64 = q at *
          generalize x % 64 = r at *
          go_wp2_with fail
          refine HP.out.mono ?_
          rintro e w1 ⟨rfl, rfl⟩
          go_wp2_with fail
          go_region
          go_wp2_with fail
          go_roundw
          case rel => exact ⟨k + 1, by omega, by simp, hid_mk (by rw [HOr.out]; exact HSet.out.below (Below.refl _ _).drew), hid_mk ((hcg.out.setCell (Or.inl rfl) _).trans (Chg.of_below (Below.refl _ _).drew)), HE⟩
          case measure => simp [intOf]; omega
        · have he2 : (!inB L (x : Int) && !inB (G.take k) (x : Int)) = false := by
            rw [← Bool.not_or, he]
            rfl
          simp only [he] at HP
          have HE : Hid (freshT L G G.length = false) := hid_mk (HN.out he2)
          clear he he2 HT HN hQ hfr hbm hx1
          go_wp2_with fail
          refine HP.out.mono ?_
          rintro e w1 ⟨rfl, rfl⟩
          go_wp2_with fail
          go_ret
          exact ⟨ret_eq (by rw [HE.out]; rfl), hcg.out, fun h => absurd (HE.out.symm.trans h) (by decide)⟩
      · obtain rfl : k = G.length := by omega
        have HE := hid_mk hbm.out
        rw [List.take_length] at HE
        go_wp2_with fail
        go_ret
        exact ⟨ret_eq (by rw [hfr.out]; rfl), hcg.out, fun _ => HE.out⟩
end Go.Proofs.Ytfbimocgcnaogaa
