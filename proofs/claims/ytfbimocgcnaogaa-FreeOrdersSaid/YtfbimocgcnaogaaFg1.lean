/- Package free's isNumber, within; bitmaps: has. Conditions: as each theorem names them. -/
import Derived.Test.YtfbimocgcnaogaaFe2
namespace Go.Proofs.Ytfbimocgcnaogaa
open Go.ChangeShapes Go.WideShapes Go.ChangeAt Go.RowKit
set_option linter.unusedVariables false
set_option maxRecDepth 100000

theorem pisnum (x S : Int) (w : World) :
    Calls Try.prog 27 #[.int .i64 x, .int .i64 S] w fun e w' => e = .returned (.bool (okI S x)) ∧ w' = w := by
  by_cases h0 : x < 0
  · rw [show okI S x = false from by unfold okI; rw [decide_eq_false (by omega)]; rfl]
    have hd : decide (0 ≤ x) = false := decide_eq_false (by omega)
    go_enter Try.func27, Try.ntmps27
    go_wp2
    go_ret
    exact ⟨rfl, rfl⟩
  · have hd : decide (0 ≤ x) = true := decide_eq_true (by omega)
    by_cases h1 : x < S
    · rw [show okI S x = true from by unfold okI; rw [hd, decide_eq_true h1]; rfl]
      have hd2 : decide (x < S) = true := decide_eq_true h1
      go_enter Try.func27, Try.ntmps27
      go_wp2
      go_ret
      exact ⟨rfl, rfl⟩
    · rw [show okI S x = false from by unfold okI; rw [hd, decide_eq_false h1]; rfl]
      have hd2 : decide (x < S) = false := decide_eq_false h1
      go_enter Try.func27, Try.ntmps27
      go_wp2
      go_ret
      exact ⟨rfl, rfl⟩

set_option maxHeartbeats 1000000 in
theorem pwithin (v : Value) (S : Int) (L : List Int) (w : World) (hv : IntsZ w v L) (hl : L.length ≤ 1000000) :
    Calls Try.prog 25 #[v, .int .i64 S] w fun e w' => e = .returned (.bool (rngT S L L.length)) ∧ w' = w := by
  rcases hv with ⟨⟨va, vc, rfl, _⟩, rfl⟩ | ⟨b, o, c, rfl, hb1, hb2, hb3⟩
  · go_enter Try.func25, Try.ntmps25
    go_wp2
    go_loopw [6, 9] (fun _ i wr => i = .int .i64 0 ∧ wr = w) (fun _ _ _ => 0)
    case atStart => exact ⟨rfl, rfl⟩
    case round =>
      obtain ⟨rfl, rfl⟩ := hrel
      go_wp2
      go_ret
      exact ⟨rfl, rfl⟩
  · have HC := hid_mk hb3
    have HL := hid_mk hl
    clear hb3 hl
    go_enter Try.func25, Try.ntmps25
    go_wp2
    go_loopw [6, 9] (fun _ i wr => ∃ k : Nat, k ≤ L.length ∧ i = .int .i64 k ∧ wr = w ∧ Hid (rngT S L k = true)) (fun _ i _ => L.length - (intOf i).toNat)
    case atStart => exact ⟨0, Nat.zero_le _, rfl, rfl, hid_mk rfl⟩
    case round =>
      obtain ⟨k, hk, rfl, rfl, hno⟩ := hrel
      by_cases hlt : k < L.length
      · have c0 := HC.out k hlt
        have hki : (k : Int) < (L.length : Int) := by omega
        have HT := hid_mk (rngT_succ S L k)
        have HN := hid_mk (fun h => rngT_no (S := S) (G := L) hlt h)
        have hk6 : (k : Int) < 1000000 := by
          have := HL.out
          omega
        generalize L.getD k 0 = x at *
        have HP := hid_mk (fun u => pisnum x S u)
        cases he : okI S x
        · rw [he] at HP
          have HE : Hid (rngT S L L.length = false) := hid_mk (HN.out he)
          clear he HN HT
          go_wp2_with fail
          refine (HP.out _).mono ?_
          rintro e w1 ⟨rfl, rfl⟩
          go_wp2_with fail
          go_ret
          exact ⟨ret_eq (by rw [HE.out]; rfl), rfl⟩
        · rw [he] at HP
          have HE : Hid (rngT S L (k + 1) = true) := hid_mk (by rw [HT.out, hno.out, he]; rfl)
          clear he HN HT
          go_wp2_with fail
          refine (HP.out _).mono ?_
          rintro e w1 ⟨rfl, rfl⟩
          go_wp2_with fail
          go_roundw
          case rel => exact ⟨k + 1, by omega, by simp, trivial, HE⟩
          case measure => simp [intOf]; omega
      · obtain rfl : k = L.length := by omega
        go_wp2_with fail
        go_ret
        exact ⟨ret_eq (by rw [hno.out]; rfl), rfl⟩

/-! ### bitmaps -/
/-- the words of a bitmap -/
def wordsV (W : List Nat) : List Value := W.map fun x : Nat => Value.int .u64 (x : Int)
/-- a bitmap of K words in a block of its own: number x is marked just if P x -/
def Bm (w : World) (b K : Nat) (P : Nat → Bool) : Prop :=
  ∃ W : List Nat, W.length = K ∧ (∀ x ∈ W, x < N64) ∧ BlkAt w b (wordsV W) 51 ∧ ∀ x, x < 64 * K → (W.getD (x / 64) 0).testBit (x % 64) = P x
theorem Bm.below {w w' : World} {b K : Nat} {P : Nat → Bool} (h : Bm w b K P) (hb : Below w.heap.size w w') : Bm w' b K P := by
  obtain ⟨W, h1, h2, h3, h4⟩ := h
  exact ⟨W, h1, h2, h3.below hb, h4⟩
theorem Bm.lt {w : World} {b K : Nat} {P : Nat → Bool} (h : Bm w b K P) : b < w.heap.size := by
  obtain ⟨W, h1, h2, h3, h4⟩ := h
  exact h3.lt
theorem wordsV_at {W : List Nat} {i : Nat} (h : i < W.length) : (wordsV W)[i]? = some (.int .u64 (W.getD i 0 : Nat)) := by
  unfold wordsV
  simp [h, List.getD]
theorem getD_lt64 {W : List Nat} (h : ∀ x ∈ W, x < N64) (i : Nat) : W.getD i 0 < N64 := by
  rw [List.getD_eq_getElem?_getD]
  cases e : W[i]? with
  | none => decide
  | some x => exact h x (List.mem_of_getElem? e)
theorem bit_and1 {s r : Nat} (hs : s < N64) : (bits .and .u64 ((s : Int) / 2 ^ r) 1 == 1) = s.testBit r := by
  have e : ((2 ^ r : Nat) : Int) = (2 : Int) ^ r := by simp
  have hlt : s / 2 ^ r < N64 := Nat.lt_of_le_of_lt (Nat.div_le_self _ _) hs
  rw [← e, ← Int.natCast_ediv, show (1 : Int) = ((1 : Nat) : Int) from rfl, u64_and_nat _ _ hlt (by decide), Nat.and_one_is_mod, Nat.testBit_eq_decide_div_mod_eq]
  generalize s / 2 ^ r % 2 = z
  by_cases h : z = 1 <;> simp [h] <;> omega
set_option maxHeartbeats 1000000 in
theorem phas (b K x : Nat) (P : Nat → Bool) (w : World) (hb : Bm w b K P) (hx : x < 64 * K) (hK : K ≤ 1000) :
    Calls Try.prog 28 #[.slice (some ⟨b, 0, none⟩) K K, .int .i64 x] w fun e w' => e = .returned (.bool (P x)) ∧ w' = w := by
  obtain ⟨W, h1, h2, h3, h4⟩ := hb
  have HP := hid_mk (h4 x hx)
  have c0 := (h3.cell (x / 64)).trans (wordsV_at (by omega))
  have hs := getD_lt64 h2 (x / 64)
  have hq : (x : Int) / 64 = ((x / 64 : Nat) : Int) := by omega
  have hr : (x : Int).tmod 64 = ((x % 64 : Nat) : Int) := by rw [Int.tmod_eq_emod_of_nonneg (by omega)]; omega
  have hq2 : (x : Int).tdiv 64 = ((x / 64 : Nat) : Int) := by rw [Int.tdiv_eq_ediv_of_nonneg (by omega)]; omega
  have hqk : x / 64 < K := by omega
  have hrk : x % 64 < 64 := by omega
  generalize W.getD (x / 64) 0 = s at *
  generalize x / 64 = q at *
  generalize x % 64 = r at *
  clear h1 h2 h3 h4
  go_enter Try.func28, Try.ntmps28
  go_wp2
  go_ret
  exact ⟨ret_eq (by rw [← HP.out, ← bit_and1 hs]; rfl), rfl⟩
end Go.Proofs.Ytfbimocgcnaogaa
