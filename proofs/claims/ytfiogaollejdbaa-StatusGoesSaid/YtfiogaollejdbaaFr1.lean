/- Feature bits of the reference, layer 6: bits, a bit, Has, All. Conditions: as each theorem names them. -/
import Derived.Test.YtfiogaollejdbaaRows
import Derived.Test.YtfiogaollejdbaaWld
import Derived.Test.YtfiogaollejdbaaFt0
import Derived.ProofKit
import Derived.OwnWalk
namespace Go.Proofs.Ytfiogaollejdbaa
open Go.ChangeShapes Go.WideShapes Go.ChangeAt Go.RowKit
set_option linter.unusedVariables false
set_option maxRecDepth 100000

/-- a slice of ints, nil too, that reads as L -/
def IntsAt (w : World) (v : Value) (L : List Nat) : Prop :=
  ((∃ a c, v = .slice a 0 c ∧ (a = none → c = 0)) ∧ L = []) ∨ ∃ b o c : Nat, v = .slice (some ⟨b, o, none⟩) L.length c ∧ b < w.heap.size ∧ L.length ≤ c ∧ ∀ j, j < L.length → w.cell? ⟨b, o + j, none⟩ = some (.int .i64 (L.getD j 0 : Nat))
theorem IntsAt.below {w w' : World} {v : Value} {L : List Nat} (h : IntsAt w v L) (hb : Below w.heap.size w w') : IntsAt w' v L := by
  rcases h with h | ⟨b, o, c, h1, h2, h3, h4⟩
  · exact Or.inl h
  · have := hb.size
    exact Or.inr ⟨b, o, c, h1, by omega, h3, fun j hj => (hb.cell (p := ⟨b, o + j, none⟩) h2).trans (h4 j hj)⟩
/-- a literal of ints -/
theorem ints_lit (w : World) (L : List Nat) (t : TypeId) : IntsAt (w.alloc (.cells (L.map fun x : Nat => Value.int .i64 (x : Int)).toArray t)) (.slice (some ⟨w.heap.size, 0, none⟩) L.length L.length) L := by
  refine Or.inr ⟨w.heap.size, 0, L.length, rfl, by simp, Nat.le_refl _, fun j hj => ?_⟩
  have h := heap_alloc_new w (.cells (L.map fun x : Nat => Value.int .i64 (x : Int)).toArray t)
  rw [cellK h, Nat.zero_add]
  simp [hj, List.getD]
/-- the set of bits of a list -/
def orF (L : List Nat) : Nat := L.foldl (fun s b => s ||| 2 ^ b) 0
theorem orF_take {L : List Nat} {k : Nat} (hk : k < L.length) : orF (L.take (k + 1)) = orF (L.take k) ||| 2 ^ L.getD k 0 := by
  unfold orF
  rw [List.take_succ_eq_append_getElem hk, List.foldl_append]
  simp [List.getD, hk]
theorem orF_all (L : List Nat) : orF (L.take L.length) = orF L := by rw [List.take_length]
theorem orF_lt {L : List Nat} (h : ∀ x ∈ L, x < 64) : orF L < N64 := by
  have key : ∀ (L : List Nat) (s : Nat), s < N64 → (∀ x ∈ L, x < 64) → L.foldl (fun s b => s ||| 2 ^ b) s < N64 := by
    intro L
    induction L with
    | nil => exact fun s hs _ => hs
    | cons a L ih => exact fun s hs h => ih _ (or_lt hs (one_lt (h a (by simp)))) fun x hx => h x (by simp [hx])
  exact key L 0 (by decide) h
theorem shl_one64 {n : Nat} (h : n < 64) : IntKind.u64.wrap ((2 : Int) ^ n) = ((2 ^ n : Nat) : Int) := by
  have h1 : 2 ^ n < 18446744073709551616 := one_lt h
  rw [IntKind.wrap_u64]
  have e : ((2 ^ n : Nat) : Int) = (2 : Int) ^ n := by simp
  rw [← e]
  generalize 2 ^ n = z at *
  omega
/-- a bit of a number, as the walk finds it -/
theorem bit_tmod (s n : Nat) : (((s : Int) / 2 ^ n).tmod 2 == 1) = s.testBit n := by
  have e : ((2 ^ n : Nat) : Int) = (2 : Int) ^ n := by simp
  rw [← e, ← Int.natCast_ediv, Nat.testBit_eq_decide_div_mod_eq]
  generalize s / 2 ^ n = z
  rw [Int.tmod_eq_emod_of_nonneg (by omega)]
  by_cases h : z % 2 = 1
  · rw [decide_eq_true h]
    simp
    omega
  · rw [decide_eq_false h]
    simp
    omega

set_option maxHeartbeats 1000000 in
theorem rbits (v : Value) (L : List Nat) (hL : ∀ x ∈ L, x < 64) (hl : L.length < 1000000) (w : World) (hv : IntsAt w v L) :
    Calls Try.prog 26 #[v] w fun e w' => e = .returned (.int .u64 (orF L)) ∧ ∃ m, w' = w.drewN m := by
  rcases hv with ⟨⟨va, vc, rfl, _⟩, rfl⟩ | ⟨b, o, c, rfl, hb1, hb2, hb3⟩
  · go_enter Try.func26, Try.ntmps26
    go_wp2
    go_loop [3, 4] (fun n i => n = .int .u64 0 ∧ i = .int .i64 0) (fun _ i => 0)
    case atStart => exact ⟨rfl, rfl⟩
    case round =>
      obtain ⟨rfl, rfl⟩ := hrel
      go_wp2
      go_ret
      exact ⟨rfl, 0, rfl⟩
  · have HC := hid_mk hb3
    have HL := hid_mk hL
    clear hb3 hL
    go_enter Try.func26, Try.ntmps26
    go_wp2
    go_loopw [3, 4] (fun n i wr => ∃ (k m : Nat), k ≤ L.length ∧ i = .int .i64 k ∧ n = .int .u64 (orF (L.take k) : Nat) ∧ wr = w.drewN m) (fun _ i _ => L.length - (intOf i).toNat)
    case atStart => exact ⟨0, 0, Nat.zero_le _, rfl, rfl, rfl⟩
    case round =>
      obtain ⟨k, m, hk, rfl, rfl, rfl⟩ := hrel
      by_cases hlt : k < L.length
      · have hc := HC.out k hlt
        have hx : L.getD k 0 < 64 := by
          rw [List.getD_eq_getElem?_getD, List.getElem?_eq_getElem hlt]
          exact HL.out _ (List.getElem_mem hlt)
        have HT := hid_mk (orF_take hlt)
        have HS := hid_mk (shl_one64 hx)
        have HN := hid_mk (orF_lt (L := L.take k) fun x hx => HL.out x (List.mem_of_mem_take hx))
        have hlt' : (k : Int) < (L.length : Int) := by omega
        generalize L.getD k 0 = x at *
        have hw : IntKind.u64.wrap (x : Int) = x := by rw [IntKind.wrap_u64]; omega
        go_wp2
        refine ⟨⟨k + 1, m, by omega, by simp, ?_, rfl⟩, by simp [intOf]; omega⟩
        rw [HS.out, u64_or_nat _ _ HN.out (one_lt hx), HT.out]
      · have e : k = L.length := by omega
        subst e
        have HT := hid_mk (orF_all L)
        go_wp2
        go_ret
        exact ⟨ret_eq (by rw [HT.out]; rfl), _, rfl⟩
/-- Has' answer -/
def hasF (s : Nat) (b : Int) : Bool := decide (0 ≤ b) && decide (b < 64) && s.testBit b.toNat
theorem hasF_nat {s n : Nat} (h : n < 64) : hasF s n = s.testBit n := by
  unfold hasF
  rw [decide_eq_true (by omega), decide_eq_true (by omega)]
  simp
set_option maxHeartbeats 1000000 in
theorem rhas (s : Nat) (hs : s < N64) (b : Int) (w : World) :
    Calls Try.prog 28 #[.int .u64 s, .int .i64 b] w fun e w' => e = .returned (.bool (hasF s b)) ∧ w' = w := by
  by_cases h0 : 0 ≤ b
  · by_cases h1 : b < 64
    · obtain ⟨n, rfl⟩ := Int.eq_ofNat_of_zero_le h0
      have hw : IntKind.u64.wrap (n : Int) = n := by rw [IntKind.wrap_u64]; omega
      go_enter Try.func28, Try.ntmps28
      go_wp2
      go_ret
      refine ⟨ret_eq ?_, rfl⟩
      rw [hasF_nat (by omega), ← bit_tmod]
      rfl
    · have e : hasF s b = false := by
        unfold hasF
        rw [decide_eq_false h1]
        simp
      rw [e]
      go_enter Try.func28, Try.ntmps28
      go_wp2
      go_ret
      exact ⟨rfl, rfl⟩
  · have e : hasF s b = false := by
      unfold hasF
      rw [decide_eq_false h0]
      simp
    rw [e]
    go_enter Try.func28, Try.ntmps28
    go_wp2
    go_ret
    exact ⟨rfl, rfl⟩
end Go.Proofs.Ytfiogaollejdbaa
