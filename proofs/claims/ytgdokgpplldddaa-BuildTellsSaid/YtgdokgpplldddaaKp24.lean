/- Fr1 Arg: joined texts. Conditions: as each theorem names them. -/
import Derived.Test.YtgdokgpplldddaaKp01
import Derived.Test.YtgdokgpplldddaaKp23
import Derived.Test.YtgdokgpplldddaaKp06
import Derived.Test.YtgdokgpplldddaaRows
import Derived.ProofKit
import Derived.OwnWalk
import Derived.OpenShut
import Derived.Deep.SlicePairs
import Derived.Lib.SmallJoins
/- Feature bits of the reference, layer 6: bits, a bit, Has, All. Conditions: as each theorem names them. -/
namespace Go.Proofs.Ytgdokgpplldddaa
open Go.ChangeShapes Go.WideShapes Go.ChangeAt Go.RowKit
set_option linter.unusedVariables false
set_option maxRecDepth 100000

/-- a slice of ints, nil too, that reads as L -/
def IntsAt (w : World) (v : Value) (L : List Nat) : Prop :=
  ((∃ a c, v = .slice a 0 c ∧ (a = none → c = 0)) ∧ L = []) ∨ ∃ b o c : Nat, v = .slice (some ⟨b, o, none⟩) L.length c ∧ b < w.heap.size ∧ L.length ≤ c ∧ ∀ j, j < L.length → w.cell? ⟨b, o + j, none⟩ = some (.int .i64 (L.getD j 0 : Nat))
theorem IntsAt.below {w w' : World} {v : Value} {L : List Nat} (h : IntsAt w v L) (hb : Below w.heap.size w w') : IntsAt w' v L := by
  rcases h with h | ⟨b, o, c, h1, h2, h3, h4⟩
  · exact Or.inl h
  · have := hb.size
    exact Or.inr ⟨b, o, c, h1, by omega, h3, fun j hj => (hb.cell (p := ⟨b, o + j, none⟩) h2).trans (h4 j hj)⟩
/-- a literal of ints -/
theorem ints_lit (w : World) (L : List Nat) (t : TypeId) : IntsAt (w.alloc (.cells (L.map fun x : Nat => Value.int .i64 (x : Int)).toArray t)) (.slice (some ⟨w.heap.size, 0, none⟩) L.length L.length) L := by
  refine Or.inr ⟨w.heap.size, 0, L.length, rfl, by simp, Nat.le_refl _, fun j hj => ?_⟩
  have h := heap_alloc_new w (.cells (L.map fun x : Nat => Value.int .i64 (x : Int)).toArray t)
  rw [cellK h, Nat.zero_add]
  simp [hj, List.getD]
/-- the set of bits of a list -/
def orF (L : List Nat) : Nat := L.foldl (fun s b => s ||| 2 ^ b) 0
theorem orF_take {L : List Nat} {k : Nat} (hk : k < L.length) : orF (L.take (k + 1)) = orF (L.take k) ||| 2 ^ L.getD k 0 := by
  unfold orF
  rw [List.take_succ_eq_append_getElem hk, List.foldl_append]
  simp [List.getD, hk]
theorem orF_all (L : List Nat) : orF (L.take L.length) = orF L := by rw [List.take_length]
theorem orF_lt {L : List Nat} (h : ∀ x ∈ L, x < 64) : orF L < N64 := by
  have key : ∀ (L : List Nat) (s : Nat), s < N64 → (∀ x ∈ L, x < 64) → L.foldl (fun s b => s ||| 2 ^ b) s < N64 := by
    intro L
    induction L with
    | nil => exact fun s hs _ => hs
    | cons a L ih => exact fun s hs h => ih _ (or_lt hs (one_lt (h a (by simp)))) fun x hx => h x (by simp [hx])
  exact key L 0 (by decide) h
theorem shl_one64 {n : Nat} (h : n < 64) : IntKind.u64.wrap ((2 : Int) ^ n) = ((2 ^ n : Nat) : Int) := by
  have h1 : 2 ^ n < 18446744073709551616 := one_lt h
  rw [IntKind.wrap_u64]
  have e : ((2 ^ n : Nat) : Int) = (2 : Int) ^ n := by simp
  rw [← e]
  generalize 2 ^ n = z at *
  omega
/-- a bit of a number, as the walk finds it -/
theorem bit_tmod (s n : Nat) : (((s : Int) / 2 ^ n).tmod 2 == 1) = s.testBit n := by
  have e : ((2 ^ n : Nat) : Int) = (2 : Int) ^ n := by simp
  rw [← e, ← Int.natCast_ediv, Nat.testBit_eq_decide_div_mod_eq]
  generalize s / 2 ^ n = z
  rw [Int.tmod_eq_emod_of_nonneg (by omega)]
  by_cases h : z % 2 = 1
  · rw [decide_eq_true h]
    simp
    omega
  · rw [decide_eq_false h]
    simp
    omega

/-- Has' answer -/
def hasF (s : Nat) (b : Int) : Bool := decide (0 ≤ b) && decide (b < 64) && s.testBit b.toNat
theorem hasF_nat {s n : Nat} (h : n < 64) : hasF s n = s.testBit n := by
  unfold hasF
  rw [decide_eq_true (by omega), decide_eq_true (by omega)]
  simp
end Go.Proofs.Ytgdokgpplldddaa

/- Arguments that came in, read as the statements' own words: bytes, regions. Conditions: as each theorem names them. -/
namespace Go.Proofs.Ytgdokgpplldddaa
open Go.ChangeShapes Go.WideShapes Go.ChangeAt Go.RowKit
set_option linter.unusedVariables false
set_option maxRecDepth 100000

section
variable {H : Type} {enc : TypeId × Value → H} {W : World} {r : Reach} {b0 : Nat} {v : Value} {d : DataW H} {p : List MemPlace}

theorem add_some {w : World} {a : Addr} {k : Nat} {v : Value} (h : w.cell? (a.add k) = some v) (hk : k = 0 ∨ a.spot = none) : a.spot = none := by
  rcases hk with rfl | h'
  · simpa [Addr.add] using World.cell?_spot h
  · exact h'

/-- bytes, as cells -/
theorem open_bytes_cells {fuel : Nat} {cs : List Value} {x : DataW H × List MemPlace} (h : DataW.trod enc Try.prog W 0 (fun _ => true) true fuel 49 cs = some x) :
    ∃ v l, cs = [v] ∧ BytesAt W v l ∧ isBytes l ∧ l.length ≤ maxLen := by
  have hc : Try.prog.cellsOf 5 = 1 := by kernel_rfl
  rcases open_ints Try.underlying49 Try.underlying5 hc h with ⟨hcs, _⟩ | ⟨a, len, cap, zs, hcs, _, hle, hmax, hall, _, hcell, hwf⟩
  · exact ⟨_, [], hcs, Or.inl ⟨⟨none, 0, rfl, fun _ => rfl⟩, rfl⟩, isBytes_nil, by simp⟩
  · simp only [if_true] at hall
    have hb : isBytes (zs.take len) := fun x hx => by
      have := bounds_u8 (hwf x (List.mem_of_mem_take hx))
      omega
    have hl : (zs.take len).length = len := by simp; omega
    by_cases h0 : len = 0
    · subst h0
      exact ⟨_, [], hcs, Or.inl ⟨⟨_, _, rfl, fun h => by cases h⟩, rfl⟩, isBytes_nil, by simp⟩
    · obtain ⟨b, off, rfl, hc2⟩ := ints_at hcell (by omega)
      refine ⟨_, zs.take len, hcs, Or.inr ⟨b, off, cap, by rw [hl], World.block_lt_of_cell? W _ (hc2 0 (by omega)), by omega, fun j hj => ?_⟩, hb, by omega⟩
      rw [hc2 j (by omega)]
      congr 2
      simp only [List.getD_eq_getElem?_getD, List.getElem?_take]
      rw [if_pos (by omega)]
theorem open_bytes (hval : Value.okWide Try.prog W r b0 49 v) (h : DataW.Trod enc Try.prog W 0 (fun _ => true) true 49 v d p) :
    ∃ l, BytesAt W v l ∧ isBytes l ∧ l.length ≤ maxLen := by
  obtain ⟨a, len, cap, rfl⟩ := okWide_slice Try.underlying49 hval
  obtain ⟨fuel, hf⟩ := h
  obtain ⟨v', l, h1, h2, h3, h4⟩ := open_bytes_cells hf
  simp [Value.cells] at h1
  subst h1
  exact ⟨l, h2, h3, h4⟩

end
end Go.Proofs.Ytgdokgpplldddaa
