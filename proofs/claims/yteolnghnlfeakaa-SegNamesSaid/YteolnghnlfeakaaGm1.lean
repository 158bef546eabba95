/- Contracts of package gmem's small functions. Conditions: as each theorem names them. -/
import Derived.Test.YteolnghnlfeakaaRows
import Derived.Test.YteolnghnlfeakaaReg
import Derived.Test.YteolnghnlfeakaaWld
import Derived.WalkKit
import Derived.ProofKit
import Derived.OpenShut
import Derived.Below
import Derived.Deep.DeepCutAuto
import Derived.Outline
import Derived.Shelf.Abstract
import Derived.LaidEqlPtr
import Derived.Deep.QuietTactic
import Derived.BigQuiet
namespace Go.Proofs.Yteolnghnlfeakaa
open Go.ChangeShapes Go.WideShapes Go.ChangeAt Go.RowKit
set_option linter.unusedVariables false

/-- the memory's own block -/
abbrev memCells (p ib qb n k : Nat) : List Value := [.pointer (some ⟨p, 0, none⟩), .slice (some ⟨ib, 0, none⟩) n n, .slice (some ⟨qb, 0, none⟩) k k]
/-- the regions, as the memory keeps them -/
def partCells (ib : Nat) : Nat → List (Int × Int) → List Value
  | _, [] => []
  | o, r :: l => .int .u64 r.1 :: .int .u64 (r.1 + r.2 - 1) :: .slice (some ⟨ib, o, none⟩) r.2.toNat r.2.toNat :: partCells ib (o + r.2.toNat) l
theorem partCells_length (ib : Nat) : ∀ (o : Nat) (l : List (Int × Int)), (partCells ib o l).length = 3 * l.length
  | _, [] => rfl
  | o, r :: l => by
    simp only [partCells, List.length_cons, partCells_length ib _ l]
    omega
theorem partCells_at (ib : Nat) : ∀ (o : Nat) (l : List (Int × Int)) (i : Nat), i < l.length → (partCells ib o l)[i * 3]? = some (.int .u64 (at_ l i).1) ∧ (partCells ib o l)[i * 3 + 1]? = some (.int .u64 ((at_ l i).1 + (at_ l i).2 - 1)) ∧ (partCells ib o l)[i * 3 + 2]? = some (.slice (some ⟨ib, o + off l i, none⟩) (at_ l i).2.toNat (at_ l i).2.toNat)
  | _, [], i, h => by simp at h
  | o, r :: l, 0, _ => by simp [partCells, at_, off, sumR]
  | o, r :: l, i + 1, h => by
    have := partCells_at ib (o + r.2.toNat) l i (by simpa using h)
    have e : (i + 1) * 3 = i * 3 + 1 + 1 + 1 := by omega
    rw [at_succ, off_succ_cons, ← Nat.add_assoc, e]
    simpa [partCells] using this

/-- A memory with regions L and bytes M: its object p, its image ib, its parts qb. -/
structure IsMem (w : World) (p ib qb : Nat) (L : List (Int × Int)) (M : List Int) : Prop where
  obj : w.heap[p]? = some (.cells (memCells p ib qb M.length L.length).toArray 70 (0, 0))
  img : w.heap[ib]? = some (.cells (M.map (Value.int .u8)).toArray 5 (0, 0))
  prt : w.heap[qb]? = some (.cells (partCells ib 0 L).toArray 73 (0, 0))
  ok : okR (-1) 1048576 L = true
  n16 : L.length ≤ 16
  len : M.length = sumR L
  rng : isBytes M
  ne1 : p ≠ ib
  ne2 : p ≠ qb
  ne3 : ib ≠ qb

theorem IsMem.keep {w w' : World} {p ib qb : Nat} {L : List (Int × Int)} {M : List Int} (h : IsMem w p ib qb L M) {S : Nat → Prop} (hc : Chg S w w') (h1 : ¬ S p) (h2 : ¬ S ib) (h3 : ¬ S qb) : IsMem w' p ib qb L M :=
  ⟨hc.keep h.obj h1, hc.keep h.img h2, hc.keep h.prt h3, h.ok, h.n16, h.len, h.rng, h.ne1, h.ne2, h.ne3⟩
theorem IsMem.below {w w' : World} {p ib qb : Nat} {L : List (Int × Int)} {M : List Int} (h : IsMem w p ib qb L M) (hb : Below w.heap.size w w') : IsMem w' p ib qb L M :=
  h.keep (S := fun _ => False) (Chg.of_below hb) (fun h => h) (fun h => h) (fun h => h)
theorem IsMem.sum {w : World} {p ib qb : Nat} {L : List (Int × Int)} {M : List Int} (h : IsMem w p ib qb L M) : M.length ≤ 1048576 := by
  rw [h.len]
  rcases okR_sum h.ok with h1 | h1
  · omega
  · rw [h1]
    simp [sumR]
theorem IsMem.drewN {w : World} {p ib qb : Nat} {L : List (Int × Int)} {M : List Int} (h : IsMem w p ib qb L M) (n : Nat) : IsMem (w.drewN n) p ib qb L M := h.below (below_drewN w n)

/-! ## last -/
def lastI (a n : Int) : Int := IntKind.u64.wrap (a + IntKind.u64.wrap (n - 1))
theorem lastI_ok {a n : Int} (h0 : 0 ≤ a) (h1 : 1 ≤ n) (h2 : a + n ≤ 18446744073709551616) : lastI a n = a + n - 1 := by
  unfold lastI
  rw [IntKind.wrap_u64, IntKind.wrap_u64]
  omega
theorem last_any (a n : Int) (w : World) :
    Calls Try.prog 37 #[.agg #[.int .u64 a, .int .u64 n]] w fun e w' => e = .returned (.int .u64 (lastI a n)) ∧ Below w.heap.size w w' := by
  go_enter Try.func37, Try.ntmps37
  go_wp2
  go_ret
  exact ⟨rfl, (Below.refl _ _).alloc (Nat.le_refl _) _⟩

/-! ## made -/
theorem drewN_drewN (w : World) (a b : Nat) : (w.drewN a).drewN b = w.drewN (a + b) := by
  show ({ w with drawn := w.drawn + a + b } : World) = { w with drawn := w.drawn + (a + b) }
  rw [Nat.add_assoc]
theorem infoMem : (Try.prog.info? 70).isSome = true := by kernel_rfl
theorem made_nil (w : World) : Calls Try.prog 39 #[.pointer none] w fun e w' => e = .returned (.bool false) ∧ w = w' := by
  go_enter Try.func39, Try.ntmps39
  go_wp2
  go_ret
  exact ⟨rfl, rfl⟩
theorem made_yes (p : Nat) (w : World) (h : w.cell? ⟨p, 0, none⟩ = some (.pointer (some ⟨p, 0, none⟩))) : Calls Try.prog 39 #[.pointer (some ⟨p, 0, none⟩)] w fun e w' => e = .returned (.bool true) ∧ w = w' := by
  obtain ⟨j, hj⟩ := Option.isSome_iff_exists.1 infoMem
  have heq : ∀ w : World, (binOp .eql 22 (.pointer (some ⟨p, 0, none⟩)) (.pointer (some ⟨p, 0, none⟩))).run Try.prog w = .ok (.bool true) w := fun w => run_eql_ptr_same w _ Try.underlying22 hj
  go_enter Try.func39, Try.ntmps39
  go_wp2
  go_ret
  exact ⟨rfl, rfl⟩

/-! ## decode -/
/-! ## the search over the ends -/
theorem end_any (p ib qb pb ab : Nat) (L : List (Int × Int)) (M : List Int) (a : Int) (k : Nat) (w : World) (h : IsMem w p ib qb L M) (hp : w.cell? ⟨pb, 0, none⟩ = some (.pointer (some ⟨p, 0, none⟩))) (ha : w.cell? ⟨ab, 0, none⟩ = some (.int .u64 a)) (hk : k < L.length) :
    Calls Try.prog 53 #[.int .i64 k, .pointer (some ⟨pb, 0, none⟩), .pointer (some ⟨ab, 0, none⟩)] w fun e w' => e = .returned (.bool (decide (a ≤ (at_ L k).1 + (at_ L k).2 - 1))) ∧ ∃ n, w' = w.drewN n := by
  have hq := partCells_at ib 0 L k hk
  have hc := (cellK h.prt (k * 3 + 1)).trans hq.2.1
  have ho := (cellK h.obj 2)
  have hn := h.n16
  simp at ho
  clear h hq
  have hkz : (k : Int) < (L.length : Int) := by omega
  generalize (at_ L k).1 + (at_ L k).2 - 1 = y at hc ⊢
  go_enter Try.func53, Try.ntmps53
  go_wp2
  go_quiet (fail)
  go_wp2
  go_ret
  exact ⟨rfl, _, rfl⟩

/-! ## sort.Search -/
/-- a search for the first place at which p holds, p once true staying so: any closure that answers p and turns nothing -/
theorem search_any (g : Nat) (cb : Array Value) (n : Nat) (q : Nat → Bool) (w : World) (eg : ∀ args w, (callFunc g args).run Try.prog w = .ok (.enter g args) w) (hsz : n < 4611686018427387904)
    (hf : ∀ (m i : Nat), i < n → Calls Try.prog g (#[.int .i64 i] ++ cb) (w.drewN m) fun e w' => e = .returned (.bool (q i)) ∧ ∃ k, w' = (w.drewN m).drewN k)
    (hmono : ∀ a b, a ≤ b → b < n → q a = true → q b = true) :
    Calls Try.prog 52 #[.int .i64 n, .func (.func g) #[] cb] w fun e w' => ∃ r : Nat, e = .returned (.int .i64 r) ∧ (r ≤ n ∧ (∀ t, t < r → q t = false) ∧ (r < n → q r = true)) ∧ ∃ k, w' = w.drewN k := by
  have HF : Aside _ := hf
  have HM : Aside _ := hmono
  clear hf hmono
  go_enter Try.func52, Try.ntmps52
  go_wp2
  go_loopg [5, 6] n (fun kx s5 s6 wr => ∃ (lo hi m : Nat), s5 = .int .i64 lo ∧ s6 = .int .i64 hi ∧ lo ≤ hi ∧ hi ≤ n ∧ hi - lo ≤ kx ∧ wr = w.drewN m ∧
    Aside ((∀ t, t < lo → q t = false) ∧ (∀ t, hi ≤ t → t < n → q t = true)))
  case atStart => exact ⟨0, n, 0, rfl, rfl, Nat.zero_le _, Nat.le_refl _, by omega, rfl, (⟨fun t ht => absurd ht (Nat.not_lt_zero _), fun t h1 h2 => by omega⟩ : (∀ t, t < 0 → q t = false) ∧ (∀ t, n ≤ t → t < n → q t = true))⟩
  case round =>
    obtain ⟨lo, hi, m, rfl, rfl, hlh, hin, hg, rfl, I⟩ := hrel
    by_cases hlt : lo < hi
    · have hc := HF.out m ((lo + hi) / 2) (by omega)
      rw [show (((lo + hi) / 2 : Nat) : Int) = ((lo : Int) + (hi : Int)) / 2 by omega] at hc
      cases hp : q ((lo + hi) / 2) <;> rw [hp] at hc
      · have HP : Aside (q ((lo + hi) / 2) = false) := hp
        clear hp
        go_wp2_with (go_at_fn g; refine hc.mono ?_; rintro e w' ⟨rfl, nq, rfl⟩)
        go_roundg (hi - ((lo + hi) / 2 + 1))
        case measure => omega
        case rel =>
          have I2 : Aside ((∀ t, t < (lo + hi) / 2 + 1 → q t = false) ∧ (∀ t, hi ≤ t → t < n → q t = true)) := ⟨fun t ht => (by
            cases h : q t with
            | false => rfl
            | true => have := HM.out t ((lo + hi) / 2) (by omega) (by omega) h; rw [HP.out] at this; cases this), I.out.2⟩
          exact ⟨(lo + hi) / 2 + 1, hi, m + nq, by rw [show ((lo : Int) + (hi : Int)) / 2 + 1 = (((lo + hi) / 2 + 1 : Nat) : Int) by omega], rfl, by omega, hin, Nat.le_refl _, rfl, I2⟩
      · have HP : Aside (q ((lo + hi) / 2) = true) := hp
        clear hp
        go_wp2_with (go_at_fn g; refine hc.mono ?_; rintro e w' ⟨rfl, nq, rfl⟩)
        go_roundg ((lo + hi) / 2 - lo)
        case measure => omega
        case rel =>
          have I2 : Aside ((∀ t, t < lo → q t = false) ∧ (∀ t, (lo + hi) / 2 ≤ t → t < n → q t = true)) := ⟨I.out.1, fun t ht htn => HM.out ((lo + hi) / 2) t ht htn HP.out⟩
          exact ⟨lo, (lo + hi) / 2, m + nq, rfl, by rw [show ((lo : Int) + (hi : Int)) / 2 = (((lo + hi) / 2 : Nat) : Int) by omega], by omega, by omega, Nat.le_refl _, rfl, I2⟩
    · obtain rfl : hi = lo := by omega
      go_wp2
      go_ret
      exact ⟨hi, rfl, ⟨hin, I.out.1, fun h => I.out.2 hi (Nat.le_refl _) h⟩, m, rfl⟩
end Go.Proofs.Yteolnghnlfeakaa
