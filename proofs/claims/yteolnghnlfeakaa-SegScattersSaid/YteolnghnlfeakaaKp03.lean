/- Gm1 Gm2: joined texts. Conditions: as each theorem names them. -/
import Derived.Test.YteolnghnlfeakaaKp02
import Derived.Test.YteolnghnlfeakaaRows
import Derived.WalkKit
import Derived.ProofKit
import Derived.OpenShut
import Derived.Below
import Derived.Deep.DeepCutAuto
import Derived.Outline
import Derived.Shelf.Abstract
import Derived.LaidEqlPtr
import Derived.Deep.QuietTactic
import Derived.BigQuiet
/- Contracts of package gmem's small functions. Conditions: as each theorem names them. -/
namespace Go.Proofs.Yteolnghnlfeakaa
open Go.ChangeShapes Go.WideShapes Go.ChangeAt Go.RowKit
set_option linter.unusedVariables false

/-- the memory's own block -/
abbrev memCells (p ib qb n k : Nat) : List Value := [.pointer (some ⟨p, 0, none⟩), .slice (some ⟨ib, 0, none⟩) n n, .slice (some ⟨qb, 0, none⟩) k k]
/-- the regions, as the memory keeps them -/
def partCells (ib : Nat) : Nat → List (Int × Int) → List Value
  | _, [] => []
  | o, r :: l => .int .u64 r.1 :: .int .u64 (r.1 + r.2 - 1) :: .slice (some ⟨ib, o, none⟩) r.2.toNat r.2.toNat :: partCells ib (o + r.2.toNat) l
theorem partCells_length (ib : Nat) : ∀ (o : Nat) (l : List (Int × Int)), (partCells ib o l).length = 3 * l.length
  | _, [] => rfl
  | o, r :: l => by
    simp only [partCells, List.length_cons, partCells_length ib _ l]
    omega
theorem partCells_at (ib : Nat) : ∀ (o : Nat) (l : List (Int × Int)) (i : Nat), i < l.length → (partCells ib o l)[i * 3]? = some (.int .u64 (at_ l i).1) ∧ (partCells ib o l)[i * 3 + 1]? = some (.int .u64 ((at_ l i).1 + (at_ l i).2 - 1)) ∧ (partCells ib o l)[i * 3 + 2]? = some (.slice (some ⟨ib, o + off l i, none⟩) (at_ l i).2.toNat (at_ l i).2.toNat)
  | _, [], i, h => by simp at h
  | o, r :: l, 0, _ => by simp [partCells, at_, off, sumR]
  | o, r :: l, i + 1, h => by
    have := partCells_at ib (o + r.2.toNat) l i (by simpa using h)
    have e : (i + 1) * 3 = i * 3 + 1 + 1 + 1 := by omega
    rw [at_succ, off_succ_cons, ← Nat.add_assoc, e]
    simpa [partCells] using this

/-- A memory with regions L and bytes M: its object p, its image ib, its parts qb. -/
structure IsMem (w : World) (p ib qb : Nat) (L : List (Int × Int)) (M : List Int) : Prop where
  obj : w.heap[p]? = some (.cells (memCells p ib qb M.length L.length).toArray 70 (0, 0))
  img : w.heap[ib]? = some (.cells (M.map (Value.int .u8)).toArray 5 (0, 0))
  prt : w.heap[qb]? = some (.cells (partCells ib 0 L).toArray 73 (0, 0))
  ok : okR (-1) 1048576 L = true
  n16 : L.length ≤ 16
  len : M.length = sumR L
  rng : isBytes M
  ne1 : p ≠ ib
  ne2 : p ≠ qb
  ne3 : ib ≠ qb

theorem IsMem.keep {w w' : World} {p ib qb : Nat} {L : List (Int × Int)} {M : List Int} (h : IsMem w p ib qb L M) {S : Nat → Prop} (hc : Chg S w w') (h1 : ¬ S p) (h2 : ¬ S ib) (h3 : ¬ S qb) : IsMem w' p ib qb L M :=
  ⟨hc.keep h.obj h1, hc.keep h.img h2, hc.keep h.prt h3, h.ok, h.n16, h.len, h.rng, h.ne1, h.ne2, h.ne3⟩
theorem IsMem.below {w w' : World} {p ib qb : Nat} {L : List (Int × Int)} {M : List Int} (h : IsMem w p ib qb L M) (hb : Below w.heap.size w w') : IsMem w' p ib qb L M :=
  h.keep (S := fun _ => False) (Chg.of_below hb) (fun h => h) (fun h => h) (fun h => h)
theorem IsMem.sum {w : World} {p ib qb : Nat} {L : List (Int × Int)} {M : List Int} (h : IsMem w p ib qb L M) : M.length ≤ 1048576 := by
  rw [h.len]
  rcases okR_sum h.ok with h1 | h1
  · omega
  · rw [h1]
    simp [sumR]
theorem IsMem.drewN {w : World} {p ib qb : Nat} {L : List (Int × Int)} {M : List Int} (h : IsMem w p ib qb L M) (n : Nat) : IsMem (w.drewN n) p ib qb L M := h.below (below_drewN w n)

/-! ## last -/
def lastI (a n : Int) : Int := IntKind.u64.wrap (a + IntKind.u64.wrap (n - 1))
theorem lastI_ok {a n : Int} (h0 : 0 ≤ a) (h1 : 1 ≤ n) (h2 : a + n ≤ 18446744073709551616) : lastI a n = a + n - 1 := by
  unfold lastI
  rw [IntKind.wrap_u64, IntKind.wrap_u64]
  omega
theorem last_any (a n : Int) (w : World) :
    Calls Try.prog 37 #[.agg #[.int .u64 a, .int .u64 n]] w fun e w' => e = .returned (.int .u64 (lastI a n)) ∧ Below w.heap.size w w' := by
  go_enter Try.func37, Try.ntmps37
  go_wp2
  go_ret
  exact ⟨rfl, (Below.refl _ _).alloc (Nat.le_refl _) _⟩

/-! ## made -/
theorem drewN_drewN (w : World) (a b : Nat) : (w.drewN a).drewN b = w.drewN (a + b) := by
  show ({ w with drawn := w.drawn + a + b } : World) = { w with drawn := w.drawn + (a + b) }
  rw [Nat.add_assoc]
theorem infoMem : (Try.prog.info? 70).isSome = true := by kernel_rfl
theorem made_nil (w : World) : Calls Try.prog 39 #[.pointer none] w fun e w' => e = .returned (.bool false) ∧ w = w' := by
  go_enter Try.func39, Try.ntmps39
  go_wp2
  go_ret
  exact ⟨rfl, rfl⟩
theorem made_yes (p : Nat) (w : World) (h : w.cell? ⟨p, 0, none⟩ = some (.pointer (some ⟨p, 0, none⟩))) : Calls Try.prog 39 #[.pointer (some ⟨p, 0, none⟩)] w fun e w' => e = .returned (.bool true) ∧ w = w' := by
  obtain ⟨j, hj⟩ := Option.isSome_iff_exists.1 infoMem
  have heq : ∀ w : World, (binOp .eql 22 (.pointer (some ⟨p, 0, none⟩)) (.pointer (some ⟨p, 0, none⟩))).run Try.prog w = .ok (.bool true) w := fun w => run_eql_ptr_same w _ Try.underlying22 hj
  go_enter Try.func39, Try.ntmps39
  go_wp2
  go_ret
  exact ⟨rfl, rfl⟩

/-! ## decode -/
/-! ## the search over the ends -/
theorem end_any (p ib qb pb ab : Nat) (L : List (Int × Int)) (M : List Int) (a : Int) (k : Nat) (w : World) (h : IsMem w p ib qb L M) (hp : w.cell? ⟨pb, 0, none⟩ = some (.pointer (some ⟨p, 0, none⟩))) (ha : w.cell? ⟨ab, 0, none⟩ = some (.int .u64 a)) (hk : k < L.length) :
    Calls Try.prog 53 #[.int .i64 k, .pointer (some ⟨pb, 0, none⟩), .pointer (some ⟨ab, 0, none⟩)] w fun e w' => e = .returned (.bool (decide (a ≤ (at_ L k).1 + (at_ L k).2 - 1))) ∧ ∃ n, w' = w.drewN n := by
  have hq := partCells_at ib 0 L k hk
  have hc := (cellK h.prt (k * 3 + 1)).trans hq.2.1
  have ho := (cellK h.obj 2)
  have hn := h.n16
  simp at ho
  clear h hq
  have hkz : (k : Int) < (L.length : Int) := by omega
  generalize (at_ L k).1 + (at_ L k).2 - 1 = y at hc ⊢
  go_enter Try.func53, Try.ntmps53
  go_wp2
  go_quiet (fail)
  go_wp2
  go_ret
  exact ⟨rfl, _, rfl⟩

/-! ## sort.Search -/
/-- a search for the first place at which p holds, p once true staying so: any closure that answers p and turns nothing -/
theorem search_any (g : Nat) (cb : Array Value) (n : Nat) (q : Nat → Bool) (w : World) (eg : ∀ args w, (callFunc g args).run Try.prog w = .ok (.enter g args) w) (hsz : n < 4611686018427387904)
    (hf : ∀ (m i : Nat), i < n → Calls Try.prog g (#[.int .i64 i] ++ cb) (w.drewN m) fun e w' => e = .returned (.bool (q i)) ∧ ∃ k, w' = (w.drewN m).drewN k)
    (hmono : ∀ a b, a ≤ b → b < n → q a = true → q b = true) :
    Calls Try.prog 52 #[.int .i64 n, .func (.func g) #[] cb] w fun e w' => ∃ r : Nat, e = .returned (.int .i64 r) ∧ (r ≤ n ∧ (∀ t, t < r → q t = false) ∧ (r < n → q r = true)) ∧ ∃ k, w' = w.drewN k := by
  have HF : Aside _ := hf
  have HM : Aside _ := hmono
  clear hf hmono
  go_enter Try.func52, Try.ntmps52
  go_wp2
  go_loopg [5, 6] n (fun kx s5 s6 wr => ∃ (lo hi m : Nat), s5 = .int .i64 lo ∧ s6 = .int .i64 hi ∧ lo ≤ hi ∧ hi ≤ n ∧ hi - lo ≤ kx ∧ wr = w.drewN m ∧
    Aside ((∀ t, t < lo → q t = false) ∧ (∀ t, hi ≤ t → t < n → q t = true)))
  case atStart => exact ⟨0, n, 0, rfl, rfl, Nat.zero_le _, Nat.le_refl _, by omega, rfl, (⟨fun t ht => absurd ht (Nat.not_lt_zero _), fun t h1 h2 => by omega⟩ : (∀ t, t < 0 → q t = false) ∧ (∀ t, n ≤ t → t < n → q t = true))⟩
  case round =>
    obtain ⟨lo, hi, m, rfl, rfl, hlh, hin, hg, rfl, I⟩ := hrel
    by_cases hlt : lo < hi
    · have hc := HF.out m ((lo + hi) / 2) (by omega)
      rw [show (((lo + hi) / 2 : Nat) : Int) = ((lo : Int) + (hi : Int)) / 2 by omega] at hc
      cases hp : q ((lo + hi) / 2) <;> rw [hp] at hc
      · have HP : Aside (q ((lo + hi) / 2) = false) := hp
        clear hp
        go_wp2_with (go_at_fn g; refine hc.mono ?_; rintro e w' ⟨rfl, nq, rfl⟩)
        go_roundg (hi - ((lo + hi) / 2 + 1))
        case measure => omega
        case rel =>
          have I2 : Aside ((∀ t, t < (lo + hi) / 2 + 1 → q t = false) ∧ (∀ t, hi ≤ t → t < n → q t = true)) := ⟨fun t ht => (by
            cases h : q t with
            | false => rfl
            | true => have := HM.out t ((lo + hi) / 2) (by omega) (by omega) h; rw [HP.out] at this; cases this), I.out.2⟩
          exact ⟨(lo + hi) / 2 + 1, hi, m + nq, by rw [show ((lo : Int) + (hi : Int)) / 2 + 1 = (((lo + hi) / 2 + 1 : Nat) : Int) by omega], rfl, by omega, hin, Nat.le_refl _, rfl, I2⟩
      · have HP : Aside (q ((lo + hi) / 2) = true) := hp
        clear hp
        go_wp2_with (go_at_fn g; refine hc.mono ?_; rintro e w' ⟨rfl, nq, rfl⟩)
        go_roundg ((lo + hi) / 2 - lo)
        case measure => omega
        case rel =>
          have I2 : Aside ((∀ t, t < lo → q t = false) ∧ (∀ t, (lo + hi) / 2 ≤ t → t < n → q t = true)) := ⟨I.out.1, fun t ht htn => HM.out ((lo + hi) / 2) t ht htn HP.out⟩
          exact ⟨lo, (lo + hi) / 2, m + nq, rfl, by rw [show ((lo : Int) + (hi : Int)) / 2 = (((lo + hi) / 2 : Nat) : Int) by omega], by omega, by omega, Nat.le_refl _, rfl, I2⟩
    · obtain rfl : hi = lo := by omega
      go_wp2
      go_ret
      exact ⟨hi, rfl, ⟨hin, I.out.1, fun h => I.out.2 hi (Nat.le_refl _) h⟩, m, rfl⟩
end Go.Proofs.Yteolnghnlfeakaa

/- Contracts of gmem's find and of what stands on it. Conditions: as each theorem names them. -/
namespace Go.Proofs.Yteolnghnlfeakaa
open Go.ChangeShapes Go.WideShapes Go.ChangeAt Go.RowKit
set_option linter.unusedVariables false

/-- the bytes that 'find' returns -/
def findV (ib : Nat) (n : Int) : Option Nat → Value
  | none => .slice none 0 0
  | some k => .slice (some ⟨ib, k, none⟩) n.toNat n.toNat

theorem search_ends (p ib qb : Nat) (L : List (Int × Int)) (M : List Int) (a : Int) (pb ab : Nat) (w : World) (h : IsMem w p ib qb L M) (hp : w.cell? ⟨pb, 0, none⟩ = some (.pointer (some ⟨p, 0, none⟩))) (ha : w.cell? ⟨ab, 0, none⟩ = some (.int .u64 a)) :
    Calls Try.prog 52 #[.int .i64 L.length, .func (.func 53) #[] #[.pointer (some ⟨pb, 0, none⟩), .pointer (some ⟨ab, 0, none⟩)]] w fun e w' => ∃ r : Nat, e = .returned (.int .i64 r) ∧ Found L a r ∧ ∃ k, w' = w.drewN k := by
  have h16 := h.n16
  refine (search_any 53 _ L.length (fun i => decide (a ≤ (at_ L i).1 + (at_ L i).2 - 1)) w (enters_of Try.func53 (by kernel_rfl) rfl) (by omega) ?_ ?_).mono ?_
  · intro m i hi
    refine (end_any p ib qb pb ab L M a i (w.drewN m) (h.drewN m) ?_ ?_ hi).mono fun e w' hh => hh
    · exact hp
    · exact ha
  · intro i j hij hj ht
    rcases Nat.eq_or_lt_of_le hij with rfl | hlt
    · exact ht
    · have h1 := okR_mono h.ok hlt hj
      have h2 := okR_at h.ok j hj
      simp only [decide_eq_true_eq] at ht ⊢
      omega
  · rintro e w' ⟨r, he, ⟨h1, h2, h3⟩, hk⟩
    refine ⟨r, he, ⟨h1, fun j hj => ?_, fun hr => ?_⟩, hk⟩
    · have := h2 j hj
      simp only [decide_eq_false_iff_not] at this
      omega
    · have := h3 hr
      simp only [decide_eq_true_eq] at this
      exact this

set_option maxHeartbeats 1000000 in
theorem find_any (p ib qb : Nat) (L : List (Int × Int)) (M : List Int) (a n : Int) (w : World) (h : IsMem w p ib qb L M) (ha : U64 a) (hn : U64 n) :
    Calls Try.prog 40 #[.pointer (some ⟨p, 0, none⟩), .int .u64 a, .int .u64 n] w fun e w' => e = .returned (findV ib n (loc L a n)) ∧ Below w.heap.size w w' := by
  have H : Hid (IsMem w p ib qb L M) := h
  have ho := (cellK h.obj 2)
  simp at ho
  have hpl := lt_blk h.obj
  have hql := lt_blk h.prt
  have hn16 := h.n16
  clear h
  go_enter Try.func40, Try.ntmps40
  go_wp2_with fail
  refine (search_ends p ib qb L M a w.heap.size (w.heap.size + 1) _ (H.out.below (((Below.refl _ _).alloc (Nat.le_refl _) _).alloc (by simp) _)) (by go_simp) (by go_simp)).mono ?_
  rintro e w' ⟨r, rfl, hf, nq, rfl⟩
  have HF : Hid (Found L a r) := hf
  have hrl := hf.le
  clear hf
  have hq := fun hk => partCells_at ib 0 L r hk
  by_cases hr : r = L.length
  · have HL : Hid (loc L a n = none) := by
      have := HF.out
      rw [hr] at this
      exact hid_mk this.nowhere
    have hd : decide ((r : Int) = (L.length : Int)) = true := by simp [hr]
    have hb : ((r : Int) == (L.length : Int)) = true := by simp [hr]
    clear hr hq
    go_wp2_with fail
    go_quiet (fail)
    go_wp2_with fail
    go_ret
    exact ⟨ret_eq (by rw [HL.out]; rfl), by repeat (first | exact Below.refl _ _ | (refine below_dn ?_ _) | (refine Below.alloc ?_ (by first | (simp; done) | (simp; omega)) _))⟩
  · have hlt : r < L.length := by omega
    obtain ⟨g1, g2, g3⟩ := hq hlt
    have c1 := (cellK H.out.prt (r * 3)).trans g1
    have c3 := (cellK H.out.prt (r * 3 + 2)).trans g3
    clear g1 g2 g3 hq
    have hd : decide ((r : Int) = (L.length : Int)) = false := by simp; omega
    have hb : ((r : Int) == (L.length : Int)) = false := by simp; omega
    have hokr := okR_at H.out.ok r hlt
    have hhere := HF.out.here hlt
    by_cases hah : a < (at_ L r).1
    · have HL : Hid (loc L a n = none) := hid_mk (HF.out.ahead H.out.ok hlt hah)
      generalize (at_ L r).1 = x at *
      go_wp2_with fail
      go_quiet (fail)
      go_wp2_with fail
      go_ret
      exact ⟨ret_eq (by rw [HL.out]; rfl), by repeat (first | exact Below.refl _ _ | (refine below_dn ?_ _) | (refine Below.alloc ?_ (by first | (simp; done) | (simp; omega)) _))⟩
    · have hk : (at_ L r).1 ≤ a := by omega
      have hoff : off L r + (at_ L r).2.toNat ≤ sumR L := off_room L r hlt
      have HM : Hid (∀ m : Int, 1 ≤ m → a + m ≤ (at_ L r).1 + (at_ L r).2 → loc L a m = some (off L r + (a - (at_ L r).1).toNat)) := hid_mk fun m h1 h2 => loc_mk H.out.ok hlt hk h2 h1
      have HN : Hid (∀ m : Int, (m < 1 ∨ (at_ L r).1 + (at_ L r).2 < a + m) → loc L a m = none) := hid_mk fun m h => HF.out.short H.out.ok hlt h
      generalize hx : (at_ L r).1 = x at *
      generalize hy : (at_ L r).2 = y at *
      have hw : IntKind.u64.wrap (a - x) = a - x := by rw [IntKind.wrap_u64]; omega
      have hs0 : 0 ≤ a - x := by omega
      obtain ⟨y', rfl⟩ := Int.eq_ofNat_of_zero_le (show 0 ≤ y by omega)
      obtain ⟨k, hkk⟩ := Int.eq_ofNat_of_zero_le hs0
      have hk2 : k < y' := by omega
      clear hx hy hrl
      rw [hkk] at hw
      have hax : a = x + (k : Int) := by omega
      subst hax
      have hd2 : decide (x + (k : Int) < x) = false := by simp; omega
      have hki : (k : Int) ≤ (y' : Int) := by omega
      have hne : ¬ y' = k := by omega
      go_wp2_with fail
      go_quiet (fail)
      go_wp2_with fail
      go_quiet (fail)
      clear hb hd hd2 hw ho c1 c3
      go_wp2_with fail
      · go_ret
        exact ⟨ret_eq (by rw [HN.out _ (Or.inl (by omega))]; rfl), (by repeat (first | exact Below.refl _ _ | (refine below_dn ?_ _) | (refine Below.alloc ?_ (by first | (simp; done) | (simp; omega)) _)))⟩
      · rename_i hz hor
        have hor' : n = 0 ∨ ((y' - k : Nat) : Int) < n := by simpa using hor
        go_ret
        exact ⟨ret_eq (by rw [HN.out n (by omega)]; rfl), (by repeat (first | exact Below.refl _ _ | (refine below_dn ?_ _) | (refine Below.alloc ?_ (by first | (simp; done) | (simp; omega)) _)))⟩
      · rename_i hz hle
        have hle' : n ≤ ((y' - k : Nat) : Int) := hle.2
        go_ret
        refine ⟨ret_eq ?_, (by repeat (first | exact Below.refl _ _ | (refine below_dn ?_ _) | (refine Below.alloc ?_ (by first | (simp; done) | (simp; omega)) _)))⟩
        rw [HM.out n (by omega) (by omega)]
        have e : x + (k : Int) - x = k := by omega
        rw [e]
        simp [findV]
end Go.Proofs.Yteolnghnlfeakaa
