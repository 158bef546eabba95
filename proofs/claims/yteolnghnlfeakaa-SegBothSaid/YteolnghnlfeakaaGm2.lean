/- Contracts of gmem's find and of what stands on it. Conditions: as each theorem names them. -/
import Derived.Test.YteolnghnlfeakaaGm1
namespace Go.Proofs.Yteolnghnlfeakaa
open Go.ChangeShapes Go.WideShapes Go.ChangeAt Go.RowKit
set_option linter.unusedVariables false

/-- the bytes that 'find' returns -/
def findV (ib : Nat) (n : Int) : Option Nat → Value
  | none => .slice none 0 0
  | some k => .slice (some ⟨ib, k, none⟩) n.toNat n.toNat

theorem search_ends (p ib qb : Nat) (L : List (Int × Int)) (M : List Int) (a : Int) (pb ab : Nat) (w : World) (h : IsMem w p ib qb L M) (hp : w.cell? ⟨pb, 0, none⟩ = some (.pointer (some ⟨p, 0, none⟩))) (ha : w.cell? ⟨ab, 0, none⟩ = some (.int .u64 a)) :
    Calls Try.prog 52 #[.int .i64 L.length, .func (.func 53) #[] #[.pointer (some ⟨pb, 0, none⟩), .pointer (some ⟨ab, 0, none⟩)]] w fun e w' => ∃ r : Nat, e = .returned (.int .i64 r) ∧ Found L a r ∧ ∃ k, w' = w.drewN k := by
  have h16 := h.n16
  refine (search_any 53 _ L.length (fun i => decide (a ≤ (at_ L i).1 + (at_ L i).2 - 1)) w (enters_of Try.func53 (by kernel_rfl) rfl) (by omega) ?_ ?_).mono ?_
  · intro m i hi
    refine (end_any p ib qb pb ab L M a i (w.drewN m) (h.drewN m) ?_ ?_ hi).mono fun e w' hh => hh
    · exact hp
    · exact ha
  · intro i j hij hj ht
    rcases Nat.eq_or_lt_of_le hij with rfl | hlt
    · exact ht
    · have h1 := okR_mono h.ok hlt hj
      have h2 := okR_at h.ok j hj
      simp only [decide_eq_true_eq] at ht ⊢
      omega
  · rintro e w' ⟨r, he, ⟨h1, h2, h3⟩, hk⟩
    refine ⟨r, he, ⟨h1, fun j hj => ?_, fun hr => ?_⟩, hk⟩
    · have := h2 j hj
      simp only [decide_eq_false_iff_not] at this
      omega
    · have := h3 hr
      simp only [decide_eq_true_eq] at this
      exact this

set_option maxHeartbeats 1000000 in
theorem find_any (p ib qb : Nat) (L : List (Int × Int)) (M : List Int) (a n : Int) (w : World) (h : IsMem w p ib qb L M) (ha : U64 a) (hn : U64 n) :
    Calls Try.prog 40 #[.pointer (some ⟨p, 0, none⟩), .int .u64 a, .int .u64 n] w fun e w' => e = .returned (findV ib n (loc L a n)) ∧ Below w.heap.size w w' := by
  have H : Hid (IsMem w p ib qb L M) := h
  have ho := (cellK h.obj 2)
  simp at ho
  have hpl := lt_blk h.obj
  have hql := lt_blk h.prt
  have hn16 := h.n16
  clear h
  go_enter Try.func40, Try.ntmps40
  go_wp2_with fail
  refine (search_ends p ib qb L M a w.heap.size (w.heap.size + 1) _ (H.out.below (((Below.refl _ _).alloc (Nat.le_refl _) _).alloc (by simp) _)) (by go_simp) (by go_simp)).mono ?_
  rintro e w' ⟨r, rfl, hf, nq, rfl⟩
  have HF : Hid (Found L a r) := hf
  have hrl := hf.le
  clear hf
  have hq := fun hk => partCells_at ib 0 L r hk
  by_cases hr : r = L.length
  · have HL : Hid (loc L a n = none) := by
      have := HF.out
      rw [hr] at this
      exact hid_mk this.nowhere
    have hd : decide ((r : Int) = (L.length : Int)) = true := by simp [hr]
    have hb : ((r : Int) == (L.length : Int)) = true := by simp [hr]
    clear hr hq
    go_wp2_with fail
    go_quiet (fail)
    go_wp2_with fail
    go_ret
    exact ⟨ret_eq (by rw [HL.out]; rfl), by repeat (first | exact Below.refl _ _ | (refine below_dn ?_ _) | (refine Below.alloc ?_ (by first | (simp; done) | (simp; omega)) _))⟩
  · have hlt : r < L.length := by omega
    obtain ⟨g1, g2, g3⟩ := hq hlt
    have c1 := (cellK H.out.prt (r * 3)).trans g1
    have c3 := (cellK H.out.prt (r * 3 + 2)).trans g3
    clear g1 g2 g3 hq
    have hd : decide ((r : Int) = (L.length : Int)) = false := by simp; omega
    have hb : ((r : Int) == (L.length : Int)) = false := by simp; omega
    have hokr := okR_at H.out.ok r hlt
    have hhere := HF.out.here hlt
    by_cases hah : a < (at_ L r).1
    · have HL : Hid (loc L a n = none) := hid_mk (HF.out.ahead H.out.ok hlt hah)
      generalize (at_ L r).1 = x at *
      go_wp2_with fail
      go_quiet (fail)
      go_wp2_with fail
      go_ret
      exact ⟨ret_eq (by rw [HL.out]; rfl), by repeat (first | exact Below.refl _ _ | (refine below_dn ?_ _) | (refine Below.alloc ?_ (by first | (simp; done) | (simp; omega)) _))⟩
    · have hk : (at_ L r).1 ≤ a := by omega
      have hoff : off L r + (at_ L r).2.toNat ≤ sumR L := off_room L r hlt
      have HM : Hid (∀ m : Int, 1 ≤ m → a + m ≤ (at_ L r).1 + (at_ L r).2 → loc L a m = some (off L r + (a - (at_ L r).1).toNat)) := hid_mk fun m h1 h2 => loc_mk H.out.ok hlt hk h2 h1
      have HN : Hid (∀ m : Int, (m < 1 ∨ (at_ L r).1 + (at_ L r).2 < a + m) → loc L a m = none) := hid_mk fun m h => HF.out.short H.out.ok hlt h
      generalize hx : (at_ L r).1 = x at *
      generalize hy : (at_ L r).2 = y at *
      have hw : IntKind.u64.wrap (a - x) = a - x := by rw [IntKind.wrap_u64]; omega
      have hs0 : 0 ≤ a - x := by omega
      obtain ⟨y', rfl⟩ := Int.eq_ofNat_of_zero_le (show 0 ≤ y by omega)
      obtain ⟨k, hkk⟩ := Int.eq_ofNat_of_zero_le hs0
      have hk2 : k < y' := by omega
      clear hx hy hrl
      rw [hkk] at hw
      have hax : a = x + (k : Int) := by omega
      subst hax
      have hd2 : decide (x + (k : Int) < x) = false := by simp; omega
      have hki : (k : Int) ≤ (y' : Int) := by omega
      have hne : ¬ y' = k := by omega
      go_wp2_with fail
      go_quiet (fail)
      go_wp2_with fail
      go_quiet (fail)
      clear hb hd hd2 hw ho c1 c3
      go_wp2_with fail
      · go_ret
        exact ⟨ret_eq (by rw [HN.out _ (Or.inl (by omega))]; rfl), (by repeat (first | exact Below.refl _ _ | (refine below_dn ?_ _) | (refine Below.alloc ?_ (by first | (simp; done) | (simp; omega)) _)))⟩
      · rename_i hz hor
        have hor' : n = 0 ∨ ((y' - k : Nat) : Int) < n := by simpa using hor
        go_ret
        exact ⟨ret_eq (by rw [HN.out n (by omega)]; rfl), (by repeat (first | exact Below.refl _ _ | (refine below_dn ?_ _) | (refine Below.alloc ?_ (by first | (simp; done) | (simp; omega)) _)))⟩
      · rename_i hz hle
        have hle' : n ≤ ((y' - k : Nat) : Int) := hle.2
        go_ret
        refine ⟨ret_eq ?_, (by repeat (first | exact Below.refl _ _ | (refine below_dn ?_ _) | (refine Below.alloc ?_ (by first | (simp; done) | (simp; omega)) _)))⟩
        rw [HM.out n (by omega) (by omega)]
        have e : x + (k : Int) - x = k := by omega
        rw [e]
        simp [findV]
end Go.Proofs.Yteolnghnlfeakaa
