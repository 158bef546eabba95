/- Dsc1 Dsc2 Dsc3: joined texts. Conditions: as each theorem names them. -/
import Derived.Test.YtfhhgcgbgmilcaaKp05
import Derived.Deep.MidRow
/- Contracts of desc: the words of a code: set and get. Conditions: as each theorem names them. -/
namespace Go.Proofs.Ytfhhgcgbgmilcaa
open Go.ChangeShapes Go.WideShapes Go.ChangeAt Go.RowKit
set_option linter.unusedVariables false
set_option maxRecDepth 100000

theorem drewN_setCell (w : World) (m : Nat) (a : Addr) (v : Value) : (w.drewN m).setCell a v = (w.setCell a v).drewN m := rfl
theorem chg_dn {S : Nat → Prop} {a w : World} (h : Chg S a w) (n : Nat) : Chg S a (w.drewN n) := ⟨h.os, h.tape, h.output, h.size, h.block⟩

set_option maxHeartbeats 1000000 in
theorem get_any (b : Nat) (t : TypeId) (k n : Nat) (M : List Int) (w : World) (hg : w.heap[b]? = some (.cells (bv M) t (0, 0))) (hM : M.length = 16) (hB : isBytes M) (hk : k + n ≤ 16) (h8 : n ≤ 8) :
    Calls Try.prog 104 #[.pointer (some ⟨b, 0, none⟩), .int .i64 k, .int .i64 n] w fun e w' => e = .returned (.int .u64 (le ((M.drop k).take n))) ∧ w = w' := by
  have HG := hid_mk hg
  have hlen : ((M.drop k).take n).length = n := by simp; omega
  have HB := hid_mk (isBytes_take (isBytes_drop hB k) n)
  have HL := hid_mk hlen
  have HC := hid_mk (fun (j : Nat) (hj : j < n) => show M.getD (k + j) 0 = ((M.drop k).take n).getD j 0 by
    simp only [List.getD_eq_getElem?_getD, List.getElem?_take, List.getElem?_drop]
    rw [if_pos hj])
  generalize (M.drop k).take n = l at *
  clear hg hlen hB
  go_enter Try.func104, Try.ntmps104
  go_wp2
  go_loop [7, 8, 10] (fun x _ i => ∃ j : Nat, j ≤ n ∧ i = .int .i64 j ∧ x = .int .u64 (le (l.take j))) (fun _ _ i => n - (intOf i).toNat)
  case atStart => exact ⟨0, Nat.zero_le _, rfl, rfl⟩
  case round =>
    obtain ⟨j, hj, rfl, rfl⟩ := hrel
    by_cases hlt : j < n
    · have hcell := cellB HG.out (k + j) (by omega)
      rw [HC.out j hlt] at hcell
      have hi1 : ((k : Int) + (j : Int)) < 16 := by omega
      have hst := le_step l HB.out j (by rw [HL.out]; exact hlt) (by rw [HL.out]; exact h8)
      rw [show min (8 * j) 64 = 8 * j by omega] at hst
      have HST := hid_mk hst
      clear hst
      have hb := isBytes_at HB.out j
      generalize l.getD j 0 = y at *
      go_wp2_with fail
      go_round
      case rel => exact ⟨j + 1, by omega, by go_num, by rw [HST.out]⟩
      case measure => simp [intOf] <;> omega
    · obtain rfl : j = n := by omega
      go_wp2_with fail
      go_ret
      refine ⟨ret_eq ?_, rfl⟩
      rw [List.take_of_length_le (by rw [HL.out]; exact Nat.le_refl _)]
      rfl
end Go.Proofs.Ytfhhgcgbgmilcaa

/- Contracts of desc: descriptors in a code, and the bytes of one. Conditions: as each theorem names them. -/
namespace Go.Proofs.Ytfhhgcgbgmilcaa
open Go.ChangeShapes Go.WideShapes Go.ChangeAt Go.RowKit
set_option linter.unusedVariables false
set_option maxRecDepth 100000

/-- the four words of a descriptor, packed or not -/
structure Dsc where
  a : Int
  l : Int
  f : Int
  n : Int
structure isDsc (d : Dsc) : Prop where
  a : 0 ≤ d.a ∧ d.a < 18446744073709551616
  l : 0 ≤ d.l ∧ d.l < 4294967296
  f : 0 ≤ d.f ∧ d.f < 65536
  n : 0 ≤ d.n ∧ d.n < 65536
def dB (d : Dsc) : List Int := leB 8 d.a ++ (leB 4 d.l ++ (leB 2 d.f ++ leB 2 d.n))
theorem dB_length (d : Dsc) : (dB d).length = 16 := by simp [dB, leB_length]
theorem dB_bytes (d : Dsc) : isBytes (dB d) := isBytes_append (leB_bytes _ _) (isBytes_append (leB_bytes _ _) (isBytes_append (leB_bytes _ _) (leB_bytes _ _)))
abbrev dV (d : Dsc) : Value := .agg #[.int .u64 d.a, .int .u32 d.l, .int .u16 d.f, .int .u16 d.n]
abbrev dC (d : Dsc) : List Value := [.int .u64 d.a, .int .u32 d.l, .int .u16 d.f, .int .u16 d.n]
/-- the block of a code holds these bytes -/
abbrev Row (w : World) (b : Nat) (t : TypeId) (M : List Int) : Prop := w.heap[b]? = some (.cells (bv M) t (0, 0))

end Go.Proofs.Ytfhhgcgbgmilcaa

/- Contracts of desc: a descriptor out of a code; Bytes, PackedBytes, Read, ReadPacked. Conditions: as each theorem names them. -/
namespace Go.Proofs.Ytfhhgcgbgmilcaa
open Go.ChangeShapes Go.WideShapes Go.ChangeAt Go.RowKit
set_option linter.unusedVariables false
set_option maxRecDepth 100000

/-- the descriptor with these bytes -/
def dR (M : List Int) : Dsc := ⟨le ((M.drop 0).take 8), le ((M.drop 8).take 4), le ((M.drop 12).take 2), le ((M.drop 14).take 2)⟩
theorem le_part {M : List Int} (hB : isBytes M) (hM : M.length = 16) (k n : Nat) (hk : k + n ≤ 16) : 0 ≤ le ((M.drop k).take n) ∧ le ((M.drop k).take n) < pow2 (8 * n) := by
  have hb := isBytes_take (isBytes_drop hB k) n
  have hl : ((M.drop k).take n).length = n := by simp; omega
  have h1 := le_hi hb
  rw [hl] at h1
  exact ⟨le_lo hb, h1⟩
theorem dR_is {M : List Int} (hB : isBytes M) (hM : M.length = 16) : isDsc (dR M) :=
  ⟨le_part hB hM 0 8 (by omega), le_part hB hM 8 4 (by omega), le_part hB hM 12 2 (by omega), le_part hB hM 14 2 (by omega)⟩

theorem addr_any (b : Nat) (t : TypeId) (M : List Int) (w : World) (hg : Row w b t M) (hM : M.length = 16) (hB : isBytes M) :
    Calls Try.prog 101 #[.pointer (some ⟨b, 0, none⟩)] w fun e w' => e = .returned (.int .u64 (dR M).a) ∧ w = w' := by
  have h1 := get_any b t 0 8 M w hg hM hB (by omega) (by omega)
  unfold dR
  clear hg hM hB
  go_enter Try.func101, Try.ntmps101
  go_wp2_with fail
  refine h1.mono ?_
  rintro e w1 ⟨rfl, rfl⟩
  go_wp2_with fail
  go_ret
  exact ⟨rfl, rfl⟩
theorem length_any (b : Nat) (t : TypeId) (M : List Int) (w : World) (hg : Row w b t M) (hM : M.length = 16) (hB : isBytes M) :
    Calls Try.prog 102 #[.pointer (some ⟨b, 0, none⟩)] w fun e w' => e = .returned (.int .u32 (dR M).l) ∧ w = w' := by
  have h1 := get_any b t 8 4 M w hg hM hB (by omega) (by omega)
  obtain ⟨g0, g1⟩ := le_part hB hM 8 4 (by omega)
  have g2 : le ((M.drop 8).take 4) < 4294967296 := g1
  unfold dR
  simp only
  generalize le ((M.drop 8).take 4) = x at *
  clear hg hM hB g1
  go_enter Try.func102, Try.ntmps102
  go_wp2_with fail
  refine h1.mono ?_
  rintro e w1 ⟨rfl, rfl⟩
  go_wp2_with fail
  go_ret
  exact ⟨rfl, rfl⟩
theorem short_any (b : Nat) (t : TypeId) (k : Nat) (M : List Int) (w : World) (hg : Row w b t M) (hM : M.length = 16) (hB : isBytes M) (hk : k ≤ 14) :
    Calls Try.prog 103 #[.pointer (some ⟨b, 0, none⟩), .int .i64 k] w fun e w' => e = .returned (.int .u16 (le ((M.drop k).take 2))) ∧ w = w' := by
  have h1 := get_any b t k 2 M w hg hM hB (by omega) (by omega)
  obtain ⟨g0, g1⟩ := le_part hB hM k 2 (by omega)
  have g2 : le ((M.drop k).take 2) < 65536 := g1
  generalize le ((M.drop k).take 2) = x at *
  clear hg hM hB g1
  go_enter Try.func103, Try.ntmps103
  go_wp2_with fail
  refine h1.mono ?_
  rintro e w1 ⟨rfl, rfl⟩
  go_wp2_with fail
  go_ret
  exact ⟨rfl, rfl⟩

theorem desc_any (b : Nat) (t : TypeId) (M : List Int) (w : World) (hg : Row w b t M) (hM : M.length = 16) (hB : isBytes M) :
    Calls Try.prog 98 #[.pointer (some ⟨b, 0, none⟩)] w fun e w' => e = .returned (dV (dR M)) ∧ Below w.heap.size w w' := by
  have ha := fun (u : World) (h : Row u b t M) => addr_any b t M u h hM hB
  have hl := fun (u : World) (h : Row u b t M) => length_any b t M u h hM hB
  have h12 := fun (u : World) (h : Row u b t M) => short_any b t 12 M u h hM hB (by omega)
  have h14 := fun (u : World) (h : Row u b t M) => short_any b t 14 M u h hM hB (by omega)
  have hk : ∀ o, Row (w.alloc o) b t M := fun o => keepB ((Below.refl _ _).alloc (Nat.le_refl _) _) hg
  have HA := hid_mk ha
  have HL := hid_mk hl
  have H12 := hid_mk h12
  have H14 := hid_mk h14
  have HK := hid_mk hk
  have hd : dV (dR M) = .agg #[.int .u64 (dR M).a, .int .u32 (dR M).l, .int .u16 (le ((M.drop 12).take 2)), .int .u16 (le ((M.drop 14).take 2))] := rfl
  rw [hd]
  clear ha hl h12 h14 hg hM hB hk hd
  go_enter Try.func98, Try.ntmps98
  go_wp2_with fail
  refine (HA.out _ (HK.out _)).mono ?_
  rintro e w1 ⟨rfl, rfl⟩
  go_wp2_with fail
  refine (HL.out _ (HK.out _)).mono ?_
  rintro e w1 ⟨rfl, rfl⟩
  go_wp2_with fail
  refine (H12.out _ (HK.out _)).mono ?_
  rintro e w1 ⟨rfl, rfl⟩
  go_wp2_with fail
  refine (H14.out _ (HK.out _)).mono ?_
  rintro e w1 ⟨rfl, rfl⟩
  go_wp2_with fail
  exact bodyPost_ret (v := .agg #[.int .u64 (dR M).a, .int .u32 (dR M).l, .int .u16 (le ((M.drop 12).take 2)), .int .u16 (le ((M.drop 14).take 2))]) (by simp [results, Try.results98, go_sem]) rfl ⟨rfl, (by repeat (first | exact Below.refl _ _ | (refine Below.alloc ?_ (by first | (simp; done) | (simp; omega)) _) | (refine Below.setCell ?_ (by first | (simp; done) | (simp; omega)) _)))⟩

theorem packed_any (b : Nat) (t : TypeId) (M : List Int) (w : World) (hg : Row w b t M) (hM : M.length = 16) (hB : isBytes M) :
    Calls Try.prog 96 #[.pointer (some ⟨b, 0, none⟩)] w fun e w' => e = .returned (dV (dR M)) ∧ Below w.heap.size w w' := by
  have ha := fun (u : World) (h : Row u b t M) => addr_any b t M u h hM hB
  have hl := fun (u : World) (h : Row u b t M) => length_any b t M u h hM hB
  have h12 := fun (u : World) (h : Row u b t M) => short_any b t 12 M u h hM hB (by omega)
  have h14 := fun (u : World) (h : Row u b t M) => short_any b t 14 M u h hM hB (by omega)
  have hk : ∀ o, Row (w.alloc o) b t M := fun o => keepB ((Below.refl _ _).alloc (Nat.le_refl _) _) hg
  have HA := hid_mk ha
  have HL := hid_mk hl
  have H12 := hid_mk h12
  have H14 := hid_mk h14
  have HK := hid_mk hk
  have hd : dV (dR M) = .agg #[.int .u64 (dR M).a, .int .u32 (dR M).l, .int .u16 (le ((M.drop 12).take 2)), .int .u16 (le ((M.drop 14).take 2))] := rfl
  rw [hd]
  clear ha hl h12 h14 hg hM hB hk hd
  go_enter Try.func96, Try.ntmps96
  go_wp2_with fail
  refine (HA.out _ (HK.out _)).mono ?_
  rintro e w1 ⟨rfl, rfl⟩
  go_wp2_with fail
  refine (HL.out _ (HK.out _)).mono ?_
  rintro e w1 ⟨rfl, rfl⟩
  go_wp2_with fail
  refine (H12.out _ (HK.out _)).mono ?_
  rintro e w1 ⟨rfl, rfl⟩
  go_wp2_with fail
  refine (H14.out _ (HK.out _)).mono ?_
  rintro e w1 ⟨rfl, rfl⟩
  go_wp2_with fail
  exact bodyPost_ret (v := .agg #[.int .u64 (dR M).a, .int .u32 (dR M).l, .int .u16 (le ((M.drop 12).take 2)), .int .u16 (le ((M.drop 14).take 2))]) (by simp [results, Try.results96, go_sem]) rfl ⟨rfl, (by repeat (first | exact Below.refl _ _ | (refine Below.alloc ?_ (by first | (simp; done) | (simp; omega)) _) | (refine Below.setCell ?_ (by first | (simp; done) | (simp; omega)) _)))⟩
end Go.Proofs.Ytfhhgcgbgmilcaa
