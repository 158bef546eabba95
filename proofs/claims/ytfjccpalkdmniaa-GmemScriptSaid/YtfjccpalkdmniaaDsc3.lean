/- Contracts of desc: a descriptor out of a code; Bytes, PackedBytes, Read, ReadPacked. Conditions: as each theorem names them. -/
import Derived.Test.YtfjccpalkdmniaaDsc2
namespace Go.Proofs.Ytfjccpalkdmniaa
open Go.ChangeShapes Go.WideShapes Go.ChangeAt Go.RowKit
set_option linter.unusedVariables false
set_option maxRecDepth 100000

/-- the descriptor with these bytes -/
def dR (M : List Int) : Dsc := ⟨le ((M.drop 0).take 8), le ((M.drop 8).take 4), le ((M.drop 12).take 2), le ((M.drop 14).take 2)⟩
theorem le_part {M : List Int} (hB : isBytes M) (hM : M.length = 16) (k n : Nat) (hk : k + n ≤ 16) : 0 ≤ le ((M.drop k).take n) ∧ le ((M.drop k).take n) < pow2 (8 * n) := by
  have hb := isBytes_take (isBytes_drop hB k) n
  have hl : ((M.drop k).take n).length = n := by simp; omega
  have h1 := le_hi hb
  rw [hl] at h1
  exact ⟨le_lo hb, h1⟩
theorem dR_is {M : List Int} (hB : isBytes M) (hM : M.length = 16) : isDsc (dR M) :=
  ⟨le_part hB hM 0 8 (by omega), le_part hB hM 8 4 (by omega), le_part hB hM 12 2 (by omega), le_part hB hM 14 2 (by omega)⟩

theorem addr_any (b : Nat) (t : TypeId) (M : List Int) (w : World) (hg : Row w b t M) (hM : M.length = 16) (hB : isBytes M) :
    Calls Try.prog 80 #[.pointer (some ⟨b, 0, none⟩)] w fun e w' => e = .returned (.int .u64 (dR M).a) ∧ w = w' := by
  have h1 := get_any b t 0 8 M w hg hM hB (by omega) (by omega)
  unfold dR
  clear hg hM hB
  go_enter Try.func80, Try.ntmps80
  go_wp2_with fail
  refine h1.mono ?_
  rintro e w1 ⟨rfl, rfl⟩
  go_wp2_with fail
  go_ret
  exact ⟨rfl, rfl⟩
theorem length_any (b : Nat) (t : TypeId) (M : List Int) (w : World) (hg : Row w b t M) (hM : M.length = 16) (hB : isBytes M) :
    Calls Try.prog 81 #[.pointer (some ⟨b, 0, none⟩)] w fun e w' => e = .returned (.int .u32 (dR M).l) ∧ w = w' := by
  have h1 := get_any b t 8 4 M w hg hM hB (by omega) (by omega)
  obtain ⟨g0, g1⟩ := le_part hB hM 8 4 (by omega)
  have g2 : le ((M.drop 8).take 4) < 4294967296 := g1
  unfold dR
  simp only
  generalize le ((M.drop 8).take 4) = x at *
  clear hg hM hB g1
  go_enter Try.func81, Try.ntmps81
  go_wp2_with fail
  refine h1.mono ?_
  rintro e w1 ⟨rfl, rfl⟩
  go_wp2_with fail
  go_ret
  exact ⟨rfl, rfl⟩
theorem short_any (b : Nat) (t : TypeId) (k : Nat) (M : List Int) (w : World) (hg : Row w b t M) (hM : M.length = 16) (hB : isBytes M) (hk : k ≤ 14) :
    Calls Try.prog 82 #[.pointer (some ⟨b, 0, none⟩), .int .i64 k] w fun e w' => e = .returned (.int .u16 (le ((M.drop k).take 2))) ∧ w = w' := by
  have h1 := get_any b t k 2 M w hg hM hB (by omega) (by omega)
  obtain ⟨g0, g1⟩ := le_part hB hM k 2 (by omega)
  have g2 : le ((M.drop k).take 2) < 65536 := g1
  generalize le ((M.drop k).take 2) = x at *
  clear hg hM hB g1
  go_enter Try.func82, Try.ntmps82
  go_wp2_with fail
  refine h1.mono ?_
  rintro e w1 ⟨rfl, rfl⟩
  go_wp2_with fail
  go_ret
  exact ⟨rfl, rfl⟩

theorem desc_any (b : Nat) (t : TypeId) (M : List Int) (w : World) (hg : Row w b t M) (hM : M.length = 16) (hB : isBytes M) :
    Calls Try.prog 70 #[.pointer (some ⟨b, 0, none⟩)] w fun e w' => e = .returned (dV (dR M)) ∧ Below w.heap.size w w' := by
  have ha := fun (u : World) (h : Row u b t M) => addr_any b t M u h hM hB
  have hl := fun (u : World) (h : Row u b t M) => length_any b t M u h hM hB
  have h12 := fun (u : World) (h : Row u b t M) => short_any b t 12 M u h hM hB (by omega)
  have h14 := fun (u : World) (h : Row u b t M) => short_any b t 14 M u h hM hB (by omega)
  have hk : ∀ o, Row (w.alloc o) b t M := fun o => keepB ((Below.refl _ _).alloc (Nat.le_refl _) _) hg
  have HA := hid_mk ha
  have HL := hid_mk hl
  have H12 := hid_mk h12
  have H14 := hid_mk h14
  have HK := hid_mk hk
  have hd : dV (dR M) = .agg #[.int .u64 (dR M).a, .int .u32 (dR M).l, .int .u16 (le ((M.drop 12).take 2)), .int .u16 (le ((M.drop 14).take 2))] := rfl
  rw [hd]
  clear ha hl h12 h14 hg hM hB hk hd
  go_enter Try.func70, Try.ntmps70
  go_wp2_with fail
  refine (HA.out _ (HK.out _)).mono ?_
  rintro e w1 ⟨rfl, rfl⟩
  go_wp2_with fail
  refine (HL.out _ (HK.out _)).mono ?_
  rintro e w1 ⟨rfl, rfl⟩
  go_wp2_with fail
  refine (H12.out _ (HK.out _)).mono ?_
  rintro e w1 ⟨rfl, rfl⟩
  go_wp2_with fail
  refine (H14.out _ (HK.out _)).mono ?_
  rintro e w1 ⟨rfl, rfl⟩
  go_wp2_with fail
  exact bodyPost_ret (v := .agg #[.int .u64 (dR M).a, .int .u32 (dR M).l, .int .u16 (le ((M.drop 12).take 2)), .int .u16 (le ((M.drop 14).take 2))]) (by simp [results, Try.results70, go_sem]) rfl ⟨rfl, (by repeat (first | exact Below.refl _ _ | (refine Below.alloc ?_ (by first | (simp; done) | (simp; omega)) _) | (refine Below.setCell ?_ (by first | (simp; done) | (simp; omega)) _)))⟩

theorem packed_any (b : Nat) (t : TypeId) (M : List Int) (w : World) (hg : Row w b t M) (hM : M.length = 16) (hB : isBytes M) :
    Calls Try.prog 71 #[.pointer (some ⟨b, 0, none⟩)] w fun e w' => e = .returned (dV (dR M)) ∧ Below w.heap.size w w' := by
  have ha := fun (u : World) (h : Row u b t M) => addr_any b t M u h hM hB
  have hl := fun (u : World) (h : Row u b t M) => length_any b t M u h hM hB
  have h12 := fun (u : World) (h : Row u b t M) => short_any b t 12 M u h hM hB (by omega)
  have h14 := fun (u : World) (h : Row u b t M) => short_any b t 14 M u h hM hB (by omega)
  have hk : ∀ o, Row (w.alloc o) b t M := fun o => keepB ((Below.refl _ _).alloc (Nat.le_refl _) _) hg
  have HA := hid_mk ha
  have HL := hid_mk hl
  have H12 := hid_mk h12
  have H14 := hid_mk h14
  have HK := hid_mk hk
  have hd : dV (dR M) = .agg #[.int .u64 (dR M).a, .int .u32 (dR M).l, .int .u16 (le ((M.drop 12).take 2)), .int .u16 (le ((M.drop 14).take 2))] := rfl
  rw [hd]
  clear ha hl h12 h14 hg hM hB hk hd
  go_enter Try.func71, Try.ntmps71
  go_wp2_with fail
  refine (HA.out _ (HK.out _)).mono ?_
  rintro e w1 ⟨rfl, rfl⟩
  go_wp2_with fail
  refine (HL.out _ (HK.out _)).mono ?_
  rintro e w1 ⟨rfl, rfl⟩
  go_wp2_with fail
  refine (H12.out _ (HK.out _)).mono ?_
  rintro e w1 ⟨rfl, rfl⟩
  go_wp2_with fail
  refine (H14.out _ (HK.out _)).mono ?_
  rintro e w1 ⟨rfl, rfl⟩
  go_wp2_with fail
  exact bodyPost_ret (v := .agg #[.int .u64 (dR M).a, .int .u32 (dR M).l, .int .u16 (le ((M.drop 12).take 2)), .int .u16 (le ((M.drop 14).take 2))]) (by simp [results, Try.results71, go_sem]) rfl ⟨rfl, (by repeat (first | exact Below.refl _ _ | (refine Below.alloc ?_ (by first | (simp; done) | (simp; omega)) _) | (refine Below.setCell ?_ (by first | (simp; done) | (simp; omega)) _)))⟩
end Go.Proofs.Ytfjccpalkdmniaa
