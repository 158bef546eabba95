/- The reference of layer 3: Read, ReadPacked; words and flags. Conditions: as each theorem names them. -/
import Derived.Test.YtfjccpalkdmniaaRd1
import Derived.Test.YtfjccpalkdmniaaDsc5
namespace Go.Proofs.Ytfjccpalkdmniaa
open Go.ChangeShapes Go.WideShapes Go.ChangeAt Go.RowKit
set_option linter.unusedVariables false
set_option maxRecDepth 100000

theorem rdread_at (b o c : Nat) (l : List Int) (w : World) (hB : isBytes l) (hl : l.length = 16) (hb : b < w.heap.size) (hc : ∀ j, j < 16 → w.cell? ⟨b, o + j, none⟩ = some (.int .u8 (l.getD j 0))) :
    Calls Try.prog 40 #[.slice (some ⟨b, o, none⟩) 16 c] w fun e w' => e = .returned (.tuple #[dV (dR l), .int .i64 0]) ∧ Below w.heap.size w w' := by
  have hg := fun (u : World) (hu : Below w.heap.size w u) (k n : Nat) (hk : k + n ≤ 16) (h8 : n ≤ 8) (h1 : 1 ≤ n) => rget_any b o c 16 l k n u hl (fun j hj => (hu.cell (p := ⟨b, o + j, none⟩) hb).trans (hc j (by omega))) hB (by omega) h8 h1 (by omega)
  have h0 := fun u hu => hg u hu 0 8 (by omega) (by omega) (by omega)
  have h8 := fun u hu => hg u hu 8 4 (by omega) (by omega) (by omega)
  have h12 := fun u hu => hg u hu 12 2 (by omega) (by omega) (by omega)
  have h14 := fun u hu => hg u hu 14 2 (by omega) (by omega) (by omega)
  have H0 := hid_mk h0
  have H8 := hid_mk h8
  have H12 := hid_mk h12
  have H14 := hid_mk h14
  have hd := dR_is hB hl
  obtain ⟨l0, l1⟩ := hd.l
  obtain ⟨f0, f1⟩ := hd.f
  obtain ⟨n0, n1⟩ := hd.n
  have hBz : ∀ o, Below w.heap.size w (w.alloc o) := fun o => (Below.refl _ _).alloc (Nat.le_refl _) _
  have HBz := hid_mk hBz
  have e0 : (dR l).a = le ((l.drop 0).take 8) := rfl
  have e1 : (dR l).l = le ((l.drop 8).take 4) := rfl
  have e2 : (dR l).f = le ((l.drop 12).take 2) := rfl
  have e3 : (dR l).n = le ((l.drop 14).take 2) := rfl
  have hdv : dV (dR l) = .agg #[.int .u64 (le ((l.drop 0).take 8)), .int .u32 (le ((l.drop 8).take 4)), .int .u16 (le ((l.drop 12).take 2)), .int .u16 (le ((l.drop 14).take 2))] := rfl
  rw [hdv]
  rw [e1] at l0 l1
  rw [e2] at f0 f1
  rw [e3] at n0 n1
  clear hg h0 h8 h12 h14 hd hc hB hl hBz e0 e1 e2 e3 hdv
  generalize le ((l.drop 0).take 8) = x0 at *
  generalize le ((l.drop 8).take 4) = x1 at *
  generalize le ((l.drop 12).take 2) = x2 at *
  generalize le ((l.drop 14).take 2) = x3 at *
  go_enter Try.func40, Try.ntmps40
  go_wp2_with fail
  refine (H0.out _ (HBz.out _)).mono ?_
  rintro e w1 ⟨rfl, rfl⟩
  go_wp2_with fail
  refine (H8.out _ (HBz.out _)).mono ?_
  rintro e w1 ⟨rfl, rfl⟩
  go_wp2_with fail
  refine (H12.out _ (HBz.out _)).mono ?_
  rintro e w1 ⟨rfl, rfl⟩
  go_wp2_with fail
  refine (H14.out _ (HBz.out _)).mono ?_
  rintro e w1 ⟨rfl, rfl⟩
  go_wp2_with fail
  exact bodyPost_ret (v := .tuple #[.agg #[.int .u64 x0, .int .u32 x1, .int .u16 x2, .int .u16 x3], .int .i64 0]) (by simp [results, Try.results40, go_sem]) rfl ⟨rfl, (by repeat (first | exact Below.refl _ _ | (refine Below.alloc ?_ (by first | (simp; done) | (simp; omega)) _) | (refine Below.setCell ?_ (by first | (simp; done) | (simp; omega)) _)))⟩
theorem rdread_no (v : Value) (l : List Int) (w : World) (hv : BytesAt w v l) (hl : l.length ≠ 16) (hm : l.length ≤ 281474976710656) :
    Calls Try.prog 40 #[v] w fun e w' => e = .returned (.tuple #[dV ⟨0, 0, 0, 0⟩, .int .i64 4]) ∧ Below w.heap.size w w' := by
  have hlen : ∃ a c, v = .slice a l.length c := by
    rcases hv with ⟨⟨a, c, rfl, _⟩, rfl⟩ | ⟨b, o, c, rfl, _⟩
    · exact ⟨a, c, rfl⟩
    · exact ⟨_, c, rfl⟩
  obtain ⟨a, c, rfl⟩ := hlen
  have hz : ((l.length : Int) != 16) = true := by simp; omega
  clear hv hl
  go_enter Try.func40, Try.ntmps40
  go_wp2_with fail
  exact bodyPost_ret (v := .tuple #[dV ⟨0, 0, 0, 0⟩, .int .i64 4]) (by simp [results, Try.results40, go_sem]) rfl ⟨rfl, (by repeat (first | exact Below.refl _ _ | (refine Below.alloc ?_ (by first | (simp; done) | (simp; omega)) _) | (refine Below.setCell ?_ (by first | (simp; done) | (simp; omega)) _)))⟩
theorem rdread_any (v : Value) (l : List Int) (w : World) (hv : BytesAt w v l) (hB : isBytes l) (hm : l.length ≤ 281474976710656) :
    Calls Try.prog 40 #[v] w fun e w' => e = .returned (.tuple #[dV (rdD l), .int .i64 (rdE l)]) ∧ Below w.heap.size w w' := by
  by_cases h : l.length = 16
  · rw [(rd_yes h).1, (rd_yes h).2]
    rcases hv with ⟨_, rfl⟩ | ⟨b, o, c, rfl, h1, h2, h3⟩
    · simp at h
    · rw [h] at h3 ⊢
      exact rdread_at b o c l w hB h h1 h3
  · rw [(rd_no h).1, (rd_no h).2]
    exact rdread_no v l w hv h hm
theorem rpread_at (b o c : Nat) (l : List Int) (w : World) (hB : isBytes l) (hl : l.length = 16) (hb : b < w.heap.size) (hc : ∀ j, j < 16 → w.cell? ⟨b, o + j, none⟩ = some (.int .u8 (l.getD j 0))) :
    Calls Try.prog 41 #[.slice (some ⟨b, o, none⟩) 16 c] w fun e w' => e = .returned (.tuple #[dV (dR l), .int .i64 0]) ∧ Below w.heap.size w w' := by
  have hg := fun (u : World) (hu : Below w.heap.size w u) (k n : Nat) (hk : k + n ≤ 16) (h8 : n ≤ 8) (h1 : 1 ≤ n) => rget_any b o c 16 l k n u hl (fun j hj => (hu.cell (p := ⟨b, o + j, none⟩) hb).trans (hc j (by omega))) hB (by omega) h8 h1 (by omega)
  have h0 := fun u hu => hg u hu 0 8 (by omega) (by omega) (by omega)
  have h8 := fun u hu => hg u hu 8 4 (by omega) (by omega) (by omega)
  have h12 := fun u hu => hg u hu 12 2 (by omega) (by omega) (by omega)
  have h14 := fun u hu => hg u hu 14 2 (by omega) (by omega) (by omega)
  have H0 := hid_mk h0
  have H8 := hid_mk h8
  have H12 := hid_mk h12
  have H14 := hid_mk h14
  have hd := dR_is hB hl
  obtain ⟨l0, l1⟩ := hd.l
  obtain ⟨f0, f1⟩ := hd.f
  obtain ⟨n0, n1⟩ := hd.n
  have hBz : ∀ o, Below w.heap.size w (w.alloc o) := fun o => (Below.refl _ _).alloc (Nat.le_refl _) _
  have HBz := hid_mk hBz
  have e0 : (dR l).a = le ((l.drop 0).take 8) := rfl
  have e1 : (dR l).l = le ((l.drop 8).take 4) := rfl
  have e2 : (dR l).f = le ((l.drop 12).take 2) := rfl
  have e3 : (dR l).n = le ((l.drop 14).take 2) := rfl
  have hdv : dV (dR l) = .agg #[.int .u64 (le ((l.drop 0).take 8)), .int .u32 (le ((l.drop 8).take 4)), .int .u16 (le ((l.drop 12).take 2)), .int .u16 (le ((l.drop 14).take 2))] := rfl
  rw [hdv]
  rw [e1] at l0 l1
  rw [e2] at f0 f1
  rw [e3] at n0 n1
  clear hg h0 h8 h12 h14 hd hc hB hl hBz e0 e1 e2 e3 hdv
  generalize le ((l.drop 0).take 8) = x0 at *
  generalize le ((l.drop 8).take 4) = x1 at *
  generalize le ((l.drop 12).take 2) = x2 at *
  generalize le ((l.drop 14).take 2) = x3 at *
  go_enter Try.func41, Try.ntmps41
  go_wp2_with fail
  refine (H0.out _ (HBz.out _)).mono ?_
  rintro e w1 ⟨rfl, rfl⟩
  go_wp2_with fail
  refine (H8.out _ (HBz.out _)).mono ?_
  rintro e w1 ⟨rfl, rfl⟩
  go_wp2_with fail
  refine (H12.out _ (HBz.out _)).mono ?_
  rintro e w1 ⟨rfl, rfl⟩
  go_wp2_with fail
  refine (H14.out _ (HBz.out _)).mono ?_
  rintro e w1 ⟨rfl, rfl⟩
  go_wp2_with fail
  exact bodyPost_ret (v := .tuple #[.agg #[.int .u64 x0, .int .u32 x1, .int .u16 x2, .int .u16 x3], .int .i64 0]) (by simp [results, Try.results41, go_sem]) rfl ⟨rfl, (by repeat (first | exact Below.refl _ _ | (refine Below.alloc ?_ (by first | (simp; done) | (simp; omega)) _) | (refine Below.setCell ?_ (by first | (simp; done) | (simp; omega)) _)))⟩
theorem rpread_no (v : Value) (l : List Int) (w : World) (hv : BytesAt w v l) (hl : l.length ≠ 16) (hm : l.length ≤ 281474976710656) :
    Calls Try.prog 41 #[v] w fun e w' => e = .returned (.tuple #[dV ⟨0, 0, 0, 0⟩, .int .i64 4]) ∧ Below w.heap.size w w' := by
  have hlen : ∃ a c, v = .slice a l.length c := by
    rcases hv with ⟨⟨a, c, rfl, _⟩, rfl⟩ | ⟨b, o, c, rfl, _⟩
    · exact ⟨a, c, rfl⟩
    · exact ⟨_, c, rfl⟩
  obtain ⟨a, c, rfl⟩ := hlen
  have hz : ((l.length : Int) != 16) = true := by simp; omega
  clear hv hl
  go_enter Try.func41, Try.ntmps41
  go_wp2_with fail
  exact bodyPost_ret (v := .tuple #[dV ⟨0, 0, 0, 0⟩, .int .i64 4]) (by simp [results, Try.results41, go_sem]) rfl ⟨rfl, (by repeat (first | exact Below.refl _ _ | (refine Below.alloc ?_ (by first | (simp; done) | (simp; omega)) _) | (refine Below.setCell ?_ (by first | (simp; done) | (simp; omega)) _)))⟩
theorem rpread_any (v : Value) (l : List Int) (w : World) (hv : BytesAt w v l) (hB : isBytes l) (hm : l.length ≤ 281474976710656) :
    Calls Try.prog 41 #[v] w fun e w' => e = .returned (.tuple #[dV (rdD l), .int .i64 (rdE l)]) ∧ Below w.heap.size w w' := by
  by_cases h : l.length = 16
  · rw [(rd_yes h).1, (rd_yes h).2]
    rcases hv with ⟨_, rfl⟩ | ⟨b, o, c, rfl, h1, h2, h3⟩
    · simp at h
    · rw [h] at h3 ⊢
      exact rpread_at b o c l w hB h h1 h3
  · rw [(rd_no h).1, (rd_no h).2]
    exact rpread_no v l w hv h hm

/-! ## words -/
theorem rusedWord_any (i l : Int) (w : World) (hi : 0 ≤ i ∧ i < 4294967296) (hl : 0 ≤ l ∧ l < 4294967296) :
    Calls Try.prog 52 #[.agg #[.int .u32 i, .int .u32 l]] w fun e w' => e = .returned (.int .u64 (i + 4294967296 * l)) ∧ Below w.heap.size w w' := by
  obtain ⟨i0, i1⟩ := hi
  obtain ⟨l0, l1⟩ := hl
  have hs : IntKind.u64.wrap (l * 2 ^ 32) = 4294967296 * l := by
    rw [IntKind.wrap_u64, show (2 : Int) ^ 32 = 4294967296 from by decide]
    omega
  have hs2 : IntKind.u64.wrap (l * 4294967296) = 4294967296 * l := by
    rw [IntKind.wrap_u64]
    omega
  have hs3 : IntKind.u64.wrap (i + 4294967296 * l) = i + 4294967296 * l := by
    rw [IntKind.wrap_u64]
    omega
  go_enter Try.func52, Try.ntmps52
  go_wp2_with fail
  go_ret
  exact ⟨rfl, by repeat (first | exact Below.refl _ _ | (refine Below.alloc ?_ (by first | (simp; done) | (simp; omega)) _))⟩
theorem reventWord_any (i l : Int) (w : World) (hi : 0 ≤ i ∧ i < 65536) (hl : 0 ≤ l ∧ l < 65536) :
    Calls Try.prog 53 #[.agg #[.int .u16 i, .int .u16 l]] w fun e w' => e = .returned (.int .u64 (i + 65536 * l)) ∧ Below w.heap.size w w' := by
  obtain ⟨i0, i1⟩ := hi
  obtain ⟨l0, l1⟩ := hl
  have hs : IntKind.u64.wrap (l * 2 ^ 16) = 65536 * l := by
    rw [IntKind.wrap_u64, show (2 : Int) ^ 16 = 65536 from by decide]
    omega
  have hs2 : IntKind.u64.wrap (l * 65536) = 65536 * l := by
    rw [IntKind.wrap_u64]
    omega
  have hs3 : IntKind.u64.wrap (i + 65536 * l) = i + 65536 * l := by
    rw [IntKind.wrap_u64]
    omega
  go_enter Try.func53, Try.ntmps53
  go_wp2_with fail
  go_ret
  exact ⟨rfl, by repeat (first | exact Below.refl _ _ | (refine Below.alloc ?_ (by first | (simp; done) | (simp; omega)) _))⟩
theorem rreadUsed_any (x : Int) (w : World) (hx : 0 ≤ x ∧ x < 18446744073709551616) :
    Calls Try.prog 44 #[.int .u64 x] w fun e w' => e = .returned (.agg #[.int .u32 (x % 4294967296), .int .u32 (x / 4294967296)]) ∧ Below w.heap.size w w' := by
  obtain ⟨x0, x1⟩ := hx
  have hq : x / 2 ^ 32 = x / 4294967296 := by rw [show (2 : Int) ^ 32 = 4294967296 from by decide]
  have ht : x.tmod 4294967296 = x % 4294967296 := Int.tmod_eq_emod_of_nonneg x0
  have h1 : IntKind.u32.wrap (x % 4294967296) = x % 4294967296 := by rw [IntKind.wrap_u32]; omega
  have h2 : IntKind.u32.wrap (x / 4294967296) = x / 4294967296 := by
    rw [IntKind.wrap_u32]
    omega
  go_enter Try.func44, Try.ntmps44
  go_wp2_with fail
  exact bodyPost_ret (v := .agg #[.int .u32 (x % 4294967296), .int .u32 (x / 4294967296)]) (by simp [results, Try.results44, go_sem]) rfl ⟨rfl, (by repeat (first | exact Below.refl _ _ | (refine Below.alloc ?_ (by first | (simp; done) | (simp; omega)) _) | (refine Below.setCell ?_ (by first | (simp; done) | (simp; omega)) _)))⟩
theorem rreadEvent_any (x : Int) (w : World) (hx : 0 ≤ x ∧ x < 18446744073709551616) :
    Calls Try.prog 45 #[.int .u64 x] w fun e w' => e = .returned (.agg #[.int .u16 (x % 65536), .int .u16 (x / 65536 % 65536)]) ∧ Below w.heap.size w w' := by
  obtain ⟨x0, x1⟩ := hx
  have hq : x / 2 ^ 16 = x / 65536 := by rw [show (2 : Int) ^ 16 = 65536 from by decide]
  have ht : x.tmod 65536 = x % 65536 := Int.tmod_eq_emod_of_nonneg x0
  have ht2 : (x / 65536).tmod 65536 = x / 65536 % 65536 := Int.tmod_eq_emod_of_nonneg (by omega)
  have h1 : IntKind.u16.wrap (x % 65536) = x % 65536 := by rw [IntKind.wrap_u16]; omega
  have h2 : IntKind.u16.wrap (x / 65536 % 65536) = x / 65536 % 65536 := by rw [IntKind.wrap_u16]; omega
  go_enter Try.func45, Try.ntmps45
  go_wp2_with fail
  exact bodyPost_ret (v := .agg #[.int .u16 (x % 65536), .int .u16 (x / 65536 % 65536)]) (by simp [results, Try.results45, go_sem]) rfl ⟨rfl, (by repeat (first | exact Below.refl _ _ | (refine Below.alloc ?_ (by first | (simp; done) | (simp; omega)) _) | (refine Below.setCell ?_ (by first | (simp; done) | (simp; omega)) _)))⟩
end Go.Proofs.Ytfjccpalkdmniaa
