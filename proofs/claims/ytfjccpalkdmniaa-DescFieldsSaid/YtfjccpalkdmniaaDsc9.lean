/- Contracts of desc's ReadTable for any bytes; words of used elements and events. Conditions: as each theorem names them. -/
import Derived.Test.YtfjccpalkdmniaaDsc8
namespace Go.Proofs.Ytfjccpalkdmniaa
open Go.ChangeShapes Go.WideShapes Go.ChangeAt Go.RowKit
set_option linter.unusedVariables false
set_option maxRecDepth 100000

def rtE (l : List Int) : Int := if l.length % 16 = 0 then 0 else 4
def rtD (l : List Int) : List Dsc := if l.length % 16 = 0 then rdT (l.length / 16) l else []

theorem readTable_nil (a : Option Addr) (c : Nat) (w : World) :
    Calls Try.prog 34 #[.slice a 0 c] w fun e w' => e = .returned (.tuple #[.slice (some ⟨w.heap.size, 0, none⟩) 0 0, .int .i64 0]) ∧ Below w.heap.size w w' := by
  have hmk : ∀ u : World, (Instr.makeSlice 63 (.int .i64 0) (.int .i64 0)).run Try.prog u = .ok (.slice (some ⟨u.heap.size, 0, none⟩) 0 0) (u.alloc (.cells (dCs []).toArray 56)) := fun u => makeD u .i64 0 (by omega)
  go_enter Try.func34, Try.ntmps34
  go_wp2_with fail
  go_loopw [5, 6, 17] (fun _ _ i wr => i = .int .i64 0 ∧ wr = w.alloc (.cells (dCs []).toArray 56)) (fun _ _ i _ => 0)
  case atStart => exact ⟨rfl, rfl⟩
  case round =>
    obtain ⟨rfl, rfl⟩ := hrel
    go_wp2_with fail
    go_ret2
    exact ⟨rfl, (Below.refl _ _).alloc (Nat.le_refl _) _⟩
theorem readTable_no (a : Option Addr) (n c : Nat) (w : World) (hn : n % 16 ≠ 0) (hm : n ≤ 100000) :
    Calls Try.prog 34 #[.slice a n c] w fun e w' => e = .returned (.tuple #[.slice none 0 0, .int .i64 4]) ∧ w = w' := by
  have h0 : (0 : Int) ≤ (n : Int) := by omega
  have h1 : (n : Int) ≤ 100000 := by omega
  have h2 : ((n : Int) % 16 != 0) = true := by simp; omega
  have h3 : ((n : Int).tmod 16 != 0) = true := by rw [Int.tmod_eq_emod_of_nonneg h0]; exact h2
  go_enter Try.func34, Try.ntmps34
  go_wp2_with fail
  go_ret2
  exact ⟨rfl, rfl⟩
theorem readTable_any (v : Value) (l : List Int) (w : World) (hv : BytesAt w v l) (hB : isBytes l) (hm : l.length ≤ 5000) :
    Calls Try.prog 34 #[v] w fun e w' => ∃ v', e = .returned (.tuple #[v', .int .i64 (rtE l)]) ∧ DescsAt w' v' (rtD l) ∧ Below w.heap.size w w' := by
  rcases hv with ⟨⟨a, c, rfl, _⟩, rfl⟩ | ⟨b, o, c, rfl, h1, h2, h3⟩
  · refine (readTable_nil a c w).mono ?_
    rintro e w' ⟨rfl, hb⟩
    exact ⟨_, rfl, Or.inl ⟨⟨_, _, rfl, fun h => by cases h⟩, rfl⟩, hb⟩
  · by_cases h : l.length % 16 = 0
    · have hl : l.length = 16 * (l.length / 16) := by omega
      have hE : rtE l = 0 := by simp [rtE, h]
      have hD : rtD l = rdT (l.length / 16) l := by simp [rtD, h]
      rw [hE, hD]
      have hr := readTable_at b o c (l.length / 16) l w hB hl (by omega) h1 (by omega) h3
      rw [← hl] at hr
      refine hr.mono ?_
      rintro e w' ⟨rfl, hd, hb⟩
      exact ⟨_, rfl, hd.descs (rdT_length _ _) (Nat.le_refl _), hb⟩
    · have hE : rtE l = 4 := by simp [rtE, h]
      have hD : rtD l = [] := by simp [rtD, h]
      rw [hE, hD]
      refine (readTable_no (some ⟨b, o, none⟩) l.length c w h (by omega)).mono ?_
      rintro e w' ⟨rfl, rfl⟩
      exact ⟨_, rfl, Or.inl ⟨⟨none, 0, rfl, fun _ => rfl⟩, rfl⟩, Below.refl _ _⟩

/-! ## used elements and events, as words -/
theorem usedWord_any (i l : Int) (w : World) (hi : 0 ≤ i ∧ i < 4294967296) (hl : 0 ≤ l ∧ l < 4294967296) :
    Calls Try.prog 36 #[.agg #[.int .u32 i, .int .u32 l]] w fun e w' => e = .returned (.int .u64 (i + 4294967296 * l)) ∧ Below w.heap.size w w' := by
  obtain ⟨i0, i1⟩ := hi
  obtain ⟨l0, l1⟩ := hl
  have hs : IntKind.u64.wrap (l * 2 ^ 32) = 4294967296 * l := by
    rw [IntKind.wrap_u64, show (2 : Int) ^ 32 = 4294967296 from by decide]
    omega
  have hs2 : IntKind.u64.wrap (l * 4294967296) = 4294967296 * l := by
    rw [IntKind.wrap_u64]
    omega
  have ho : bits .or .u64 i (4294967296 * l) = i + 4294967296 * l := u64_or_above i l 32 (by omega) i0 i1 l0 (show 4294967296 * l < _ by omega)
  go_enter Try.func36, Try.ntmps36
  go_wp2_with fail
  go_ret
  exact ⟨rfl, by repeat (first | exact Below.refl _ _ | (refine Below.alloc ?_ (by first | (simp; done) | (simp; omega)) _))⟩
theorem eventWord_any (i l : Int) (w : World) (hi : 0 ≤ i ∧ i < 65536) (hl : 0 ≤ l ∧ l < 65536) :
    Calls Try.prog 37 #[.agg #[.int .u16 i, .int .u16 l]] w fun e w' => e = .returned (.int .u64 (i + 65536 * l)) ∧ Below w.heap.size w w' := by
  obtain ⟨i0, i1⟩ := hi
  obtain ⟨l0, l1⟩ := hl
  have hs : IntKind.u64.wrap (l * 2 ^ 16) = 65536 * l := by
    rw [IntKind.wrap_u64, show (2 : Int) ^ 16 = 65536 from by decide]
    omega
  have hs2 : IntKind.u64.wrap (l * 65536) = 65536 * l := by
    rw [IntKind.wrap_u64]
    omega
  have ho : bits .or .u64 i (65536 * l) = i + 65536 * l := u64_or_above i l 16 (by omega) i0 i1 l0 (show 65536 * l < _ by omega)
  go_enter Try.func37, Try.ntmps37
  go_wp2_with fail
  go_ret
  exact ⟨rfl, by repeat (first | exact Below.refl _ _ | (refine Below.alloc ?_ (by first | (simp; done) | (simp; omega)) _))⟩
theorem readUsed_any (x : Int) (w : World) (hx : 0 ≤ x ∧ x < 18446744073709551616) :
    Calls Try.prog 50 #[.int .u64 x] w fun e w' => e = .returned (.agg #[.int .u32 (x % 4294967296), .int .u32 (x / 4294967296)]) ∧ Below w.heap.size w w' := by
  obtain ⟨x0, x1⟩ := hx
  have hq : x / 2 ^ 32 = x / 4294967296 := by rw [show (2 : Int) ^ 32 = 4294967296 from by decide]
  have h1 : IntKind.u32.wrap x = x % 4294967296 := by rw [IntKind.wrap_u32]
  have h2 : IntKind.u32.wrap (x / 4294967296) = x / 4294967296 := by
    rw [IntKind.wrap_u32]
    omega
  go_enter Try.func50, Try.ntmps50
  go_wp2_with fail
  exact bodyPost_ret (v := .agg #[.int .u32 (x % 4294967296), .int .u32 (x / 4294967296)]) (by simp [results, Try.results50, go_sem]) rfl ⟨rfl, (by repeat (first | exact Below.refl _ _ | (refine Below.alloc ?_ (by first | (simp; done) | (simp; omega)) _) | (refine Below.setCell ?_ (by first | (simp; done) | (simp; omega)) _)))⟩
theorem readEvent_any (x : Int) (w : World) (hx : 0 ≤ x ∧ x < 18446744073709551616) :
    Calls Try.prog 51 #[.int .u64 x] w fun e w' => e = .returned (.agg #[.int .u16 (x % 65536), .int .u16 (x / 65536 % 65536)]) ∧ Below w.heap.size w w' := by
  obtain ⟨x0, x1⟩ := hx
  have hq : x / 2 ^ 16 = x / 65536 := by rw [show (2 : Int) ^ 16 = 65536 from by decide]
  have h1 : IntKind.u16.wrap x = x % 65536 := by rw [IntKind.wrap_u16]
  have h2 : IntKind.u16.wrap (x / 65536) = x / 65536 % 65536 := by rw [IntKind.wrap_u16]
  go_enter Try.func51, Try.ntmps51
  go_wp2_with fail
  exact bodyPost_ret (v := .agg #[.int .u16 (x % 65536), .int .u16 (x / 65536 % 65536)]) (by simp [results, Try.results51, go_sem]) rfl ⟨rfl, (by repeat (first | exact Below.refl _ _ | (refine Below.alloc ?_ (by first | (simp; done) | (simp; omega)) _) | (refine Below.setCell ?_ (by first | (simp; done) | (simp; omega)) _)))⟩
end Go.Proofs.Ytfjccpalkdmniaa
