/- Package seg's assemble: its deferred check of sums. Conditions: as each theorem names them. -/
import Derived.Test.YteolnghnlfeakaaPg8
import Derived.Test.YteolnghnlfeakaaPg7
import Derived.Defers
import Derived.Deep.RegionHeld3
namespace Go.Proofs.Yteolnghnlfeakaa
open Go.ChangeShapes Go.WideShapes Go.ChangeAt Go.RowKit
set_option linter.unusedVariables false
set_option maxRecDepth 100000

abbrev StA (w : World) (bb lb : Nat) (x v : Value) (W : World) : Prop := Below w.heap.size w W ∧ W.cell? ⟨bb, 0, none⟩ = some x ∧ W.cell? ⟨lb, 0, none⟩ = some v
theorem StA.keep {w : World} {bb lb : Nat} {x v : Value} {W W' : World} (hb : bb < w.heap.size) (hl : lb < w.heap.size) (h : StA w bb lb x v W) (hc : Below W.heap.size W W') : StA w bb lb x v W' :=
  ⟨below_then h.1 hc, (hc.cell (p := ⟨bb, 0, none⟩) (Nat.lt_of_lt_of_le hb h.1.size)).trans h.2.1, (hc.cell (p := ⟨lb, 0, none⟩) (Nat.lt_of_lt_of_le hl h.1.size)).trans h.2.2⟩
theorem StA.below {w : World} {bb lb : Nat} {x v : Value} {W : World} (h : StA w bb lb x v W) : Below w.heap.size w W := h.1

set_option maxHeartbeats 1000000 in
theorem passm1_ok (bb lb eb : Nat) (xa : Option Addr) (n xc : Nat) (v : Value) (L : List Sg) (u : FrameMode) (w : World) (h1 : w.cell? ⟨bb, 0, none⟩ = some (.slice xa n xc)) (h2 : w.cell? ⟨lb, 0, none⟩ = some v) (hv : SegsAt w v L) (hu : isSgs L) (hl : L.length ≤ 1000) (hbb : bb < w.heap.size) (hlb : lb < w.heap.size) (hn : n ≤ 8589934592) (heq : (n : Int) = sumS L) :
    CallsD Try.prog 55 #[.pointer (some ⟨bb, 0, none⟩), .pointer (some ⟨lb, 0, none⟩), .pointer (some ⟨eb, 0, none⟩)] u w fun e u' w' => u' = u ∧ (e = .returned (.tuple #[]) ∧ Below w.heap.size w w') := by
  have HS := hid_mk (fun u (h : Below w.heap.size w u) => psum v L u (hv.below h) hu hl)
  have HQ := hid_mk (show StA w bb lb (.slice xa n xc) v w.drew from ⟨(Below.refl _ _).drew, h1, h2⟩)
  have hw : IntKind.u64.wrap (n : Int) = (n : Int) := by rw [IntKind.wrap_u64]; omega
  obtain ⟨va, vc, rfl⟩ := hv.len
  rw [← heq] at HS
  have hne : ((n : Int) != (n : Int)) = false := by simp
  clear hv hu hl heq
  go_enter_d Try.func55, Try.ntmps55
  go_wp2_with fail
  go_region_held3 (fun W => Below w.heap.size w W ∧ W.cell? ⟨bb, 0, none⟩ = some (.slice xa n xc) ∧ W.cell? ⟨lb, 0, none⟩ = some (.slice va L.length vc)) (first | exact HQ.out | exact StA.keep hbb hlb (by assumption) (by assumption))
    (first | (go_at_call 38; refine (HS.out _ (StA.below (by assumption))).mono ?_; rintro e w' ⟨rfl, hb⟩))
  have hz : StA w bb lb (.slice xa n xc) (.slice va L.length vc) w' := by
    first | assumption | exact StA.keep hbb hlb (by assumption) (by assumption)
  have HZ := hid_mk hz.1
  clear hz
  go_wp2
  go_end0
  exact ⟨rfl, HZ.out⟩

set_option maxHeartbeats 1000000 in
theorem passm1_bad (bb lb eb : Nat) (xa : Option Addr) (n xc : Nat) (v : Value) (L : List Sg) (u : FrameMode) (w : World) (h1 : w.cell? ⟨bb, 0, none⟩ = some (.slice xa n xc)) (h2 : w.cell? ⟨lb, 0, none⟩ = some v) (h3 : w.cell? ⟨eb, 0, none⟩ = some (.int .i64 0)) (hf1 : w.frozen? ⟨bb, 0, none⟩ = false) (hf3 : w.frozen? ⟨eb, 0, none⟩ = false) (hv : SegsAt w v L) (hu : isSgs L) (hl : L.length ≤ 1000) (hbb : bb < w.heap.size) (hlb : lb < w.heap.size) (heb : eb < w.heap.size) (hbe : bb ≠ eb) (hn : n ≤ 8589934592) (heq : (n : Int) ≠ sumS L) :
    CallsD Try.prog 55 #[.pointer (some ⟨bb, 0, none⟩), .pointer (some ⟨lb, 0, none⟩), .pointer (some ⟨eb, 0, none⟩)] u w fun e u' w' => u' = u ∧ (e = .returned (.tuple #[]) ∧ (w'.cell? ⟨bb, 0, none⟩ = some (.slice none 0 0) ∧ w'.cell? ⟨eb, 0, none⟩ = some (.int .i64 5)) ∧ Chg (fun k => k = bb ∨ k = eb) w w') := by
  have HS := hid_mk (fun u (h : Below w.heap.size w u) => psum v L u (hv.below h) hu hl)
  have HQ := hid_mk (show StA w bb lb (.slice xa n xc) v w.drew from ⟨(Below.refl _ _).drew, h1, h2⟩)
  have hw : IntKind.u64.wrap (n : Int) = (n : Int) := by rw [IntKind.wrap_u64]; omega
  obtain ⟨va, vc, rfl⟩ := hv.len
  have hne : ((n : Int) != sumS L) = true := by simp; exact heq
  clear hv hu hl heq
  go_enter_d Try.func55, Try.ntmps55
  go_wp2_with fail
  go_region_held3 (fun W => Below w.heap.size w W ∧ W.cell? ⟨bb, 0, none⟩ = some (.slice xa n xc) ∧ W.cell? ⟨lb, 0, none⟩ = some (.slice va L.length vc)) (first | exact HQ.out | exact StA.keep hbb hlb (by assumption) (by assumption))
    (first | (go_at_call 38; refine (HS.out _ (StA.below (by assumption))).mono ?_; rintro e w' ⟨rfl, hb⟩))
  have hz : StA w bb lb (.slice xa n xc) (.slice va L.length vc) w' := by
    first | assumption | exact StA.keep hbb hlb (by assumption) (by assumption)
  have HZ := hid_mk hz.1
  have k1 := hz.2.1
  have k3 := (hz.1.cell (p := ⟨eb, 0, none⟩) heb).trans h3
  have m1 := (hz.1.frozen (p := ⟨bb, 0, none⟩) hbb).trans hf1
  have m3 := (hz.1.frozen (p := ⟨eb, 0, none⟩) heb).trans hf3
  clear hz h1 h2 h3 hf1 hf3
  go_wp2
  go_end0
  have hA : (⟨eb, 0, none⟩ : Addr) ≠ ⟨bb, 0, none⟩ := fun e => hbe (by cases e; rfl)
  have hB : (⟨bb, 0, none⟩ : Addr) ≠ ⟨eb, 0, none⟩ := fun e => hbe (by cases e; rfl)
  refine ⟨rfl, ⟨?_, ?_⟩, ((Chg.of_below HZ.out).setR (Or.inl (Or.inl rfl)) _).setR (Or.inl (Or.inr rfl)) _⟩
  · rw [World.cell?_setCell_other _ _ _ _ hA]
    exact World.cell?_setCell_same _ _ _ k1
  · refine World.cell?_setCell_same _ _ _ (u := .int .i64 0) ?_
    rw [World.cell?_setCell_other _ _ _ _ hB]
    exact k3
end Go.Proofs.Yteolnghnlfeakaa
