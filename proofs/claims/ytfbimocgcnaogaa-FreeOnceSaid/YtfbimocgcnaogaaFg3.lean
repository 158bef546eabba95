/- Package free's join, marks. Conditions: as each theorem names them. -/
import Derived.Test.YtfbimocgcnaogaaFg2
import Derived.Test.YtfbimocgcnaogaaFe4
import Derived.Test.YtfbimocgcnaogaaFq
namespace Go.Proofs.Ytfbimocgcnaogaa
open Go.ChangeShapes Go.WideShapes Go.ChangeAt Go.RowKit
set_option linter.unusedVariables false
set_option maxRecDepth 100000

/-- two lists joined: a row of the call's own, or nothing -/
def JnZ (B : Nat) (w : World) (x : Value) (M : List Int) : Prop := OwnZ B w x M ∨ (M = [] ∧ ∃ a, x = .slice a 0 0)
theorem JnZ.k {B B2 : Nat} {w : World} {x : Value} {M : List Int} (h : JnZ B w x M) : IntsK B2 w x M := by
  rcases h with h | ⟨rfl, a, rfl⟩
  · exact h.k
  · exact ⟨Or.inl ⟨⟨_, _, rfl, fun _ => rfl⟩, rfl⟩, fun a n c e hn => by cases e; omega⟩
theorem JnZ.from {w w' : World} {x : Value} {M : List Int} (h : JnZ w.heap.size w' x M) (us : List Value) : From w x us := by
  rcases h with h | ⟨rfl, a, rfl⟩
  · exact h.from us
  · exact fun a n c e hn => by cases e; omega
theorem JnZ.below {B : Nat} {w w' : World} {x : Value} {M : List Int} (h : JnZ B w x M) (hb : Below w.heap.size w w') : JnZ B w' x M := by
  rcases h with h | h
  · exact Or.inl (h.below hb)
  · exact Or.inr h
theorem JnZ.mono {B B2 : Nat} {w : World} {x : Value} {M : List Int} (h : JnZ B w x M) (hB : B2 ≤ B) : JnZ B2 w x M := by
  rcases h with h | h
  · exact Or.inl (h.mono hB)
  · exact Or.inr h
theorem JnZ.len {B : Nat} {w : World} {x : Value} {M : List Int} (h : JnZ B w x M) : ∃ a c, x = .slice a M.length c := (h.k (B2 := 0)).len
/-- no room, no elements -/
theorem slice00 {w : World} {v : Value} {L : List Int} (hv : IntsZ w v L) : ∃ a, ∀ u, (Instr.sliceAt 22 v none (some (.int .i64 0)) (some (.int .i64 0))).run Try.prog u = .ok (.slice a 0 0) u := by
  rcases hv with ⟨⟨va, vc, rfl, hac⟩, rfl⟩ | ⟨b, o, c, rfl, hb1, hb2, hb3⟩
  · cases va with
    | none =>
      obtain rfl := hac rfl
      exact ⟨none, fun u => by simp [go_sem]⟩
    | some a => exact ⟨some a, fun u => by simp [go_sem]⟩
  · exact ⟨some ⟨b, o, none⟩, fun u => by simp [go_sem]⟩
theorem app_jn {w : World} {a : Option Addr} {u : Value} {M : List Int} (hu : IntsZ w u M) (hl : M.length ≤ 1000000) :
    ∃ v' w', (∀ ty, (Builtin.append_ #[22, 22] ty #[.slice a 0 0, u]).run Try.prog w = .ok v' w') ∧ JnZ w.heap.size w' v' M ∧ Below w.heap.size w w' := by
  obtain ⟨v', w', h1, h2, h3⟩ := app_full (w := w) (a := a) (c := 0) (L := []) (Or.inl ⟨⟨_, _, rfl, fun h => rfl⟩, rfl⟩) rfl hu (by simp; omega)
  refine ⟨v', w', h1, ?_, h2⟩
  rcases h3 with ⟨rfl, rfl, rfl⟩ | ⟨_, h3⟩
  · exact Or.inr ⟨rfl, a, rfl⟩
  · exact Or.inl h3
theorem app_jn2 {B : Nat} {w : World} {v u : Value} {F M : List Int} (hv : JnZ B w v F) (hB : B ≤ w.heap.size) (hu : IntsZ w u M) (hl : F.length + M.length ≤ 1000000) :
    ∃ v' w', (∀ ty, (Builtin.append_ #[22, 22] ty #[v, u]).run Try.prog w = .ok v' w') ∧ JnZ B w' v' (F ++ M) ∧ Below B w w' := by
  rcases hv with hv | ⟨rfl, a, rfl⟩
  · obtain ⟨v', w', h1, h2, h3⟩ := app_own hv hu hB (by omega)
    refine ⟨v', w', h1, Or.inl h2, grown_below h3 hB (fun k hk => ?_)⟩
    rcases hv.2 with ⟨rfl, _⟩ | ⟨g, cap, cur, rfl, hg, _⟩
    · cases hk
    · simp [Value.ownBlock] at hk
      omega
  · obtain ⟨v', w', h1, h2, h3⟩ := app_jn (a := a) hu (by simp at hl; omega)
    exact ⟨v', w', h1, h2.mono hB, h3.mono hB⟩

set_option maxHeartbeats 1000000 in
theorem pjoin (v u : Value) (F T : List Int) (w : World) (hv : IntsZ w v F) (hu : IntsZ w u T) (hl : F.length + T.length ≤ 1000000) :
    Calls Try.prog 23 #[v, u] w fun e w' => ∃ x, e = .returned x ∧ JnZ w.heap.size w' x (F ++ T) ∧ Below w.heap.size w w' := by
  obtain ⟨a, hs⟩ := slice00 hv
  obtain ⟨v1, w1, h1, j1, b1⟩ := app_jn (a := a) hv (by omega)
  obtain ⟨v2, w2, h2, j2, b2⟩ := app_jn2 j1 b1.size (hu.below b1) hl
  have HR1 := hid_mk h1
  have HR2 := hid_mk h2
  have HJ := hid_mk j2
  have HB := hid_mk (b1.trans b2)
  obtain ⟨va, vc, rfl⟩ := hv.len
  obtain ⟨ua, uc, rfl⟩ := hu.len
  obtain ⟨xa, xc, rfl⟩ := j1.len
  obtain ⟨ya, yc, rfl⟩ := j2.len
  rw [List.length_append] at HJ
  clear h1 h2 j1 j2 b1 b2 hv hu
  go_enter Try.func23, Try.ntmps23
  go_wp2_with (first
    | (at_builtin; refine wpList_append_run (v := .slice a 0 0) (u := .slice va F.length vc) (v' := .slice xa F.length xc) (w' := w1) rfl _ _ 22 rfl (by first | rfl | go_simp) (by first | rfl | go_simp) (HR1.out _) ?_)
    | (at_builtin; refine wpList_append_run (v := .slice xa F.length xc) (u := .slice ua T.length uc) (v' := .slice ya (F ++ T).length yc) (w' := w2) rfl _ _ 22 rfl (by first | rfl | go_simp) (by first | rfl | go_simp) (HR2.out _) ?_))
  go_ret
  exact ⟨_, rfl, HJ.out, HB.out⟩

/-! ### marks -/
theorem rowU64 : (Try.prog.info? 51).map (fun i => (i.zero, i.size, i.bytes)) = some (some (.int .u64 0), 1, 8) := by kernel_rfl
/-- a new bitmap -/
theorem makeBm (w : World) (K : Nat) (h : K ≤ 1000) :
    (Instr.makeSlice 44 (.int .i64 (K : Int)) (.int .i64 (K : Int))).run Try.prog w = .ok (.slice (some ⟨w.heap.size, 0, none⟩) K K) (w.alloc (.cells (wordsV (List.replicate K 0)).toArray 51)) := by
  obtain ⟨i0, hi, hz0, hz1, hz2⟩ := info_parts rowU64
  have hr := run_make (P := Try.prog) w 44 51 i0 (.int .u64 0) Try.underlying44 hi hz0 .i64 .i64 K K (by omega) (Int.le_refl _) (by rw [hz2]; omega) (by omega)
  rw [hr]
  simp only [Int.toNat_natCast, hz1, Nat.mul_one]
  congr 3
  apply Array.ext'
  rw [show (Value.int IntKind.u64 0).cells = #[.int .u64 0] from rfl, toList_madeCells_one]
  simp [wordsV]
theorem bm_new (w : World) (K : Nat) : Bm (w.alloc (.cells (wordsV (List.replicate K 0)).toArray 51)) w.heap.size K (fun x => inB [] (x : Int)) := by
  refine ⟨List.replicate K 0, by simp, fun x hx => ?_, blk_new w _ _, fun x hx => ?_⟩
  · rw [List.eq_of_mem_replicate hx]
    decide
  · have : (List.replicate K 0).getD (x / 64) 0 = 0 := by
      rw [List.getD_eq_getElem?_getD]
      cases e : (List.replicate K 0)[x / 64]? with
      | none => rfl
      | some y => rw [List.eq_of_mem_replicate (List.mem_of_getElem? e)]; rfl
    rw [this]
    simp [inB]
theorem chkL_marks {S : Int} {L : List Int} : chkL S L = (decide (1 ≤ S) && decide (S ≤ 32768) && rngT S L L.length && freshT [] L L.length) := by
  rw [Bool.eq_iff_iff, chkL_iff]
  simp only [Bool.and_eq_true, decide_eq_true_eq]
  rw [rngT_iff, freshT_iff (Nat.le_refl _), List.take_length]
  constructor
  · rintro ⟨h1, h2, h3, h4⟩
    exact ⟨⟨h1, h3⟩, fun x _ => by simp, h4⟩
  · rintro ⟨⟨h1, h3⟩, _, h4⟩
    refine ⟨h1, ?_, h3, h4⟩
    rcases range_len h3 h4 with h | h
    · exact h
    · rw [h]
      simp
      omega
/-- what marks leaves of a list that may be -/
def BmOf (w w' : World) (S : Int) (L : List Int) (x : Value) : Prop := ∃ b : Nat, x = .slice (some ⟨b, 0, none⟩) ((S.toNat + 63) / 64) ((S.toNat + 63) / 64) ∧ w.heap.size ≤ b ∧ Bm w' b ((S.toNat + 63) / 64) (fun y => inB L (y : Int))
set_option maxHeartbeats 4000000 in
theorem pmarks (S : Int) (v : Value) (L : List Int) (w : World) (hv : IntsZ w v L) (hl : L.length ≤ 100000) :
    Calls Try.prog 24 #[frV S v] w fun e w' => ∃ a n c, e = .returned (.tuple #[.slice a n c, .int .i64 (chkLE S L)]) ∧ Below w.heap.size w w' ∧ (chkL S L = true → BmOf w w' S L (.slice a n c)) := by
  have HV := hid_mk hv
  obtain ⟨va, vc, rfl⟩ := hv.len
  unfold frV
  by_cases h1 : S < 1
  · have HE := hid_mk (chk_no (L := L) (Or.inl h1))
    have HF : Hid (chkL S L = false) := hid_mk (by rw [chkL_marks, decide_eq_false (show ¬ 1 ≤ S by omega)]; simp)
    go_enter Try.func24, Try.ntmps24
    go_wp2_with fail
    go_ret2
    exact ⟨none, 0, 0, by rw [HE.out]; rfl, below_box w _, fun h => absurd (HF.out.symm.trans h) (by decide)⟩
  by_cases h2 : 32768 < S
  · have HE := hid_mk (chk_no (L := L) (Or.inr (Or.inl h2)))
    have HF : Hid (chkL S L = false) := hid_mk (by rw [chkL_marks, decide_eq_false (show ¬ S ≤ 32768 by omega)]; simp)
    have h1' : ¬ S < 1 := h1
    go_enter Try.func24, Try.ntmps24
    go_wp2_with fail
    go_ret2
    exact ⟨none, 0, 0, by rw [HE.out]; rfl, below_box w _, fun h => absurd (HF.out.symm.trans h) (by decide)⟩
  obtain ⟨s, rfl⟩ := Int.eq_ofNat_of_zero_le (show 0 ≤ S by omega)
  have h1' : ¬ (s : Int) < 1 := h1
  have h2' : ¬ 32768 < (s : Int) := h2
  have HCk : Hid (chkL (s : Int) L = (rngT (s : Int) L L.length && freshT [] L L.length)) := hid_mk (by rw [chkL_marks, decide_eq_true (show 1 ≤ (s : Int) by omega), decide_eq_true (show (s : Int) ≤ 32768 by omega)]; simp)
  have HB0 := hid_mk (below_box w (.cells #[.int .i64 s, .slice va L.length vc] 24))
  have HX := hid_mk (blk_new w [.int .i64 s, .slice va L.length vc] 24)
  have HW := hid_mk (fun u (hu : IntsZ u (.slice va L.length vc) L) => pwithin (.slice va L.length vc) s L u hu (by omega))
  cases hr : rngT (s : Int) L L.length
  · rw [hr] at HW HCk
    rw [Bool.false_and] at HCk
    have HE : Hid (chkLE (s : Int) L = 2) := hid_mk (by unfold chkLE; rw [HCk.out]; rfl)
    clear hr
    go_enter Try.func24, Try.ntmps24
    go_wp2_with fail
    refine (HW.out _ (HV.out.below HB0.out)).mono ?_
    rintro e w1 ⟨rfl, rfl⟩
    go_wp2_with fail
    go_ret2
    exact ⟨none, 0, 0, by rw [HE.out]; rfl, HB0.out, fun h => absurd (HCk.out.symm.trans h) (by decide)⟩
  rw [hr] at HW HCk
  rw [Bool.true_and] at HCk
  obtain ⟨K, hK⟩ : ∃ K, (s + 63) / 64 = K := ⟨_, rfl⟩
  have hKi : ((s : Int) + 64 - 1) / 64 = (K : Int) := by omega
  have hKi2 : (K : Int) ≤ 1000 := by omega
  have hK2 : K ≤ 1000 := by omega
  have hK3 : Hid ((s : Int) ≤ 64 * (K : Int)) := hid_mk (by omega)
  have HR : Hid (∀ j, j < L.length → 0 ≤ L.getD j 0 ∧ L.getD j 0 < 64 * (K : Int)) := hid_mk (fun j hj => by
    have := rngT_iff.1 hr _ (getD_mem hj)
    have := hK3.out
    exact ⟨by omega, by omega⟩)
  have hmk := fun u => makeBm u K hK2
  obtain ⟨w2, hw2⟩ : ∃ w2, (w.alloc (.cells #[.int .i64 s, .slice va L.length vc] 24)).alloc (.cells (wordsV (List.replicate K 0)).toArray 51) = w2 := ⟨_, rfl⟩
  have HW2 := hid_mk hw2
  have HB2 : Hid (Below w.heap.size w w2) := hid_mk (by rw [← hw2]; exact (below_box w _).alloc (by simp) _)
  have HX2 : Hid (BlkAt w2 w.heap.size [.int .i64 s, .slice va L.length vc] 24) := hid_mk (by rw [← hw2]; exact HX.out.below (below_box _ _))
  have HM2 : Hid (Bm w2 (w.heap.size + 1) K (fun x => inB [] (x : Int))) := hid_mk (by
    have := bm_new (w.alloc (.cells #[.int .i64 s, .slice va L.length vc] 24)) K
    rw [hw2] at this
    simpa using this)
  have HNe : Hid (∀ g o n c, (.slice va L.length vc : Value) = .slice (some ⟨g, o, none⟩) n c → 0 < n → g ≠ w.heap.size + 1) := hid_mk (fun g o n c e hn => by
    rcases HV.out with ⟨_, h⟩ | ⟨b2, o2, c2, he, hb, _⟩
    · cases e
      rw [h] at hn
      simp at hn
    · rw [he] at e
      cases e
      omega)
  have HA := hid_mk (padd (w.heap.size + 1) K (.slice va L.length vc) [] L w2 HM2.out (HV.out.below HB2.out) HNe.out HR.out hK2 (by omega))
  obtain ⟨x2, x0, x1, _⟩ := blk2 HX2.out
  have HGe : Hid (w.heap.size ≤ w.heap.size + 1) := hid_mk (by omega)
  have HKs := hid_mk hK
  have HV0 := hid_mk (HV.out.below HB0.out)
  clear hr HR HNe HM2 HX2 HV hv hK hw2 HB0 hK3
  obtain ⟨z, hz⟩ : ∃ z, freshT [] L L.length = z := ⟨_, rfl⟩
  rw [hz] at HA HCk
  clear hz
  cases z
  · have HE : Hid (chkLE (s : Int) L = 2) := hid_mk (by unfold chkLE; rw [HCk.out]; rfl)
    go_enter Try.func24, Try.ntmps24
    go_wp2_with fail
    refine (HW.out _ HV0.out).mono ?_
    rintro e w1 ⟨rfl, rfl⟩
    go_wp2_with fail
    rw [HW2.out]
    refine HA.out.mono ?_
    rintro e w3 ⟨rfl, hc, _⟩
    have HB3 := hid_mk (HB2.out.trans (hc.below (B := w.heap.size) HB2.out.size (fun k hk => by omega)))
    clear hc
    go_wp2_with fail
    go_ret2
    exact ⟨none, 0, 0, by rw [HE.out]; rfl, HB3.out, fun h => absurd (HCk.out.symm.trans h) (by decide)⟩
  · have HE : Hid (chkLE (s : Int) L = 0) := hid_mk (by unfold chkLE; rw [HCk.out]; rfl)
    go_enter Try.func24, Try.ntmps24
    go_wp2_with fail
    refine (HW.out _ HV0.out).mono ?_
    rintro e w1 ⟨rfl, rfl⟩
    go_wp2_with fail
    rw [HW2.out]
    refine HA.out.mono ?_
    rintro e w3 ⟨rfl, hc, hm⟩
    have HB3 := hid_mk (HB2.out.trans (hc.below (B := w.heap.size) HB2.out.size (fun k hk => by omega)))
    have HM3 := hid_mk (hm trivial)
    rw [show (fun x : Nat => inB [] (x : Int) || inB L (x : Int)) = (fun x : Nat => inB L (x : Int)) from funext (fun x => by simp [inB])] at HM3
    clear hc hm
    go_wp2_with fail
    go_ret2
    refine ⟨_, _, _, by rw [HE.out]; rfl, HB3.out, fun _ => ⟨w.heap.size + 1, ?_, HGe.out, ?_⟩⟩
    · rw [Int.toNat_natCast, HKs.out]
    · rw [Int.toNat_natCast, HKs.out]
      exact HM3.out
end Go.Proofs.Ytfbimocgcnaogaa
