/- Package seg's Cut; slices.Clone at segments. Conditions: as each theorem names them. -/
import Derived.Test.YteolnghnlfeakaaPg5
import Derived.WalkSpells
namespace Go.Proofs.Yteolnghnlfeakaa
open Go.ChangeShapes Go.WideShapes Go.ChangeAt Go.RowKit
set_option linter.unusedVariables false
set_option maxRecDepth 100000

theorem eqnilS (w : World) (a : Option Addr) (n c : Nat) : (binOp .eql 33 (.slice a n c) (.slice none 0 0)).run Try.prog w = .ok (.bool a.isNone) w := Lib.run_eql_slice_nil w 33 32 a n c 0 0 Try.underlying33

set_option maxHeartbeats 1000000 in
theorem pclone (v : Value) (L : List Sg) (w : World) (hv : SegsAt w v L) (hl : L.length ≤ 1000) :
    Calls Try.prog 48 #[v] w fun e w' => ∃ v', e = .returned v' ∧ OwnS w.heap.size w' v' L ∧ Below w.heap.size w w' := by
  obtain ⟨i0, hi, hz0, hz1, hz2⟩ := info_parts rowSg
  have hown := World.ownsRow_made (e := 32) (size := 3) (base := w.heap.size) w #[] 0 (Nat.le_refl _) (by simp [maxLen]) rfl
  have hbase : w.heap.size ≤ (w.alloc (.cells #[] 32)).heap.size := by rw [sizeA]; omega
  have hnil := eqnilS
  by_cases h0 : ∃ c, v = .slice none 0 c ∧ L = []
  · obtain ⟨c, rfl, rfl⟩ := h0
    clear hv hl hown hbase hi hz0 hz1 hz2
    go_enter Try.func48, Try.ntmps48
    go_wp2
    go_ret
    exact ⟨_, rfl, World.ownsRow_nil _ _ _ _, Below.refl _ _⟩
  · have hrun : ∃ a n c v' w', v = .slice (some a) n c ∧ (∀ ty, (Builtin.append_ #[33, 33] ty #[.slice (some ⟨w.heap.size, 0, none⟩) 0 0, v]).run Try.prog (w.alloc (.cells #[] 32)) = .ok v' w') ∧ OwnS w.heap.size w' v' L ∧ Below w.heap.size w w' := by
      rcases hv with ⟨⟨a, c, rfl, hac⟩, rfl⟩ | ⟨b, o, c, rfl, hb1, hb2, hb3⟩
      · cases a with
        | none => exact absurd ⟨c, rfl, rfl⟩ h0
        | some a =>
          obtain ⟨v', w', h1, h2, h3, _⟩ := run_append_own (w.alloc (.cells #[] 32)) w.heap.size 33 33 32 i0 _ 3 16 Try.underlying33 hi hz0 hz1 hz2 rfl (by decide) _ 0 [] hown a 0 c [] rfl (fun j u hu => by simp at hu) (fun u hu => by cases hu) (by simp [maxLen]) (by decide) hbase
          exact ⟨a, 0, c, v', w', rfl, fun ty => h1, h2, ((Below.refl _ _).alloc (Nat.le_refl _) _).trans (grown_below h3 hbase (fun k hk => by simp [Value.ownBlock] at hk; omega))⟩
      · have hba : Below w.heap.size w (w.alloc (.cells #[] 32)) := Below.alloc (Below.refl _ _) (Nat.le_refl _) _
        have hb3' : ∀ j, j < L.length → at3 (w.alloc (.cells #[] 32)) b (o + j * 3) (sat L j) := fun j hj => (hb3 j hj).below hba hb1
        obtain ⟨v', w', h1, h2, h3, _⟩ := run_append_own (w.alloc (.cells #[] 32)) w.heap.size 33 33 32 i0 _ 3 16 Try.underlying33 hi hz0 hz1 hz2 rfl (by decide) _ 0 [] hown ⟨b, o, none⟩ L.length c (segCells L) (segCells_length L) (newsS_of hb3') oneS_of (by simp [maxLen]; omega) (by omega) hbase
        rw [List.nil_append, Nat.zero_add] at h2
        exact ⟨_, _, _, v', w', rfl, fun ty => h1, h2, ((Below.refl _ _).alloc (Nat.le_refl _) _).trans (grown_below h3 hbase (fun k hk => by simp [Value.ownBlock] at hk; omega))⟩
    obtain ⟨a, n, c, v', w', rfl, hrun, hn, hb⟩ := hrun
    have HN := hid_mk hn
    have HB := hid_mk hb
    have HR := hid_mk hrun
    clear hv hl hown hbase hi hz0 hz1 hz2 hn hb h0 hrun
    go_enter Try.func48, Try.ntmps48
    go_wp2_with (at_builtin; refine wpList_append_run rfl _ _ _ rfl rfl rfl (HR.out _) ?_)
    go_ret
    exact ⟨v', rfl, HN.out, HB.out⟩

/-- a cell that holds an owned row is a rest -/
theorem rest_start {B : Nat} {w : World} {v : Value} {L : List Sg} {t : TypeId} (h : OwnS B w v L) : ∃ g, IsRest (w.alloc (.cells #[v] t)) w.heap.size g L ∧ (∀ k, RestC w.heap.size g k → B ≤ k ∨ k = w.heap.size ∨ k = w.heap.size + 1) := by
  obtain ⟨h1, h2⟩ := h
  have hn := heap_alloc_new w (.cells #[v] t)
  have hb : Below w.heap.size w (w.alloc (.cells #[v] t)) := (Below.refl _ _).alloc (Nat.le_refl _) _
  have hz : (w.alloc (.cells #[v] t)).heap.size = w.heap.size + 1 := sizeA _ _
  have hc : (w.alloc (.cells #[v] t)).cell? ⟨w.heap.size, 0, none⟩ = some v := cellK (cs := [v]) hn 0
  have hf : (w.alloc (.cells #[v] t)).frozen? ⟨w.heap.size, 0, none⟩ = false := frozenK hn 0
  rcases h2 with ⟨rfl, h0⟩ | ⟨g, cap, cur, rfl, hg, hh, hcap, hm, hs, ht⟩
  · have hL : L = [] := List.length_eq_zero_iff.1 h0
    subst hL
    exact ⟨w.heap.size + 1, ⟨hf, by omega, by omega, none, 0, hc, fun h => absurd h (by simp)⟩, fun k hk => Or.inr hk⟩
  · have hat := OwnS.at (B := B) (w := w) (v := .slice (some ⟨g, 0, none⟩) L.length cap) ⟨h1, Or.inr ⟨g, cap, cur, rfl, hg, hh, hcap, hm, hs, ht⟩⟩
    have hgl := lt_blk hh
    refine ⟨g, ⟨hf, by omega, by omega, _, cap, hc, fun hl => ⟨0, rfl, hcap, by omega, fun i => frozenK (keepB hb hh) i, ?_⟩⟩, fun k hk => ?_⟩
    · rcases hat with ⟨_, hL⟩ | ⟨b, o, c, he, hb1, hb2, hb3⟩
      · rw [hL] at hl
        exact absurd hl (by simp)
      · cases he
        exact fun j hj => (hb3 j hj).below hb hb1
    · rcases hk with hk | hk
      · exact Or.inr (Or.inl hk)
      · exact Or.inl (by omega)

set_option maxHeartbeats 1000000 in
theorem pcut (v : Value) (f n : Int) (L : List Sg) (w : World) (hv : SegsAt w v L) (hu : isSgs L) (hf : U64 f) (hn : U64 n) :
    Calls Try.prog 26 #[v, .int .u64 f, .int .u64 n] w fun e w' => ∃ v', e = .returned v' ∧ OwnS w.heap.size w' v' (cutE L f n) ∧ Below w.heap.size w w' := by
  have HCk := hid_mk (pcheck v L w hv hu)
  by_cases hE : segE L = 0
  · have e1 : cutE L f n = cutS L f n := by
      unfold cutE
      rw [if_pos hE]
    obtain ⟨o1, o2, _⟩ := (segE_ok hu).1 hE
    rw [e1, ← cut_rest L f n false hu o2 hf.1]
    rw [hE] at HCk
    have HV := hid_mk hv
    have HU := hid_mk hu
    have HO := hid_mk o2
    have HL := hid_mk o1
    have HFn := hid_mk hf
    have HNn := hid_mk hn
    obtain ⟨va, vc, rfl⟩ := hv.len
    clear e1 hE hv hu o1 o2 hf hn
    go_enter Try.func26, Try.ntmps26
    go_wp2_with fail
    refine HCk.out.mono ?_
    rintro e w1 ⟨rfl, hb⟩
    have HB1 := hid_mk hb
    clear hb
    go_wp2_with fail
    refine (pclone _ L _ (HV.out.below HB1.out) (Nat.le_trans HL.out (by decide))).mono ?_
    rintro e w2 ⟨v2, rfl, ho2, hb⟩
    obtain ⟨va2, vc2, rfl⟩ := ho2.at.len
    have HB2 := hid_mk (below_then HB1.out hb)
    obtain ⟨g, hr, hk⟩ := rest_start (t := 81) ho2
    have hz2 := HB2.out.size
    have HK : Hid (∀ k, RestC w2.heap.size g k → w.heap.size ≤ k) := fun k hk1 => by
      have := HB1.out.size
      have := hb.size
      rcases hk k hk1 with h | h | h <;> omega
    have HR := hid_mk hr
    have HB3 := hid_mk (HB2.out.alloc hz2 (.cells #[.slice va2 L.length vc2] 81))
    clear hb hk hr ho2 hz2
    obtain ⟨q1, q2, q3⟩ := restS_is L f false HU.out HO.out HFn.out.1
    have Q1 := hid_mk q1
    have Q2 := hid_mk q2
    have Q3 := hid_mk (Nat.le_trans q3 HL.out)
    clear q1 q2 q3
    go_wp2_with fail
    refine (ptake w2.heap.size g L f false _ HR.out HU.out HO.out HFn.out HL.out).mono ?_
    rintro e w3 ⟨v3, rfl, _, hr3, hc3⟩
    have HR3 := hid_mk hr3
    have HB4 := hid_mk (hc3.since HB3.out HK.out)
    clear hr3 hc3
    go_wp2_with fail
    refine (ptake w2.heap.size g (restS L f) n false _ HR3.out Q1.out Q2.out HNn.out Q3.out).mono ?_
    rintro e w4 ⟨v4, rfl, ho4, _, hc4⟩
    have HB5 := hid_mk (hc4.since HB4.out HK.out)
    have HO4 : Hid (OwnS w.heap.size w4 v4 (cutS (restS L f) 0 n)) := by
      refine ⟨ho4.1, ?_⟩
      rcases ho4.2 with hn | ⟨g, cap, cur, rfl, hg, hh, rest⟩
      · exact .inl hn
      · exact .inr ⟨g, cap, cur, rfl, Nat.le_trans HB4.out.size hg, hh, rest⟩
    clear ho4 hc4
    go_wp2_with fail
    go_ret
    exact ⟨_, rfl, HO4.out, HB5.out⟩
  · have e1 : cutE L f n = [] := by
      unfold cutE
      rw [if_neg hE]
    rw [e1]
    have hE2 : (segE L != 0) = true := by simp [hE]
    obtain ⟨va, vc, rfl⟩ := hv.len
    clear e1 hE hu hv hf hn
    generalize segE L = x at *
    go_enter Try.func26, Try.ntmps26
    go_wp2_with fail
    refine HCk.out.mono ?_
    rintro e w1 ⟨rfl, hb⟩
    have HB := hid_mk hb
    clear hb
    go_wp2_with fail
    go_ret
    exact ⟨_, rfl, World.ownsRow_nil _ _ _ _, HB.out⟩
end Go.Proofs.Yteolnghnlfeakaa
