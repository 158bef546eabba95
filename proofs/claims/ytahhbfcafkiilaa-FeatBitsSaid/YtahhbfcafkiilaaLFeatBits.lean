/-
  PROVED: dumbwaiterlaw06.FeatBits returns true for every set, list of ints and two ints, and what was in memory stays as it was. Conditions: none.
-/
import Derived.Test.YtahhbfcafkiilaaRows
import Derived.Test.YtahhbfcafkiilaaFl
import Derived.Test.YtahhbfcafkiilaaFb2
import Derived.Test.YtahhbfcafkiilaaOutl
import Derived.WalkKit
import Derived.ProofKit
import Derived.OpenShut
import Derived.ShutString
import Derived.ChangeOld
import Derived.Below
import Derived.Carry
import Derived.Lib.SmallJoins
import Derived.BigQuiet
namespace Go.Proofs.Ytahhbfcafkiilaa.featBits
open Go.ChangeShapes Go.WideShapes Go.ChangeAt Go.RowKit
set_option linter.unusedVariables false



/-- the bits of all devices, as a list -/
abbrev LC : List Nat := [28, 29, 32, 34, 35, 40]
theorem com_all {k : Int} (hk : k = 1 ∨ k = 2 ∨ k = 3) : ∀ i, i ∈ LC → (allF k).testBit i = true := by
  rcases hk with rfl | rfl | rfl <;> decide
set_option maxRecDepth 100000 in
set_option maxHeartbeats 1000000 in
theorem walk (w : World) (a0 : Int) (v : Value) (L : List Int) (hv : IntsZ w v L) (hm : L.length ≤ maxLen) (a2 a3 : Int) (w0 : (Lit.int .u64 a0).wf = true) (w2 : (Lit.int .i64 a2).wf = true) (w3 : (Lit.int .i64 a3).wf = true) :
    Calls Try.prog 6 #[.int .u64 a0, v, .int .i64 a2, .int .i64 a3] w fun e w' => e = .returned (.bool true) ∧ Below w.heap.size w w' := by
  obtain ⟨b00, b01⟩ := bounds_u64 w0
  clear w0 w2 w3
  obtain ⟨s, rfl⟩ := Int.eq_ofNat_of_zero_le b00
  have hs : s < N64 := by
    show s < 18446744073709551616
    omega
  clear b00 b01
  obtain ⟨va, vc, rfl⟩ := hv.len
  by_cases h100 : 100 < L.length
  · have h100i : (100 : Int) < (L.length : Int) := by omega
    clear hv
    go_enter Try.func6, Try.ntmps6
    go_wp2_with fail
    refine (lives6_any _).mono ?_
    rintro e w1 ⟨rfl, hb⟩
    go_wp2_with fail
    go_ret
    exact ⟨rfl, hb⟩
  have h100i : (L.length : Int) ≤ 100 := by omega
  have HL : Hid (L.length ≤ 100) := hid_mk (by omega)
  have HC : Hid (∀ k, k < L.length → ∃ b o, va = some ⟨b, o, none⟩ ∧ b < w.heap.size ∧ w.cell? ⟨b, o + k, none⟩ = some (.int .i64 (L.getD k 0))) := hid_mk (fun k hk => by
    rcases hv with ⟨_, rfl⟩ | ⟨b, o, c, he, h1, h2, h3⟩
    · simp at hk
    · cases he
      exact ⟨b, o, rfl, h1, h3 k hk⟩)
  clear hv hm h100
  obtain ⟨r2, hr2⟩ : ∃ r, a2 % 3 = r := ⟨_, rfl⟩
  obtain ⟨r3, hr3⟩ : ∃ r, a3 % 3 = r := ⟨_, rfl⟩
  have HP2 := hid_mk (fun u => pick_at a2 3 r2 u (by decide) (by decide) hr2)
  have HP3 := hid_mk (fun u => pick_at a3 3 r3 u (by decide) (by decide) hr3)
  have HR : Hid (0 ≤ r2 ∧ r2 < 3 ∧ 0 ≤ r3 ∧ r3 < 3) := hid_mk (by omega)
  clear hr2 hr3
  have HS := hid_mk hs
  have hmm := @run_makeMap Try.prog
  clear hs
  go_enter Try.func6, Try.ntmps6
  go_wp2_with fail
  refine (lives6_any _).mono ?_
  rintro e w1 ⟨rfl, hb⟩
  have HST := hid_mk (FbI.start hb)
  clear hb
  go_wp2_with fail
  generalize hmb : w1.heap.size = mb at *
  clear hmb hmm
  go_loopw [9, 11, 12] (fun pv i _ wr => ∃ (k : Nat) (qv : Value), k ≤ L.length ∧ i = .int .i64 k ∧ qv = pv ∧ Hid (FbI w wr mb (pK L k) qv)) (fun _ i _ _ => L.length - (intOf i).toNat)
  case atStart => exact ⟨0, _, Nat.zero_le _, rfl, rfl, HST⟩
  case round =>
    obtain ⟨k, pv, hk, rfl, rfl, hsc⟩ := hrel
    by_cases hlt : k < L.length
    · obtain ⟨b, o, hva, hb1, c0⟩ := HC.out k hlt
      subst hva
      have d0 := (hsc.out.bel.cell (p := ⟨b, o + k, none⟩) hb1).trans c0
      obtain ⟨x, hx⟩ : ∃ x, (L.getD k 0 % 64).toNat = x := ⟨_, rfl⟩
      have hxe : L.getD k 0 % 64 = (x : Int) := by omega
      have hx64 : x < 64 := by omega
      have HPk := hid_mk (fun u => pick_at (L.getD k 0) 64 (x : Int) u (by decide) (by decide) hxe)
      have hlen : (pK L k).length ≤ 1000 := by
        have := pK_len L k
        have := HL.out
        omega
      obtain ⟨v1, u1, u2, hrun, hupd, hnx⟩ := hsc.out.push hlen hx64
      rw [← hx, ← pK_succ hlt] at hnx
      have HN := hid_mk hnx
      have HRun := hid_mk hrun
      have hki : (k : Int) < (L.length : Int) := by omega
      clear hnx hrun hx hxe hlen hsc c0
      generalize L.getD k 0 = y at *
      go_wp2_with fail
      refine (HPk.out _).mono ?_
      rintro e u ⟨rfl, rfl⟩
      go_wp2_with (at_builtin; refine wpList_append_run (v := pv) (u := .slice (some ⟨wr.heap.size, 0, none⟩) 1 1) (v' := v1) (w' := u1) rfl (.tmp 37) (.tmp 39) 38 rfl (by first | rfl | go_simp) (by first | rfl | go_simp) (HRun.out _) ?_)
      exact ⟨⟨k + 1, _, by omega, by simp, rfl, HN⟩, by simp [intOf]; omega⟩
    · obtain rfl : k = L.length := by omega
      obtain ⟨wo, rfl⟩ : ∃ wo : World, wo = wr := ⟨_, rfl⟩
      obtain ⟨cnt, f, hmap, hcnt, hf⟩ := hsc.out.map
      obtain ⟨l1, l2⟩ := hsc.out.lo
      have hp64 := pK_lt L L.length
      have hwb : withB (pK L L.length) = true := by
        unfold withB
        rw [List.all_eq_true]
        exact fun x hx => decide_eq_true (hp64 x hx)
      have hlen : (pK L L.length).length < 1000000 := by
        have := pK_len L L.length
        have := HL.out
        omega
      obtain ⟨S, hS⟩ : ∃ S, s ||| orF (pK L L.length) = S := ⟨_, rfl⟩
      have hS64 : S < N64 := by
        rw [← hS]
        exact or_lt HS.out (orF_lt hp64)
      have hbit : ∀ n : Nat, n < 64 → S.testBit n = (f (n : Int) || s.testBit n) := fun n hn => by
        rw [← hS, Nat.testBit_or, Bool.eq_iff_iff, Bool.or_eq_true, Bool.or_eq_true, orF_bit, hf n hn]
        exact Or.comm
      have hW := fwith s pv (pK L L.length) HS.out hlen wo hsc.out.row.ints
      have e1 : withR s (pK L L.length) = S := by
        unfold withR
        rw [if_pos hwb, hS]
      have e2 : withE (pK L L.length) = 0 := by
        unfold withE
        rw [if_pos hwb]
      rw [e1, e2] at hW
      have HW := hid_mk hW
      have HBo := hid_mk hsc.out.bel
      have HMo := hid_mk hmap
      have HBit := hid_mk hbit
      have HS64 := hid_mk hS64
      have HMb := hid_mk l2
      clear hf hcnt hp64 hwb hlen hS hS64 hbit hW e1 e2 hsc hmap l1 l2
      go_wp2_with fail
      refine (HW.out).mono ?_
      rintro e w4 ⟨rfl, hb4⟩
      have HB4 := hid_mk (below_two HBo.out hb4)
      have HLk := hid_mk (fun (m n : Nat) (hn : n < 64) => (HMo.out.keep (w' := w4.drewN m) (hb4.block mb (by have := HMb.out; omega))).lookup (n : Int) ⟨by omega, by omega⟩)
      clear hb4
      go_wp2_with fail
      go_loopw [15] (fun i wr => ∃ n : Nat, n ≤ 64 ∧ i = .int .i64 n ∧ Hid (∃ m, wr = w4.drewN m)) (fun i _ => 64 - (intOf i).toNat)
      case atStart => exact ⟨0, by omega, rfl, 0, rfl⟩
      case round =>
        obtain ⟨n, hn, rfl, hdr⟩ := hrel
        have HD2 : Hid (∀ q, ∃ m, wr.drewN q = w4.drewN m) := hid_mk (fun q => by
          obtain ⟨m, rfl⟩ := hdr.out
          exact ⟨_, World.drewN_drewN _ _ _⟩)
        by_cases hlt2 : n < 64
        · have hb := HBit.out n hlt2
          have hlk : ∀ q, (Instr.lookup 39 (.map (some mb)) (.int .i64 (n : Int)) false).run Try.prog (wr.drewN q) = .ok (.bool (f (n : Int))) (wr.drewN q) := fun q => by
            obtain ⟨m, rfl⟩ := hdr.out
            rw [World.drewN_drewN]
            exact HLk.out _ n hlt2
          have hh1 := hasF_nat (s := S) hlt2
          have hh2 := hasF_nat (s := s) hlt2
          have H1 := hid_mk (fhas_q S HS64.out (n : Int))
          have H2 := hid_mk (fhas_q s HS.out (n : Int))
          rw [hh1] at H1
          rw [hh2] at H2
          cases hfn : f (n : Int)
          · rw [hfn, Bool.false_or] at hb
            rw [hb] at H1
            simp only [hfn] at hlk
            clear hb hh1 hh2 hfn
            generalize s.testBit n = c at *
            go_wp2_with fail
            go_quiet (first | (go_at_call 15; with_reducible exact Calls.quiet_of (H1.out _)) | (go_at_call 15; with_reducible exact Calls.quiet_of (H2.out _)))
            go_wp2_with fail
            go_roundw
            case rel => exact ⟨n + 1, by omega, by go_num, HD2.out _⟩
            case measure => simp [intOf]; omega
          · rw [hfn, Bool.true_or] at hb
            rw [hb] at H1
            simp only [hfn] at hlk
            clear hb hh1 hh2 hfn
            go_wp2_with fail
            go_quiet (first | (go_at_call 15; with_reducible exact Calls.quiet_of (H1.out _)) | (go_at_call 15; with_reducible exact Calls.quiet_of (H2.out _)))
            go_wp2_with fail
            go_roundw
            case rel => exact ⟨n + 1, by omega, by go_num, HD2.out _⟩
            case measure => simp [intOf]; omega
        · obtain rfl : n = 64 := by omega
          obtain ⟨wo, rfl⟩ : ∃ wo : World, wo = wr := ⟨_, rfl⟩
          have HB5 : Hid (Below w.heap.size w wo) := by
            obtain ⟨m, rfl⟩ := hdr.out
            exact below_dn HB4.out m
          obtain ⟨x0, x1, x2, x3⟩ := HR.out
          have hw2 : IntKind.i64.wrap (1 + r2) = 1 + r2 := IntWalk.i64_in _ (by omega)
          have hw3 : IntKind.i64.wrap (1 + r3) = 1 + r3 := IntWalk.i64_in _ (by omega)
          have HA2 := hid_mk (fall (1 + r2))
          have HA3 := hid_mk (fall (1 + r3))
          have OA := hid_mk (u64_and_nat (allF (1 + r2)) (allF (1 + r3)) (allF_lt _) (allF_lt _))
          have hcm : ∀ i, i ∈ LC → (allF (1 + r2) &&& allF (1 + r3)).testBit i = true := fun i hi => by
            rw [Nat.testBit_and, com_all (by omega) i hi, com_all (by omega) i hi]
            rfl
          have hcl : allF (1 + r2) &&& allF (1 + r3) < N64 := and_lt _ (allF_lt _)
          have HOp := hid_mk (fopts S HS64.out)
          have HH := hid_mk (fun b => fhas_q S HS64.out b)
          clear x0 x1 x2 x3
          go_wp2_with fail
          refine (HP2.out _).mono ?_
          rintro e u ⟨rfl, rfl⟩
          go_wp2_with fail
          refine (HA2.out _).mono ?_
          rintro e w5 ⟨rfl, hb⟩
          have HB5' := hid_mk (below_two HB5.out hb)
          clear hb
          go_wp2_with fail
          refine (HP3.out _).mono ?_
          rintro e u ⟨rfl, rfl⟩
          go_wp2_with fail
          refine (HA3.out _).mono ?_
          rintro e w6 ⟨rfl, hb⟩
          have HB6 := hid_mk (below_two HB5'.out hb)
          clear hb
          generalize allF (1 + r2) &&& allF (1 + r3) = C at *
          have HCm := hid_mk hcm
          have HCl := hid_mk hcl
          have HLit := hid_mk (ints_lit w6 LC 3)
          clear hcm hcl hw2 hw3
          go_wp2_with fail
          rw [OA.out]
          have HLb : Hid (∀ j, j < 6 → ∃ x, LC.getD j 0 = x ∧ C.testBit x = true ∧ x < 64) := hid_mk (fun j hj => ⟨_, rfl, HCm.out _ (by
            rw [List.getD_eq_getElem?_getD, List.getElem?_eq_getElem (by exact hj)]
            exact List.getElem_mem _), by
            have key : ∀ j : Fin 6, LC.getD j.val 0 < 64 := by decide
            exact key ⟨j, hj⟩⟩)
          have HLc : Hid (∀ j, j < 6 → (w6.alloc (.cells #[.int .i64 28, .int .i64 29, .int .i64 32, .int .i64 34, .int .i64 35, .int .i64 40] 3)).cell? ⟨w6.heap.size, j, none⟩ = some (.int .i64 (LC.getD j 0 : Nat))) := hid_mk (fun j hj => by
            rcases HLit.out with ⟨_, h⟩ | ⟨b, o, c, he, _, _, h3⟩
            · cases h
            · cases he
              have h4 := h3 j hj
              rw [Nat.zero_add] at h4
              exact h4)
          have HB7 := hid_mk (HB6.out.alloc HB6.out.size (.cells #[.int .i64 28, .int .i64 29, .int .i64 32, .int .i64 34, .int .i64 35, .int .i64 40] 3))
          have HZ7 : Hid (w6.heap.size < (w6.alloc (.cells #[.int .i64 28, .int .i64 29, .int .i64 32, .int .i64 34, .int .i64 35, .int .i64 40] 3)).heap.size) := by
            show _ < _
            rw [sizeA]
            omega
          clear HLit HCm OA HA2 HA3
          generalize hw7 : w6.alloc (.cells #[.int .i64 28, .int .i64 29, .int .i64 32, .int .i64 34, .int .i64 35, .int .i64 40] 3) = w7 at *
          generalize w6.heap.size = lb at *
          clear hw7
          have HHC := hid_mk (fun b => fhas_q C HCl.out b)
          go_loopw [18, 78] (fun _ i wr => ∃ j : Nat, j ≤ 6 ∧ i = .int .i64 j ∧ Hid (∃ m, wr = w7.drewN m)) (fun _ i _ => 6 - (intOf i).toNat)
          case atStart => exact ⟨0, by omega, rfl, 0, rfl⟩
          case round =>
            obtain ⟨j, hj, rfl, hdr7⟩ := hrel
            obtain ⟨m7, hm7⟩ := hdr7.out
            subst hm7
            by_cases hj6 : j < 6
            · obtain ⟨x, hx, hbx, hx64⟩ := HLb.out j hj6
              have hc := HLc.out j hj6
              rw [hx] at hc
              have hh := HHC.out (x : Int)
              rw [hasF_nat hx64, hbx] at hh
              have HX := hid_mk hh
              clear hh hbx hx64 hx
              go_wp2_with fail
              refine (HX.out _).mono ?_
              rintro e u ⟨rfl, q, rfl⟩
              go_wp2_with fail
              go_roundw
              case rel => exact ⟨j + 1, by omega, by go_num, m7 + q, rfl⟩
              case measure => simp [intOf]; omega
            · obtain rfl : j = 6 := by omega
              have h1 : hasF S 29 = S.testBit 29 := hasF_nat (s := S) (n := 29) (by decide)
              have h2 : hasF S 28 = S.testBit 28 := hasF_nat (s := S) (n := 28) (by decide)
              have h3 : hasF S 34 = S.testBit 34 := hasF_nat (s := S) (n := 34) (by decide)
              have H1 := hid_mk (HH.out 29)
              have H2 := hid_mk (HH.out 28)
              have H3 := hid_mk (HH.out 34)
              rw [h1] at H1
              rw [h2] at H2
              rw [h3] at H3
              clear h1 h2 h3
              generalize S.testBit 29 = c1 at *
              generalize S.testBit 28 = c2 at *
              generalize S.testBit 34 = c3 at *
              go_wp2_with fail
              refine (HOp.out _).mono ?_
              rintro e w8 ⟨rfl, hb⟩
              have HB8 := hid_mk (below_two (below_dn HB7.out m7) hb)
              clear hb
              go_wp2_with fail
              have HB9 := hid_mk (HB8.out.alloc HB8.out.size (.cells #[.bool c1, .bool c2, .bool c3] 30))
              have hnew := heap_alloc_new w8 (.cells [Value.bool c1, .bool c2, .bool c3].toArray 30)
              have g0 : (w8.alloc (.cells #[.bool c1, .bool c2, .bool c3] 30)).cell? ⟨w8.heap.size, 0, none⟩ = some (.bool c1) := cellK hnew 0
              have g1 : (w8.alloc (.cells #[.bool c1, .bool c2, .bool c3] 30)).cell? ⟨w8.heap.size, 1, none⟩ = some (.bool c2) := cellK hnew 1
              have g2 : (w8.alloc (.cells #[.bool c1, .bool c2, .bool c3] 30)).cell? ⟨w8.heap.size, 2, none⟩ = some (.bool c3) := cellK hnew 2
              clear hnew
              generalize w8.alloc (.cells #[.bool c1, .bool c2, .bool c3] 30) = w9 at *
              generalize w8.heap.size = ob at *
              have q1 : (c1 == c1) = true := by simp
              have q2 : (c2 == c2) = true := by simp
              have q3 : (c3 == c3) = true := by simp
              go_quiet (first | (go_at_call 15; with_reducible exact Calls.quiet_of (H1.out _)) | (go_at_call 15; with_reducible exact Calls.quiet_of (H2.out _)) | (go_at_call 15; with_reducible exact Calls.quiet_of (H3.out _)))
              go_wp2_with fail
              go_ret
              exact ⟨rfl, below_dn HB9.out _⟩

/-! ### the row's frame -/
theorem own : ownKnob Try.prog.godebug = none := by kernel_rfl
theorem laidOut : laidOutB Try.prog = true := by kernel_rfl

set_option maxRecDepth 100000 in
theorem lifted (os : Os) (started : os.Started) (H : Type) (enc : TypeId × Value → H) :
    ReturnsInHanded {} Try.checked os 6 .any (Rows.featBitsSpec.pre6 enc Try.prog Try.f6 Rows.featBitsRow.domain false) (Rows.featBitsSpec.post enc Try.prog Try.f6 false true false false) := by
  refine returnsInHanded_of_change (C := Try.checked) own started (by kernel_rfl) Try.func6
    (ChangeSpec.witness6 (enc := enc) (C := Try.checked) false ⟨#[], #[.int .u64 0, .slice none 0 0, .int .i64 0, .int .i64 0], []⟩ 8 (by kernel_rfl) (by kernel_rfl) (by kernel_rfl) (by kernel_rfl)) ?_
  intro W base args ds gs before hval0 hW hcnd _
  have hval : ∀ (j : Nat) t v, Try.f6.params[j]? = some t → args[j]? = some v → Value.okWide Try.prog W .any base t v := hval0
  have hW' := hW
  obtain ⟨p, q, hA0, hV, rfl, hfz, hnd⟩ := hW
  have hA : DataW.TrodAll enc Try.prog W 0 (fun _ => true) true Try.f6.params.toList args.toList ds p := hA0
  rw [Try.params6] at hA hval
  obtain ⟨v0, vs0, d0, ds0, p0, q0, hargs, rfl, rfl, h0, r0⟩ := trodAll_cons hA
  obtain ⟨v1, vs1, d1, ds1, p1, q1, rfl, rfl, rfl, h1, r1⟩ := trodAll_cons r0
  obtain ⟨v2, vs2, d2, ds2, p2, q2, rfl, rfl, rfl, h2, r2⟩ := trodAll_cons r1
  obtain ⟨v3, vs3, d3, ds3, p3, q3, rfl, rfl, rfl, h3, r3⟩ := trodAll_cons r2
  obtain ⟨rfl, rfl, rfl⟩ := trodAll_nil r3
  obtain rfl : args = #[v0, v1, v2, v3] := by cases args; simp_all
  obtain ⟨rfl, rfl⟩ := trodVars_none hV
  have k0 := h0
  have lt0 : ∀ x ∈ p0, x.block < W.heap.size := by
    obtain ⟨m, hm⟩ := k0
    exact DataW.trod_lt m _ _ _ hm
  have k1 := h1
  have lt1 : ∀ x ∈ p1, x.block < W.heap.size := by
    obtain ⟨m, hm⟩ := k1
    exact DataW.trod_lt m _ _ _ hm
  have k2 := h2
  have lt2 : ∀ x ∈ p2, x.block < W.heap.size := by
    obtain ⟨m, hm⟩ := k2
    exact DataW.trod_lt m _ _ _ hm
  have k3 := h3
  have lt3 : ∀ x ∈ p3, x.block < W.heap.size := by
    obtain ⟨m, hm⟩ := k3
    exact DataW.trod_lt m _ _ _ hm
  obtain ⟨a0, rfl, rfl, rfl, w0⟩ := open_int Try.underlying22 (hval 0 22 v0 rfl rfl) h0
  obtain ⟨l1, hv1, hm1⟩ := open_intz (hval 1 38 v1 rfl rfl) h1
  obtain ⟨a2, rfl, rfl, rfl, w2⟩ := open_int Try.underlying3 (hval 2 3 v2 rfl rfl) h2
  obtain ⟨a3, rfl, rfl, rfl, w3⟩ := open_int Try.underlying3 (hval 3 3 v3 rfl rfl) h3
  clear hA0 hval0
  refine (walk W a0 v1 l1 hv1 hm1 a2 a3 w0 w2 w3).mono fun e W' ⟨he, bel⟩ => ?_
  subst he
  exact ⟨_, rfl, _, _, _, [], _, [], hW', trodAll_mk1 (shut_bool Try.underlying4 _), (trodAll_cons_mk (Below.trod laidOut (by kernel_rfl) (of_decide_eq_true (by kernel_rfl)) k0 bel lt0) (trodAll_cons_mk (Below.trod laidOut (by kernel_rfl) (of_decide_eq_true (by kernel_rfl)) k1 bel lt1) (trodAll_cons_mk (Below.trod laidOut (by kernel_rfl) (of_decide_eq_true (by kernel_rfl)) k2 bel lt2) (trodAll_cons_mk (Below.trod laidOut (by kernel_rfl) (of_decide_eq_true (by kernel_rfl)) k3 bel lt3) trodAll_mk0)))), rfl, bel.frame _, fun h => by cases h⟩

theorem over : Rows.featBitsRow.holds Try.pinned (OpenSpec.ofChange Rows.featBitsSpec) :=
  OpenClaim.holds_of_wide 6 Try.f6 rfl rfl rfl rfl rfl rfl rfl ⟨rfl, rfl, rfl, rfl, rfl⟩ rfl rfl rfl rfl rfl (by kernel_rfl) Try.func6 (by kernel_rfl)
    (of_decide_eq_true (by kernel_rfl)) (by unfold Func.isWrapper; first | (rw [if_pos (by decide +kernel)]; kernel_rfl) | (rw [if_neg (by decide +kernel)]; exact ⟨rfl, rfl⟩))
    (fun os started H enc _ => lifted os started H enc)

/-- THE STATEMENT -/
theorem featBits_holds : Rows.FeatBitsSaid := over
#print axioms featBits_holds
end Go.Proofs.Ytahhbfcafkiilaa.featBits
