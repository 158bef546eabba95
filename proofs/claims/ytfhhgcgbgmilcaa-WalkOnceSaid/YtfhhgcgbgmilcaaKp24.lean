/- Sg7 Sg8 Wk3: joined texts. Conditions: as each theorem names them. -/
import Derived.Test.YtfhhgcgbgmilcaaKp23
import Derived.Test.YtfhhgcgbgmilcaaKp15
import Derived.Laws.StructEq
import Derived.Deep.RegionHeld3
/- kit.SameSegs. Conditions: as each theorem names them. -/
namespace Go.Proofs.Ytfhhgcgbgmilcaa
open Go.ChangeShapes Go.WideShapes Go.ChangeAt Go.RowKit
set_option linter.unusedVariables false
set_option maxRecDepth 100000

def sgB (s t : Sg) : Bool := s.a == t.a && (s.n == t.n && s.t == t.t)
theorem sgB_iff {s t : Sg} : sgB s t = true ↔ s = t := by
  obtain ⟨a, n, x⟩ := s
  obtain ⟨b, m, y⟩ := t
  simp [sgB]
def sameS : List Sg → List Sg → Bool
  | [], [] => true
  | s :: l, t :: o => sgB s t && sameS l o
  | [], _ :: _ => false
  | _ :: _, [] => false
theorem sameS_iff : ∀ {L O : List Sg}, sameS L O = true ↔ L = O
  | [], [] => by simp [sameS]
  | s :: l, t :: o => by
    simp only [sameS, Bool.and_eq_true, sgB_iff, sameS_iff (L := l) (O := o), List.cons.injEq]
  | [], _ :: _ => by simp [sameS]
  | _ :: _, [] => by simp [sameS]
theorem sameS_self (L : List Sg) : sameS L L = true := sameS_iff.2 rfl
theorem sameS_len {L O : List Sg} (h : L.length ≠ O.length) : sameS L O = false := by
  cases hc : sameS L O
  · rfl
  · exact absurd (congrArg List.length (sameS_iff.1 hc)) h
theorem sameS_step {L O : List Sg} {k : Nat} (hk : k < L.length) (ho : k < O.length) : sameS (L.drop k) (O.drop k) = (sgB (sat L k) (sat O k) && sameS (L.drop (k + 1)) (O.drop (k + 1))) := by
  rw [drop_sat hk, drop_sat ho]
  rfl

theorem fieldsSg : Try.prog.underlying 53 = some (.struct (Try.prog.fieldsOf 53)) := by kernel_rfl
theorem stoodSg : Try.prog.stoodInHeld 53 = false := by kernel_rfl
abbrev sV (s : Sg) : Value := .agg #[.int .u64 s.a, .int .u32 s.n, .bool s.t]
theorem neqSg (x y x' y' : Int) (z z' : Bool) (w : World) : (binOp .neq 53 (.agg #[.int .u64 x, .int .u32 y, .bool z]) (.agg #[.int .u64 x', .int .u32 y', .bool z'])).run Try.prog w = .ok (.bool (!(x == x' && (y == y' && z == z')))) w := by
  rw [run_neq_struct, run_equalIn_agg w 9999 53 _ _ fieldsSg stoodSg]
  have hf := fieldsSg
  rw [Try.underlying53] at hf
  simp at hf
  rw [← hf]
  simp [Op.eqFields, go_sem, Try.underlying22, Try.underlying46, Try.underlying4]
  by_cases h1 : x = x' <;> by_cases h2 : y = y' <;> by_cases h3 : z = z' <;> simp [h1, h2, h3]

set_option maxHeartbeats 4000000 in
theorem ksame_any (v1 v2 : Value) (L O : List Sg) (w : World) (h1 : SegsAt w v1 L) (h2 : SegsAt w v2 O) (hl : L.length ≤ 1000) :
    Calls Try.prog 14 #[v1, v2] w fun e w' => e = .returned (.bool (sameS L O)) ∧ ∃ m, w' = w.drewN m := by
  by_cases hn : L.length = O.length
  · rcases h1 with ⟨⟨va, vc, rfl, _⟩, rfl⟩ | ⟨b, o, c, rfl, hb1, hb2, hb3⟩
    · have hO : O = [] := List.length_eq_zero_iff.1 hn.symm
      subst hO
      obtain ⟨vb, vd, rfl⟩ := h2.len
      go_enter Try.func14, Try.ntmps14
      go_wp2
      go_loop [5] (fun i => i = .int .i64 0) (fun i => 0)
      case atStart => rfl
      case round =>
        obtain rfl := hrel
        go_wp2
        go_ret
        exact ⟨rfl, 0, rfl⟩
    · rcases h2 with ⟨⟨va, vc, rfl, _⟩, rfl⟩ | ⟨b2, o2, c2, rfl, hd1, hd2, hd3⟩
      · have hL : L = [] := List.length_eq_zero_iff.1 hn
        subst hL
        go_enter Try.func14, Try.ntmps14
        go_wp2
        go_loop [5] (fun i => i = .int .i64 0) (fun i => 0)
        case atStart => rfl
        case round =>
          obtain rfl := hrel
          go_wp2
          go_ret
          exact ⟨rfl, 0, rfl⟩
      · have HC := hid_mk hb3
        have HD := hid_mk hd3
        have hmx : (L.length : Int) ≤ 1000 := by omega
        have hne : ((O.length : Int) != (O.length : Int)) = false := by simp
        have HN := hid_mk hn
        have hni : (L.length : Int) = (O.length : Int) := by omega
        have hmo : (O.length : Int) ≤ 1000 := by omega
        rw [hn] at hb2 ⊢
        clear hb3 hd3 hn
        go_enter Try.func14, Try.ntmps14
        go_wp2
        go_loopw [5] (fun i wr => ∃ (k m : Nat), k ≤ O.length ∧ i = .int .i64 k ∧ wr = w.drewN m ∧ Hid (sameS L O = sameS (L.drop k) (O.drop k))) (fun i _ => O.length - (intOf i).toNat)
        case atStart => exact ⟨0, 0, Nat.zero_le _, rfl, rfl, rfl⟩
        case round =>
          obtain ⟨k, m, hk, rfl, rfl, heq⟩ := hrel
          by_cases hlt : k < O.length
          · obtain ⟨p0, p1, p2⟩ := HC.out k (by have := HN.out; omega)
            obtain ⟨q0, q1, q2⟩ := HD.out k hlt
            have hst := sameS_step (L := L) (O := O) (k := k) (by have := HN.out; omega) hlt
            have hq := neqSg (sat L k).a (sat L k).n (sat O k).a (sat O k).n (sat L k).t (sat O k).t
            rw [show ((sat L k).a == (sat O k).a && ((sat L k).n == (sat O k).n && (sat L k).t == (sat O k).t)) = sgB (sat L k) (sat O k) from rfl] at hq
            have hni2 : (k : Int) < (L.length : Int) := by omega
            cases hs : sgB (sat L k) (sat O k)
            · rw [hs] at hst hq
              have HF : Hid (false = sameS L O) := by
                show false = sameS L O
                rw [heq.out, hst]
                rfl
              clear hst heq hs hni
              generalize sat L k = s1 at *
              generalize sat O k = s2 at *
              go_wp2_with fail
              go_quiet (fail)
              go_wp2_with fail
              go_ret
              exact ⟨ret_eq (congrArg Value.bool HF.out), _, drewN_drewN _ _ _⟩
            · rw [hs] at hst hq
              have HX : Hid (sameS L O = sameS (L.drop (k + 1)) (O.drop (k + 1))) := by
                show sameS L O = _
                rw [heq.out, hst]
                rfl
              clear hst heq hs hni
              generalize sat L k = s1 at *
              generalize sat O k = s2 at *
              go_wp2_with fail
              go_quiet (fail)
              go_wp2_with fail
              go_roundw
              case rel => exact ⟨k + 1, _, by omega, by go_num, rfl, HX⟩
              case measure => simp [intOf]; omega
          · obtain rfl : k = O.length := by omega
            have HF : Hid (true = sameS L O) := by
              show true = sameS L O
              rw [heq.out, List.drop_length, List.drop_of_length_le (by have := HN.out; omega)]
              rfl
            go_wp2_with fail
            go_ret
            exact ⟨ret_eq (congrArg Value.bool HF.out), m, rfl⟩
  · obtain ⟨va, vc, rfl⟩ := h1.len
    obtain ⟨vb, vd, rfl⟩ := h2.len
    have HF : Hid (false = sameS L O) := (sameS_len hn).symm
    have hni : ((L.length : Int) != (O.length : Int)) = true := by
      simp
      omega
    clear h1 h2
    go_enter Try.func14, Try.ntmps14
    go_wp2
    go_ret
    exact ⟨ret_eq (congrArg Value.bool HF.out), 0, rfl⟩
end Go.Proofs.Ytfhhgcgbgmilcaa

/- The reference's In of layer 5. Conditions: as each theorem names them. -/
namespace Go.Proofs.Ytfhhgcgbgmilcaa
open Go.ChangeShapes Go.WideShapes Go.ChangeAt Go.RowKit
set_option linter.unusedVariables false
set_option maxRecDepth 100000

theorem allIn_append (R : List (Int × Int)) (a b : List Sg) : allIn R (a ++ b) = (allIn R a && allIn R b) := by
  unfold allIn
  exact List.all_append
theorem allIn_step {R : List (Int × Int)} {L : List Sg} {k : Nat} (h : k < L.length) : allIn R (L.take (k + 1)) = (allIn R (L.take k) && (loc R (sat L k).a (sat L k).n).isSome) := by
  rw [take_sat h, allIn_append]
  simp [allIn]
theorem allIn_no {R : List (Int × Int)} {L : List Sg} {k : Nat} (h : k < L.length) (hn : (loc R (sat L k).a (sat L k).n).isSome = false) : allIn R L = false := by
  have e := allIn_append R (L.take (k + 1)) (L.drop (k + 1))
  rw [List.take_append_drop, allIn_step h, hn] at e
  rw [e]
  simp
abbrev StI (w : World) (b p q : Nat) (x y : Value) (base rp lb bb cL cB : Nat) (aB : Option Addr) (D : Nat → Nat) (R : List (Int × Int)) (M : List Int) (W : World) : Prop := Below w.heap.size w W ∧ (W.cell? ⟨b, p, none⟩ = some x ∧ W.cell? ⟨b, q, none⟩ = some y ∧ b < W.heap.size) ∧ IsRef W base rp lb bb cL cB aB D R M
theorem StI.keep {w : World} {b p q : Nat} {x y : Value} {base rp lb bb cL cB : Nat} {aB : Option Addr} {D : Nat → Nat} {R : List (Int × Int)} {M : List Int} {W W' : World} (h : StI w b p q x y base rp lb bb cL cB aB D R M W) (hb : Below W.heap.size W W') : StI w b p q x y base rp lb bb cL cB aB D R M W' :=
  ⟨below_then h.1 hb, ⟨(hb.cell (p := ⟨b, p, none⟩) h.2.1.2.2).trans h.2.1.1, (hb.cell (p := ⟨b, q, none⟩) h.2.1.2.2).trans h.2.1.2.1, Nat.lt_of_lt_of_le h.2.1.2.2 hb.size⟩, h.2.2.below hb⟩

theorem rsegin_nil (v : Value) (w : World) :
    Calls Try.prog 72 #[.pointer none, v] w fun e w' => e = .returned (.int .i64 1) ∧ w = w' := by
  go_enter Try.func72, Try.ntmps72
  go_wp2
  go_ret
  exact ⟨rfl, rfl⟩

set_option maxHeartbeats 4000000 in
theorem rsegin (v : Value) (L : List Sg) (base rp lb bb cL cB : Nat) (aB : Option Addr) (D : Nat → Nat) (R : List (Int × Int)) (M : List Int) (w : World) (hv : SegsAt w v L) (hu : isSgs L) (hr : IsRef w base rp lb bb cL cB aB D R M) :
    Calls Try.prog 72 #[.pointer (some ⟨rp, 0, none⟩), v] w fun e w' => e = .returned (.int .i64 (inE R L)) ∧ Below w.heap.size w w' := by
  have HCk := hid_mk (rsegchk v L w hv hu)
  rcases hv with ⟨⟨va, vc, rfl, _⟩, rfl⟩ | ⟨b, o, c, rfl, hb1, hb2, hb3⟩
  · have e1 : inE R [] = 0 := rfl
    rw [e1]
    go_enter Try.func72, Try.ntmps72
    go_wp2_with fail
    refine HCk.out.mono ?_
    rintro e w1 ⟨rfl, m, rfl⟩
    have e2 : segE [] = 0 := rfl
    rw [e2]
    go_wp2_with fail
    go_loop [5, 6] (fun x i => x = .int .i64 0 ∧ i = .int .i64 0) (fun x i => 0)
    case atStart => exact ⟨rfl, rfl⟩
    case round =>
      obtain ⟨rfl, rfl⟩ := hrel
      go_wp2
      go_ret
      exact ⟨rfl, below_drewN _ _⟩
  · by_cases hE : segE L = 0
    · have e1 : inE R L = if allIn R L = true then 0 else 5 := by
        unfold inE
        rw [if_pos hE]
      obtain ⟨r, er⟩ : ∃ r : Int, (if allIn R L = true then (0 : Int) else 5) = r := ⟨_, rfl⟩
      rw [e1, er]
      have ER := hid_mk er
      obtain ⟨o1, o2, o3⟩ := (segE_ok hu).1 hE
      rw [hE] at HCk
      have HC := hid_mk hb3
      have HU := hid_mk hu
      have HR := hid_mk hr
      have h64i : (L.length : Int) ≤ 64 := by omega
      clear hb3 hu e1 o2 o3 hE hr er
      go_enter Try.func72, Try.ntmps72
      go_wp2_with fail
      refine HCk.out.mono ?_
      rintro e w1 ⟨rfl, m, hm⟩
      have HB1 : Hid (Below w.heap.size w w1) := by
        rw [hm]
        exact below_drewN _ _
      have HR1 : Hid (IsRef w1 base rp lb bb cL cB aB D R M) := by
        rw [hm]
        exact HR.out.below (below_drewN _ _)
      clear hm
      go_wp2_with fail
      go_loopw [5, 6] (fun ev i wr => ∃ (k : Nat) (ei : Int), k ≤ L.length ∧ i = .int .i64 k ∧ ev = .int .i64 ei ∧ Hid ((ei = 0 ∧ allIn R (L.take k) = true) ∨ (ei = 5 ∧ allIn R L = false)) ∧ Hid (Below w.heap.size w wr) ∧ Hid (IsRef wr base rp lb bb cL cB aB D R M)) (fun _ i _ => L.length - (intOf i).toNat)
      case atStart => exact ⟨0, 0, Nat.zero_le _, rfl, rfl, Or.inl ⟨rfl, rfl⟩, HB1, HR1⟩
      case round =>
        obtain ⟨k, ei, hk, rfl, rfl, hst, hbel, href⟩ := hrel
        by_cases hlt : k < L.length
        · rcases hst.out with ⟨he, ha⟩ | ⟨he, ha⟩
          · subst he
            obtain ⟨c0, c1, _⟩ := HC.out k hlt
            obtain ⟨hx, hy0, hy1⟩ := sat_is HU.out k
            have d0 := (hbel.out.cell (p := ⟨b, o + k * 3, none⟩) hb1).trans c0
            have d1 := (hbel.out.cell (p := ⟨b, o + k * 3 + 1, none⟩) hb1).trans c1
            have hbw : b < wr.heap.size := Nat.lt_of_lt_of_le hb1 hbel.out.size
            have hyw : IntKind.u64.wrap (sat L k).n = (sat L k).n := by rw [IntKind.wrap_u64]; omega
            have HH := hid_mk (fun u (h : IsRef u base rp lb bb cL cB aB D R M) => rhas_any base rp lb bb cL cB aB D R M (sat L k).a (sat L k).n u h hx ⟨by omega, by omega⟩)
            have HN : Hid ((loc R (sat L k).a (sat L k).n).isSome = false → allIn R L = false) := allIn_no hlt
            have HY : Hid ((loc R (sat L k).a (sat L k).n).isSome = true → allIn R (L.take (k + 1)) = true) := fun h => by
              show allIn R (L.take (k + 1)) = true
              rw [allIn_step hlt, ha, h]
              rfl
            have HS := hid_mk (show StI w b (o + k * 3) (o + k * 3 + 1) (.int .u64 (sat L k).a) (.int .u32 (sat L k).n) base rp lb bb cL cB aB D R M wr.drew from StI.keep (w := w) ⟨hbel.out, ⟨d0, d1, hbw⟩, href.out⟩ (Below.refl _ _).drew)
            clear c0 c1 hst hbel href ha hx hy0 hy1
            generalize (sat L k).a = x at *
            generalize (sat L k).n = y at *
            go_upto_region 7 with fail
            go_region_held3 (fun w' => Below w.heap.size w w' ∧ (w'.cell? ⟨b, o + k * 3, none⟩ = some (.int .u64 x) ∧ w'.cell? ⟨b, o + k * 3 + 1, none⟩ = some (.int .u32 y) ∧ b < w'.heap.size) ∧ IsRef w' base rp lb bb cL cB aB D R M) (first | exact HS.out | exact StI.keep (by assumption) (by assumption))
              (first | (go_at_call 87; refine (HH.out _ (And.right (And.right (by assumption)))).mono ?_; rintro e w' ⟨rfl, hb⟩))
            have hz : StI w b (o + k * 3) (o + k * 3 + 1) (.int .u64 x) (.int .u32 y) base rp lb bb cL cB aB D R M w' := by
              first | assumption | exact StI.keep (by assumption) (by assumption)
            have HZ1 := hid_mk hz.1
            have HZ2 := hid_mk hz.2.2
            clear hz
            cases hn : (loc R x y).isNone
            · have hs : (loc R x y).isSome = true := by
                cases h : loc R x y
                · rw [h] at hn
                  cases hn
                · rfl
              have HX := hid_mk (HY.out hs)
              clear hs
              go_wp2_with fail
              go_roundw
              case rel => exact ⟨k + 1, 0, by omega, by go_num, rfl, Or.inl ⟨rfl, HX.out⟩, HZ1, HZ2⟩
              case measure => simp [intOf]; omega
            · have hs : (loc R x y).isSome = false := by
                cases h : loc R x y
                · rfl
                · rw [h] at hn
                  cases hn
              have HX := hid_mk (HN.out hs)
              clear hs
              go_wp2_with fail
              go_roundw
              case rel => exact ⟨k + 1, 5, by omega, by go_num, rfl, Or.inr ⟨rfl, HX.out⟩, HZ1, HZ2⟩
              case measure => simp [intOf]; omega
          · subst he
            have HF : Hid (Value.int .i64 5 = .int .i64 r) := by
              rw [← ER.out, ha]
              rfl
            clear hst ha
            go_wp2_with fail
            go_ret
            exact ⟨ret_eq HF.out, hbel.out⟩
        · obtain rfl : k = L.length := by omega
          rcases hst.out with ⟨he, ha⟩ | ⟨he, ha⟩
          · subst he
            rw [List.take_length] at ha
            have HF : Hid (Value.int .i64 0 = .int .i64 r) := by
              rw [← ER.out, ha]
              rfl
            clear hst ha
            go_wp2_with fail
            go_ret
            exact ⟨ret_eq HF.out, hbel.out⟩
          · subst he
            have HF : Hid (Value.int .i64 5 = .int .i64 r) := by
              rw [← ER.out, ha]
              rfl
            clear hst ha
            go_wp2_with fail
            go_ret
            exact ⟨ret_eq HF.out, hbel.out⟩
    · have e1 : inE R L = segE L := by
        unfold inE
        rw [if_neg hE]
      rw [e1]
      have hE2 : (segE L == 0) = false := by simp [hE]
      have h0 := seg_pos hE
      have h0i : (0 : Int) < (L.length : Int) := by omega
      clear e1 hE hu hb3 hr
      generalize segE L = x at *
      go_enter Try.func72, Try.ntmps72
      go_wp2_with fail
      refine HCk.out.mono ?_
      rintro e w1 ⟨rfl, m, rfl⟩
      go_wp2_with fail
      go_loopw [5, 6] (fun y i wr => y = .int .i64 x ∧ i = .int .i64 0 ∧ wr = w.drewN m) (fun _ i _ => 0)
      case atStart => exact ⟨rfl, rfl, rfl⟩
      case round =>
        obtain ⟨rfl, rfl, rfl⟩ := hrel
        go_wp2_with fail
        go_ret
        exact ⟨rfl, below_drewN _ _⟩
end Go.Proofs.Ytfhhgcgbgmilcaa

/- The reference of layer 10: entries, end. Conditions: as each theorem names them. -/
namespace Go.Proofs.Ytfhhgcgbgmilcaa
open Go.ChangeShapes Go.WideShapes Go.ChangeAt Go.RowKit
set_option linter.unusedVariables false
set_option maxRecDepth 100000

theorem rhasW {w0 w : World} {rp xb : Nat} {R : List (Int × Int)} {M : List Int} {x : Wst} (h : Rd w0 rp R M xb x w) (a n : Int) (ha : U64 a) (hn : U64 n) :
    Calls Try.prog 87 #[.pointer (some ⟨rp, 0, none⟩), .int .u64 a, .int .u64 n] w fun e w' => e = .returned (.bool (loc R a n).isSome) ∧ Below w.heap.size w w' := by
  obtain ⟨base, lb, bb, cL, cB, aB, D, hm⟩ := h.mem.below h.old
  exact rhas_any base rp lb bb cL cB aB D R M a n w hm ha hn
theorem rstopW {w0 w : World} {rp xb : Nat} {R : List (Int × Int)} {M : List Int} {x : Wst} (h : Rd w0 rp R M xb x w) (E : Int) :
    Calls Try.prog 46 #[.pointer (some ⟨xb, 0, none⟩), .int .i64 E] w fun e w' => e = .returned (.tuple #[]) ∧ Lf w0 w xb (.pointer (some ⟨rp, 0, none⟩)) (wstop E x) w' := rstop w0 xb _ x E w h.rd h.old
theorem Rd.lfSelf {w0 w : World} {rp xb : Nat} {R : List (Int × Int)} {M : List Int} {x : Wst} (h : Rd w0 rp R M xb x w) : Lf w0 w xb (.pointer (some ⟨rp, 0, none⟩)) x w := ⟨h.rd, h.old, Kp.refl _⟩
theorem wenE_cases (R : List (Int × Int)) (a l : Int) : (wenE R a l = 0 ∧ l ≠ 0 ∧ l % 16 = 0 ∧ l / 16 ≤ 64 ∧ (loc R a l).isSome = true) ∨ (wenE R a l = 4 ∧ (l = 0 ∨ (l ≠ 0 ∧ l % 16 ≠ 0) ∨ (l ≠ 0 ∧ l % 16 = 0 ∧ 64 < l / 16))) ∨ (wenE R a l = 5 ∧ l ≠ 0 ∧ l % 16 = 0 ∧ l / 16 ≤ 64 ∧ (loc R a l).isSome = false) := by
  unfold wenE
  by_cases h : l = 0 ∨ l % 16 ≠ 0 ∨ 64 < l / 16
  · rw [if_pos h]
    right
    left
    exact ⟨rfl, by omega⟩
  · rw [if_neg h]
    cases hs : (loc R a l).isSome
    · right
      right
      exact ⟨by simp, by omega, by omega, by omega, rfl⟩
    · left
      exact ⟨by simp, by omega, by omega, by omega, rfl⟩
set_option maxHeartbeats 1000000 in
theorem rents (w0 : World) (rp xb : Nat) (R : List (Int × Int)) (M : List Int) (x : Wst) (a l : Int) (w : World) (h : Rd w0 rp R M xb x w) (ha : U64 a) (hl : 0 ≤ l ∧ l < 4294967296) :
    Calls Try.prog 75 #[.pointer (some ⟨xb, 0, none⟩), .int .u64 a, .int .u32 l] w fun e w' => e = .returned (.tuple #[.int .i64 (if wenE R a l = 0 then l / 16 else 0), .bool (decide (wenE R a l = 0))]) ∧ Lf w0 w xb (.pointer (some ⟨rp, 0, none⟩)) (if wenE R a l = 0 then x else wstop (wenE R a l) x) w' := by
  have hr : l.tmod 16 = l % 16 := Int.tmod_eq_emod_of_nonneg hl.1
  have hq : l.tdiv 16 = l / 16 := Int.tdiv_eq_ediv_of_nonneg hl.1
  have HL := hid_mk hl
  have hw : IntKind.u64.wrap l = l := by rw [IntKind.wrap_u64]; omega
  have hw2 : IntKind.i64.wrap (l / 16) = l / 16 := IntWalk.i64_in _ (by omega)
  have hw3 : IntKind.u32.wrap (l / 16) = l / 16 := by rw [IntKind.wrap_u32]; omega
  have hdv : 0 ≤ l / 16 ∧ l / 16 < 268435456 := by omega
  obtain ⟨hd1, hd2⟩ := hdv
  have H := hid_mk h
  have HA := hid_mk (rhasW h a l ha (by omega))
  obtain ⟨x0, x1, x2, x3, x4, x5⟩ := h.objs1
  obtain ⟨l0, l1⟩ := hl
  rcases wenE_cases R a l with ⟨e, h1, h2, h3, h4⟩ | ⟨e, hc⟩ | ⟨e, h1, h2, h3, h4⟩
  · rw [e, if_pos rfl, if_pos rfl]
    rw [h4] at HA
    have b1 : (l == 0) = false := beq_false_of_ne h1
    have b2 : (l % 16 != 0) = false := by simp [h2]
    have b3 : decide (64 < l / 16) = false := decide_eq_false (by omega)
    clear h ha e h1 h4
    go_enter Try.func75, Try.ntmps75
    go_wp2_with fail
    refine HA.out.mono ?_
    rintro e w1 ⟨rfl, hb⟩
    have HD := hid_mk (H.out.below hb)
    have HB := hid_mk hb
    clear hb x0 x1 x2 x3 x4 x5
    go_wp2_with fail
    go_ret2
    exact ⟨rfl, HD.out.lfSelf.kpre HB.out⟩
  · rw [e, if_neg (by decide), if_neg (by decide)]
    have HS := hid_mk (rstopW h 4)
    rcases hc with h1 | ⟨h1, h2⟩ | ⟨h1, h2, h3⟩
    · have b1 : (l == 0) = true := by simp [h1]
      clear h ha e h1
      go_enter Try.func75, Try.ntmps75
      go_wp2_with fail
      refine HS.out.mono ?_
      rintro e w1 ⟨rfl, hb⟩
      have HB := hid_mk hb
      clear hb
      go_wp2_with fail
      go_ret2
      exact ⟨rfl, HB.out⟩
    · have b1 : (l == 0) = false := beq_false_of_ne h1
      have b2 : (l % 16 != 0) = true := by simp; exact h2
      clear h ha e h1
      go_enter Try.func75, Try.ntmps75
      go_wp2_with fail
      refine HS.out.mono ?_
      rintro e w1 ⟨rfl, hb⟩
      have HB := hid_mk hb
      clear hb
      go_wp2_with fail
      go_ret2
      exact ⟨rfl, HB.out⟩
    · have b1 : (l == 0) = false := beq_false_of_ne h1
      have b2 : (l % 16 != 0) = false := by simp [h2]
      have b3 : decide (64 < l / 16) = true := decide_eq_true h3
      clear h ha e h1
      go_enter Try.func75, Try.ntmps75
      go_wp2_with fail
      refine HS.out.mono ?_
      rintro e w1 ⟨rfl, hb⟩
      have HB := hid_mk hb
      clear hb
      go_wp2_with fail
      go_ret2
      exact ⟨rfl, HB.out⟩
  · rw [e, if_neg (by decide), if_neg (by decide)]
    rw [h4] at HA
    have b1 : (l == 0) = false := beq_false_of_ne h1
    have b2 : (l % 16 != 0) = false := by simp [h2]
    have b3 : decide (64 < l / 16) = false := decide_eq_false (by omega)
    clear h ha e h1 h4
    go_enter Try.func75, Try.ntmps75
    go_wp2_with fail
    refine HA.out.mono ?_
    rintro e w1 ⟨rfl, hb⟩
    have HD := hid_mk (H.out.below hb)
    have HB := hid_mk hb
    clear hb x0 x1 x2 x3 x4 x5
    go_wp2_with fail
    refine (rstopW HD.out 5).mono ?_
    rintro e w2 ⟨rfl, hb2⟩
    have HB2 := hid_mk hb2
    clear hb2
    go_wp2_with fail
    go_ret2
    exact ⟨rfl, HB2.out.kpre HB.out⟩
end Go.Proofs.Ytfhhgcgbgmilcaa
