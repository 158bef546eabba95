/- Ww0 Ww1 Pg1: joined texts. Conditions: as each theorem names them. -/
import Derived.Test.YtfhhgcgbgmilcaaGreatKp28
import Derived.Test.YtfhhgcgbgmilcaaGreatKp23
/- Chains as package walk reads them: plain answers. No program in sight. -/
namespace Go.Proofs.YtfhhgcgbgmilcaaGreat
open Go
set_option linter.unusedVariables false
set_option maxRecDepth 100000

/-- what a descriptor tells -/
structure Lk where
  s : Sg
  t : Bool
  id : Int
  nx : Int
  m : Bool
def lkV (d : Lk) : Value := .agg #[.int .u64 d.s.a, .int .u32 d.s.n, .bool d.s.t, .bool d.t, .int .i64 d.id, .int .i64 d.nx, .bool d.m]
def lk0 : Lk := ⟨⟨0, 0, false⟩, false, 0, 0, false⟩
structure isLk (d : Lk) : Prop where
  s : isSg d.s
  i0 : 0 ≤ d.id
  i1 : d.id < 65536
  n0 : 0 ≤ d.nx
  n1 : d.nx < 65536
/-- what was read of a chain -/
structure Cs where
  S : List Sg
  n : Nat
  c : Nat
  id : Int
  e : Int
def Cs.stop (e : Int) (s : Cs) : Cs := ⟨s.S, s.n, s.c, s.id, e⟩
def Cs.one (s : Cs) : Cs := ⟨s.S, s.n + 1, s.c, s.id, s.e⟩
def Cs.seg (g : Sg) (s : Cs) : Cs := ⟨s.S ++ [g], s.n, s.c, s.id, s.e⟩
def Cs.ring (i : Int) (s : Cs) : Cs := ⟨s.S, s.n, s.c + 1, i, s.e⟩
/-- a descriptor by its bytes -/
def dSp (l : List Int) (_ : Int) : Lk := ⟨⟨(dR l).a, (dR l).l, flB (dR l).f 2⟩, flB (dR l).f 4, 0, (dR l).n, flB (dR l).f 1⟩
def dPk (n : Int) (l : List Int) (i : Int) : Lk := ⟨⟨(dR l).a, (dR l).l, flB (dR l).n 2⟩, flB (dR l).n 4, (dR l).f, goA i 1 n, flB (dR l).n 1⟩
def dEn (n : Int) (l : List Int) (i : Int) : Lk := ⟨(dPk n l i).s, (dPk n l i).t, (dPk n l i).id, (dPk n l i).nx, decide (i + 1 < n)⟩
/-- get -/
def gtE (R : List (Int × Int)) (a n i : Int) : Int := if okI n i = true then readE R (a + 16 * i) 16 else 4
def gtD (R : List (Int × Int)) (M : List Int) (a n : Int) (D : List Int → Int → Lk) (i : Int) : Lk := if gtE R a n i = 0 then D (readL R M (a + 16 * i) 16) i else lk0
/-- an entry of a table -/
def stE (d : Lk) (s : Cs) : Cs := if d.t = true then s.stop 4 else s.seg d.s
/-- one after the other -/
def eachF (R : List (Int × Int)) (M : List Int) (a n : Int) (D : List Int → Int → Lk) (step : Lk → Cs → Cs) : Nat → List Int → Int → Cs → Cs
  | 0, _, _, s => s
  | f + 1, seen, k, s =>
    if inB seen k = true then s.stop 4
    else if gtE R a n k = 0 then
      (if ((gtD R M a n D k).m && decide ((step (gtD R M a n D k) s.one).e = 0)) = true then eachF R M a n D step f (seen ++ [k]) (gtD R M a n D k).nx (step (gtD R M a n D k) s.one)
       else step (gtD R M a n D k) s.one)
    else s.stop (gtE R a n k)
theorem eachF_succ (R : List (Int × Int)) (M : List Int) (a n : Int) (D : List Int → Int → Lk) (step : Lk → Cs → Cs) (f : Nat) (seen : List Int) (k : Int) (s : Cs) :
    eachF R M a n D step (f + 1) seen k s = if inB seen k = true then s.stop 4
    else if gtE R a n k = 0 then
      (if ((gtD R M a n D k).m && decide ((step (gtD R M a n D k) s.one).e = 0)) = true then eachF R M a n D step f (seen ++ [k]) (gtD R M a n D k).nx (step (gtD R M a n D k) s.one)
       else step (gtD R M a n D k) s.one)
    else s.stop (gtE R a n k) := by
  conv => lhs; unfold eachF
/-- a descriptor of the ring -/
def st3 (R : List (Int × Int)) (M : List Int) (tables pk : Bool) (d : Lk) (s : Cs) : Cs :=
  if d.t = false then (s.ring d.id).seg d.s
  else if ((!tables || d.m) || (pk && decide (1 < s.c + 1))) = true then (s.ring d.id).stop 4
  else if wenE R d.s.a d.s.n = 0 then eachF R M d.s.a (d.s.n / 16) (if pk = true then dEn (d.s.n / 16) else dSp) stE ((d.s.n / 16).toNat + 1) [] 0 (s.ring d.id)
  else (s.ring d.id).stop (wenE R d.s.a d.s.n)
def follF (R : List (Int × Int)) (M : List Int) (pk : Bool) (n a head : Int) (tables : Bool) : Cs := eachF R M a n (if pk = true then dPk n else dSp) (st3 R M tables pk) (n.toNat + 1) [] head ⟨[], 0, 0, 0, 0⟩
/-- a step that leaves little -/
def Mild (step : Lk → Cs → Cs) : Prop := ∀ d s, d.m = true → (step d s).e = 0 → (step d s).n = s.n ∧ (step d s).S.length ≤ s.S.length + 1 ∧ (step d s).c ≤ s.c + 1
theorem mild_stE : Mild stE := by
  intro d s _ he
  unfold stE at he ⊢
  by_cases h : d.t = true
  · rw [if_pos h] at he
    cases he
  · rw [if_neg h]
    simp [Cs.seg]
theorem mild_st3 (R : List (Int × Int)) (M : List Int) (tables pk : Bool) : Mild (st3 R M tables pk) := by
  intro d s hm he
  unfold st3 at he ⊢
  by_cases h : d.t = false
  · rw [if_pos h]
    simp [Cs.seg, Cs.ring]
  · rw [if_neg h, hm] at he
    rw [if_pos (by simp)] at he
    cases he
theorem isLk_sp {l : List Int} (hB : isBytes l) (hl : l.length = 16) (i : Int) : isLk (dSp l i) := by
  obtain ⟨h1, h2, h3, h4⟩ := dR_is hB hl
  exact ⟨⟨h1, h2⟩, by simp [dSp], by simp [dSp], h4.1, h4.2⟩
theorem isLk_pk {l : List Int} (hB : isBytes l) (hl : l.length = 16) {n i : Int} (hi : 0 ≤ i) (hn : i < n) (h : n ≤ 32768) : isLk (dPk n l i) := by
  obtain ⟨h1, h2, h3, h4⟩ := dR_is hB hl
  have g1 : 0 ≤ goA i 1 n := goA_lo hi (by decide)
  have g2 : goA i 1 n < n := goA_hi hn (by omega)
  exact ⟨⟨h1, h2⟩, h3.1, h3.2, g1, by show goA i 1 n < 65536; omega⟩
theorem isLk_en {l : List Int} (hB : isBytes l) (hl : l.length = 16) {n i : Int} (hi : 0 ≤ i) (hn : i < n) (h : n ≤ 32768) : isLk (dEn n l i) := by
  obtain ⟨h1, h2, h3, h4, h5⟩ := isLk_pk hB hl hi hn h
  exact ⟨h1, h2, h3, h4, h5⟩
end Go.Proofs.YtfhhgcgbgmilcaaGreat

/- walk's links. Conditions: as each theorem names them. -/
namespace Go.Proofs.YtfhhgcgbgmilcaaGreat
open Go.ChangeShapes Go.WideShapes Go.ChangeAt Go.RowKit
set_option linter.unusedVariables false
set_option maxRecDepth 100000

theorem vlinkof (a l f : Int) (w : World) (hf : 0 ≤ f ∧ f < 65536) :
    Calls Tryz.prog 107 #[.int .u64 a, .int .u32 l, .int .u16 f] w fun e w' => e = .returned (.agg #[.int .u64 a, .int .u32 l, .bool (flB f 2), .bool (flB f 4), .int .i64 0, .int .i64 0, .bool (flB f 1)]) ∧ Below w.heap.size w w' := by
  have h1 : (bits .and .u16 f 1 != 0) = flB f 1 := flB_and 1 hf (by decide)
  have h2 : (bits .and .u16 f 2 != 0) = flB f 2 := flB_and 2 hf (by decide)
  have h4 : (bits .and .u16 f 4 != 0) = flB f 4 := flB_and 4 hf (by decide)
  go_enter Tryz.func107, Tryz.ntmps107
  go_wp2
  exact bodyPost_ret (v := .agg #[.int .u64 a, .int .u32 l, .bool (flB f 2), .bool (flB f 4), .int .i64 0, .int .i64 0, .bool (flB f 1)]) (by simp [results, Tryz.results107, go_sem]) rfl ⟨rfl, (by repeat (first | exact Below.refl _ _ | (refine Below.alloc ?_ (by first | (simp; done) | (simp; omega)) _) | (refine Below.setCell ?_ (by first | (simp; done) | (simp; omega)) _)))⟩
end Go.Proofs.YtfhhgcgbgmilcaaGreat

/- Package seg's sum, inSpace, Check. Conditions: as each theorem names them. -/
namespace Go.Proofs.YtfhhgcgbgmilcaaGreat
open Go.ChangeShapes Go.WideShapes Go.ChangeAt Go.RowKit
set_option linter.unusedVariables false
set_option maxRecDepth 100000

theorem sumS_le : ∀ {L : List Sg}, isSgs L → sumS L ≤ 4294967296 * (L.length : Int)
  | [], _ => by simp [sumS]
  | s :: l, h => by
    obtain ⟨h1, h2⟩ := isSgs_cons h
    have := sumS_le h2
    have hn := h1.2.2
    simp only [sumS, List.length_cons]
    omega
theorem sumS_take_le {L : List Sg} (h : isSgs L) (k : Nat) (hk : k ≤ L.length) : 0 ≤ sumS (L.take k) ∧ sumS (L.take k) ≤ 4294967296 * (k : Int) := by
  have h1 := isSgs_take h k
  refine ⟨sumS_nonneg h1, ?_⟩
  have := sumS_le h1
  rw [List.length_take] at this
  omega

set_option maxHeartbeats 1000000 in
theorem psum (v : Value) (L : List Sg) (w : World) (hv : SegsAt w v L) (hu : isSgs L) (hl : L.length ≤ 1000) :
    Calls Tryz.prog 86 #[v] w fun e w' => e = .returned (.int .u64 (sumS L)) ∧ Below w.heap.size w w' := by
  rcases hv with ⟨⟨va, vc, rfl, _⟩, rfl⟩ | ⟨b, o, c, rfl, hb1, hb2, hb3⟩
  · go_enter Tryz.func86, Tryz.ntmps86
    go_wp2
    go_loop [3, 8] (fun n i => n = .int .u64 0 ∧ i = .int .i64 0) (fun _ i => 0)
    case atStart => exact ⟨rfl, rfl⟩
    case round =>
      obtain ⟨rfl, rfl⟩ := hrel
      go_wp2
      go_ret
      exact ⟨rfl, Below.refl _ _⟩
  · have HC := hid_mk hb3
    have HU := hid_mk hu
    have hli : (L.length : Int) ≤ 1000 := by omega
    clear hb3 hu
    go_enter Tryz.func86, Tryz.ntmps86
    go_wp2
    go_loopw [3, 5, 8] (fun n p i wr => ∃ k : Nat, k ≤ L.length ∧ i = .int .i64 k ∧ n = .int .u64 (sumS (L.take k)) ∧ Hid (Below w.heap.size w wr)) (fun _ _ i _ => L.length - (intOf i).toNat)
    case atStart => exact ⟨0, Nat.zero_le _, rfl, rfl, hid_mk (Below.refl _ _)⟩
    case round =>
      obtain ⟨k, hk, rfl, rfl, hbel⟩ := hrel
      by_cases hlt : k < L.length
      · obtain ⟨c0, c1, c2⟩ := HC.out k hlt
        obtain ⟨_, hy0, hy1⟩ := sat_is HU.out k
        have d0 := (hbel.out.cell (p := ⟨b, o + k * 3, none⟩) hb1).trans c0
        have d1 := (hbel.out.cell (p := ⟨b, o + k * 3 + 1, none⟩) hb1).trans c1
        have d2 := (hbel.out.cell (p := ⟨b, o + k * 3 + 2, none⟩) hb1).trans c2
        have hbw : b < wr.heap.size := Nat.lt_of_lt_of_le hb1 hbel.out.size
        have hst := sumS_take hlt
        have hle := sumS_take_le HU.out k hk
        have hyw : IntKind.u64.wrap (sat L k).n = (sat L k).n := by rw [IntKind.wrap_u64]; omega
        have hw : IntKind.u64.wrap (sumS (L.take k) + (sat L k).n) = sumS (L.take (k + 1)) := by rw [IntKind.wrap_u64]; omega
        have HB := hid_mk (Below.alloc hbel.out hbel.out.size (.cells #[.int .u64 (sat L k).a, .int .u32 (sat L k).n, .bool (sat L k).t] 28))
        clear c0 c1 c2 hst hle hbel
        generalize (sat L k).a = x at *
        generalize (sat L k).n = y at *
        generalize (sat L k).t = z at *
        go_wp2_with fail
        go_roundw
        case rel => exact ⟨k + 1, by omega, by go_num, rfl, HB⟩
        case measure => simp [intOf]; omega
      · obtain rfl : k = L.length := by omega
        rw [List.take_length]
        go_wp2_with fail
        go_ret
        exact ⟨rfl, hbel.out⟩

/-- does a segment have bytes, none beyond 2^64? -/
def spB (a n : Int) : Bool := decide (1 ≤ n ∧ a + n ≤ 18446744073709551616)
theorem spB_yes {a n : Int} (h0 : 0 < n) (h : a + n ≤ 18446744073709551616) : spB a n = true := by
  unfold spB
  exact decide_eq_true ⟨by omega, h⟩
theorem spB_big {a n : Int} (h : 18446744073709551616 < a + n) : spB a n = false := by
  unfold spB
  exact decide_eq_false (by omega)
theorem spB_none {a n : Int} (h : ¬ 0 < n) : spB a n = false := by
  unfold spB
  exact decide_eq_false (by omega)
theorem pspace (a n : Int) (t : Bool) (w : World) (ha : U64 a) (hn0 : 0 ≤ n) (hn1 : n < 4294967296) :
    Calls Tryz.prog 87 #[.agg #[.int .u64 a, .int .u32 n, .bool t]] w fun e w' => e = .returned (.bool (spB a n)) ∧ Below w.heap.size w w' := by
  obtain ⟨a0, a1⟩ := ha
  by_cases h0 : 0 < n
  · have hw : IntKind.u32.wrap (n - 1) = n - 1 := by rw [IntKind.wrap_u32]; omega
    have hw2 : IntKind.u64.wrap (n - 1) = n - 1 := by rw [IntKind.wrap_u64]; omega
    by_cases hl : 18446744073709551616 < a + n
    · have hd : decide (a ≤ IntKind.u64.wrap (a + (n - 1))) = false := by
        simp only [decide_eq_false_iff_not]
        rw [IntKind.wrap_u64]
        omega
      rw [spB_big hl]
      clear hl
      go_enter Tryz.func87, Tryz.ntmps87
      go_wp2
      go_ret
      exact ⟨rfl, (Below.refl _ _).alloc (Nat.le_refl _) _⟩
    · have hd : decide (a ≤ IntKind.u64.wrap (a + (n - 1))) = true := by
        simp only [decide_eq_true_eq]
        rw [IntKind.wrap_u64]
        omega
      rw [spB_yes h0 (by omega)]
      clear hl
      go_enter Tryz.func87, Tryz.ntmps87
      go_wp2
      go_ret
      exact ⟨rfl, (Below.refl _ _).alloc (Nat.le_refl _) _⟩
  · obtain rfl : n = 0 := by omega
    rw [spB_none h0]
    clear h0 hn0 hn1
    go_enter Tryz.func87, Tryz.ntmps87
    go_wp2
    go_ret
    exact ⟨rfl, (Below.refl _ _).alloc (Nat.le_refl _) _⟩

theorem sgC_big {L : List Sg} (hu : isSgs L) (h : 4294967296 ≤ sumS L) : sgC false 0 L = 2 := by
  rcases sgC_is L false 0 with h0 | h0
  · have := ((sgC_ok hu).1 h0).2
    omega
  · exact h0

set_option maxHeartbeats 4000000 in
theorem pcheck (v : Value) (L : List Sg) (w : World) (hv : SegsAt w v L) (hu : isSgs L) :
    Calls Tryz.prog 56 #[v] w fun e w' => e = .returned (.int .i64 (segE L)) ∧ Below w.heap.size w w' := by
  by_cases h64 : 64 < L.length
  · obtain ⟨va, vc, rfl⟩ := hv.len
    have h64i : (64 : Int) < (L.length : Int) := by omega
    have e1 : segE L = 3 := by
      unfold segE
      rw [if_pos h64]
    rw [e1]
    clear e1
    go_enter Tryz.func56, Tryz.ntmps56
    go_wp2
    go_ret
    exact ⟨rfl, Below.refl _ _⟩
  · have e64 : segE L = sgC false 0 L := by
      unfold segE
      rw [if_neg h64]
    rw [e64]
    have HS := hid_mk (psum v L w hv hu (by omega))
    have h64i : (L.length : Int) ≤ 64 := by omega
    by_cases hS : 4294967296 ≤ sumS L
    · obtain ⟨va, vc, rfl⟩ := hv.len
      rw [sgC_big hu hS]
      have hd : decide (4294967296 ≤ sumS L) = true := by simp; exact hS
      clear e64 hS hu hv
      go_enter Tryz.func56, Tryz.ntmps56
      go_wp2_with fail
      refine HS.out.mono ?_
      rintro e w1 ⟨rfl, hb⟩
      have HB := hid_mk hb
      clear hb
      go_wp2_with fail
      go_ret
      exact ⟨rfl, HB.out⟩
    · have hd : decide (4294967296 ≤ sumS L) = false := by simp; omega
      rcases hv with ⟨⟨va, vc, rfl, _⟩, rfl⟩ | ⟨b, o, c, rfl, hb1, hb2, hb3⟩
      · clear e64 hS hu
        go_enter Tryz.func56, Tryz.ntmps56
        go_wp2_with fail
        refine HS.out.mono ?_
        rintro e w1 ⟨rfl, hb⟩
        have HB := hid_mk hb
        clear hb
        go_wp2_with fail
        go_loop [3, 14] (fun n i => n = .bool false ∧ i = .int .i64 0) (fun _ i => 0)
        case atStart => exact ⟨rfl, rfl⟩
        case round =>
          obtain ⟨rfl, rfl⟩ := hrel
          go_wp2
          go_ret
          exact ⟨rfl, HB.out⟩
      · have HC := hid_mk hb3
        have HU := hid_mk hu
        have HT := hid_mk hS
        have hdone : SgInv L L.length (sumS L) → sgC false 0 L = 0 := fun h => by
          rw [h.done, if_neg hS]
        have HD := hid_mk hdone
        clear hb3 hu e64 hS hdone
        go_enter Tryz.func56, Tryz.ntmps56
        go_wp2_with fail
        refine HS.out.mono ?_
        rintro e w1 ⟨rfl, hb⟩
        have HB := hid_mk hb
        clear hb
        go_wp2_with fail
        clear hd
        go_loopw [3, 5, 14] (fun n p i wr => ∃ (k : Nat) (q : Bool), k ≤ L.length ∧ i = .int .i64 k ∧ n = .bool q ∧ Hid (q = prevT L k ∧ SgInv L k (sumS (L.take k))) ∧ Hid (Below w.heap.size w wr)) (fun _ _ i _ => L.length - (intOf i).toNat)
        case atStart => exact ⟨0, false, Nat.zero_le _, rfl, rfl, hid_mk ⟨rfl, SgInv.start L⟩, HB⟩
        case round =>
          obtain ⟨k, q, hk, rfl, rfl, hinv, hbel⟩ := hrel
          by_cases hlt : k < L.length
          · obtain ⟨c0, c1, c2⟩ := HC.out k hlt
            obtain ⟨hx, hy0, hy1⟩ := sat_is HU.out k
            have d0 := (hbel.out.cell (p := ⟨b, o + k * 3, none⟩) hb1).trans c0
            have d1 := (hbel.out.cell (p := ⟨b, o + k * 3 + 1, none⟩) hb1).trans c1
            have d2 := (hbel.out.cell (p := ⟨b, o + k * 3 + 2, none⟩) hb1).trans c2
            have hbw : b < wr.heap.size := Nat.lt_of_lt_of_le hb1 hbel.out.size
            have HK := hid_mk (fun h => hinv.out.2.stop hlt h)
            have HN := hid_mk (fun h => hinv.out.2.next hlt HU.out h)
            have HQ := hid_mk hinv.out.1
            have hst := sumS_take hlt
            have HST := hid_mk hst
            have hpt : prevT L (k + 1) = (sat L k).t := by simp [prevT]
            have HPT := hid_mk hpt
            have HB1 := hid_mk (Below.alloc hbel.out hbel.out.size (.cells #[.int .u64 (sat L k).a, .int .u32 (sat L k).n, .bool (sat L k).t] 28))
            clear c0 c1 c2 hst hpt hbel hinv
            have HSP := hid_mk (fun u => pspace (sat L k).a (sat L k).n (sat L k).t u hx hy0 hy1)
            generalize (sat L k).a = x at *
            generalize (sat L k).n = y at *
            generalize (sat L k).t = z at *
            by_cases hsp : spB x y = true
            · have hsp' := hsp
              unfold spB at hsp'
              obtain ⟨sp1, sp2⟩ := of_decide_eq_true hsp'
              have HNN : Hid (¬ (prevT L k = true ∧ z = false) → SgInv L (k + 1) (sumS (L.take (k + 1)))) := fun h => by
                rw [HST.out]
                exact HN.out (by
                  rintro (h1 | h1 | h1)
                  · omega
                  · omega
                  · exact h h1)
              rw [hsp] at HSP
              clear sp1 sp2 hsp hsp' hx hy0 hy1
              cases q
              · have HX := hid_mk (HNN.out (by rw [← HQ.out]; simp))
                go_wp2_with fail
                refine (HSP.out _).mono ?_
                rintro e w2 ⟨rfl, hb2⟩
                have HB2 := hid_mk (below_then HB1.out hb2)
                obtain ⟨bc, bf⟩ := bcell hb2
                have hz2 := hb2.size
                rw [sizeA] at hz2
                simp only [sizeA] at bc bf
                clear hb2
                go_wp2_with fail
                go_roundw
                case rel => exact ⟨k + 1, z, by omega, by go_num, rfl, hid_mk ⟨HPT.out.symm, HX.out⟩, HB2⟩
                case measure => simp [intOf]; omega
              · cases z
                · have HF := hid_mk (HK.out (Or.inr (Or.inr ⟨HQ.out.symm, rfl⟩)))
                  go_wp2_with fail
                  refine (HSP.out _).mono ?_
                  rintro e w2 ⟨rfl, hb2⟩
                  have HB2 := hid_mk (below_then HB1.out hb2)
                  obtain ⟨bc, bf⟩ := bcell hb2
                  have hz2 := hb2.size
                  rw [sizeA] at hz2
                  simp only [sizeA] at bc bf
                  clear hb2
                  go_wp2_with fail
                  go_ret
                  exact ⟨ret_eq (by rw [HF.out]; rfl), HB2.out⟩
                · have HX := hid_mk (HNN.out (by simp))
                  go_wp2_with fail
                  refine (HSP.out _).mono ?_
                  rintro e w2 ⟨rfl, hb2⟩
                  have HB2 := hid_mk (below_then HB1.out hb2)
                  obtain ⟨bc, bf⟩ := bcell hb2
                  have hz2 := hb2.size
                  rw [sizeA] at hz2
                  simp only [sizeA] at bc bf
                  clear hb2
                  go_wp2_with fail
                  go_roundw
                  case rel => exact ⟨k + 1, true, by omega, by go_num, rfl, hid_mk ⟨HPT.out.symm, HX.out⟩, HB2⟩
                  case measure => simp [intOf]; omega
            · have hsp2 : spB x y = false := by simpa using hsp
              have HF : Hid (sgC false 0 L = 2) := HK.out (by
                unfold spB at hsp2
                have := of_decide_eq_false hsp2
                omega)
              rw [hsp2] at HSP
              clear hsp hsp2 hx hy0 hy1
              go_wp2_with fail
              refine (HSP.out _).mono ?_
              rintro e w2 ⟨rfl, hb2⟩
              have HB2 := hid_mk (below_then HB1.out hb2)
              clear hb2
              go_wp2_with fail
              go_ret
              exact ⟨ret_eq (by rw [HF.out]; rfl), HB2.out⟩
          · obtain rfl : k = L.length := by omega
            have hi := hinv.out.2
            rw [List.take_length] at hi
            have HF := hid_mk (HD.out hi)
            clear hi hinv
            go_wp2_with fail
            go_ret
            exact ⟨ret_eq (by rw [HF.out]; rfl), hbel.out⟩
end Go.Proofs.YtfhhgcgbgmilcaaGreat
