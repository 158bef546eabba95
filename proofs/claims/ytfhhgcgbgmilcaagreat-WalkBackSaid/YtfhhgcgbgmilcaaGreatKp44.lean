/- Bh1 Rd4 Bd3: joined texts. Conditions: as each theorem names them. -/
import Derived.Test.YtfhhgcgbgmilcaaGreatKp26
import Derived.Test.YtfhhgcgbgmilcaaGreatKp22
import Derived.Test.YtfhhgcgbgmilcaaGreatKp29
import Derived.Test.YtfhhgcgbgmilcaaGreatKp25
import Derived.Test.YtfhhgcgbgmilcaaGreatKp06
/- build's checks: closures and the first that fails. Conditions: as each theorem names them. -/
namespace Go.Proofs.YtfhhgcgbgmilcaaGreat
open Go.ChangeShapes Go.WideShapes Go.ChangeAt Go.RowKit
set_option linter.unusedVariables false
set_option maxRecDepth 100000

/-- a check as a value: called in any later world, it answers E -/
def Chk (w : World) (v : Value) (E : Int) : Prop := ∃ f caps, v = .func (.func f) #[] caps ∧ (∀ args u, (callFunc f args).run Tryz.prog u = .ok (.enter f args) u) ∧ ∀ u, Below w.heap.size w u → Calls Tryz.prog f caps u fun e u' => e = .returned (.int .i64 E) ∧ Below u.heap.size u u'
theorem Chk.below {w w' : World} {v : Value} {E : Int} (h : Chk w v E) (hb : Below w.heap.size w w') : Chk w' v E := by
  obtain ⟨f, caps, h1, h2, h3⟩ := h
  exact ⟨f, caps, h1, h2, fun u hu => h3 u (hb.trans (hu.mono hb.size))⟩
def unlE (b : Bool) : Int := if b = true then 0 else 2
theorem bunless (b : Bool) (w : World) : Calls Tryz.prog 57 #[.bool b] w fun e w' => e = .returned (.int .i64 (unlE b)) ∧ w' = w := by
  cases b
  all_goals
    go_enter Tryz.func57, Tryz.ntmps57
    go_wp2
    go_ret
    exact ⟨rfl, rfl⟩

/-- isBuffer -/
theorem bisbuf1 (b : Nat) (v : Value) (L : List Sg) (u : World) (hc : u.cell? ⟨b, 0, none⟩ = some v) (hb : b < u.heap.size) (hv : SegsAt u v L) (hs : isSgs L) :
    Calls Tryz.prog 55 #[.pointer (some ⟨b, 0, none⟩)] u fun e u' => e = .returned (.int .i64 (mayE L)) ∧ Below u.heap.size u u' := by
  have HC := hid_mk (pcheck v L u hv hs)
  have HU := hid_mk (fun x => bunless x)
  have HE : Hid (mayE L = if segE L = 0 then unlE (decide (0 < L.length)) else segE L) := hid_mk (by
    unfold mayE unlE
    by_cases h : L.length = 0
    · simp [h]
    · rw [if_neg h, decide_eq_true (by omega)]
      simp)
  rw [HE.out]
  obtain ⟨va, vc, rfl⟩ := hv.len
  clear hv hs HE
  by_cases h1 : segE L = 0
  · rw [h1] at HC
    rw [if_pos h1]
    clear h1
    go_enter Tryz.func55, Tryz.ntmps55
    go_wp2_with fail
    refine HC.out.mono ?_
    rintro e w1 ⟨rfl, hb1⟩
    have HB1 := hid_mk hb1
    have c1 := (hb1.cell (p := ⟨b, 0, none⟩) hb).trans hc
    have hb2 := Nat.lt_of_lt_of_le hb hb1.size
    clear hb1 hc hb
    go_wp2_with fail
    refine (HU.out _ _).mono ?_
    rintro e w2 ⟨rfl, rfl⟩
    go_wp2_with fail
    go_ret
    exact ⟨rfl, HB1.out⟩
  · rw [if_neg h1]
    have hb0 : (segE L != 0) = true := by simp; exact h1
    generalize segE L = z at *
    clear h1
    go_enter Tryz.func55, Tryz.ntmps55
    go_wp2_with fail
    refine HC.out.mono ?_
    rintro e w1 ⟨rfl, hb1⟩
    have HB1 := hid_mk hb1
    clear hb1
    go_wp2_with fail
    go_ret
    exact ⟨rfl, HB1.out⟩
theorem bisbuf (v : Value) (L : List Sg) (w : World) (hv : SegsAt w v L) (hs : isSgs L) :
    Calls Tryz.prog 25 #[v] w fun e w' => ∃ x, e = .returned x ∧ Chk w' x (mayE L) ∧ Below w.heap.size w w' := by
  have hmf : ∀ (fn : Fn) (first cap : Array Value) (w : World), (Instr.makeFunc fn first cap).run Tryz.prog w = .ok (.func fn first cap) w := fun _ _ _ _ => rfl
  have HV := hid_mk hv
  obtain ⟨va, vc, rfl⟩ := hv.len
  clear hv
  go_enter Tryz.func25, Tryz.ntmps25
  go_wp2
  go_ret
  have hB := below_box w (.cells #[.slice va L.length vc] 22)
  refine ⟨_, rfl, ⟨55, _, rfl, fun args u => run_callFunc_body (by kernel_rfl) args u, fun u hu => bisbuf1 w.heap.size _ L u ?_ ?_ ((HV.out.below hB).below hu) hs⟩, hB⟩
  · rw [hu.cell (by simp)]
    simp
  · exact Nat.lt_of_lt_of_le (by simp) hu.size

/-- isBelow -/
theorem bisbel1 (b c : Nat) (id n : Int) (u : World) (hc : u.cell? ⟨b, 0, none⟩ = some (.int .i64 id)) (hd : u.cell? ⟨c, 0, none⟩ = some (.int .i64 n)) :
    Calls Tryz.prog 75 #[.pointer (some ⟨b, 0, none⟩), .pointer (some ⟨c, 0, none⟩)] u fun e u' => e = .returned (.int .i64 (unlE (okI n id))) ∧ u' = u := by
  have HU := hid_mk (fun x => bunless x)
  unfold okI
  by_cases h : 0 ≤ id
  · rw [decide_eq_true h, Bool.true_and]
    go_enter Tryz.func75, Tryz.ntmps75
    go_wp2_with fail
    refine (HU.out _ _).mono ?_
    rintro e w2 ⟨rfl, rfl⟩
    go_wp2_with fail
    go_ret
    exact ⟨rfl, rfl⟩
  · have hf : decide (0 ≤ id) = false := decide_eq_false h
    rw [hf, Bool.false_and]
    go_enter Tryz.func75, Tryz.ntmps75
    go_wp2_with fail
    refine (HU.out _ _).mono ?_
    rintro e w2 ⟨rfl, rfl⟩
    go_wp2_with fail
    go_ret
    exact ⟨rfl, rfl⟩
theorem bisbelX (id n : Int) (w : World) :
    Calls Tryz.prog 38 #[.int .i64 id, .int .i64 n] w fun e w' => e = .returned (.func (.func 75) #[] #[.pointer (some ⟨w.heap.size, 0, none⟩), .pointer (some ⟨w.heap.size + 1, 0, none⟩)]) ∧ Below w.heap.size w w' ∧ w'.cell? ⟨w.heap.size, 0, none⟩ = some (.int .i64 id) ∧ w'.cell? ⟨w.heap.size + 1, 0, none⟩ = some (.int .i64 n) ∧ w.heap.size + 1 < w'.heap.size := by
  have hmf : ∀ (fn : Fn) (first cap : Array Value) (w : World), (Instr.makeFunc fn first cap).run Tryz.prog w = .ok (.func fn first cap) w := fun _ _ _ _ => rfl
  go_enter Tryz.func38, Tryz.ntmps38
  go_wp2
  go_ret
  refine ⟨rfl, (below_box w _).alloc (by simp) _, ?_, ?_, ?_⟩ <;> go_simp
theorem bisbel (id n : Int) (w : World) :
    Calls Tryz.prog 38 #[.int .i64 id, .int .i64 n] w fun e w' => ∃ x, e = .returned x ∧ Chk w' x (unlE (okI n id)) ∧ Below w.heap.size w w' := by
  refine (bisbelX id n w).mono ?_
  rintro e w' ⟨rfl, hb, h1, h2, h3⟩
  refine ⟨_, rfl, ⟨75, _, rfl, fun args u => run_callFunc_body (by kernel_rfl) args u, fun u hu => (bisbel1 w.heap.size (w.heap.size + 1) id n u ?_ ?_).mono ?_⟩, hb⟩
  · exact (hu.cell (p := ⟨w.heap.size, 0, none⟩) (Nat.lt_of_succ_lt h3)).trans h1
  · exact (hu.cell (p := ⟨w.heap.size + 1, 0, none⟩) h3).trans h2
  · rintro e u' ⟨rfl, rfl⟩
    exact ⟨rfl, Below.refl _ _⟩

/-- isCount -/
theorem biscnt1 (b : Nat) (n : Int) (u : World) (hc : u.cell? ⟨b, 0, none⟩ = some (.int .i64 n)) :
    Calls Tryz.prog 76 #[.pointer (some ⟨b, 0, none⟩)] u fun e u' => e = .returned (.int .i64 (unlE (decide (1 ≤ n) && decide (n ≤ 64)))) ∧ u' = u := by
  have HU := hid_mk (fun x => bunless x)
  by_cases h : 1 ≤ n
  · rw [decide_eq_true h, Bool.true_and]
    go_enter Tryz.func76, Tryz.ntmps76
    go_wp2_with fail
    refine (HU.out _ _).mono ?_
    rintro e w2 ⟨rfl, rfl⟩
    go_wp2_with fail
    go_ret
    exact ⟨rfl, rfl⟩
  · have hf : decide (1 ≤ n) = false := decide_eq_false h
    rw [hf, Bool.false_and]
    go_enter Tryz.func76, Tryz.ntmps76
    go_wp2_with fail
    refine (HU.out _ _).mono ?_
    rintro e w2 ⟨rfl, rfl⟩
    go_wp2_with fail
    go_ret
    exact ⟨rfl, rfl⟩
theorem biscnt (n : Int) (w : World) :
    Calls Tryz.prog 39 #[.int .i64 n] w fun e w' => ∃ x, e = .returned x ∧ Chk w' x (unlE (decide (1 ≤ n) && decide (n ≤ 64))) ∧ Below w.heap.size w w' := by
  have hmf : ∀ (fn : Fn) (first cap : Array Value) (w : World), (Instr.makeFunc fn first cap).run Tryz.prog w = .ok (.func fn first cap) w := fun _ _ _ _ => rfl
  go_enter Tryz.func39, Tryz.ntmps39
  go_wp2
  go_ret
  have hB := below_box w (.cells #[.int .i64 n] 3)
  refine ⟨_, rfl, ⟨76, _, rfl, fun args u => run_callFunc_body (by kernel_rfl) args u, fun u hu => (biscnt1 w.heap.size n u ?_).mono ?_⟩, hB⟩
  · rw [hu.cell (by simp)]
    simp
  · rintro e u' ⟨rfl, rfl⟩
    exact ⟨rfl, Below.refl _ _⟩

/-- isPlace -/
theorem bispla1 (b c : Nat) (p n : Int) (t : Bool) (u : World) (hc : u.cell? ⟨b, 0, none⟩ = some (.int .i64 p)) (hc2 : u.cell? ⟨b, 1, none⟩ = some (.bool t)) (hd : u.cell? ⟨c, 0, none⟩ = some (.int .i64 n)) :
    Calls Tryz.prog 78 #[.pointer (some ⟨b, 0, none⟩), .pointer (some ⟨c, 0, none⟩)] u fun e u' => e = .returned (.int .i64 (chkI p n)) ∧ Below u.heap.size u u' := by
  have HU := hid_mk (check_all p n t)
  generalize chkI p n = z at *
  go_enter Tryz.func78, Tryz.ntmps78
  go_wp2_with fail
  refine (HU.out _).mono ?_
  rintro e w2 ⟨rfl, hb⟩
  have HB := hid_mk hb
  clear hb
  go_wp2_with fail
  go_ret
  exact ⟨rfl, HB.out⟩
theorem bispla (p n : Int) (t : Bool) (w : World) :
    Calls Tryz.prog 42 #[.agg #[.int .i64 p, .bool t], .int .i64 n] w fun e w' => ∃ x, e = .returned x ∧ Chk w' x (chkI p n) ∧ Below w.heap.size w w' := by
  have hmf : ∀ (fn : Fn) (first cap : Array Value) (w : World), (Instr.makeFunc fn first cap).run Tryz.prog w = .ok (.func fn first cap) w := fun _ _ _ _ => rfl
  go_enter Tryz.func42, Tryz.ntmps42
  go_wp2
  go_ret
  have hB := (below_box w (.cells #[.int .i64 p, .bool t] 58)).alloc (by simp) (.cells #[.int .i64 n] 3)
  refine ⟨_, rfl, ⟨78, _, rfl, fun args u => run_callFunc_body (by kernel_rfl) args u, fun u hu => bispla1 w.heap.size (w.heap.size + 1) p n t u ?_ ?_ ?_⟩, hB⟩
  · rw [hu.cell (by simp <;> omega)]
    go_simp
  · rw [hu.cell (by simp <;> omega)]
    go_simp
  · rw [hu.cell (by simp <;> omega)]
    go_simp

/-- fits -/
theorem bfits1 (b c N : Nat) (n : Int) (va : Option Addr) (vc : Nat) (u : World) (hc : u.cell? ⟨b, 0, none⟩ = some (.slice va N vc)) (hd : u.cell? ⟨c, 0, none⟩ = some (.int .i64 n)) :
    Calls Tryz.prog 79 #[.pointer (some ⟨b, 0, none⟩), .pointer (some ⟨c, 0, none⟩)] u fun e u' => e = .returned (.int .i64 (unlE (decide ((N : Int) ≤ n)))) ∧ u' = u := by
  have HU := hid_mk (fun x => bunless x)
  go_enter Tryz.func79, Tryz.ntmps79
  go_wp2_with fail
  refine (HU.out _ _).mono ?_
  rintro e w2 ⟨rfl, rfl⟩
  go_wp2_with fail
  go_ret
  exact ⟨rfl, rfl⟩
theorem bfits (N : Nat) (n : Int) (va : Option Addr) (vc : Nat) (w : World) :
    Calls Tryz.prog 43 #[.slice va N vc, .int .i64 n] w fun e w' => ∃ x, e = .returned x ∧ Chk w' x (unlE (decide ((N : Int) ≤ n))) ∧ Below w.heap.size w w' := by
  have hmf : ∀ (fn : Fn) (first cap : Array Value) (w : World), (Instr.makeFunc fn first cap).run Tryz.prog w = .ok (.func fn first cap) w := fun _ _ _ _ => rfl
  go_enter Tryz.func43, Tryz.ntmps43
  go_wp2
  go_ret
  have hB := (below_box w (.cells #[.slice va N vc] 22)).alloc (by simp) (.cells #[.int .i64 n] 3)
  refine ⟨_, rfl, ⟨79, _, rfl, fun args u => run_callFunc_body (by kernel_rfl) args u, fun u hu => (bfits1 w.heap.size (w.heap.size + 1) N n va vc u ?_ ?_).mono ?_⟩, hB⟩
  · rw [hu.cell (by simp <;> omega)]
    go_simp
  · rw [hu.cell (by simp <;> omega)]
    go_simp
  · rintro e u' ⟨rfl, rfl⟩
    exact ⟨rfl, Below.refl _ _⟩
end Go.Proofs.YtfhhgcgbgmilcaaGreat

/- The reference of layer 3: Avail, Used, Mark. Conditions: as each theorem names them. -/
namespace Go.Proofs.YtfhhgcgbgmilcaaGreat
open Go.ChangeShapes Go.WideShapes Go.ChangeAt Go.RowKit
set_option linter.unusedVariables false
set_option maxRecDepth 100000

theorem and_bit (n k : Nat) : n &&& 2 ^ k = if n.testBit k then 2 ^ k else 0 := by
  apply Nat.eq_of_testBit_eq
  intro i
  rw [Nat.testBit_and, Nat.testBit_two_pow]
  by_cases h : k = i
  · subst h
    cases hb : n.testBit k <;> simp
  · cases hb : n.testBit k <;> simp [h]
theorem own_bits (n : Nat) : ownN n = (if n.testBit 7 then 128 else 0) ||| (if n.testBit 15 then 32768 else 0) := by
  have h7 := and_bit n 7
  have h15 := and_bit n 15
  unfold ownN
  rw [show (32896 : Nat) = 2 ^ 7 ||| 2 ^ 15 from by decide, Nat.and_or_distrib_left, h7, h15]
end Go.Proofs.YtfhhgcgbgmilcaaGreat

/- The reference of layer 9: PackedOne. Conditions: as each theorem names them. Written by mkbd3.py. -/
namespace Go.Proofs.YtfhhgcgbgmilcaaGreat
open Go.ChangeShapes Go.WideShapes Go.ChangeAt Go.RowKit
set_option linter.unusedVariables false
set_option maxRecDepth 100000

/-- five cells of block rb are written -/
def Put5 (rb : Nat) (w w' : World) : Prop := ∃ x0 x1 x2 x3 x4, w' = ((((w.setCell ⟨rb, 0, none⟩ x0).setCell ⟨rb, 1, none⟩ x1).setCell ⟨rb, 2, none⟩ x2).setCell ⟨rb, 3, none⟩ x3).setCell ⟨rb, 4, none⟩ x4
/-- where an end stands: a box that is read, a result of five cells to be written -/
structure EndS (w : World) (bx rb : Nat) (C : List Value) (t t2 : TypeId) (W : World) : Prop where
  box : BlkAt W bx C t
  old : Below w.heap.size w W
  res : ∃ C2, C2.length = 5 ∧ BlkAt W rb C2 t2
theorem EndS.below {w W W' : World} {bx rb : Nat} {C : List Value} {t t2 : TypeId} (h : EndS w bx rb C t t2 W) (hb : Below W.heap.size W W') : EndS w bx rb C t t2 W' := by
  obtain ⟨C2, h2, hr⟩ := h.res
  exact ⟨h.box.below hb, below_then h.old hb, C2, h2, hr.below hb⟩
theorem EndS.put {w W W' : World} {bx rb : Nat} {C : List Value} {t t2 : TypeId} (h : EndS w bx rb C t t2 W) (hne : bx ≠ rb) (hw : w.heap.size ≤ rb) (hp : Put5 rb W W') : EndS w bx rb C t t2 W' := by
  obtain ⟨C2, h2, hr⟩ := h.res
  obtain ⟨x0, x1, x2, x3, x4, rfl⟩ := hp
  refine ⟨((((h.box.other hne _).other hne _).other hne _).other hne _).other hne _, ((((h.old.setCell hw _).setCell hw _).setCell hw _).setCell hw _).setCell hw _, _, ?_, ((((hr.set 0 _).set 1 _).set 2 _).set 3 _).set 4 _⟩
  simp [h2]
theorem put5_pt {w : World} {rb : Nat} {C : List Value} {t : TypeId} (x : Pt) (h : BlkAt w rb C t) (hC : C.length = 5) : BlkAt (((((w.setCell ⟨rb, 0, none⟩ (.int .i64 x.i)).setCell ⟨rb, 1, none⟩ (.int .u64 x.d.a)).setCell ⟨rb, 2, none⟩ (.int .u32 x.d.l)).setCell ⟨rb, 3, none⟩ (.int .u16 x.d.f)).setCell ⟨rb, 4, none⟩ (.int .u16 x.d.n)) rb (ptCells [x]) t := by
  have := ((((h.set 0 (.int .i64 x.i)).set 1 (.int .u64 x.d.a)).set 2 (.int .u32 x.d.l)).set 3 (.int .u16 x.d.f)).set 4 (.int .u16 x.d.n)
  match C, hC with
  | [c0, c1, c2, c3, c4], _ => exact this
theorem up_end (rb : Nat) (C : List Value) (t : TypeId) : Up (fun _ W => BlkAt W rb C t) := fun _ _ _ hb h => h.below hb
theorem blk5 {w : World} {b : Nat} {C : List Value} {t : TypeId} (h : BlkAt w b C t) (hC : C.length = 5) : (∃ c0 c1 c2 c3 c4, C = [c0, c1, c2, c3, c4] ∧ b < w.heap.size ∧ w.cell? ⟨b, 0, none⟩ = some c0 ∧ w.cell? ⟨b, 1, none⟩ = some c1 ∧ w.cell? ⟨b, 2, none⟩ = some c2 ∧ w.cell? ⟨b, 3, none⟩ = some c3 ∧ w.cell? ⟨b, 4, none⟩ = some c4) ∧ w.frozen? ⟨b, 0, none⟩ = false ∧ w.frozen? ⟨b, 1, none⟩ = false ∧ w.frozen? ⟨b, 2, none⟩ = false ∧ w.frozen? ⟨b, 3, none⟩ = false ∧ w.frozen? ⟨b, 4, none⟩ = false := by
  match C, hC with
  | [c0, c1, c2, c3, c4], _ => exact ⟨⟨c0, c1, c2, c3, c4, rfl, h.lt, h.cell 0, h.cell 1, h.cell 2, h.cell 3, h.cell 4⟩, h.free 0, h.free 1, h.free 2, h.free 3, h.free 4⟩
theorem put5_below {w a : World} {rb B : Nat} (h : Below B a w) (hb : B ≤ rb) (x0 x1 x2 x3 x4 : Value) : Below B a (((((w.setCell ⟨rb, 0, none⟩ x0).setCell ⟨rb, 1, none⟩ x1).setCell ⟨rb, 2, none⟩ x2).setCell ⟨rb, 3, none⟩ x3).setCell ⟨rb, 4, none⟩ x4) := ((((h.setCell hb _).setCell hb _).setCell hb _).setCell hb _).setCell hb _
theorem eval_c2 (a : Act) (v : Value) : a.eval (.const v) = v := rfl
end Go.Proofs.YtfhhgcgbgmilcaaGreat
