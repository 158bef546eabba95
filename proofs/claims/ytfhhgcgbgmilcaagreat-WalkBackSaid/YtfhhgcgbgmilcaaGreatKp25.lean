/- Outl Outl2 Outl3: joined texts. Conditions: as each theorem names them. -/
import Derived.Test.YtfhhgcgbgmilcaaGreatKp01
import Derived.Orders
/- A region that draws its order, by an outline: each operation's own step, wherever it comes up; what it leaves holds in every later world. No program in sight. -/
namespace Go.Proofs.YtfhhgcgbgmilcaaGreat
open Go Go.RowKit
set_option linter.unusedVariables false

/-- what holds of a value in every later world -/
def Up (p : Value → World → Prop) : Prop := ∀ v w w', Below w.heap.size w w' → p v w → p v w'
theorem up_eq (c : Value) : Up (fun v _ => v = c) := fun _ _ _ _ h => h

section
variable {P : Program} {ops : Array Oper} {Q : Exit → Act → World → Prop} {a0 : Act} {S : World → Prop} {R : Nat → Value → World → Prop}

/-- what is known when some operations have come up -/
structure OInv (ops : Array Oper) (a0 : Act) (S : World → Prop) (R : Nat → Value → World → Prop) (listed : Array Bool) (a : Act) (w : World) : Prop where
  s : S w
  size : listed.size = ops.size
  tsize : a.tmps.size = a0.tmps.size
  dfr : a.defers = a0.defers
  old : ∀ k, (∀ i o, ops[i]? = some o → o.dst = some k → listed.getD i false = false) → a.tmps[k]? = a0.tmps[k]?
  new : ∀ i o d, ops[i]? = some o → o.dst = some d → listed.getD i false = true → R i (a.eval (.tmp d)) w

/-- an operation's step, wherever it comes up -/
def OStep (P : Program) (ops : Array Oper) (Q : Exit → Act → World → Prop) (a0 : Act) (S : World → Prop) (R : Nat → Value → World → Prop) (i : Nat) (o : Oper) : Prop :=
  ∀ listed a w, OInv ops a0 S R listed a w → (∀ e ∈ o.after, Region.binds .any e = true → listed.getD e.on false = true) →
    wpOp P ops Q i (fun a' w' => ∃ v, a' = a.put o.dst v ∧ R i v w' ∧ Below w.heap.size w w') a w

/-- each operation waits for earlier ones alone; each has a slot of its own, in the frame -/
def outB (ops : Array Oper) (n : Nat) : Bool :=
  (List.range ops.size).all fun i => match ops[i]? with
    | none => true
    | some o => (o.after.all fun e => !Region.binds .any e || decide (e.on < i)) && (match o.dst with | none => true | some d => decide (d < n) && (List.range i).all fun j => (ops[j]?).bind (·.dst) != some d)
theorem outB_spec {n : Nat} (h : outB ops n = true) {i : Nat} {o : Oper} (hi : ops[i]? = some o) :
    (∀ e ∈ o.after, Region.binds .any e = true → e.on < i) ∧ ∀ d, o.dst = some d → d < n ∧ ∀ j oj, j < i → ops[j]? = some oj → oj.dst ≠ some d := by
  have hlt : i < ops.size := (Array.getElem?_eq_some_iff.1 hi).1
  have h1 := List.all_eq_true.1 h i (List.mem_range.2 hlt)
  simp only [hi, Bool.and_eq_true] at h1
  refine ⟨fun e he hb => by
    have := Array.all_eq_true_iff_forall_mem.1 h1.1 e he
    rw [hb] at this
    simpa using this, fun d hd => ?_⟩
  have h2 := h1.2
  simp only [hd, Bool.and_eq_true, decide_eq_true_eq] at h2
  refine ⟨h2.1, fun j oj hj hoj hdj => ?_⟩
  have h3 := List.all_eq_true.1 h2.2 j (List.mem_range.2 hj)
  simp [hoj, hdj] at h3

theorem OInv.step (hok : outB ops a0.tmps.size = true) (hS : ∀ w w', Below w.heap.size w w' → S w → S w') (hR : ∀ i, Up (R i)) {listed : Array Bool} {a : Act} {w w' : World} {i : Nat} {o : Oper} {v : Value}
    (h : OInv ops a0 S R listed a w) (hi : ops[i]? = some o) (hv : R i v w') (hb : Below w.heap.size w w') : OInv ops a0 S R (listed.setIfInBounds i true) (a.put o.dst v) w' := by
  have hspec := outB_spec hok hi
  have hilt : i < ops.size := (Array.getElem?_eq_some_iff.1 hi).1
  have hset : (listed.setIfInBounds i true).getD i false = true := by
    have := h.size
    simp [show i < listed.size by omega]
  refine ⟨hS w w' hb h.s, by simpa using h.size, ?_, ?_, ?_, ?_⟩
  · have := h.tsize
    cases hd : o.dst <;> simp [Act.put, this]
  · rw [← h.dfr]
    cases hd : o.dst <;> rfl
  · intro k hk
    have hne : o.dst ≠ some k := fun e => by
      have := hk i o hi e
      rw [hset] at this
      cases this
    rw [← h.old k (fun j oj hj hdj => by
      by_cases hji : i = j
      · subst hji
        rw [hi] at hj
        cases hj
        exact absurd hdj hne
      · rw [← getD_set_ne false hji]
        exact hk j oj hj hdj)]
    cases hd : o.dst with
    | none => rfl
    | some d =>
      have : d ≠ k := fun e => hne (by rw [hd, e])
      simp [Act.put, Array.getElem?_setIfInBounds_ne this]
  · intro j oj d hj hd hl
    by_cases hji : i = j
    · subst hji
      rw [hi] at hj
      cases hj
      have hdl : d < a.tmps.size := by rw [h.tsize]; exact (hspec.2 d hd).1
      have e : (a.put o.dst v).eval (.tmp d) = v := by
        simp [hd, Act.put, Act.eval, hdl]
      rw [e]
      exact hv
    · rw [getD_set_ne false hji] at hl
      have hne : ∀ d', o.dst = some d' → Operand.tmp d ≠ Operand.tmp d' := fun d' hd' e => by
        cases e
        rcases Nat.lt_or_gt_of_ne hji with hlt | hgt
        · exact (((outB_spec hok hj).2 d hd).2 i o hlt hi) hd'
        · exact ((hspec.2 d hd').2 j oj hgt hj) hd
      rw [Act.eval_put hne]
      exact hR j _ w w' hb (h.new j oj d hj hd hl)

theorem all_listed {n : Nat} (hok : outB ops n = true) {listed : Array Bool} (hs : listed.size = ops.size) (hr : Region.ready .any ops listed = []) : ∀ i, i < ops.size → listed.getD i false = true := by
  intro i
  induction i using Nat.strongRecOn with
  | ind i ih =>
    intro hi
    cases hl : listed.getD i false with
    | true => rfl
    | false =>
      exfalso
      have ho : ops[i]? = some ops[i] := Array.getElem?_eq_getElem hi
      have hmem : i ∈ Region.ready .any ops listed := by
        rw [mem_ready]
        refine ⟨?_, ops[i], ho, fun e he hbn => ?_⟩
        · have hil : i < listed.size := by omega
          simp [hil] at hl ⊢
          exact hl
        · have := (outB_spec hok ho).1 e he hbn
          exact ih e.on this (by omega)
      rw [hr] at hmem
      cases hmem

/-- how many have not come up yet -/
def unl (n : Nat) (listed : Array Bool) : Nat := ((List.range n).filter fun i => !listed.getD i false).length
theorem filter_lt {α : Type} {p q : α → Bool} : ∀ {l : List α}, (∀ x ∈ l, q x = true → p x = true) → (∃ x ∈ l, p x = true ∧ q x = false) → (l.filter q).length < (l.filter p).length
  | [], _, ⟨x, hx, _⟩ => by cases hx
  | y :: l, h, hex => by
    have hle : (l.filter q).length ≤ (l.filter p).length := by
      clear hex
      induction l with
      | nil => simp
      | cons z l ih =>
        have ih' := ih (fun x hx => h x (by
          rcases List.mem_cons.1 hx with e | e
          · simp [e]
          · simp [e]))
        have hz := h z (by simp)
        cases hq : q z <;> cases hp : p z
        · simp [hq, hp]; exact ih'
        · simp [hq, hp]; omega
        · rw [hz hq] at hp; cases hp
        · simp [hq, hp]; exact ih'
    cases hq : q y <;> cases hp : p y
    · have hex' : ∃ x ∈ l, p x = true ∧ q x = false := by
        obtain ⟨x, hx, h1, h2⟩ := hex
        rcases List.mem_cons.1 hx with e | e
        · rw [e, hp] at h1; cases h1
        · exact ⟨x, e, h1, h2⟩
      have := filter_lt (l := l) (fun x hx => h x (by simp [hx])) hex'
      simp [hq, hp]; exact this
    · simp [hq, hp]; omega
    · have := h y (by simp) hq
      rw [this] at hp; cases hp
    · have hex' : ∃ x ∈ l, p x = true ∧ q x = false := by
        obtain ⟨x, hx, h1, h2⟩ := hex
        rcases List.mem_cons.1 hx with e | e
        · rw [e, hq] at h2; cases h2
        · exact ⟨x, e, h1, h2⟩
      have := filter_lt (l := l) (fun x hx => h x (by simp [hx])) hex'
      simp [hq, hp]; exact this
theorem unl_set {n i : Nat} {listed : Array Bool} (hn : listed.size = n) (hi : i < n) (hl : listed.getD i false = false) : unl n (listed.setIfInBounds i true) < unl n listed := by
  refine filter_lt (fun x hx h => ?_) ⟨i, List.mem_range.2 hi, by simp only [hl, Bool.not_false], ?_⟩
  · cases hx2 : listed.getD x false with
    | false => rfl
    | true =>
      rw [getD_set_true hx2] at h
      cases h
  · simp [show i < listed.size by omega]

theorem outline_any (hok : outB ops a0.tmps.size = true) (hS : ∀ w w', Below w.heap.size w w' → S w → S w') (hR : ∀ i, Up (R i))
    (hstep : ∀ i o, ops[i]? = some o → OStep P ops Q a0 S R i o) (hend : ∀ listed a w, OInv ops a0 S R listed a w → (∀ i, i < ops.size → listed.getD i false = true) → Q .normal a w) :
    ∀ (fuel : Nat) (listed : Array Bool) (a : Act) (w : World), unl ops.size listed ≤ fuel → OInv ops a0 S R listed a w → wpAny P .any ops Q fuel listed a w := by
  intro fuel
  induction fuel with
  | zero =>
    intro listed a w hu h
    have hnil : Region.ready .any ops listed = [] := by
      cases hr : Region.ready .any ops listed with
      | nil => rfl
      | cons i l =>
        exfalso
        have hm : i ∈ Region.ready .any ops listed := by rw [hr]; simp
        obtain ⟨h0, o, ho, _⟩ := mem_ready.1 hm
        have hlt : i < ops.size := (Array.getElem?_eq_some_iff.1 ho).1
        have hs := h.size
        have hl : listed.getD i false = false := by
          have : i < listed.size := by omega
          simp [this] at h0 ⊢
          exact h0
        have := unl_set hs hlt hl
        omega
    exact ⟨hnil, hend listed a w h (all_listed hok h.size hnil)⟩
  | succ fuel ih =>
    intro listed a w hu h
    refine ⟨fun hnil => hend listed a w h (all_listed hok h.size hnil), fun i hi => ?_⟩
    obtain ⟨h0, o, ho, hall⟩ := mem_ready.1 hi
    have hlt : i < ops.size := (Array.getElem?_eq_some_iff.1 ho).1
    have hs := h.size
    have hl : listed.getD i false = false := by
      have : i < listed.size := by omega
      simp [this] at h0 ⊢
      exact h0
    have hun := unl_set hs hlt hl
    refine wpOp_mono ?_ (hstep i o ho listed a w h hall)
    rintro a' w' ⟨v, rfl, hv, hb⟩
    exact ih _ _ _ (by omega) (h.step hok hS hR ho hv hb)

/-- a list's operations, each with its number -/
def OAll (f : Nat → Oper → Prop) : Nat → List Oper → Prop
  | _, [] => True
  | i, o :: r => f i o ∧ OAll f (i + 1) r
theorem OAll.at {f : Nat → Oper → Prop} : ∀ {l : List Oper} {k : Nat}, OAll f k l → ∀ i o, l[i]? = some o → f (k + i) o
  | [], _, _, i, o, h => by simp at h
  | x :: l, k, h, 0, o, ho => by
    simp at ho
    subst ho
    exact h.1
  | x :: l, k, h, i + 1, o, ho => by
    have := OAll.at h.2 i o (by simpa using ho)
    rw [show k + (i + 1) = k + 1 + i from by omega]
    exact this
/-- the assertions, as a list -/
def RL (l : List (Value → World → Prop)) (i : Nat) : Value → World → Prop := (l[i]?).getD (fun _ _ => True)
def AllUp : List (Value → World → Prop) → Prop
  | [] => True
  | p :: l => Up p ∧ AllUp l
theorem AllUp.at : ∀ {l : List (Value → World → Prop)}, AllUp l → ∀ i, Up (RL l i)
  | [], _, i => by simp [RL, Up]
  | p :: l, h, 0 => by simpa [RL] using h.1
  | p :: l, h, i + 1 => by
    have := AllUp.at h.2 i
    simpa [RL] using this

theorem start_inv (w : World) (n : Nat) (hn : ops.size = n) (hs : S w) : OInv ops a0 S R (Array.replicate n false) a0 w :=
  ⟨hs, by simp [hn], rfl, rfl, fun _ _ => rfl, fun i o d hi _ hl => by
    exfalso
    have hlt : i < ops.size := (Array.getElem?_eq_some_iff.1 hi).1
    simp [show i < n by omega] at hl⟩
/-- THE RULE -/
theorem wp_region_outl {id : Nat} {w : World} (l : List (Value → World → Prop)) (S : World → Prop) (hm : P.follows .mixedOrders = true) (hok : outB ops a0.tmps.size = true) (hl : AllUp l) (hS : ∀ w w', Below w.heap.size w w' → S w → S w') (hs : S w.drew)
    (hstep : OAll (OStep P ops Q a0 S (RL l)) 0 ops.toList) (hend : ∀ listed a w, OInv ops a0 S (RL l) listed a w → (∀ i, i < ops.size → listed.getD i false = true) → Q .normal a w) : (Code.region id ops true).wp P Q a0 w := by
  refine wp_region_any hm (outline_any hok hS (AllUp.at hl) (fun i o hi => ?_) hend ops.size _ _ _ ?_ (start_inv _ _ rfl hs))
  · have := OAll.at hstep i o (by simpa using hi)
    rw [Nat.zero_add] at this
    exact this
  · unfold unl
    exact Nat.le_trans (List.length_filter_le _ _) (by simp)

/-! ## the steps -/
def noDst (ops : Array Oper) (k : Nat) : Bool := ops.all fun o => o.dst != some k
theorem OInv.base {listed : Array Bool} {a : Act} {w : World} (h : OInv ops a0 S R listed a w) (k : Nat) (hk : noDst ops k = true) : a.eval (.tmp k) = a0.eval (.tmp k) := by
  have := h.old k (fun i o hi hd => by
    have := Array.all_eq_true_iff_forall_mem.1 hk o (Array.mem_of_getElem? hi)
    simp [hd] at this)
  simp only [Act.eval, Array.getD_eq_getD_getElem?, this]
def aft (o : Oper) (j : Nat) : Bool := o.after.any fun e => Region.binds .any e && e.on == j
theorem aft_of {o : Oper} {j : Nat} {listed : Array Bool} (hall : ∀ e ∈ o.after, Region.binds .any e = true → listed.getD e.on false = true) (h : aft o j = true) : listed.getD j false = true := by
  obtain ⟨e, he, hb⟩ := Array.any_eq_true'.1 h
  simp only [Bool.and_eq_true, beq_iff_eq] at hb
  rw [← hb.2]
  exact hall e he hb.1
theorem OInv.get {listed : Array Bool} {a : Act} {w : World} {o : Oper} (h : OInv ops a0 S R listed a w) (hall : ∀ e ∈ o.after, Region.binds .any e = true → listed.getD e.on false = true) (j d : Nat)
    (hj : (ops[j]?).bind (·.dst) = some d) (ha : aft o j = true) : R j (a.eval (.tmp d)) w := by
  cases ho : ops[j]? with
  | none => simp [ho] at hj
  | some oj =>
    simp [ho] at hj
    exact h.new j oj d ho hj (aft_of hall ha)
theorem OInv.fin {listed : Array Bool} {a : Act} {w : World} (h : OInv ops a0 S R listed a w) (j d : Nat) (hj : (ops[j]?).bind (·.dst) = some d) (hl : listed.getD j false = true) : R j (a.eval (.tmp d)) w := by
  cases ho : ops[j]? with
  | none => simp [ho] at hj
  | some oj =>
    simp [ho] at hj
    exact h.new j oj d ho hj hl
theorem wanted_none {o : Oper} {a : Act} (h : o.guard = none) : Region.wanted o (yielded ops a.tmps) = true := by simp [Region.wanted, h]
theorem wanted_some {o : Oper} {a : Act} {g d : Nat} {b : Bool} (h : o.guard = some (g, b)) (hg : (ops[g]?).bind (·.dst) = some d) (he : a.eval (.tmp d) = .bool b) : Region.wanted o (yielded ops a.tmps) = true := by
  have hs : a.tmps[d]? = some (.bool b) := by
    simp only [Act.eval, Array.getD_eq_getD_getElem?] at he
    cases hd : a.tmps[d]? with
    | none => rw [hd] at he; cases he
    | some x => rw [hd] at he; simpa using he
  simp [Region.wanted, h, yielded, hg, hs]
/-- an operation that leaves a value, and the world as it is -/
theorem ostep_val {i : Nat} {o : Oper} (v : Value) (hi : ops[i]? = some o)
    (h : ∀ listed a w, OInv ops a0 S R listed a w → (∀ e ∈ o.after, Region.binds .any e = true → listed.getD e.on false = true) → Region.wanted o (yielded ops a.tmps) = true ∧ (execOp a.eval o).run P w = .ok (.value v) w ∧ R i v w) : OStep P ops Q a0 S R i o := by
  intro listed a w hinv hall
  obtain ⟨h1, h2, h3⟩ := h listed a w hinv hall
  unfold wpOp
  simp only [hi, h1, if_true]
  refine Or.inl ?_
  unfold Oper.wp
  rw [h2]
  exact ⟨v, rfl, h3, Below.refl _ _⟩
/-- the same, the value left open -/
theorem ostep_ex {i : Nat} {o : Oper} (hi : ops[i]? = some o)
    (h : ∀ listed a w, OInv ops a0 S R listed a w → (∀ e ∈ o.after, Region.binds .any e = true → listed.getD e.on false = true) → Region.wanted o (yielded ops a.tmps) = true ∧ ∃ v, (execOp a.eval o).run P w = .ok (.value v) w ∧ R i v w) : OStep P ops Q a0 S R i o := by
  intro listed a w hinv hall
  obtain ⟨h1, v, h2, h3⟩ := h listed a w hinv hall
  unfold wpOp
  simp only [hi, h1, if_true]
  refine Or.inl ?_
  unfold Oper.wp
  rw [h2]
  exact ⟨v, rfl, h3, Below.refl _ _⟩
/-- a function with a body -/
def callB (P : Program) (f : Nat) : Bool := match P.funcs[f]? with | some fn => !(fn.name == "runtime.NumGoroutine") && fn.body.isSome | none => false
theorem run_callFunc_body {f : Nat} (h : callB P f = true) (args : Array Value) (w : World) : (callFunc f args).run P w = .ok (.enter f args) w := by
  unfold callB at h
  cases hf : P.funcs[f]? with
  | none => simp [hf] at h
  | some fn =>
    simp only [hf, Bool.and_eq_true, Bool.not_eq_true'] at h
    have h1 : ¬ fn.name = "runtime.NumGoroutine" := by simpa using h.1
    have h2 : ¬ fn.body = none := fun e => by simp [e] at h
    simp [callFunc, run_program, hf, h1, h2]
/-- a call -/
theorem ostep_call {i : Nat} {o : Oper} (f : Nat) (hcb : callB P f = true) (xs : Array Operand) (ts : Array TypeId) (hi : ops[i]? = some o) (ho : o.op = .call { callee := .value (.func f), args := xs, argTypes := ts })
    (h : ∀ listed a w, OInv ops a0 S R listed a w → (∀ e ∈ o.after, Region.binds .any e = true → listed.getD e.on false = true) → Region.wanted o (yielded ops a.tmps) = true ∧ ∃ vals, xs.map a.eval = vals ∧ Calls P f vals w fun e w' => ∃ v, e = .returned v ∧ R i v w' ∧ Below w.heap.size w w') : OStep P ops Q a0 S R i o := by
  intro listed a w hinv hall
  obtain ⟨h1, vals, h2, h3⟩ := h listed a w hinv hall
  unfold wpOp
  simp only [hi, h1, if_true]
  refine Or.inl ?_
  unfold Oper.wp execOp
  have hr : ((do let d ← resolve a.eval { callee := .value (.func f), args := xs, argTypes := ts } o.type; invoke d.target d.args : Sem Next)).run P w = .ok (.enter f vals) w := by
    rw [← h2]
    simp [resolve, Act.eval, Deferred.ofValue, invoke, run_callFunc_body hcb]
  simp only [ho, hr, Oper.upon]
  refine h3.mono ?_
  rintro e w' ⟨v, rfl, hv, hb⟩
  exact ⟨v, rfl, hv, hb⟩
end
end Go.Proofs.YtfhhgcgbgmilcaaGreat

/- A region that draws its order, with a chain of operations that change memory, each waiting for the one before: an outline by phases. No program in sight. -/
namespace Go.Proofs.YtfhhgcgbgmilcaaGreat
open Go Go.RowKit
set_option linter.unusedVariables false

/-- what is known of an operation's value: it is c; or: right behind the chain's operation s (its own), p holds -/
inductive Asrt where
  | eq (c : Value)
  | nxt (s : Nat) (p : Value → World → Prop)
  | any
def Asrt.sem : Asrt → Nat → Value → World → Prop
  | .eq c, _, v, _ => v = c
  | .nxt s p, t, v, w => t = s + 1 → p v w
  | .any, _, _, _ => True
def Asrt.tag : Asrt → Option Nat
  | .nxt s _ => some s
  | _ => none
def AL (l : List Asrt) (j : Nat) : Asrt := (l[j]?).getD .any

section
variable {P : Program} {ops : Array Oper} {Q : Exit → Act → World → Prop} {a0 : Act} {S : Nat → World → Prop} {l : List Asrt} {chain : List Nat}

structure PInv (ops : Array Oper) (a0 : Act) (chain : List Nat) (S : Nat → World → Prop) (l : List Asrt) (t : Nat) (listed : Array Bool) (a : Act) (w : World) : Prop where
  s : S t w
  size : listed.size = ops.size
  tsize : a.tmps.size = a0.tmps.size
  dfr : a.defers = a0.defers
  tle : t ≤ chain.length
  phase : ∀ s c, chain[s]? = some c → (listed.getD c false = true ↔ s < t)
  closed : ∀ i o, ops[i]? = some o → listed.getD i false = true → ∀ e ∈ o.after, Region.binds .any e = true → listed.getD e.on false = true
  old : ∀ k, (∀ i o, ops[i]? = some o → o.dst = some k → listed.getD i false = false) → a.tmps[k]? = a0.tmps[k]?
  new : ∀ i o d, ops[i]? = some o → o.dst = some d → listed.getD i false = true → (AL l i).sem t (a.eval (.tmp d)) w

/-- a step: off the chain it leaves the world as it is; on the chain it goes to the next phase -/
def PStep (P : Program) (ops : Array Oper) (Q : Exit → Act → World → Prop) (a0 : Act) (chain : List Nat) (S : Nat → World → Prop) (l : List Asrt) (i : Nat) (o : Oper) : Prop :=
  (chain.contains i = false ∧ ∀ t listed a w, PInv ops a0 chain S l t listed a w → (∀ e ∈ o.after, Region.binds .any e = true → listed.getD e.on false = true) →
      (∀ s c oc, chain[s]? = some c → ops[c]? = some oc → aft oc i = true → t ≤ s) → wpOp P ops Q i (fun a' w' => ∃ v, a' = a.put o.dst v ∧ (AL l i).sem t v w ∧ w' = w) a w) ∨
  ∃ t, chain[t]? = some i ∧ ∀ listed a w, PInv ops a0 chain S l t listed a w → (∀ e ∈ o.after, Region.binds .any e = true → listed.getD e.on false = true) →
      wpOp P ops Q i (fun a' w' => ∃ v, a' = a.put o.dst v ∧ (AL l i).sem (t + 1) v w' ∧ S (t + 1) w') a w

/-- the chain: each waits for the one before; no number twice; the assertions 'nxt s' stand at the chain's own places -/
def chainB (ops : Array Oper) (chain : List Nat) (l : List Asrt) : Bool :=
  decide chain.Nodup && ((List.range chain.length).all fun s => match chain[s]?, chain[s + 1]? with
    | some c, some c' => ((ops[c']?).map (aft · c)).getD false
    | _, _ => true) && ((List.range ops.size).all fun j => match (AL l j).tag with
    | some s => chain[s]? == some j
    | none => true)

theorem frame_step (hok : outB ops a0.tmps.size = true) {listed : Array Bool} {a : Act} {i : Nat} {o : Oper} {v : Value} (hi : ops[i]? = some o) (hsz : listed.size = ops.size) (ht : a.tmps.size = a0.tmps.size)
    (hold : ∀ k, (∀ i o, ops[i]? = some o → o.dst = some k → listed.getD i false = false) → a.tmps[k]? = a0.tmps[k]?) :
    (∀ k, (∀ j oj, ops[j]? = some oj → oj.dst = some k → (listed.setIfInBounds i true).getD j false = false) → (a.put o.dst v).tmps[k]? = a0.tmps[k]?) ∧
    (∀ d, o.dst = some d → (a.put o.dst v).eval (.tmp d) = v) ∧
    (∀ j oj d, i ≠ j → ops[j]? = some oj → oj.dst = some d → (a.put o.dst v).eval (.tmp d) = a.eval (.tmp d)) := by
  have hspec := outB_spec hok hi
  have hilt : i < ops.size := (Array.getElem?_eq_some_iff.1 hi).1
  have hset : (listed.setIfInBounds i true).getD i false = true := by simp [show i < listed.size by omega]
  refine ⟨fun k hk => ?_, fun d hd => ?_, fun j oj d hji hj hd => ?_⟩
  · have hne : o.dst ≠ some k := fun e => by
      have := hk i o hi e
      rw [hset] at this
      cases this
    rw [← hold k (fun j oj hj hdj => by
      by_cases hji : i = j
      · subst hji
        rw [hi] at hj
        cases hj
        exact absurd hdj hne
      · rw [← getD_set_ne false hji]
        exact hk j oj hj hdj)]
    cases hd : o.dst with
    | none => rfl
    | some d =>
      have : d ≠ k := fun e => hne (by rw [hd, e])
      simp [Act.put, Array.getElem?_setIfInBounds_ne this]
  · have hdl : d < a.tmps.size := by rw [ht]; exact (hspec.2 d hd).1
    simp [hd, Act.put, Act.eval, hdl]
  · have hne : ∀ d', o.dst = some d' → Operand.tmp d ≠ Operand.tmp d' := fun d' hd' e => by
      cases e
      rcases Nat.lt_or_gt_of_ne hji with hlt | hgt
      · exact (((outB_spec hok hj).2 d hd).2 i o hlt hi) hd'
      · exact ((hspec.2 d hd').2 j oj hgt hj) hd
    exact Act.eval_put hne

theorem PInv.closed_step {t : Nat} {listed : Array Bool} {a : Act} {w : World} (h : PInv ops a0 chain S l t listed a w) {i : Nat} {o : Oper} (hi : ops[i]? = some o) (hall : ∀ e ∈ o.after, Region.binds .any e = true → listed.getD e.on false = true) :
    ∀ j oj, ops[j]? = some oj → (listed.setIfInBounds i true).getD j false = true → ∀ e ∈ oj.after, Region.binds .any e = true → (listed.setIfInBounds i true).getD e.on false = true := by
  intro j oj hj hl e he hb
  by_cases hji : i = j
  · subst hji
    rw [hi] at hj
    cases hj
    exact getD_set_true (hall e he hb)
  · rw [getD_set_ne false hji] at hl
    exact getD_set_true (h.closed j oj hj hl e he hb)

theorem phases_any (hok : outB ops a0.tmps.size = true) (hch : chainB ops chain l = true)
    (hstep : ∀ i o, ops[i]? = some o → PStep P ops Q a0 chain S l i o) (hend : ∀ t listed a w, PInv ops a0 chain S l t listed a w → (∀ i, i < ops.size → listed.getD i false = true) → Q .normal a w) :
    ∀ (fuel t : Nat) (listed : Array Bool) (a : Act) (w : World), unl ops.size listed ≤ fuel → PInv ops a0 chain S l t listed a w → wpAny P .any ops Q fuel listed a w := by
  unfold chainB at hch
  simp only [Bool.and_eq_true, decide_eq_true_eq] at hch
  obtain ⟨⟨hnd, hcs⟩, htags⟩ := hch
  have hwait : ∀ s c c', chain[s]? = some c → chain[s + 1]? = some c' → ∃ o, ops[c']? = some o ∧ aft o c = true := fun s c c' h1 h2 => by
    have hlt : s < chain.length := (List.getElem?_eq_some_iff.1 h1).1
    have h := List.all_eq_true.1 hcs s (List.mem_range.2 hlt)
    simp only [h1, h2] at h
    cases ho : ops[c']? with
    | none => simp [ho] at h
    | some o =>
      simp [ho] at h
      exact ⟨o, rfl, h⟩
  have htag : ∀ j s, j < ops.size → (AL l j).tag = some s → chain[s]? = some j := fun j s hj hs => by
    have h := List.all_eq_true.1 htags j (List.mem_range.2 hj)
    simp only [hs] at h
    simpa using h
  have hinj : ∀ s s' c, chain[s]? = some c → chain[s']? = some c → s = s' := fun s s' c h1 h2 => by
    obtain ⟨l1, e1⟩ := List.getElem?_eq_some_iff.1 h1
    obtain ⟨l2, e2⟩ := List.getElem?_eq_some_iff.1 h2
    exact (List.getElem_inj hnd).1 (e1.trans e2.symm)
  intro fuel
  induction fuel with
  | zero =>
    intro t listed a w hu h
    have hnil : Region.ready .any ops listed = [] := by
      cases hr : Region.ready .any ops listed with
      | nil => rfl
      | cons i l =>
        exfalso
        have hm : i ∈ Region.ready .any ops listed := by rw [hr]; simp
        obtain ⟨h0, o, ho, _⟩ := mem_ready.1 hm
        have hlt : i < ops.size := (Array.getElem?_eq_some_iff.1 ho).1
        have hs := h.size
        have hl : listed.getD i false = false := by
          have : i < listed.size := by omega
          simp [this] at h0 ⊢
          exact h0
        have := unl_set hs hlt hl
        omega
    exact ⟨hnil, hend t listed a w h (all_listed hok h.size hnil)⟩
  | succ fuel ih =>
    intro t listed a w hu h
    refine ⟨fun hnil => hend t listed a w h (all_listed hok h.size hnil), fun i hi => ?_⟩
    obtain ⟨h0, o, ho, hall⟩ := mem_ready.1 hi
    have hlt : i < ops.size := (Array.getElem?_eq_some_iff.1 ho).1
    have hs := h.size
    have hl : listed.getD i false = false := by
      have : i < listed.size := by omega
      simp [this] at h0 ⊢
      exact h0
    have hun := unl_set hs hlt hl
    have hset : (listed.setIfInBounds i true).getD i false = true := by simp [show i < listed.size by omega]
    rcases hstep i o ho with ⟨hnc, hv⟩ | ⟨t', ht', hc⟩
    · have hni : ∀ s c, chain[s]? = some c → i ≠ c := fun s c hs' e => by
        subst e
        have : chain.contains i = true := by
          rw [List.contains_iff_mem]
          exact List.mem_of_getElem? hs'
        rw [this] at hnc
        cases hnc
      refine wpOp_mono ?_ (hv t listed a w h hall (fun s c oc hs' hoc haf => ?_))
      · rintro a' w' ⟨v, rfl, hR, rfl⟩
        obtain ⟨f1, f2, f3⟩ := frame_step (v := v) hok ho h.size h.tsize h.old
        refine ih t _ _ _ (by omega) ⟨h.s, by simpa using h.size, ?_, ?_, h.tle, ?_, h.closed_step ho hall, f1, ?_⟩
        · have := h.tsize
          cases hd : o.dst <;> simp [Act.put, this]
        · rw [← h.dfr]
          cases hd : o.dst <;> rfl
        · intro s c hs'
          rw [getD_set_ne false (hni s c hs')]
          exact h.phase s c hs'
        · intro j oj d hj hd hlj
          by_cases hji : i = j
          · subst hji
            rw [ho] at hj
            cases hj
            rw [f2 d hd]
            exact hR
          · rw [getD_set_ne false hji] at hlj
            rw [f3 j oj d hji hj hd]
            exact h.new j oj d hj hd hlj
      · rcases Nat.lt_or_ge s t with hst | hst
        · exfalso
          have hlc := (h.phase s c hs').2 hst
          obtain ⟨e, he, hb⟩ := Array.any_eq_true'.1 haf
          simp only [Bool.and_eq_true, beq_iff_eq] at hb
          have := h.closed c oc hoc hlc e he hb.1
          rw [hb.2, hl] at this
          cases this
        · exact hst
    · have htt : t' = t := by
        rcases Nat.lt_trichotomy t' t with hlt' | he | hgt
        · have := (h.phase t' i ht').2 hlt'
          rw [hl] at this
          cases this
        · exact he
        · exfalso
          obtain ⟨q, rfl⟩ : ∃ q, t' = q + 1 := ⟨t' - 1, by omega⟩
          have hq : q < chain.length := by
            have := (List.getElem?_eq_some_iff.1 ht').1
            omega
          obtain ⟨o2, ho2, haf⟩ := hwait q chain[q] i (List.getElem?_eq_getElem hq) ht'
          rw [ho] at ho2
          cases ho2
          have hlq := aft_of hall haf
          have := (h.phase q chain[q] (List.getElem?_eq_getElem hq)).1 hlq
          omega
      subst htt
      refine wpOp_mono ?_ (hc listed a w h hall)
      rintro a' w' ⟨v, rfl, hR, hS⟩
      obtain ⟨f1, f2, f3⟩ := frame_step (v := v) hok ho h.size h.tsize h.old
      refine ih (t' + 1) _ _ _ (by omega) ⟨hS, by simpa using h.size, ?_, ?_, (List.getElem?_eq_some_iff.1 ht').1, ?_, h.closed_step ho hall, f1, ?_⟩
      · have := h.tsize
        cases hd : o.dst <;> simp [Act.put, this]
      · rw [← h.dfr]
        cases hd : o.dst <;> rfl
      · intro s c hs'
        by_cases hic : i = c
        · subst hic
          have := hinj s t' i hs' ht'
          subst this
          exact ⟨fun _ => by omega, fun _ => hset⟩
        · rw [getD_set_ne false hic, h.phase s c hs']
          constructor
          · intro h1
            omega
          · intro h1
            rcases Nat.lt_or_eq_of_le (Nat.lt_succ_iff.1 h1) with h2 | h2
            · exact h2
            · subst h2
              rw [ht'] at hs'
              cases hs'
              exact absurd rfl hic
      · intro j oj d hj hd hlj
        by_cases hji : i = j
        · subst hji
          rw [ho] at hj
          cases hj
          rw [f2 d hd]
          exact hR
        · rw [getD_set_ne false hji] at hlj
          rw [f3 j oj d hji hj hd]
          have hold := h.new j oj d hj hd hlj
          have hjl : j < ops.size := (Array.getElem?_eq_some_iff.1 hj).1
          have htj := htag j
          cases hA : AL l j with
          | eq c =>
            rw [hA] at hold
            exact hold
          | any => trivial
          | nxt s p =>
            rw [hA] at htj
            have := htj s hjl rfl
            intro hst
            have hst' : s = t' := by omega
            subst hst'
            rw [ht'] at this
            cases this
            exact absurd rfl hji

/-- THE RULE -/
theorem wp_region_phases {id : Nat} {w : World} (chain : List Nat) (l : List Asrt) (S : Nat → World → Prop) (hm : P.follows .mixedOrders = true) (hok : outB ops a0.tmps.size = true) (hch : chainB ops chain l = true) (hs : S 0 w.drew)
    (hstep : OAll (PStep P ops Q a0 chain S l) 0 ops.toList) (hend : ∀ t listed a w, PInv ops a0 chain S l t listed a w → (∀ i, i < ops.size → listed.getD i false = true) → Q .normal a w) : (Code.region id ops true).wp P Q a0 w := by
  refine wp_region_any hm (phases_any hok hch (fun i o hi => ?_) hend ops.size 0 _ _ _ ?_ ?_)
  · have := OAll.at hstep i o (by simpa using hi)
    rw [Nat.zero_add] at this
    exact this
  · unfold unl
    exact Nat.le_trans (List.length_filter_le _ _) (by simp)
  · have hrep : ∀ i, (Array.replicate ops.size false).getD i false = false := fun i => by
      by_cases hi : i < ops.size <;> simp [hi]
    exact ⟨hs, by simp, rfl, rfl, Nat.zero_le _, (fun s c _ => by rw [hrep]; simp), (fun i o _ hl => by rw [hrep] at hl; cases hl), (fun _ _ => rfl), (fun i o d _ _ hl => by rw [hrep] at hl; cases hl)⟩

theorem PInv.base {t : Nat} {listed : Array Bool} {a : Act} {w : World} (h : PInv ops a0 chain S l t listed a w) (k : Nat) (hk : noDst ops k = true) : a.eval (.tmp k) = a0.eval (.tmp k) := by
  have := h.old k (fun i o hi hd => by
    have := Array.all_eq_true_iff_forall_mem.1 hk o (Array.mem_of_getElem? hi)
    simp [hd] at this)
  simp only [Act.eval, Array.getD_eq_getD_getElem?, this]
theorem PInv.fin {t : Nat} {listed : Array Bool} {a : Act} {w : World} (h : PInv ops a0 chain S l t listed a w) (j d : Nat) (hj : (ops[j]?).bind (·.dst) = some d) (hl : listed.getD j false = true) : (AL l j).sem t (a.eval (.tmp d)) w := by
  cases ho : ops[j]? with
  | none => simp [ho] at hj
  | some oj =>
    simp [ho] at hj
    exact h.new j oj d ho hj hl
theorem PInv.get {t : Nat} {listed : Array Bool} {a : Act} {w : World} {o : Oper} (h : PInv ops a0 chain S l t listed a w) (hall : ∀ e ∈ o.after, Region.binds .any e = true → listed.getD e.on false = true) (j d : Nat)
    (hj : (ops[j]?).bind (·.dst) = some d) (ha : aft o j = true) : (AL l j).sem t (a.eval (.tmp d)) w := h.fin j d hj (aft_of hall ha)
/-- the frame written out: each operation's slot holds what was left there -/
def putEnd (f : Nat → Value) : List Oper → Act → Act
  | [], a => a
  | o :: r, a => putEnd f r (match o.dst with | some d => a.put (some d) (f d) | none => a)
theorem putEnd_defers (f : Nat → Value) : ∀ (os : List Oper) (a : Act), (putEnd f os a).defers = a.defers
  | [], _ => rfl
  | o :: r, a => by
    rw [putEnd, putEnd_defers f r]
    cases o.dst <;> rfl
theorem putEnd_size (f : Nat → Value) : ∀ (os : List Oper) (a : Act), (putEnd f os a).tmps.size = a.tmps.size
  | [], _ => rfl
  | o :: r, a => by
    rw [putEnd, putEnd_size f r]
    cases o.dst <;> simp [Act.put]
theorem putEnd_get (f : Nat → Value) (k : Nat) : ∀ (os : List Oper) (a : Act), k < a.tmps.size → (putEnd f os a).tmps[k]? = if os.any (fun o => o.dst == some k) then some (f k) else a.tmps[k]?
  | [], _, _ => by simp [putEnd]
  | o :: r, a, hk => by
    cases hd : o.dst with
    | none =>
      rw [putEnd, hd]
      rw [putEnd_get f k r a hk]
      simp [hd]
    | some d =>
      rw [putEnd, hd]
      rw [putEnd_get f k r _ (by simpa [Act.put] using hk)]
      by_cases hdk : d = k
      · subst hdk
        simp [hd, Act.put, hk]
      · have hne : (some d == some k) = false := by simp [hdk]
        simp [hd, hne, Act.put, Array.getElem?_setIfInBounds_ne hdk]
theorem act_ext {a b : Act} (h1 : a.tmps = b.tmps) (h2 : a.defers = b.defers) : a = b := by
  cases a
  cases b
  simp only at h1 h2
  rw [h1, h2]
theorem PInv.frame {t : Nat} {listed : Array Bool} {a : Act} {w : World} (h : PInv ops a0 chain S l t listed a w) (hall : ∀ i, i < ops.size → listed.getD i false = true) : a = putEnd (fun d => a.eval (.tmp d)) ops.toList a0 := by
  have hd : a.defers = (putEnd (fun d => a.eval (.tmp d)) ops.toList a0).defers := by rw [putEnd_defers, h.dfr]
  have ht : a.tmps = (putEnd (fun d => a.eval (.tmp d)) ops.toList a0).tmps := by
    apply Array.ext_getElem?
    intro k
    by_cases hk : k < a0.tmps.size
    · rw [putEnd_get _ k _ _ hk]
      have hka : k < a.tmps.size := by rw [h.tsize]; exact hk
      cases hany : ops.toList.any (fun o => o.dst == some k) with
      | true =>
        simp [Act.eval, hka]
      | false =>
        simp only [Bool.false_eq_true, if_false]
        refine h.old k (fun i o hi hd => ?_)
        exfalso
        have hm : o ∈ ops.toList := by simpa using Array.mem_of_getElem? hi
        have := List.any_eq_false.1 hany o hm
        simp [hd] at this
    · rw [Array.getElem?_eq_none (by rw [h.tsize]; omega), Array.getElem?_eq_none (by rw [putEnd_size]; omega)]
  exact act_ext ht hd
/-- off the chain -/
theorem pstep_val {i : Nat} {o : Oper} (v : Value) (hi : ops[i]? = some o) (hc : chain.contains i = false)
    (h : ∀ t listed a w, PInv ops a0 chain S l t listed a w → (∀ e ∈ o.after, Region.binds .any e = true → listed.getD e.on false = true) → (∀ s c oc, chain[s]? = some c → ops[c]? = some oc → aft oc i = true → t ≤ s) →
      Region.wanted o (yielded ops a.tmps) = true ∧ (execOp a.eval o).run P w = .ok (.value v) w ∧ (AL l i).sem t v w) : PStep P ops Q a0 chain S l i o := by
  refine Or.inl ⟨hc, fun t listed a w hinv hall hlate => ?_⟩
  obtain ⟨h1, h2, h3⟩ := h t listed a w hinv hall hlate
  unfold wpOp
  simp only [hi, h1, if_true]
  refine Or.inl ?_
  unfold Oper.wp
  rw [h2]
  exact ⟨v, rfl, h3, rfl⟩
/-- an operation of the chain that leaves a value, and another world -/
theorem pstep_run {i : Nat} {o : Oper} (t : Nat) (hi : ops[i]? = some o) (hc : chain[t]? = some i)
    (h : ∀ listed a w, PInv ops a0 chain S l t listed a w → (∀ e ∈ o.after, Region.binds .any e = true → listed.getD e.on false = true) →
      Region.wanted o (yielded ops a.tmps) = true ∧ ∃ v w', (execOp a.eval o).run P w = .ok (.value v) w' ∧ (AL l i).sem (t + 1) v w' ∧ S (t + 1) w') : PStep P ops Q a0 chain S l i o := by
  refine Or.inr ⟨t, hc, fun listed a w hinv hall => ?_⟩
  obtain ⟨h1, v, w', h2, h3, h4⟩ := h listed a w hinv hall
  unfold wpOp
  simp only [hi, h1, if_true]
  refine Or.inl ?_
  unfold Oper.wp
  rw [h2]
  exact ⟨v, rfl, h3, h4⟩
/-- a store of the chain -/
theorem pstep_skip {i : Nat} {o : Oper} (t : Nat) (hi : ops[i]? = some o) (hc : chain[t]? = some i)
    (h : ∀ listed a w, PInv ops a0 chain S l t listed a w → (∀ e ∈ o.after, Region.binds .any e = true → listed.getD e.on false = true) →
      Region.wanted o (yielded ops a.tmps) = true ∧ ∃ w', (execOp a.eval o).run P w = .ok .skip w' ∧ (AL l i).sem (t + 1) undef w' ∧ S (t + 1) w') : PStep P ops Q a0 chain S l i o := by
  refine Or.inr ⟨t, hc, fun listed a w hinv hall => ?_⟩
  obtain ⟨h1, w', h2, h3, h4⟩ := h listed a w hinv hall
  unfold wpOp
  simp only [hi, h1, if_true]
  refine Or.inl ?_
  unfold Oper.wp
  rw [h2]
  exact ⟨undef, rfl, h3, h4⟩
/-- a call of the chain -/
theorem pstep_call {i : Nat} {o : Oper} (t f : Nat) (hcb : callB P f = true) (xs : Array Operand) (ts : Array TypeId) (hi : ops[i]? = some o) (hc : chain[t]? = some i) (ho : o.op = .call { callee := .value (.func f), args := xs, argTypes := ts })
    (h : ∀ listed a w, PInv ops a0 chain S l t listed a w → (∀ e ∈ o.after, Region.binds .any e = true → listed.getD e.on false = true) →
      Region.wanted o (yielded ops a.tmps) = true ∧ ∃ vals, xs.map a.eval = vals ∧ Calls P f vals w fun e w' => ∃ v, e = .returned v ∧ (AL l i).sem (t + 1) v w' ∧ S (t + 1) w') : PStep P ops Q a0 chain S l i o := by
  refine Or.inr ⟨t, hc, fun listed a w hinv hall => ?_⟩
  obtain ⟨h1, vals, h2, h3⟩ := h listed a w hinv hall
  unfold wpOp
  simp only [hi, h1, if_true]
  refine Or.inl ?_
  unfold Oper.wp execOp
  have hr : ((do let d ← resolve a.eval { callee := .value (.func f), args := xs, argTypes := ts } o.type; invoke d.target d.args : Sem Next)).run P w = .ok (.enter f vals) w := by
    rw [← h2]
    simp [resolve, Act.eval, Deferred.ofValue, invoke, run_callFunc_body hcb]
  simp only [ho, hr, Oper.upon]
  refine h3.mono ?_
  rintro e w' ⟨v, rfl, hv, hb⟩
  exact ⟨v, rfl, hv, hb⟩
end
end Go.Proofs.YtfhhgcgbgmilcaaGreat

/- A region that draws its order, an outline: operations that leave old memory as it is, and a few that write known blocks (a store, an append in place), each with a relation of its own. No program in sight. -/
namespace Go.Proofs.YtfhhgcgbgmilcaaGreat
open Go Go.RowKit
set_option linter.unusedVariables false

/-- stays true behind a step of T -/
def Ch (T : World → World → Prop) (p : Value → World → Prop) : Prop := ∀ v w w', T w w' → p v w → p v w'
theorem ch_eq (T : World → World → Prop) (c : Value) : Ch T (fun v _ => v = c) := fun _ _ _ _ h => h
theorem ch_any (T : World → World → Prop) : Ch T (fun _ _ => True) := fun _ _ _ _ h => h
theorem up_any : Up (fun _ _ => True) := fun _ _ _ _ h => h
/-- an operation's value; for one that leaves none: what slot lk holds -/
def dv (lk : Nat) (o : Oper) (a : Act) : Value := match o.dst with
  | some d => a.eval (.tmp d)
  | none => a.eval (.tmp lk)
/-- the special ones, each with what it may do -/
abbrev Sps := List (Nat × (World → World → Prop))
/-- what an operation may do to memory -/
def Goes (sp : Sps) (i : Nat) (w w' : World) : Prop := match sp.lookup i with
  | none => Below w.heap.size w w'
  | some T => T w w'
theorem Goes.below {sp : Sps} {i : Nat} (h : sp.lookup i = none) {w w' : World} (hb : Below w.heap.size w w') : Goes sp i w w' := by
  unfold Goes
  rw [h]
  exact hb
theorem Goes.own {sp : Sps} {i : Nat} {T : World → World → Prop} (h : sp.lookup i = some T) {w w' : World} (ht : T w w') : Goes sp i w w' := by
  unfold Goes
  rw [h]
  exact ht

section
variable {P : Program} {ops : Array Oper} {Q : Exit → Act → World → Prop} {a0 : Act} {S : World → Prop} {R : Nat → Value → World → Prop} {lk : Nat} {sp : Sps} {dd : List (Nat × Nat)} {pr : List (Nat × (World → Prop))}

structure QInv (ops : Array Oper) (a0 : Act) (S : World → Prop) (R : Nat → Value → World → Prop) (lk : Nat) (dd : List (Nat × Nat)) (pr : List (Nat × (World → Prop))) (listed : Array Bool) (a : Act) (w : World) : Prop where
  s : S w
  pre : ∀ q, q ∈ pr → listed.getD q.1 false = false → q.2 w
  size : listed.size = ops.size
  tsize : a.tmps.size = a0.tmps.size
  dfr : a.defers = a0.defers
  closed : ∀ i o, ops[i]? = some o → listed.getD i false = true → ∀ e ∈ o.after, Region.binds .any e = true → listed.getD e.on false = true
  old : ∀ k, (∀ i o, ops[i]? = some o → o.dst = some k → listed.getD i false = false) → a.tmps[k]? = a0.tmps[k]?
  new : ∀ i o, ops[i]? = some o → listed.getD i false = true → (∀ j, dd.lookup i = some j → listed.getD j false = false) → R i (dv lk o a) w

def QStep (P : Program) (ops : Array Oper) (Q : Exit → Act → World → Prop) (a0 : Act) (S : World → Prop) (R : Nat → Value → World → Prop) (lk : Nat) (sp : Sps) (dd : List (Nat × Nat)) (pr : List (Nat × (World → Prop))) (i : Nat) (o : Oper) : Prop :=
  ∀ listed a w, QInv ops a0 S R lk dd pr listed a w → listed.getD i false = false → (∀ e ∈ o.after, Region.binds .any e = true → listed.getD e.on false = true) →
    wpOp P ops Q i (fun a' w' => ∃ v, a' = a.put o.dst v ∧ R i (if o.dst = none then a.eval (.tmp lk) else v) w' ∧ Goes sp i w w') a w

/-- does operation i wait for operation j? -/
def lateN (ops : Array Oper) : Nat → Nat → Nat → Bool
  | 0, i, j => ((ops[i]?).map (aft · j)).getD false
  | n + 1, i, j => ((ops[i]?).map (aft · j)).getD false || (List.range ops.size).any fun k => ((ops[i]?).map (aft · k)).getD false && lateN ops n k j
def lateB (ops : Array Oper) (i j : Nat) : Bool := lateN ops 2 i j
theorem late_absurd {ops : Array Oper} {i j : Nat} {p : Prop} (e : lateB ops i j = true) (h : lateB ops i j = false) : p := by
  rw [e] at h
  cases h
theorem late_of {ops : Array Oper} {listed : Array Bool} (hc : ∀ i o, ops[i]? = some o → listed.getD i false = true → ∀ e ∈ o.after, Region.binds .any e = true → listed.getD e.on false = true) : ∀ (n i j : Nat), lateN ops n i j = true → listed.getD i false = true → listed.getD j false = true := by
  have one : ∀ i j, ((ops[i]?).map (aft · j)).getD false = true → listed.getD i false = true → listed.getD j false = true := fun i j h hl => by
    cases ho : ops[i]? with
    | none => simp [ho] at h
    | some o =>
      simp [ho] at h
      exact aft_of (hc i o ho hl) h
  intro n
  induction n with
  | zero => exact one
  | succ n ih =>
    intro i j h hl
    unfold lateN at h
    rw [Bool.or_eq_true] at h
    rcases h with h | h
    · exact one i j h hl
    · obtain ⟨k, _, hk⟩ := List.any_eq_true.1 h
      rw [Bool.and_eq_true] at hk
      exact ih k j hk.2 (one i k hk.1 hl)
/-- an operation that leaves no value waits for the one that fills slot lk -/
def lkB (ops : Array Oper) (lk : Nat) : Bool :=
  (List.range ops.size).all fun i => match ops[i]? with
    | none => true
    | some o => o.dst.isSome || ops.all (fun o => o.dst != some lk) || (List.range ops.size).any fun p => ((ops[p]?).bind (·.dst) == some lk) && aft o p
theorem lkB_spec (h : lkB ops lk = true) {i : Nat} {o : Oper} (hi : ops[i]? = some o) (hd : o.dst = none) :
    noDst ops lk = true ∨ ∃ p, (ops[p]?).bind (·.dst) = some lk ∧ aft o p = true := by
  have hlt : i < ops.size := (Array.getElem?_eq_some_iff.1 hi).1
  have h1 := List.all_eq_true.1 h i (List.mem_range.2 hlt)
  simp only [hi, hd, Option.isSome_none, Bool.false_or, Bool.or_eq_true] at h1
  rcases h1 with h1 | h1
  · exact Or.inl h1
  · right
    obtain ⟨p, _, hp⟩ := List.any_eq_true.1 h1
    simp only [Bool.and_eq_true, beq_iff_eq] at hp
    exact ⟨p, hp.1, hp.2⟩

theorem QInv.step (hok : outB ops a0.tmps.size = true) (hlk : lkB ops lk = true) (hS : ∀ i w w', Goes sp i w w' → S w → S w') (hP : ∀ q, q ∈ pr → ∀ i w w', i ≠ q.1 → Goes sp i w w' → q.2 w → q.2 w') (hR : ∀ i j, i ≠ j → dd.lookup i ≠ some j → lateB ops i j = false → ∀ v w w', Goes sp j w w' → R i v w → R i v w') {listed : Array Bool} {a : Act} {w w' : World} {i : Nat} {o : Oper} {v : Value}
    (h : QInv ops a0 S R lk dd pr listed a w) (hi : ops[i]? = some o) (hnl : listed.getD i false = false) (hall : ∀ e ∈ o.after, Region.binds .any e = true → listed.getD e.on false = true) (hv : R i (if o.dst = none then a.eval (.tmp lk) else v) w') (hb : Goes sp i w w') : QInv ops a0 S R lk dd pr (listed.setIfInBounds i true) (a.put o.dst v) w' := by
  have hspec := outB_spec hok hi
  have hilt : i < ops.size := (Array.getElem?_eq_some_iff.1 hi).1
  have hset : (listed.setIfInBounds i true).getD i false = true := by
    have := h.size
    simp [show i < listed.size by omega]
  refine ⟨hS i w w' hb h.s, fun q hq hl => ?_, by simpa using h.size, ?_, ?_, ?_, ?_, ?_⟩
  · have hne : i ≠ q.1 := fun e => by
      rw [← e, hset] at hl
      cases hl
    rw [getD_set_ne false hne] at hl
    exact hP q hq i w w' hne hb (h.pre q hq hl)
  · have := h.tsize
    cases hd : o.dst <;> simp [Act.put, this]
  · rw [← h.dfr]
    cases hd : o.dst <;> rfl
  · intro j oj hj hl e he hbn
    by_cases hji : i = j
    · subst hji
      rw [hi] at hj
      cases hj
      exact getD_set_true (hall e he hbn)
    · rw [getD_set_ne false hji] at hl
      exact getD_set_true (h.closed j oj hj hl e he hbn)
  · intro k hk
    have hne : o.dst ≠ some k := fun e => by
      have := hk i o hi e
      rw [hset] at this
      cases this
    rw [← h.old k (fun j oj hj hdj => by
      by_cases hji : i = j
      · subst hji
        rw [hi] at hj
        cases hj
        exact absurd hdj hne
      · rw [← getD_set_ne false hji]
        exact hk j oj hj hdj)]
    cases hd : o.dst with
    | none => rfl
    | some d =>
      have : d ≠ k := fun e => hne (by rw [hd, e])
      simp [Act.put, Array.getElem?_setIfInBounds_ne this]
  · intro j oj hj hl hdd
    by_cases hji : i = j
    · subst hji
      rw [hi] at hj
      cases hj
      cases hd : o.dst with
      | none =>
        rw [hd, if_pos rfl] at hv
        unfold dv
        rw [hd]
        exact hv
      | some d =>
        rw [hd, if_neg (by simp)] at hv
        have hdl : d < a.tmps.size := by rw [h.tsize]; exact (hspec.2 d hd).1
        have e : (a.put o.dst v).eval (.tmp d) = v := by
          simp [hd, Act.put, Act.eval, hdl]
        unfold dv
        rw [hd]
        simp only
        rw [hd] at e
        rw [e]
        exact hv
    · rw [getD_set_ne false hji] at hl
      have hdi : dd.lookup j ≠ some i := fun e => by
        have := hdd i e
        rw [hset] at this
        cases this
      have hlt : lateB ops j i = false := by
        cases hl2 : lateB ops j i with
        | false => rfl
        | true =>
          have := late_of h.closed 2 j i hl2 hl
          rw [hnl] at this
          cases this
      have hold := hR j i (fun e => hji e.symm) hdi hlt _ w w' hb (h.new j oj hj hl (fun j' hj' => by
        have h2 := hdd j' hj'
        rwa [getD_set_ne false (fun e : i = j' => hdi (by rw [hj', e]))] at h2))
      have e : dv lk oj (a.put o.dst v) = dv lk oj a := by
        unfold dv
        cases hd : oj.dst with
        | none =>
          have hne : ∀ d', o.dst = some d' → Operand.tmp lk ≠ Operand.tmp d' := fun d' hd' e => by
            cases e
            rcases lkB_spec hlk hj hd with h1 | ⟨p, h1, h2⟩
            · have := Array.all_eq_true_iff_forall_mem.1 h1 o (Array.mem_of_getElem? hi)
              simp [hd'] at this
            · have hpl := aft_of (h.closed j oj hj hl) h2
              have hpi : p = i := by
                cases hop : ops[p]? with
                | none => simp [hop] at h1
                | some op =>
                  simp [hop] at h1
                  rcases Nat.lt_trichotomy p i with hlt | he | hgt
                  · exact absurd h1 ((hspec.2 _ hd').2 p op hlt hop)
                  · exact he
                  · exact absurd hd' (((outB_spec hok hop).2 _ h1).2 i o hgt hi)
              subst hpi
              rw [hnl] at hpl
              cases hpl
          exact Act.eval_put hne
        | some d =>
          have hne : ∀ d', o.dst = some d' → Operand.tmp d ≠ Operand.tmp d' := fun d' hd' e => by
            cases e
            rcases Nat.lt_or_gt_of_ne hji with hlt | hgt
            · exact (((outB_spec hok hj).2 d hd).2 i o hlt hi) hd'
            · exact ((hspec.2 d hd').2 j oj hgt hj) hd
          exact Act.eval_put hne
      rw [e]
      exact hold

theorem outline3_any (hok : outB ops a0.tmps.size = true) (hlk : lkB ops lk = true) (hS : ∀ i w w', Goes sp i w w' → S w → S w') (hP : ∀ q, q ∈ pr → ∀ i w w', i ≠ q.1 → Goes sp i w w' → q.2 w → q.2 w') (hR : ∀ i j, i ≠ j → dd.lookup i ≠ some j → lateB ops i j = false → ∀ v w w', Goes sp j w w' → R i v w → R i v w')
    (hstep : ∀ i o, ops[i]? = some o → QStep P ops Q a0 S R lk sp dd pr i o) (hend : ∀ listed a w, QInv ops a0 S R lk dd pr listed a w → (∀ i, i < ops.size → listed.getD i false = true) → Q .normal a w) :
    ∀ (fuel : Nat) (listed : Array Bool) (a : Act) (w : World), unl ops.size listed ≤ fuel → QInv ops a0 S R lk dd pr listed a w → wpAny P .any ops Q fuel listed a w := by
  intro fuel
  induction fuel with
  | zero =>
    intro listed a w hu h
    have hnil : Region.ready .any ops listed = [] := by
      cases hr : Region.ready .any ops listed with
      | nil => rfl
      | cons i l =>
        exfalso
        have hm : i ∈ Region.ready .any ops listed := by rw [hr]; simp
        obtain ⟨h0, o, ho, _⟩ := mem_ready.1 hm
        have hlt : i < ops.size := (Array.getElem?_eq_some_iff.1 ho).1
        have hs := h.size
        have hl : listed.getD i false = false := by
          have : i < listed.size := by omega
          simp [this] at h0 ⊢
          exact h0
        have := unl_set hs hlt hl
        omega
    exact ⟨hnil, hend listed a w h (all_listed hok h.size hnil)⟩
  | succ fuel ih =>
    intro listed a w hu h
    refine ⟨fun hnil => hend listed a w h (all_listed hok h.size hnil), fun i hi => ?_⟩
    obtain ⟨h0, o, ho, hall⟩ := mem_ready.1 hi
    have hlt : i < ops.size := (Array.getElem?_eq_some_iff.1 ho).1
    have hs := h.size
    have hl : listed.getD i false = false := by
      have : i < listed.size := by omega
      simp [this] at h0 ⊢
      exact h0
    have hun := unl_set hs hlt hl
    refine wpOp_mono ?_ (hstep i o ho listed a w h hl hall)
    rintro a' w' ⟨v, rfl, hv, hb⟩
    exact ih _ _ _ (by omega) (h.step hok hlk hS hP hR ho hl hall hv hb)

/-- all but number s stay behind T -/
def AllCh (ops : Array Oper) (T : World → World → Prop) (s : Nat) (dd : List (Nat × Nat)) : Nat → List (Value → World → Prop) → Prop
  | _, [] => True
  | i, p :: l => (i ≠ s → dd.lookup i ≠ some s → lateB ops i s = false → Ch T p) ∧ AllCh ops T s dd (i + 1) l
theorem AllCh.at {T : World → World → Prop} {s : Nat} : ∀ {l : List (Value → World → Prop)} {k : Nat}, AllCh ops T s dd k l → ∀ i, k + i ≠ s → dd.lookup (k + i) ≠ some s → lateB ops (k + i) s = false → Ch T (RL l i)
  | [], _, _, i, _, _, _ => by simp [RL, Ch]
  | p :: l, k, h, 0, hne, hd, ht => by simpa [RL] using h.1 hne hd ht
  | p :: l, k, h, i + 1, hne, hd, ht => by
    have := AllCh.at h.2 i (by omega) (by rw [show k + 1 + i = k + (i + 1) from by omega]; exact hd) (by rw [show k + 1 + i = k + (i + 1) from by omega]; exact ht)
    simpa [RL] using this
/-- the special ones' own conditions -/
def AllSp (ops : Array Oper) (S : World → Prop) (dd : List (Nat × Nat)) (l : List (Value → World → Prop)) : Sps → Prop
  | [] => True
  | p :: sp => (AllCh ops p.2 p.1 dd 0 l ∧ ∀ w w', p.2 w w' → S w → S w') ∧ AllSp ops S dd l sp
theorem AllSp.at {l : List (Value → World → Prop)} : ∀ {sp : Sps}, AllSp ops S dd l sp → ∀ {j : Nat} {T : World → World → Prop}, sp.lookup j = some T → AllCh ops T j dd 0 l ∧ ∀ w w', T w w' → S w → S w'
  | [], _, j, T, h => by cases h
  | p :: sp, hh, j, T, h => by
    rw [List.lookup_cons] at h
    by_cases e : j = p.1
    · subst e
      simp at h
      subst h
      exact hh.1
    · have hb : (j == p.1) = false := by simp [e]
      rw [hb] at h
      exact AllSp.at hh.2 h
theorem start_inv3 (w : World) (n : Nat) (hn : ops.size = n) (hs : S w) (hp : ∀ q, q ∈ pr → q.2 w) : QInv ops a0 S R lk dd pr (Array.replicate n false) a0 w :=
  have hno : ∀ i, (Array.replicate n false).getD i false = true → False := fun i hl => by
    by_cases hi : i < n <;> simp [hi] at hl
  ⟨hs, fun q hq _ => hp q hq, by simp [hn], rfl, rfl, fun i o hi hl => (hno i hl).elim, fun _ _ => rfl, fun i o hi hl _ => (hno i hl).elim⟩
/-- what holds until a special one comes up -/
def AllPr (sp : Sps) : List (Nat × (World → Prop)) → Prop
  | [] => True
  | q :: pr => ((∀ w w', Below w.heap.size w w' → q.2 w → q.2 w') ∧ (∀ p, p ∈ sp → p.1 ≠ q.1 → ∀ w w', p.2 w w' → q.2 w → q.2 w')) ∧ AllPr sp pr
theorem AllPr.at {sp : Sps} : ∀ {pr : List (Nat × (World → Prop))}, AllPr sp pr → ∀ q, q ∈ pr → (∀ w w', Below w.heap.size w w' → q.2 w → q.2 w') ∧ (∀ p, p ∈ sp → p.1 ≠ q.1 → ∀ w w', p.2 w w' → q.2 w → q.2 w')
  | [], _, q, h => by cases h
  | p :: pr, hh, q, h => by
    rcases List.mem_cons.1 h with rfl | h
    · exact hh.1
    · exact AllPr.at hh.2 q h
def AllAt (w : World) : List (Nat × (World → Prop)) → Prop
  | [] => True
  | q :: pr => q.2 w ∧ AllAt w pr
theorem AllAt.at {w : World} : ∀ {pr : List (Nat × (World → Prop))}, AllAt w pr → ∀ q, q ∈ pr → q.2 w
  | [], _, q, h => by cases h
  | p :: pr, hh, q, h => by
    rcases List.mem_cons.1 h with rfl | h
    · exact hh.1
    · exact AllAt.at hh.2 q h
theorem lookup_mem {sp : Sps} {i : Nat} {T : World → World → Prop} (h : sp.lookup i = some T) : (i, T) ∈ sp := by
  induction sp with
  | nil => cases h
  | cons p sp ih =>
    rw [List.lookup_cons] at h
    by_cases e : i = p.1
    · subst e
      simp at h
      subst h
      simp
    · have hb : (i == p.1) = false := by simp [e]
      rw [hb] at h
      exact List.mem_cons_of_mem _ (ih h)
/-- THE RULE -/
theorem wp_region_outl3 {id : Nat} {w : World} (lk : Nat) (sp : Sps) (dd : List (Nat × Nat)) (pr : List (Nat × (World → Prop))) (l : List (Value → World → Prop)) (S : World → Prop) (hm : P.follows .mixedOrders = true) (hok : outB ops a0.tmps.size = true) (hlk : lkB ops lk = true) (hl : AllUp l)
    (hS : ∀ w w', Below w.heap.size w w' → S w → S w') (hs : S w.drew) (hpr : AllPr sp pr) (hp0 : AllAt w.drew pr) (hc : AllSp ops S dd l sp)
    (hstep : OAll (QStep P ops Q a0 S (RL l) lk sp dd pr) 0 ops.toList) (hend : ∀ listed a w, QInv ops a0 S (RL l) lk dd pr listed a w → (∀ i, i < ops.size → listed.getD i false = true) → Q .normal a w) : (Code.region id ops true).wp P Q a0 w := by
  refine wp_region_any hm (outline3_any (lk := lk) (sp := sp) (dd := dd) (pr := pr) hok hlk (fun i w w' hg h => ?_) (fun q hq i w w' hne hg h => ?_) (fun i j hij hdd hla v w w' hg h => ?_) (fun i o hi => ?_) hend ops.size _ _ _ ?_ (start_inv3 _ _ rfl hs hp0.at))
  · unfold Goes at hg
    split at hg
    · exact hS w w' hg h
    · rename_i T ht
      exact (hc.at ht).2 w w' hg h
  · unfold Goes at hg
    split at hg
    · exact (hpr.at q hq).1 w w' hg h
    · rename_i T ht
      exact (hpr.at q hq).2 _ (lookup_mem ht) hne w w' hg h
  · unfold Goes at hg
    split at hg
    · exact (AllUp.at hl) i v w w' hg h
    · rename_i T ht
      exact (hc.at ht).1.at i (by omega) (by rw [Nat.zero_add]; exact hdd) (by rw [Nat.zero_add]; exact hla) v w w' hg h
  · have := OAll.at hstep i o (by simpa using hi)
    rw [Nat.zero_add] at this
    exact this
  · unfold unl
    exact Nat.le_trans (List.length_filter_le _ _) (by simp)

/-! ## the steps -/
theorem QInv.base {listed : Array Bool} {a : Act} {w : World} (h : QInv ops a0 S R lk dd pr listed a w) (k : Nat) (hk : noDst ops k = true) : a.eval (.tmp k) = a0.eval (.tmp k) := by
  have := h.old k (fun i o hi hd => by
    have := Array.all_eq_true_iff_forall_mem.1 hk o (Array.mem_of_getElem? hi)
    simp [hd] at this)
  simp only [Act.eval, Array.getD_eq_getD_getElem?, this]
/-- a slot that the region writes later alone -/
def baseB (ops : Array Oper) (k i : Nat) : Bool := (List.range ops.size).all fun j => ((ops[j]?).bind (·.dst) != some k) || lateB ops j i
theorem QInv.base1 {listed : Array Bool} {a : Act} {w : World} {i : Nat} (h : QInv ops a0 S R lk dd pr listed a w) (hnl : listed.getD i false = false) (k : Nat) (hk : baseB ops k i = true) : a.eval (.tmp k) = a0.eval (.tmp k) := by
  have := h.old k (fun j o hj hd => by
    have hlt : j < ops.size := (Array.getElem?_eq_some_iff.1 hj).1
    have hb := List.all_eq_true.1 hk j (List.mem_range.2 hlt)
    rw [Bool.or_eq_true] at hb
    rcases hb with hb | hb
    · simp [hj, hd] at hb
    · cases hc : listed.getD j false with
      | false => rfl
      | true =>
        have := late_of h.closed 2 j i hb hc
        rw [hnl] at this
        cases this)
  simp only [Act.eval, Array.getD_eq_getD_getElem?, this]
theorem QInv.fin {listed : Array Bool} {a : Act} {w : World} (h : QInv ops a0 S R lk dd pr listed a w) (j d : Nat) (hj : (ops[j]?).bind (·.dst) = some d) (hl : listed.getD j false = true) (hdj : dd.lookup j = none) : R j (a.eval (.tmp d)) w := by
  cases ho : ops[j]? with
  | none => simp [ho] at hj
  | some oj =>
    simp [ho] at hj
    have := h.new j oj ho hl (fun j' e => by rw [hdj] at e; cases e)
    unfold dv at this
    rw [hj] at this
    exact this
theorem QInv.fin0 {listed : Array Bool} {a : Act} {w : World} (h : QInv ops a0 S R lk dd pr listed a w) (j : Nat) (hj : ((ops[j]?).map (·.dst)) = some none) (hl : listed.getD j false = true) (hdj : dd.lookup j = none) : R j (a.eval (.tmp lk)) w := by
  cases ho : ops[j]? with
  | none => simp [ho] at hj
  | some oj =>
    simp [ho] at hj
    have := h.new j oj ho hl (fun j' e => by rw [hdj] at e; cases e)
    unfold dv at this
    rw [hj] at this
    exact this
theorem QInv.get {listed : Array Bool} {a : Act} {w : World} {o : Oper} (h : QInv ops a0 S R lk dd pr listed a w) (hall : ∀ e ∈ o.after, Region.binds .any e = true → listed.getD e.on false = true) (j d : Nat)
    (hj : (ops[j]?).bind (·.dst) = some d) (ha : aft o j = true) (hdj : dd.lookup j = none) : R j (a.eval (.tmp d)) w := h.fin j d hj (aft_of hall ha) hdj
/-- what holds until special operation j comes up, which waits for this one -/
theorem QInv.pre1 {listed : Array Bool} {a : Act} {w : World} {i j : Nat} {p : World → Prop} (h : QInv ops a0 S R lk dd pr listed a w) (hnl : listed.getD i false = false) (hj : (j, p) ∈ pr) (hl : j = i ∨ lateB ops j i = true) : p w := by
  refine h.pre (j, p) hj ?_
  cases hc : listed.getD j false with
  | false => rfl
  | true =>
    rcases hl with rfl | hl
    · rw [hnl] at hc
      cases hc
    · have := late_of h.closed 2 j i hl hc
      rw [hnl] at this
      cases this
/-- what holds until operation i comes up, as it does now -/
theorem QInv.get1 {listed : Array Bool} {a : Act} {w : World} {o : Oper} {i : Nat} (h : QInv ops a0 S R lk dd pr listed a w) (hnl : listed.getD i false = false) (hall : ∀ e ∈ o.after, Region.binds .any e = true → listed.getD e.on false = true) (j d : Nat)
    (hj : (ops[j]?).bind (·.dst) = some d) (ha : aft o j = true) (hdj : dd.lookup j = some i) : R j (a.eval (.tmp d)) w := by
  cases ho : ops[j]? with
  | none => simp [ho] at hj
  | some oj =>
    simp [ho] at hj
    have := h.new j oj ho (aft_of hall ha) (fun j' e => by rw [hdj] at e; cases e; exact hnl)
    unfold dv at this
    rw [hj] at this
    exact this
/-- the frame behind the region -/
theorem QInv.frame {listed : Array Bool} {a : Act} {w : World} (h : QInv ops a0 S R lk dd pr listed a w) (hall : ∀ i, i < ops.size → listed.getD i false = true) : a = putEnd (fun d => a.eval (.tmp d)) ops.toList a0 := by
  have hd : a.defers = (putEnd (fun d => a.eval (.tmp d)) ops.toList a0).defers := by rw [putEnd_defers, h.dfr]
  have ht : a.tmps = (putEnd (fun d => a.eval (.tmp d)) ops.toList a0).tmps := by
    apply Array.ext_getElem?
    intro k
    by_cases hk : k < a0.tmps.size
    · rw [putEnd_get _ k _ _ hk]
      have hka : k < a.tmps.size := by rw [h.tsize]; exact hk
      cases hany : ops.toList.any (fun o => o.dst == some k) with
      | true =>
        simp [Act.eval, hka]
      | false =>
        simp only [Bool.false_eq_true, if_false]
        refine h.old k (fun i o hi hd => ?_)
        exfalso
        have hm : o ∈ ops.toList := by simpa using Array.mem_of_getElem? hi
        have := List.any_eq_false.1 hany o hm
        simp [hd] at this
    · rw [Array.getElem?_eq_none (by rw [h.tsize]; omega), Array.getElem?_eq_none (by rw [putEnd_size]; omega)]
  exact act_ext ht hd
/-- an operation that leaves a value, and the world as it is -/
theorem qstep_ex {i : Nat} {o : Oper} (hi : ops[i]? = some o) (hd : o.dst.isSome = true) (hne : sp.lookup i = none)
    (h : ∀ listed a w, QInv ops a0 S R lk dd pr listed a w → listed.getD i false = false → (∀ e ∈ o.after, Region.binds .any e = true → listed.getD e.on false = true) → Region.wanted o (yielded ops a.tmps) = true ∧ ∃ v, (execOp a.eval o).run P w = .ok (.value v) w ∧ R i v w) : QStep P ops Q a0 S R lk sp dd pr i o := by
  intro listed a w hinv hnl hall
  obtain ⟨h1, v, h2, h3⟩ := h listed a w hinv hnl hall
  unfold wpOp
  simp only [hi, h1, if_true]
  refine Or.inl ?_
  unfold Oper.wp
  rw [h2]
  refine ⟨v, rfl, ?_, Goes.below hne (Below.refl _ _)⟩
  rw [if_neg (fun e => by rw [e] at hd; cases hd)]
  exact h3
theorem qstep_val {i : Nat} {o : Oper} (v : Value) (hi : ops[i]? = some o) (hd : o.dst.isSome = true) (hne : sp.lookup i = none)
    (h : ∀ listed a w, QInv ops a0 S R lk dd pr listed a w → listed.getD i false = false → (∀ e ∈ o.after, Region.binds .any e = true → listed.getD e.on false = true) → Region.wanted o (yielded ops a.tmps) = true ∧ (execOp a.eval o).run P w = .ok (.value v) w ∧ R i v w) : QStep P ops Q a0 S R lk sp dd pr i o :=
  qstep_ex hi hd hne fun listed a w hinv hnl hall => ⟨(h listed a w hinv hnl hall).1, v, (h listed a w hinv hnl hall).2⟩
/-- an operation that makes memory (a literal, an append) and leaves the old as it is -/
theorem qstep_run {i : Nat} {o : Oper} (hi : ops[i]? = some o) (hd : o.dst.isSome = true) (hne : sp.lookup i = none)
    (h : ∀ listed a w, QInv ops a0 S R lk dd pr listed a w → listed.getD i false = false → (∀ e ∈ o.after, Region.binds .any e = true → listed.getD e.on false = true) →
      Region.wanted o (yielded ops a.tmps) = true ∧ ∃ v w', (execOp a.eval o).run P w = .ok (.value v) w' ∧ R i v w' ∧ Below w.heap.size w w') : QStep P ops Q a0 S R lk sp dd pr i o := by
  intro listed a w hinv hnl hall
  obtain ⟨h1, v, w', h2, h3, h4⟩ := h listed a w hinv hnl hall
  unfold wpOp
  simp only [hi, h1, if_true]
  refine Or.inl ?_
  unfold Oper.wp
  rw [h2]
  refine ⟨v, rfl, ?_, Goes.below hne h4⟩
  rw [if_neg (fun e => by rw [e] at hd; cases hd)]
  exact h3
/-- a special one that leaves a value (an append in place) -/
theorem qstep_own {i : Nat} {o : Oper} {T : World → World → Prop} (hi : ops[i]? = some o) (hd : o.dst.isSome = true) (he : sp.lookup i = some T)
    (h : ∀ listed a w, QInv ops a0 S R lk dd pr listed a w → listed.getD i false = false → (∀ e ∈ o.after, Region.binds .any e = true → listed.getD e.on false = true) →
      Region.wanted o (yielded ops a.tmps) = true ∧ ∃ v w', (execOp a.eval o).run P w = .ok (.value v) w' ∧ R i v w' ∧ T w w') : QStep P ops Q a0 S R lk sp dd pr i o := by
  intro listed a w hinv hnl hall
  obtain ⟨h1, v, w', h2, h3, h4⟩ := h listed a w hinv hnl hall
  unfold wpOp
  simp only [hi, h1, if_true]
  refine Or.inl ?_
  unfold Oper.wp
  rw [h2]
  refine ⟨v, rfl, ?_, Goes.own he h4⟩
  rw [if_neg (fun e => by rw [e] at hd; cases hd)]
  exact h3
/-- a store -/
theorem qstep_skip {i : Nat} {o : Oper} {T : World → World → Prop} (hi : ops[i]? = some o) (hd : o.dst = none) (he : sp.lookup i = some T)
    (h : ∀ listed a w, QInv ops a0 S R lk dd pr listed a w → listed.getD i false = false → (∀ e ∈ o.after, Region.binds .any e = true → listed.getD e.on false = true) →
      Region.wanted o (yielded ops a.tmps) = true ∧ ∃ w', (execOp a.eval o).run P w = .ok .skip w' ∧ R i (a.eval (.tmp lk)) w' ∧ T w w') : QStep P ops Q a0 S R lk sp dd pr i o := by
  intro listed a w hinv hnl hall
  obtain ⟨h1, w', h2, h3, h4⟩ := h listed a w hinv hnl hall
  unfold wpOp
  simp only [hi, h1, if_true]
  refine Or.inl ?_
  unfold Oper.wp
  rw [h2]
  refine ⟨undef, rfl, ?_, Goes.own he h4⟩
  rw [if_pos hd]
  exact h3
/-- a call -/
theorem qstep_call {i : Nat} {o : Oper} (f : Nat) (hcb : callB P f = true) (xs : Array Operand) (ts : Array TypeId) (hi : ops[i]? = some o) (hd : o.dst.isSome = true) (hne : sp.lookup i = none) (ho : o.op = .call { callee := .value (.func f), args := xs, argTypes := ts })
    (h : ∀ listed a w, QInv ops a0 S R lk dd pr listed a w → listed.getD i false = false → (∀ e ∈ o.after, Region.binds .any e = true → listed.getD e.on false = true) → Region.wanted o (yielded ops a.tmps) = true ∧ ∃ vals, xs.map a.eval = vals ∧ Calls P f vals w fun e w' => ∃ v, e = .returned v ∧ R i v w' ∧ Below w.heap.size w w') : QStep P ops Q a0 S R lk sp dd pr i o := by
  intro listed a w hinv hnl hall
  obtain ⟨h1, vals, h2, h3⟩ := h listed a w hinv hnl hall
  unfold wpOp
  simp only [hi, h1, if_true]
  refine Or.inl ?_
  unfold Oper.wp execOp
  have hr : ((do let d ← resolve a.eval { callee := .value (.func f), args := xs, argTypes := ts } o.type; invoke d.target d.args : Sem Next)).run P w = .ok (.enter f vals) w := by
    rw [← h2]
    simp [resolve, Act.eval, Deferred.ofValue, invoke, run_callFunc_body hcb]
  simp only [ho, hr, Oper.upon]
  refine h3.mono ?_
  rintro e w' ⟨v, rfl, hv, hb⟩
  refine ⟨v, rfl, ?_, Goes.below hne hb⟩
  rw [if_neg (fun e => by rw [e] at hd; cases hd)]
  exact hv
end
end Go.Proofs.YtfhhgcgbgmilcaaGreat
