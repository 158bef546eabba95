/- Outl Bh1: joined texts. Conditions: as each theorem names them. -/
import Derived.Test.YtgdokgpplldddaaKp01
import Derived.Test.YtgdokgpplldddaaKp23
import Derived.Test.YtgdokgpplldddaaKp25
import Derived.Orders
/- A region that draws its order, by an outline: each operation's own step, wherever it comes up; what it leaves holds in every later world. No program in sight. -/
namespace Go.Proofs.Ytgdokgpplldddaa
open Go Go.RowKit
set_option linter.unusedVariables false

/-- what holds of a value in every later world -/
def Up (p : Value → World → Prop) : Prop := ∀ v w w', Below w.heap.size w w' → p v w → p v w'
theorem up_eq (c : Value) : Up (fun v _ => v = c) := fun _ _ _ _ h => h

section
variable {P : Program} {ops : Array Oper} {Q : Exit → Act → World → Prop} {a0 : Act} {S : World → Prop} {R : Nat → Value → World → Prop}

/-- what is known when some operations have come up -/
structure OInv (ops : Array Oper) (a0 : Act) (S : World → Prop) (R : Nat → Value → World → Prop) (listed : Array Bool) (a : Act) (w : World) : Prop where
  s : S w
  size : listed.size = ops.size
  tsize : a.tmps.size = a0.tmps.size
  dfr : a.defers = a0.defers
  old : ∀ k, (∀ i o, ops[i]? = some o → o.dst = some k → listed.getD i false = false) → a.tmps[k]? = a0.tmps[k]?
  new : ∀ i o d, ops[i]? = some o → o.dst = some d → listed.getD i false = true → R i (a.eval (.tmp d)) w

/-- an operation's step, wherever it comes up -/
def OStep (P : Program) (ops : Array Oper) (Q : Exit → Act → World → Prop) (a0 : Act) (S : World → Prop) (R : Nat → Value → World → Prop) (i : Nat) (o : Oper) : Prop :=
  ∀ listed a w, OInv ops a0 S R listed a w → (∀ e ∈ o.after, Region.binds .any e = true → listed.getD e.on false = true) →
    wpOp P ops Q i (fun a' w' => ∃ v, a' = a.put o.dst v ∧ R i v w' ∧ Below w.heap.size w w') a w

/-- each operation waits for earlier ones alone; each has a slot of its own, in the frame -/
def outB (ops : Array Oper) (n : Nat) : Bool :=
  (List.range ops.size).all fun i => match ops[i]? with
    | none => true
    | some o => (o.after.all fun e => !Region.binds .any e || decide (e.on < i)) && (match o.dst with | none => true | some d => decide (d < n) && (List.range i).all fun j => (ops[j]?).bind (·.dst) != some d)
theorem outB_spec {n : Nat} (h : outB ops n = true) {i : Nat} {o : Oper} (hi : ops[i]? = some o) :
    (∀ e ∈ o.after, Region.binds .any e = true → e.on < i) ∧ ∀ d, o.dst = some d → d < n ∧ ∀ j oj, j < i → ops[j]? = some oj → oj.dst ≠ some d := by
  have hlt : i < ops.size := (Array.getElem?_eq_some_iff.1 hi).1
  have h1 := List.all_eq_true.1 h i (List.mem_range.2 hlt)
  simp only [hi, Bool.and_eq_true] at h1
  refine ⟨fun e he hb => by
    have := Array.all_eq_true_iff_forall_mem.1 h1.1 e he
    rw [hb] at this
    simpa using this, fun d hd => ?_⟩
  have h2 := h1.2
  simp only [hd, Bool.and_eq_true, decide_eq_true_eq] at h2
  refine ⟨h2.1, fun j oj hj hoj hdj => ?_⟩
  have h3 := List.all_eq_true.1 h2.2 j (List.mem_range.2 hj)
  simp [hoj, hdj] at h3

theorem OInv.step (hok : outB ops a0.tmps.size = true) (hS : ∀ w w', Below w.heap.size w w' → S w → S w') (hR : ∀ i, Up (R i)) {listed : Array Bool} {a : Act} {w w' : World} {i : Nat} {o : Oper} {v : Value}
    (h : OInv ops a0 S R listed a w) (hi : ops[i]? = some o) (hv : R i v w') (hb : Below w.heap.size w w') : OInv ops a0 S R (listed.setIfInBounds i true) (a.put o.dst v) w' := by
  have hspec := outB_spec hok hi
  have hilt : i < ops.size := (Array.getElem?_eq_some_iff.1 hi).1
  have hset : (listed.setIfInBounds i true).getD i false = true := by
    have := h.size
    simp [show i < listed.size by omega]
  refine ⟨hS w w' hb h.s, by simpa using h.size, ?_, ?_, ?_, ?_⟩
  · have := h.tsize
    cases hd : o.dst <;> simp [Act.put, this]
  · rw [← h.dfr]
    cases hd : o.dst <;> rfl
  · intro k hk
    have hne : o.dst ≠ some k := fun e => by
      have := hk i o hi e
      rw [hset] at this
      cases this
    rw [← h.old k (fun j oj hj hdj => by
      by_cases hji : i = j
      · subst hji
        rw [hi] at hj
        cases hj
        exact absurd hdj hne
      · rw [← getD_set_ne false hji]
        exact hk j oj hj hdj)]
    cases hd : o.dst with
    | none => rfl
    | some d =>
      have : d ≠ k := fun e => hne (by rw [hd, e])
      simp [Act.put, Array.getElem?_setIfInBounds_ne this]
  · intro j oj d hj hd hl
    by_cases hji : i = j
    · subst hji
      rw [hi] at hj
      cases hj
      have hdl : d < a.tmps.size := by rw [h.tsize]; exact (hspec.2 d hd).1
      have e : (a.put o.dst v).eval (.tmp d) = v := by
        simp [hd, Act.put, Act.eval, hdl]
      rw [e]
      exact hv
    · rw [getD_set_ne false hji] at hl
      have hne : ∀ d', o.dst = some d' → Operand.tmp d ≠ Operand.tmp d' := fun d' hd' e => by
        cases e
        rcases Nat.lt_or_gt_of_ne hji with hlt | hgt
        · exact (((outB_spec hok hj).2 d hd).2 i o hlt hi) hd'
        · exact ((hspec.2 d hd').2 j oj hgt hj) hd
      rw [Act.eval_put hne]
      exact hR j _ w w' hb (h.new j oj d hj hd hl)

theorem all_listed {n : Nat} (hok : outB ops n = true) {listed : Array Bool} (hs : listed.size = ops.size) (hr : Region.ready .any ops listed = []) : ∀ i, i < ops.size → listed.getD i false = true := by
  intro i
  induction i using Nat.strongRecOn with
  | ind i ih =>
    intro hi
    cases hl : listed.getD i false with
    | true => rfl
    | false =>
      exfalso
      have ho : ops[i]? = some ops[i] := Array.getElem?_eq_getElem hi
      have hmem : i ∈ Region.ready .any ops listed := by
        rw [mem_ready]
        refine ⟨?_, ops[i], ho, fun e he hbn => ?_⟩
        · have hil : i < listed.size := by omega
          simp [hil] at hl ⊢
          exact hl
        · have := (outB_spec hok ho).1 e he hbn
          exact ih e.on this (by omega)
      rw [hr] at hmem
      cases hmem

/-- how many have not come up yet -/
def unl (n : Nat) (listed : Array Bool) : Nat := ((List.range n).filter fun i => !listed.getD i false).length
theorem filter_lt {α : Type} {p q : α → Bool} : ∀ {l : List α}, (∀ x ∈ l, q x = true → p x = true) → (∃ x ∈ l, p x = true ∧ q x = false) → (l.filter q).length < (l.filter p).length
  | [], _, ⟨x, hx, _⟩ => by cases hx
  | y :: l, h, hex => by
    have hle : (l.filter q).length ≤ (l.filter p).length := by
      clear hex
      induction l with
      | nil => simp
      | cons z l ih =>
        have ih' := ih (fun x hx => h x (by
          rcases List.mem_cons.1 hx with e | e
          · simp [e]
          · simp [e]))
        have hz := h z (by simp)
        cases hq : q z <;> cases hp : p z
        · simp [hq, hp]; exact ih'
        · simp [hq, hp]; omega
        · rw [hz hq] at hp; cases hp
        · simp [hq, hp]; exact ih'
    cases hq : q y <;> cases hp : p y
    · have hex' : ∃ x ∈ l, p x = true ∧ q x = false := by
        obtain ⟨x, hx, h1, h2⟩ := hex
        rcases List.mem_cons.1 hx with e | e
        · rw [e, hp] at h1; cases h1
        · exact ⟨x, e, h1, h2⟩
      have := filter_lt (l := l) (fun x hx => h x (by simp [hx])) hex'
      simp [hq, hp]; exact this
    · simp [hq, hp]; omega
    · have := h y (by simp) hq
      rw [this] at hp; cases hp
    · have hex' : ∃ x ∈ l, p x = true ∧ q x = false := by
        obtain ⟨x, hx, h1, h2⟩ := hex
        rcases List.mem_cons.1 hx with e | e
        · rw [e, hq] at h2; cases h2
        · exact ⟨x, e, h1, h2⟩
      have := filter_lt (l := l) (fun x hx => h x (by simp [hx])) hex'
      simp [hq, hp]; exact this
theorem unl_set {n i : Nat} {listed : Array Bool} (hn : listed.size = n) (hi : i < n) (hl : listed.getD i false = false) : unl n (listed.setIfInBounds i true) < unl n listed := by
  refine filter_lt (fun x hx h => ?_) ⟨i, List.mem_range.2 hi, by simp only [hl, Bool.not_false], ?_⟩
  · cases hx2 : listed.getD x false with
    | false => rfl
    | true =>
      rw [getD_set_true hx2] at h
      cases h
  · simp [show i < listed.size by omega]

theorem outline_any (hok : outB ops a0.tmps.size = true) (hS : ∀ w w', Below w.heap.size w w' → S w → S w') (hR : ∀ i, Up (R i))
    (hstep : ∀ i o, ops[i]? = some o → OStep P ops Q a0 S R i o) (hend : ∀ listed a w, OInv ops a0 S R listed a w → (∀ i, i < ops.size → listed.getD i false = true) → Q .normal a w) :
    ∀ (fuel : Nat) (listed : Array Bool) (a : Act) (w : World), unl ops.size listed ≤ fuel → OInv ops a0 S R listed a w → wpAny P .any ops Q fuel listed a w := by
  intro fuel
  induction fuel with
  | zero =>
    intro listed a w hu h
    have hnil : Region.ready .any ops listed = [] := by
      cases hr : Region.ready .any ops listed with
      | nil => rfl
      | cons i l =>
        exfalso
        have hm : i ∈ Region.ready .any ops listed := by rw [hr]; simp
        obtain ⟨h0, o, ho, _⟩ := mem_ready.1 hm
        have hlt : i < ops.size := (Array.getElem?_eq_some_iff.1 ho).1
        have hs := h.size
        have hl : listed.getD i false = false := by
          have : i < listed.size := by omega
          simp [this] at h0 ⊢
          exact h0
        have := unl_set hs hlt hl
        omega
    exact ⟨hnil, hend listed a w h (all_listed hok h.size hnil)⟩
  | succ fuel ih =>
    intro listed a w hu h
    refine ⟨fun hnil => hend listed a w h (all_listed hok h.size hnil), fun i hi => ?_⟩
    obtain ⟨h0, o, ho, hall⟩ := mem_ready.1 hi
    have hlt : i < ops.size := (Array.getElem?_eq_some_iff.1 ho).1
    have hs := h.size
    have hl : listed.getD i false = false := by
      have : i < listed.size := by omega
      simp [this] at h0 ⊢
      exact h0
    have hun := unl_set hs hlt hl
    refine wpOp_mono ?_ (hstep i o ho listed a w h hall)
    rintro a' w' ⟨v, rfl, hv, hb⟩
    exact ih _ _ _ (by omega) (h.step hok hS hR ho hv hb)

/-- a list's operations, each with its number -/
def OAll (f : Nat → Oper → Prop) : Nat → List Oper → Prop
  | _, [] => True
  | i, o :: r => f i o ∧ OAll f (i + 1) r
theorem OAll.at {f : Nat → Oper → Prop} : ∀ {l : List Oper} {k : Nat}, OAll f k l → ∀ i o, l[i]? = some o → f (k + i) o
  | [], _, _, i, o, h => by simp at h
  | x :: l, k, h, 0, o, ho => by
    simp at ho
    subst ho
    exact h.1
  | x :: l, k, h, i + 1, o, ho => by
    have := OAll.at h.2 i o (by simpa using ho)
    rw [show k + (i + 1) = k + 1 + i from by omega]
    exact this
/-- the assertions, as a list -/
def RL (l : List (Value → World → Prop)) (i : Nat) : Value → World → Prop := (l[i]?).getD (fun _ _ => True)
def AllUp : List (Value → World → Prop) → Prop
  | [] => True
  | p :: l => Up p ∧ AllUp l
theorem AllUp.at : ∀ {l : List (Value → World → Prop)}, AllUp l → ∀ i, Up (RL l i)
  | [], _, i => by simp [RL, Up]
  | p :: l, h, 0 => by simpa [RL] using h.1
  | p :: l, h, i + 1 => by
    have := AllUp.at h.2 i
    simpa [RL] using this

theorem start_inv (w : World) (n : Nat) (hn : ops.size = n) (hs : S w) : OInv ops a0 S R (Array.replicate n false) a0 w :=
  ⟨hs, by simp [hn], rfl, rfl, fun _ _ => rfl, fun i o d hi _ hl => by
    exfalso
    have hlt : i < ops.size := (Array.getElem?_eq_some_iff.1 hi).1
    simp [show i < n by omega] at hl⟩
/-- THE RULE -/
theorem wp_region_outl {id : Nat} {w : World} (l : List (Value → World → Prop)) (S : World → Prop) (hm : P.follows .mixedOrders = true) (hok : outB ops a0.tmps.size = true) (hl : AllUp l) (hS : ∀ w w', Below w.heap.size w w' → S w → S w') (hs : S w.drew)
    (hstep : OAll (OStep P ops Q a0 S (RL l)) 0 ops.toList) (hend : ∀ listed a w, OInv ops a0 S (RL l) listed a w → (∀ i, i < ops.size → listed.getD i false = true) → Q .normal a w) : (Code.region id ops true).wp P Q a0 w := by
  refine wp_region_any hm (outline_any hok hS (AllUp.at hl) (fun i o hi => ?_) hend ops.size _ _ _ ?_ (start_inv _ _ rfl hs))
  · have := OAll.at hstep i o (by simpa using hi)
    rw [Nat.zero_add] at this
    exact this
  · unfold unl
    exact Nat.le_trans (List.length_filter_le _ _) (by simp)

/-! ## the steps -/
def noDst (ops : Array Oper) (k : Nat) : Bool := ops.all fun o => o.dst != some k
theorem OInv.base {listed : Array Bool} {a : Act} {w : World} (h : OInv ops a0 S R listed a w) (k : Nat) (hk : noDst ops k = true) : a.eval (.tmp k) = a0.eval (.tmp k) := by
  have := h.old k (fun i o hi hd => by
    have := Array.all_eq_true_iff_forall_mem.1 hk o (Array.mem_of_getElem? hi)
    simp [hd] at this)
  simp only [Act.eval, Array.getD_eq_getD_getElem?, this]
def aft (o : Oper) (j : Nat) : Bool := o.after.any fun e => Region.binds .any e && e.on == j
theorem aft_of {o : Oper} {j : Nat} {listed : Array Bool} (hall : ∀ e ∈ o.after, Region.binds .any e = true → listed.getD e.on false = true) (h : aft o j = true) : listed.getD j false = true := by
  obtain ⟨e, he, hb⟩ := Array.any_eq_true'.1 h
  simp only [Bool.and_eq_true, beq_iff_eq] at hb
  rw [← hb.2]
  exact hall e he hb.1
theorem OInv.get {listed : Array Bool} {a : Act} {w : World} {o : Oper} (h : OInv ops a0 S R listed a w) (hall : ∀ e ∈ o.after, Region.binds .any e = true → listed.getD e.on false = true) (j d : Nat)
    (hj : (ops[j]?).bind (·.dst) = some d) (ha : aft o j = true) : R j (a.eval (.tmp d)) w := by
  cases ho : ops[j]? with
  | none => simp [ho] at hj
  | some oj =>
    simp [ho] at hj
    exact h.new j oj d ho hj (aft_of hall ha)
theorem OInv.fin {listed : Array Bool} {a : Act} {w : World} (h : OInv ops a0 S R listed a w) (j d : Nat) (hj : (ops[j]?).bind (·.dst) = some d) (hl : listed.getD j false = true) : R j (a.eval (.tmp d)) w := by
  cases ho : ops[j]? with
  | none => simp [ho] at hj
  | some oj =>
    simp [ho] at hj
    exact h.new j oj d ho hj hl
theorem wanted_none {o : Oper} {a : Act} (h : o.guard = none) : Region.wanted o (yielded ops a.tmps) = true := by simp [Region.wanted, h]
theorem wanted_some {o : Oper} {a : Act} {g d : Nat} {b : Bool} (h : o.guard = some (g, b)) (hg : (ops[g]?).bind (·.dst) = some d) (he : a.eval (.tmp d) = .bool b) : Region.wanted o (yielded ops a.tmps) = true := by
  have hs : a.tmps[d]? = some (.bool b) := by
    simp only [Act.eval, Array.getD_eq_getD_getElem?] at he
    cases hd : a.tmps[d]? with
    | none => rw [hd] at he; cases he
    | some x => rw [hd] at he; simpa using he
  simp [Region.wanted, h, yielded, hg, hs]
/-- an operation that leaves a value, and the world as it is -/
theorem ostep_val {i : Nat} {o : Oper} (v : Value) (hi : ops[i]? = some o)
    (h : ∀ listed a w, OInv ops a0 S R listed a w → (∀ e ∈ o.after, Region.binds .any e = true → listed.getD e.on false = true) → Region.wanted o (yielded ops a.tmps) = true ∧ (execOp a.eval o).run P w = .ok (.value v) w ∧ R i v w) : OStep P ops Q a0 S R i o := by
  intro listed a w hinv hall
  obtain ⟨h1, h2, h3⟩ := h listed a w hinv hall
  unfold wpOp
  simp only [hi, h1, if_true]
  refine Or.inl ?_
  unfold Oper.wp
  rw [h2]
  exact ⟨v, rfl, h3, Below.refl _ _⟩
/-- the same, the value left open -/
theorem ostep_ex {i : Nat} {o : Oper} (hi : ops[i]? = some o)
    (h : ∀ listed a w, OInv ops a0 S R listed a w → (∀ e ∈ o.after, Region.binds .any e = true → listed.getD e.on false = true) → Region.wanted o (yielded ops a.tmps) = true ∧ ∃ v, (execOp a.eval o).run P w = .ok (.value v) w ∧ R i v w) : OStep P ops Q a0 S R i o := by
  intro listed a w hinv hall
  obtain ⟨h1, v, h2, h3⟩ := h listed a w hinv hall
  unfold wpOp
  simp only [hi, h1, if_true]
  refine Or.inl ?_
  unfold Oper.wp
  rw [h2]
  exact ⟨v, rfl, h3, Below.refl _ _⟩
/-- a function with a body -/
def callB (P : Program) (f : Nat) : Bool := match P.funcs[f]? with | some fn => !(fn.name == "runtime.NumGoroutine") && fn.body.isSome | none => false
theorem run_callFunc_body {f : Nat} (h : callB P f = true) (args : Array Value) (w : World) : (callFunc f args).run P w = .ok (.enter f args) w := by
  unfold callB at h
  cases hf : P.funcs[f]? with
  | none => simp [hf] at h
  | some fn =>
    simp only [hf, Bool.and_eq_true, Bool.not_eq_true'] at h
    have h1 : ¬ fn.name = "runtime.NumGoroutine" := by simpa using h.1
    have h2 : ¬ fn.body = none := fun e => by simp [e] at h
    simp [callFunc, run_program, hf, h1, h2]
/-- a call -/
theorem ostep_call {i : Nat} {o : Oper} (f : Nat) (hcb : callB P f = true) (xs : Array Operand) (ts : Array TypeId) (hi : ops[i]? = some o) (ho : o.op = .call { callee := .value (.func f), args := xs, argTypes := ts })
    (h : ∀ listed a w, OInv ops a0 S R listed a w → (∀ e ∈ o.after, Region.binds .any e = true → listed.getD e.on false = true) → Region.wanted o (yielded ops a.tmps) = true ∧ ∃ vals, xs.map a.eval = vals ∧ Calls P f vals w fun e w' => ∃ v, e = .returned v ∧ R i v w' ∧ Below w.heap.size w w') : OStep P ops Q a0 S R i o := by
  intro listed a w hinv hall
  obtain ⟨h1, vals, h2, h3⟩ := h listed a w hinv hall
  unfold wpOp
  simp only [hi, h1, if_true]
  refine Or.inl ?_
  unfold Oper.wp execOp
  have hr : ((do let d ← resolve a.eval { callee := .value (.func f), args := xs, argTypes := ts } o.type; invoke d.target d.args : Sem Next)).run P w = .ok (.enter f vals) w := by
    rw [← h2]
    simp [resolve, Act.eval, Deferred.ofValue, invoke, run_callFunc_body hcb]
  simp only [ho, hr, Oper.upon]
  refine h3.mono ?_
  rintro e w' ⟨v, rfl, hv, hb⟩
  exact ⟨v, rfl, hv, hb⟩
end
end Go.Proofs.Ytgdokgpplldddaa

/- build's checks: closures and the first that fails. Conditions: as each theorem names them. -/
namespace Go.Proofs.Ytgdokgpplldddaa
open Go.ChangeShapes Go.WideShapes Go.ChangeAt Go.RowKit
set_option linter.unusedVariables false
set_option maxRecDepth 100000

/-- a check as a value: called in any later world, it answers E -/
def Chk (w : World) (v : Value) (E : Int) : Prop := ∃ f caps, v = .func (.func f) #[] caps ∧ (∀ args u, (callFunc f args).run Try.prog u = .ok (.enter f args) u) ∧ ∀ u, Below w.heap.size w u → Calls Try.prog f caps u fun e u' => e = .returned (.int .i64 E) ∧ Below u.heap.size u u'
theorem Chk.below {w w' : World} {v : Value} {E : Int} (h : Chk w v E) (hb : Below w.heap.size w w') : Chk w' v E := by
  obtain ⟨f, caps, h1, h2, h3⟩ := h
  exact ⟨f, caps, h1, h2, fun u hu => h3 u (hb.trans (hu.mono hb.size))⟩
def unlE (b : Bool) : Int := if b = true then 0 else 2
theorem bunless (b : Bool) (w : World) : Calls Try.prog 57 #[.bool b] w fun e w' => e = .returned (.int .i64 (unlE b)) ∧ w' = w := by
  cases b
  all_goals
    go_enter Try.func57, Try.ntmps57
    go_wp2
    go_ret
    exact ⟨rfl, rfl⟩

/-- isBuffer -/
theorem bisbuf1 (b : Nat) (v : Value) (L : List Sg) (u : World) (hc : u.cell? ⟨b, 0, none⟩ = some v) (hb : b < u.heap.size) (hv : SegsAt u v L) (hs : isSgs L) :
    Calls Try.prog 55 #[.pointer (some ⟨b, 0, none⟩)] u fun e u' => e = .returned (.int .i64 (mayE L)) ∧ Below u.heap.size u u' := by
  have HC := hid_mk (pcheck v L u hv hs)
  have HU := hid_mk (fun x => bunless x)
  have HE : Hid (mayE L = if segE L = 0 then unlE (decide (0 < L.length)) else segE L) := hid_mk (by
    unfold mayE unlE
    by_cases h : L.length = 0
    · simp [h]
    · rw [if_neg h, decide_eq_true (by omega)]
      simp)
  rw [HE.out]
  obtain ⟨va, vc, rfl⟩ := hv.len
  clear hv hs HE
  by_cases h1 : segE L = 0
  · rw [h1] at HC
    rw [if_pos h1]
    clear h1
    go_enter Try.func55, Try.ntmps55
    go_wp2_with fail
    refine HC.out.mono ?_
    rintro e w1 ⟨rfl, hb1⟩
    have HB1 := hid_mk hb1
    have c1 := (hb1.cell (p := ⟨b, 0, none⟩) hb).trans hc
    have hb2 := Nat.lt_of_lt_of_le hb hb1.size
    clear hb1 hc hb
    go_wp2_with fail
    refine (HU.out _ _).mono ?_
    rintro e w2 ⟨rfl, rfl⟩
    go_wp2_with fail
    go_ret
    exact ⟨rfl, HB1.out⟩
  · rw [if_neg h1]
    have hb0 : (segE L != 0) = true := by simp; exact h1
    generalize segE L = z at *
    clear h1
    go_enter Try.func55, Try.ntmps55
    go_wp2_with fail
    refine HC.out.mono ?_
    rintro e w1 ⟨rfl, hb1⟩
    have HB1 := hid_mk hb1
    clear hb1
    go_wp2_with fail
    go_ret
    exact ⟨rfl, HB1.out⟩
theorem bisbuf (v : Value) (L : List Sg) (w : World) (hv : SegsAt w v L) (hs : isSgs L) :
    Calls Try.prog 32 #[v] w fun e w' => ∃ x, e = .returned x ∧ Chk w' x (mayE L) ∧ Below w.heap.size w w' := by
  have hmf : ∀ (fn : Fn) (first cap : Array Value) (w : World), (Instr.makeFunc fn first cap).run Try.prog w = .ok (.func fn first cap) w := fun _ _ _ _ => rfl
  have HV := hid_mk hv
  obtain ⟨va, vc, rfl⟩ := hv.len
  clear hv
  go_enter Try.func32, Try.ntmps32
  go_wp2
  go_ret
  have hB := below_box w (.cells #[.slice va L.length vc] 27)
  refine ⟨_, rfl, ⟨55, _, rfl, fun args u => run_callFunc_body (by kernel_rfl) args u, fun u hu => bisbuf1 w.heap.size _ L u ?_ ?_ ((HV.out.below hB).below hu) hs⟩, hB⟩
  · rw [hu.cell (by simp)]
    simp
  · exact Nat.lt_of_lt_of_le (by simp) hu.size

/-- isBelow -/
theorem bisbel1 (b c : Nat) (id n : Int) (u : World) (hc : u.cell? ⟨b, 0, none⟩ = some (.int .i64 id)) (hd : u.cell? ⟨c, 0, none⟩ = some (.int .i64 n)) :
    Calls Try.prog 63 #[.pointer (some ⟨b, 0, none⟩), .pointer (some ⟨c, 0, none⟩)] u fun e u' => e = .returned (.int .i64 (unlE (okI n id))) ∧ u' = u := by
  have HU := hid_mk (fun x => bunless x)
  unfold okI
  by_cases h : 0 ≤ id
  · rw [decide_eq_true h, Bool.true_and]
    go_enter Try.func63, Try.ntmps63
    go_wp2_with fail
    refine (HU.out _ _).mono ?_
    rintro e w2 ⟨rfl, rfl⟩
    go_wp2_with fail
    go_ret
    exact ⟨rfl, rfl⟩
  · have hf : decide (0 ≤ id) = false := decide_eq_false h
    rw [hf, Bool.false_and]
    go_enter Try.func63, Try.ntmps63
    go_wp2_with fail
    refine (HU.out _ _).mono ?_
    rintro e w2 ⟨rfl, rfl⟩
    go_wp2_with fail
    go_ret
    exact ⟨rfl, rfl⟩
theorem bisbelX (id n : Int) (w : World) :
    Calls Try.prog 36 #[.int .i64 id, .int .i64 n] w fun e w' => e = .returned (.func (.func 63) #[] #[.pointer (some ⟨w.heap.size, 0, none⟩), .pointer (some ⟨w.heap.size + 1, 0, none⟩)]) ∧ Below w.heap.size w w' ∧ w'.cell? ⟨w.heap.size, 0, none⟩ = some (.int .i64 id) ∧ w'.cell? ⟨w.heap.size + 1, 0, none⟩ = some (.int .i64 n) ∧ w.heap.size + 1 < w'.heap.size := by
  have hmf : ∀ (fn : Fn) (first cap : Array Value) (w : World), (Instr.makeFunc fn first cap).run Try.prog w = .ok (.func fn first cap) w := fun _ _ _ _ => rfl
  go_enter Try.func36, Try.ntmps36
  go_wp2
  go_ret
  refine ⟨rfl, (below_box w _).alloc (by simp) _, ?_, ?_, ?_⟩ <;> go_simp
theorem bisbel (id n : Int) (w : World) :
    Calls Try.prog 36 #[.int .i64 id, .int .i64 n] w fun e w' => ∃ x, e = .returned x ∧ Chk w' x (unlE (okI n id)) ∧ Below w.heap.size w w' := by
  refine (bisbelX id n w).mono ?_
  rintro e w' ⟨rfl, hb, h1, h2, h3⟩
  refine ⟨_, rfl, ⟨63, _, rfl, fun args u => run_callFunc_body (by kernel_rfl) args u, fun u hu => (bisbel1 w.heap.size (w.heap.size + 1) id n u ?_ ?_).mono ?_⟩, hb⟩
  · exact (hu.cell (p := ⟨w.heap.size, 0, none⟩) (Nat.lt_of_succ_lt h3)).trans h1
  · exact (hu.cell (p := ⟨w.heap.size + 1, 0, none⟩) h3).trans h2
  · rintro e u' ⟨rfl, rfl⟩
    exact ⟨rfl, Below.refl _ _⟩

/-- isCount -/
theorem biscnt1 (b : Nat) (n : Int) (u : World) (hc : u.cell? ⟨b, 0, none⟩ = some (.int .i64 n)) :
    Calls Try.prog 65 #[.pointer (some ⟨b, 0, none⟩)] u fun e u' => e = .returned (.int .i64 (unlE (decide (1 ≤ n) && decide (n ≤ 64)))) ∧ u' = u := by
  have HU := hid_mk (fun x => bunless x)
  by_cases h : 1 ≤ n
  · rw [decide_eq_true h, Bool.true_and]
    go_enter Try.func65, Try.ntmps65
    go_wp2_with fail
    refine (HU.out _ _).mono ?_
    rintro e w2 ⟨rfl, rfl⟩
    go_wp2_with fail
    go_ret
    exact ⟨rfl, rfl⟩
  · have hf : decide (1 ≤ n) = false := decide_eq_false h
    rw [hf, Bool.false_and]
    go_enter Try.func65, Try.ntmps65
    go_wp2_with fail
    refine (HU.out _ _).mono ?_
    rintro e w2 ⟨rfl, rfl⟩
    go_wp2_with fail
    go_ret
    exact ⟨rfl, rfl⟩
theorem biscnt (n : Int) (w : World) :
    Calls Try.prog 39 #[.int .i64 n] w fun e w' => ∃ x, e = .returned x ∧ Chk w' x (unlE (decide (1 ≤ n) && decide (n ≤ 64))) ∧ Below w.heap.size w w' := by
  have hmf : ∀ (fn : Fn) (first cap : Array Value) (w : World), (Instr.makeFunc fn first cap).run Try.prog w = .ok (.func fn first cap) w := fun _ _ _ _ => rfl
  go_enter Try.func39, Try.ntmps39
  go_wp2
  go_ret
  have hB := below_box w (.cells #[.int .i64 n] 3)
  refine ⟨_, rfl, ⟨65, _, rfl, fun args u => run_callFunc_body (by kernel_rfl) args u, fun u hu => (biscnt1 w.heap.size n u ?_).mono ?_⟩, hB⟩
  · rw [hu.cell (by simp)]
    simp
  · rintro e u' ⟨rfl, rfl⟩
    exact ⟨rfl, Below.refl _ _⟩

/-- isPlace -/
theorem bispla1 (b c : Nat) (p n : Int) (t : Bool) (u : World) (hc : u.cell? ⟨b, 0, none⟩ = some (.int .i64 p)) (hc2 : u.cell? ⟨b, 1, none⟩ = some (.bool t)) (hd : u.cell? ⟨c, 0, none⟩ = some (.int .i64 n)) :
    Calls Try.prog 61 #[.pointer (some ⟨b, 0, none⟩), .pointer (some ⟨c, 0, none⟩)] u fun e u' => e = .returned (.int .i64 (chkI p n)) ∧ Below u.heap.size u u' := by
  have HU := hid_mk (check_all p n t)
  generalize chkI p n = z at *
  go_enter Try.func61, Try.ntmps61
  go_wp2_with fail
  refine (HU.out _).mono ?_
  rintro e w2 ⟨rfl, hb⟩
  have HB := hid_mk hb
  clear hb
  go_wp2_with fail
  go_ret
  exact ⟨rfl, HB.out⟩
theorem bispla (p n : Int) (t : Bool) (w : World) :
    Calls Try.prog 35 #[.agg #[.int .i64 p, .bool t], .int .i64 n] w fun e w' => ∃ x, e = .returned x ∧ Chk w' x (chkI p n) ∧ Below w.heap.size w w' := by
  have hmf : ∀ (fn : Fn) (first cap : Array Value) (w : World), (Instr.makeFunc fn first cap).run Try.prog w = .ok (.func fn first cap) w := fun _ _ _ _ => rfl
  go_enter Try.func35, Try.ntmps35
  go_wp2
  go_ret
  have hB := (below_box w (.cells #[.int .i64 p, .bool t] 33)).alloc (by simp) (.cells #[.int .i64 n] 3)
  refine ⟨_, rfl, ⟨61, _, rfl, fun args u => run_callFunc_body (by kernel_rfl) args u, fun u hu => bispla1 w.heap.size (w.heap.size + 1) p n t u ?_ ?_ ?_⟩, hB⟩
  · rw [hu.cell (by simp <;> omega)]
    go_simp
  · rw [hu.cell (by simp <;> omega)]
    go_simp
  · rw [hu.cell (by simp <;> omega)]
    go_simp

/-- fits -/
theorem bfits1 (b c N : Nat) (n : Int) (va : Option Addr) (vc : Nat) (u : World) (hc : u.cell? ⟨b, 0, none⟩ = some (.slice va N vc)) (hd : u.cell? ⟨c, 0, none⟩ = some (.int .i64 n)) :
    Calls Try.prog 64 #[.pointer (some ⟨b, 0, none⟩), .pointer (some ⟨c, 0, none⟩)] u fun e u' => e = .returned (.int .i64 (unlE (decide ((N : Int) ≤ n)))) ∧ u' = u := by
  have HU := hid_mk (fun x => bunless x)
  go_enter Try.func64, Try.ntmps64
  go_wp2_with fail
  refine (HU.out _ _).mono ?_
  rintro e w2 ⟨rfl, rfl⟩
  go_wp2_with fail
  go_ret
  exact ⟨rfl, rfl⟩
theorem bfits (N : Nat) (n : Int) (va : Option Addr) (vc : Nat) (w : World) :
    Calls Try.prog 37 #[.slice va N vc, .int .i64 n] w fun e w' => ∃ x, e = .returned x ∧ Chk w' x (unlE (decide ((N : Int) ≤ n))) ∧ Below w.heap.size w w' := by
  have hmf : ∀ (fn : Fn) (first cap : Array Value) (w : World), (Instr.makeFunc fn first cap).run Try.prog w = .ok (.func fn first cap) w := fun _ _ _ _ => rfl
  go_enter Try.func37, Try.ntmps37
  go_wp2
  go_ret
  have hB := (below_box w (.cells #[.slice va N vc] 27)).alloc (by simp) (.cells #[.int .i64 n] 3)
  refine ⟨_, rfl, ⟨64, _, rfl, fun args u => run_callFunc_body (by kernel_rfl) args u, fun u hu => (bfits1 w.heap.size (w.heap.size + 1) N n va vc u ?_ ?_).mono ?_⟩, hB⟩
  · rw [hu.cell (by simp <;> omega)]
    go_simp
  · rw [hu.cell (by simp <;> omega)]
    go_simp
  · rintro e u' ⟨rfl, rfl⟩
    exact ⟨rfl, Below.refl _ _⟩
end Go.Proofs.Ytgdokgpplldddaa
