/- A region that draws its order, with a chain of operations that change memory, each waiting for the one before: an outline by phases. No program in sight. -/
import Derived.Test.YtfbimocgcnaogaaOutl
namespace Go.Proofs.Ytfbimocgcnaogaa
open Go Go.RowKit
set_option linter.unusedVariables false

/-- what is known of an operation's value: it is c; or: right behind the chain's operation s (its own), p holds -/
inductive Asrt where
  | eq (c : Value)
  | nxt (s : Nat) (p : Value → World → Prop)
  | any
def Asrt.sem : Asrt → Nat → Value → World → Prop
  | .eq c, _, v, _ => v = c
  | .nxt s p, t, v, w => t = s + 1 → p v w
  | .any, _, _, _ => True
def Asrt.tag : Asrt → Option Nat
  | .nxt s _ => some s
  | _ => none
def AL (l : List Asrt) (j : Nat) : Asrt := (l[j]?).getD .any

section
variable {P : Program} {ops : Array Oper} {Q : Exit → Act → World → Prop} {a0 : Act} {S : Nat → World → Prop} {l : List Asrt} {chain : List Nat}

structure PInv (ops : Array Oper) (a0 : Act) (chain : List Nat) (S : Nat → World → Prop) (l : List Asrt) (t : Nat) (listed : Array Bool) (a : Act) (w : World) : Prop where
  s : S t w
  size : listed.size = ops.size
  tsize : a.tmps.size = a0.tmps.size
  dfr : a.defers = a0.defers
  tle : t ≤ chain.length
  phase : ∀ s c, chain[s]? = some c → (listed.getD c false = true ↔ s < t)
  closed : ∀ i o, ops[i]? = some o → listed.getD i false = true → ∀ e ∈ o.after, Region.binds .any e = true → listed.getD e.on false = true
  old : ∀ k, (∀ i o, ops[i]? = some o → o.dst = some k → listed.getD i false = false) → a.tmps[k]? = a0.tmps[k]?
  new : ∀ i o d, ops[i]? = some o → o.dst = some d → listed.getD i false = true → (AL l i).sem t (a.eval (.tmp d)) w

/-- a step: off the chain it leaves the world as it is; on the chain it goes to the next phase -/
def PStep (P : Program) (ops : Array Oper) (Q : Exit → Act → World → Prop) (a0 : Act) (chain : List Nat) (S : Nat → World → Prop) (l : List Asrt) (i : Nat) (o : Oper) : Prop :=
  (chain.contains i = false ∧ ∀ t listed a w, PInv ops a0 chain S l t listed a w → (∀ e ∈ o.after, Region.binds .any e = true → listed.getD e.on false = true) →
      (∀ s c oc, chain[s]? = some c → ops[c]? = some oc → aft oc i = true → t ≤ s) → wpOp P ops Q i (fun a' w' => ∃ v, a' = a.put o.dst v ∧ (AL l i).sem t v w ∧ w' = w) a w) ∨
  ∃ t, chain[t]? = some i ∧ ∀ listed a w, PInv ops a0 chain S l t listed a w → (∀ e ∈ o.after, Region.binds .any e = true → listed.getD e.on false = true) →
      wpOp P ops Q i (fun a' w' => ∃ v, a' = a.put o.dst v ∧ (AL l i).sem (t + 1) v w' ∧ S (t + 1) w') a w

/-- the chain: each waits for the one before; no number twice; the assertions 'nxt s' stand at the chain's own places -/
def chainB (ops : Array Oper) (chain : List Nat) (l : List Asrt) : Bool :=
  decide chain.Nodup && ((List.range chain.length).all fun s => match chain[s]?, chain[s + 1]? with
    | some c, some c' => ((ops[c']?).map (aft · c)).getD false
    | _, _ => true) && ((List.range ops.size).all fun j => match (AL l j).tag with
    | some s => chain[s]? == some j
    | none => true)

theorem frame_step (hok : outB ops a0.tmps.size = true) {listed : Array Bool} {a : Act} {i : Nat} {o : Oper} {v : Value} (hi : ops[i]? = some o) (hsz : listed.size = ops.size) (ht : a.tmps.size = a0.tmps.size)
    (hold : ∀ k, (∀ i o, ops[i]? = some o → o.dst = some k → listed.getD i false = false) → a.tmps[k]? = a0.tmps[k]?) :
    (∀ k, (∀ j oj, ops[j]? = some oj → oj.dst = some k → (listed.setIfInBounds i true).getD j false = false) → (a.put o.dst v).tmps[k]? = a0.tmps[k]?) ∧
    (∀ d, o.dst = some d → (a.put o.dst v).eval (.tmp d) = v) ∧
    (∀ j oj d, i ≠ j → ops[j]? = some oj → oj.dst = some d → (a.put o.dst v).eval (.tmp d) = a.eval (.tmp d)) := by
  have hspec := outB_spec hok hi
  have hilt : i < ops.size := (Array.getElem?_eq_some_iff.1 hi).1
  have hset : (listed.setIfInBounds i true).getD i false = true := by simp [show i < listed.size by omega]
  refine ⟨fun k hk => ?_, fun d hd => ?_, fun j oj d hji hj hd => ?_⟩
  · have hne : o.dst ≠ some k := fun e => by
      have := hk i o hi e
      rw [hset] at this
      cases this
    rw [← hold k (fun j oj hj hdj => by
      by_cases hji : i = j
      · subst hji
        rw [hi] at hj
        cases hj
        exact absurd hdj hne
      · rw [← getD_set_ne false hji]
        exact hk j oj hj hdj)]
    cases hd : o.dst with
    | none => rfl
    | some d =>
      have : d ≠ k := fun e => hne (by rw [hd, e])
      simp [Act.put, Array.getElem?_setIfInBounds_ne this]
  · have hdl : d < a.tmps.size := by rw [ht]; exact (hspec.2 d hd).1
    simp [hd, Act.put, Act.eval, hdl]
  · have hne : ∀ d', o.dst = some d' → Operand.tmp d ≠ Operand.tmp d' := fun d' hd' e => by
      cases e
      rcases Nat.lt_or_gt_of_ne hji with hlt | hgt
      · exact (((outB_spec hok hj).2 d hd).2 i o hlt hi) hd'
      · exact ((hspec.2 d hd').2 j oj hgt hj) hd
    exact Act.eval_put hne

theorem PInv.closed_step {t : Nat} {listed : Array Bool} {a : Act} {w : World} (h : PInv ops a0 chain S l t listed a w) {i : Nat} {o : Oper} (hi : ops[i]? = some o) (hall : ∀ e ∈ o.after, Region.binds .any e = true → listed.getD e.on false = true) :
    ∀ j oj, ops[j]? = some oj → (listed.setIfInBounds i true).getD j false = true → ∀ e ∈ oj.after, Region.binds .any e = true → (listed.setIfInBounds i true).getD e.on false = true := by
  intro j oj hj hl e he hb
  by_cases hji : i = j
  · subst hji
    rw [hi] at hj
    cases hj
    exact getD_set_true (hall e he hb)
  · rw [getD_set_ne false hji] at hl
    exact getD_set_true (h.closed j oj hj hl e he hb)

theorem phases_any (hok : outB ops a0.tmps.size = true) (hch : chainB ops chain l = true)
    (hstep : ∀ i o, ops[i]? = some o → PStep P ops Q a0 chain S l i o) (hend : ∀ t listed a w, PInv ops a0 chain S l t listed a w → (∀ i, i < ops.size → listed.getD i false = true) → Q .normal a w) :
    ∀ (fuel t : Nat) (listed : Array Bool) (a : Act) (w : World), unl ops.size listed ≤ fuel → PInv ops a0 chain S l t listed a w → wpAny P .any ops Q fuel listed a w := by
  unfold chainB at hch
  simp only [Bool.and_eq_true, decide_eq_true_eq] at hch
  obtain ⟨⟨hnd, hcs⟩, htags⟩ := hch
  have hwait : ∀ s c c', chain[s]? = some c → chain[s + 1]? = some c' → ∃ o, ops[c']? = some o ∧ aft o c = true := fun s c c' h1 h2 => by
    have hlt : s < chain.length := (List.getElem?_eq_some_iff.1 h1).1
    have h := List.all_eq_true.1 hcs s (List.mem_range.2 hlt)
    simp only [h1, h2] at h
    cases ho : ops[c']? with
    | none => simp [ho] at h
    | some o =>
      simp [ho] at h
      exact ⟨o, rfl, h⟩
  have htag : ∀ j s, j < ops.size → (AL l j).tag = some s → chain[s]? = some j := fun j s hj hs => by
    have h := List.all_eq_true.1 htags j (List.mem_range.2 hj)
    simp only [hs] at h
    simpa using h
  have hinj : ∀ s s' c, chain[s]? = some c → chain[s']? = some c → s = s' := fun s s' c h1 h2 => by
    obtain ⟨l1, e1⟩ := List.getElem?_eq_some_iff.1 h1
    obtain ⟨l2, e2⟩ := List.getElem?_eq_some_iff.1 h2
    exact (List.getElem_inj hnd).1 (e1.trans e2.symm)
  intro fuel
  induction fuel with
  | zero =>
    intro t listed a w hu h
    have hnil : Region.ready .any ops listed = [] := by
      cases hr : Region.ready .any ops listed with
      | nil => rfl
      | cons i l =>
        exfalso
        have hm : i ∈ Region.ready .any ops listed := by rw [hr]; simp
        obtain ⟨h0, o, ho, _⟩ := mem_ready.1 hm
        have hlt : i < ops.size := (Array.getElem?_eq_some_iff.1 ho).1
        have hs := h.size
        have hl : listed.getD i false = false := by
          have : i < listed.size := by omega
          simp [this] at h0 ⊢
          exact h0
        have := unl_set hs hlt hl
        omega
    exact ⟨hnil, hend t listed a w h (all_listed hok h.size hnil)⟩
  | succ fuel ih =>
    intro t listed a w hu h
    refine ⟨fun hnil => hend t listed a w h (all_listed hok h.size hnil), fun i hi => ?_⟩
    obtain ⟨h0, o, ho, hall⟩ := mem_ready.1 hi
    have hlt : i < ops.size := (Array.getElem?_eq_some_iff.1 ho).1
    have hs := h.size
    have hl : listed.getD i false = false := by
      have : i < listed.size := by omega
      simp [this] at h0 ⊢
      exact h0
    have hun := unl_set hs hlt hl
    have hset : (listed.setIfInBounds i true).getD i false = true := by simp [show i < listed.size by omega]
    rcases hstep i o ho with ⟨hnc, hv⟩ | ⟨t', ht', hc⟩
    · have hni : ∀ s c, chain[s]? = some c → i ≠ c := fun s c hs' e => by
        subst e
        have : chain.contains i = true := by
          rw [List.contains_iff_mem]
          exact List.mem_of_getElem? hs'
        rw [this] at hnc
        cases hnc
      refine wpOp_mono ?_ (hv t listed a w h hall (fun s c oc hs' hoc haf => ?_))
      · rintro a' w' ⟨v, rfl, hR, rfl⟩
        obtain ⟨f1, f2, f3⟩ := frame_step (v := v) hok ho h.size h.tsize h.old
        refine ih t _ _ _ (by omega) ⟨h.s, by simpa using h.size, ?_, ?_, h.tle, ?_, h.closed_step ho hall, f1, ?_⟩
        · have := h.tsize
          cases hd : o.dst <;> simp [Act.put, this]
        · rw [← h.dfr]
          cases hd : o.dst <;> rfl
        · intro s c hs'
          rw [getD_set_ne false (hni s c hs')]
          exact h.phase s c hs'
        · intro j oj d hj hd hlj
          by_cases hji : i = j
          · subst hji
            rw [ho] at hj
            cases hj
            rw [f2 d hd]
            exact hR
          · rw [getD_set_ne false hji] at hlj
            rw [f3 j oj d hji hj hd]
            exact h.new j oj d hj hd hlj
      · rcases Nat.lt_or_ge s t with hst | hst
        · exfalso
          have hlc := (h.phase s c hs').2 hst
          obtain ⟨e, he, hb⟩ := Array.any_eq_true'.1 haf
          simp only [Bool.and_eq_true, beq_iff_eq] at hb
          have := h.closed c oc hoc hlc e he hb.1
          rw [hb.2, hl] at this
          cases this
        · exact hst
    · have htt : t' = t := by
        rcases Nat.lt_trichotomy t' t with hlt' | he | hgt
        · have := (h.phase t' i ht').2 hlt'
          rw [hl] at this
          cases this
        · exact he
        · exfalso
          obtain ⟨q, rfl⟩ : ∃ q, t' = q + 1 := ⟨t' - 1, by omega⟩
          have hq : q < chain.length := by
            have := (List.getElem?_eq_some_iff.1 ht').1
            omega
          obtain ⟨o2, ho2, haf⟩ := hwait q chain[q] i (List.getElem?_eq_getElem hq) ht'
          rw [ho] at ho2
          cases ho2
          have hlq := aft_of hall haf
          have := (h.phase q chain[q] (List.getElem?_eq_getElem hq)).1 hlq
          omega
      subst htt
      refine wpOp_mono ?_ (hc listed a w h hall)
      rintro a' w' ⟨v, rfl, hR, hS⟩
      obtain ⟨f1, f2, f3⟩ := frame_step (v := v) hok ho h.size h.tsize h.old
      refine ih (t' + 1) _ _ _ (by omega) ⟨hS, by simpa using h.size, ?_, ?_, (List.getElem?_eq_some_iff.1 ht').1, ?_, h.closed_step ho hall, f1, ?_⟩
      · have := h.tsize
        cases hd : o.dst <;> simp [Act.put, this]
      · rw [← h.dfr]
        cases hd : o.dst <;> rfl
      · intro s c hs'
        by_cases hic : i = c
        · subst hic
          have := hinj s t' i hs' ht'
          subst this
          exact ⟨fun _ => by omega, fun _ => hset⟩
        · rw [getD_set_ne false hic, h.phase s c hs']
          constructor
          · intro h1
            omega
          · intro h1
            rcases Nat.lt_or_eq_of_le (Nat.lt_succ_iff.1 h1) with h2 | h2
            · exact h2
            · subst h2
              rw [ht'] at hs'
              cases hs'
              exact absurd rfl hic
      · intro j oj d hj hd hlj
        by_cases hji : i = j
        · subst hji
          rw [ho] at hj
          cases hj
          rw [f2 d hd]
          exact hR
        · rw [getD_set_ne false hji] at hlj
          rw [f3 j oj d hji hj hd]
          have hold := h.new j oj d hj hd hlj
          have hjl : j < ops.size := (Array.getElem?_eq_some_iff.1 hj).1
          have htj := htag j
          cases hA : AL l j with
          | eq c =>
            rw [hA] at hold
            exact hold
          | any => trivial
          | nxt s p =>
            rw [hA] at htj
            have := htj s hjl rfl
            intro hst
            have hst' : s = t' := by omega
            subst hst'
            rw [ht'] at this
            cases this
            exact absurd rfl hji

/-- THE RULE -/
theorem wp_region_phases {id : Nat} {w : World} (chain : List Nat) (l : List Asrt) (S : Nat → World → Prop) (hm : P.follows .mixedOrders = true) (hok : outB ops a0.tmps.size = true) (hch : chainB ops chain l = true) (hs : S 0 w.drew)
    (hstep : OAll (PStep P ops Q a0 chain S l) 0 ops.toList) (hend : ∀ t listed a w, PInv ops a0 chain S l t listed a w → (∀ i, i < ops.size → listed.getD i false = true) → Q .normal a w) : (Code.region id ops true).wp P Q a0 w := by
  refine wp_region_any hm (phases_any hok hch (fun i o hi => ?_) hend ops.size 0 _ _ _ ?_ ?_)
  · have := OAll.at hstep i o (by simpa using hi)
    rw [Nat.zero_add] at this
    exact this
  · unfold unl
    exact Nat.le_trans (List.length_filter_le _ _) (by simp)
  · have hrep : ∀ i, (Array.replicate ops.size false).getD i false = false := fun i => by
      by_cases hi : i < ops.size <;> simp [hi]
    exact ⟨hs, by simp, rfl, rfl, Nat.zero_le _, (fun s c _ => by rw [hrep]; simp), (fun i o _ hl => by rw [hrep] at hl; cases hl), (fun _ _ => rfl), (fun i o d _ _ hl => by rw [hrep] at hl; cases hl)⟩

theorem PInv.base {t : Nat} {listed : Array Bool} {a : Act} {w : World} (h : PInv ops a0 chain S l t listed a w) (k : Nat) (hk : noDst ops k = true) : a.eval (.tmp k) = a0.eval (.tmp k) := by
  have := h.old k (fun i o hi hd => by
    have := Array.all_eq_true_iff_forall_mem.1 hk o (Array.mem_of_getElem? hi)
    simp [hd] at this)
  simp only [Act.eval, Array.getD_eq_getD_getElem?, this]
theorem PInv.fin {t : Nat} {listed : Array Bool} {a : Act} {w : World} (h : PInv ops a0 chain S l t listed a w) (j d : Nat) (hj : (ops[j]?).bind (·.dst) = some d) (hl : listed.getD j false = true) : (AL l j).sem t (a.eval (.tmp d)) w := by
  cases ho : ops[j]? with
  | none => simp [ho] at hj
  | some oj =>
    simp [ho] at hj
    exact h.new j oj d ho hj hl
theorem PInv.get {t : Nat} {listed : Array Bool} {a : Act} {w : World} {o : Oper} (h : PInv ops a0 chain S l t listed a w) (hall : ∀ e ∈ o.after, Region.binds .any e = true → listed.getD e.on false = true) (j d : Nat)
    (hj : (ops[j]?).bind (·.dst) = some d) (ha : aft o j = true) : (AL l j).sem t (a.eval (.tmp d)) w := h.fin j d hj (aft_of hall ha)
/-- the frame written out: each operation's slot holds what was left there -/
def putEnd (f : Nat → Value) : List Oper → Act → Act
  | [], a => a
  | o :: r, a => putEnd f r (match o.dst with | some d => a.put (some d) (f d) | none => a)
theorem putEnd_defers (f : Nat → Value) : ∀ (os : List Oper) (a : Act), (putEnd f os a).defers = a.defers
  | [], _ => rfl
  | o :: r, a => by
    rw [putEnd, putEnd_defers f r]
    cases o.dst <;> rfl
theorem putEnd_size (f : Nat → Value) : ∀ (os : List Oper) (a : Act), (putEnd f os a).tmps.size = a.tmps.size
  | [], _ => rfl
  | o :: r, a => by
    rw [putEnd, putEnd_size f r]
    cases o.dst <;> simp [Act.put]
theorem putEnd_get (f : Nat → Value) (k : Nat) : ∀ (os : List Oper) (a : Act), k < a.tmps.size → (putEnd f os a).tmps[k]? = if os.any (fun o => o.dst == some k) then some (f k) else a.tmps[k]?
  | [], _, _ => by simp [putEnd]
  | o :: r, a, hk => by
    cases hd : o.dst with
    | none =>
      rw [putEnd, hd]
      rw [putEnd_get f k r a hk]
      simp [hd]
    | some d =>
      rw [putEnd, hd]
      rw [putEnd_get f k r _ (by simpa [Act.put] using hk)]
      by_cases hdk : d = k
      · subst hdk
        simp [hd, Act.put, hk]
      · have hne : (some d == some k) = false := by simp [hdk]
        simp [hd, hne, Act.put, Array.getElem?_setIfInBounds_ne hdk]
theorem act_ext {a b : Act} (h1 : a.tmps = b.tmps) (h2 : a.defers = b.defers) : a = b := by
  cases a
  cases b
  simp only at h1 h2
  rw [h1, h2]
theorem PInv.frame {t : Nat} {listed : Array Bool} {a : Act} {w : World} (h : PInv ops a0 chain S l t listed a w) (hall : ∀ i, i < ops.size → listed.getD i false = true) : a = putEnd (fun d => a.eval (.tmp d)) ops.toList a0 := by
  have hd : a.defers = (putEnd (fun d => a.eval (.tmp d)) ops.toList a0).defers := by rw [putEnd_defers, h.dfr]
  have ht : a.tmps = (putEnd (fun d => a.eval (.tmp d)) ops.toList a0).tmps := by
    apply Array.ext_getElem?
    intro k
    by_cases hk : k < a0.tmps.size
    · rw [putEnd_get _ k _ _ hk]
      have hka : k < a.tmps.size := by rw [h.tsize]; exact hk
      cases hany : ops.toList.any (fun o => o.dst == some k) with
      | true =>
        simp [Act.eval, hka]
      | false =>
        simp only [Bool.false_eq_true, if_false]
        refine h.old k (fun i o hi hd => ?_)
        exfalso
        have hm : o ∈ ops.toList := by simpa using Array.mem_of_getElem? hi
        have := List.any_eq_false.1 hany o hm
        simp [hd] at this
    · rw [Array.getElem?_eq_none (by rw [h.tsize]; omega), Array.getElem?_eq_none (by rw [putEnd_size]; omega)]
  exact act_ext ht hd
/-- off the chain -/
theorem pstep_val {i : Nat} {o : Oper} (v : Value) (hi : ops[i]? = some o) (hc : chain.contains i = false)
    (h : ∀ t listed a w, PInv ops a0 chain S l t listed a w → (∀ e ∈ o.after, Region.binds .any e = true → listed.getD e.on false = true) → (∀ s c oc, chain[s]? = some c → ops[c]? = some oc → aft oc i = true → t ≤ s) →
      Region.wanted o (yielded ops a.tmps) = true ∧ (execOp a.eval o).run P w = .ok (.value v) w ∧ (AL l i).sem t v w) : PStep P ops Q a0 chain S l i o := by
  refine Or.inl ⟨hc, fun t listed a w hinv hall hlate => ?_⟩
  obtain ⟨h1, h2, h3⟩ := h t listed a w hinv hall hlate
  unfold wpOp
  simp only [hi, h1, if_true]
  refine Or.inl ?_
  unfold Oper.wp
  rw [h2]
  exact ⟨v, rfl, h3, rfl⟩
/-- an operation of the chain that leaves a value, and another world -/
theorem pstep_run {i : Nat} {o : Oper} (t : Nat) (hi : ops[i]? = some o) (hc : chain[t]? = some i)
    (h : ∀ listed a w, PInv ops a0 chain S l t listed a w → (∀ e ∈ o.after, Region.binds .any e = true → listed.getD e.on false = true) →
      Region.wanted o (yielded ops a.tmps) = true ∧ ∃ v w', (execOp a.eval o).run P w = .ok (.value v) w' ∧ (AL l i).sem (t + 1) v w' ∧ S (t + 1) w') : PStep P ops Q a0 chain S l i o := by
  refine Or.inr ⟨t, hc, fun listed a w hinv hall => ?_⟩
  obtain ⟨h1, v, w', h2, h3, h4⟩ := h listed a w hinv hall
  unfold wpOp
  simp only [hi, h1, if_true]
  refine Or.inl ?_
  unfold Oper.wp
  rw [h2]
  exact ⟨v, rfl, h3, h4⟩
/-- a store of the chain -/
theorem pstep_skip {i : Nat} {o : Oper} (t : Nat) (hi : ops[i]? = some o) (hc : chain[t]? = some i)
    (h : ∀ listed a w, PInv ops a0 chain S l t listed a w → (∀ e ∈ o.after, Region.binds .any e = true → listed.getD e.on false = true) →
      Region.wanted o (yielded ops a.tmps) = true ∧ ∃ w', (execOp a.eval o).run P w = .ok .skip w' ∧ (AL l i).sem (t + 1) undef w' ∧ S (t + 1) w') : PStep P ops Q a0 chain S l i o := by
  refine Or.inr ⟨t, hc, fun listed a w hinv hall => ?_⟩
  obtain ⟨h1, w', h2, h3, h4⟩ := h listed a w hinv hall
  unfold wpOp
  simp only [hi, h1, if_true]
  refine Or.inl ?_
  unfold Oper.wp
  rw [h2]
  exact ⟨undef, rfl, h3, h4⟩
/-- a call of the chain -/
theorem pstep_call {i : Nat} {o : Oper} (t f : Nat) (hcb : callB P f = true) (xs : Array Operand) (ts : Array TypeId) (hi : ops[i]? = some o) (hc : chain[t]? = some i) (ho : o.op = .call { callee := .value (.func f), args := xs, argTypes := ts })
    (h : ∀ listed a w, PInv ops a0 chain S l t listed a w → (∀ e ∈ o.after, Region.binds .any e = true → listed.getD e.on false = true) →
      Region.wanted o (yielded ops a.tmps) = true ∧ ∃ vals, xs.map a.eval = vals ∧ Calls P f vals w fun e w' => ∃ v, e = .returned v ∧ (AL l i).sem (t + 1) v w' ∧ S (t + 1) w') : PStep P ops Q a0 chain S l i o := by
  refine Or.inr ⟨t, hc, fun listed a w hinv hall => ?_⟩
  obtain ⟨h1, vals, h2, h3⟩ := h listed a w hinv hall
  unfold wpOp
  simp only [hi, h1, if_true]
  refine Or.inl ?_
  unfold Oper.wp execOp
  have hr : ((do let d ← resolve a.eval { callee := .value (.func f), args := xs, argTypes := ts } o.type; invoke d.target d.args : Sem Next)).run P w = .ok (.enter f vals) w := by
    rw [← h2]
    simp [resolve, Act.eval, Deferred.ofValue, invoke, run_callFunc_body hcb]
  simp only [ho, hr, Oper.upon]
  refine h3.mono ?_
  rintro e w' ⟨v, rfl, hv, hb⟩
  exact ⟨v, rfl, hv, hb⟩
end
end Go.Proofs.Ytfbimocgcnaogaa
