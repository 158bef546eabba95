/- We6 Outl5 We7: joined texts. Conditions: as each theorem names them. -/
import Derived.Test.YtfhhgcgbgmilcaaGreatKp42
import Derived.Test.YtfhhgcgbgmilcaaGreatKp25
import Derived.Test.YtfhhgcgbgmilcaaGreatKp22
/- Layer 10, plain facts: what build gives packed is what is walked back. No program in sight. -/
namespace Go.Proofs.YtfhhgcgbgmilcaaGreat
open Go
set_option linter.unusedVariables false
set_option maxRecDepth 100000

theorem goA_rng {p n : Int} {k : Nat} (h0 : 0 ≤ p) (h1 : p < n) (hk : (k : Int) < n) : 0 ≤ goA p k n ∧ goA p k n < n := by
  unfold goA
  split <;> omega
theorem goA_inj {p n : Int} {i j : Nat} (h0 : 0 ≤ p) (h1 : p < n) (hi : (i : Int) < n) (hj : (j : Int) < n) (he : goA p i n = goA p j n) : i = j := by
  unfold goA at he
  split at he <;> split at he <;> omega
section
variable {Z : List Int} {L : List Sg} {m : Nat} {g c p id : Int} {b : Bool}
theorem pk_dsc (hs : isSgs L) (h0 : 0 ≤ id) (h1 : id < 64) (k : Nat) : isDsc (pckD p 64 b id L k).d := by
  obtain ⟨⟨a1, a2⟩, n1, n2⟩ := sat_is hs k
  have hf := markNf_lt (sat L k).t (nxB L k) (goW p k 64 b)
  refine ⟨⟨a1, a2⟩, ⟨n1, n2⟩, ⟨h0, by show id < 65536; omega⟩, ?_⟩
  unfold pckD
  simp only
  omega
theorem pk_flags (hL : L.length = m) (k : Nat) : flB (pckD p 64 b id L k).d.n 4 = false ∧ flB (pckD p 64 b id L k).d.n 1 = decide (k + 1 < m) ∧ (⟨(pckD p 64 b id L k).d.a, (pckD p 64 b id L k).d.l, flB (pckD p 64 b id L k).d.n 2⟩ : Sg) = sat L k := by
  obtain ⟨h1, h2, h3⟩ := flB_mark (sat L k).t (nxB L k) (goW p k 64 b)
  unfold pckD
  simp only
  rw [h1, h2, h3]
  exact ⟨rfl, nxB_dec hL k, rfl⟩
/-- the packed chain as it was written -/
theorem wb_pk (hZ : Z.length = 12000) (hs : isSgs L) (hL : L.length = m) (h64 : m ≤ 64) (hm : mayE L = 0) (hi : inE R10 L = 0) (hp0 : 0 ≤ p) (hp1 : p < 64) (hpp : okP p 64 = true) (h0 : 0 ≤ id) (h1 : id < 64) (hr : wrfE true true ((64 : Nat) : Int) 0 g c = 0) (table : Bool) :
    wpE R10 (wrM Z (fun k => 16 * (goA p k 64).toNat) (fun k => (pckD p 64 b id L k).d) m) true ((64 : Nat) : Int) 0 g c p table = 0 ∧ wpL R10 (wrM Z (fun k => 16 * (goA p k 64).toNat) (fun k => (pckD p 64 b id L k).d) m) true ((64 : Nat) : Int) 0 g c p table = L ∧ wpI R10 (wrM Z (fun k => 16 * (goA p k 64).toNat) (fun k => (pckD p 64 b id L k).d) m) true ((64 : Nat) : Int) 0 g c p table = id ∧ wpC R10 (wrM Z (fun k => 16 * (goA p k 64).toNat) (fun k => (pckD p 64 b id L k).d) m) true ((64 : Nat) : Int) 0 g c p table = m := by
  have hA : ∀ i, i < m → (fun k : Nat => 16 * (goA p k 64).toNat) i + 16 ≤ 12000 := fun i h => by
    have := goA_rng (n := 64) (k := i) hp0 hp1 (by omega)
    show 16 * (goA p i 64).toNat + 16 ≤ 12000
    omega
  have hd : ∀ i, i < m → dscAt R10 (wrM Z (fun k => 16 * (goA p k 64).toNat) (fun k => (pckD p 64 b id L k).d) m) (0 + 16 * goA p (i : Nat) ((64 : Nat) : Int)) = some (pckD p 64 b id L i).d := fun i h => by
    have h2 := wrM_at (D := fun k => (pckD p 64 b id L k).d) hZ hA (fun i j h1 h2 hne => by
      have q1 := goA_rng (n := 64) (k := i) hp0 hp1 (by omega)
      have q2 := goA_rng (n := 64) (k := j) hp0 hp1 (by omega)
      have : goA p i 64 ≠ goA p j 64 := fun e => hne (goA_inj hp0 hp1 (by omega) (by omega) e)
      show 16 * (goA p i 64).toNat + 16 ≤ 16 * (goA p j 64).toNat ∨ 16 * (goA p j 64).toNat + 16 ≤ 16 * (goA p i 64).toNat
      omega) m (Nat.le_refl _) i h
    have q1 := goA_rng (n := 64) (k := i) hp0 hp1 (by omega)
    rw [show (0 : Int) + 16 * goA p (i : Nat) ((64 : Nat) : Int) = ((16 * (goA p i 64).toNat : Nat) : Int) by
      rw [show ((64 : Nat) : Int) = 64 from rfl]
      omega]
    exact dscAt10 (hA i h) (pk_dsc hs h0 h1 i) h2
  exact back_pk (n := 64) hL (by have := (mayE_ok hm).2; omega) h64 hp0 hp1 hpp h1 hd (fun i _ => (pk_flags hL i).1) (fun i _ => (pk_flags hL i).2.1) (fun i _ => rfl) (fun i _ => (pk_flags hL i).2.2) hm hi hr table
theorem pt_dsc (hs : isSgs L) (k : Nat) : isDsc (ptbD L k) := by
  obtain ⟨⟨a1, a2⟩, n1, n2⟩ := sat_is hs k
  have hf := flgN_lt (sat L k).t false
  exact ⟨⟨a1, a2⟩, ⟨n1, n2⟩, ⟨by show (0 : Int) ≤ 0; omega, by show (0 : Int) < 65536; omega⟩, ⟨by show (0 : Int) ≤ ((flgN _ _ : Nat) : Int); omega, by show ((flgN _ _ : Nat) : Int) < _; omega⟩⟩
/-- the packed table as it was written, and the one descriptor -/
theorem wb_pt (hZ : Z.length = 12000) (hs : isSgs L) (hL : L.length = m) (h64 : m ≤ 64) (hm : mayE L = 0) (hi : inE R10 L = 0) {q : Nat} (hq : q < 64) (hpp : okP (q : Int) 64 = true) (h0 : 0 ≤ id) (h1 : id < 64) (hr : wrfE true true ((64 : Nat) : Int) 0 g c = 0) :
    (wpE R10 (put (put Z 2800 (ptbB L)) (16 * q) (dB ⟨2800, 16 * (m : Int), id, (markN 4 b false : Nat)⟩)) true ((64 : Nat) : Int) 0 g c (q : Int) true = 0 ∧ wpL R10 (put (put Z 2800 (ptbB L)) (16 * q) (dB ⟨2800, 16 * (m : Int), id, (markN 4 b false : Nat)⟩)) true ((64 : Nat) : Int) 0 g c (q : Int) true = L ∧ wpI R10 (put (put Z 2800 (ptbB L)) (16 * q) (dB ⟨2800, 16 * (m : Int), id, (markN 4 b false : Nat)⟩)) true ((64 : Nat) : Int) 0 g c (q : Int) true = id ∧ wpC R10 (put (put Z 2800 (ptbB L)) (16 * q) (dB ⟨2800, 16 * (m : Int), id, (markN 4 b false : Nat)⟩)) true ((64 : Nat) : Int) 0 g c (q : Int) true = 1) ∧ wpE R10 (put (put Z 2800 (ptbB L)) (16 * q) (dB ⟨2800, 16 * (m : Int), id, (markN 4 b false : Nat)⟩)) true ((64 : Nat) : Int) 0 g c (q : Int) false = 4 := by
  have hpos := (mayE_ok hm).2
  have eB : ptbB L = tabB (ptbL L) := by
    unfold ptbB
    rw [if_pos hm]
  have hlen : (tabB (ptbL L)).length = 16 * m := by rw [tabB_length, ptbL_len, hL]
  obtain ⟨f4, f1⟩ := flB_mark4 b
  have hml := markN4_lt b
  obtain ⟨F, hF⟩ : ∃ F : Nat, markN 4 b false = F := ⟨_, rfl⟩
  rw [hF] at f4 f1 hml ⊢
  have hone : isDsc ⟨2800, 16 * (m : Int), id, (F : Nat)⟩ := ⟨by constructor <;> simp only <;> omega, by constructor <;> simp only <;> omega, by constructor <;> simp only <;> omega, by constructor <;> simp only <;> omega⟩
  have hl1 := dB_length ⟨2800, 16 * (m : Int), id, (F : Nat)⟩
  have hM1 : (put Z 2800 (ptbB L)).length = 12000 := by rw [eB, put_length _ _ _ (by rw [hZ, hlen]; omega), hZ]
  refine back_pt (n := 64) (D := fun k => ptbD L k) hL (by omega) h64 (by omega) (by omega) hpp h1 ?_ f4 f1 (fun i h => ?_) (fun i _ => (flB_flg (sat L i).t false).1) (fun i _ => ?_) hm hi hr
  · rw [show (0 : Int) + 16 * (q : Int) = ((16 * q : Nat) : Int) by push_cast; omega]
    refine dscAt10 (by omega) hone ?_
    have := put_same (M := put Z 2800 (ptbB L)) (k := 16 * q) (l := dB ⟨2800, 16 * (m : Int), id, (F : Nat)⟩) (by rw [hM1, hl1]; omega)
    rwa [hl1] at this
  · rw [show (2800 : Int) + 16 * (i : Int) = ((2800 + 16 * i : Nat) : Int) by push_cast; omega, (read10 (by omega)).2, put_other (by rw [hM1, hl1]; omega) (by rw [hl1]; omega), eB, put_part (by rw [hZ, hlen]; omega) (by rw [hlen]; omega)]
    have hp := tabB_part (ptbL L) i (by rw [ptbL_len]; omega)
    rw [show dat (ptbL L) i = ptbD L i by simp [dat, ptbL, List.getD, hL, h]] at hp
    rw [hp, dR_dB (pt_dsc hs i)]
  · show (⟨(sat L i).a, (sat L i).n, flB (flgN (sat L i).t false : Nat) 2⟩ : Sg) = sat L i
    rw [(flB_flg (sat L i).t false).2.2]
end
end Go.Proofs.YtfhhgcgbgmilcaaGreat

/- A call that changes memory within a drawn region: a special one. No program in sight. -/
namespace Go.Proofs.YtfhhgcgbgmilcaaGreat
open Go Go.RowKit
set_option linter.unusedVariables false

section
variable {P : Program} {ops : Array Oper} {Q : Exit → Act → World → Prop} {a0 : Act} {S : World → Prop} {R : Nat → Value → World → Prop} {lk : Nat} {sp : Sps} {dd : List (Nat × Nat)} {pr : List (Nat × (World → Prop))}
/-- a special call: what it does to memory is the special one's relation -/
theorem qstep_scall {i : Nat} {o : Oper} {T : World → World → Prop} (f : Nat) (hcb : callB P f = true) (xs : Array Operand) (ts : Array TypeId) (hi : ops[i]? = some o) (hd : o.dst.isSome = true) (he : sp.lookup i = some T) (ho : o.op = .call { callee := .value (.func f), args := xs, argTypes := ts })
    (h : ∀ listed a w, QInv ops a0 S R lk dd pr listed a w → listed.getD i false = false → (∀ e ∈ o.after, Region.binds .any e = true → listed.getD e.on false = true) → Region.wanted o (yielded ops a.tmps) = true ∧ ∃ vals, xs.map a.eval = vals ∧ Calls P f vals w fun e w' => ∃ v, e = .returned v ∧ R i v w' ∧ T w w') : QStep P ops Q a0 S R lk sp dd pr i o := by
  intro listed a w hinv hnl hall
  obtain ⟨h1, vals, h2, h3⟩ := h listed a w hinv hnl hall
  unfold wpOp
  simp only [hi, h1, if_true]
  refine Or.inl ?_
  unfold Oper.wp execOp
  have hr : ((do let d ← resolve a.eval { callee := .value (.func f), args := xs, argTypes := ts } o.type; invoke d.target d.args : Sem Next)).run P w = .ok (.enter f vals) w := by
    rw [← h2]
    simp [resolve, Act.eval, Deferred.ofValue, invoke, run_callFunc_body hcb]
  simp only [ho, hr, Oper.upon]
  refine h3.mono ?_
  rintro e w' ⟨v, rfl, hv, hb⟩
  refine ⟨v, rfl, ?_, Goes.own he hb⟩
  rw [if_neg (fun e => by rw [e] at hd; cases hd)]
  exact hv
end
end Go.Proofs.YtfhhgcgbgmilcaaGreat

/- WalkOnce: the way's row, what a round writes. Conditions: as each theorem names them. -/
namespace Go.Proofs.YtfhhgcgbgmilcaaGreat
open Go.ChangeShapes Go.WideShapes Go.ChangeAt Go.RowKit
set_option linter.unusedVariables false
set_option maxRecDepth 100000

def wyT (h q n k : Nat) : List Nat := (List.range k).map (wy h (2 * q + 1) n)
theorem wyT_len (h q n k : Nat) : (wyT h q n k).length = k := by simp [wyT]
theorem wyT_succ (h q n k : Nat) : wyT h q n (k + 1) = wyT h q n k ++ [wy h (2 * q + 1) n k] := by simp [wyT, List.range_succ]
theorem way_int {h q n k : Nat} (hn : 1 ≤ n) (hn2 : n ≤ 64) (hh : h < n) (hk : k < 64) (hq : q < n := by omega) : IntKind.i64.wrap ((k : Int) * (2 * (q : Int) + 1)) = (k : Int) * (2 * (q : Int) + 1) ∧ IntKind.i64.wrap ((h : Int) + (k : Int) * (2 * (q : Int) + 1)) = (h : Int) + (k : Int) * (2 * (q : Int) + 1) ∧ ((h : Int) + (k : Int) * (2 * (q : Int) + 1)).tmod (n : Int) = (wy h (2 * q + 1) n k : Nat) := by
  have h1 : k * (2 * q + 1) ≤ 64 * 129 := Nat.mul_le_mul (by omega) (by omega)
  have e : (k : Int) * (2 * (q : Int) + 1) = ((k * (2 * q + 1) : Nat) : Int) := by push_cast; rfl
  rw [e]
  refine ⟨IntWalk.i64_in _ (by omega), IntWalk.i64_in _ (by omega), ?_⟩
  rw [Int.tmod_eq_emod_of_nonneg (by omega)]
  unfold wy
  push_cast
  rfl
/-- the way's row lies in one block -/
theorem way_row {B : Nat} {w : World} {v : Value} {h q n m : Nat} (ho : OwnI B w v (wyT h q n m)) (hm : 1 ≤ m) : ∃ g c, v = .slice (some ⟨g, 0, none⟩) m c ∧ g < w.heap.size ∧ (∀ j, j < m → w.cell? ⟨g, j, none⟩ = some (.int .i64 ((wy h (2 * q + 1) n j : Nat) : Int))) ∧ ∃ cur fr, w.heap[g]? = some (.cells cur 3 fr) := by
  rcases ho.at with ⟨e, _⟩ | ⟨g, c, rfl, _, h1, h2, h3⟩
  · have := congrArg List.length e
    rw [wyT_len] at this
    simp at this
    omega
  · rw [wyT_len] at h2 h3 ⊢
    obtain ⟨cur, hc, _⟩ := own_ty ho (g := g) rfl
    refine ⟨g, c, rfl, h1, fun j hj => ?_, cur, _, hc⟩
    rw [h3 j hj]
    simp [wyT, List.getD, hj]
theorem Kp8.row {V u : World} (hk : Kp8 V u) {g : Nat} {cur : Array Value} {fr : Nat × Nat} (hc : V.heap[g]? = some (.cells cur 3 fr)) (hne : 3 ≠ 5) (j : Nat) : u.cell? ⟨g, j, none⟩ = V.cell? ⟨g, j, none⟩ := by
  have h2 := hk.blk _ _ _ _ hc hne
  simp [World.cell?, hc, h2]
theorem infoRg : (Tryz.prog.info? 32).map (·.size) = some 5 := by kernel_rfl
theorem loadRg {w : World} {b : Nat} {x0 x1 x2 x3 x4 : Value} (h : BlkAt w b [x0, x1, x2, x3, x4] 32) : (Instr.loadAt 32 (.pointer (some ⟨b, 0, none⟩))).run Tryz.prog w = .ok (.agg #[x0, x1, x2, x3, x4]) w := run_loadAt_mid w b 0 _ [x0, x1, x2, x3, x4] _ (fun j v hv => by
  match j, hv with
  | 0, hv => simp at hv; subst hv; exact h.cell 0
  | 1, hv => simp at hv; subst hv; exact h.cell 1
  | 2, hv => simp at hv; subst hv; exact h.cell 2
  | 3, hv => simp at hv; subst hv; exact h.cell 3
  | 4, hv => simp at hv; subst hv; exact h.cell 4) Tryz.underlying32 rfl infoRg
theorem segs_row {w : World} {L : List Sg} {a : Option Addr} {n z : Nat} (h : SegsAt w (.slice a n z) L) (h0 : 0 < L.length) : ∃ g o, a = some ⟨g, o, none⟩ ∧ g < w.heap.size ∧ ∀ k, k < L.length → at3 w g (o + k * 3) (sat L k) := by
  rcases h with ⟨_, e⟩ | ⟨g, o, c, he, h1, h2, h3⟩
  · rw [e] at h0
    simp at h0
  · cases he
    exact ⟨g, o, rfl, h1, h3⟩
theorem infoDs10 : (Tryz.prog.info? 44).map (·.size) = some 4 := by kernel_rfl
theorem loadDs10 {w : World} {b : Nat} {x0 x1 x2 x3 : Value} (h : BlkAt w b [x0, x1, x2, x3] 44) : (Instr.loadAt 44 (.pointer (some ⟨b, 0, none⟩))).run Tryz.prog w = .ok (.agg #[x0, x1, x2, x3]) w := run_loadAt_mid w b 0 _ [x0, x1, x2, x3] _ (fun j v hv => by
  match j, hv with
  | 0, hv => simp at hv; subst hv; exact h.cell 0
  | 1, hv => simp at hv; subst hv; exact h.cell 1
  | 2, hv => simp at hv; subst hv; exact h.cell 2
  | 3, hv => simp at hv; subst hv; exact h.cell 3) Tryz.underlying44 rfl infoDs10
end Go.Proofs.YtfhhgcgbgmilcaaGreat
