/- Layer 2's acts as they came in; small; the closure of GmemHolds. Conditions: as each theorem names them. -/
import Derived.Test.YtfjccpalkdmniaaOwn
import Derived.Test.YtfjccpalkdmniaaArg
import Derived.Test.YtfjccpalkdmniaaKit
namespace Go.Proofs.Ytfjccpalkdmniaa
open Go.ChangeShapes Go.WideShapes Go.ChangeAt Go.RowKit
set_option linter.unusedVariables false
set_option maxRecDepth 100000

/-- one act: its fields, and what its bytes read as -/
structure ActT where
  kind : Int
  at_ : Int
  n : Int
  v : Int
  b : Value
  l : List Int
instance : Inhabited ActT := ⟨⟨0, 0, 0, 0, .slice none 0 0, []⟩⟩
def actAt (A : List ActT) (i : Nat) : ActT := A.getD i default
def isAct (w : World) (x : ActT) : Prop := U64 x.at_ ∧ U64 x.v ∧ (-9223372036854775808 ≤ x.kind ∧ x.kind < 9223372036854775808) ∧ (-9223372036854775808 ≤ x.n ∧ x.n < 9223372036854775808) ∧ BytesAt w x.b x.l ∧ isBytes x.l ∧ x.l.length ≤ maxLen
/-- a slice of acts that reads as A -/
def ActsAt (w : World) (v : Value) (A : List ActT) : Prop :=
  ((∃ a c, v = .slice a 0 c ∧ (a = none → c = 0)) ∧ A = []) ∨ ∃ b o c : Nat, v = .slice (some ⟨b, o, none⟩) A.length c ∧ b < w.heap.size ∧ A.length ≤ c ∧ ∀ j, j < A.length → (w.cell? ⟨b, o + j * 5, none⟩ = some (.int .i64 (actAt A j).kind) ∧ w.cell? ⟨b, o + j * 5 + 1, none⟩ = some (.int .u64 (actAt A j).at_) ∧ w.cell? ⟨b, o + j * 5 + 2, none⟩ = some (.int .i64 (actAt A j).n) ∧ w.cell? ⟨b, o + j * 5 + 3, none⟩ = some (.int .u64 (actAt A j).v) ∧ w.cell? ⟨b, o + j * 5 + 4, none⟩ = some (actAt A j).b)
def isActs (w : World) (A : List ActT) : Prop := ∀ j, j < A.length → isAct w (actAt A j)

theorem isAct.below {w w' : World} {x : ActT} (h : isAct w x) (hb : Below w.heap.size w w') : isAct w' x := ⟨h.1, h.2.1, h.2.2.1, h.2.2.2.1, h.2.2.2.2.1.below hb, h.2.2.2.2.2⟩
theorem isActs.below {w w' : World} {A : List ActT} (h : isActs w A) (hb : Below w.heap.size w w') : isActs w' A := fun j hj => (h j hj).below hb
theorem ActsAt.below {w w' : World} {v : Value} {A : List ActT} (h : ActsAt w v A) (hb : Below w.heap.size w w') : ActsAt w' v A := by
  rcases h with h | ⟨b, o, c, h1, h2, h3, h4⟩
  · exact Or.inl h
  · have := hb.size
    refine Or.inr ⟨b, o, c, h1, by omega, h3, fun j hj => ?_⟩
    obtain ⟨g0, g1, g2, g3, g4⟩ := h4 j hj
    exact ⟨(hb.cell (p := ⟨_, _, none⟩) h2).trans g0, (hb.cell (p := ⟨_, _, none⟩) h2).trans g1, (hb.cell (p := ⟨_, _, none⟩) h2).trans g2, (hb.cell (p := ⟨_, _, none⟩) h2).trans g3, (hb.cell (p := ⟨_, _, none⟩) h2).trans g4⟩

section
variable {H : Type} {enc : TypeId × Value → H} {W : World} {r : Reach} {b0 : Nat} {v : Value} {d : DataW H} {p : List MemPlace}
theorem list5 {α : Type} {l : List α} (h : l.length = 5) : ∃ a b c d e, l = [a, b, c, d, e] := by
  match l, h with
  | [a, b, c, d, e], _ => exact ⟨a, b, c, d, e, rfl⟩
theorem open_acts2 (hval : Value.okWide Try.prog W r b0 23 v) (h : DataW.Trod enc Try.prog W 0 (fun _ => true) true 23 v d p) :
    ∃ A, ActsAt W v A ∧ isActs W A ∧ A.length ≤ maxLen := by
  obtain ⟨a, len, cap, rfl⟩ := okWide_slice Try.underlying23 hval
  obtain ⟨fuel, hf⟩ := h
  rcases Go.Deep.open_slice Try.underlying23 hf with ⟨hcs, _⟩ | ⟨a', len', cap', m, n, D, Pl, hcs, _, hle, hmax, hm, _, hx⟩
  · simp [Value.cells] at hcs
    obtain ⟨rfl, rfl, rfl⟩ := hcs
    exact ⟨[], Or.inl ⟨⟨_, _, rfl, fun _ => rfl⟩, rfl⟩, (fun j hj => by simp at hj), by simp⟩
  · simp [Value.cells] at hcs
    obtain ⟨rfl, rfl, rfl⟩ := hcs
    simp only [if_true] at hm
    subst hm
    have hC : Try.prog.cellsOf 39 = 5 := by kernel_rfl
    have hC8 : Try.prog.cellsOf 37 = 1 := by kernel_rfl
    have hC6 : Try.prog.cellsOf 26 = 1 := by kernel_rfl
    have hC3 : Try.prog.cellsOf 3 = 1 := by kernel_rfl
    have each : ∀ i, i < len → ∃ x : ActT, (W.cell? (a'.add (i * 5)) = some (.int .i64 x.kind) ∧ W.cell? (a'.add (i * 5 + 1)) = some (.int .u64 x.at_) ∧ W.cell? (a'.add (i * 5 + 2)) = some (.int .i64 x.n) ∧ W.cell? (a'.add (i * 5 + 3)) = some (.int .u64 x.v) ∧ W.cell? (a'.add (i * 5 + 4)) = some x.b) ∧ isAct W x := fun i hi => by
      obtain ⟨cs', h1, h2⟩ := hx i (by omega)
      rw [hC] at h1
      obtain ⟨_, hlen, hcell⟩ := World.cells?_some h1
      obtain ⟨v0, v1, v2, v3, v4, rfl⟩ := list5 hlen
      obtain ⟨xs, k, hk, hxy, _, hxl, hfd⟩ := DataW.trod_struct Try.underlying39 h2
      obtain ⟨y0, y1, y2, y3, y4, rfl⟩ := list5 hxl
      have g0 := hfd 0 _ rfl
      have g1 := hfd 1 _ rfl
      have g2 := hfd 2 _ rfl
      have g3 := hfd 3 _ rfl
      have g4 := hfd 4 _ rfl
      simp [hC3, hC6, hC8] at g0 g1 g2 g3 g4
      obtain ⟨n0, e0, _, w0⟩ := DataW.trod_int Try.underlying3 g0
      obtain ⟨n1, e1, _, w1⟩ := DataW.trod_int Try.underlying26 g1
      obtain ⟨n2, e2, _, w2⟩ := DataW.trod_int Try.underlying3 g2
      obtain ⟨n3, e3, _, w3⟩ := DataW.trod_int Try.underlying26 g3
      obtain ⟨v4', l, e4, hb1, hb2, hb3⟩ := open_bytes_cells g4
      simp at e0 e1 e2 e3 e4
      subst e0 e1 e2 e3 e4
      have c0 := hcell 0 (by omega)
      have c1 := hcell 1 (by omega)
      have c2 := hcell 2 (by omega)
      have c3 := hcell 3 (by omega)
      have c4 := hcell 4 (by omega)
      rw [Go.Deep.add_add] at c0 c1 c2 c3 c4
      have u0 := bounds_i64 w0
      have u1 := bounds_u64 w1
      have u2 := bounds_i64 w2
      have u3 := bounds_u64 w3
      have k1 : U64 n1 := ⟨by omega, by omega⟩
      have k3 : U64 n3 := ⟨by omega, by omega⟩
      have k0 : -9223372036854775808 ≤ n0 ∧ n0 < 9223372036854775808 := ⟨by omega, by omega⟩
      have k2 : -9223372036854775808 ≤ n2 ∧ n2 < 9223372036854775808 := ⟨by omega, by omega⟩
      exact ⟨⟨n0, n1, n2, n3, v4, l⟩, ⟨c0, c1, c2, c3, c4⟩, k1, k3, k0, k2, hb1, hb2, hb3⟩
    obtain ⟨f, hf2⟩ := Go.Deep.choose_lt each
    have hlen : ((List.range len).map f).length = len := by simp
    have hat : ∀ i, i < len → actAt ((List.range len).map f) i = f i := fun i hi => by simp [actAt, List.getD, hi]
    refine ⟨(List.range len).map f, ?_, (fun j hj => by rw [hlen] at hj; rw [hat j hj]; exact (hf2 j hj).2), by rw [hlen]; omega⟩
    by_cases h0 : len = 0
    · subst h0
      exact Or.inl ⟨⟨_, _, rfl, fun h => by cases h⟩, rfl⟩
    · obtain ⟨b, off, spot⟩ := a'
      have hspot : spot = none := by simpa [Addr.add] using World.cell?_spot (hf2 0 (by omega)).1.1
      subst hspot
      have h00 := (hf2 0 (by omega)).1.1
      rw [add_plain] at h00
      refine Or.inr ⟨b, off, m, by rw [hlen], World.block_lt_of_cell? W _ h00, by omega, fun j hj => ?_⟩
      rw [hlen] at hj
      have h1 := (hf2 j hj).1
      simp only [add_plain] at h1
      rw [hat j hj]
      exact ⟨h1.1, by rw [Nat.add_assoc]; exact h1.2.1, by rw [Nat.add_assoc]; exact h1.2.2.1, by rw [Nat.add_assoc]; exact h1.2.2.2.1, by rw [Nat.add_assoc]; exact h1.2.2.2.2⟩
end

theorem RegsAt.len {w : World} {v : Value} {L : List (Int × Int)} (h : RegsAt w v L) : ∃ a c, v = .slice a L.length c := by
  rcases h with ⟨⟨a, c, rfl, _⟩, rfl⟩ | ⟨b, o, c, rfl, _⟩
  · exact ⟨a, c, rfl⟩
  · exact ⟨_, _, rfl⟩
theorem ActsAt.len {w : World} {v : Value} {A : List ActT} (h : ActsAt w v A) : ∃ a c, v = .slice a A.length c := by
  rcases h with ⟨⟨a, c, rfl, _⟩, rfl⟩ | ⟨b, o, c, rfl, _⟩
  · exact ⟨a, c, rfl⟩
  · exact ⟨_, _, rfl⟩
/-! ## small -/
theorem BytesAt.len {w : World} {v : Value} {l : List Int} (h : BytesAt w v l) : ∃ a c, v = .slice a l.length c := by
  rcases h with ⟨⟨a, c, rfl, _⟩, rfl⟩ | ⟨b, o, c, rfl, _⟩
  · exact ⟨a, c, rfl⟩
  · exact ⟨_, _, rfl⟩
/-- few acts, each of few bytes -/
def smallB (A : List ActT) : Bool := decide (∀ j, j < min A.length 81 → (actAt A j).l.length ≤ 2000) && decide (A.length ≤ 80)
theorem small_any (v : Value) (A : List ActT) (w : World) (hv : ActsAt w v A) (hu : isActs w A) :
    Calls Try.prog 11 #[v] w fun e w' => e = .returned (.bool (smallB A)) ∧ w = w' := by
  rcases hv with ⟨⟨va, vc, rfl, _⟩, rfl⟩ | ⟨b, o, c, rfl, hb1, hb2, hb3⟩
  · go_enter Try.func11, Try.ntmps11
    go_wp2
    go_loop [3] (fun i => i = .int .i64 0) (fun _ => 0)
    case atStart => rfl
    case round =>
      obtain rfl := hrel
      go_wp2
      go_ret
      exact ⟨rfl, rfl⟩
  · have HC := hid_mk hb3
    have HU := hid_mk hu
    clear hb3 hu
    go_enter Try.func11, Try.ntmps11
    go_wp2
    go_loop [3] (fun i => ∃ k : Nat, (k ≤ A.length ∧ k ≤ 81) ∧ i = .int .i64 k ∧ Hid (∀ j, j < k → (actAt A j).l.length ≤ 2000)) (fun i => 81 - (intOf i).toNat)
    case atStart => exact ⟨0, ⟨Nat.zero_le _, Nat.zero_le _⟩, rfl, hid_mk (fun j hj => by omega)⟩
    case round =>
      obtain ⟨k, ⟨hk, hk2⟩, rfl, hI⟩ := hrel
      by_cases hlt : k < A.length
      · by_cases h81 : k ≤ 80
        · have hc := (HC.out k hlt).2.2.2.2
          obtain ⟨ba, bc, hbe⟩ := (HU.out k hlt).2.2.2.2.1.len
          rw [hbe] at hc
          have hki : (k : Int) ≤ 80 := by omega
          by_cases hl : 2000 < (actAt A k).l.length
          · have hli : (2000 : Int) < ((actAt A k).l.length : Int) := by omega
            have hno : smallB A = false := by
              unfold smallB
              rw [show decide (∀ j, j < min A.length 81 → (actAt A j).l.length ≤ 2000) = false from ?_]
              · rfl
              · rw [decide_eq_false_iff_not]
                intro h
                have := h k (by omega)
                omega
            have HNO := hid_mk hno
            clear hno hbe hl
            go_wp2
            go_ret
            exact ⟨ret_eq (by rw [HNO.out]; rfl), rfl⟩
          · have hli : ((actAt A k).l.length : Int) ≤ 2000 := by omega
            have HL := hid_mk (show (actAt A k).l.length ≤ 2000 by omega)
            clear hbe hl
            go_wp2
            go_round
            case rel =>
              refine ⟨k + 1, ⟨by omega, by omega⟩, by go_num, hid_mk (fun j hj => ?_)⟩
              rcases Nat.lt_succ_iff_lt_or_eq.1 hj with h | rfl
              · exact hI.out j h
              · exact HL.out
            case measure => simp [intOf]; omega
        · have hki : (80 : Int) < (k : Int) := by omega
          have hlen : (80 : Int) < (A.length : Int) := by omega
          go_wp2
          go_ret
          refine ⟨ret_eq ?_, rfl⟩
          unfold smallB
          rw [show decide (A.length ≤ 80) = false from by simp; omega, Bool.and_false]
          show Value.bool (decide ((A.length : Int) ≤ 80)) = _
          rw [show decide ((A.length : Int) ≤ 80) = false from by simp; omega]
      · obtain rfl : k = A.length := by omega
        by_cases h80 : A.length ≤ 80
        · have hlen : (A.length : Int) ≤ 80 := by omega
          have hyes : smallB A = true := by
            unfold smallB
            rw [show decide (A.length ≤ 80) = true from by simp; omega, Bool.and_true, decide_eq_true_eq]
            intro j hj
            exact hI.out j (by omega)
          have HY := hid_mk hyes
          clear hyes
          go_wp2
          go_ret
          exact ⟨ret_eq (by rw [HY.out]; rfl), rfl⟩
        · have hlen : (80 : Int) < (A.length : Int) := by omega
          go_wp2
          go_ret
          refine ⟨ret_eq ?_, rfl⟩
          unfold smallB
          rw [show decide (A.length ≤ 80) = false from by simp; omega, Bool.and_false]
          show Value.bool (decide ((A.length : Int) ≤ 80)) = _
          rw [show decide ((A.length : Int) ≤ 80) = false from by simp; omega]

end Go.Proofs.Ytfjccpalkdmniaa
