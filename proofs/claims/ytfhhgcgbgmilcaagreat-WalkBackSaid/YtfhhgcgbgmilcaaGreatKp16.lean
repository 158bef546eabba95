/- Arg Act2 Mp0: joined texts. Conditions: as each theorem names them. -/
import Derived.Test.YtfhhgcgbgmilcaaGreatKp04
import Derived.Test.YtfhhgcgbgmilcaaGreatKp06
import Derived.Test.YtfhhgcgbgmilcaaGreatKp08
import Derived.OpenShut
import Derived.Deep.SlicePairs
import Derived.Lib.SmallJoins
/- Arguments that came in, read as the statements' own words: bytes, regions. Conditions: as each theorem names them. -/
namespace Go.Proofs.YtfhhgcgbgmilcaaGreat
open Go.ChangeShapes Go.WideShapes Go.ChangeAt Go.RowKit
set_option linter.unusedVariables false
set_option maxRecDepth 100000

section
variable {H : Type} {enc : TypeId × Value → H} {W : World} {r : Reach} {b0 : Nat} {v : Value} {d : DataW H} {p : List MemPlace}

theorem add_some {w : World} {a : Addr} {k : Nat} {v : Value} (h : w.cell? (a.add k) = some v) (hk : k = 0 ∨ a.spot = none) : a.spot = none := by
  rcases hk with rfl | h'
  · simpa [Addr.add] using World.cell?_spot h
  · exact h'

/-- bytes, as cells -/
theorem open_bytes_cells {fuel : Nat} {cs : List Value} {x : DataW H × List MemPlace} (h : DataW.trod enc Tryz.prog W 0 (fun _ => true) true fuel 47 cs = some x) :
    ∃ v l, cs = [v] ∧ BytesAt W v l ∧ isBytes l ∧ l.length ≤ maxLen := by
  have hc : Tryz.prog.cellsOf 5 = 1 := by kernel_rfl
  rcases open_ints Tryz.underlying47 Tryz.underlying5 hc h with ⟨hcs, _⟩ | ⟨a, len, cap, zs, hcs, _, hle, hmax, hall, _, hcell, hwf⟩
  · exact ⟨_, [], hcs, Or.inl ⟨⟨none, 0, rfl, fun _ => rfl⟩, rfl⟩, isBytes_nil, by simp⟩
  · simp only [if_true] at hall
    have hb : isBytes (zs.take len) := fun x hx => by
      have := bounds_u8 (hwf x (List.mem_of_mem_take hx))
      omega
    have hl : (zs.take len).length = len := by simp; omega
    by_cases h0 : len = 0
    · subst h0
      exact ⟨_, [], hcs, Or.inl ⟨⟨_, _, rfl, fun h => by cases h⟩, rfl⟩, isBytes_nil, by simp⟩
    · obtain ⟨b, off, rfl, hc2⟩ := ints_at hcell (by omega)
      refine ⟨_, zs.take len, hcs, Or.inr ⟨b, off, cap, by rw [hl], World.block_lt_of_cell? W _ (hc2 0 (by omega)), by omega, fun j hj => ?_⟩, hb, by omega⟩
      rw [hc2 j (by omega)]
      congr 2
      simp only [List.getD_eq_getElem?_getD, List.getElem?_take]
      rw [if_pos (by omega)]
theorem open_bytes (hval : Value.okWide Tryz.prog W r b0 47 v) (h : DataW.Trod enc Tryz.prog W 0 (fun _ => true) true 47 v d p) :
    ∃ l, BytesAt W v l ∧ isBytes l ∧ l.length ≤ maxLen := by
  obtain ⟨a, len, cap, rfl⟩ := okWide_slice Tryz.underlying47 hval
  obtain ⟨fuel, hf⟩ := h
  obtain ⟨v', l, h1, h2, h3, h4⟩ := open_bytes_cells hf
  simp [Value.cells] at h1
  subst h1
  exact ⟨l, h2, h3, h4⟩

/-- regions -/
theorem open_regs (hval : Value.okWide Tryz.prog W r b0 81 v) (h : DataW.Trod enc Tryz.prog W 0 (fun _ => true) true 81 v d p) :
    ∃ L, RegsAt W v L ∧ isRegs L ∧ L.length ≤ maxLen := by
  obtain ⟨a, len, cap, rfl⟩ := okWide_slice Tryz.underlying81 hval
  obtain ⟨fuel, hf⟩ := h
  rcases Go.Deep.open_slice_pairs Tryz.underlying81 Tryz.underlying80 (by kernel_rfl) rfl rfl (by kernel_rfl) (by kernel_rfl) hf with ⟨hcs, _⟩ | ⟨a', len', cap', m, n, V0, V1, D0, D1, P0, P1, hcs, _, hle, hmax, hm, _, hx⟩
  · simp [Value.cells] at hcs
    obtain ⟨rfl, rfl, rfl⟩ := hcs
    exact ⟨[], Or.inl ⟨⟨_, _, rfl, fun _ => rfl⟩, rfl⟩, (fun r hr => by cases hr), by simp⟩
  · simp [Value.cells] at hcs
    obtain ⟨rfl, rfl, rfl⟩ := hcs
    simp only [if_true] at hm
    subst hm
    have each : ∀ i, i < len → ∃ r : Int × Int, W.cell? (a'.add (i * 2)) = some (.int .u64 r.1) ∧ W.cell? (a'.add (i * 2 + 1)) = some (.int .u64 r.2) ∧ U64 r.1 ∧ U64 r.2 := fun i hi => by
      obtain ⟨h1, h2, h3, h4⟩ := hx i (by omega)
      obtain ⟨x, e1, _, w1⟩ := DataW.trod_int Tryz.underlying25 h3
      obtain ⟨y, e2, _, w2⟩ := DataW.trod_int Tryz.underlying25 h4
      simp at e1 e2
      rw [e1] at h1
      rw [e2] at h2
      have := bounds_u64 w1
      have := bounds_u64 w2
      exact ⟨(x, y), h1, h2, ⟨by omega, by omega⟩, ⟨by omega, by omega⟩⟩
    obtain ⟨f, hf2⟩ := Go.Deep.choose_lt each
    have hlen : ((List.range len).map f).length = len := by simp
    have hat : ∀ i, i < len → at_ ((List.range len).map f) i = f i := fun i hi => by simp [at_, List.getD, hi]
    refine ⟨(List.range len).map f, ?_, ?_, by rw [hlen]; omega⟩
    · by_cases h0 : len = 0
      · subst h0
        exact Or.inl ⟨⟨_, _, rfl, fun h => by cases h⟩, rfl⟩
      · obtain ⟨b, off, spot⟩ := a'
        have hspot : spot = none := by simpa [Addr.add] using World.cell?_spot (hf2 0 (by omega)).1
        subst hspot
        have h00 := (hf2 0 (by omega)).1
        rw [add_plain] at h00
        refine Or.inr ⟨b, off, m, by rw [hlen], World.block_lt_of_cell? W _ h00, by omega, fun j hj => ?_⟩
        rw [hlen] at hj
        have h1 := hf2 j hj
        rw [add_plain, add_plain] at h1
        rw [hat j hj]
        exact ⟨h1.1, by rw [Nat.add_assoc]; exact h1.2.1⟩
    · intro r hr
      obtain ⟨i, hi, rfl⟩ := List.mem_map.1 hr
      exact (hf2 i (by simpa using hi)).2.2
end
end Go.Proofs.YtfhhgcgbgmilcaaGreat

/- Layer 2's acts as they came in; small; the closure of GmemHolds. Conditions: as each theorem names them. -/
namespace Go.Proofs.YtfhhgcgbgmilcaaGreat
open Go.ChangeShapes Go.WideShapes Go.ChangeAt Go.RowKit
set_option linter.unusedVariables false
set_option maxRecDepth 100000

/-- one act: its fields, and what its bytes read as -/
structure ActT where
  kind : Int
  at_ : Int
  n : Int
  v : Int
  b : Value
  l : List Int
instance : Inhabited ActT := ⟨⟨0, 0, 0, 0, .slice none 0 0, []⟩⟩
def actAt (A : List ActT) (i : Nat) : ActT := A.getD i default
def isAct (w : World) (x : ActT) : Prop := U64 x.at_ ∧ U64 x.v ∧ (-9223372036854775808 ≤ x.kind ∧ x.kind < 9223372036854775808) ∧ (-9223372036854775808 ≤ x.n ∧ x.n < 9223372036854775808) ∧ BytesAt w x.b x.l ∧ isBytes x.l ∧ x.l.length ≤ maxLen
/-- a slice of acts that reads as A -/
def ActsAt (w : World) (v : Value) (A : List ActT) : Prop :=
  ((∃ a c, v = .slice a 0 c ∧ (a = none → c = 0)) ∧ A = []) ∨ ∃ b o c : Nat, v = .slice (some ⟨b, o, none⟩) A.length c ∧ b < w.heap.size ∧ A.length ≤ c ∧ ∀ j, j < A.length → (w.cell? ⟨b, o + j * 5, none⟩ = some (.int .i64 (actAt A j).kind) ∧ w.cell? ⟨b, o + j * 5 + 1, none⟩ = some (.int .u64 (actAt A j).at_) ∧ w.cell? ⟨b, o + j * 5 + 2, none⟩ = some (.int .i64 (actAt A j).n) ∧ w.cell? ⟨b, o + j * 5 + 3, none⟩ = some (.int .u64 (actAt A j).v) ∧ w.cell? ⟨b, o + j * 5 + 4, none⟩ = some (actAt A j).b)
def isActs (w : World) (A : List ActT) : Prop := ∀ j, j < A.length → isAct w (actAt A j)

theorem isAct.below {w w' : World} {x : ActT} (h : isAct w x) (hb : Below w.heap.size w w') : isAct w' x := ⟨h.1, h.2.1, h.2.2.1, h.2.2.2.1, h.2.2.2.2.1.below hb, h.2.2.2.2.2⟩
theorem isActs.below {w w' : World} {A : List ActT} (h : isActs w A) (hb : Below w.heap.size w w') : isActs w' A := fun j hj => (h j hj).below hb
theorem ActsAt.below {w w' : World} {v : Value} {A : List ActT} (h : ActsAt w v A) (hb : Below w.heap.size w w') : ActsAt w' v A := by
  rcases h with h | ⟨b, o, c, h1, h2, h3, h4⟩
  · exact Or.inl h
  · have := hb.size
    refine Or.inr ⟨b, o, c, h1, by omega, h3, fun j hj => ?_⟩
    obtain ⟨g0, g1, g2, g3, g4⟩ := h4 j hj
    exact ⟨(hb.cell (p := ⟨_, _, none⟩) h2).trans g0, (hb.cell (p := ⟨_, _, none⟩) h2).trans g1, (hb.cell (p := ⟨_, _, none⟩) h2).trans g2, (hb.cell (p := ⟨_, _, none⟩) h2).trans g3, (hb.cell (p := ⟨_, _, none⟩) h2).trans g4⟩

section
variable {H : Type} {enc : TypeId × Value → H} {W : World} {r : Reach} {b0 : Nat} {v : Value} {d : DataW H} {p : List MemPlace}
theorem list5 {α : Type} {l : List α} (h : l.length = 5) : ∃ a b c d e, l = [a, b, c, d, e] := by
  match l, h with
  | [a, b, c, d, e], _ => exact ⟨a, b, c, d, e, rfl⟩
end

theorem RegsAt.len {w : World} {v : Value} {L : List (Int × Int)} (h : RegsAt w v L) : ∃ a c, v = .slice a L.length c := by
  rcases h with ⟨⟨a, c, rfl, _⟩, rfl⟩ | ⟨b, o, c, rfl, _⟩
  · exact ⟨a, c, rfl⟩
  · exact ⟨_, _, rfl⟩
theorem ActsAt.len {w : World} {v : Value} {A : List ActT} (h : ActsAt w v A) : ∃ a c, v = .slice a A.length c := by
  rcases h with ⟨⟨a, c, rfl, _⟩, rfl⟩ | ⟨b, o, c, rfl, _⟩
  · exact ⟨a, c, rfl⟩
  · exact ⟨_, _, rfl⟩
/-! ## small -/
theorem BytesAt.len {w : World} {v : Value} {l : List Int} (h : BytesAt w v l) : ∃ a c, v = .slice a l.length c := by
  rcases h with ⟨⟨a, c, rfl, _⟩, rfl⟩ | ⟨b, o, c, rfl, _⟩
  · exact ⟨a, c, rfl⟩
  · exact ⟨_, _, rfl⟩
/-- few acts, each of few bytes -/
def smallB (A : List ActT) : Bool := decide (∀ j, j < min A.length 81 → (actAt A j).l.length ≤ 2000) && decide (A.length ≤ 80)
end Go.Proofs.YtfhhgcgbgmilcaaGreat

/- Plain facts on regions, bytes and words; what layer 2's acts answer. No program in sight but the answers' own words. -/
namespace Go.Proofs.YtfhhgcgbgmilcaaGreat
open Go.ChangeShapes Go.WideShapes Go.ChangeAt Go.RowKit
set_option linter.unusedVariables false
set_option maxRecDepth 100000
/-! ## a map that agrees with a memory -/
def byteF (f : Int → Int) : Prop := ∀ x, 0 ≤ f x ∧ f x < 256
def Agree (L : List (Int × Int)) (M : List Int) (f : Int → Int) : Prop := ∀ i, i < L.length → ∀ k : Nat, (k : Int) < (at_ L i).2 → f ((at_ L i).1 + k) = M.getD (off L i + k) 0
theorem Agree.zero (L : List (Int × Int)) (n : Nat) : Agree L (List.replicate n 0) (fun _ => 0) := fun i hi k hk => by
  simp [List.getD]
  by_cases h : off L i + k < n <;> simp [h]
theorem Agree.read {L : List (Int × Int)} {M : List Int} {f : Int → Int} (h : Agree L M f) {a n : Int} {q : Nat} (hl : loc L a n = some q) (j : Nat) (hj : (j : Int) < n) (h0 : ∀ i, i < L.length → 0 ≤ (at_ L i).1) : f (a + j) = M.getD (q + j) 0 := by
  obtain ⟨i, h1, h2, h3, h4, h5⟩ := loc_some hl
  have := h i h1 ((a - (at_ L i).1).toNat + j) (by omega)
  rw [show (at_ L i).1 + (((a - (at_ L i).1).toNat + j : Nat) : Int) = a + j from by omega] at this
  rw [this, h5]
  congr 1
  omega
theorem off_lt_of {L : List (Int × Int)} {i j : Nat} (hij : i < j) (hj : j < L.length) : off L i + (at_ L i).2.toNat ≤ off L j := by
  induction j with
  | zero => omega
  | succ j ih =>
    rw [off_step L j (by omega)]
    rcases Nat.lt_succ_iff_lt_or_eq.1 hij with h | rfl
    · have := ih h (by omega)
      omega
    · omega
theorem Agree.write {L : List (Int × Int)} {M : List Int} {f g : Int → Int} (h : Agree L M f) (hok : okR (-1) 1048576 L = true) (hlen : M.length = sumR L) {a : Int} {q : Nat} {l : List Int} (hl : loc L a l.length = some q)
    (hg : ∀ x, g x = if a ≤ x ∧ x < a + l.length then l.getD (x - a).toNat 0 else f x) : Agree L (put M q l) g := by
  obtain ⟨j, h1, h2, h3, h4, h5⟩ := loc_some hl
  have hroom := loc_room hl (by omega)
  intro i hi k hk
  have hj := okR_at hok j h1
  have hii := okR_at hok i hi
  rw [hg, put_getD M q l (by omega)]
  rcases Nat.lt_trichotomy i j with hlt | rfl | hgt
  · have e1 := okR_mono hok hlt h1
    have e2 := off_lt_of hlt h1
    rw [if_neg (by omega), if_neg (by omega)]
    exact h i hi k hk
  · by_cases hin : a ≤ (at_ L i).1 + k ∧ (at_ L i).1 + k < a + l.length
    · rw [if_pos hin, if_pos (by omega)]
      congr 1
      omega
    · rw [if_neg hin, if_neg (by omega)]
      exact h i hi k hk
  · have e1 := okR_mono hok hgt hi
    have e2 := off_lt_of hgt hi
    rw [if_neg (by omega), if_neg (by omega)]
    exact h i hi k hk
/-- f with the first k of l laid over it from a on -/
def over (f : Int → Int) (a : Int) (l : List Int) (k : Nat) : Int → Int := fun x => if a ≤ x ∧ x < a + k then l.getD (x - a).toNat 0 else f x
theorem over_zero (f : Int → Int) (a : Int) (l : List Int) : over f a l 0 = f := by
  funext x
  unfold over
  rw [if_neg (by omega)]
theorem over_succ (f : Int → Int) (a : Int) (l : List Int) (k : Nat) : over f a l (k + 1) = fun z => if z = a + k then l.getD k 0 else over f a l k z := by
  funext x
  unfold over
  by_cases h : x = a + k
  · subst h
    rw [if_pos (by omega), if_pos rfl]
    congr 1
    omega
  · rw [if_neg h]
    by_cases h2 : a ≤ x ∧ x < a + k
    · rw [if_pos h2, if_pos (by omega)]
    · rw [if_neg h2, if_neg (by omega)]
theorem over_byteF {f : Int → Int} {a : Int} {l : List Int} {k : Nat} (hf : byteF f) (hl : isBytes l) : byteF (over f a l k) := fun x => by
  unfold over
  split
  · exact isBytes_at hl _
  · exact hf x

theorem accE_none {L : List (Int × Int)} {a : Int} {sz : Nat} (h : loc L a sz = none) (hw : wid (sz : Int) = true) : accE L a sz = 5 := by
  unfold accE
  rw [hw, h]
  rfl
theorem accE_some {L : List (Int × Int)} {a : Int} {sz t : Nat} (h : loc L a sz = some t) (hw : wid (sz : Int) = true) : accE L a sz = 0 := by
  unfold accE
  rw [hw, h]
  rfl
theorem storeM_none {L : List (Int × Int)} {M : List Int} {a v : Int} {sz : Nat} (h : loc L a sz = none) (hw : wid (sz : Int) = true) : storeM L M a sz v = M := by
  unfold storeM
  rw [hw, h]
  rfl
theorem storeM_some {L : List (Int × Int)} {M : List Int} {a v : Int} {sz t : Nat} (h : loc L a sz = some t) (hw : wid (sz : Int) = true) : storeM L M a sz v = put M t (leB sz v) := by
  unfold storeM
  rw [hw, h]
  simp
/-- the bytes that the map has from an address on, round the end too -/
def mapB (f : Int → Int) (a : Int) (sz : Nat) : List Int := (List.range sz).map (fun (k : Nat) => f (IntKind.u64.wrap (a + (k : Int))))
theorem mapB_len (f : Int → Int) (a : Int) (sz : Nat) : (mapB f a sz).length = sz := by simp [mapB]
theorem mapB_bytes {f : Int → Int} (hf : byteF f) (a : Int) (sz : Nat) : isBytes (mapB f a sz) := fun x hx => by
  obtain ⟨k, _, rfl⟩ := List.mem_map.1 hx
  exact hf _
theorem mapB_step (f : Int → Int) (a : Int) (sz u : Nat) (h : u < sz) : le ((mapB f a sz).drop u) = 256 * le ((mapB f a sz).drop (u + 1)) + f (IntKind.u64.wrap (a + (u : Int))) := by
  rw [List.drop_eq_getElem_cons (show u < (mapB f a sz).length by rw [mapB_len]; exact h)]
  simp only [le]
  have e : (mapB f a sz)[u]'(by rw [mapB_len]; exact h) = f (IntKind.u64.wrap (a + (u : Int))) := by simp [mapB]
  rw [e]
  omega
theorem mapB_bd {f : Int → Int} (hf : byteF f) (a : Int) (sz u : Nat) (h8 : sz ≤ 8) : 0 ≤ le ((mapB f a sz).drop (u + 1)) ∧ le ((mapB f a sz).drop (u + 1)) ≤ 72057594037927935 := by
  have hb := isBytes_drop (mapB_bytes hf a sz) (u + 1)
  have h1 := le_hi hb
  have h2 : pow2 (8 * ((mapB f a sz).drop (u + 1)).length) ≤ pow2 56 := pow2_le (by simp [mapB_len]; omega)
  have h3 : pow2 56 = 72057594037927936 := by decide
  exact ⟨le_lo hb, by omega⟩
theorem load_map {L : List (Int × Int)} {M : List Int} {f : Int → Int} (h : Agree L M f) (hok : okR (-1) 1048576 L = true) (hlen : M.length = sumR L) {a : Int} {sz t : Nat} (hl : loc L a sz = some t) (ha : U64 a) (hw : wid (sz : Int) = true) : loadV L M a sz = le (mapB f a sz) := by
  have hroom := loc_room hl (by omega)
  obtain ⟨i, h1, h2, h3, h4, h5⟩ := loc_some hl
  have hi := okR_at hok i h1
  unfold loadV
  rw [hw, if_pos rfl, hl]
  show le ((M.drop t).take (sz : Int).toNat) = _
  rw [Int.toNat_natCast]
  congr 1
  apply List.ext_getElem
  · simp [mapB_len]
    omega
  · intro j g1 g2
    have hj : j < sz := by simpa [mapB_len] using g2
    have hr := h.read hl j (by omega) (fun i hi => by have := okR_at hok i hi; omega)
    have hwr : IntKind.u64.wrap (a + (j : Int)) = a + j := by
      rw [IntKind.wrap_u64]
      omega
    simp [mapB, hwr, hr, List.getD, show t + j < M.length from by omega]
theorem loc_end {L : List (Int × Int)} {a n : Int} {t : Nat} (hok : okR (-1) 1048576 L = true) (hl : loc L a n = some t) : 0 ≤ a ∧ a + n ≤ 18446744073709551616 ∧ 1 ≤ n := by
  obtain ⟨i, h1, h2, h3, h4, h5⟩ := loc_some hl
  have hi := okR_at hok i h1
  omega
theorem leB_byte (sz j : Nat) (v : Int) (h : j < sz) : v / 2 ^ (8 * j) % 256 = (leB sz v).getD j 0 := by
  rw [two_pow_int, leB_getD sz j v h]
theorem keepAB {w W W' : World} {b o1 o2 : Nat} {x y : Value} (h : Below w.heap.size w W ∧ W.cell? ⟨b, o1, none⟩ = some x ∧ W.cell? ⟨b, o2, none⟩ = some y) (hb : Below W.heap.size W W') : Below w.heap.size w W' ∧ W'.cell? ⟨b, o1, none⟩ = some x ∧ W'.cell? ⟨b, o2, none⟩ = some y :=
  ⟨h.1.trans (hb.mono h.1.size), (hb.cell (p := ⟨b, o1, none⟩) (World.block_lt_of_cell? W _ h.2.1)).trans h.2.1, (hb.cell (p := ⟨b, o2, none⟩) (World.block_lt_of_cell? W _ h.2.2)).trans h.2.2⟩
theorem keepC {W W' : World} {b o1 o2 : Nat} {x y : Value} (h : W.cell? ⟨b, o1, none⟩ = some x ∧ W.cell? ⟨b, o2, none⟩ = some y) (hb : Below W.heap.size W W') : W'.cell? ⟨b, o1, none⟩ = some x ∧ W'.cell? ⟨b, o2, none⟩ = some y :=
  ⟨(hb.cell (p := ⟨b, o1, none⟩) (World.block_lt_of_cell? W _ h.1)).trans h.1, (hb.cell (p := ⟨b, o2, none⟩) (World.block_lt_of_cell? W _ h.2)).trans h.2⟩
theorem keepCw {W W' : World} {b o1 o2 ib : Nat} {x y : Value} (h : W.cell? ⟨b, o1, none⟩ = some x ∧ W.cell? ⟨b, o2, none⟩ = some y) (hc : Chg (· = ib) W W') (hne : b ≠ ib) : W'.cell? ⟨b, o1, none⟩ = some x ∧ W'.cell? ⟨b, o2, none⟩ = some y :=
  ⟨(hc.cell (World.block_lt_of_cell? W _ h.1) hne).trans h.1, (hc.cell (World.block_lt_of_cell? W _ h.2) hne).trans h.2⟩
theorem keepCu {W W' : World} {b o1 o2 d o3 ib : Nat} {x y z : Value} (h : W.cell? ⟨b, o1, none⟩ = some x ∧ W.cell? ⟨b, o2, none⟩ = some y ∧ W.cell? ⟨d, o3, none⟩ = some z) (hc : Chg (· = ib) W W') (hne : b ≠ ib) (hne2 : d ≠ ib) : W'.cell? ⟨b, o1, none⟩ = some x ∧ W'.cell? ⟨b, o2, none⟩ = some y ∧ W'.cell? ⟨d, o3, none⟩ = some z :=
  ⟨(hc.cell (World.block_lt_of_cell? W _ h.1) hne).trans h.1, (hc.cell (World.block_lt_of_cell? W _ h.2.1) hne).trans h.2.1, (hc.cell (World.block_lt_of_cell? W _ h.2.2) hne2).trans h.2.2⟩
theorem writeE_nil (L : List (Int × Int)) (M : List Int) (a : Int) : writeE L a [] = 0 ∧ writeM L M a [] = M := by
  unfold writeE writeM
  rw [loc_empty L a _ (by simp)]
  exact ⟨rfl, rfl⟩
theorem isEmpty_pos {l : List Int} (h : 0 < l.length) : l.isEmpty = false := by
  cases l
  · simp at h
  · rfl
theorem writeE_none {L : List (Int × Int)} {a : Int} {l : List Int} (M : List Int) (h : loc L a l.length = none) (hp : 0 < l.length) : writeE L a l = 5 ∧ writeM L M a l = M := by
  unfold writeE writeM
  rw [isEmpty_pos hp, h]
  exact ⟨rfl, rfl⟩
theorem writeE_some {L : List (Int × Int)} {a : Int} {l : List Int} {t : Nat} (M : List Int) (h : loc L a l.length = some t) (hp : 0 < l.length) : writeE L a l = 0 ∧ writeM L M a l = put M t l := by
  unfold writeE writeM
  rw [isEmpty_pos hp, h]
  exact ⟨rfl, rfl⟩
theorem next64 (k : Nat) (h : k < 2000000) : wrap64 ((k : Int) + 1) = ((k + 1 : Nat) : Int) := by
  rw [IntWalk.wrap64_in _ (by omega)]
  rfl
theorem next64v (k : Nat) (h : k < 2000000) : Value.int .i64 (wrap64 ((k : Int) + 1)) = Value.int .i64 ((k + 1 : Nat) : Int) := by rw [next64 k h]
theorem next64w (k : Nat) (h : k < 2000000) : Value.int .i64 (IntKind.i64.wrap ((k : Int) + 1)) = Value.int .i64 ((k + 1 : Nat) : Int) := by rw [IntWalk.i64_left, next64 k h]
end Go.Proofs.YtfhhgcgbgmilcaaGreat
