/- Contracts of gmem's accesses that write, and of those that copy: encode, Store, Write, Read, Image. Conditions: as each theorem names them. -/
import Derived.Test.YtolflhnkdnjckaaGm3
import Derived.Test.YtolflhnkdnjckaaBw
import Derived.Test.YtolflhnkdnjckaaBl
namespace Go.Proofs.Ytolflhnkdnjckaa
open Go.ChangeShapes Go.WideShapes Go.ChangeAt Go.RowKit
set_option linter.unusedVariables false

theorem IsMem.put {w : World} {p ib qb : Nat} {L : List (Int × Int)} {M : List Int} (h : IsMem w p ib qb L M) {k : Nat} {l : List Int} (hk : k + l.length ≤ M.length) (hl : isBytes l) : IsMem (w.setRow ib (bv (put M k l))) p ib qb L (Go.Proofs.Ytolflhnkdnjckaa.put M k l) :=
  ⟨by rw [setRow_other _ _ _ _ h.ne1, put_length M k l hk]; exact h.obj, setRow_heap _ _ _ _ _ _ h.img, by rw [setRow_other _ _ _ _ (fun e => h.ne3 e.symm)]; exact h.prt, h.ok, h.n16, (put_length M k l hk).trans h.len, put_bytes h.rng hl, h.ne1, h.ne2, h.ne3⟩

/-! ## Store -/
def storeM (L : List (Int × Int)) (M : List Int) (a n v : Int) : List Int :=
  if wid n then (match loc L a n with | some k => put M k (leB n.toNat v) | none => M) else M
/-! ## Write -/
/-- a slice of bytes, nil too, that reads as l -/
def BytesAt (w : World) (v : Value) (l : List Int) : Prop :=
  ((∃ a c, v = .slice a 0 c ∧ (a = none → c = 0)) ∧ l = []) ∨ ∃ b o c : Nat, v = .slice (some ⟨b, o, none⟩) l.length c ∧ b < w.heap.size ∧ l.length ≤ c ∧ ∀ j, j < l.length → w.cell? ⟨b, o + j, none⟩ = some (.int .u8 (l.getD j 0))
theorem BytesAt.below {w w' : World} {v : Value} {l : List Int} (h : BytesAt w v l) (hb : Below w.heap.size w w') : BytesAt w' v l := by
  rcases h with h | ⟨b, o, c, h1, h2, h3, h4⟩
  · exact Or.inl h
  · have := hb.size
    exact Or.inr ⟨b, o, c, h1, by omega, h3, fun j hj => (hb.cell (p := ⟨b, o + j, none⟩) h2).trans (h4 j hj)⟩
def writeE (L : List (Int × Int)) (a : Int) (l : List Int) : Int := if l.isEmpty then 0 else (if (loc L a l.length).isSome then 0 else 5)
def writeM (L : List (Int × Int)) (M : List Int) (a : Int) (l : List Int) : List Int := match loc L a l.length with | some k => put M k l | none => M
theorem loc_empty (L : List (Int × Int)) (a n : Int) (h : n < 1) : loc L a n = none := loc_no fun i _ hc => by omega

/-! ## Read -/
def readE (L : List (Int × Int)) (a n : Int) : Int := if n < 0 then 2 else if n = 0 then 0 else if (loc L a n).isSome then 0 else 5
def readL (L : List (Int × Int)) (M : List Int) (a n : Int) : List Int := match loc L a n with | some k => (M.drop k).take n.toNat | none => []
theorem readL_bytes {L : List (Int × Int)} {M : List Int} {a n : Int} (h : isBytes M) : isBytes (readL L M a n) := by
  unfold readL
  cases loc L a n
  · exact isBytes_nil
  · exact isBytes_take (isBytes_drop h _) _
theorem read_nil (a n : Int) (w : World) : Calls Try.prog 35 #[.pointer none, .int .u64 a, .int .i64 n] w fun e w' => e = .returned (.tuple #[.slice none 0 0, .int .i64 1]) ∧ w = w' := by
  go_enter Try.func35, Try.ntmps35
  go_wp2_with (go_at_call 47; refine (made_nil _).mono ?_; rintro e w' ⟨rfl, rfl⟩)
  go_ret2
  exact ⟨rfl, rfl⟩
/-- new bytes: a slice of the call's own -/
def NewBytes (B : Nat) (w : World) (v : Value) (l : List Int) : Prop :=
  (v = .slice none 0 0 ∧ l = []) ∨ ∃ b c : Nat, v = .slice (some ⟨b, 0, none⟩) l.length c ∧ B ≤ b ∧ l.length ≤ c ∧ ∃ cs : List Value, w.heap[b]? = some (.cells (l.map (Value.int .u8) ++ cs).toArray 5 (0, 0)) ∧ c = l.length + cs.length
theorem NewBytes.at {B : Nat} {w : World} {v : Value} {l : List Int} (h : NewBytes B w v l) : BytesAt w v l := by
  rcases h with h | ⟨b, c, h1, h2, h3, cs, h4, _⟩
  · exact Or.inl ⟨⟨none, 0, h.1, fun _ => rfl⟩, h.2⟩
  · refine Or.inr ⟨b, 0, c, h1, lt_blk h4, h3, fun j hj => ?_⟩
    rw [cellK h4, List.getElem?_append_left (by simp; omega)]
    simp [hj, List.getD]
theorem NewBytes.below {B : Nat} {w w' : World} {v : Value} {l : List Int} (h : NewBytes B w v l) (hb : Below w.heap.size w w') : NewBytes B w' v l := by
  rcases h with h | ⟨b, c, h1, h2, h3, cs, h4, h5⟩
  · exact Or.inl h
  · exact Or.inr ⟨b, c, h1, h2, h3, cs, keepB hb h4, h5⟩

set_option maxHeartbeats 1000000 in
theorem read_any (p ib qb : Nat) (L : List (Int × Int)) (M : List Int) (a n : Int) (w : World) (h : IsMem w p ib qb L M) (ha : U64 a) (hn : n < 9223372036854775808) :
    Calls Try.prog 35 #[.pointer (some ⟨p, 0, none⟩), .int .u64 a, .int .i64 n] w fun e w' => ∃ v, e = .returned (.tuple #[v, .int .i64 (readE L a n)]) ∧ NewBytes w.heap.size w' v (readL L M a n) ∧ Below w.heap.size w w' := by
  have H : Hid (IsMem w p ib qb L M) := h
  have hmade := made_yes p w (by rw [cellK h.obj 0]; rfl)
  clear h
  have hnil := eqnil
  by_cases h0 : n < 0
  · go_enter Try.func35, Try.ntmps35
    go_wp2_with (go_at_call 47; refine hmade.mono ?_; rintro e w' ⟨rfl, rfl⟩)
    go_ret2
    refine ⟨.slice none 0 0, ret_eq ?_, Or.inl ⟨rfl, ?_⟩, Below.refl _ _⟩
    · unfold readE
      rw [if_pos h0]
      rfl
    · unfold readL
      rw [loc_empty L a n (by omega)]
  · by_cases h1 : n = 0
    · subst h1
      go_enter Try.func35, Try.ntmps35
      go_wp2_with (go_at_call 47; refine hmade.mono ?_; rintro e w' ⟨rfl, rfl⟩)
      go_ret2
      refine ⟨.slice none 0 0, rfl, Or.inl ⟨rfl, ?_⟩, Below.refl _ _⟩
      unfold readL
      rw [loc_empty L a 0 (by omega)]
    · obtain ⟨m, rfl⟩ := Int.eq_ofNat_of_zero_le (show 0 ≤ n by omega)
      have hE : readE L a m = if (loc L a m).isSome then 0 else 5 := by
        unfold readE
        rw [if_neg h0, if_neg h1]
      have HE := hid_mk hE
      have hz : ((m : Int) == 0) = false := by simp; omega
      have hf := find_any p ib qb L M a m w H.out ha (by omega)
      have hcv : IntKind.u64.wrap (m : Int) = m := by rw [IntKind.wrap_u64]; omega
      clear hE h1 hn h0
      cases hloc : loc L a m with
      | none =>
        have HL := hid_mk hloc
        rw [hloc] at hf
        unfold findV at hf
        clear hloc
        go_enter Try.func35, Try.ntmps35
        go_wp2_with (first | (go_at_call 47; refine hmade.mono ?_; rintro e w' ⟨rfl, rfl⟩) | (go_at_call 48; refine hf.mono ?_; rintro e w' ⟨rfl, hb⟩))
        go_ret2
        refine ⟨.slice none 0 0, ret_eq ?_, Or.inl ⟨rfl, ?_⟩, hb⟩
        · rw [HE.out, HL.out]
          rfl
        · unfold readL
          rw [HL.out]
      | some k =>
        have HL := hid_mk hloc
        have hroom := loc_room hloc (by omega)
        have hlen := H.out.len
        have hsum := H.out.sum
        have HR := hid_mk (show k + m ≤ M.length by omega)
        have hml : ((M.drop k).take m).length = m := by simp; omega
        have HML := hid_mk hml
        have HS := hid_mk (fun (u : World) (hu : Below w.heap.size w u) (j : Nat) (hj : j < m) => show u.cell? ⟨ib, k + j, none⟩ = some (.int .u8 (((M.drop k).take m).getD j 0)) by
          rw [cellB (H.out.below hu).img (k + j) (by omega)]
          congr 2
          simp only [List.getD_eq_getElem?_getD, List.getElem?_take, List.getElem?_drop]
          rw [if_pos hj])
        rw [hloc] at hf
        unfold findV at hf
        simp only [Int.toNat_natCast] at hf
        have hmk := fun w => makeB w .i64 m (by omega)
        clear hloc hlen hroom hsum hml
        go_enter Try.func35, Try.ntmps35
        go_wp2_with (first | (go_at_call 47; refine hmade.mono ?_; rintro e w' ⟨rfl, rfl⟩) | (go_at_call 48; refine hf.mono ?_; rintro e w1 ⟨rfl, hb⟩; have hcp := fun ty => copyNew w1 ty m ib k m m _ HML.out (Nat.le_refl _) (lt_blk (H.out.below hb).img) (HS.out w1 hb)))
        go_ret2
        refine ⟨.slice (some ⟨w1.heap.size, 0, none⟩) m m, ret_eq ?_, Or.inr ⟨w1.heap.size, m, ?_, hb.size, ?_, [], ?_, ?_⟩, hb.alloc hb.size _⟩
        · rw [HE.out, HL.out]
          rfl
        all_goals
          unfold readL
          rw [HL.out]
          simp only [Int.toNat_natCast]
          try rw [HML.out]
        · exact Nat.le_refl _
        · rw [heap_alloc_new]
          simp [bv]
        · rfl

/-! ## Image -/
end Go.Proofs.Ytolflhnkdnjckaa
