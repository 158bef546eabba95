/- Bl Gm4: joined texts. Conditions: as each theorem names them. -/
import Derived.Test.YteolnghnlfeakaaKp02
import Derived.Test.YteolnghnlfeakaaKp04
import Derived.Test.YteolnghnlfeakaaRows
import Derived.WalkKit
import Derived.ProofKit
import Derived.Lib.BitFns
import Derived.Lib.Strings
import Derived.Lib.Slices
import Derived.Lib.Small
import Derived.Lib.Walk
/- The contract of math/bits.Len64: no more than 64 bits, and the number lies below that power. Condition: a number of 64 bits. -/
namespace Go.Proofs.Yteolnghnlfeakaa
open Go.ChangeShapes Go.WideShapes Go.ChangeAt Go.RowKit
set_option linter.unusedVariables false

theorem len_lt : ∀ n : Fin 256, n.val < 2 ^ Lib.bitLen n.val := by decide +kernel
/-- the last byte's length, a power of 256 further up -/
theorem len_up (x b : Int) (k : Nat) (h0 : 0 ≤ b) (h1 : b ≤ 255) (hx0 : 0 ≤ x) (hx : x < (b + 1) * ((2 ^ k : Nat) : Int)) : ∃ n : Nat, (Lib.bitLen b.toNat : Int) + k = n ∧ n ≤ 8 + k ∧ x.toNat < 2 ^ n := by
  have hl := len_lt ⟨b.toNat, by omega⟩
  have hle := Lib.bitLen_le8' b h0 h1
  refine ⟨Lib.bitLen b.toNat + k, by omega, by omega, ?_⟩
  simp only at hl
  rw [Nat.pow_add]
  have h3 : (b.toNat + 1) * 2 ^ k ≤ 2 ^ Lib.bitLen b.toNat * 2 ^ k := Nat.mul_le_mul_right _ hl
  have h4 : (x.toNat : Int) < (((b.toNat + 1) * 2 ^ k : Nat) : Int) := by
    rw [Int.natCast_mul]
    have e : ((b.toNat + 1 : Nat) : Int) = b + 1 := by omega
    rw [e]
    omega
  omega

theorem tab_size : Lib.len8tab.size = 256 := by decide +kernel
theorem tab_fin : ∀ i : Fin 256, (Lib.len8tab[i.val]'(by rw [tab_size]; exact i.isLt)).toNat = Lib.bitLen i.val := by decide +kernel
theorem tab_at (b : Int) (h : b.toNat < Lib.len8tab.size) : ((Lib.len8tab[b.toNat]'h).toNat : Int) = Lib.bitLen b.toNat := by
  have := tab_fin ⟨b.toNat, by rw [tab_size] at h; exact h⟩
  simp only at this
  omega
theorem len_fin (w : World) (x b : Int) (k : Nat) (h : b.toNat < Lib.len8tab.size) (hk : k ≤ 56) (hk0 : 1 ≤ k) (hb0 : 0 ≤ b) (hb1 : b ≤ 255) (h0 : 0 ≤ x) (hx : x < (b + 1) * ((2 ^ k : Nat) : Int)) :
    ∃ n : Nat, Ending.returned (.int .i64 (wrap64 ((k : Int) + wrap64 ((Lib.len8tab[b.toNat]'h).toNat : Int)))) = .returned (.int .i64 n) ∧ (n ≤ 64 ∧ x.toNat < 2 ^ n) ∧ w = w := by
  obtain ⟨n, h1, h2, h3⟩ := len_up x b k hb0 hb1 h0 hx
  have hle := Lib.bitLen_le8' b hb0 hb1
  refine ⟨n, ret_eq ?_, ⟨by omega, h3⟩, rfl⟩
  rw [tab_at b h, IntWalk.wrap64_in (Lib.bitLen b.toNat : Int) (by omega), IntWalk.wrap64_in _ (by omega)]
  congr 1
  omega
theorem len_fin0 (w : World) (x : Int) (h : x.toNat < Lib.len8tab.size) (hb1 : x ≤ 255) (h0 : 0 ≤ x) :
    ∃ n : Nat, Ending.returned (.int .i64 (wrap64 (wrap64 ((Lib.len8tab[x.toNat]'h).toNat : Int)))) = .returned (.int .i64 n) ∧ (n ≤ 64 ∧ x.toNat < 2 ^ n) ∧ w = w := by
  obtain ⟨n, h1, h2, h3⟩ := len_up x x 0 h0 hb1 h0 (by simp; omega)
  have hle := Lib.bitLen_le8' x h0 hb1
  refine ⟨n, ret_eq ?_, ⟨by omega, h3⟩, rfl⟩
  rw [tab_at x h, IntWalk.wrap64_in (Lib.bitLen x.toNat : Int) (by omega), IntWalk.wrap64_in _ (by omega)]
  congr 1

end Go.Proofs.Yteolnghnlfeakaa

/- Contracts of gmem's accesses that write, and of those that copy: encode, Store, Write, Read, Image. Conditions: as each theorem names them. -/
namespace Go.Proofs.Yteolnghnlfeakaa
open Go.ChangeShapes Go.WideShapes Go.ChangeAt Go.RowKit
set_option linter.unusedVariables false

theorem IsMem.put {w : World} {p ib qb : Nat} {L : List (Int × Int)} {M : List Int} (h : IsMem w p ib qb L M) {k : Nat} {l : List Int} (hk : k + l.length ≤ M.length) (hl : isBytes l) : IsMem (w.setRow ib (bv (put M k l))) p ib qb L (Go.Proofs.Yteolnghnlfeakaa.put M k l) :=
  ⟨by rw [setRow_other _ _ _ _ h.ne1, put_length M k l hk]; exact h.obj, setRow_heap _ _ _ _ _ _ h.img, by rw [setRow_other _ _ _ _ (fun e => h.ne3 e.symm)]; exact h.prt, h.ok, h.n16, (put_length M k l hk).trans h.len, put_bytes h.rng hl, h.ne1, h.ne2, h.ne3⟩

/-! ## Store -/
def storeM (L : List (Int × Int)) (M : List Int) (a n v : Int) : List Int :=
  if wid n then (match loc L a n with | some k => put M k (leB n.toNat v) | none => M) else M
/-! ## Write -/
/-- a slice of bytes, nil too, that reads as l -/
def BytesAt (w : World) (v : Value) (l : List Int) : Prop :=
  ((∃ a c, v = .slice a 0 c ∧ (a = none → c = 0)) ∧ l = []) ∨ ∃ b o c : Nat, v = .slice (some ⟨b, o, none⟩) l.length c ∧ b < w.heap.size ∧ l.length ≤ c ∧ ∀ j, j < l.length → w.cell? ⟨b, o + j, none⟩ = some (.int .u8 (l.getD j 0))
theorem BytesAt.below {w w' : World} {v : Value} {l : List Int} (h : BytesAt w v l) (hb : Below w.heap.size w w') : BytesAt w' v l := by
  rcases h with h | ⟨b, o, c, h1, h2, h3, h4⟩
  · exact Or.inl h
  · have := hb.size
    exact Or.inr ⟨b, o, c, h1, by omega, h3, fun j hj => (hb.cell (p := ⟨b, o + j, none⟩) h2).trans (h4 j hj)⟩
def writeE (L : List (Int × Int)) (a : Int) (l : List Int) : Int := if l.isEmpty then 0 else (if (loc L a l.length).isSome then 0 else 5)
def writeM (L : List (Int × Int)) (M : List Int) (a : Int) (l : List Int) : List Int := match loc L a l.length with | some k => put M k l | none => M
theorem loc_empty (L : List (Int × Int)) (a n : Int) (h : n < 1) : loc L a n = none := loc_no fun i _ hc => by omega

theorem write_nil (a : Int) (v : Value) (w : World) : Calls Try.prog 34 #[.pointer none, .int .u64 a, v] w fun e w' => e = .returned (.int .i64 1) ∧ w = w' := by
  go_enter Try.func34, Try.ntmps34
  go_wp2_with (go_at_call 39; refine (made_nil _).mono ?_; rintro e w' ⟨rfl, rfl⟩)
  go_ret
  exact ⟨rfl, rfl⟩

theorem write_any (p ib qb : Nat) (L : List (Int × Int)) (M : List Int) (a : Int) (v : Value) (l : List Int) (w : World) (h : IsMem w p ib qb L M) (ha : U64 a) (hv : BytesAt w v l) (hl : isBytes l) (hm : l.length ≤ 4611686018427387904) :
    Calls Try.prog 34 #[.pointer (some ⟨p, 0, none⟩), .int .u64 a, v] w fun e w' => e = .returned (.int .i64 (writeE L a l)) ∧ IsMem w' p ib qb L (writeM L M a l) ∧ Chg (· = ib) w w' := by
  have H : Hid (IsMem w p ib qb L M) := h
  have hmade := made_yes p w (by rw [cellK h.obj 0]; rfl)
  have HV := hid_mk hv
  clear h
  have hnil := eqnil
  by_cases he : l = []
  · subst he
    have hw : writeM L M a [] = M := by
      unfold writeM
      rw [loc_empty L a _ (by simp)]
    have HW := hid_mk hw
    clear hw
    rcases hv with ⟨⟨va, vc, rfl, _⟩, _⟩ | ⟨b, o, c, rfl, _, _, _⟩
    all_goals
      go_enter Try.func34, Try.ntmps34
      go_wp2_with (go_at_call 39; refine hmade.mono ?_; rintro e w' ⟨rfl, rfl⟩)
      go_ret
      exact ⟨rfl, by rw [HW.out]; exact H.out, Chg.refl _ _⟩
  · rcases hv with ⟨_, rfl⟩ | ⟨b, o, c, rfl, hb1, hb2, hb3⟩
    · exact absurd rfl he
    · have hne : l.isEmpty = false := by
        cases l
        · exact absurd rfl he
        · rfl
      have HE := hid_mk hne
      have hpos : 0 < l.length := by
        cases l
        · exact absurd rfl he
        · simp
      have hz : ((l.length : Int) == 0) = false := by simp; omega
      have HC := hid_mk hb3
      clear hne he hb3
      have hf := find_any p ib qb L M a l.length w H.out ha (by omega)
      cases hloc : loc L a l.length with
      | none =>
        have HL := hid_mk hloc
        rw [hloc] at hf
        unfold findV at hf
        clear hloc
        go_enter Try.func34, Try.ntmps34
        go_wp2_with (first | (go_at_call 39; refine hmade.mono ?_; rintro e w' ⟨rfl, rfl⟩) | (go_at_call 40; refine hf.mono ?_; rintro e w' ⟨rfl, hb⟩))
        go_ret
        refine ⟨ret_eq ?_, ?_, Chg.of_below hb⟩
        · unfold writeE
          rw [HE.out, HL.out]
          rfl
        · unfold writeM
          rw [HL.out]
          exact H.out.below hb
      | some k =>
        have HL := hid_mk hloc
        have hroom := loc_room hloc (by omega)
        have hlen := H.out.len
        have HR := hid_mk (show k + l.length ≤ M.length by omega)
        rw [hloc] at hf
        unfold findV at hf
        simp only [Int.toNat_natCast] at hf
        clear hloc hlen hroom
        go_enter Try.func34, Try.ntmps34
        go_wp2_with (first | (go_at_call 39; refine hmade.mono ?_; rintro e w' ⟨rfl, rfl⟩) | (go_at_call 40; refine hf.mono ?_; rintro e w' ⟨rfl, hb⟩; have hcp := fun ty => copyB w' ty ib k l.length l.length b o l.length c M l _ (H.out.below hb).img (by simp) (fun j hj => (hb.cell (p := ⟨b, o + j, none⟩) hb1).trans (HC.out j hj)) HR.out))
        go_ret
        refine ⟨ret_eq ?_, ?_, ?_⟩
        · unfold writeE
          rw [HE.out, HL.out]
          rfl
        · unfold writeM
          rw [HL.out]
          exact IsMem.put (H.out.below hb) HR.out hl
        · exact (Chg.of_below hb).trans (Chg.setRow _ _ _)

/-! ## Read -/
def readE (L : List (Int × Int)) (a n : Int) : Int := if n < 0 then 2 else if n = 0 then 0 else if (loc L a n).isSome then 0 else 5
def readL (L : List (Int × Int)) (M : List Int) (a n : Int) : List Int := match loc L a n with | some k => (M.drop k).take n.toNat | none => []
theorem readL_bytes {L : List (Int × Int)} {M : List Int} {a n : Int} (h : isBytes M) : isBytes (readL L M a n) := by
  unfold readL
  cases loc L a n
  · exact isBytes_nil
  · exact isBytes_take (isBytes_drop h _) _
theorem read_nil (a n : Int) (w : World) : Calls Try.prog 11 #[.pointer none, .int .u64 a, .int .i64 n] w fun e w' => e = .returned (.tuple #[.slice none 0 0, .int .i64 1]) ∧ w = w' := by
  go_enter Try.func11, Try.ntmps11
  go_wp2_with (go_at_call 39; refine (made_nil _).mono ?_; rintro e w' ⟨rfl, rfl⟩)
  go_ret2
  exact ⟨rfl, rfl⟩
/-- new bytes: a slice of the call's own -/
def NewBytes (B : Nat) (w : World) (v : Value) (l : List Int) : Prop :=
  (v = .slice none 0 0 ∧ l = []) ∨ ∃ b c : Nat, v = .slice (some ⟨b, 0, none⟩) l.length c ∧ B ≤ b ∧ l.length ≤ c ∧ ∃ cs : List Value, w.heap[b]? = some (.cells (l.map (Value.int .u8) ++ cs).toArray 5 (0, 0)) ∧ c = l.length + cs.length
theorem NewBytes.at {B : Nat} {w : World} {v : Value} {l : List Int} (h : NewBytes B w v l) : BytesAt w v l := by
  rcases h with h | ⟨b, c, h1, h2, h3, cs, h4, _⟩
  · exact Or.inl ⟨⟨none, 0, h.1, fun _ => rfl⟩, h.2⟩
  · refine Or.inr ⟨b, 0, c, h1, lt_blk h4, h3, fun j hj => ?_⟩
    rw [cellK h4, List.getElem?_append_left (by simp; omega)]
    simp [hj, List.getD]
theorem NewBytes.below {B : Nat} {w w' : World} {v : Value} {l : List Int} (h : NewBytes B w v l) (hb : Below w.heap.size w w') : NewBytes B w' v l := by
  rcases h with h | ⟨b, c, h1, h2, h3, cs, h4, h5⟩
  · exact Or.inl h
  · exact Or.inr ⟨b, c, h1, h2, h3, cs, keepB hb h4, h5⟩

set_option maxHeartbeats 1000000 in
theorem read_any (p ib qb : Nat) (L : List (Int × Int)) (M : List Int) (a n : Int) (w : World) (h : IsMem w p ib qb L M) (ha : U64 a) (hn : n < 9223372036854775808) :
    Calls Try.prog 11 #[.pointer (some ⟨p, 0, none⟩), .int .u64 a, .int .i64 n] w fun e w' => ∃ v, e = .returned (.tuple #[v, .int .i64 (readE L a n)]) ∧ NewBytes w.heap.size w' v (readL L M a n) ∧ Below w.heap.size w w' := by
  have H : Hid (IsMem w p ib qb L M) := h
  have hmade := made_yes p w (by rw [cellK h.obj 0]; rfl)
  clear h
  have hnil := eqnil
  by_cases h0 : n < 0
  · go_enter Try.func11, Try.ntmps11
    go_wp2_with (go_at_call 39; refine hmade.mono ?_; rintro e w' ⟨rfl, rfl⟩)
    go_ret2
    refine ⟨.slice none 0 0, ret_eq ?_, Or.inl ⟨rfl, ?_⟩, Below.refl _ _⟩
    · unfold readE
      rw [if_pos h0]
      rfl
    · unfold readL
      rw [loc_empty L a n (by omega)]
  · by_cases h1 : n = 0
    · subst h1
      go_enter Try.func11, Try.ntmps11
      go_wp2_with (go_at_call 39; refine hmade.mono ?_; rintro e w' ⟨rfl, rfl⟩)
      go_ret2
      refine ⟨.slice none 0 0, rfl, Or.inl ⟨rfl, ?_⟩, Below.refl _ _⟩
      unfold readL
      rw [loc_empty L a 0 (by omega)]
    · obtain ⟨m, rfl⟩ := Int.eq_ofNat_of_zero_le (show 0 ≤ n by omega)
      have hE : readE L a m = if (loc L a m).isSome then 0 else 5 := by
        unfold readE
        rw [if_neg h0, if_neg h1]
      have HE := hid_mk hE
      have hz : ((m : Int) == 0) = false := by simp; omega
      have hf := find_any p ib qb L M a m w H.out ha (by omega)
      have hcv : IntKind.u64.wrap (m : Int) = m := by rw [IntKind.wrap_u64]; omega
      clear hE h1 hn h0
      cases hloc : loc L a m with
      | none =>
        have HL := hid_mk hloc
        rw [hloc] at hf
        unfold findV at hf
        clear hloc
        go_enter Try.func11, Try.ntmps11
        go_wp2_with (first | (go_at_call 39; refine hmade.mono ?_; rintro e w' ⟨rfl, rfl⟩) | (go_at_call 40; refine hf.mono ?_; rintro e w' ⟨rfl, hb⟩))
        go_ret2
        refine ⟨.slice none 0 0, ret_eq ?_, Or.inl ⟨rfl, ?_⟩, hb⟩
        · rw [HE.out, HL.out]
          rfl
        · unfold readL
          rw [HL.out]
      | some k =>
        have HL := hid_mk hloc
        have hroom := loc_room hloc (by omega)
        have hlen := H.out.len
        have hsum := H.out.sum
        have HR := hid_mk (show k + m ≤ M.length by omega)
        have hml : ((M.drop k).take m).length = m := by simp; omega
        have HML := hid_mk hml
        have HS := hid_mk (fun (u : World) (hu : Below w.heap.size w u) (j : Nat) (hj : j < m) => show u.cell? ⟨ib, k + j, none⟩ = some (.int .u8 (((M.drop k).take m).getD j 0)) by
          rw [cellB (H.out.below hu).img (k + j) (by omega)]
          congr 2
          simp only [List.getD_eq_getElem?_getD, List.getElem?_take, List.getElem?_drop]
          rw [if_pos hj])
        rw [hloc] at hf
        unfold findV at hf
        simp only [Int.toNat_natCast] at hf
        have hmk := fun w => makeB w .i64 m (by omega)
        clear hloc hlen hroom hsum hml
        go_enter Try.func11, Try.ntmps11
        go_wp2_with (first | (go_at_call 39; refine hmade.mono ?_; rintro e w' ⟨rfl, rfl⟩) | (go_at_call 40; refine hf.mono ?_; rintro e w1 ⟨rfl, hb⟩; have hcp := fun ty => copyNew w1 ty m ib k m m _ HML.out (Nat.le_refl _) (lt_blk (H.out.below hb).img) (HS.out w1 hb)))
        go_ret2
        refine ⟨.slice (some ⟨w1.heap.size, 0, none⟩) m m, ret_eq ?_, Or.inr ⟨w1.heap.size, m, ?_, hb.size, ?_, [], ?_, ?_⟩, hb.alloc hb.size _⟩
        · rw [HE.out, HL.out]
          rfl
        all_goals
          unfold readL
          rw [HL.out]
          simp only [Int.toNat_natCast]
          try rw [HML.out]
        · exact Nat.le_refl _
        · rw [heap_alloc_new]
          simp [bv]
        · rfl

/-! ## Image -/
theorem image_nil (w : World) : Calls Try.prog 32 #[.pointer none] w fun e w' => e = .returned (.slice none 0 0) ∧ w = w' := by
  go_enter Try.func32, Try.ntmps32
  go_wp2_with (go_at_call 39; refine (made_nil _).mono ?_; rintro e w' ⟨rfl, rfl⟩)
  go_ret
  exact ⟨rfl, rfl⟩
theorem image_any (p ib qb : Nat) (L : List (Int × Int)) (M : List Int) (w : World) (h : IsMem w p ib qb L M) :
    Calls Try.prog 32 #[.pointer (some ⟨p, 0, none⟩)] w fun e w' => ∃ v, e = .returned v ∧ NewBytes w.heap.size w' v M ∧ Below w.heap.size w w' := by
  have H : Hid (IsMem w p ib qb L M) := h
  have hmade := made_yes p w (by rw [cellK h.obj 0]; rfl)
  have ho := cellK h.obj 1
  simp at ho
  have hpl := lt_blk h.obj
  have hne := h.ne1
  have hsum := h.sum
  have hmk := fun w => makeB w .i64 M.length (by omega)
  have hcp := fun ty => copyNew w ty M.length ib 0 M.length M.length M rfl (Nat.le_refl _) (lt_blk h.img) (fun j hj => by rw [cellB h.img (0 + j) (by omega), Nat.zero_add])
  clear h
  go_enter Try.func32, Try.ntmps32
  go_wp2_with (go_at_call 39; refine hmade.mono ?_; rintro e w' ⟨rfl, rfl⟩)
  go_ret
  refine ⟨.slice (some ⟨w.heap.size, 0, none⟩) M.length M.length, rfl, Or.inr ⟨w.heap.size, M.length, rfl, Nat.le_refl _, Nat.le_refl _, [], ?_, rfl⟩, (Below.refl _ _).alloc (Nat.le_refl _) _⟩
  rw [heap_alloc_new]
  simp [bv]
end Go.Proofs.Yteolnghnlfeakaa
