/- Bl Gm4 Gm5: joined texts. Conditions: as each theorem names them. -/
import Derived.Test.YtfhhgcgbgmilcaaGreatKp01
import Derived.Test.YtfhhgcgbgmilcaaGreatKp03
import Derived.Test.YtfhhgcgbgmilcaaGreatRows
import Derived.WalkKit
import Derived.ProofKit
import Derived.Lib.BitFns
import Derived.Lib.Strings
import Derived.Lib.Slices
import Derived.Lib.Small
import Derived.Lib.Walk
import Derived.Deep.RegionHeld3
/- The contract of math/bits.Len64: no more than 64 bits, and the number lies below that power. Condition: a number of 64 bits. -/
namespace Go.Proofs.YtfhhgcgbgmilcaaGreat
open Go.ChangeShapes Go.WideShapes Go.ChangeAt Go.RowKit
set_option linter.unusedVariables false

theorem len_lt : ∀ n : Fin 256, n.val < 2 ^ Lib.bitLen n.val := by decide +kernel
/-- the last byte's length, a power of 256 further up -/
theorem len_up (x b : Int) (k : Nat) (h0 : 0 ≤ b) (h1 : b ≤ 255) (hx0 : 0 ≤ x) (hx : x < (b + 1) * ((2 ^ k : Nat) : Int)) : ∃ n : Nat, (Lib.bitLen b.toNat : Int) + k = n ∧ n ≤ 8 + k ∧ x.toNat < 2 ^ n := by
  have hl := len_lt ⟨b.toNat, by omega⟩
  have hle := Lib.bitLen_le8' b h0 h1
  refine ⟨Lib.bitLen b.toNat + k, by omega, by omega, ?_⟩
  simp only at hl
  rw [Nat.pow_add]
  have h3 : (b.toNat + 1) * 2 ^ k ≤ 2 ^ Lib.bitLen b.toNat * 2 ^ k := Nat.mul_le_mul_right _ hl
  have h4 : (x.toNat : Int) < (((b.toNat + 1) * 2 ^ k : Nat) : Int) := by
    rw [Int.natCast_mul]
    have e : ((b.toNat + 1 : Nat) : Int) = b + 1 := by omega
    rw [e]
    omega
  omega

theorem tab_size : Lib.len8tab.size = 256 := by decide +kernel
theorem tab_fin : ∀ i : Fin 256, (Lib.len8tab[i.val]'(by rw [tab_size]; exact i.isLt)).toNat = Lib.bitLen i.val := by decide +kernel
theorem tab_at (b : Int) (h : b.toNat < Lib.len8tab.size) : ((Lib.len8tab[b.toNat]'h).toNat : Int) = Lib.bitLen b.toNat := by
  have := tab_fin ⟨b.toNat, by rw [tab_size] at h; exact h⟩
  simp only at this
  omega
theorem len_fin (w : World) (x b : Int) (k : Nat) (h : b.toNat < Lib.len8tab.size) (hk : k ≤ 56) (hk0 : 1 ≤ k) (hb0 : 0 ≤ b) (hb1 : b ≤ 255) (h0 : 0 ≤ x) (hx : x < (b + 1) * ((2 ^ k : Nat) : Int)) :
    ∃ n : Nat, Ending.returned (.int .i64 (wrap64 ((k : Int) + wrap64 ((Lib.len8tab[b.toNat]'h).toNat : Int)))) = .returned (.int .i64 n) ∧ (n ≤ 64 ∧ x.toNat < 2 ^ n) ∧ w = w := by
  obtain ⟨n, h1, h2, h3⟩ := len_up x b k hb0 hb1 h0 hx
  have hle := Lib.bitLen_le8' b hb0 hb1
  refine ⟨n, ret_eq ?_, ⟨by omega, h3⟩, rfl⟩
  rw [tab_at b h, IntWalk.wrap64_in (Lib.bitLen b.toNat : Int) (by omega), IntWalk.wrap64_in _ (by omega)]
  congr 1
  omega
theorem len_fin0 (w : World) (x : Int) (h : x.toNat < Lib.len8tab.size) (hb1 : x ≤ 255) (h0 : 0 ≤ x) :
    ∃ n : Nat, Ending.returned (.int .i64 (wrap64 (wrap64 ((Lib.len8tab[x.toNat]'h).toNat : Int)))) = .returned (.int .i64 n) ∧ (n ≤ 64 ∧ x.toNat < 2 ^ n) ∧ w = w := by
  obtain ⟨n, h1, h2, h3⟩ := len_up x x 0 h0 hb1 h0 (by simp; omega)
  have hle := Lib.bitLen_le8' x h0 hb1
  refine ⟨n, ret_eq ?_, ⟨by omega, h3⟩, rfl⟩
  rw [tab_at x h, IntWalk.wrap64_in (Lib.bitLen x.toNat : Int) (by omega), IntWalk.wrap64_in _ (by omega)]
  congr 1

end Go.Proofs.YtfhhgcgbgmilcaaGreat

/- Contracts of gmem's accesses that write, and of those that copy: encode, Store, Write, Read, Image. Conditions: as each theorem names them. -/
namespace Go.Proofs.YtfhhgcgbgmilcaaGreat
open Go.ChangeShapes Go.WideShapes Go.ChangeAt Go.RowKit
set_option linter.unusedVariables false

theorem IsMem.put {w : World} {p ib qb : Nat} {L : List (Int × Int)} {M : List Int} (h : IsMem w p ib qb L M) {k : Nat} {l : List Int} (hk : k + l.length ≤ M.length) (hl : isBytes l) : IsMem (w.setRow ib (bv (put M k l))) p ib qb L (Go.Proofs.YtfhhgcgbgmilcaaGreat.put M k l) :=
  ⟨by rw [setRow_other _ _ _ _ h.ne1, put_length M k l hk]; exact h.obj, setRow_heap _ _ _ _ _ _ h.img, by rw [setRow_other _ _ _ _ (fun e => h.ne3 e.symm)]; exact h.prt, h.ok, h.n16, (put_length M k l hk).trans h.len, put_bytes h.rng hl, h.ne1, h.ne2, h.ne3⟩

/-! ## Store -/
def storeM (L : List (Int × Int)) (M : List Int) (a n v : Int) : List Int :=
  if wid n then (match loc L a n with | some k => put M k (leB n.toNat v) | none => M) else M
/-! ## Write -/
/-- a slice of bytes, nil too, that reads as l -/
def BytesAt (w : World) (v : Value) (l : List Int) : Prop :=
  ((∃ a c, v = .slice a 0 c ∧ (a = none → c = 0)) ∧ l = []) ∨ ∃ b o c : Nat, v = .slice (some ⟨b, o, none⟩) l.length c ∧ b < w.heap.size ∧ l.length ≤ c ∧ ∀ j, j < l.length → w.cell? ⟨b, o + j, none⟩ = some (.int .u8 (l.getD j 0))
theorem BytesAt.below {w w' : World} {v : Value} {l : List Int} (h : BytesAt w v l) (hb : Below w.heap.size w w') : BytesAt w' v l := by
  rcases h with h | ⟨b, o, c, h1, h2, h3, h4⟩
  · exact Or.inl h
  · have := hb.size
    exact Or.inr ⟨b, o, c, h1, by omega, h3, fun j hj => (hb.cell (p := ⟨b, o + j, none⟩) h2).trans (h4 j hj)⟩
def writeE (L : List (Int × Int)) (a : Int) (l : List Int) : Int := if l.isEmpty then 0 else (if (loc L a l.length).isSome then 0 else 5)
def writeM (L : List (Int × Int)) (M : List Int) (a : Int) (l : List Int) : List Int := match loc L a l.length with | some k => put M k l | none => M
theorem loc_empty (L : List (Int × Int)) (a n : Int) (h : n < 1) : loc L a n = none := loc_no fun i _ hc => by omega

theorem write_nil (a : Int) (v : Value) (w : World) : Calls Tryz.prog 9 #[.pointer none, .int .u64 a, v] w fun e w' => e = .returned (.int .i64 1) ∧ w = w' := by
  go_enter Tryz.func9, Tryz.ntmps9
  go_wp2_with (go_at_call 30; refine (made_nil _).mono ?_; rintro e w' ⟨rfl, rfl⟩)
  go_ret
  exact ⟨rfl, rfl⟩

theorem write_any (p ib qb : Nat) (L : List (Int × Int)) (M : List Int) (a : Int) (v : Value) (l : List Int) (w : World) (h : IsMem w p ib qb L M) (ha : U64 a) (hv : BytesAt w v l) (hl : isBytes l) (hm : l.length ≤ 4611686018427387904) :
    Calls Tryz.prog 9 #[.pointer (some ⟨p, 0, none⟩), .int .u64 a, v] w fun e w' => e = .returned (.int .i64 (writeE L a l)) ∧ IsMem w' p ib qb L (writeM L M a l) ∧ Chg (· = ib) w w' := by
  have H : Hid (IsMem w p ib qb L M) := h
  have hmade := made_yes p w (by rw [cellK h.obj 0]; rfl)
  have HV := hid_mk hv
  clear h
  have hnil := eqnil
  by_cases he : l = []
  · subst he
    have hw : writeM L M a [] = M := by
      unfold writeM
      rw [loc_empty L a _ (by simp)]
    have HW := hid_mk hw
    clear hw
    rcases hv with ⟨⟨va, vc, rfl, _⟩, _⟩ | ⟨b, o, c, rfl, _, _, _⟩
    all_goals
      go_enter Tryz.func9, Tryz.ntmps9
      go_wp2_with (go_at_call 30; refine hmade.mono ?_; rintro e w' ⟨rfl, rfl⟩)
      go_ret
      exact ⟨rfl, by rw [HW.out]; exact H.out, Chg.refl _ _⟩
  · rcases hv with ⟨_, rfl⟩ | ⟨b, o, c, rfl, hb1, hb2, hb3⟩
    · exact absurd rfl he
    · have hne : l.isEmpty = false := by
        cases l
        · exact absurd rfl he
        · rfl
      have HE := hid_mk hne
      have hpos : 0 < l.length := by
        cases l
        · exact absurd rfl he
        · simp
      have hz : ((l.length : Int) == 0) = false := by simp; omega
      have HC := hid_mk hb3
      clear hne he hb3
      have hf := find_any p ib qb L M a l.length w H.out ha (by omega)
      cases hloc : loc L a l.length with
      | none =>
        have HL := hid_mk hloc
        rw [hloc] at hf
        unfold findV at hf
        clear hloc
        go_enter Tryz.func9, Tryz.ntmps9
        go_wp2_with (first | (go_at_call 30; refine hmade.mono ?_; rintro e w' ⟨rfl, rfl⟩) | (go_at_call 31; refine hf.mono ?_; rintro e w' ⟨rfl, hb⟩))
        go_ret
        refine ⟨ret_eq ?_, ?_, Chg.of_below hb⟩
        · unfold writeE
          rw [HE.out, HL.out]
          rfl
        · unfold writeM
          rw [HL.out]
          exact H.out.below hb
      | some k =>
        have HL := hid_mk hloc
        have hroom := loc_room hloc (by omega)
        have hlen := H.out.len
        have HR := hid_mk (show k + l.length ≤ M.length by omega)
        rw [hloc] at hf
        unfold findV at hf
        simp only [Int.toNat_natCast] at hf
        clear hloc hlen hroom
        go_enter Tryz.func9, Tryz.ntmps9
        go_wp2_with (first | (go_at_call 30; refine hmade.mono ?_; rintro e w' ⟨rfl, rfl⟩) | (go_at_call 31; refine hf.mono ?_; rintro e w' ⟨rfl, hb⟩; have hcp := fun ty => copyB w' ty ib k l.length l.length b o l.length c M l _ (H.out.below hb).img (by simp) (fun j hj => (hb.cell (p := ⟨b, o + j, none⟩) hb1).trans (HC.out j hj)) HR.out))
        go_ret
        refine ⟨ret_eq ?_, ?_, ?_⟩
        · unfold writeE
          rw [HE.out, HL.out]
          rfl
        · unfold writeM
          rw [HL.out]
          exact IsMem.put (H.out.below hb) HR.out hl
        · exact (Chg.of_below hb).trans (Chg.setRow _ _ _)

/-! ## Read -/
def readE (L : List (Int × Int)) (a n : Int) : Int := if n < 0 then 2 else if n = 0 then 0 else if (loc L a n).isSome then 0 else 5
def readL (L : List (Int × Int)) (M : List Int) (a n : Int) : List Int := match loc L a n with | some k => (M.drop k).take n.toNat | none => []
theorem readL_bytes {L : List (Int × Int)} {M : List Int} {a n : Int} (h : isBytes M) : isBytes (readL L M a n) := by
  unfold readL
  cases loc L a n
  · exact isBytes_nil
  · exact isBytes_take (isBytes_drop h _) _
theorem read_nil (a n : Int) (w : World) : Calls Tryz.prog 65 #[.pointer none, .int .u64 a, .int .i64 n] w fun e w' => e = .returned (.tuple #[.slice none 0 0, .int .i64 1]) ∧ w = w' := by
  go_enter Tryz.func65, Tryz.ntmps65
  go_wp2_with (go_at_call 30; refine (made_nil _).mono ?_; rintro e w' ⟨rfl, rfl⟩)
  go_ret2
  exact ⟨rfl, rfl⟩
/-- new bytes: a slice of the call's own -/
def NewBytes (B : Nat) (w : World) (v : Value) (l : List Int) : Prop :=
  (v = .slice none 0 0 ∧ l = []) ∨ ∃ b c : Nat, v = .slice (some ⟨b, 0, none⟩) l.length c ∧ B ≤ b ∧ l.length ≤ c ∧ ∃ cs : List Value, w.heap[b]? = some (.cells (l.map (Value.int .u8) ++ cs).toArray 5 (0, 0)) ∧ c = l.length + cs.length
theorem NewBytes.at {B : Nat} {w : World} {v : Value} {l : List Int} (h : NewBytes B w v l) : BytesAt w v l := by
  rcases h with h | ⟨b, c, h1, h2, h3, cs, h4, _⟩
  · exact Or.inl ⟨⟨none, 0, h.1, fun _ => rfl⟩, h.2⟩
  · refine Or.inr ⟨b, 0, c, h1, lt_blk h4, h3, fun j hj => ?_⟩
    rw [cellK h4, List.getElem?_append_left (by simp; omega)]
    simp [hj, List.getD]
theorem NewBytes.below {B : Nat} {w w' : World} {v : Value} {l : List Int} (h : NewBytes B w v l) (hb : Below w.heap.size w w') : NewBytes B w' v l := by
  rcases h with h | ⟨b, c, h1, h2, h3, cs, h4, h5⟩
  · exact Or.inl h
  · exact Or.inr ⟨b, c, h1, h2, h3, cs, keepB hb h4, h5⟩

set_option maxHeartbeats 1000000 in
theorem read_any (p ib qb : Nat) (L : List (Int × Int)) (M : List Int) (a n : Int) (w : World) (h : IsMem w p ib qb L M) (ha : U64 a) (hn : n < 9223372036854775808) :
    Calls Tryz.prog 65 #[.pointer (some ⟨p, 0, none⟩), .int .u64 a, .int .i64 n] w fun e w' => ∃ v, e = .returned (.tuple #[v, .int .i64 (readE L a n)]) ∧ NewBytes w.heap.size w' v (readL L M a n) ∧ Below w.heap.size w w' := by
  have H : Hid (IsMem w p ib qb L M) := h
  have hmade := made_yes p w (by rw [cellK h.obj 0]; rfl)
  clear h
  have hnil := eqnil
  by_cases h0 : n < 0
  · go_enter Tryz.func65, Tryz.ntmps65
    go_wp2_with (go_at_call 30; refine hmade.mono ?_; rintro e w' ⟨rfl, rfl⟩)
    go_ret2
    refine ⟨.slice none 0 0, ret_eq ?_, Or.inl ⟨rfl, ?_⟩, Below.refl _ _⟩
    · unfold readE
      rw [if_pos h0]
      rfl
    · unfold readL
      rw [loc_empty L a n (by omega)]
  · by_cases h1 : n = 0
    · subst h1
      go_enter Tryz.func65, Tryz.ntmps65
      go_wp2_with (go_at_call 30; refine hmade.mono ?_; rintro e w' ⟨rfl, rfl⟩)
      go_ret2
      refine ⟨.slice none 0 0, rfl, Or.inl ⟨rfl, ?_⟩, Below.refl _ _⟩
      unfold readL
      rw [loc_empty L a 0 (by omega)]
    · obtain ⟨m, rfl⟩ := Int.eq_ofNat_of_zero_le (show 0 ≤ n by omega)
      have hE : readE L a m = if (loc L a m).isSome then 0 else 5 := by
        unfold readE
        rw [if_neg h0, if_neg h1]
      have HE := hid_mk hE
      have hz : ((m : Int) == 0) = false := by simp; omega
      have hf := find_any p ib qb L M a m w H.out ha (by omega)
      have hcv : IntKind.u64.wrap (m : Int) = m := by rw [IntKind.wrap_u64]; omega
      clear hE h1 hn h0
      cases hloc : loc L a m with
      | none =>
        have HL := hid_mk hloc
        rw [hloc] at hf
        unfold findV at hf
        clear hloc
        go_enter Tryz.func65, Tryz.ntmps65
        go_wp2_with (first | (go_at_call 30; refine hmade.mono ?_; rintro e w' ⟨rfl, rfl⟩) | (go_at_call 31; refine hf.mono ?_; rintro e w' ⟨rfl, hb⟩))
        go_ret2
        refine ⟨.slice none 0 0, ret_eq ?_, Or.inl ⟨rfl, ?_⟩, hb⟩
        · rw [HE.out, HL.out]
          rfl
        · unfold readL
          rw [HL.out]
      | some k =>
        have HL := hid_mk hloc
        have hroom := loc_room hloc (by omega)
        have hlen := H.out.len
        have hsum := H.out.sum
        have HR := hid_mk (show k + m ≤ M.length by omega)
        have hml : ((M.drop k).take m).length = m := by simp; omega
        have HML := hid_mk hml
        have HS := hid_mk (fun (u : World) (hu : Below w.heap.size w u) (j : Nat) (hj : j < m) => show u.cell? ⟨ib, k + j, none⟩ = some (.int .u8 (((M.drop k).take m).getD j 0)) by
          rw [cellB (H.out.below hu).img (k + j) (by omega)]
          congr 2
          simp only [List.getD_eq_getElem?_getD, List.getElem?_take, List.getElem?_drop]
          rw [if_pos hj])
        rw [hloc] at hf
        unfold findV at hf
        simp only [Int.toNat_natCast] at hf
        have hmk := fun w => makeB w .i64 m (by omega)
        clear hloc hlen hroom hsum hml
        go_enter Tryz.func65, Tryz.ntmps65
        go_wp2_with (first | (go_at_call 30; refine hmade.mono ?_; rintro e w' ⟨rfl, rfl⟩) | (go_at_call 31; refine hf.mono ?_; rintro e w1 ⟨rfl, hb⟩; have hcp := fun ty => copyNew w1 ty m ib k m m _ HML.out (Nat.le_refl _) (lt_blk (H.out.below hb).img) (HS.out w1 hb)))
        go_ret2
        refine ⟨.slice (some ⟨w1.heap.size, 0, none⟩) m m, ret_eq ?_, Or.inr ⟨w1.heap.size, m, ?_, hb.size, ?_, [], ?_, ?_⟩, hb.alloc hb.size _⟩
        · rw [HE.out, HL.out]
          rfl
        all_goals
          unfold readL
          rw [HL.out]
          simp only [Int.toNat_natCast]
          try rw [HML.out]
        · exact Nat.le_refl _
        · rw [heap_alloc_new]
          simp [bv]
        · rfl

/-! ## Image -/
end Go.Proofs.YtfhhgcgbgmilcaaGreat

/- Contracts of gmem's Check, total, New and Regions. Conditions: as each theorem names them. -/
namespace Go.Proofs.YtfhhgcgbgmilcaaGreat
open Go.ChangeShapes Go.WideShapes Go.ChangeAt Go.RowKit
set_option linter.unusedVariables false

/-- a slice of regions, nil too, that reads as L -/
def RegsAt (w : World) (v : Value) (L : List (Int × Int)) : Prop :=
  ((∃ a c, v = .slice a 0 c ∧ (a = none → c = 0)) ∧ L = []) ∨ ∃ b o c : Nat, v = .slice (some ⟨b, o, none⟩) L.length c ∧ b < w.heap.size ∧ L.length ≤ c ∧ ∀ j, j < L.length → w.cell? ⟨b, o + j * 2, none⟩ = some (.int .u64 (at_ L j).1) ∧ w.cell? ⟨b, o + j * 2 + 1, none⟩ = some (.int .u64 (at_ L j).2)
theorem RegsAt.below {w w' : World} {v : Value} {L : List (Int × Int)} (h : RegsAt w v L) (hb : Below w.heap.size w w') : RegsAt w' v L := by
  rcases h with h | ⟨b, o, c, h1, h2, h3, h4⟩
  · exact Or.inl h
  · have := hb.size
    exact Or.inr ⟨b, o, c, h1, by omega, h3, fun j hj => ⟨(hb.cell (p := ⟨b, o + j * 2, none⟩) h2).trans (h4 j hj).1, (hb.cell (p := ⟨b, o + j * 2 + 1, none⟩) h2).trans (h4 j hj).2⟩⟩
/-- words of 64 bits -/
def isRegs (L : List (Int × Int)) : Prop := ∀ r ∈ L, U64 r.1 ∧ U64 r.2
theorem isRegs_at {L : List (Int × Int)} (h : isRegs L) (i : Nat) : U64 (at_ L i).1 ∧ U64 (at_ L i).2 := by
  by_cases hi : i < L.length
  · have e : at_ L i = L[i] := by simp [at_, List.getD, hi]
    rw [e]
    exact h _ (List.getElem_mem hi)
  · have e : at_ L i = (0, 0) := by simp [at_, List.getD, hi]
    rw [e]
    simp [U64]

/-! ## total -/
theorem sumR_take_succ (L : List (Int × Int)) (k : Nat) (h : k < L.length) : sumR (L.take (k + 1)) = sumR (L.take k) + (at_ L k).2.toNat := off_step L k h
theorem total_any (v : Value) (L : List (Int × Int)) (w : World) (hv : RegsAt w v L) (hu : isRegs L) (hs : sumR L ≤ 1048576) (h16 : L.length ≤ 16) :
    Calls Tryz.prog 53 #[v] w fun e w' => e = .returned (.int .u64 (sumR L : Nat)) ∧ Below w.heap.size w w' := by
  rcases hv with ⟨⟨va, vc, rfl, _⟩, rfl⟩ | ⟨b, o, c, rfl, hb1, hb2, hb3⟩
  · go_enter Tryz.func53, Tryz.ntmps53
    go_wp2
    go_loop [3, 8] (fun n i => n = .int .u64 0 ∧ i = .int .i64 0) (fun _ i => 0)
    case atStart => exact ⟨rfl, rfl⟩
    case round =>
      obtain ⟨rfl, rfl⟩ := hrel
      go_wp2
      go_ret
      exact ⟨rfl, Below.refl _ _⟩
  · have HC := hid_mk hb3
    have HU := hid_mk hu
    have HS := hid_mk hs
    clear hb3 hu hs
    go_enter Tryz.func53, Tryz.ntmps53
    go_wp2
    go_loopw [3, 5, 8] (fun n _ i wr => ∃ k : Nat, k ≤ L.length ∧ i = .int .i64 k ∧ n = .int .u64 (sumR (L.take k) : Nat) ∧ Below w.heap.size w wr) (fun _ _ i _ => L.length - (intOf i).toNat)
    case atStart => exact ⟨0, Nat.zero_le _, rfl, rfl, Below.refl _ _⟩
    case round =>
      obtain ⟨k, hk, rfl, rfl, hbel⟩ := hrel
      by_cases hlt : k < L.length
      · have hc := HC.out k hlt
        have c0 := (hbel.cell (p := ⟨b, o + k * 2, none⟩) hb1).trans hc.1
        have c1 := (hbel.cell (p := ⟨b, o + k * 2 + 1, none⟩) hb1).trans hc.2
        have hst := sumR_take_succ L k hlt
        have hle : sumR (L.take (k + 1)) ≤ sumR L := off_le L (k + 1)
        have h0 := (isRegs_at HU.out k).2.1
        have hsum := HS.out
        have HST := hid_mk hst
        have hz := hbel.size
        have hbz : b < wr.heap.size := by omega
        have hw1 : IntKind.u64.wrap (((sumR (L.take k) : Nat) : Int) + (at_ L k).2) = ((sumR (L.take (k + 1)) : Nat) : Int) := by
          rw [IntKind.wrap_u64]
          omega
        have HW := hid_mk hw1
        clear hst hle hc hsum hw1 h0 hz
        generalize (at_ L k).1 = x at *
        generalize (at_ L k).2 = y at *
        go_wp2
        go_roundw
        case rel => exact ⟨k + 1, by omega, by go_num, by rw [HW.out], by repeat (first | exact hbel | (refine Below.setCell ?_ hbel.size _) | (refine Below.alloc ?_ hbel.size _))⟩
        case measure => simp [intOf]; omega
      · obtain rfl : k = L.length := by omega
        go_wp2
        go_ret
        exact ⟨ret_eq (by rw [List.take_of_length_le (Nat.le_refl _)]; rfl), hbel⟩

/-! ## Check -/
/-- what Check has seen when it comes to region k with so much room -/
structure ChkInv (L : List (Int × Int)) (k : Nat) (R : Int) : Prop where
  r0 : 0 ≤ R
  r1 : R ≤ 1048576
  same : okR (-1) 1048576 L = okR (if k = 0 then -1 else lastI (at_ L (k - 1)).1 (at_ L (k - 1)).2) R (L.drop k)
theorem ChkInv.start (L : List (Int × Int)) : ChkInv L 0 1048576 := ⟨by omega, by omega, rfl⟩
theorem drop_cons (L : List (Int × Int)) (k : Nat) (h : k < L.length) : L.drop k = at_ L k :: L.drop (k + 1) := by
  rw [List.drop_eq_getElem_cons h]
  simp [at_, List.getD, h]
theorem ChkInv.stop {L : List (Int × Int)} {k : Nat} {R : Int} (h : ChkInv L k R) (hk : k < L.length) (hu : isRegs L) (hc : (at_ L k).2 = 0 ∨ R < (at_ L k).2 ∨ lastI (at_ L k).1 (at_ L k).2 < (at_ L k).1 ∨ (k ≠ 0 ∧ (at_ L k).1 ≤ lastI (at_ L (k - 1)).1 (at_ L (k - 1)).2)) : okR (-1) 1048576 L = false := by
  rw [h.same, drop_cons L k hk]
  refine okR_cons_false ?_
  have hr0 := h.r0
  have hr1 := h.r1
  rintro ⟨h1, h2, h3, h4⟩
  have hw := lastI_ok (isRegs_at hu k).1.1 h1 h3
  rcases hc with hc | hc | hc | hc
  · omega
  · omega
  · omega
  · rw [if_neg hc.1] at h4
    omega
theorem ChkInv.next {L : List (Int × Int)} {k : Nat} {R : Int} (h : ChkInv L k R) (hk : k < L.length) (hu : isRegs L) (h1 : (at_ L k).2 ≠ 0) (h2 : (at_ L k).2 ≤ R) (h3 : (at_ L k).1 ≤ lastI (at_ L k).1 (at_ L k).2) (h4 : k = 0 ∨ lastI (at_ L (k - 1)).1 (at_ L (k - 1)).2 < (at_ L k).1) : ChkInv L (k + 1) (R - (at_ L k).2) := by
  have hU := isRegs_at hu k
  have hr0 := h.r0
  have hr1 := h.r1
  have hend : (at_ L k).1 + (at_ L k).2 ≤ 18446744073709551616 := by
    rcases Int.lt_or_le 18446744073709551616 ((at_ L k).1 + (at_ L k).2) with hgt | hle
    · have e : lastI (at_ L k).1 (at_ L k).2 = (at_ L k).1 + (at_ L k).2 - 1 - 18446744073709551616 := by
        unfold lastI
        rw [IntKind.wrap_u64, IntKind.wrap_u64]
        omega
      omega
    · exact hle
  have hw := lastI_ok hU.1.1 (show 1 ≤ (at_ L k).2 by omega) hend
  refine ⟨by omega, by omega, ?_⟩
  rw [h.same, drop_cons L k hk, if_neg (show ¬ k + 1 = 0 by omega), okR_cons_true ⟨by omega, h2, hend, ?_⟩]
  · rw [Nat.add_sub_cancel, hw]
  · by_cases hz : k = 0
    · rw [if_pos hz]
      omega
    · rw [if_neg hz]
      omega
theorem ChkInv.done {L : List (Int × Int)} {R : Int} (h : ChkInv L L.length R) : okR (-1) 1048576 L = true := by
  rw [h.same, List.drop_length]
  rfl
def chkE (L : List (Int × Int)) : Int := if L.length ≤ 16 ∧ okR (-1) 1048576 L = true then 0 else 2

/-- what a drawn region may rely on stays so behind a call that leaves old memory alone -/
theorem keep2 {u w w' : World} {b o o' : Nat} {x y : Value} (h : Below u.heap.size u w ∧ w.cell? ⟨b, o, none⟩ = some x ∧ w.cell? ⟨b, o', none⟩ = some y ∧ b < w.heap.size) (hb : Below w.heap.size w w') :
    Below u.heap.size u w' ∧ w'.cell? ⟨b, o, none⟩ = some x ∧ w'.cell? ⟨b, o', none⟩ = some y ∧ b < w'.heap.size :=
  ⟨h.1.trans (hb.mono h.1.size), (hb.cell (p := ⟨b, o, none⟩) h.2.2.2).trans h.2.1, (hb.cell (p := ⟨b, o', none⟩) h.2.2.2).trans h.2.2.1, Nat.lt_of_lt_of_le h.2.2.2 hb.size⟩

theorem keep4 {u w w' : World} {b o1 o2 d o3 o4 : Nat} {x y z t : Value} (h : Below u.heap.size u w ∧ (w.cell? ⟨b, o1, none⟩ = some x ∧ w.cell? ⟨b, o2, none⟩ = some y ∧ b < w.heap.size) ∧ w.cell? ⟨d, o3, none⟩ = some z ∧ w.cell? ⟨d, o4, none⟩ = some t ∧ d < w.heap.size) (hb : Below w.heap.size w w') :
    Below u.heap.size u w' ∧ (w'.cell? ⟨b, o1, none⟩ = some x ∧ w'.cell? ⟨b, o2, none⟩ = some y ∧ b < w'.heap.size) ∧ w'.cell? ⟨d, o3, none⟩ = some z ∧ w'.cell? ⟨d, o4, none⟩ = some t ∧ d < w'.heap.size :=
  ⟨h.1.trans (hb.mono h.1.size), ⟨(hb.cell (p := ⟨b, o1, none⟩) h.2.1.2.2).trans h.2.1.1, (hb.cell (p := ⟨b, o2, none⟩) h.2.1.2.2).trans h.2.1.2.1, Nat.lt_of_lt_of_le h.2.1.2.2 hb.size⟩, (hb.cell (p := ⟨d, o3, none⟩) h.2.2.2.2).trans h.2.2.1, (hb.cell (p := ⟨d, o4, none⟩) h.2.2.2.2).trans h.2.2.2.1, Nat.lt_of_lt_of_le h.2.2.2.2 hb.size⟩

set_option maxHeartbeats 4000000 in
theorem check_any (v : Value) (L : List (Int × Int)) (w : World) (hv : RegsAt w v L) (hu : isRegs L) (hm : L.length ≤ 4611686018427387904) :
    Calls Tryz.prog 52 #[v] w fun e w' => e = .returned (.int .i64 (chkE L)) ∧ Below w.heap.size w w' := by
  rcases hv with ⟨⟨va, vc, rfl, _⟩, rfl⟩ | ⟨b, o, c, rfl, hb1, hb2, hb3⟩
  · go_enter Tryz.func52, Tryz.ntmps52
    go_wp2
    go_loop [3, 11] (fun n i => n = .int .u64 1048576 ∧ i = .int .i64 0) (fun _ i => 0)
    case atStart => exact ⟨rfl, rfl⟩
    case round =>
      obtain ⟨rfl, rfl⟩ := hrel
      go_wp2
      go_ret
      exact ⟨rfl, Below.refl _ _⟩
  · by_cases h16 : 16 < L.length
    · have h16i : (16 : Int) < (L.length : Int) := by omega
      go_enter Tryz.func52, Tryz.ntmps52
      go_wp2
      go_ret
      refine ⟨ret_eq ?_, Below.refl _ _⟩
      unfold chkE
      rw [if_neg (by omega)]
      rfl
    · have HC := hid_mk hb3
      have HU := hid_mk hu
      have HM := hid_mk hm
      have h16i : (L.length : Int) ≤ 16 := by omega
      clear hb3 hu hm
      go_enter Tryz.func52, Tryz.ntmps52
      go_wp2
      go_loopw [3, 4, 5, 11] (fun n _ _ i wr => ∃ (k : Nat) (R : Int), k ≤ L.length ∧ i = .int .i64 k ∧ n = .int .u64 R ∧ ChkInv L k R ∧ Below w.heap.size w wr) (fun _ _ _ i _ => L.length - (intOf i).toNat)
      case atStart => exact ⟨0, 1048576, Nat.zero_le _, rfl, rfl, ChkInv.start L, Below.refl _ _⟩
      case round =>
        obtain ⟨k, R, hk, rfl, rfl, hinv, hbel⟩ := hrel
        by_cases hlt : k < L.length
        · have hc := HC.out k hlt
          have c0 := (hbel.cell (p := ⟨b, o + k * 2, none⟩) hb1).trans hc.1
          have c1 := (hbel.cell (p := ⟨b, o + k * 2 + 1, none⟩) hb1).trans hc.2
          have hz := hbel.size
          have hbz : b < wr.heap.size := by omega
          have HK := hid_mk (fun h => hinv.stop hlt HU.out h)
          have HN := hid_mk (fun h1 h2 h3 h4 => hinv.next hlt HU.out h1 h2 h3 h4)
          have hr0 := hinv.r0
          have hr1 := hinv.r1
          have hx := (isRegs_at HU.out k).1
          have hy := (isRegs_at HU.out k).2
          clear hc hinv
          generalize (at_ L k).1 = x at *
          generalize (at_ L k).2 = y at *
          have hN : wr.heap.size < (wr.alloc (.cells #[.int .u64 x, .int .u64 y] 80)).heap.size := by simp
          have hB0 : Below wr.heap.size wr (wr.alloc (.cells #[.int .u64 x, .int .u64 y] 80)) := (Below.refl _ _).alloc (Nat.le_refl _) _
          have hS0 : Below wr.heap.size wr (wr.alloc (.cells #[.int .u64 x, .int .u64 y] 80)) ∧ (wr.alloc (.cells #[.int .u64 x, .int .u64 y] 80)).cell? ⟨wr.heap.size, 0, none⟩ = some (.int .u64 x) ∧ (wr.alloc (.cells #[.int .u64 x, .int .u64 y] 80)).cell? ⟨wr.heap.size, 1, none⟩ = some (.int .u64 y) ∧ wr.heap.size < (wr.alloc (.cells #[.int .u64 x, .int .u64 y] 80)).heap.size := ⟨hB0, by go_simp, by go_simp, hN⟩
          have HS0 := hid_mk hS0
          have HB0 := hid_mk hB0
          clear hN hB0 hS0
          by_cases y0 : y = 0
          · subst y0
            have hfin : chkE L = 2 := by
              unfold chkE
              rw [if_neg (by rw [HK.out (Or.inl rfl)]; simp)]
            have HF := hid_mk hfin
            clear hfin
            go_wp2_with fail
            go_quiet (fail)
            go_wp2_with fail
            go_ret
            exact ⟨ret_eq (by rw [HF.out]; rfl), hbel.trans (below_dn (HB0.out.mono hbel.size) _)⟩
          · have hyb : (y == 0) = false := by simp; exact y0
            by_cases yR : R < y
            · have hfin : chkE L = 2 := by
                unfold chkE
                rw [if_neg (by rw [HK.out (Or.inr (Or.inl yR))]; simp)]
              have HF := hid_mk hfin
              have hd : decide (R < y) = true := by simp; exact yR
              clear hfin
              go_wp2_with fail
              go_quiet (fail)
              go_wp2_with fail
              go_ret
              exact ⟨ret_eq (by rw [HF.out]; rfl), hbel.trans (below_dn (HB0.out.mono hbel.size) _)⟩
            · have hd : decide (R < y) = false := by simp; omega
              by_cases hl : lastI x y < x
              · have hfin : chkE L = 2 := by
                  unfold chkE
                  rw [if_neg (by rw [HK.out (Or.inr (Or.inr (Or.inl hl)))]; simp)]
                have HF := hid_mk hfin
                have hd2 : decide (lastI x y < x) = true := by simp; exact hl
                clear hfin
                go_wp2_with fail
                go_region_held3 (fun w' => Below wr.heap.size wr w' ∧ w'.cell? ⟨wr.heap.size, 0, none⟩ = some (.int .u64 x) ∧ w'.cell? ⟨wr.heap.size, 1, none⟩ = some (.int .u64 y) ∧ wr.heap.size < w'.heap.size)
                  (first | exact ⟨HS0.out.1.drew, HS0.out.2⟩ | exact keep2 (by assumption) (by assumption) | assumption)
                  (first | (go_at_call 54; refine (last_any _ _ _).mono ?_; rintro e w' ⟨rfl, hb⟩))
                obtain ⟨hB, hp0, hp1, hps⟩ : Below wr.heap.size wr w' ∧ w'.cell? ⟨wr.heap.size, 0, none⟩ = some (.int .u64 x) ∧ w'.cell? ⟨wr.heap.size, 1, none⟩ = some (.int .u64 y) ∧ wr.heap.size < w'.heap.size := by assumption
                go_wp2_with fail
                go_ret
                exact ⟨ret_eq (by rw [HF.out]; rfl), hbel.trans (hB.mono hbel.size)⟩
              · have hd2 : decide (lastI x y < x) = false := by simp; omega
                go_wp2_with fail
                go_region_held3 (fun w' => Below wr.heap.size wr w' ∧ w'.cell? ⟨wr.heap.size, 0, none⟩ = some (.int .u64 x) ∧ w'.cell? ⟨wr.heap.size, 1, none⟩ = some (.int .u64 y) ∧ wr.heap.size < w'.heap.size)
                  (first | exact ⟨HS0.out.1.drew, HS0.out.2⟩ | exact keep2 (by assumption) (by assumption) | assumption)
                  (first | (go_at_call 54; refine (last_any _ _ _).mono ?_; rintro e w' ⟨rfl, hb⟩))
                obtain ⟨hB, hp0, hp1, hps⟩ : Below wr.heap.size wr w' ∧ w'.cell? ⟨wr.heap.size, 0, none⟩ = some (.int .u64 x) ∧ w'.cell? ⟨wr.heap.size, 1, none⟩ = some (.int .u64 y) ∧ wr.heap.size < w'.heap.size := by assumption
                obtain ⟨u1, rfl⟩ : ∃ u1, u1 = w' := ⟨_, rfl⟩
                clear hb
                rcases Nat.eq_zero_or_pos k with hk0 | hkp
                · subst hk0
                  have hnx := HN.out y0 (by omega) (by omega) (Or.inl rfl)
                  have HX := hid_mk hnx
                  have hw : IntKind.u64.wrap (R - y) = R - y := by rw [IntKind.wrap_u64]; omega
                  clear hnx
                  go_wp2_with fail
                  go_quiet (fail)
                  go_wp2_with fail
                  go_roundw
                  case rel => exact ⟨1, R - y, by omega, by go_num, rfl, HX.out, (hbel.trans (hB.mono hbel.size)).trans (below_dn (Below.refl _ _) _)⟩
                  case measure => simp [intOf]; omega
                · obtain ⟨q, rfl⟩ : ∃ q, k = q + 1 := ⟨k - 1, by omega⟩
                  have hcp := HC.out q (by omega)
                  have c2 := (hB.cell (p := ⟨b, o + q * 2, none⟩) hbz).trans ((hbel.cell (p := ⟨b, o + q * 2, none⟩) hb1).trans hcp.1)
                  have c3 := (hB.cell (p := ⟨b, o + q * 2 + 1, none⟩) hbz).trans ((hbel.cell (p := ⟨b, o + q * 2 + 1, none⟩) hb1).trans hcp.2)
                  clear hcp
                  simp only [Nat.add_sub_cancel] at HK HN
                  generalize (at_ L q).1 = x2 at *
                  generalize (at_ L q).2 = y2 at *
                  have hgt : decide ((0 : Int) < (q : Int) + 1) = true := by simp
                  have hi1 : IntKind.i64.wrap ((q : Int) + 1 - 1) = (q : Int) := by rw [show (q : Int) + 1 - 1 = q from by omega]; exact IntWalk.i64_in _ (by omega)
                  have hi4 : IntKind.i64.wrap (q : Int) = (q : Int) := IntWalk.i64_in _ (by omega)
                  have hi2 : (0 : Int) ≤ (q : Int) := by omega
                  have hi3 : (q : Int) < (L.length : Int) := by omega
                  have hbu : b < u1.heap.size := by omega
                  by_cases hpl : x ≤ lastI x2 y2
                  · have hfin : chkE L = 2 := by
                      unfold chkE
                      rw [if_neg (by rw [HK.out (Or.inr (Or.inr (Or.inr ⟨by omega, hpl⟩)))]; simp)]
                    have HF := hid_mk hfin
                    have hd3 : decide (x ≤ lastI x2 y2) = true := by simp; exact hpl
                    clear hfin
                    go_wp2_with fail
                    go_region_held3 (fun w' => Below wr.heap.size wr w' ∧ (w'.cell? ⟨wr.heap.size, 0, none⟩ = some (.int .u64 x) ∧ w'.cell? ⟨wr.heap.size, 1, none⟩ = some (.int .u64 y) ∧ wr.heap.size < w'.heap.size) ∧ w'.cell? ⟨b, o + q * 2, none⟩ = some (.int .u64 x2) ∧ w'.cell? ⟨b, o + q * 2 + 1, none⟩ = some (.int .u64 y2) ∧ b < w'.heap.size)
                      (first | exact ⟨hB.drew, ⟨hp0, hp1, hps⟩, c2, c3, hbu⟩ | exact keep4 (by assumption) (by assumption) | assumption)
                      (first | (go_at_call 54; refine (last_any _ _ _).mono ?_; rintro e w' ⟨rfl, hb⟩))
                    obtain ⟨hB2, ⟨hq0, hq1, hqs⟩, -⟩ : Below wr.heap.size wr w' ∧ (w'.cell? ⟨wr.heap.size, 0, none⟩ = some (.int .u64 x) ∧ w'.cell? ⟨wr.heap.size, 1, none⟩ = some (.int .u64 y) ∧ wr.heap.size < w'.heap.size) ∧ w'.cell? ⟨b, o + q * 2, none⟩ = some (.int .u64 x2) ∧ w'.cell? ⟨b, o + q * 2 + 1, none⟩ = some (.int .u64 y2) ∧ b < w'.heap.size := by assumption
                    go_wp2_with fail
                    go_ret
                    exact ⟨ret_eq (by rw [HF.out]; rfl), hbel.trans (hB2.mono hbel.size)⟩
                  · have hd3 : decide (x ≤ lastI x2 y2) = false := by simp; omega
                    have hnx := HN.out y0 (by omega) (by omega) (Or.inr (by omega))
                    have HX := hid_mk hnx
                    have hw : IntKind.u64.wrap (R - y) = R - y := by rw [IntKind.wrap_u64]; omega
                    clear hnx
                    go_wp2_with fail
                    go_region_held3 (fun w' => Below wr.heap.size wr w' ∧ (w'.cell? ⟨wr.heap.size, 0, none⟩ = some (.int .u64 x) ∧ w'.cell? ⟨wr.heap.size, 1, none⟩ = some (.int .u64 y) ∧ wr.heap.size < w'.heap.size) ∧ w'.cell? ⟨b, o + q * 2, none⟩ = some (.int .u64 x2) ∧ w'.cell? ⟨b, o + q * 2 + 1, none⟩ = some (.int .u64 y2) ∧ b < w'.heap.size)
                      (first | exact ⟨hB.drew, ⟨hp0, hp1, hps⟩, c2, c3, hbu⟩ | exact keep4 (by assumption) (by assumption) | assumption)
                      (first | (go_at_call 54; refine (last_any _ _ _).mono ?_; rintro e w' ⟨rfl, hb⟩))
                    obtain ⟨hB2, ⟨hq0, hq1, hqs⟩, -⟩ : Below wr.heap.size wr w' ∧ (w'.cell? ⟨wr.heap.size, 0, none⟩ = some (.int .u64 x) ∧ w'.cell? ⟨wr.heap.size, 1, none⟩ = some (.int .u64 y) ∧ wr.heap.size < w'.heap.size) ∧ w'.cell? ⟨b, o + q * 2, none⟩ = some (.int .u64 x2) ∧ w'.cell? ⟨b, o + q * 2 + 1, none⟩ = some (.int .u64 y2) ∧ b < w'.heap.size := by assumption
                    clear hp0 hp1 c2 c3
                    go_wp2_with fail
                    go_roundw
                    case rel => exact ⟨q + 1 + 1, R - y, by omega, by go_num, rfl, HX.out, hbel.trans (hB2.mono hbel.size)⟩
                    case measure => simp [intOf]; omega
        · obtain rfl : k = L.length := by omega
          have hd := hinv.done
          have HD := hid_mk hd
          clear hd hinv
          go_wp2_with fail
          go_ret
          refine ⟨ret_eq ?_, hbel⟩
          unfold chkE
          rw [if_pos ⟨by omega, HD.out⟩]
          rfl
end Go.Proofs.YtfhhgcgbgmilcaaGreat
