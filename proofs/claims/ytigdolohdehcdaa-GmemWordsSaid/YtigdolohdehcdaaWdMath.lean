/- Plain facts on words stored and loaded in a memory of one region. No program in sight. Each lemma names its own bounds. -/
import Derived.Test.YtigdolohdehcdaaGm8
namespace Go.Proofs.Ytigdolohdehcdaa
open Go Go.RowKit
set_option linter.unusedVariables false

abbrev L64 : List (Int × Int) := [(1000, 64)]
abbrev Z64 : List Int := List.replicate (sumR L64) 0
theorem locW (q n : Nat) (hn : 1 ≤ n) (h : q + n ≤ 64) : loc L64 (1000 + (q : Int)) n = some q := by
  simp only [loc]
  rw [if_pos ⟨by omega, by omega, by omega, by omega⟩]
  congr 1
  omega
theorem le_drop (l : List Int) (hl : isBytes l) (k : Nat) (hk : k ≤ l.length) : le (l.drop k) = le l / pow2 (8 * k) := by
  have h := le_append (l.take k) (l.drop k)
  rw [List.take_append_drop] at h
  have hlen : (l.take k).length = k := by simp; omega
  rw [hlen] at h
  have h0 := le_lo (isBytes_take hl k)
  have h1 := le_hi (isBytes_take hl k)
  rw [hlen] at h1
  have hp := pow2_pos (8 * k)
  rw [h, Int.add_mul_ediv_left _ _ (by omega), Int.ediv_eq_zero_of_lt h0 h1]
  omega
theorem put_drop (M : List Int) (k i : Nat) (l : List Int) (h : k + l.length ≤ M.length) (hi : i ≤ l.length) : (put M k l).drop (k + i) = l.drop i ++ M.drop (k + l.length) := by
  unfold put
  have e1 : (M.take k).length = k := by simp; omega
  rw [List.append_assoc, List.drop_append, List.drop_of_length_le (by omega), e1, List.nil_append, List.drop_append]
  rw [show k + i - k = i from by omega, show i - l.length = 0 from by omega, List.drop_zero]
theorem put_take (M : List Int) (k i n : Nat) (l : List Int) (h : k + l.length ≤ M.length) (hi : i + n ≤ l.length) : ((put M k l).drop (k + i)).take n = (l.drop i).take n := by
  rw [put_drop M k i l h (by omega), List.take_append_of_le_length (by simp; omega)]
theorem wid_of {n : Nat} (h : n = 1 ∨ n = 2 ∨ n = 4 ∨ n = 8) : wid (n : Int) = true := wid_iff.2 (by omega)
theorem acc_ok (q i n : Nat) (hn : n = 1 ∨ n = 2 ∨ n = 4 ∨ n = 8) (h : q + i + n ≤ 64) : accE L64 (1000 + ((q + i : Nat) : Int)) n = 0 := by
  unfold accE
  rw [wid_of hn, locW (q + i) n (by omega) h]
  rfl
theorem le_lt8 {v : Int} (hv : U64 v) : v < pow2 (8 * 8) := hv.2
/-- a part of a stored word -/
theorem load_part (q i n : Nat) (v : Int) (hv : U64 v) (hn : n = 1 ∨ n = 2 ∨ n = 4 ∨ n = 8) (hi : i + n ≤ 8) (hq : q ≤ 56) :
    loadV L64 (put Z64 q (leB 8 v)) (1000 + ((q + i : Nat) : Int)) n = v / pow2 (8 * i) % pow2 (8 * n) := by
  unfold loadV
  have hl8 : (leB 8 v).length = 8 := leB_length 8 v
  rw [wid_of hn, if_pos rfl, locW (q + i) n (by omega) (by omega)]
  simp only [Int.toNat_natCast]
  rw [put_take _ _ _ _ _ (by rw [hl8]; simp [sumR]; omega) (by omega), le_take _ (isBytes_drop (leB_bytes 8 v) i) n (by simp [hl8]; omega), le_drop _ (leB_bytes 8 v) i (by omega), le_leB 8 v hv.1 (le_lt8 hv)]
theorem store8 (q : Nat) (v : Int) (hq : q ≤ 56) : storeM L64 Z64 (1000 + (q : Int)) 8 v = put Z64 q (leB 8 v) := by
  unfold storeM
  have h := locW q 8 (by omega) (by omega)
  simp only [Int.cast_ofNat_Int] at h
  rw [show wid 8 = true from rfl, if_pos rfl, h]
  rfl
/-- the bytes behind the second store -/
def mixB (n : Nat) (v w : Int) : List Int := leB n w ++ (leB 8 v).drop n
theorem mixB_len (n : Nat) (v w : Int) (h : n ≤ 8) : (mixB n v w).length = 8 := by
  simp [mixB, leB_length]
  omega
theorem mixB_bytes (n : Nat) (v w : Int) : isBytes (mixB n v w) := isBytes_append (leB_bytes n w) (isBytes_drop (leB_bytes 8 v) n)
theorem storeN (q n : Nat) (v w : Int) (hn : n = 1 ∨ n = 2 ∨ n = 4) (hq : q ≤ 56) : storeM L64 (put Z64 q (leB 8 v)) (1000 + (q : Int)) n w = put Z64 q (mixB n v w) := by
  unfold storeM
  rw [wid_of (by omega), if_pos rfl, locW q n (by omega) (by omega)]
  simp only [Int.toNat_natCast]
  have hz : Z64.length = 64 := by simp [sumR]
  have hsplit : leB 8 v = leB n v ++ (leB 8 v).drop n := by
    have h := (List.take_append_drop n (leB 8 v)).symm
    rw [leB_take 8 n v (by omega)] at h
    exact h
  unfold put mixB
  rw [leB_length]
  have e1 : (Z64.take q).length = q := by simp [sumR]; omega
  have e2 : ∀ (l : List Int), ((Z64.take q ++ leB 8 v ++ l).take q) = Z64.take q := fun l => by
    rw [List.append_assoc, List.take_append_of_le_length (by omega), List.take_of_length_le (by omega)]
  rw [e2, leB_length]
  rw [List.append_assoc (Z64.take q) (leB 8 v), List.drop_append, List.drop_of_length_le (by omega), e1, List.nil_append, show q + n - q = n from by omega, List.drop_append, leB_length, show n - 8 = 0 from by omega, List.drop_zero]
  simp only [List.append_assoc, List.length_append, List.length_drop, leB_length]
  rw [show q + (n + (8 - n)) = q + 8 from by omega]
def mixV (n : Nat) (v w : Int) : Int := w % pow2 (8 * n) + pow2 (8 * n) * (v / pow2 (8 * n))
theorem le_leB_mod (n : Nat) (w : Int) (h0 : 0 ≤ w) : le (leB n w) = w % pow2 (8 * n) := by
  have hp := pow2_pos (8 * n)
  rw [← leB_mod, le_leB n _ (Int.emod_nonneg _ (by omega)) (Int.emod_lt_of_pos _ (by omega))]
theorem le_mix (n : Nat) (v w : Int) (hv : U64 v) (hw : U64 w) (hn : n ≤ 8) : le (mixB n v w) = mixV n v w := by
  unfold mixB mixV
  rw [le_append, leB_length, le_leB_mod n w hw.1, le_drop _ (leB_bytes 8 v) n (by rw [leB_length]; exact hn), le_leB 8 v hv.1 (le_lt8 hv)]
theorem load_mix (q n : Nat) (v w : Int) (hv : U64 v) (hw : U64 w) (hn : n ≤ 8) (hq : q ≤ 56) : loadV L64 (put Z64 q (mixB n v w)) (1000 + (q : Int)) 8 = mixV n v w := by
  unfold loadV
  have h := locW q 8 (by omega) (by omega)
  simp only [Int.cast_ofNat_Int] at h
  rw [show wid 8 = true from rfl, if_pos rfl, h]
  have hm := mixB_len n v w hn
  have e := put_take Z64 q 0 8 (mixB n v w) (by rw [hm]; simp [sumR]; omega) (by omega)
  simp only [Nat.add_zero, List.drop_zero] at e
  show le (((put Z64 q (mixB n v w)).drop q).take 8) = _
  rw [e, List.take_of_length_le (by omega), le_mix n v w hv hw hn]
theorem read_mix (q n : Nat) (v w : Int) (hn : n ≤ 8) (hq : q ≤ 56) : readL L64 (put Z64 q (mixB n v w)) (1000 + (q : Int)) 8 = mixB n v w := by
  unfold readL
  have h := locW q 8 (by omega) (by omega)
  simp only [Int.cast_ofNat_Int] at h
  rw [h]
  have hm := mixB_len n v w hn
  have e := put_take Z64 q 0 8 (mixB n v w) (by rw [hm]; simp [sumR]; omega) (by omega)
  simp only [Nat.add_zero, List.drop_zero] at e
  show ((put Z64 q (mixB n v w)).drop q).take 8 = _
  rw [e, List.take_of_length_le (by omega)]
theorem readE8 (q : Nat) (hq : q ≤ 56) : readE L64 (1000 + (q : Int)) 8 = 0 := by
  unfold readE
  have h := locW q 8 (by omega) (by omega)
  simp only [Int.cast_ofNat_Int] at h
  rw [if_neg (by omega), if_neg (by omega), h]
  rfl
theorem mix_byte (n i : Nat) (v w : Int) (hv : U64 v) (hw : U64 w) (hn : n ≤ 8) (hi : i < 8) : mixV n v w / pow2 (8 * i) % 256 = (mixB n v w).getD i 0 := by
  have h := leB_le (mixB_bytes n v w)
  rw [mixB_len n v w hn, le_mix n v w hv hw hn] at h
  rw [← leB_getD 8 i _ hi, h]
/-- the code's own mix of two words -/
theorem mix_bits (n : Nat) (v w : Int) (hv : U64 v) (hw : U64 w) (hn : n = 1 ∨ n = 2 ∨ n = 4) :
    bits .or .u64 (bits .andNot .u64 v (pow2 (8 * n) - 1)) (bits .and .u64 w (pow2 (8 * n) - 1)) = mixV n v w := by
  have hp := pow2_pos (8 * n)
  have hp2 : pow2 (8 * n) < 18446744073709551616 := pow2_lt (k := 64) (by omega)
  rw [u64_align v (8 * n) (by omega) hv.1 hv.2]
  have e1 : bits .and .u64 w (pow2 (8 * n) - 1) = w % pow2 (8 * n) := by
    rw [u64_and w (pow2 (8 * n) - 1) hw.1 hw.2 (by omega) (by omega)]
    have : (pow2 (8 * n) - 1).toNat = 2 ^ (8 * n) - 1 := by
      unfold pow2
      omega
    rw [this, Nat.and_two_pow_sub_one_eq_mod, Int.natCast_emod, Int.toNat_of_nonneg hw.1]
    rfl
  rw [e1]
  have m0 : 0 ≤ w % pow2 (8 * n) := Int.emod_nonneg _ (by omega)
  have m1 : w % pow2 (8 * n) < pow2 (8 * n) := Int.emod_lt_of_pos _ (by omega)
  have d0 : 0 ≤ v / pow2 (8 * n) := Int.ediv_nonneg hv.1 (by omega)
  have d1 : pow2 (8 * n) * (v / pow2 (8 * n)) ≤ v := Int.mul_ediv_self_le (by omega)
  have d2 : 0 ≤ pow2 (8 * n) * (v / pow2 (8 * n)) := Int.mul_nonneg (by omega) d0
  have hor := u64_or_above (w % pow2 (8 * n)) (v / pow2 (8 * n)) (8 * n) (by omega) m0 m1 d0 (by have := hv.2; omega)
  rw [u64_or _ _ m0 (by omega) d2 (by have := hv.2; omega)] at hor
  rw [u64_or _ _ d2 (by have := hv.2; omega) m0 (by omega), Nat.or_comm, hor]
  rfl
/-- one round of putting the parts together again -/
theorem back_step (v : Int) (i n : Nat) (hv : U64 v) (hn : n = 1 ∨ n = 2 ∨ n = 4) (hi : i + n ≤ 8) :
    bits .or .u64 (IntKind.u64.wrap (v / pow2 (8 * (i + n)) * pow2 (8 * n))) (v / pow2 (8 * i) % pow2 (8 * n)) = v / pow2 (8 * i) := by
  have hp := pow2_pos (8 * n)
  have hpi := pow2_pos (8 * i)
  have e1 : v / pow2 (8 * (i + n)) = v / pow2 (8 * i) / pow2 (8 * n) := by
    rw [Int.ediv_ediv_of_nonneg (by omega), show 8 * (i + n) = 8 * i + 8 * n from by omega]
    congr 1
    have := pow2_split (j := 8 * i) (k := 8 * i + 8 * n) (by omega)
    rw [this, show 8 * i + 8 * n - 8 * i = 8 * n from by omega]
  have x0 : 0 ≤ v / pow2 (8 * i) := Int.ediv_nonneg hv.1 (by omega)
  have x1 : v / pow2 (8 * i) ≤ v := Int.ediv_le_self _ hv.1
  rw [e1]
  generalize v / pow2 (8 * i) = x at *
  have d0 : 0 ≤ x / pow2 (8 * n) := Int.ediv_nonneg x0 (by omega)
  have d1 : pow2 (8 * n) * (x / pow2 (8 * n)) ≤ x := Int.mul_ediv_self_le (by omega)
  have d2 : 0 ≤ pow2 (8 * n) * (x / pow2 (8 * n)) := Int.mul_nonneg (by omega) d0
  have m0 : 0 ≤ x % pow2 (8 * n) := Int.emod_nonneg _ (by omega)
  have m1 : x % pow2 (8 * n) < pow2 (8 * n) := Int.emod_lt_of_pos _ (by omega)
  have hp2 : pow2 (8 * n) < 18446744073709551616 := pow2_lt (k := 64) (by omega)
  have hv2 := hv.2
  have hw : IntKind.u64.wrap (x / pow2 (8 * n) * pow2 (8 * n)) = pow2 (8 * n) * (x / pow2 (8 * n)) := by
    rw [Int.mul_comm, IntKind.wrap_u64]
    exact Int.emod_eq_of_lt d2 (by omega)
  have hor := u64_or_above (x % pow2 (8 * n)) (x / pow2 (8 * n)) (8 * n) (by omega) m0 m1 d0 (by omega)
  rw [u64_or _ _ m0 (by omega) d2 (by omega)] at hor
  rw [hw, u64_or _ _ d2 (by omega) m0 (by omega), Nat.or_comm, hor]
  have := Int.mul_ediv_add_emod x (pow2 (8 * n))
  omega
/-- no bits above -/
theorem part_small (v : Int) (i n : Nat) : v / pow2 (8 * i) % pow2 (8 * n) / pow2 (8 * n) = 0 := by
  have hp := pow2_pos (8 * n)
  exact Int.ediv_eq_zero_of_lt (Int.emod_nonneg _ (by omega)) (Int.emod_lt_of_pos _ (by omega))
theorem div_all (v : Int) (hv : U64 v) : v / pow2 (8 * 8) = 0 := Int.ediv_eq_zero_of_lt hv.1 hv.2
/-! ## the first q bytes are zeros -/
def HasZ (q : Nat) (W : World) (b : Nat) : Prop := ∀ j, j < q → W.cell? ⟨b, j, none⟩ = some (.int .u8 0)
theorem HasZ.below {q : Nat} {W W' : World} {b : Nat} (h : HasZ q W b) (hb : Below W.heap.size W W') : HasZ q W' b := fun j hj =>
  (hb.cell (p := ⟨b, j, none⟩) (World.block_lt_of_cell? W _ (h j hj))).trans (h j hj)
theorem zNew (q : Nat) (W : World) (t : TypeId) : HasZ q (W.alloc (.cells (bv (List.replicate q 0)) t)) W.heap.size := fun j hj => by
  have h := cellB (M := List.replicate q 0) (heap_alloc_new W (.cells (bv (List.replicate q 0)) t)) j (by simpa using hj)
  rw [h]
  simp [List.getD, hj]
theorem zOld (q : Nat) (W : World) (o : Obj) (b : Nat) (h : HasZ q W b) : HasZ q (W.alloc o) b := h.below ((Below.refl _ _).alloc (Nat.le_refl _) _)
theorem convZ (q : Nat) (W : World) (b c : Nat) (h : HasZ q W b) : (convert 32 9 (.slice (some ⟨b, 0, none⟩) q c)).run Try.prog W = .ok (.string (strOfNums (List.replicate q 0))) W :=
  run_convert_bytes_arg W 32 5 Try.underlying32 Try.underlying5 b 0 q c (List.replicate q 0) (by simp) (fun i hi => by
    rw [Nat.zero_add, h i hi]
    simp [List.getD, hi]) 9 Try.underlying9
theorem imgZ {B q : Nat} {W w' : World} {v : Value} {l l2 : List Int} (hn : NewBytes B w' v (put (put Z64 q l) q l2)) (hl : q + l.length ≤ 64) (hl2 : q + l2.length ≤ 64) (hb : Below W.heap.size W w') :
    ∃ b c : Nat, v = .slice (some ⟨b, 0, none⟩) 64 c ∧ ((q : Int) ≤ (c : Int) ∧ ¬ c = 0) ∧ HasZ q w' b ∧ ∀ b', HasZ q W b' → HasZ q w' b' := by
  have hz : Z64.length = 64 := by simp [sumR]
  have e1 : (put Z64 q l).length = 64 := (put_length _ _ _ (by omega)).trans hz
  have e2 : (put (put Z64 q l) q l2).length = 64 := (put_length _ _ _ (by omega)).trans e1
  obtain ⟨b, c, h1, h2, h3, h4, h5⟩ := hn.form (by omega)
  rw [e2] at h1 h4 h5
  refine ⟨b, c, h1, ⟨by omega, by omega⟩, fun j hj => ?_, fun b' h' => h'.below hb⟩
  rw [h5 j (by omega), put_getD _ _ _ (by omega), if_neg (by omega), put_getD _ _ _ (by omega), if_neg (by omega)]
  congr 2
  simp [List.getD, sumR, show j < 64 from by omega]
theorem writeW (q : Nat) (y : Int) (M : List Int) (hq : q ≤ 56) : writeE L64 (1000 + (q : Int)) [y] = 0 ∧ writeM L64 M (1000 + (q : Int)) [y] = put M q [y] := by
  have h := locW q 1 (by omega) (by omega)
  unfold writeE writeM
  simp only [List.length_cons, List.length_nil, Nat.zero_add]
  rw [h]
  exact ⟨rfl, rfl⟩
theorem keepL {w W W' : World} {b : Nat} {y : Value} (h : Below w.heap.size w W ∧ W.cell? ⟨b, 0, none⟩ = some y) (hb : Below W.heap.size W W') : Below w.heap.size w W' ∧ W'.cell? ⟨b, 0, none⟩ = some y :=
  ⟨h.1.trans (hb.mono h.1.size), (hb.cell (p := ⟨b, 0, none⟩) (World.block_lt_of_cell? W _ h.2)).trans h.2⟩
theorem keepLw {w W W' : World} {b ib : Nat} {y : Value} (h : Below w.heap.size w W ∧ W.cell? ⟨b, 0, none⟩ = some y) (hc : Chg (· = ib) W W') (gi : w.heap.size ≤ ib) (hne : b ≠ ib) : Below w.heap.size w W' ∧ W'.cell? ⟨b, 0, none⟩ = some y :=
  ⟨hc.since1 h.1 gi, (hc.cell (World.block_lt_of_cell? W _ h.2) hne).trans h.2⟩
end Go.Proofs.Ytigdolohdehcdaa
