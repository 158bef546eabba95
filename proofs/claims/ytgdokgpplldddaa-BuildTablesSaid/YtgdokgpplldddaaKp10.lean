/- Dsc1 Dsc2: joined texts. Conditions: as each theorem names them. -/
import Derived.Test.YtgdokgpplldddaaKp08
import Derived.Deep.MidRow
/- Contracts of desc: the words of a code: set and get. Conditions: as each theorem names them. -/
namespace Go.Proofs.Ytgdokgpplldddaa
open Go.ChangeShapes Go.WideShapes Go.ChangeAt Go.RowKit
set_option linter.unusedVariables false
set_option maxRecDepth 100000

theorem drewN_setCell (w : World) (m : Nat) (a : Addr) (v : Value) : (w.drewN m).setCell a v = (w.setCell a v).drewN m := rfl
theorem chg_dn {S : Nat → Prop} {a w : World} (h : Chg S a w) (n : Nat) : Chg S a (w.drewN n) := ⟨h.os, h.tape, h.output, h.size, h.block⟩

set_option maxHeartbeats 1000000 in
theorem set_any (b : Nat) (t : TypeId) (k n : Nat) (M : List Int) (v : Int) (w : World) (hg : w.heap[b]? = some (.cells (bv M) t (0, 0))) (hM : M.length = 16) (hk : k + n ≤ 16) (h8 : n ≤ 8) :
    Calls Try.prog 81 #[.pointer (some ⟨b, 0, none⟩), .int .i64 k, .int .i64 n, .int .u64 v] w fun e w' => e = .returned (.tuple #[]) ∧ w'.heap[b]? = some (.cells (bv (put M k (leB n v))) t (0, 0)) ∧ Chg (· = b) w w' := by
  have HG := hid_mk hg
  have hstart : w = w.setRow b (bv (put M k (leB 0 v))) := by
    rw [leB, put_nil, setRow_self _ _ _ _ _ hg]
  have HS := hid_mk hstart
  clear hstart hg
  go_enter Try.func81, Try.ntmps81
  go_wp2
  go_loopw [8, 10] (fun _ i wr => ∃ j m : Nat, j ≤ n ∧ i = .int .i64 j ∧ wr = (w.setRow b (bv (put M k (leB j v)))).drewN m) (fun _ i _ => n - (intOf i).toNat)
  case atStart => exact ⟨0, 0, Nat.zero_le _, rfl, HS.out⟩
  case round =>
    obtain ⟨j, m, hj, rfl, rfl⟩ := hrel
    have hrow := setRow_heap w b _ (bv (put M k (leB j v))) _ _ HG.out
    by_cases hlt : j < n
    · have hlen : (put M k (leB j v)).length = M.length := put_length M k _ (by rw [leB_length]; omega)
      have hcell := cellB hrow (k + j) (by omega)
      have hfr := frozenK hrow (k + j)
      have hset := fun x => setB _ b (k + j) _ x _ hrow
      have HSET := hid_mk hset
      have HROW := hid_mk hrow
      have hi1 : ((k : Int) + (j : Int)) < 16 := by omega
      clear hset hlen hrow
      have hstep : (put M k (leB j v)).set (k + j) (v / pow2 (8 * j) % 256) = put M k (leB (j + 1) v) := by
        have e := put_snoc M k (leB j v) (v / pow2 (8 * j) % 256) (by rw [leB_length]; omega)
        rw [leB_length] at e
        rw [e, leB_snoc]
      have HST := hid_mk hstep
      clear hstep
      go_wp2_with fail
      go_region
      go_wp2_with fail
      go_roundw
      case rel => exact ⟨j + 1, _, by omega, by go_num, by rw [drewN_setCell, HSET.out, setRow_setRow, two_pow_int, HST.out]⟩
      case measure => simp [intOf] <;> omega
    · obtain rfl : j = n := by omega
      go_wp2_with fail
      go_end0
      exact ⟨rfl, setRow_heap w b _ (bv (put M k (leB j v))) _ _ HG.out, chg_dn (Chg.setRow _ _ _) _⟩

end Go.Proofs.Ytgdokgpplldddaa

/- Contracts of desc: descriptors in a code, and the bytes of one. Conditions: as each theorem names them. -/
namespace Go.Proofs.Ytgdokgpplldddaa
open Go.ChangeShapes Go.WideShapes Go.ChangeAt Go.RowKit
set_option linter.unusedVariables false
set_option maxRecDepth 100000

/-- the four words of a descriptor, packed or not -/
structure Dsc where
  a : Int
  l : Int
  f : Int
  n : Int
structure isDsc (d : Dsc) : Prop where
  a : 0 ≤ d.a ∧ d.a < 18446744073709551616
  l : 0 ≤ d.l ∧ d.l < 4294967296
  f : 0 ≤ d.f ∧ d.f < 65536
  n : 0 ≤ d.n ∧ d.n < 65536
def dB (d : Dsc) : List Int := leB 8 d.a ++ (leB 4 d.l ++ (leB 2 d.f ++ leB 2 d.n))
theorem dB_length (d : Dsc) : (dB d).length = 16 := by simp [dB, leB_length]
theorem dB_bytes (d : Dsc) : isBytes (dB d) := isBytes_append (leB_bytes _ _) (isBytes_append (leB_bytes _ _) (isBytes_append (leB_bytes _ _) (leB_bytes _ _)))
abbrev dV (d : Dsc) : Value := .agg #[.int .u64 d.a, .int .u32 d.l, .int .u16 d.f, .int .u16 d.n]
abbrev dC (d : Dsc) : List Value := [.int .u64 d.a, .int .u32 d.l, .int .u16 d.f, .int .u16 d.n]
/-- the block of a code holds these bytes -/
abbrev Row (w : World) (b : Nat) (t : TypeId) (M : List Int) : Prop := w.heap[b]? = some (.cells (bv M) t (0, 0))

theorem head_any (b : Nat) (t : TypeId) (M : List Int) (a l : Int) (w : World) (hg : Row w b t M) (hM : M.length = 16) (hl : 0 ≤ l ∧ l < 4294967296) :
    Calls Try.prog 80 #[.pointer (some ⟨b, 0, none⟩), .int .u64 a, .int .u32 l] w fun e w' => e = .returned (.tuple #[]) ∧ Row w' b t (put M 0 (leB 8 a ++ leB 4 l)) ∧ Chg (· = b) w w' := by
  have h1 := set_any b t 0 8 M a w hg hM (by omega) (by omega)
  have hlen : (put M 0 (leB 8 a)).length = 16 := by rw [put_length M 0 _ (by rw [leB_length]; omega)]; exact hM
  have HP := hid_mk (put_put M 0 (leB 8 a) (leB 4 l) (by rw [leB_length, leB_length]; omega))
  rw [leB_length] at HP
  clear hg hM
  go_enter Try.func80, Try.ntmps80
  go_wp2_with fail
  refine h1.mono ?_
  rintro e w1 ⟨rfl, hr, hc⟩
  have h2 := set_any b t 8 4 _ l w1 hr hlen (by omega) (by omega)
  have HC := hid_mk hc
  clear hr hc h1
  go_wp2_with fail
  refine h2.mono ?_
  rintro e w2 ⟨rfl, hr, hc⟩
  rw [HP.out] at hr
  have HR := hid_mk hr
  have HC2 := hid_mk hc
  clear hr hc h2
  go_wp2_with fail
  go_end0
  exact ⟨rfl, HR.out, HC.out.trans HC2.out⟩

theorem setDesc_any (b : Nat) (t : TypeId) (M : List Int) (d : Dsc) (w : World) (hg : Row w b t M) (hM : M.length = 16) (hd : isDsc d) :
    Calls Try.prog 69 #[.pointer (some ⟨b, 0, none⟩), dV d] w fun e w' => e = .returned (.tuple #[]) ∧ Row w' b t (dB d) ∧ Chg (· = b) w w' := by
  have hb := lt_blk hg
  have hw := w.heap.size
  have hr1 : Row (w.alloc (.cells (dC d).toArray 38)) b t M := keepB ((Below.refl _ _).alloc (Nat.le_refl _) _) hg
  have h1 := head_any b t M d.a d.l _ hr1 hM hd.l
  have hn := heap_alloc_new w (.cells (dC d).toArray 38)
  have hall : Chg (· = b) w (w.alloc (.cells (dC d).toArray 38)) := Chg.of_below ((Below.refl _ _).alloc (Nat.le_refl _) _)
  have HA := hid_mk hall
  have HN := hid_mk hn
  have hl1 : (put M 0 (leB 8 d.a ++ leB 4 d.l)).length = 16 := by rw [put_length M 0 _ (by simp [leB_length]; omega)]; exact hM
  have hp1 := put_put M 0 (leB 8 d.a ++ leB 4 d.l) (leB 2 d.f) (by simp [leB_length]; omega)
  have hp2 := put_put M 0 (leB 8 d.a ++ leB 4 d.l ++ leB 2 d.f) (leB 2 d.n) (by simp [leB_length]; omega)
  simp only [List.length_append, leB_length, Nat.zero_add] at hp1 hp2
  have hp3 : put M 0 (leB 8 d.a ++ leB 4 d.l ++ leB 2 d.f ++ leB 2 d.n) = dB d := by
    rw [put_all _ _ (by simp [leB_length]; omega)]
    unfold dB
    simp only [List.append_assoc]
  have hl2 : (put M 0 (leB 8 d.a ++ leB 4 d.l ++ leB 2 d.f)).length = 16 := by rw [put_length M 0 _ (by simp [leB_length]; omega)]; exact hM
  have HP1 := hid_mk hp1
  have HP2 := hid_mk (hp2.trans hp3)
  have HL1 := hid_mk hl1
  have HL2 := hid_mk hl2
  obtain ⟨f0, f1⟩ := hd.f
  obtain ⟨n0, n1⟩ := hd.n
  have hne : w.heap.size ≠ b := by omega
  have HLT := hid_mk hb
  clear hp1 hp2 hp3 hl1 hl2 hg hM hr1 hall hn hw
  go_enter Try.func69, Try.ntmps69
  go_wp2_with fail
  refine h1.mono ?_
  rintro e w1 ⟨rfl, hr, hc⟩
  have hk := cellK (hc.keep HN.out hne) 2
  have h2 := set_any b t 12 2 _ d.f w1 hr HL1.out (by omega) (by omega)
  rw [HP1.out] at h2
  have HC := hid_mk hc
  have HN1 := hid_mk (hc.keep HN.out hne)
  clear hr hc h1
  simp at hk
  go_wp2_with fail
  refine h2.mono ?_
  rintro e w2 ⟨rfl, hr, hc⟩
  have hk3 := cellK (hc.keep HN1.out hne) 3
  have h3 := set_any b t 14 2 _ d.n w2 hr HL2.out (by omega) (by omega)
  rw [HP2.out] at h3
  have HC2 := hid_mk hc
  clear hr hc h2 hk
  simp at hk3
  go_wp2_with fail
  refine h3.mono ?_
  rintro e w3 ⟨rfl, hr, hc⟩
  have HR := hid_mk hr
  have HC3 := hid_mk hc
  clear hr hc h3
  go_wp2_with fail
  go_end0
  exact ⟨rfl, HR.out, ((HA.out.trans HC.out).trans HC2.out).trans HC3.out⟩

theorem setPacked_any (b : Nat) (t : TypeId) (M : List Int) (d : Dsc) (w : World) (hg : Row w b t M) (hM : M.length = 16) (hd : isDsc d) :
    Calls Try.prog 73 #[.pointer (some ⟨b, 0, none⟩), dV d] w fun e w' => e = .returned (.tuple #[]) ∧ Row w' b t (dB d) ∧ Chg (· = b) w w' := by
  have hb := lt_blk hg
  have hw := w.heap.size
  have hr1 : Row (w.alloc (.cells (dC d).toArray 44)) b t M := keepB ((Below.refl _ _).alloc (Nat.le_refl _) _) hg
  have h1 := head_any b t M d.a d.l _ hr1 hM hd.l
  have hn := heap_alloc_new w (.cells (dC d).toArray 44)
  have hall : Chg (· = b) w (w.alloc (.cells (dC d).toArray 44)) := Chg.of_below ((Below.refl _ _).alloc (Nat.le_refl _) _)
  have HA := hid_mk hall
  have HN := hid_mk hn
  have hl1 : (put M 0 (leB 8 d.a ++ leB 4 d.l)).length = 16 := by rw [put_length M 0 _ (by simp [leB_length]; omega)]; exact hM
  have hp1 := put_put M 0 (leB 8 d.a ++ leB 4 d.l) (leB 2 d.f) (by simp [leB_length]; omega)
  have hp2 := put_put M 0 (leB 8 d.a ++ leB 4 d.l ++ leB 2 d.f) (leB 2 d.n) (by simp [leB_length]; omega)
  simp only [List.length_append, leB_length, Nat.zero_add] at hp1 hp2
  have hp3 : put M 0 (leB 8 d.a ++ leB 4 d.l ++ leB 2 d.f ++ leB 2 d.n) = dB d := by
    rw [put_all _ _ (by simp [leB_length]; omega)]
    unfold dB
    simp only [List.append_assoc]
  have hl2 : (put M 0 (leB 8 d.a ++ leB 4 d.l ++ leB 2 d.f)).length = 16 := by rw [put_length M 0 _ (by simp [leB_length]; omega)]; exact hM
  have HP1 := hid_mk hp1
  have HP2 := hid_mk (hp2.trans hp3)
  have HL1 := hid_mk hl1
  have HL2 := hid_mk hl2
  obtain ⟨f0, f1⟩ := hd.f
  obtain ⟨n0, n1⟩ := hd.n
  have hne : w.heap.size ≠ b := by omega
  have HLT := hid_mk hb
  clear hp1 hp2 hp3 hl1 hl2 hg hM hr1 hall hn hw
  go_enter Try.func73, Try.ntmps73
  go_wp2_with fail
  refine h1.mono ?_
  rintro e w1 ⟨rfl, hr, hc⟩
  have hk := cellK (hc.keep HN.out hne) 2
  have h2 := set_any b t 12 2 _ d.f w1 hr HL1.out (by omega) (by omega)
  rw [HP1.out] at h2
  have HC := hid_mk hc
  have HN1 := hid_mk (hc.keep HN.out hne)
  clear hr hc h1
  simp at hk
  go_wp2_with fail
  refine h2.mono ?_
  rintro e w2 ⟨rfl, hr, hc⟩
  have hk3 := cellK (hc.keep HN1.out hne) 3
  have h3 := set_any b t 14 2 _ d.n w2 hr HL2.out (by omega) (by omega)
  rw [HP2.out] at h3
  have HC2 := hid_mk hc
  clear hr hc h2 hk
  simp at hk3
  go_wp2_with fail
  refine h3.mono ?_
  rintro e w3 ⟨rfl, hr, hc⟩
  have HR := hid_mk hr
  have HC3 := hid_mk hc
  clear hr hc h3
  go_wp2_with fail
  go_end0
  exact ⟨rfl, HR.out, ((HA.out.trans HC.out).trans HC2.out).trans HC3.out⟩
end Go.Proofs.Ytgdokgpplldddaa
