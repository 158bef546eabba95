/- Dsc1 Dsc2 Dsc3: joined texts. Conditions: as each theorem names them. -/
import Derived.Test.YtfhhgcgbgmilcaaGreatKp05
import Derived.Deep.MidRow
/- Contracts of desc: the words of a code: set and get. Conditions: as each theorem names them. -/
namespace Go.Proofs.YtfhhgcgbgmilcaaGreat
open Go.ChangeShapes Go.WideShapes Go.ChangeAt Go.RowKit
set_option linter.unusedVariables false
set_option maxRecDepth 100000

theorem drewN_setCell (w : World) (m : Nat) (a : Addr) (v : Value) : (w.drewN m).setCell a v = (w.setCell a v).drewN m := rfl
theorem chg_dn {S : Nat → Prop} {a w : World} (h : Chg S a w) (n : Nat) : Chg S a (w.drewN n) := ⟨h.os, h.tape, h.output, h.size, h.block⟩

set_option maxHeartbeats 1000000 in
theorem set_any (b : Nat) (t : TypeId) (k n : Nat) (M : List Int) (v : Int) (w : World) (hg : w.heap[b]? = some (.cells (bv M) t (0, 0))) (hM : M.length = 16) (hk : k + n ≤ 16) (h8 : n ≤ 8) :
    Calls Tryz.prog 100 #[.pointer (some ⟨b, 0, none⟩), .int .i64 k, .int .i64 n, .int .u64 v] w fun e w' => e = .returned (.tuple #[]) ∧ w'.heap[b]? = some (.cells (bv (put M k (leB n v))) t (0, 0)) ∧ Chg (· = b) w w' := by
  have HG := hid_mk hg
  have hstart : w = w.setRow b (bv (put M k (leB 0 v))) := by
    rw [leB, put_nil, setRow_self _ _ _ _ _ hg]
  have HS := hid_mk hstart
  clear hstart hg
  go_enter Tryz.func100, Tryz.ntmps100
  go_wp2
  go_loopw [8, 10] (fun _ i wr => ∃ j m : Nat, j ≤ n ∧ i = .int .i64 j ∧ wr = (w.setRow b (bv (put M k (leB j v)))).drewN m) (fun _ i _ => n - (intOf i).toNat)
  case atStart => exact ⟨0, 0, Nat.zero_le _, rfl, HS.out⟩
  case round =>
    obtain ⟨j, m, hj, rfl, rfl⟩ := hrel
    have hrow := setRow_heap w b _ (bv (put M k (leB j v))) _ _ HG.out
    by_cases hlt : j < n
    · have hlen : (put M k (leB j v)).length = M.length := put_length M k _ (by rw [leB_length]; omega)
      have hcell := cellB hrow (k + j) (by omega)
      have hfr := frozenK hrow (k + j)
      have hset := fun x => setB _ b (k + j) _ x _ hrow
      have HSET := hid_mk hset
      have HROW := hid_mk hrow
      have hi1 : ((k : Int) + (j : Int)) < 16 := by omega
      clear hset hlen hrow
      have hstep : (put M k (leB j v)).set (k + j) (v / pow2 (8 * j) % 256) = put M k (leB (j + 1) v) := by
        have e := put_snoc M k (leB j v) (v / pow2 (8 * j) % 256) (by rw [leB_length]; omega)
        rw [leB_length] at e
        rw [e, leB_snoc]
      have HST := hid_mk hstep
      clear hstep
      go_wp2_with fail
      go_region
      go_wp2_with fail
      go_roundw
      case rel => exact ⟨j + 1, _, by omega, by go_num, by rw [drewN_setCell, HSET.out, setRow_setRow, two_pow_int, HST.out]⟩
      case measure => simp [intOf] <;> omega
    · obtain rfl : j = n := by omega
      go_wp2_with fail
      go_end0
      exact ⟨rfl, setRow_heap w b _ (bv (put M k (leB j v))) _ _ HG.out, chg_dn (Chg.setRow _ _ _) _⟩

set_option maxHeartbeats 1000000 in
theorem get_any (b : Nat) (t : TypeId) (k n : Nat) (M : List Int) (w : World) (hg : w.heap[b]? = some (.cells (bv M) t (0, 0))) (hM : M.length = 16) (hB : isBytes M) (hk : k + n ≤ 16) (h8 : n ≤ 8) :
    Calls Tryz.prog 116 #[.pointer (some ⟨b, 0, none⟩), .int .i64 k, .int .i64 n] w fun e w' => e = .returned (.int .u64 (le ((M.drop k).take n))) ∧ w = w' := by
  have HG := hid_mk hg
  have hlen : ((M.drop k).take n).length = n := by simp; omega
  have HB := hid_mk (isBytes_take (isBytes_drop hB k) n)
  have HL := hid_mk hlen
  have HC := hid_mk (fun (j : Nat) (hj : j < n) => show M.getD (k + j) 0 = ((M.drop k).take n).getD j 0 by
    simp only [List.getD_eq_getElem?_getD, List.getElem?_take, List.getElem?_drop]
    rw [if_pos hj])
  generalize (M.drop k).take n = l at *
  clear hg hlen hB
  go_enter Tryz.func116, Tryz.ntmps116
  go_wp2
  go_loop [7, 8, 10] (fun x _ i => ∃ j : Nat, j ≤ n ∧ i = .int .i64 j ∧ x = .int .u64 (le (l.take j))) (fun _ _ i => n - (intOf i).toNat)
  case atStart => exact ⟨0, Nat.zero_le _, rfl, rfl⟩
  case round =>
    obtain ⟨j, hj, rfl, rfl⟩ := hrel
    by_cases hlt : j < n
    · have hcell := cellB HG.out (k + j) (by omega)
      rw [HC.out j hlt] at hcell
      have hi1 : ((k : Int) + (j : Int)) < 16 := by omega
      have hst := le_step l HB.out j (by rw [HL.out]; exact hlt) (by rw [HL.out]; exact h8)
      rw [show min (8 * j) 64 = 8 * j by omega] at hst
      have HST := hid_mk hst
      clear hst
      have hb := isBytes_at HB.out j
      generalize l.getD j 0 = y at *
      go_wp2_with fail
      go_round
      case rel => exact ⟨j + 1, by omega, by go_num, by rw [HST.out]⟩
      case measure => simp [intOf] <;> omega
    · obtain rfl : j = n := by omega
      go_wp2_with fail
      go_ret
      refine ⟨ret_eq ?_, rfl⟩
      rw [List.take_of_length_le (by rw [HL.out]; exact Nat.le_refl _)]
      rfl
end Go.Proofs.YtfhhgcgbgmilcaaGreat

/- Contracts of desc: descriptors in a code, and the bytes of one. Conditions: as each theorem names them. -/
namespace Go.Proofs.YtfhhgcgbgmilcaaGreat
open Go.ChangeShapes Go.WideShapes Go.ChangeAt Go.RowKit
set_option linter.unusedVariables false
set_option maxRecDepth 100000

/-- the four words of a descriptor, packed or not -/
structure Dsc where
  a : Int
  l : Int
  f : Int
  n : Int
structure isDsc (d : Dsc) : Prop where
  a : 0 ≤ d.a ∧ d.a < 18446744073709551616
  l : 0 ≤ d.l ∧ d.l < 4294967296
  f : 0 ≤ d.f ∧ d.f < 65536
  n : 0 ≤ d.n ∧ d.n < 65536
def dB (d : Dsc) : List Int := leB 8 d.a ++ (leB 4 d.l ++ (leB 2 d.f ++ leB 2 d.n))
theorem dB_length (d : Dsc) : (dB d).length = 16 := by simp [dB, leB_length]
theorem dB_bytes (d : Dsc) : isBytes (dB d) := isBytes_append (leB_bytes _ _) (isBytes_append (leB_bytes _ _) (isBytes_append (leB_bytes _ _) (leB_bytes _ _)))
abbrev dV (d : Dsc) : Value := .agg #[.int .u64 d.a, .int .u32 d.l, .int .u16 d.f, .int .u16 d.n]
abbrev dC (d : Dsc) : List Value := [.int .u64 d.a, .int .u32 d.l, .int .u16 d.f, .int .u16 d.n]
/-- the block of a code holds these bytes -/
abbrev Row (w : World) (b : Nat) (t : TypeId) (M : List Int) : Prop := w.heap[b]? = some (.cells (bv M) t (0, 0))

theorem head_any (b : Nat) (t : TypeId) (M : List Int) (a l : Int) (w : World) (hg : Row w b t M) (hM : M.length = 16) (hl : 0 ≤ l ∧ l < 4294967296) :
    Calls Tryz.prog 99 #[.pointer (some ⟨b, 0, none⟩), .int .u64 a, .int .u32 l] w fun e w' => e = .returned (.tuple #[]) ∧ Row w' b t (put M 0 (leB 8 a ++ leB 4 l)) ∧ Chg (· = b) w w' := by
  have h1 := set_any b t 0 8 M a w hg hM (by omega) (by omega)
  have hlen : (put M 0 (leB 8 a)).length = 16 := by rw [put_length M 0 _ (by rw [leB_length]; omega)]; exact hM
  have HP := hid_mk (put_put M 0 (leB 8 a) (leB 4 l) (by rw [leB_length, leB_length]; omega))
  rw [leB_length] at HP
  clear hg hM
  go_enter Tryz.func99, Tryz.ntmps99
  go_wp2_with fail
  refine h1.mono ?_
  rintro e w1 ⟨rfl, hr, hc⟩
  have h2 := set_any b t 8 4 _ l w1 hr hlen (by omega) (by omega)
  have HC := hid_mk hc
  clear hr hc h1
  go_wp2_with fail
  refine h2.mono ?_
  rintro e w2 ⟨rfl, hr, hc⟩
  rw [HP.out] at hr
  have HR := hid_mk hr
  have HC2 := hid_mk hc
  clear hr hc h2
  go_wp2_with fail
  go_end0
  exact ⟨rfl, HR.out, HC.out.trans HC2.out⟩

theorem setDesc_any (b : Nat) (t : TypeId) (M : List Int) (d : Dsc) (w : World) (hg : Row w b t M) (hM : M.length = 16) (hd : isDsc d) :
    Calls Tryz.prog 74 #[.pointer (some ⟨b, 0, none⟩), dV d] w fun e w' => e = .returned (.tuple #[]) ∧ Row w' b t (dB d) ∧ Chg (· = b) w w' := by
  have hb := lt_blk hg
  have hw := w.heap.size
  have hr1 : Row (w.alloc (.cells (dC d).toArray 44)) b t M := keepB ((Below.refl _ _).alloc (Nat.le_refl _) _) hg
  have h1 := head_any b t M d.a d.l _ hr1 hM hd.l
  have hn := heap_alloc_new w (.cells (dC d).toArray 44)
  have hall : Chg (· = b) w (w.alloc (.cells (dC d).toArray 44)) := Chg.of_below ((Below.refl _ _).alloc (Nat.le_refl _) _)
  have HA := hid_mk hall
  have HN := hid_mk hn
  have hl1 : (put M 0 (leB 8 d.a ++ leB 4 d.l)).length = 16 := by rw [put_length M 0 _ (by simp [leB_length]; omega)]; exact hM
  have hp1 := put_put M 0 (leB 8 d.a ++ leB 4 d.l) (leB 2 d.f) (by simp [leB_length]; omega)
  have hp2 := put_put M 0 (leB 8 d.a ++ leB 4 d.l ++ leB 2 d.f) (leB 2 d.n) (by simp [leB_length]; omega)
  simp only [List.length_append, leB_length, Nat.zero_add] at hp1 hp2
  have hp3 : put M 0 (leB 8 d.a ++ leB 4 d.l ++ leB 2 d.f ++ leB 2 d.n) = dB d := by
    rw [put_all _ _ (by simp [leB_length]; omega)]
    unfold dB
    simp only [List.append_assoc]
  have hl2 : (put M 0 (leB 8 d.a ++ leB 4 d.l ++ leB 2 d.f)).length = 16 := by rw [put_length M 0 _ (by simp [leB_length]; omega)]; exact hM
  have HP1 := hid_mk hp1
  have HP2 := hid_mk (hp2.trans hp3)
  have HL1 := hid_mk hl1
  have HL2 := hid_mk hl2
  obtain ⟨f0, f1⟩ := hd.f
  obtain ⟨n0, n1⟩ := hd.n
  have hne : w.heap.size ≠ b := by omega
  have HLT := hid_mk hb
  clear hp1 hp2 hp3 hl1 hl2 hg hM hr1 hall hn hw
  go_enter Tryz.func74, Tryz.ntmps74
  go_wp2_with fail
  refine h1.mono ?_
  rintro e w1 ⟨rfl, hr, hc⟩
  have hk := cellK (hc.keep HN.out hne) 2
  have h2 := set_any b t 12 2 _ d.f w1 hr HL1.out (by omega) (by omega)
  rw [HP1.out] at h2
  have HC := hid_mk hc
  have HN1 := hid_mk (hc.keep HN.out hne)
  clear hr hc h1
  simp at hk
  go_wp2_with fail
  refine h2.mono ?_
  rintro e w2 ⟨rfl, hr, hc⟩
  have hk3 := cellK (hc.keep HN1.out hne) 3
  have h3 := set_any b t 14 2 _ d.n w2 hr HL2.out (by omega) (by omega)
  rw [HP2.out] at h3
  have HC2 := hid_mk hc
  clear hr hc h2 hk
  simp at hk3
  go_wp2_with fail
  refine h3.mono ?_
  rintro e w3 ⟨rfl, hr, hc⟩
  have HR := hid_mk hr
  have HC3 := hid_mk hc
  clear hr hc h3
  go_wp2_with fail
  go_end0
  exact ⟨rfl, HR.out, ((HA.out.trans HC.out).trans HC2.out).trans HC3.out⟩

theorem setPacked_any (b : Nat) (t : TypeId) (M : List Int) (d : Dsc) (w : World) (hg : Row w b t M) (hM : M.length = 16) (hd : isDsc d) :
    Calls Tryz.prog 81 #[.pointer (some ⟨b, 0, none⟩), dV d] w fun e w' => e = .returned (.tuple #[]) ∧ Row w' b t (dB d) ∧ Chg (· = b) w w' := by
  have hb := lt_blk hg
  have hw := w.heap.size
  have hr1 : Row (w.alloc (.cells (dC d).toArray 63)) b t M := keepB ((Below.refl _ _).alloc (Nat.le_refl _) _) hg
  have h1 := head_any b t M d.a d.l _ hr1 hM hd.l
  have hn := heap_alloc_new w (.cells (dC d).toArray 63)
  have hall : Chg (· = b) w (w.alloc (.cells (dC d).toArray 63)) := Chg.of_below ((Below.refl _ _).alloc (Nat.le_refl _) _)
  have HA := hid_mk hall
  have HN := hid_mk hn
  have hl1 : (put M 0 (leB 8 d.a ++ leB 4 d.l)).length = 16 := by rw [put_length M 0 _ (by simp [leB_length]; omega)]; exact hM
  have hp1 := put_put M 0 (leB 8 d.a ++ leB 4 d.l) (leB 2 d.f) (by simp [leB_length]; omega)
  have hp2 := put_put M 0 (leB 8 d.a ++ leB 4 d.l ++ leB 2 d.f) (leB 2 d.n) (by simp [leB_length]; omega)
  simp only [List.length_append, leB_length, Nat.zero_add] at hp1 hp2
  have hp3 : put M 0 (leB 8 d.a ++ leB 4 d.l ++ leB 2 d.f ++ leB 2 d.n) = dB d := by
    rw [put_all _ _ (by simp [leB_length]; omega)]
    unfold dB
    simp only [List.append_assoc]
  have hl2 : (put M 0 (leB 8 d.a ++ leB 4 d.l ++ leB 2 d.f)).length = 16 := by rw [put_length M 0 _ (by simp [leB_length]; omega)]; exact hM
  have HP1 := hid_mk hp1
  have HP2 := hid_mk (hp2.trans hp3)
  have HL1 := hid_mk hl1
  have HL2 := hid_mk hl2
  obtain ⟨f0, f1⟩ := hd.f
  obtain ⟨n0, n1⟩ := hd.n
  have hne : w.heap.size ≠ b := by omega
  have HLT := hid_mk hb
  clear hp1 hp2 hp3 hl1 hl2 hg hM hr1 hall hn hw
  go_enter Tryz.func81, Tryz.ntmps81
  go_wp2_with fail
  refine h1.mono ?_
  rintro e w1 ⟨rfl, hr, hc⟩
  have hk := cellK (hc.keep HN.out hne) 2
  have h2 := set_any b t 12 2 _ d.f w1 hr HL1.out (by omega) (by omega)
  rw [HP1.out] at h2
  have HC := hid_mk hc
  have HN1 := hid_mk (hc.keep HN.out hne)
  clear hr hc h1
  simp at hk
  go_wp2_with fail
  refine h2.mono ?_
  rintro e w2 ⟨rfl, hr, hc⟩
  have hk3 := cellK (hc.keep HN1.out hne) 3
  have h3 := set_any b t 14 2 _ d.n w2 hr HL2.out (by omega) (by omega)
  rw [HP2.out] at h3
  have HC2 := hid_mk hc
  clear hr hc h2 hk
  simp at hk3
  go_wp2_with fail
  refine h3.mono ?_
  rintro e w3 ⟨rfl, hr, hc⟩
  have HR := hid_mk hr
  have HC3 := hid_mk hc
  clear hr hc h3
  go_wp2_with fail
  go_end0
  exact ⟨rfl, HR.out, ((HA.out.trans HC.out).trans HC2.out).trans HC3.out⟩
end Go.Proofs.YtfhhgcgbgmilcaaGreat

/- Contracts of desc: a descriptor out of a code; Bytes, PackedBytes, Read, ReadPacked. Conditions: as each theorem names them. -/
namespace Go.Proofs.YtfhhgcgbgmilcaaGreat
open Go.ChangeShapes Go.WideShapes Go.ChangeAt Go.RowKit
set_option linter.unusedVariables false
set_option maxRecDepth 100000

/-- the descriptor with these bytes -/
def dR (M : List Int) : Dsc := ⟨le ((M.drop 0).take 8), le ((M.drop 8).take 4), le ((M.drop 12).take 2), le ((M.drop 14).take 2)⟩
theorem le_part {M : List Int} (hB : isBytes M) (hM : M.length = 16) (k n : Nat) (hk : k + n ≤ 16) : 0 ≤ le ((M.drop k).take n) ∧ le ((M.drop k).take n) < pow2 (8 * n) := by
  have hb := isBytes_take (isBytes_drop hB k) n
  have hl : ((M.drop k).take n).length = n := by simp; omega
  have h1 := le_hi hb
  rw [hl] at h1
  exact ⟨le_lo hb, h1⟩
theorem dR_is {M : List Int} (hB : isBytes M) (hM : M.length = 16) : isDsc (dR M) :=
  ⟨le_part hB hM 0 8 (by omega), le_part hB hM 8 4 (by omega), le_part hB hM 12 2 (by omega), le_part hB hM 14 2 (by omega)⟩

theorem addr_any (b : Nat) (t : TypeId) (M : List Int) (w : World) (hg : Row w b t M) (hM : M.length = 16) (hB : isBytes M) :
    Calls Tryz.prog 113 #[.pointer (some ⟨b, 0, none⟩)] w fun e w' => e = .returned (.int .u64 (dR M).a) ∧ w = w' := by
  have h1 := get_any b t 0 8 M w hg hM hB (by omega) (by omega)
  unfold dR
  clear hg hM hB
  go_enter Tryz.func113, Tryz.ntmps113
  go_wp2_with fail
  refine h1.mono ?_
  rintro e w1 ⟨rfl, rfl⟩
  go_wp2_with fail
  go_ret
  exact ⟨rfl, rfl⟩
theorem length_any (b : Nat) (t : TypeId) (M : List Int) (w : World) (hg : Row w b t M) (hM : M.length = 16) (hB : isBytes M) :
    Calls Tryz.prog 114 #[.pointer (some ⟨b, 0, none⟩)] w fun e w' => e = .returned (.int .u32 (dR M).l) ∧ w = w' := by
  have h1 := get_any b t 8 4 M w hg hM hB (by omega) (by omega)
  obtain ⟨g0, g1⟩ := le_part hB hM 8 4 (by omega)
  have g2 : le ((M.drop 8).take 4) < 4294967296 := g1
  unfold dR
  simp only
  generalize le ((M.drop 8).take 4) = x at *
  clear hg hM hB g1
  go_enter Tryz.func114, Tryz.ntmps114
  go_wp2_with fail
  refine h1.mono ?_
  rintro e w1 ⟨rfl, rfl⟩
  go_wp2_with fail
  go_ret
  exact ⟨rfl, rfl⟩
theorem short_any (b : Nat) (t : TypeId) (k : Nat) (M : List Int) (w : World) (hg : Row w b t M) (hM : M.length = 16) (hB : isBytes M) (hk : k ≤ 14) :
    Calls Tryz.prog 115 #[.pointer (some ⟨b, 0, none⟩), .int .i64 k] w fun e w' => e = .returned (.int .u16 (le ((M.drop k).take 2))) ∧ w = w' := by
  have h1 := get_any b t k 2 M w hg hM hB (by omega) (by omega)
  obtain ⟨g0, g1⟩ := le_part hB hM k 2 (by omega)
  have g2 : le ((M.drop k).take 2) < 65536 := g1
  generalize le ((M.drop k).take 2) = x at *
  clear hg hM hB g1
  go_enter Tryz.func115, Tryz.ntmps115
  go_wp2_with fail
  refine h1.mono ?_
  rintro e w1 ⟨rfl, rfl⟩
  go_wp2_with fail
  go_ret
  exact ⟨rfl, rfl⟩

theorem desc_any (b : Nat) (t : TypeId) (M : List Int) (w : World) (hg : Row w b t M) (hM : M.length = 16) (hB : isBytes M) :
    Calls Tryz.prog 112 #[.pointer (some ⟨b, 0, none⟩)] w fun e w' => e = .returned (dV (dR M)) ∧ Below w.heap.size w w' := by
  have ha := fun (u : World) (h : Row u b t M) => addr_any b t M u h hM hB
  have hl := fun (u : World) (h : Row u b t M) => length_any b t M u h hM hB
  have h12 := fun (u : World) (h : Row u b t M) => short_any b t 12 M u h hM hB (by omega)
  have h14 := fun (u : World) (h : Row u b t M) => short_any b t 14 M u h hM hB (by omega)
  have hk : ∀ o, Row (w.alloc o) b t M := fun o => keepB ((Below.refl _ _).alloc (Nat.le_refl _) _) hg
  have HA := hid_mk ha
  have HL := hid_mk hl
  have H12 := hid_mk h12
  have H14 := hid_mk h14
  have HK := hid_mk hk
  have hd : dV (dR M) = .agg #[.int .u64 (dR M).a, .int .u32 (dR M).l, .int .u16 (le ((M.drop 12).take 2)), .int .u16 (le ((M.drop 14).take 2))] := rfl
  rw [hd]
  clear ha hl h12 h14 hg hM hB hk hd
  go_enter Tryz.func112, Tryz.ntmps112
  go_wp2_with fail
  refine (HA.out _ (HK.out _)).mono ?_
  rintro e w1 ⟨rfl, rfl⟩
  go_wp2_with fail
  refine (HL.out _ (HK.out _)).mono ?_
  rintro e w1 ⟨rfl, rfl⟩
  go_wp2_with fail
  refine (H12.out _ (HK.out _)).mono ?_
  rintro e w1 ⟨rfl, rfl⟩
  go_wp2_with fail
  refine (H14.out _ (HK.out _)).mono ?_
  rintro e w1 ⟨rfl, rfl⟩
  go_wp2_with fail
  exact bodyPost_ret (v := .agg #[.int .u64 (dR M).a, .int .u32 (dR M).l, .int .u16 (le ((M.drop 12).take 2)), .int .u16 (le ((M.drop 14).take 2))]) (by simp [results, Tryz.results112, go_sem]) rfl ⟨rfl, (by repeat (first | exact Below.refl _ _ | (refine Below.alloc ?_ (by first | (simp; done) | (simp; omega)) _) | (refine Below.setCell ?_ (by first | (simp; done) | (simp; omega)) _)))⟩

theorem packed_any (b : Nat) (t : TypeId) (M : List Int) (w : World) (hg : Row w b t M) (hM : M.length = 16) (hB : isBytes M) :
    Calls Tryz.prog 111 #[.pointer (some ⟨b, 0, none⟩)] w fun e w' => e = .returned (dV (dR M)) ∧ Below w.heap.size w w' := by
  have ha := fun (u : World) (h : Row u b t M) => addr_any b t M u h hM hB
  have hl := fun (u : World) (h : Row u b t M) => length_any b t M u h hM hB
  have h12 := fun (u : World) (h : Row u b t M) => short_any b t 12 M u h hM hB (by omega)
  have h14 := fun (u : World) (h : Row u b t M) => short_any b t 14 M u h hM hB (by omega)
  have hk : ∀ o, Row (w.alloc o) b t M := fun o => keepB ((Below.refl _ _).alloc (Nat.le_refl _) _) hg
  have HA := hid_mk ha
  have HL := hid_mk hl
  have H12 := hid_mk h12
  have H14 := hid_mk h14
  have HK := hid_mk hk
  have hd : dV (dR M) = .agg #[.int .u64 (dR M).a, .int .u32 (dR M).l, .int .u16 (le ((M.drop 12).take 2)), .int .u16 (le ((M.drop 14).take 2))] := rfl
  rw [hd]
  clear ha hl h12 h14 hg hM hB hk hd
  go_enter Tryz.func111, Tryz.ntmps111
  go_wp2_with fail
  refine (HA.out _ (HK.out _)).mono ?_
  rintro e w1 ⟨rfl, rfl⟩
  go_wp2_with fail
  refine (HL.out _ (HK.out _)).mono ?_
  rintro e w1 ⟨rfl, rfl⟩
  go_wp2_with fail
  refine (H12.out _ (HK.out _)).mono ?_
  rintro e w1 ⟨rfl, rfl⟩
  go_wp2_with fail
  refine (H14.out _ (HK.out _)).mono ?_
  rintro e w1 ⟨rfl, rfl⟩
  go_wp2_with fail
  exact bodyPost_ret (v := .agg #[.int .u64 (dR M).a, .int .u32 (dR M).l, .int .u16 (le ((M.drop 12).take 2)), .int .u16 (le ((M.drop 14).take 2))]) (by simp [results, Tryz.results111, go_sem]) rfl ⟨rfl, (by repeat (first | exact Below.refl _ _ | (refine Below.alloc ?_ (by first | (simp; done) | (simp; omega)) _) | (refine Below.setCell ?_ (by first | (simp; done) | (simp; omega)) _)))⟩
end Go.Proofs.YtfhhgcgbgmilcaaGreat
