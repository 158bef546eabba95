/- Contracts of desc: descriptors in a code, and the bytes of one. Conditions: as each theorem names them. -/
import Derived.Test.YtfjccpalkdmniaaDsc1
namespace Go.Proofs.Ytfjccpalkdmniaa
open Go.ChangeShapes Go.WideShapes Go.ChangeAt Go.RowKit
set_option linter.unusedVariables false
set_option maxRecDepth 100000

/-- the four words of a descriptor, packed or not -/
structure Dsc where
  a : Int
  l : Int
  f : Int
  n : Int
structure isDsc (d : Dsc) : Prop where
  a : 0 ≤ d.a ∧ d.a < 18446744073709551616
  l : 0 ≤ d.l ∧ d.l < 4294967296
  f : 0 ≤ d.f ∧ d.f < 65536
  n : 0 ≤ d.n ∧ d.n < 65536
def dB (d : Dsc) : List Int := leB 8 d.a ++ (leB 4 d.l ++ (leB 2 d.f ++ leB 2 d.n))
theorem dB_length (d : Dsc) : (dB d).length = 16 := by simp [dB, leB_length]
theorem dB_bytes (d : Dsc) : isBytes (dB d) := isBytes_append (leB_bytes _ _) (isBytes_append (leB_bytes _ _) (isBytes_append (leB_bytes _ _) (leB_bytes _ _)))
abbrev dV (d : Dsc) : Value := .agg #[.int .u64 d.a, .int .u32 d.l, .int .u16 d.f, .int .u16 d.n]
abbrev dC (d : Dsc) : List Value := [.int .u64 d.a, .int .u32 d.l, .int .u16 d.f, .int .u16 d.n]
/-- the block of a code holds these bytes -/
abbrev Row (w : World) (b : Nat) (t : TypeId) (M : List Int) : Prop := w.heap[b]? = some (.cells (bv M) t (0, 0))

theorem head_any (b : Nat) (t : TypeId) (M : List Int) (a l : Int) (w : World) (hg : Row w b t M) (hM : M.length = 16) (hl : 0 ≤ l ∧ l < 4294967296) :
    Calls Try.prog 84 #[.pointer (some ⟨b, 0, none⟩), .int .u64 a, .int .u32 l] w fun e w' => e = .returned (.tuple #[]) ∧ Row w' b t (put M 0 (leB 8 a ++ leB 4 l)) ∧ Chg (· = b) w w' := by
  have h1 := set_any b t 0 8 M a w hg hM (by omega) (by omega)
  have hlen : (put M 0 (leB 8 a)).length = 16 := by rw [put_length M 0 _ (by rw [leB_length]; omega)]; exact hM
  have HP := hid_mk (put_put M 0 (leB 8 a) (leB 4 l) (by rw [leB_length, leB_length]; omega))
  rw [leB_length] at HP
  clear hg hM
  go_enter Try.func84, Try.ntmps84
  go_wp2_with fail
  refine h1.mono ?_
  rintro e w1 ⟨rfl, hr, hc⟩
  have h2 := set_any b t 8 4 _ l w1 hr hlen (by omega) (by omega)
  have HC := hid_mk hc
  clear hr hc h1
  go_wp2_with fail
  refine h2.mono ?_
  rintro e w2 ⟨rfl, hr, hc⟩
  rw [HP.out] at hr
  have HR := hid_mk hr
  have HC2 := hid_mk hc
  clear hr hc h2
  go_wp2_with fail
  go_end0
  exact ⟨rfl, HR.out, HC.out.trans HC2.out⟩

theorem setDesc_any (b : Nat) (t : TypeId) (M : List Int) (d : Dsc) (w : World) (hg : Row w b t M) (hM : M.length = 16) (hd : isDsc d) :
    Calls Try.prog 74 #[.pointer (some ⟨b, 0, none⟩), dV d] w fun e w' => e = .returned (.tuple #[]) ∧ Row w' b t (dB d) ∧ Chg (· = b) w w' := by
  have hb := lt_blk hg
  have hw := w.heap.size
  have hr1 : Row (w.alloc (.cells (dC d).toArray 56)) b t M := keepB ((Below.refl _ _).alloc (Nat.le_refl _) _) hg
  have h1 := head_any b t M d.a d.l _ hr1 hM hd.l
  have hn := heap_alloc_new w (.cells (dC d).toArray 56)
  have hall : Chg (· = b) w (w.alloc (.cells (dC d).toArray 56)) := Chg.of_below ((Below.refl _ _).alloc (Nat.le_refl _) _)
  have HA := hid_mk hall
  have HN := hid_mk hn
  have hl1 : (put M 0 (leB 8 d.a ++ leB 4 d.l)).length = 16 := by rw [put_length M 0 _ (by simp [leB_length]; omega)]; exact hM
  have hp1 := put_put M 0 (leB 8 d.a ++ leB 4 d.l) (leB 2 d.f) (by simp [leB_length]; omega)
  have hp2 := put_put M 0 (leB 8 d.a ++ leB 4 d.l ++ leB 2 d.f) (leB 2 d.n) (by simp [leB_length]; omega)
  simp only [List.length_append, leB_length, Nat.zero_add] at hp1 hp2
  have hp3 : put M 0 (leB 8 d.a ++ leB 4 d.l ++ leB 2 d.f ++ leB 2 d.n) = dB d := by
    rw [put_all _ _ (by simp [leB_length]; omega)]
    unfold dB
    simp only [List.append_assoc]
  have hl2 : (put M 0 (leB 8 d.a ++ leB 4 d.l ++ leB 2 d.f)).length = 16 := by rw [put_length M 0 _ (by simp [leB_length]; omega)]; exact hM
  have HP1 := hid_mk hp1
  have HP2 := hid_mk (hp2.trans hp3)
  have HL1 := hid_mk hl1
  have HL2 := hid_mk hl2
  obtain ⟨f0, f1⟩ := hd.f
  obtain ⟨n0, n1⟩ := hd.n
  have hne : w.heap.size ≠ b := by omega
  have HLT := hid_mk hb
  clear hp1 hp2 hp3 hl1 hl2 hg hM hr1 hall hn hw
  go_enter Try.func74, Try.ntmps74
  go_wp2_with fail
  refine h1.mono ?_
  rintro e w1 ⟨rfl, hr, hc⟩
  have hk := cellK (hc.keep HN.out hne) 2
  have h2 := set_any b t 12 2 _ d.f w1 hr HL1.out (by omega) (by omega)
  rw [HP1.out] at h2
  have HC := hid_mk hc
  have HN1 := hid_mk (hc.keep HN.out hne)
  clear hr hc h1
  simp at hk
  go_wp2_with fail
  refine h2.mono ?_
  rintro e w2 ⟨rfl, hr, hc⟩
  have hk3 := cellK (hc.keep HN1.out hne) 3
  have h3 := set_any b t 14 2 _ d.n w2 hr HL2.out (by omega) (by omega)
  rw [HP2.out] at h3
  have HC2 := hid_mk hc
  clear hr hc h2 hk
  simp at hk3
  go_wp2_with fail
  refine h3.mono ?_
  rintro e w3 ⟨rfl, hr, hc⟩
  have HR := hid_mk hr
  have HC3 := hid_mk hc
  clear hr hc h3
  go_wp2_with fail
  go_end0
  exact ⟨rfl, HR.out, ((HA.out.trans HC.out).trans HC2.out).trans HC3.out⟩

theorem setPacked_any (b : Nat) (t : TypeId) (M : List Int) (d : Dsc) (w : World) (hg : Row w b t M) (hM : M.length = 16) (hd : isDsc d) :
    Calls Try.prog 76 #[.pointer (some ⟨b, 0, none⟩), dV d] w fun e w' => e = .returned (.tuple #[]) ∧ Row w' b t (dB d) ∧ Chg (· = b) w w' := by
  have hb := lt_blk hg
  have hw := w.heap.size
  have hr1 : Row (w.alloc (.cells (dC d).toArray 60)) b t M := keepB ((Below.refl _ _).alloc (Nat.le_refl _) _) hg
  have h1 := head_any b t M d.a d.l _ hr1 hM hd.l
  have hn := heap_alloc_new w (.cells (dC d).toArray 60)
  have hall : Chg (· = b) w (w.alloc (.cells (dC d).toArray 60)) := Chg.of_below ((Below.refl _ _).alloc (Nat.le_refl _) _)
  have HA := hid_mk hall
  have HN := hid_mk hn
  have hl1 : (put M 0 (leB 8 d.a ++ leB 4 d.l)).length = 16 := by rw [put_length M 0 _ (by simp [leB_length]; omega)]; exact hM
  have hp1 := put_put M 0 (leB 8 d.a ++ leB 4 d.l) (leB 2 d.f) (by simp [leB_length]; omega)
  have hp2 := put_put M 0 (leB 8 d.a ++ leB 4 d.l ++ leB 2 d.f) (leB 2 d.n) (by simp [leB_length]; omega)
  simp only [List.length_append, leB_length, Nat.zero_add] at hp1 hp2
  have hp3 : put M 0 (leB 8 d.a ++ leB 4 d.l ++ leB 2 d.f ++ leB 2 d.n) = dB d := by
    rw [put_all _ _ (by simp [leB_length]; omega)]
    unfold dB
    simp only [List.append_assoc]
  have hl2 : (put M 0 (leB 8 d.a ++ leB 4 d.l ++ leB 2 d.f)).length = 16 := by rw [put_length M 0 _ (by simp [leB_length]; omega)]; exact hM
  have HP1 := hid_mk hp1
  have HP2 := hid_mk (hp2.trans hp3)
  have HL1 := hid_mk hl1
  have HL2 := hid_mk hl2
  obtain ⟨f0, f1⟩ := hd.f
  obtain ⟨n0, n1⟩ := hd.n
  have hne : w.heap.size ≠ b := by omega
  have HLT := hid_mk hb
  clear hp1 hp2 hp3 hl1 hl2 hg hM hr1 hall hn hw
  go_enter Try.func76, Try.ntmps76
  go_wp2_with fail
  refine h1.mono ?_
  rintro e w1 ⟨rfl, hr, hc⟩
  have hk := cellK (hc.keep HN.out hne) 2
  have h2 := set_any b t 12 2 _ d.f w1 hr HL1.out (by omega) (by omega)
  rw [HP1.out] at h2
  have HC := hid_mk hc
  have HN1 := hid_mk (hc.keep HN.out hne)
  clear hr hc h1
  simp at hk
  go_wp2_with fail
  refine h2.mono ?_
  rintro e w2 ⟨rfl, hr, hc⟩
  have hk3 := cellK (hc.keep HN1.out hne) 3
  have h3 := set_any b t 14 2 _ d.n w2 hr HL2.out (by omega) (by omega)
  rw [HP2.out] at h3
  have HC2 := hid_mk hc
  clear hr hc h2 hk
  simp at hk3
  go_wp2_with fail
  refine h3.mono ?_
  rintro e w3 ⟨rfl, hr, hc⟩
  have HR := hid_mk hr
  have HC3 := hid_mk hc
  clear hr hc h3
  go_wp2_with fail
  go_end0
  exact ⟨rfl, HR.out, ((HA.out.trans HC.out).trans HC2.out).trans HC3.out⟩
end Go.Proofs.Ytfjccpalkdmniaa
