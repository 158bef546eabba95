/- status's sound: a loop over the bits of a status. Conditions: as each theorem names them. Written by mksound7.py. -/
import Derived.Test.YtfiogaollejdbaaSc2
namespace Go.Proofs.Ytfiogaollejdbaa
open Go.ChangeShapes Go.WideShapes Go.ChangeAt Go.RowKit
set_option linter.unusedVariables false
set_option maxRecDepth 100000

/-- is bit j, if it is set, under its condition? -/
def condS (a : Bool) (s j : Nat) : Bool := !hasM s (maskL.getD j 0) || mayB a j s
def okS (a : Bool) (s j : Nat) : Bool := (List.range j).all fun i => condS a s i
/-- what is left of a status without the first j bits -/
def othS (s : Nat) : Nat → Nat
  | 0 => s
  | j + 1 => othS s j &&& (255 - maskL.getD j 0)
def soundF (a : Bool) (s : Nat) : Bool := okS a s 6 && decide (othS s 6 = 0)
theorem okS_succ {a : Bool} {s j : Nat} (h : okS a s j = true) (h2 : condS a s j = true) : okS a s (j + 1) = true := by
  unfold okS at h ⊢
  rw [List.range_succ, List.all_append, h]
  simp [h2]
theorem sound_no {a : Bool} {s j : Nat} (hj : j < 6) (h : condS a s j = false) : soundF a s = false := by
  unfold soundF okS
  have e : ((List.range 6).all fun i => condS a s i) = false := by
    rw [List.all_eq_false]
    exact ⟨j, List.mem_range.2 hj, by rw [h]; decide⟩
  rw [e]
  rfl
theorem othS_lt {s : Nat} (h : s < 256) : ∀ j, othS s j < 256 := by
  intro j
  induction j with
  | zero => exact h
  | succ j ih => exact Nat.lt_of_le_of_lt Nat.and_le_left ih
theorem sound_st : ∀ a z : Bool, ∀ s : Fin 256, (soundF a s.val && (s.val.testBit 1 || z)) = stB a z s.val := by decide +kernel
theorem eq_int (a : Nat) : ((a : Int) == 0) = decide (a = 0) := by
  by_cases h : a = 0
  · simp [h]
  · simp [h]

/-- where sound stands -/
structure SndSt (w wr : World) (bx bb p q r : Nat) (k o g s : Int) : Prop where
  hb : Below w.heap.size w wr
  box : BlkAt wr bx [.int .i64 k, .int .u64 o, .int .u64 g, .int .u8 s] 49
  bits : BitsAt wr bb p q r
theorem SndSt.below {w wr w' : World} {bx bb p q r : Nat} {k o g s : Int} (h : SndSt w wr bx bb p q r k o g s) (hb : Below wr.heap.size wr w') : SndSt w w' bx bb p q r k o g s :=
  ⟨below_two h.hb hb, h.box.below hb, h.bits.below hb⟩

set_option maxHeartbeats 4000000 in
theorem ssound (d : Dv) (h : isDv d) (w : World) :
    Calls Try.prog 37 #[dvV d] w fun e w' => e = .returned (.bool (soundF (accD d) d.s)) ∧ Below w.heap.size w w' := by
  have HD := hid_mk h
  obtain ⟨k, o, g, s⟩ := d
  obtain ⟨G, hG⟩ : ∃ G : Nat → Nat, G = othS s := ⟨_, rfl⟩
  obtain ⟨V, hV⟩ : ∃ V : Bool, V = soundF (accD ⟨k, o, g, s⟩) s := ⟨_, rfl⟩
  have HL := hid_mk (show ∀ j, G j < 256 from fun j => by rw [hG]; exact othS_lt h.s j)
  have H0 := hid_mk (show G 0 = s by rw [hG]; rfl)
  have HS := hid_mk (show ∀ j, G (j + 1) = G j &&& (255 - maskL.getD j 0) from fun j => by rw [hG]; rfl)
  have HNO := hid_mk (show ∀ j, j < 6 → condS (acceptF k o g) s j = false → V = false from fun j hj hc => by rw [hV]; exact sound_no hj hc)
  have HEND := hid_mk (show okS (acceptF k o g) s 6 = true → decide (G 6 = 0) = V from fun h6 => by rw [hV, hG]; unfold soundF; rw [show okS (accD ⟨k, o, g, s⟩) s 6 = true from h6]; rfl)
  simp only
  rw [← hV]
  clear hG hV h
  unfold dvV
  simp only
  go_enter Try.func37, Try.ntmps37
  go_wp2_with fail
  refine (sbits _).mono ?_
  rintro e w1 ⟨bb, p, q, r, rfl, hb1, hbits, gb, gp, gq, gr⟩
  have ST : Hid (SndSt w w1 w.heap.size bb p q r k o g s) :=
    hid_mk ⟨below_two (below_box w _) hb1, (blk_new w [.int .i64 k, .int .u64 o, .int .u64 g, .int .u8 s] _).below hb1, hbits⟩
  clear hb1 hbits gb gp gq gr
  generalize hbx : w.heap.size = bx at *
  have hlb := ST.out.bits.lt
  go_wp2_with fail
  go_loopw [3, 5, 10] (fun v b i wr => ∃ n : Nat, n ≤ 6 ∧ v = .int .u8 (G n : Nat) ∧ i = .int .i64 n ∧ Hid (okS (acceptF k o g) s n = true) ∧ Hid (SndSt w wr bx bb p q r k o g s)) (fun _ _ i _ => 6 - (intOf i).toNat)
  case atStart => exact ⟨0, by omega, by rw [H0.out], rfl, hid_mk rfl, ST⟩
  case round =>
    obtain ⟨n, hn, rfl, rfl, HK, HT⟩ := hrel
    clear hlb
    obtain rfl | rfl | rfl | rfl | rfl | rfl | rfl : n = 0 ∨ n = 1 ∨ n = 2 ∨ n = 3 ∨ n = 4 ∨ n = 5 ∨ n = 6 := by omega
    · -- bit 0
      have HN := hid_mk (HS.out 0)
      have HL0 := hid_mk (HL.out 0)
      have HY := hid_mk (show bits .andNot .u8 ((G 0 : Nat) : Int) 1 = ((G (0 + 1) : Nat) : Int) by rw [HN.out]; exact u8_andNot_nat (G 0) 1 HL0.out (by decide))
      generalize G 0 = y at *
      obtain ⟨y2, hy2⟩ : ∃ y2 : Nat, y2 = G (0 + 1) := ⟨_, rfl⟩
      rw [← hy2] at HY
      have HY2 := hid_mk hy2
      clear hy2 HN
      have hd := HD.out
      have HH := hid_mk (shas ⟨k, o, g, s⟩ 1 hd (by decide))
      have HC := hid_mk (fun w => salways ⟨k, o, g, s⟩ w)
      unfold dvV at HC HH
      simp only at HC HH
      clear hd
      have HBITS := hid_mk HT.out.bits
      have hlb := HBITS.out.lt
      have k0 := HBITS.out.c0
      have k1 := HBITS.out.c1
      obtain ⟨x0, x1, x2, x3, x4, _⟩ := res_all HT.out.box
      cases hw : hasM s 1
      · rw [hw] at HH
        have HE : Hid (okS (acceptF k o g) s (0 + 1) = true) := by
          refine hid_mk (okS_succ HK.out ?_)
          unfold condS
          rw [show maskL.getD 0 0 = 1 by decide, hw]
          rfl
        clear hw HC
        go_wp2_with fail
        refine (HH.out _).mono ?_
        rintro e w2 ⟨rfl, hb2⟩
        have HT2 := hid_mk ((HT.out.below (below_box _ _)).below hb2)
        have g0 := (hb2.cell (p := ⟨wr.heap.size, 0, none⟩) (by go_simp)).trans (show _ = some (Value.int .u8 1) by go_simp)
        have g2 : wr.heap.size < w2.heap.size := Nat.lt_of_lt_of_le (by simp) hb2.size
        clear hb2 x0 x1 x2 x3 x4 k0 k1 hlb
        go_wp2_with fail
        go_roundw
        case rel => exact ⟨0 + 1, by omega, by rw [HY.out, HY2.out], rfl, HE, HT2⟩
        case measure => simp [intOf]
      · rw [hw] at HH
        have HE : Hid (okS (acceptF k o g) s (0 + 1) = true) := by
          refine hid_mk (okS_succ HK.out ?_)
          unfold condS
          rw [show maskL.getD 0 0 = 1 by decide, hw, show mayB (acceptF k o g) 0 s = true from rfl]
          rfl
        clear hw
        go_wp2_with fail
        refine (HH.out _).mono ?_
        rintro e w2 ⟨rfl, hb2⟩
        have HT2 := hid_mk ((HT.out.below (below_box _ _)).below hb2)
        have g0 := (hb2.cell (p := ⟨wr.heap.size, 0, none⟩) (by go_simp)).trans (show _ = some (Value.int .u8 1) by go_simp)
        have g1 := (hb2.cell (p := ⟨wr.heap.size, 1, none⟩) (by go_simp)).trans (show _ = some (Value.func (.func 40) #[] #[]) by go_simp)
        have g2 : wr.heap.size < w2.heap.size := Nat.lt_of_lt_of_le (by simp) hb2.size
        generalize wr.heap.size = vb at *
        clear hb2 x0 x1 x2 x3 x4 k0 k1 hlb
        obtain ⟨x0, x1, x2, x3, x4, _⟩ := res_all HT2.out.box
        go_wp2_with fail
        refine (HC.out _).mono ?_
        rintro e w3 ⟨rfl, hb3⟩
        have HT3 := hid_mk (HT2.out.below hb3)
        have g3 := (hb3.cell (p := ⟨vb, 0, none⟩) g2).trans g0
        have g4 : vb < w3.heap.size := Nat.lt_of_lt_of_le g2 hb3.size
        clear hb3 x0 x1 x2 x3 x4 g0 g1 g2
        go_wp2_with fail
        go_roundw
        case rel => exact ⟨0 + 1, by omega, by rw [HY.out, HY2.out], rfl, HE, HT3⟩
        case measure => simp [intOf]
    · -- bit 1
      have HN := hid_mk (HS.out 1)
      have HL0 := hid_mk (HL.out 1)
      have HY := hid_mk (show bits .andNot .u8 ((G 1 : Nat) : Int) 2 = ((G (1 + 1) : Nat) : Int) by rw [HN.out]; exact u8_andNot_nat (G 1) 2 HL0.out (by decide))
      generalize G 1 = y at *
      obtain ⟨y2, hy2⟩ : ∃ y2 : Nat, y2 = G (1 + 1) := ⟨_, rfl⟩
      rw [← hy2] at HY
      have HY2 := hid_mk hy2
      clear hy2 HN
      have hd := HD.out
      have HH := hid_mk (shas ⟨k, o, g, s⟩ 2 hd (by decide))
      have HC := hid_mk (fun (w : World) (hb : p < w.heap.size) (hc : w.cell? ⟨p, 0, none⟩ = some (.int .u8 1)) => swith1 ⟨k, o, g, s⟩ 1 p hd (by decide) w hb hc)
      unfold dvV at HC HH
      simp only at HC HH
      clear hd
      have HBITS := hid_mk HT.out.bits
      have hlb := HBITS.out.lt
      have k0 := HBITS.out.c2
      have k1 := HBITS.out.c3
      obtain ⟨x0, x1, x2, x3, x4, _⟩ := res_all HT.out.box
      cases hw : hasM s 2
      · rw [hw] at HH
        have HE : Hid (okS (acceptF k o g) s (1 + 1) = true) := by
          refine hid_mk (okS_succ HK.out ?_)
          unfold condS
          rw [show maskL.getD 1 0 = 2 by decide, hw]
          rfl
        clear hw HC
        go_wp2_with fail
        refine (HH.out _).mono ?_
        rintro e w2 ⟨rfl, hb2⟩
        have HT2 := hid_mk ((HT.out.below (below_box _ _)).below hb2)
        have g0 := (hb2.cell (p := ⟨wr.heap.size, 0, none⟩) (by go_simp)).trans (show _ = some (Value.int .u8 2) by go_simp)
        have g2 : wr.heap.size < w2.heap.size := Nat.lt_of_lt_of_le (by simp) hb2.size
        clear hb2 x0 x1 x2 x3 x4 k0 k1 hlb
        go_wp2_with fail
        go_roundw
        case rel => exact ⟨1 + 1, by omega, by rw [HY.out, HY2.out], rfl, HE, HT2⟩
        case measure => simp [intOf]
      · rw [hw] at HH
        cases hy : hasM s 1
        · rw [hy] at HC
          have HE : Hid (V = false) := by
            refine hid_mk (HNO.out 1 (by decide) ?_)
            unfold condS
            rw [show maskL.getD 1 0 = 2 by decide, hw, show mayB (acceptF k o g) 1 s = false from hy]
            rfl
          clear hw hy
          go_wp2_with fail
          refine (HH.out _).mono ?_
          rintro e w2 ⟨rfl, hb2⟩
          have HT2 := hid_mk ((HT.out.below (below_box _ _)).below hb2)
          have g0 := (hb2.cell (p := ⟨wr.heap.size, 0, none⟩) (by go_simp)).trans (show _ = some (Value.int .u8 2) by go_simp)
          have g1 := (hb2.cell (p := ⟨wr.heap.size, 1, none⟩) (by go_simp)).trans (show _ = some (Value.func (.func 47) #[] #[.pointer (some ⟨p, 0, none⟩)]) by go_simp)
          have g2 : wr.heap.size < w2.heap.size := Nat.lt_of_lt_of_le (by simp) hb2.size
          generalize wr.heap.size = vb at *
          clear hb2 x0 x1 x2 x3 x4 k0 k1 hlb
          obtain ⟨x0, x1, x2, x3, x4, _⟩ := res_all HT2.out.box
          go_wp2_with fail
          refine (HC.out _ (by have := HT2.out.bits.lp; simp; omega) (by have := HT2.out.bits.lp; have := HT2.out.bits.p0; go_simp)).mono ?_
          rintro e w3 ⟨rfl, hb3⟩
          have HT3 := hid_mk (HT2.out.below hb3)
          clear hb3 x0 x1 x2 x3 x4 g0 g1 g2
          go_wp2_with fail
          go_ret
          exact ⟨ret_eq (by rw [HE.out]; rfl), HT3.out.hb⟩
        · rw [hy] at HC
          have HE : Hid (okS (acceptF k o g) s (1 + 1) = true) := by
            refine hid_mk (okS_succ HK.out ?_)
            unfold condS
            rw [show maskL.getD 1 0 = 2 by decide, hw, show mayB (acceptF k o g) 1 s = true from hy]
            rfl
          clear hw hy
          go_wp2_with fail
          refine (HH.out _).mono ?_
          rintro e w2 ⟨rfl, hb2⟩
          have HT2 := hid_mk ((HT.out.below (below_box _ _)).below hb2)
          have g0 := (hb2.cell (p := ⟨wr.heap.size, 0, none⟩) (by go_simp)).trans (show _ = some (Value.int .u8 2) by go_simp)
          have g1 := (hb2.cell (p := ⟨wr.heap.size, 1, none⟩) (by go_simp)).trans (show _ = some (Value.func (.func 47) #[] #[.pointer (some ⟨p, 0, none⟩)]) by go_simp)
          have g2 : wr.heap.size < w2.heap.size := Nat.lt_of_lt_of_le (by simp) hb2.size
          generalize wr.heap.size = vb at *
          clear hb2 x0 x1 x2 x3 x4 k0 k1 hlb
          obtain ⟨x0, x1, x2, x3, x4, _⟩ := res_all HT2.out.box
          go_wp2_with fail
          refine (HC.out _ (by have := HT2.out.bits.lp; simp; omega) (by have := HT2.out.bits.lp; have := HT2.out.bits.p0; go_simp)).mono ?_
          rintro e w3 ⟨rfl, hb3⟩
          have HT3 := hid_mk (HT2.out.below hb3)
          have g3 := (hb3.cell (p := ⟨vb, 0, none⟩) g2).trans g0
          have g4 : vb < w3.heap.size := Nat.lt_of_lt_of_le g2 hb3.size
          clear hb3 x0 x1 x2 x3 x4 g0 g1 g2
          go_wp2_with fail
          go_roundw
          case rel => exact ⟨1 + 1, by omega, by rw [HY.out, HY2.out], rfl, HE, HT3⟩
          case measure => simp [intOf]
    · -- bit 2
      have HN := hid_mk (HS.out 2)
      have HL0 := hid_mk (HL.out 2)
      have HY := hid_mk (show bits .andNot .u8 ((G 2 : Nat) : Int) 8 = ((G (2 + 1) : Nat) : Int) by rw [HN.out]; exact u8_andNot_nat (G 2) 8 HL0.out (by decide))
      generalize G 2 = y at *
      obtain ⟨y2, hy2⟩ : ∃ y2 : Nat, y2 = G (2 + 1) := ⟨_, rfl⟩
      rw [← hy2] at HY
      have HY2 := hid_mk hy2
      clear hy2 HN
      have hd := HD.out
      have HH := hid_mk (shas ⟨k, o, g, s⟩ 8 hd (by decide))
      have HC := hid_mk (fun w => sagreed ⟨k, o, g, s⟩ hd w)
      unfold dvV at HC HH
      simp only at HC HH
      clear hd
      have HBITS := hid_mk HT.out.bits
      have hlb := HBITS.out.lt
      have k0 := HBITS.out.c4
      have k1 := HBITS.out.c5
      obtain ⟨x0, x1, x2, x3, x4, _⟩ := res_all HT.out.box
      cases hw : hasM s 8
      · rw [hw] at HH
        have HE : Hid (okS (acceptF k o g) s (2 + 1) = true) := by
          refine hid_mk (okS_succ HK.out ?_)
          unfold condS
          rw [show maskL.getD 2 0 = 8 by decide, hw]
          rfl
        clear hw HC
        go_wp2_with fail
        refine (HH.out _).mono ?_
        rintro e w2 ⟨rfl, hb2⟩
        have HT2 := hid_mk ((HT.out.below (below_box _ _)).below hb2)
        have g0 := (hb2.cell (p := ⟨wr.heap.size, 0, none⟩) (by go_simp)).trans (show _ = some (Value.int .u8 8) by go_simp)
        have g2 : wr.heap.size < w2.heap.size := Nat.lt_of_lt_of_le (by simp) hb2.size
        clear hb2 x0 x1 x2 x3 x4 k0 k1 hlb
        go_wp2_with fail
        go_roundw
        case rel => exact ⟨2 + 1, by omega, by rw [HY.out, HY2.out], rfl, HE, HT2⟩
        case measure => simp [intOf]
      · rw [hw] at HH
        cases hy : (s.testBit 1 && accD ⟨k, o, g, s⟩)
        · rw [hy] at HC
          have HE : Hid (V = false) := by
            refine hid_mk (HNO.out 2 (by decide) ?_)
            unfold condS
            rw [show maskL.getD 2 0 = 8 by decide, hw, show mayB (acceptF k o g) 2 s = false from hy]
            rfl
          clear hw hy
          go_wp2_with fail
          refine (HH.out _).mono ?_
          rintro e w2 ⟨rfl, hb2⟩
          have HT2 := hid_mk ((HT.out.below (below_box _ _)).below hb2)
          have g0 := (hb2.cell (p := ⟨wr.heap.size, 0, none⟩) (by go_simp)).trans (show _ = some (Value.int .u8 8) by go_simp)
          have g1 := (hb2.cell (p := ⟨wr.heap.size, 1, none⟩) (by go_simp)).trans (show _ = some (Value.func (.func 42) #[] #[]) by go_simp)
          have g2 : wr.heap.size < w2.heap.size := Nat.lt_of_lt_of_le (by simp) hb2.size
          generalize wr.heap.size = vb at *
          clear hb2 x0 x1 x2 x3 x4 k0 k1 hlb
          obtain ⟨x0, x1, x2, x3, x4, _⟩ := res_all HT2.out.box
          go_wp2_with fail
          refine (HC.out _).mono ?_
          rintro e w3 ⟨rfl, hb3⟩
          have HT3 := hid_mk (HT2.out.below hb3)
          clear hb3 x0 x1 x2 x3 x4 g0 g1 g2
          go_wp2_with fail
          go_ret
          exact ⟨ret_eq (by rw [HE.out]; rfl), HT3.out.hb⟩
        · rw [hy] at HC
          have HE : Hid (okS (acceptF k o g) s (2 + 1) = true) := by
            refine hid_mk (okS_succ HK.out ?_)
            unfold condS
            rw [show maskL.getD 2 0 = 8 by decide, hw, show mayB (acceptF k o g) 2 s = true from hy]
            rfl
          clear hw hy
          go_wp2_with fail
          refine (HH.out _).mono ?_
          rintro e w2 ⟨rfl, hb2⟩
          have HT2 := hid_mk ((HT.out.below (below_box _ _)).below hb2)
          have g0 := (hb2.cell (p := ⟨wr.heap.size, 0, none⟩) (by go_simp)).trans (show _ = some (Value.int .u8 8) by go_simp)
          have g1 := (hb2.cell (p := ⟨wr.heap.size, 1, none⟩) (by go_simp)).trans (show _ = some (Value.func (.func 42) #[] #[]) by go_simp)
          have g2 : wr.heap.size < w2.heap.size := Nat.lt_of_lt_of_le (by simp) hb2.size
          generalize wr.heap.size = vb at *
          clear hb2 x0 x1 x2 x3 x4 k0 k1 hlb
          obtain ⟨x0, x1, x2, x3, x4, _⟩ := res_all HT2.out.box
          go_wp2_with fail
          refine (HC.out _).mono ?_
          rintro e w3 ⟨rfl, hb3⟩
          have HT3 := hid_mk (HT2.out.below hb3)
          have g3 := (hb3.cell (p := ⟨vb, 0, none⟩) g2).trans g0
          have g4 : vb < w3.heap.size := Nat.lt_of_lt_of_le g2 hb3.size
          clear hb3 x0 x1 x2 x3 x4 g0 g1 g2
          go_wp2_with fail
          go_roundw
          case rel => exact ⟨2 + 1, by omega, by rw [HY.out, HY2.out], rfl, HE, HT3⟩
          case measure => simp [intOf]
    · -- bit 3
      have HN := hid_mk (HS.out 3)
      have HL0 := hid_mk (HL.out 3)
      have HY := hid_mk (show bits .andNot .u8 ((G 3 : Nat) : Int) 4 = ((G (3 + 1) : Nat) : Int) by rw [HN.out]; exact u8_andNot_nat (G 3) 4 HL0.out (by decide))
      generalize G 3 = y at *
      obtain ⟨y2, hy2⟩ : ∃ y2 : Nat, y2 = G (3 + 1) := ⟨_, rfl⟩
      rw [← hy2] at HY
      have HY2 := hid_mk hy2
      clear hy2 HN
      have hd := HD.out
      have HH := hid_mk (shas ⟨k, o, g, s⟩ 4 hd (by decide))
      have HC := hid_mk (fun (w : World) (hb : q < w.heap.size) (hc : w.cell? ⟨q, 0, none⟩ = some (.int .u8 8)) => swith1 ⟨k, o, g, s⟩ 8 q hd (by decide) w hb hc)
      unfold dvV at HC HH
      simp only at HC HH
      clear hd
      have HBITS := hid_mk HT.out.bits
      have hlb := HBITS.out.lt
      have k0 := HBITS.out.c6
      have k1 := HBITS.out.c7
      obtain ⟨x0, x1, x2, x3, x4, _⟩ := res_all HT.out.box
      cases hw : hasM s 4
      · rw [hw] at HH
        have HE : Hid (okS (acceptF k o g) s (3 + 1) = true) := by
          refine hid_mk (okS_succ HK.out ?_)
          unfold condS
          rw [show maskL.getD 3 0 = 4 by decide, hw]
          rfl
        clear hw HC
        go_wp2_with fail
        refine (HH.out _).mono ?_
        rintro e w2 ⟨rfl, hb2⟩
        have HT2 := hid_mk ((HT.out.below (below_box _ _)).below hb2)
        have g0 := (hb2.cell (p := ⟨wr.heap.size, 0, none⟩) (by go_simp)).trans (show _ = some (Value.int .u8 4) by go_simp)
        have g2 : wr.heap.size < w2.heap.size := Nat.lt_of_lt_of_le (by simp) hb2.size
        clear hb2 x0 x1 x2 x3 x4 k0 k1 hlb
        go_wp2_with fail
        go_roundw
        case rel => exact ⟨3 + 1, by omega, by rw [HY.out, HY2.out], rfl, HE, HT2⟩
        case measure => simp [intOf]
      · rw [hw] at HH
        cases hy : hasM s 8
        · rw [hy] at HC
          have HE : Hid (V = false) := by
            refine hid_mk (HNO.out 3 (by decide) ?_)
            unfold condS
            rw [show maskL.getD 3 0 = 4 by decide, hw, show mayB (acceptF k o g) 3 s = false from hy]
            rfl
          clear hw hy
          go_wp2_with fail
          refine (HH.out _).mono ?_
          rintro e w2 ⟨rfl, hb2⟩
          have HT2 := hid_mk ((HT.out.below (below_box _ _)).below hb2)
          have g0 := (hb2.cell (p := ⟨wr.heap.size, 0, none⟩) (by go_simp)).trans (show _ = some (Value.int .u8 4) by go_simp)
          have g1 := (hb2.cell (p := ⟨wr.heap.size, 1, none⟩) (by go_simp)).trans (show _ = some (Value.func (.func 47) #[] #[.pointer (some ⟨q, 0, none⟩)]) by go_simp)
          have g2 : wr.heap.size < w2.heap.size := Nat.lt_of_lt_of_le (by simp) hb2.size
          generalize wr.heap.size = vb at *
          clear hb2 x0 x1 x2 x3 x4 k0 k1 hlb
          obtain ⟨x0, x1, x2, x3, x4, _⟩ := res_all HT2.out.box
          go_wp2_with fail
          refine (HC.out _ (by have := HT2.out.bits.lq; simp; omega) (by have := HT2.out.bits.lq; have := HT2.out.bits.q0; go_simp)).mono ?_
          rintro e w3 ⟨rfl, hb3⟩
          have HT3 := hid_mk (HT2.out.below hb3)
          clear hb3 x0 x1 x2 x3 x4 g0 g1 g2
          go_wp2_with fail
          go_ret
          exact ⟨ret_eq (by rw [HE.out]; rfl), HT3.out.hb⟩
        · rw [hy] at HC
          have HE : Hid (okS (acceptF k o g) s (3 + 1) = true) := by
            refine hid_mk (okS_succ HK.out ?_)
            unfold condS
            rw [show maskL.getD 3 0 = 4 by decide, hw, show mayB (acceptF k o g) 3 s = true from hy]
            rfl
          clear hw hy
          go_wp2_with fail
          refine (HH.out _).mono ?_
          rintro e w2 ⟨rfl, hb2⟩
          have HT2 := hid_mk ((HT.out.below (below_box _ _)).below hb2)
          have g0 := (hb2.cell (p := ⟨wr.heap.size, 0, none⟩) (by go_simp)).trans (show _ = some (Value.int .u8 4) by go_simp)
          have g1 := (hb2.cell (p := ⟨wr.heap.size, 1, none⟩) (by go_simp)).trans (show _ = some (Value.func (.func 47) #[] #[.pointer (some ⟨q, 0, none⟩)]) by go_simp)
          have g2 : wr.heap.size < w2.heap.size := Nat.lt_of_lt_of_le (by simp) hb2.size
          generalize wr.heap.size = vb at *
          clear hb2 x0 x1 x2 x3 x4 k0 k1 hlb
          obtain ⟨x0, x1, x2, x3, x4, _⟩ := res_all HT2.out.box
          go_wp2_with fail
          refine (HC.out _ (by have := HT2.out.bits.lq; simp; omega) (by have := HT2.out.bits.lq; have := HT2.out.bits.q0; go_simp)).mono ?_
          rintro e w3 ⟨rfl, hb3⟩
          have HT3 := hid_mk (HT2.out.below hb3)
          have g3 := (hb3.cell (p := ⟨vb, 0, none⟩) g2).trans g0
          have g4 : vb < w3.heap.size := Nat.lt_of_lt_of_le g2 hb3.size
          clear hb3 x0 x1 x2 x3 x4 g0 g1 g2
          go_wp2_with fail
          go_roundw
          case rel => exact ⟨3 + 1, by omega, by rw [HY.out, HY2.out], rfl, HE, HT3⟩
          case measure => simp [intOf]
    · -- bit 4
      have HN := hid_mk (HS.out 4)
      have HL0 := hid_mk (HL.out 4)
      have HY := hid_mk (show bits .andNot .u8 ((G 4 : Nat) : Int) 64 = ((G (4 + 1) : Nat) : Int) by rw [HN.out]; exact u8_andNot_nat (G 4) 64 HL0.out (by decide))
      generalize G 4 = y at *
      obtain ⟨y2, hy2⟩ : ∃ y2 : Nat, y2 = G (4 + 1) := ⟨_, rfl⟩
      rw [← hy2] at HY
      have HY2 := hid_mk hy2
      clear hy2 HN
      have hd := HD.out
      have HH := hid_mk (shas ⟨k, o, g, s⟩ 64 hd (by decide))
      have HC := hid_mk (fun (w : World) (hb : r < w.heap.size) (hc : w.cell? ⟨r, 0, none⟩ = some (.int .u8 4)) => swith1 ⟨k, o, g, s⟩ 4 r hd (by decide) w hb hc)
      unfold dvV at HC HH
      simp only at HC HH
      clear hd
      have HBITS := hid_mk HT.out.bits
      have hlb := HBITS.out.lt
      have k0 := HBITS.out.c8
      have k1 := HBITS.out.c9
      obtain ⟨x0, x1, x2, x3, x4, _⟩ := res_all HT.out.box
      cases hw : hasM s 64
      · rw [hw] at HH
        have HE : Hid (okS (acceptF k o g) s (4 + 1) = true) := by
          refine hid_mk (okS_succ HK.out ?_)
          unfold condS
          rw [show maskL.getD 4 0 = 64 by decide, hw]
          rfl
        clear hw HC
        go_wp2_with fail
        refine (HH.out _).mono ?_
        rintro e w2 ⟨rfl, hb2⟩
        have HT2 := hid_mk ((HT.out.below (below_box _ _)).below hb2)
        have g0 := (hb2.cell (p := ⟨wr.heap.size, 0, none⟩) (by go_simp)).trans (show _ = some (Value.int .u8 64) by go_simp)
        have g2 : wr.heap.size < w2.heap.size := Nat.lt_of_lt_of_le (by simp) hb2.size
        clear hb2 x0 x1 x2 x3 x4 k0 k1 hlb
        go_wp2_with fail
        go_roundw
        case rel => exact ⟨4 + 1, by omega, by rw [HY.out, HY2.out], rfl, HE, HT2⟩
        case measure => simp [intOf]
      · rw [hw] at HH
        cases hy : hasM s 4
        · rw [hy] at HC
          have HE : Hid (V = false) := by
            refine hid_mk (HNO.out 4 (by decide) ?_)
            unfold condS
            rw [show maskL.getD 4 0 = 64 by decide, hw, show mayB (acceptF k o g) 4 s = false from hy]
            rfl
          clear hw hy
          go_wp2_with fail
          refine (HH.out _).mono ?_
          rintro e w2 ⟨rfl, hb2⟩
          have HT2 := hid_mk ((HT.out.below (below_box _ _)).below hb2)
          have g0 := (hb2.cell (p := ⟨wr.heap.size, 0, none⟩) (by go_simp)).trans (show _ = some (Value.int .u8 64) by go_simp)
          have g1 := (hb2.cell (p := ⟨wr.heap.size, 1, none⟩) (by go_simp)).trans (show _ = some (Value.func (.func 47) #[] #[.pointer (some ⟨r, 0, none⟩)]) by go_simp)
          have g2 : wr.heap.size < w2.heap.size := Nat.lt_of_lt_of_le (by simp) hb2.size
          generalize wr.heap.size = vb at *
          clear hb2 x0 x1 x2 x3 x4 k0 k1 hlb
          obtain ⟨x0, x1, x2, x3, x4, _⟩ := res_all HT2.out.box
          go_wp2_with fail
          refine (HC.out _ (by have := HT2.out.bits.lr; simp; omega) (by have := HT2.out.bits.lr; have := HT2.out.bits.r0; go_simp)).mono ?_
          rintro e w3 ⟨rfl, hb3⟩
          have HT3 := hid_mk (HT2.out.below hb3)
          clear hb3 x0 x1 x2 x3 x4 g0 g1 g2
          go_wp2_with fail
          go_ret
          exact ⟨ret_eq (by rw [HE.out]; rfl), HT3.out.hb⟩
        · rw [hy] at HC
          have HE : Hid (okS (acceptF k o g) s (4 + 1) = true) := by
            refine hid_mk (okS_succ HK.out ?_)
            unfold condS
            rw [show maskL.getD 4 0 = 64 by decide, hw, show mayB (acceptF k o g) 4 s = true from hy]
            rfl
          clear hw hy
          go_wp2_with fail
          refine (HH.out _).mono ?_
          rintro e w2 ⟨rfl, hb2⟩
          have HT2 := hid_mk ((HT.out.below (below_box _ _)).below hb2)
          have g0 := (hb2.cell (p := ⟨wr.heap.size, 0, none⟩) (by go_simp)).trans (show _ = some (Value.int .u8 64) by go_simp)
          have g1 := (hb2.cell (p := ⟨wr.heap.size, 1, none⟩) (by go_simp)).trans (show _ = some (Value.func (.func 47) #[] #[.pointer (some ⟨r, 0, none⟩)]) by go_simp)
          have g2 : wr.heap.size < w2.heap.size := Nat.lt_of_lt_of_le (by simp) hb2.size
          generalize wr.heap.size = vb at *
          clear hb2 x0 x1 x2 x3 x4 k0 k1 hlb
          obtain ⟨x0, x1, x2, x3, x4, _⟩ := res_all HT2.out.box
          go_wp2_with fail
          refine (HC.out _ (by have := HT2.out.bits.lr; simp; omega) (by have := HT2.out.bits.lr; have := HT2.out.bits.r0; go_simp)).mono ?_
          rintro e w3 ⟨rfl, hb3⟩
          have HT3 := hid_mk (HT2.out.below hb3)
          have g3 := (hb3.cell (p := ⟨vb, 0, none⟩) g2).trans g0
          have g4 : vb < w3.heap.size := Nat.lt_of_lt_of_le g2 hb3.size
          clear hb3 x0 x1 x2 x3 x4 g0 g1 g2
          go_wp2_with fail
          go_roundw
          case rel => exact ⟨4 + 1, by omega, by rw [HY.out, HY2.out], rfl, HE, HT3⟩
          case measure => simp [intOf]
    · -- bit 5
      have HN := hid_mk (HS.out 5)
      have HL0 := hid_mk (HL.out 5)
      have HY := hid_mk (show bits .andNot .u8 ((G 5 : Nat) : Int) 128 = ((G (5 + 1) : Nat) : Int) by rw [HN.out]; exact u8_andNot_nat (G 5) 128 HL0.out (by decide))
      generalize G 5 = y at *
      obtain ⟨y2, hy2⟩ : ∃ y2 : Nat, y2 = G (5 + 1) := ⟨_, rfl⟩
      rw [← hy2] at HY
      have HY2 := hid_mk hy2
      clear hy2 HN
      have hd := HD.out
      have HH := hid_mk (shas ⟨k, o, g, s⟩ 128 hd (by decide))
      have HC := hid_mk (fun w => salways ⟨k, o, g, s⟩ w)
      unfold dvV at HC HH
      simp only at HC HH
      clear hd
      have HBITS := hid_mk HT.out.bits
      have hlb := HBITS.out.lt
      have k0 := HBITS.out.c10
      have k1 := HBITS.out.c11
      obtain ⟨x0, x1, x2, x3, x4, _⟩ := res_all HT.out.box
      cases hw : hasM s 128
      · rw [hw] at HH
        have HE : Hid (okS (acceptF k o g) s (5 + 1) = true) := by
          refine hid_mk (okS_succ HK.out ?_)
          unfold condS
          rw [show maskL.getD 5 0 = 128 by decide, hw]
          rfl
        clear hw HC
        go_wp2_with fail
        refine (HH.out _).mono ?_
        rintro e w2 ⟨rfl, hb2⟩
        have HT2 := hid_mk ((HT.out.below (below_box _ _)).below hb2)
        have g0 := (hb2.cell (p := ⟨wr.heap.size, 0, none⟩) (by go_simp)).trans (show _ = some (Value.int .u8 128) by go_simp)
        have g2 : wr.heap.size < w2.heap.size := Nat.lt_of_lt_of_le (by simp) hb2.size
        clear hb2 x0 x1 x2 x3 x4 k0 k1 hlb
        go_wp2_with fail
        go_roundw
        case rel => exact ⟨5 + 1, by omega, by rw [HY.out, HY2.out], rfl, HE, HT2⟩
        case measure => simp [intOf]
      · rw [hw] at HH
        have HE : Hid (okS (acceptF k o g) s (5 + 1) = true) := by
          refine hid_mk (okS_succ HK.out ?_)
          unfold condS
          rw [show maskL.getD 5 0 = 128 by decide, hw, show mayB (acceptF k o g) 5 s = true from rfl]
          rfl
        clear hw
        go_wp2_with fail
        refine (HH.out _).mono ?_
        rintro e w2 ⟨rfl, hb2⟩
        have HT2 := hid_mk ((HT.out.below (below_box _ _)).below hb2)
        have g0 := (hb2.cell (p := ⟨wr.heap.size, 0, none⟩) (by go_simp)).trans (show _ = some (Value.int .u8 128) by go_simp)
        have g1 := (hb2.cell (p := ⟨wr.heap.size, 1, none⟩) (by go_simp)).trans (show _ = some (Value.func (.func 40) #[] #[]) by go_simp)
        have g2 : wr.heap.size < w2.heap.size := Nat.lt_of_lt_of_le (by simp) hb2.size
        generalize wr.heap.size = vb at *
        clear hb2 x0 x1 x2 x3 x4 k0 k1 hlb
        obtain ⟨x0, x1, x2, x3, x4, _⟩ := res_all HT2.out.box
        go_wp2_with fail
        refine (HC.out _).mono ?_
        rintro e w3 ⟨rfl, hb3⟩
        have HT3 := hid_mk (HT2.out.below hb3)
        have g3 := (hb3.cell (p := ⟨vb, 0, none⟩) g2).trans g0
        have g4 : vb < w3.heap.size := Nat.lt_of_lt_of_le g2 hb3.size
        clear hb3 x0 x1 x2 x3 x4 g0 g1 g2
        go_wp2_with fail
        go_roundw
        case rel => exact ⟨5 + 1, by omega, by rw [HY.out, HY2.out], rfl, HE, HT3⟩
        case measure => simp [intOf]
    · -- behind the last
      have HZ := hid_mk (eq_int (G 6))
      have HE := hid_mk (HEND.out HK.out)
      generalize G 6 = y at *
      go_wp2_with fail
      go_ret
      exact ⟨ret_eq (by rw [← HE.out, ← HZ.out]; rfl), HT.out.hb⟩
end Go.Proofs.Ytfiogaollejdbaa
