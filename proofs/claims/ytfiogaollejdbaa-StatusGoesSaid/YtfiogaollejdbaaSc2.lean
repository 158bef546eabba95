/- status's set and sound: a loop over the bits of a status. Conditions: as each theorem names them. Written by mkset7.py. -/
import Derived.Test.YtfiogaollejdbaaSc1
import Derived.Laws.EntriesVeiled
namespace Go.Proofs.Ytfiogaollejdbaa
open Go.ChangeShapes Go.WideShapes Go.ChangeAt Go.RowKit
set_option linter.unusedVariables false
set_option maxRecDepth 100000

/-- the condition of bit j, on a status -/
def mayB (a : Bool) (j s : Nat) : Bool := match j with
  | 0 => true
  | 1 => hasM s 1
  | 2 => s.testBit 1 && a
  | 3 => hasM s 8
  | 4 => hasM s 4
  | _ => true
def maskL : List Nat := [1, 2, 8, 4, 64, 128]
/-- a status behind bit j of the word -/
def stepN (a : Bool) (x s j : Nat) : Nat := setS (hasM x (maskL.getD j 0) && mayB a j s) (maskL.getD j 0) s
def setN (a : Bool) (x s : Nat) : Nat → Nat
  | 0 => s
  | j + 1 => stepN a x (setN a x s j) j
theorem setN_lt (a : Bool) (x : Nat) {s : Nat} (h : s < 256) : ∀ j, setN a x s j < 256 := by
  intro j
  induction j with
  | zero => exact h
  | succ j ih =>
    show stepN a x (setN a x s j) j < 256
    unfold stepN
    refine setS_lt ?_ ih
    have key : ∀ i : Fin 6, maskL.getD i.val 0 < 256 := by decide
    by_cases hj : j < 6
    · exact key ⟨j, hj⟩
    · have e : maskL.getD j 0 = 0 := by
        have : maskL.length ≤ j := by show 6 ≤ j; omega
        simp [List.getD, this]
      rw [e]
      decide

/-- where set stands -/
structure SetSt (w wr : World) (bx rx bb p q r : Nat) (k o g s : Int) : Prop where
  hb : Below w.heap.size w wr
  gx : w.heap.size ≤ bx
  gr : w.heap.size ≤ rx
  box : BlkAt wr bx [.int .i64 k, .int .u64 o, .int .u64 g, .int .u8 s] 49
  res : BlkAt wr rx [.int .i64 0, .int .u64 0, .int .u64 0, .int .u8 0] 49
  bits : BitsAt wr bb p q r
  nr : rx ≠ bx
  nb : bx ≠ bb
  np : bx ≠ p
  nq : bx ≠ q
  nq2 : bx ≠ r
theorem BitsAt.set {w : World} {b p q r x i : Nat} (h : BitsAt w b p q r) (n0 : x ≠ b) (n1 : x ≠ p) (n2 : x ≠ q) (n3 : x ≠ r) (v : Value) : BitsAt (w.setCell ⟨x, i, none⟩ v) b p q r := by
  have hs : (w.setCell ⟨x, i, none⟩ v).heap.size = w.heap.size := by simp
  have hc : ∀ b o, x ≠ b → (w.setCell ⟨x, i, none⟩ v).cell? ⟨b, o, none⟩ = w.cell? ⟨b, o, none⟩ := fun b o hne => World.cell?_of_block (Below.heap_setCell w ⟨x, i, none⟩ v b (fun e => hne e.symm))
  exact ⟨by rw [hs]; exact h.lt, by rw [hs]; exact h.lp, by rw [hs]; exact h.lq, by rw [hs]; exact h.lr, (hc p 0 n1).trans h.p0, (hc q 0 n2).trans h.q0, (hc r 0 n3).trans h.r0,
    (hc b 0 n0).trans h.c0, (hc b 1 n0).trans h.c1, (hc b 2 n0).trans h.c2, (hc b 3 n0).trans h.c3, (hc b 4 n0).trans h.c4, (hc b 5 n0).trans h.c5, (hc b 6 n0).trans h.c6, (hc b 7 n0).trans h.c7, (hc b 8 n0).trans h.c8, (hc b 9 n0).trans h.c9, (hc b 10 n0).trans h.c10, (hc b 11 n0).trans h.c11⟩
theorem SetSt.below {w wr w' : World} {bx rx bb p q r : Nat} {k o g s : Int} (h : SetSt w wr bx rx bb p q r k o g s) (hb : Below wr.heap.size wr w') : SetSt w w' bx rx bb p q r k o g s :=
  ⟨below_two h.hb hb, h.gx, h.gr, h.box.below hb, h.res.below hb, h.bits.below hb, h.nr, h.nb, h.np, h.nq, h.nq2⟩
theorem SetSt.put {w wr : World} {bx rx bb p q r : Nat} {k o g s : Int} (h : SetSt w wr bx rx bb p q r k o g s) (s' : Int) : SetSt w (wr.setCell ⟨bx, 3, none⟩ (.int .u8 s')) bx rx bb p q r k o g s' :=
  ⟨h.hb.setCell h.gx _, h.gx, h.gr, h.box.set 3 _, h.res.other h.nr _, h.bits.set h.nb h.np h.nq h.nq2 _, h.nr, h.nb, h.np, h.nq, h.nq2⟩
theorem SetSt.all {w wr : World} {bx rx bb p q r : Nat} {k o g s : Int} (h : SetSt w wr bx rx bb p q r k o g s) : bx < wr.heap.size ∧ wr.cell? ⟨bx, 0, none⟩ = some (.int .i64 k) ∧ wr.cell? ⟨bx, 1, none⟩ = some (.int .u64 o) ∧ wr.cell? ⟨bx, 2, none⟩ = some (.int .u64 g) ∧ wr.cell? ⟨bx, 3, none⟩ = some (.int .u8 s) ∧ wr.frozen? ⟨bx, 3, none⟩ = false :=
  ⟨h.box.lt, h.box.cell 0, h.box.cell 1, h.box.cell 2, h.box.cell 3, h.box.free 3⟩
theorem res_all {w : World} {b : Nat} {k o g s : Int} {t : TypeId} (h : BlkAt w b [.int .i64 k, .int .u64 o, .int .u64 g, .int .u8 s] t) : b < w.heap.size ∧ w.cell? ⟨b, 0, none⟩ = some (.int .i64 k) ∧ w.cell? ⟨b, 1, none⟩ = some (.int .u64 o) ∧ w.cell? ⟨b, 2, none⟩ = some (.int .u64 g) ∧ w.cell? ⟨b, 3, none⟩ = some (.int .u8 s) ∧ w.frozen? ⟨b, 0, none⟩ = false ∧ w.frozen? ⟨b, 1, none⟩ = false ∧ w.frozen? ⟨b, 2, none⟩ = false ∧ w.frozen? ⟨b, 3, none⟩ = false :=
  ⟨h.lt, h.cell 0, h.cell 1, h.cell 2, h.cell 3, h.free 0, h.free 1, h.free 2, h.free 3⟩
theorem hasM_int {x m : Nat} (hx : x < 256) (hm : m < 256) : (bits .and .u8 (x : Int) (m : Int) != 0) = hasM x m := by
  rw [u8_and_nat x m hx hm, ne_int]
  rfl


set_option maxHeartbeats 4000000 in
theorem sset (d : Dv) (x : Nat) (h : isDv d) (hx : x < 256) (w : World) :
    Calls Try.prog 21 #[dvV d, .int .u8 x] w fun e w' => e = .returned (dvV ⟨d.k, d.o, d.g, setN (accD d) x d.s 6⟩) ∧ Below w.heap.size w w' := by
  have HX := hid_mk hx
  have HD := hid_mk h
  obtain ⟨k, o, g, s⟩ := d
  have hS : ∃ F : Nat → Nat, F = setN (accD ⟨k, o, g, s⟩) x s := ⟨_, rfl⟩
  obtain ⟨F, hF⟩ := hS
  have HL := hid_mk (show ∀ j, F j < 256 from fun j => by rw [hF]; exact setN_lt _ x h.s j)
  have H0 := hid_mk (show F 0 = s by rw [hF]; rfl)
  have HS := hid_mk (show ∀ j, F (j + 1) = stepN (acceptF k o g) x (F j) j from fun j => by rw [hF]; rfl)
  simp only
  rw [← hF]
  clear hF hx h
  unfold dvV
  simp only
  go_enter Try.func21, Try.ntmps21
  go_wp2_with fail
  refine (sbits _).mono ?_
  rintro e w1 ⟨bb, p, q, r, rfl, hb1, hbits, gb, gp, gq, gr⟩
  have ST : Hid (SetSt w w1 w.heap.size (w.heap.size + 1) bb p q r k o g s) := by
    refine hid_mk ⟨below_two ((below_box w _).alloc (by simp) _) hb1, by omega, by omega, ?_, ?_, hbits, by omega, ?_, ?_, ?_, ?_⟩
    · exact ((blk_new w [.int .i64 k, .int .u64 o, .int .u64 g, .int .u8 s] _).below (below_box _ _)).below hb1
    · have := (blk_new (w.alloc (.cells #[.int .i64 k, .int .u64 o, .int .u64 g, .int .u8 s] 49)) [.int .i64 0, .int .u64 0, .int .u64 0, .int .u8 0] 49).below hb1
      simpa using this
    · simp at gb; omega
    · simp at gp; omega
    · simp at gq; omega
    · simp at gr; omega
  clear hb1 hbits gb gp gq gr
  generalize hbx : w.heap.size = bx at *
  generalize hrx : bx + 1 = rx at *
  clear hrx
  have hlb := ST.out.bits.lt
  go_wp2_with fail
  go_loopw [6, 9] (fun v i wr => ∃ n : Nat, n ≤ 6 ∧ i = .int .i64 n ∧ Hid (SetSt w wr bx rx bb p q r k o g (F n))) (fun _ i _ => 6 - (intOf i).toNat)
  case atStart => exact ⟨0, by omega, rfl, by rw [H0.out]; exact ST⟩
  case round =>
    obtain ⟨n, hn, rfl, HT⟩ := hrel
    clear hlb
    obtain rfl | rfl | rfl | rfl | rfl | rfl | rfl : n = 0 ∨ n = 1 ∨ n = 2 ∨ n = 3 ∨ n = 4 ∨ n = 5 ∨ n = 6 := by omega
    · -- bit 0
      have HN := hid_mk (HS.out 0)
      have HL0 := hid_mk (HL.out 0)
      generalize F 0 = y at *
      have hd : isDv ⟨k, o, g, y⟩ := ⟨HD.out.o, HD.out.g, HL0.out⟩
      have HC := hid_mk (fun w => salways ⟨k, o, g, y⟩ w)
      unfold dvV at HC
      simp only at HC
      clear hd
      have HBITS := hid_mk HT.out.bits
      have hlb := HBITS.out.lt
      have k0 := HBITS.out.c0
      have k1 := HBITS.out.c1
      obtain ⟨x0, x1, x2, x3, x4, x5⟩ := HT.out.all
      have hm : (bits .and .u8 (x : Int) 1 != 0) = hasM x 1 := hasM_int (x := x) (m := 1) HX.out (by decide)
      cases hw : hasM x 1
      · rw [hw] at hm
        have HE : Hid (F (0 + 1) = y) := by
          refine hid_mk ?_
          rw [HN.out]
          unfold stepN setS
          rw [show maskL.getD 0 0 = 1 by decide, hw, Bool.false_and]
          rfl
        clear hw HC
        go_wp2_with fail
        go_roundw
        case rel => exact ⟨0 + 1, by omega, rfl, by rw [HE.out]; exact hid_mk (HT.out.below (below_box _ _))⟩
        case measure => simp [intOf]
      · rw [hw] at hm
        have HE : Hid (F (0 + 1) = y ||| 1) := by
          refine hid_mk ?_
          rw [HN.out]
          unfold stepN setS
          rw [show maskL.getD 0 0 = 1 by decide, hw, show mayB (acceptF k o g) 0 y = true from rfl]
          rfl
        clear hw
        go_wp2_with fail
        refine (HC.out _).mono ?_
        rintro e w3 ⟨rfl, hb3⟩
        have HT3 := hid_mk ((HT.out.below (below_box _ _)).below hb3)
        have g0 := (hb3.cell (p := ⟨wr.heap.size, 0, none⟩) (by go_simp)).trans (show _ = some (Value.int .u8 1) by go_simp)
        have g2 : wr.heap.size < w3.heap.size := Nat.lt_of_lt_of_le (by simp) hb3.size
        have HO := hid_mk (show bits .or .u8 (y : Int) 1 = ((y ||| 1 : Nat) : Int) from u8_or_nat y 1 HL0.out (by decide))
        clear hb3 x0 x1 x2 x3 x4 x5 k0 k1 hlb
        obtain ⟨x0, x1, x2, x3, x4, x5⟩ := HT3.out.all
        clear x1 x2 x3
        go_wp2_with fail
        go_roundw
        case rel => exact ⟨0 + 1, by omega, rfl, by rw [HE.out, ← HO.out]; exact hid_mk (HT3.out.put _)⟩
        case measure => simp [intOf]
    · -- bit 1
      have HN := hid_mk (HS.out 1)
      have HL0 := hid_mk (HL.out 1)
      generalize F 1 = y at *
      have hd : isDv ⟨k, o, g, y⟩ := ⟨HD.out.o, HD.out.g, HL0.out⟩
      have HC := hid_mk (fun (w : World) (hb : p < w.heap.size) (hc : w.cell? ⟨p, 0, none⟩ = some (.int .u8 1)) => swith1 ⟨k, o, g, y⟩ 1 p hd (by decide) w hb hc)
      unfold dvV at HC
      simp only at HC
      clear hd
      have HBITS := hid_mk HT.out.bits
      have hlb := HBITS.out.lt
      have k0 := HBITS.out.c2
      have k1 := HBITS.out.c3
      obtain ⟨x0, x1, x2, x3, x4, x5⟩ := HT.out.all
      have hm : (bits .and .u8 (x : Int) 2 != 0) = hasM x 2 := hasM_int (x := x) (m := 2) HX.out (by decide)
      cases hw : hasM x 2
      · rw [hw] at hm
        have HE : Hid (F (1 + 1) = y) := by
          refine hid_mk ?_
          rw [HN.out]
          unfold stepN setS
          rw [show maskL.getD 1 0 = 2 by decide, hw, Bool.false_and]
          rfl
        clear hw HC
        go_wp2_with fail
        go_roundw
        case rel => exact ⟨1 + 1, by omega, rfl, by rw [HE.out]; exact hid_mk (HT.out.below (below_box _ _))⟩
        case measure => simp [intOf]
      · rw [hw] at hm
        cases hy : hasM y 1
        · rw [hy] at HC
          have HE : Hid (F (1 + 1) = y) := by
            refine hid_mk ?_
            rw [HN.out]
            unfold stepN setS
            rw [show maskL.getD 1 0 = 2 by decide, hw, show mayB (acceptF k o g) 1 y = false from hy]
            rfl
          clear hw hy
          go_wp2_with fail
          refine (HC.out _ (by have := HBITS.out.lp; simp; omega) (by have := HBITS.out.lp; have := HBITS.out.p0; go_simp)).mono ?_
          rintro e w3 ⟨rfl, hb3⟩
          have HT3 := hid_mk ((HT.out.below (below_box _ _)).below hb3)
          clear hb3 x0 x1 x2 x3 x4 x5 k0 k1 hlb
          go_wp2_with fail
          go_roundw
          case rel => exact ⟨1 + 1, by omega, rfl, by rw [HE.out]; exact HT3⟩
          case measure => simp [intOf]
        · rw [hy] at HC
          have HE : Hid (F (1 + 1) = y ||| 2) := by
            refine hid_mk ?_
            rw [HN.out]
            unfold stepN setS
            rw [show maskL.getD 1 0 = 2 by decide, hw, show mayB (acceptF k o g) 1 y = true from hy]
            rfl
          clear hw hy
          go_wp2_with fail
          refine (HC.out _ (by have := HBITS.out.lp; simp; omega) (by have := HBITS.out.lp; have := HBITS.out.p0; go_simp)).mono ?_
          rintro e w3 ⟨rfl, hb3⟩
          have HT3 := hid_mk ((HT.out.below (below_box _ _)).below hb3)
          have g0 := (hb3.cell (p := ⟨wr.heap.size, 0, none⟩) (by go_simp)).trans (show _ = some (Value.int .u8 2) by go_simp)
          have g2 : wr.heap.size < w3.heap.size := Nat.lt_of_lt_of_le (by simp) hb3.size
          have HO := hid_mk (show bits .or .u8 (y : Int) 2 = ((y ||| 2 : Nat) : Int) from u8_or_nat y 2 HL0.out (by decide))
          clear hb3 x0 x1 x2 x3 x4 x5 k0 k1 hlb
          obtain ⟨x0, x1, x2, x3, x4, x5⟩ := HT3.out.all
          clear x1 x2 x3
          go_wp2_with fail
          go_roundw
          case rel => exact ⟨1 + 1, by omega, rfl, by rw [HE.out, ← HO.out]; exact hid_mk (HT3.out.put _)⟩
          case measure => simp [intOf]
    · -- bit 2
      have HN := hid_mk (HS.out 2)
      have HL0 := hid_mk (HL.out 2)
      generalize F 2 = y at *
      have hd : isDv ⟨k, o, g, y⟩ := ⟨HD.out.o, HD.out.g, HL0.out⟩
      have HC := hid_mk (fun w => sagreed ⟨k, o, g, y⟩ hd w)
      unfold dvV at HC
      simp only at HC
      clear hd
      have HBITS := hid_mk HT.out.bits
      have hlb := HBITS.out.lt
      have k0 := HBITS.out.c4
      have k1 := HBITS.out.c5
      obtain ⟨x0, x1, x2, x3, x4, x5⟩ := HT.out.all
      have hm : (bits .and .u8 (x : Int) 8 != 0) = hasM x 8 := hasM_int (x := x) (m := 8) HX.out (by decide)
      cases hw : hasM x 8
      · rw [hw] at hm
        have HE : Hid (F (2 + 1) = y) := by
          refine hid_mk ?_
          rw [HN.out]
          unfold stepN setS
          rw [show maskL.getD 2 0 = 8 by decide, hw, Bool.false_and]
          rfl
        clear hw HC
        go_wp2_with fail
        go_roundw
        case rel => exact ⟨2 + 1, by omega, rfl, by rw [HE.out]; exact hid_mk (HT.out.below (below_box _ _))⟩
        case measure => simp [intOf]
      · rw [hw] at hm
        cases hy : (y.testBit 1 && accD ⟨k, o, g, y⟩)
        · rw [hy] at HC
          have HE : Hid (F (2 + 1) = y) := by
            refine hid_mk ?_
            rw [HN.out]
            unfold stepN setS
            rw [show maskL.getD 2 0 = 8 by decide, hw, show mayB (acceptF k o g) 2 y = false from hy]
            rfl
          clear hw hy
          go_wp2_with fail
          refine (HC.out _).mono ?_
          rintro e w3 ⟨rfl, hb3⟩
          have HT3 := hid_mk ((HT.out.below (below_box _ _)).below hb3)
          clear hb3 x0 x1 x2 x3 x4 x5 k0 k1 hlb
          go_wp2_with fail
          go_roundw
          case rel => exact ⟨2 + 1, by omega, rfl, by rw [HE.out]; exact HT3⟩
          case measure => simp [intOf]
        · rw [hy] at HC
          have HE : Hid (F (2 + 1) = y ||| 8) := by
            refine hid_mk ?_
            rw [HN.out]
            unfold stepN setS
            rw [show maskL.getD 2 0 = 8 by decide, hw, show mayB (acceptF k o g) 2 y = true from hy]
            rfl
          clear hw hy
          go_wp2_with fail
          refine (HC.out _).mono ?_
          rintro e w3 ⟨rfl, hb3⟩
          have HT3 := hid_mk ((HT.out.below (below_box _ _)).below hb3)
          have g0 := (hb3.cell (p := ⟨wr.heap.size, 0, none⟩) (by go_simp)).trans (show _ = some (Value.int .u8 8) by go_simp)
          have g2 : wr.heap.size < w3.heap.size := Nat.lt_of_lt_of_le (by simp) hb3.size
          have HO := hid_mk (show bits .or .u8 (y : Int) 8 = ((y ||| 8 : Nat) : Int) from u8_or_nat y 8 HL0.out (by decide))
          clear hb3 x0 x1 x2 x3 x4 x5 k0 k1 hlb
          obtain ⟨x0, x1, x2, x3, x4, x5⟩ := HT3.out.all
          clear x1 x2 x3
          go_wp2_with fail
          go_roundw
          case rel => exact ⟨2 + 1, by omega, rfl, by rw [HE.out, ← HO.out]; exact hid_mk (HT3.out.put _)⟩
          case measure => simp [intOf]
    · -- bit 3
      have HN := hid_mk (HS.out 3)
      have HL0 := hid_mk (HL.out 3)
      generalize F 3 = y at *
      have hd : isDv ⟨k, o, g, y⟩ := ⟨HD.out.o, HD.out.g, HL0.out⟩
      have HC := hid_mk (fun (w : World) (hb : q < w.heap.size) (hc : w.cell? ⟨q, 0, none⟩ = some (.int .u8 8)) => swith1 ⟨k, o, g, y⟩ 8 q hd (by decide) w hb hc)
      unfold dvV at HC
      simp only at HC
      clear hd
      have HBITS := hid_mk HT.out.bits
      have hlb := HBITS.out.lt
      have k0 := HBITS.out.c6
      have k1 := HBITS.out.c7
      obtain ⟨x0, x1, x2, x3, x4, x5⟩ := HT.out.all
      have hm : (bits .and .u8 (x : Int) 4 != 0) = hasM x 4 := hasM_int (x := x) (m := 4) HX.out (by decide)
      cases hw : hasM x 4
      · rw [hw] at hm
        have HE : Hid (F (3 + 1) = y) := by
          refine hid_mk ?_
          rw [HN.out]
          unfold stepN setS
          rw [show maskL.getD 3 0 = 4 by decide, hw, Bool.false_and]
          rfl
        clear hw HC
        go_wp2_with fail
        go_roundw
        case rel => exact ⟨3 + 1, by omega, rfl, by rw [HE.out]; exact hid_mk (HT.out.below (below_box _ _))⟩
        case measure => simp [intOf]
      · rw [hw] at hm
        cases hy : hasM y 8
        · rw [hy] at HC
          have HE : Hid (F (3 + 1) = y) := by
            refine hid_mk ?_
            rw [HN.out]
            unfold stepN setS
            rw [show maskL.getD 3 0 = 4 by decide, hw, show mayB (acceptF k o g) 3 y = false from hy]
            rfl
          clear hw hy
          go_wp2_with fail
          refine (HC.out _ (by have := HBITS.out.lq; simp; omega) (by have := HBITS.out.lq; have := HBITS.out.q0; go_simp)).mono ?_
          rintro e w3 ⟨rfl, hb3⟩
          have HT3 := hid_mk ((HT.out.below (below_box _ _)).below hb3)
          clear hb3 x0 x1 x2 x3 x4 x5 k0 k1 hlb
          go_wp2_with fail
          go_roundw
          case rel => exact ⟨3 + 1, by omega, rfl, by rw [HE.out]; exact HT3⟩
          case measure => simp [intOf]
        · rw [hy] at HC
          have HE : Hid (F (3 + 1) = y ||| 4) := by
            refine hid_mk ?_
            rw [HN.out]
            unfold stepN setS
            rw [show maskL.getD 3 0 = 4 by decide, hw, show mayB (acceptF k o g) 3 y = true from hy]
            rfl
          clear hw hy
          go_wp2_with fail
          refine (HC.out _ (by have := HBITS.out.lq; simp; omega) (by have := HBITS.out.lq; have := HBITS.out.q0; go_simp)).mono ?_
          rintro e w3 ⟨rfl, hb3⟩
          have HT3 := hid_mk ((HT.out.below (below_box _ _)).below hb3)
          have g0 := (hb3.cell (p := ⟨wr.heap.size, 0, none⟩) (by go_simp)).trans (show _ = some (Value.int .u8 4) by go_simp)
          have g2 : wr.heap.size < w3.heap.size := Nat.lt_of_lt_of_le (by simp) hb3.size
          have HO := hid_mk (show bits .or .u8 (y : Int) 4 = ((y ||| 4 : Nat) : Int) from u8_or_nat y 4 HL0.out (by decide))
          clear hb3 x0 x1 x2 x3 x4 x5 k0 k1 hlb
          obtain ⟨x0, x1, x2, x3, x4, x5⟩ := HT3.out.all
          clear x1 x2 x3
          go_wp2_with fail
          go_roundw
          case rel => exact ⟨3 + 1, by omega, rfl, by rw [HE.out, ← HO.out]; exact hid_mk (HT3.out.put _)⟩
          case measure => simp [intOf]
    · -- bit 4
      have HN := hid_mk (HS.out 4)
      have HL0 := hid_mk (HL.out 4)
      generalize F 4 = y at *
      have hd : isDv ⟨k, o, g, y⟩ := ⟨HD.out.o, HD.out.g, HL0.out⟩
      have HC := hid_mk (fun (w : World) (hb : r < w.heap.size) (hc : w.cell? ⟨r, 0, none⟩ = some (.int .u8 4)) => swith1 ⟨k, o, g, y⟩ 4 r hd (by decide) w hb hc)
      unfold dvV at HC
      simp only at HC
      clear hd
      have HBITS := hid_mk HT.out.bits
      have hlb := HBITS.out.lt
      have k0 := HBITS.out.c8
      have k1 := HBITS.out.c9
      obtain ⟨x0, x1, x2, x3, x4, x5⟩ := HT.out.all
      have hm : (bits .and .u8 (x : Int) 64 != 0) = hasM x 64 := hasM_int (x := x) (m := 64) HX.out (by decide)
      cases hw : hasM x 64
      · rw [hw] at hm
        have HE : Hid (F (4 + 1) = y) := by
          refine hid_mk ?_
          rw [HN.out]
          unfold stepN setS
          rw [show maskL.getD 4 0 = 64 by decide, hw, Bool.false_and]
          rfl
        clear hw HC
        go_wp2_with fail
        go_roundw
        case rel => exact ⟨4 + 1, by omega, rfl, by rw [HE.out]; exact hid_mk (HT.out.below (below_box _ _))⟩
        case measure => simp [intOf]
      · rw [hw] at hm
        cases hy : hasM y 4
        · rw [hy] at HC
          have HE : Hid (F (4 + 1) = y) := by
            refine hid_mk ?_
            rw [HN.out]
            unfold stepN setS
            rw [show maskL.getD 4 0 = 64 by decide, hw, show mayB (acceptF k o g) 4 y = false from hy]
            rfl
          clear hw hy
          go_wp2_with fail
          refine (HC.out _ (by have := HBITS.out.lr; simp; omega) (by have := HBITS.out.lr; have := HBITS.out.r0; go_simp)).mono ?_
          rintro e w3 ⟨rfl, hb3⟩
          have HT3 := hid_mk ((HT.out.below (below_box _ _)).below hb3)
          clear hb3 x0 x1 x2 x3 x4 x5 k0 k1 hlb
          go_wp2_with fail
          go_roundw
          case rel => exact ⟨4 + 1, by omega, rfl, by rw [HE.out]; exact HT3⟩
          case measure => simp [intOf]
        · rw [hy] at HC
          have HE : Hid (F (4 + 1) = y ||| 64) := by
            refine hid_mk ?_
            rw [HN.out]
            unfold stepN setS
            rw [show maskL.getD 4 0 = 64 by decide, hw, show mayB (acceptF k o g) 4 y = true from hy]
            rfl
          clear hw hy
          go_wp2_with fail
          refine (HC.out _ (by have := HBITS.out.lr; simp; omega) (by have := HBITS.out.lr; have := HBITS.out.r0; go_simp)).mono ?_
          rintro e w3 ⟨rfl, hb3⟩
          have HT3 := hid_mk ((HT.out.below (below_box _ _)).below hb3)
          have g0 := (hb3.cell (p := ⟨wr.heap.size, 0, none⟩) (by go_simp)).trans (show _ = some (Value.int .u8 64) by go_simp)
          have g2 : wr.heap.size < w3.heap.size := Nat.lt_of_lt_of_le (by simp) hb3.size
          have HO := hid_mk (show bits .or .u8 (y : Int) 64 = ((y ||| 64 : Nat) : Int) from u8_or_nat y 64 HL0.out (by decide))
          clear hb3 x0 x1 x2 x3 x4 x5 k0 k1 hlb
          obtain ⟨x0, x1, x2, x3, x4, x5⟩ := HT3.out.all
          clear x1 x2 x3
          go_wp2_with fail
          go_roundw
          case rel => exact ⟨4 + 1, by omega, rfl, by rw [HE.out, ← HO.out]; exact hid_mk (HT3.out.put _)⟩
          case measure => simp [intOf]
    · -- bit 5
      have HN := hid_mk (HS.out 5)
      have HL0 := hid_mk (HL.out 5)
      generalize F 5 = y at *
      have hd : isDv ⟨k, o, g, y⟩ := ⟨HD.out.o, HD.out.g, HL0.out⟩
      have HC := hid_mk (fun w => salways ⟨k, o, g, y⟩ w)
      unfold dvV at HC
      simp only at HC
      clear hd
      have HBITS := hid_mk HT.out.bits
      have hlb := HBITS.out.lt
      have k0 := HBITS.out.c10
      have k1 := HBITS.out.c11
      obtain ⟨x0, x1, x2, x3, x4, x5⟩ := HT.out.all
      have hm : (bits .and .u8 (x : Int) 128 != 0) = hasM x 128 := hasM_int (x := x) (m := 128) HX.out (by decide)
      cases hw : hasM x 128
      · rw [hw] at hm
        have HE : Hid (F (5 + 1) = y) := by
          refine hid_mk ?_
          rw [HN.out]
          unfold stepN setS
          rw [show maskL.getD 5 0 = 128 by decide, hw, Bool.false_and]
          rfl
        clear hw HC
        go_wp2_with fail
        go_roundw
        case rel => exact ⟨5 + 1, by omega, rfl, by rw [HE.out]; exact hid_mk (HT.out.below (below_box _ _))⟩
        case measure => simp [intOf]
      · rw [hw] at hm
        have HE : Hid (F (5 + 1) = y ||| 128) := by
          refine hid_mk ?_
          rw [HN.out]
          unfold stepN setS
          rw [show maskL.getD 5 0 = 128 by decide, hw, show mayB (acceptF k o g) 5 y = true from rfl]
          rfl
        clear hw
        go_wp2_with fail
        refine (HC.out _).mono ?_
        rintro e w3 ⟨rfl, hb3⟩
        have HT3 := hid_mk ((HT.out.below (below_box _ _)).below hb3)
        have g0 := (hb3.cell (p := ⟨wr.heap.size, 0, none⟩) (by go_simp)).trans (show _ = some (Value.int .u8 128) by go_simp)
        have g2 : wr.heap.size < w3.heap.size := Nat.lt_of_lt_of_le (by simp) hb3.size
        have HO := hid_mk (show bits .or .u8 (y : Int) 128 = ((y ||| 128 : Nat) : Int) from u8_or_nat y 128 HL0.out (by decide))
        clear hb3 x0 x1 x2 x3 x4 x5 k0 k1 hlb
        obtain ⟨x0, x1, x2, x3, x4, x5⟩ := HT3.out.all
        clear x1 x2 x3
        go_wp2_with fail
        go_roundw
        case rel => exact ⟨5 + 1, by omega, rfl, by rw [HE.out, ← HO.out]; exact hid_mk (HT3.out.put _)⟩
        case measure => simp [intOf]
    · -- behind the last
      obtain ⟨x0, x1, x2, x3, x4, x5⟩ := HT.out.all
      obtain ⟨r0, q0, q1, q2, q3, r1, r2, r3, r4⟩ := res_all HT.out.res
      go_wp2_with fail
      exact bodyPost_ret (v := .agg #[.int .i64 k, .int .u64 o, .int .u64 g, .int .u8 (F 6 : Nat)]) (by simp [results, Try.results21, go_sem, q0, q1, q2, q3]) rfl ⟨rfl, ((((HT.out.hb.setCell HT.out.gr _).setCell HT.out.gr _).setCell HT.out.gr _).setCell HT.out.gr _)⟩
end Go.Proofs.Ytfiogaollejdbaa
