/- status's small functions: has, always, with, agreed, bits, offers. Conditions: as each theorem names them. -/
import Derived.Test.YtfiogaollejdbaaFc
import Derived.Test.YtfiogaollejdbaaSt1
import Derived.Test.YtfiogaollejdbaaBlk
namespace Go.Proofs.Ytfiogaollejdbaa
open Go.ChangeShapes Go.WideShapes Go.ChangeAt Go.RowKit
set_option linter.unusedVariables false
set_option maxRecDepth 100000

/-- is one of the mask's bits set? -/
def hasM (s m : Nat) : Bool := decide (s &&& m ≠ 0)
theorem hasM_bit : ∀ s : Fin 256, hasM s.val 1 = s.val.testBit 0 ∧ hasM s.val 2 = s.val.testBit 1 ∧ hasM s.val 4 = s.val.testBit 2 ∧ hasM s.val 8 = s.val.testBit 3 ∧ hasM s.val 64 = s.val.testBit 6 ∧ hasM s.val 128 = s.val.testBit 7 := by decide +kernel
theorem hasM_all {s : Nat} (h : s < 256) : hasM s 1 = s.testBit 0 ∧ hasM s 2 = s.testBit 1 ∧ hasM s 4 = s.testBit 2 ∧ hasM s 8 = s.testBit 3 ∧ hasM s 64 = s.testBit 6 ∧ hasM s 128 = s.testBit 7 := hasM_bit ⟨s, h⟩

set_option maxHeartbeats 1000000 in
theorem shas (d : Dv) (m : Nat) (h : isDv d) (hm : m < 256) (w : World) :
    Calls Try.prog 20 #[dvV d, .int .u8 m] w fun e w' => e = .returned (.bool (hasM d.s m)) ∧ Below w.heap.size w w' := by
  have HA := hid_mk (u8_and_nat d.s m h.s hm)
  have HN := hid_mk (ne_int (d.s &&& m))
  obtain ⟨k, o, g, s⟩ := d
  unfold dvV hasM
  simp only at HA HN ⊢
  generalize s &&& m = z at *
  go_enter Try.func20, Try.ntmps20
  go_wp2
  go_ret
  exact ⟨ret_eq (by rw [← HN.out, ← HA.out]; rfl), (Below.refl _ w).alloc (Nat.le_refl _) _⟩

theorem salways (d : Dv) (w : World) :
    Calls Try.prog 40 #[dvV d] w fun e w' => e = .returned (.bool true) ∧ Below w.heap.size w w' := by
  go_enter Try.func40, Try.ntmps40
  go_wp2
  go_ret
  exact ⟨rfl, below_box w _⟩

set_option maxHeartbeats 1000000 in
theorem swith (m : Nat) (w : World) :
    Calls Try.prog 41 #[.int .u8 m] w fun e w' => e = .returned (.func (.func 47) #[] #[.pointer (some ⟨w.heap.size, 0, none⟩)]) ∧ Below w.heap.size w w' ∧ w'.cell? ⟨w.heap.size, 0, none⟩ = some (.int .u8 m) ∧ w.heap.size < w'.heap.size := by
  have hmf : ∀ (fn : Fn) (first cap : Array Value) (w : World), (Instr.makeFunc fn first cap).run Try.prog w = .ok (.func fn first cap) w := fun _ _ _ _ => rfl
  go_enter Try.func41, Try.ntmps41
  go_wp2
  go_ret
  refine ⟨rfl, (Below.refl _ w).alloc (Nat.le_refl _) _, ?_, ?_⟩ <;> go_simp

set_option maxHeartbeats 1000000 in
theorem swith1 (d : Dv) (m b : Nat) (h : isDv d) (hm : m < 256) (w : World) (hb : b < w.heap.size) (hc : w.cell? ⟨b, 0, none⟩ = some (.int .u8 m)) :
    Calls Try.prog 47 #[dvV d, .pointer (some ⟨b, 0, none⟩)] w fun e w' => e = .returned (.bool (hasM d.s m)) ∧ Below w.heap.size w w' := by
  have HS := hid_mk (shas d m h hm)
  obtain ⟨k, o, g, s⟩ := d
  unfold dvV at HS ⊢
  simp only at HS ⊢
  generalize hasM s m = z at *
  go_enter Try.func47, Try.ntmps47
  go_wp2_with fail
  refine (HS.out _).mono ?_
  rintro e w1 ⟨rfl, hb1⟩
  go_wp2_with fail
  go_ret
  exact ⟨rfl, below_two (below_box w _) hb1⟩

set_option maxHeartbeats 1000000 in
theorem sagreed (d : Dv) (h : isDv d) (w : World) :
    Calls Try.prog 42 #[dvV d] w fun e w' => e = .returned (.bool (d.s.testBit 1 && accD d)) ∧ Below w.heap.size w w' := by
  have HS := hid_mk (shas d 2 h (by decide))
  rw [(hasM_all h.s).2.1] at HS
  have HA := hid_mk (faccept d.k d.o d.g h.o h.g)
  unfold accD
  obtain ⟨k, o, g, s⟩ := d
  unfold dvV at HS ⊢
  simp only at HS HA ⊢
  generalize acceptF k o g = a at *
  cases ht : s.testBit 1
  · rw [ht] at HS
    rw [Bool.false_and]
    clear ht
    go_enter Try.func42, Try.ntmps42
    go_wp2_with fail
    refine (HS.out _).mono ?_
    rintro e w1 ⟨rfl, hb1⟩
    have B1 := hid_mk (below_two (below_box w _) hb1)
    clear hb1
    go_wp2_with fail
    go_ret
    exact ⟨rfl, B1.out⟩
  · rw [ht] at HS
    rw [Bool.true_and]
    clear ht
    go_enter Try.func42, Try.ntmps42
    go_wp2_with fail
    refine (HS.out _).mono ?_
    rintro e w1 ⟨rfl, hb1⟩
    have B1 := hid_mk (below_two (below_box w _) hb1)
    have g0 := (hb1.cell (p := ⟨w.heap.size, 0, none⟩) (by go_simp)).trans (show _ = some (Value.int .i64 k) by go_simp)
    have g1 := (hb1.cell (p := ⟨w.heap.size, 1, none⟩) (by go_simp)).trans (show _ = some (Value.int .u64 o) by go_simp)
    have g2 := (hb1.cell (p := ⟨w.heap.size, 2, none⟩) (by go_simp)).trans (show _ = some (Value.int .u64 g) by go_simp)
    have g3 : w.heap.size < w1.heap.size := Nat.lt_of_lt_of_le (by simp) hb1.size
    clear hb1
    go_wp2_with fail
    refine (HA.out _).mono ?_
    rintro e w2 ⟨rfl, hb2⟩
    have B2 := hid_mk (below_two B1.out hb2)
    clear hb2 g0 g1 g2 g3
    go_wp2_with fail
    go_ret
    exact ⟨rfl, B2.out⟩

set_option maxHeartbeats 1000000 in
theorem soffers (d : Dv) (h : isDv d) (w : World) :
    Calls Try.prog 36 #[dvV d] w fun e w' => e = .returned (.bool (newB d.k d.o)) ∧ Below w.heap.size w w' := by
  have HK := hid_mk (fknown_q d.k d.o h.o)
  have HS := hid_mk (fhas_w d.o h.o 32)
  rw [show hasF d.o 32 = d.o.testBit 32 from hasF_nat (n := 32) (by decide)] at HS
  unfold newB
  obtain ⟨k, o, g, s⟩ := d
  unfold dvV
  simp only at HS HK ⊢
  generalize o.testBit 32 = t at *
  cases hk : knownF k o
  · rw [hk] at HK
    rw [Bool.false_and]
    clear hk
    go_enter Try.func36, Try.ntmps36
    go_wp2_with fail
    refine (HK.out _).mono ?_
    rintro e w1 ⟨rfl, rfl⟩
    go_wp2_with fail
    go_ret
    exact ⟨rfl, below_box w _⟩
  · rw [hk] at HK
    rw [Bool.true_and]
    clear hk
    go_enter Try.func36, Try.ntmps36
    go_wp2_with fail
    refine (HK.out _).mono ?_
    rintro e w1 ⟨rfl, rfl⟩
    go_wp2_with fail
    refine (HS.out _).mono ?_
    rintro e w1 ⟨rfl, rfl⟩
    go_wp2_with fail
    go_ret
    exact ⟨rfl, below_box w _⟩

/-- the bits of a status, in block b; their masks held in blocks p, q, r -/
structure BitsAt (w : World) (b p q r : Nat) : Prop where
  lt : b < w.heap.size
  lp : p < w.heap.size
  lq : q < w.heap.size
  lr : r < w.heap.size
  p0 : w.cell? ⟨p, 0, none⟩ = some (.int .u8 1)
  q0 : w.cell? ⟨q, 0, none⟩ = some (.int .u8 8)
  r0 : w.cell? ⟨r, 0, none⟩ = some (.int .u8 4)
  c0 : w.cell? ⟨b, 0, none⟩ = some (.int .u8 1)
  c1 : w.cell? ⟨b, 1, none⟩ = some (.func (.func 40) #[] #[])
  c2 : w.cell? ⟨b, 2, none⟩ = some (.int .u8 2)
  c3 : w.cell? ⟨b, 3, none⟩ = some (.func (.func 47) #[] #[.pointer (some ⟨p, 0, none⟩)])
  c4 : w.cell? ⟨b, 4, none⟩ = some (.int .u8 8)
  c5 : w.cell? ⟨b, 5, none⟩ = some (.func (.func 42) #[] #[])
  c6 : w.cell? ⟨b, 6, none⟩ = some (.int .u8 4)
  c7 : w.cell? ⟨b, 7, none⟩ = some (.func (.func 47) #[] #[.pointer (some ⟨q, 0, none⟩)])
  c8 : w.cell? ⟨b, 8, none⟩ = some (.int .u8 64)
  c9 : w.cell? ⟨b, 9, none⟩ = some (.func (.func 47) #[] #[.pointer (some ⟨r, 0, none⟩)])
  c10 : w.cell? ⟨b, 10, none⟩ = some (.int .u8 128)
  c11 : w.cell? ⟨b, 11, none⟩ = some (.func (.func 40) #[] #[])
theorem BitsAt.below {w w' : World} {b p q r : Nat} (h : BitsAt w b p q r) (hb : Below w.heap.size w w') : BitsAt w' b p q r := by
  have hc := fun o => hb.cell (p := ⟨b, o, none⟩) h.lt
  have hs := hb.size
  exact ⟨Nat.lt_of_lt_of_le h.lt hs, Nat.lt_of_lt_of_le h.lp hs, Nat.lt_of_lt_of_le h.lq hs, Nat.lt_of_lt_of_le h.lr hs, (hb.cell (p := ⟨p, 0, none⟩) h.lp).trans h.p0, (hb.cell (p := ⟨q, 0, none⟩) h.lq).trans h.q0, (hb.cell (p := ⟨r, 0, none⟩) h.lr).trans h.r0,
    (hc 0).trans h.c0, (hc 1).trans h.c1, (hc 2).trans h.c2, (hc 3).trans h.c3, (hc 4).trans h.c4, (hc 5).trans h.c5, (hc 6).trans h.c6, (hc 7).trans h.c7, (hc 8).trans h.c8, (hc 9).trans h.c9, (hc 10).trans h.c10, (hc 11).trans h.c11⟩

set_option maxHeartbeats 2000000 in
theorem sbits (w : World) :
    Calls Try.prog 30 #[] w fun e w' => ∃ b p q r, e = .returned (.slice (some ⟨b, 0, none⟩) 6 6) ∧ Below w.heap.size w w' ∧ BitsAt w' b p q r ∧ w.heap.size ≤ b ∧ w.heap.size ≤ p ∧ w.heap.size ≤ q ∧ w.heap.size ≤ r := by
  have H1 := hid_mk (swith 1)
  have H2 := hid_mk (swith 8)
  have H3 := hid_mk (swith 4)
  go_enter Try.func30, Try.ntmps30
  go_wp2_with fail
  refine (H1.out _).mono ?_
  rintro e w1 ⟨rfl, hb1, hc1, hl1⟩
  go_wp2_with fail
  refine (H2.out _).mono ?_
  rintro e w2 ⟨rfl, hb2, hc2, hl2⟩
  go_wp2_with fail
  refine (H3.out _).mono ?_
  rintro e w3 ⟨rfl, hb3, hc3, hl3⟩
  have B3 := hid_mk (below_two (below_two hb1 hb2) hb3)
  have p0 := (hb3.cell (p := ⟨w.heap.size, 0, none⟩) (by have := hb2.size; simp only; omega)).trans ((hb2.cell (p := ⟨w.heap.size, 0, none⟩) (by simpa using hl1)).trans hc1)
  have q0 := (hb3.cell (p := ⟨w1.heap.size, 0, none⟩) (by simpa using hl2)).trans hc2
  have lp : w.heap.size < w3.heap.size := by have := hb2.size; have := hb3.size; omega
  have lq : w1.heap.size < w3.heap.size := by have := hb3.size; omega
  have lwp : w.heap.size ≤ w1.heap.size := hb1.size
  have lwq : w.heap.size ≤ w2.heap.size := by have := hb2.size; omega
  have lw3 : w.heap.size ≤ w3.heap.size := by omega
  clear hb1 hb2 hb3 hc1 hc2 hl1 hl2
  generalize hpp : w.heap.size = pp at *
  generalize w1.heap.size = qq at *
  generalize w2.heap.size = rr at *
  go_wp2_with fail
  go_ret
  refine ⟨w3.heap.size, pp, qq, rr, rfl, (by rw [hpp]; exact B3.out.alloc (by omega) _), ?_, by omega, by omega, by omega, by omega⟩
  refine ⟨?_, ?_, ?_, ?_, ?_, ?_, ?_, ?_, ?_, ?_, ?_, ?_, ?_, ?_, ?_, ?_, ?_, ?_, ?_⟩ <;> first | go_simp | (simp; omega)
end Go.Proofs.Ytfiogaollejdbaa
