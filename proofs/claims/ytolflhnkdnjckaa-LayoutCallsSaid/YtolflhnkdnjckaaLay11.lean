/- Contract of the reference's Where of layer 4: what it returns, and that old memory stays. Conditions: as each theorem names them. Written by mklay11.py. -/
import Derived.Test.YtolflhnkdnjckaaLay6
namespace Go.Proofs.Ytolflhnkdnjckaa
open Go.ChangeShapes Go.WideShapes Go.ChangeAt Go.RowKit
set_option linter.unusedVariables false
set_option maxRecDepth 100000

/-- the reference's address, bytes and error, where the rings are valid and there is such an index -/
def rwP (pk : Bool) (n d g c x i : Int) : Int × Int × Int :=
  if x = 1 then (IntKind.u64.wrap (d + IntKind.u64.wrap (16 * IntKind.u64.wrap (i))), 16, 0) else
  if pk then (if x = 10 then (g, 4, 0) else if x = 11 then (c, 4, 0) else (0, 0, 2))
  else if x = 2 then (g, 2, 0) else if x = 3 then (IntKind.u64.wrap (g + 2), 2, 0) else if x = 4 then (IntKind.u64.wrap (IntKind.u64.wrap (g + 4) + IntKind.u64.wrap (2 * IntKind.u64.wrap (i))), 2, 0) else if x = 5 then (IntKind.u64.wrap (IntKind.u64.wrap (g + 4) + IntKind.u64.wrap (2 * IntKind.u64.wrap (n))), 2, 0)
  else if x = 6 then (c, 2, 0) else if x = 7 then (IntKind.u64.wrap (c + 2), 2, 0) else if x = 8 then (IntKind.u64.wrap (IntKind.u64.wrap (c + 4) + IntKind.u64.wrap (8 * IntKind.u64.wrap (i))), 8, 0) else if x = 9 then (IntKind.u64.wrap (IntKind.u64.wrap (c + 4) + IntKind.u64.wrap (8 * IntKind.u64.wrap (n))), 2, 0) else (0, 0, 2)

set_option maxHeartbeats 2000000 in
theorem rwhere_bad_1a (pk : Bool) (n d g c i ck : Int) (w : World) (h : (ck != 0) = true)
    (HC : ∀ w, Calls Try.prog 18 #[rV pk n d g c] w fun e w' => e = .returned (.int .i64 ck) ∧ Below w.heap.size w w') :
    Calls Try.prog 20 #[rV pk n d g c, .int .i64 1, .int .i64 i] w fun e w' => e = .returned (.tuple #[.int .u64 0, .int .i64 0, .int .i64 2]) ∧ Below w.heap.size w w' := by
  have HC' := hid_mk HC
  clear HC
  go_enter Try.func20, Try.ntmps20
  go_wp2_with fail
  refine (HC'.out _).mono ?_
  rintro e w1 ⟨rfl, hb1⟩
  have B1 := hid_mk (below_new (Below.refl _ _) hb1)
  have C1 := bcell hb1
  have q1 : w.heap.size < w1.heap.size := by
    have := hb1.size
    simp at this
    omega
  clear hb1
  go_wp2_with fail
  go_ret3
  exact ⟨rfl, B1.out⟩

set_option maxHeartbeats 2000000 in
theorem rwhere_bad_1b (pk : Bool) (n d g c i ck : Int) (w : World) (h : (ck != 0) = false) (hi : i < 0)
    (HC : ∀ w, Calls Try.prog 18 #[rV pk n d g c] w fun e w' => e = .returned (.int .i64 ck) ∧ Below w.heap.size w w') :
    Calls Try.prog 20 #[rV pk n d g c, .int .i64 1, .int .i64 i] w fun e w' => e = .returned (.tuple #[.int .u64 0, .int .i64 0, .int .i64 2]) ∧ Below w.heap.size w w' := by
  have HC' := hid_mk HC
  clear HC
  go_enter Try.func20, Try.ntmps20
  go_wp2_with fail
  refine (HC'.out _).mono ?_
  rintro e w1 ⟨rfl, hb1⟩
  have B1 := hid_mk (below_new (Below.refl _ _) hb1)
  have C1 := bcell hb1
  have q1 : w.heap.size < w1.heap.size := by
    have := hb1.size
    simp at this
    omega
  clear hb1
  go_wp2_with fail
  go_ret3
  exact ⟨rfl, B1.out⟩

set_option maxHeartbeats 2000000 in
theorem rwhere_bad_1c (pk : Bool) (n d g c i ck : Int) (w : World) (h : (ck != 0) = false) (hi : 0 ≤ i) (hn : n ≤ i)
    (HC : ∀ w, Calls Try.prog 18 #[rV pk n d g c] w fun e w' => e = .returned (.int .i64 ck) ∧ Below w.heap.size w w') :
    Calls Try.prog 20 #[rV pk n d g c, .int .i64 1, .int .i64 i] w fun e w' => e = .returned (.tuple #[.int .u64 0, .int .i64 0, .int .i64 2]) ∧ Below w.heap.size w w' := by
  have HC' := hid_mk HC
  clear HC
  go_enter Try.func20, Try.ntmps20
  go_wp2_with fail
  refine (HC'.out _).mono ?_
  rintro e w1 ⟨rfl, hb1⟩
  have B1 := hid_mk (below_new (Below.refl _ _) hb1)
  have C1 := bcell hb1
  have q1 : w.heap.size < w1.heap.size := by
    have := hb1.size
    simp at this
    omega
  clear hb1
  go_wp2_with fail
  go_ret3
  exact ⟨rfl, B1.out⟩

set_option maxHeartbeats 2000000 in
theorem rwhere_bad_4a (pk : Bool) (n d g c i ck : Int) (w : World) (h : (ck != 0) = true)
    (HC : ∀ w, Calls Try.prog 18 #[rV pk n d g c] w fun e w' => e = .returned (.int .i64 ck) ∧ Below w.heap.size w w') :
    Calls Try.prog 20 #[rV pk n d g c, .int .i64 4, .int .i64 i] w fun e w' => e = .returned (.tuple #[.int .u64 0, .int .i64 0, .int .i64 2]) ∧ Below w.heap.size w w' := by
  have HC' := hid_mk HC
  clear HC
  go_enter Try.func20, Try.ntmps20
  go_wp2_with fail
  refine (HC'.out _).mono ?_
  rintro e w1 ⟨rfl, hb1⟩
  have B1 := hid_mk (below_new (Below.refl _ _) hb1)
  have C1 := bcell hb1
  have q1 : w.heap.size < w1.heap.size := by
    have := hb1.size
    simp at this
    omega
  clear hb1
  go_wp2_with fail
  go_ret3
  exact ⟨rfl, B1.out⟩

set_option maxHeartbeats 2000000 in
theorem rwhere_bad_4b (pk : Bool) (n d g c i ck : Int) (w : World) (h : (ck != 0) = false) (hi : i < 0)
    (HC : ∀ w, Calls Try.prog 18 #[rV pk n d g c] w fun e w' => e = .returned (.int .i64 ck) ∧ Below w.heap.size w w') :
    Calls Try.prog 20 #[rV pk n d g c, .int .i64 4, .int .i64 i] w fun e w' => e = .returned (.tuple #[.int .u64 0, .int .i64 0, .int .i64 2]) ∧ Below w.heap.size w w' := by
  have HC' := hid_mk HC
  clear HC
  go_enter Try.func20, Try.ntmps20
  go_wp2_with fail
  refine (HC'.out _).mono ?_
  rintro e w1 ⟨rfl, hb1⟩
  have B1 := hid_mk (below_new (Below.refl _ _) hb1)
  have C1 := bcell hb1
  have q1 : w.heap.size < w1.heap.size := by
    have := hb1.size
    simp at this
    omega
  clear hb1
  go_wp2_with fail
  go_ret3
  exact ⟨rfl, B1.out⟩

set_option maxHeartbeats 2000000 in
theorem rwhere_bad_4c (pk : Bool) (n d g c i ck : Int) (w : World) (h : (ck != 0) = false) (hi : 0 ≤ i) (hn : n ≤ i)
    (HC : ∀ w, Calls Try.prog 18 #[rV pk n d g c] w fun e w' => e = .returned (.int .i64 ck) ∧ Below w.heap.size w w') :
    Calls Try.prog 20 #[rV pk n d g c, .int .i64 4, .int .i64 i] w fun e w' => e = .returned (.tuple #[.int .u64 0, .int .i64 0, .int .i64 2]) ∧ Below w.heap.size w w' := by
  have HC' := hid_mk HC
  clear HC
  go_enter Try.func20, Try.ntmps20
  go_wp2_with fail
  refine (HC'.out _).mono ?_
  rintro e w1 ⟨rfl, hb1⟩
  have B1 := hid_mk (below_new (Below.refl _ _) hb1)
  have C1 := bcell hb1
  have q1 : w.heap.size < w1.heap.size := by
    have := hb1.size
    simp at this
    omega
  clear hb1
  go_wp2_with fail
  go_ret3
  exact ⟨rfl, B1.out⟩

set_option maxHeartbeats 2000000 in
theorem rwhere_bad_8a (pk : Bool) (n d g c i ck : Int) (w : World) (h : (ck != 0) = true)
    (HC : ∀ w, Calls Try.prog 18 #[rV pk n d g c] w fun e w' => e = .returned (.int .i64 ck) ∧ Below w.heap.size w w') :
    Calls Try.prog 20 #[rV pk n d g c, .int .i64 8, .int .i64 i] w fun e w' => e = .returned (.tuple #[.int .u64 0, .int .i64 0, .int .i64 2]) ∧ Below w.heap.size w w' := by
  have HC' := hid_mk HC
  clear HC
  go_enter Try.func20, Try.ntmps20
  go_wp2_with fail
  refine (HC'.out _).mono ?_
  rintro e w1 ⟨rfl, hb1⟩
  have B1 := hid_mk (below_new (Below.refl _ _) hb1)
  have C1 := bcell hb1
  have q1 : w.heap.size < w1.heap.size := by
    have := hb1.size
    simp at this
    omega
  clear hb1
  go_wp2_with fail
  go_ret3
  exact ⟨rfl, B1.out⟩

set_option maxHeartbeats 2000000 in
theorem rwhere_bad_8b (pk : Bool) (n d g c i ck : Int) (w : World) (h : (ck != 0) = false) (hi : i < 0)
    (HC : ∀ w, Calls Try.prog 18 #[rV pk n d g c] w fun e w' => e = .returned (.int .i64 ck) ∧ Below w.heap.size w w') :
    Calls Try.prog 20 #[rV pk n d g c, .int .i64 8, .int .i64 i] w fun e w' => e = .returned (.tuple #[.int .u64 0, .int .i64 0, .int .i64 2]) ∧ Below w.heap.size w w' := by
  have HC' := hid_mk HC
  clear HC
  go_enter Try.func20, Try.ntmps20
  go_wp2_with fail
  refine (HC'.out _).mono ?_
  rintro e w1 ⟨rfl, hb1⟩
  have B1 := hid_mk (below_new (Below.refl _ _) hb1)
  have C1 := bcell hb1
  have q1 : w.heap.size < w1.heap.size := by
    have := hb1.size
    simp at this
    omega
  clear hb1
  go_wp2_with fail
  go_ret3
  exact ⟨rfl, B1.out⟩

set_option maxHeartbeats 2000000 in
theorem rwhere_bad_8c (pk : Bool) (n d g c i ck : Int) (w : World) (h : (ck != 0) = false) (hi : 0 ≤ i) (hn : n ≤ i)
    (HC : ∀ w, Calls Try.prog 18 #[rV pk n d g c] w fun e w' => e = .returned (.int .i64 ck) ∧ Below w.heap.size w w') :
    Calls Try.prog 20 #[rV pk n d g c, .int .i64 8, .int .i64 i] w fun e w' => e = .returned (.tuple #[.int .u64 0, .int .i64 0, .int .i64 2]) ∧ Below w.heap.size w w' := by
  have HC' := hid_mk HC
  clear HC
  go_enter Try.func20, Try.ntmps20
  go_wp2_with fail
  refine (HC'.out _).mono ?_
  rintro e w1 ⟨rfl, hb1⟩
  have B1 := hid_mk (below_new (Below.refl _ _) hb1)
  have C1 := bcell hb1
  have q1 : w.heap.size < w1.heap.size := by
    have := hb1.size
    simp at this
    omega
  clear hb1
  go_wp2_with fail
  go_ret3
  exact ⟨rfl, B1.out⟩

set_option maxHeartbeats 2000000 in
theorem rwhere_bad_oa (pk : Bool) (n d g c x i ck : Int) (w : World) (x1 : ¬ x = 1) (x4 : ¬ x = 4) (x8 : ¬ x = 8) (h : (ck != 0) = true)
    (HC : ∀ w, Calls Try.prog 18 #[rV pk n d g c] w fun e w' => e = .returned (.int .i64 ck) ∧ Below w.heap.size w w') :
    Calls Try.prog 20 #[rV pk n d g c, .int .i64 x, .int .i64 i] w fun e w' => e = .returned (.tuple #[.int .u64 0, .int .i64 0, .int .i64 2]) ∧ Below w.heap.size w w' := by
  have HC' := hid_mk HC
  clear HC
  go_enter Try.func20, Try.ntmps20
  go_wp2_with fail
  refine (HC'.out _).mono ?_
  rintro e w1 ⟨rfl, hb1⟩
  have B1 := hid_mk (below_new (Below.refl _ _) hb1)
  have C1 := bcell hb1
  have q1 : w.heap.size < w1.heap.size := by
    have := hb1.size
    simp at this
    omega
  clear hb1
  go_wp2_with fail
  go_ret3
  exact ⟨rfl, B1.out⟩

set_option maxHeartbeats 2000000 in
theorem rwhere_bad_ob (pk : Bool) (n d g c x i ck : Int) (w : World) (x1 : ¬ x = 1) (x4 : ¬ x = 4) (x8 : ¬ x = 8) (h : (ck != 0) = false) (hi : i < 0)
    (HC : ∀ w, Calls Try.prog 18 #[rV pk n d g c] w fun e w' => e = .returned (.int .i64 ck) ∧ Below w.heap.size w w') :
    Calls Try.prog 20 #[rV pk n d g c, .int .i64 x, .int .i64 i] w fun e w' => e = .returned (.tuple #[.int .u64 0, .int .i64 0, .int .i64 2]) ∧ Below w.heap.size w w' := by
  have HC' := hid_mk HC
  clear HC
  go_enter Try.func20, Try.ntmps20
  go_wp2_with fail
  refine (HC'.out _).mono ?_
  rintro e w1 ⟨rfl, hb1⟩
  have B1 := hid_mk (below_new (Below.refl _ _) hb1)
  have C1 := bcell hb1
  have q1 : w.heap.size < w1.heap.size := by
    have := hb1.size
    simp at this
    omega
  clear hb1
  go_wp2_with fail
  go_ret3
  exact ⟨rfl, B1.out⟩

set_option maxHeartbeats 2000000 in
theorem rwhere_bad_oc (pk : Bool) (n d g c x i ck : Int) (w : World) (x1 : ¬ x = 1) (x4 : ¬ x = 4) (x8 : ¬ x = 8) (h : (ck != 0) = false) (hi : 0 ≤ i) (hn : n ≤ i)
    (HC : ∀ w, Calls Try.prog 18 #[rV pk n d g c] w fun e w' => e = .returned (.int .i64 ck) ∧ Below w.heap.size w w') :
    Calls Try.prog 20 #[rV pk n d g c, .int .i64 x, .int .i64 i] w fun e w' => e = .returned (.tuple #[.int .u64 0, .int .i64 0, .int .i64 2]) ∧ Below w.heap.size w w' := by
  have HC' := hid_mk HC
  clear HC
  go_enter Try.func20, Try.ntmps20
  go_wp2_with fail
  refine (HC'.out _).mono ?_
  rintro e w1 ⟨rfl, hb1⟩
  have B1 := hid_mk (below_new (Below.refl _ _) hb1)
  have C1 := bcell hb1
  have q1 : w.heap.size < w1.heap.size := by
    have := hb1.size
    simp at this
    omega
  clear hb1
  go_wp2_with fail
  go_ret3
  exact ⟨rfl, B1.out⟩

set_option maxHeartbeats 2000000 in
theorem rwhere_bad_od (pk : Bool) (n d g c x i ck : Int) (w : World) (x1 : ¬ x = 1) (x4 : ¬ x = 4) (x8 : ¬ x = 8) (h : (ck != 0) = false) (hi : 0 ≤ i) (hn : i < n) (hz : ¬ i = 0)
    (HC : ∀ w, Calls Try.prog 18 #[rV pk n d g c] w fun e w' => e = .returned (.int .i64 ck) ∧ Below w.heap.size w w') :
    Calls Try.prog 20 #[rV pk n d g c, .int .i64 x, .int .i64 i] w fun e w' => e = .returned (.tuple #[.int .u64 0, .int .i64 0, .int .i64 2]) ∧ Below w.heap.size w w' := by
  have hz2 : (i != 0) = true := by simp [hz]
  have g1 : (x == 1) = false := by simp [x1]
  have g4 : (x == 4) = false := by simp [x4]
  have g8 : (x == 8) = false := by simp [x8]
  have HC' := hid_mk HC
  clear HC
  go_enter Try.func20, Try.ntmps20
  go_wp2_with fail
  refine (HC'.out _).mono ?_
  rintro e w1 ⟨rfl, hb1⟩
  have B1 := hid_mk (below_new (Below.refl _ _) hb1)
  have C1 := bcell hb1
  have q1 : w.heap.size < w1.heap.size := by
    have := hb1.size
    simp at this
    omega
  clear hb1
  go_wp2_with fail
  go_ret3
  exact ⟨rfl, B1.out⟩

set_option maxHeartbeats 2000000 in
theorem rwhere_false_1 (n d g c i : Int) (w : World) (hi : 0 ≤ i) (hn : i < n)
    (HC : ∀ w, Calls Try.prog 18 #[rV false n d g c] w fun e w' => e = .returned (.int .i64 0) ∧ Below w.heap.size w w') :
    Calls Try.prog 20 #[rV false n d g c, .int .i64 1, .int .i64 i] w fun e w' => e = .returned (el3 (rwP false n d g c 1 i)) ∧ Below w.heap.size w w' := by

  have HC' := hid_mk HC
  clear HC
  go_enter Try.func20, Try.ntmps20
  go_wp2_with fail
  refine (HC'.out _).mono ?_
  rintro e w1 ⟨rfl, hb1⟩
  have B1 := hid_mk (below_new (Below.refl _ _) hb1)
  have C1 := bcell hb1
  have q1 : w.heap.size < w1.heap.size := by
    have := hb1.size
    simp at this
    omega
  clear hb1
  go_wp2_with fail
  go_ret3
  exact ⟨ret_eq (by simp [rwP]), B1.out⟩

set_option maxHeartbeats 2000000 in
theorem rwhere_false_2 (n d g c : Int) (w : World) (hn : 0 < n)
    (HC : ∀ w, Calls Try.prog 18 #[rV false n d g c] w fun e w' => e = .returned (.int .i64 0) ∧ Below w.heap.size w w') :
    Calls Try.prog 20 #[rV false n d g c, .int .i64 2, .int .i64 0] w fun e w' => e = .returned (el3 (rwP false n d g c 2 0)) ∧ Below w.heap.size w w' := by

  have HC' := hid_mk HC
  clear HC
  go_enter Try.func20, Try.ntmps20
  go_wp2_with fail
  refine (HC'.out _).mono ?_
  rintro e w1 ⟨rfl, hb1⟩
  have B1 := hid_mk (below_new (Below.refl _ _) hb1)
  have C1 := bcell hb1
  have q1 : w.heap.size < w1.heap.size := by
    have := hb1.size
    simp at this
    omega
  clear hb1
  go_wp2_with fail
  go_ret3
  exact ⟨ret_eq (by simp [rwP]), B1.out⟩

set_option maxHeartbeats 2000000 in
theorem rwhere_false_3 (n d g c : Int) (w : World) (hn : 0 < n)
    (HC : ∀ w, Calls Try.prog 18 #[rV false n d g c] w fun e w' => e = .returned (.int .i64 0) ∧ Below w.heap.size w w') :
    Calls Try.prog 20 #[rV false n d g c, .int .i64 3, .int .i64 0] w fun e w' => e = .returned (el3 (rwP false n d g c 3 0)) ∧ Below w.heap.size w w' := by

  have HC' := hid_mk HC
  clear HC
  go_enter Try.func20, Try.ntmps20
  go_wp2_with fail
  refine (HC'.out _).mono ?_
  rintro e w1 ⟨rfl, hb1⟩
  have B1 := hid_mk (below_new (Below.refl _ _) hb1)
  have C1 := bcell hb1
  have q1 : w.heap.size < w1.heap.size := by
    have := hb1.size
    simp at this
    omega
  clear hb1
  go_wp2_with fail
  go_ret3
  exact ⟨ret_eq (by simp [rwP]), B1.out⟩

set_option maxHeartbeats 2000000 in
theorem rwhere_false_4 (n d g c i : Int) (w : World) (hi : 0 ≤ i) (hn : i < n)
    (HC : ∀ w, Calls Try.prog 18 #[rV false n d g c] w fun e w' => e = .returned (.int .i64 0) ∧ Below w.heap.size w w') :
    Calls Try.prog 20 #[rV false n d g c, .int .i64 4, .int .i64 i] w fun e w' => e = .returned (el3 (rwP false n d g c 4 i)) ∧ Below w.heap.size w w' := by

  have HC' := hid_mk HC
  clear HC
  go_enter Try.func20, Try.ntmps20
  go_wp2_with fail
  refine (HC'.out _).mono ?_
  rintro e w1 ⟨rfl, hb1⟩
  have B1 := hid_mk (below_new (Below.refl _ _) hb1)
  have C1 := bcell hb1
  have q1 : w.heap.size < w1.heap.size := by
    have := hb1.size
    simp at this
    omega
  clear hb1
  go_wp2_with fail
  go_ret3
  exact ⟨ret_eq (by simp [rwP]), B1.out⟩

set_option maxHeartbeats 2000000 in
theorem rwhere_false_5 (n d g c : Int) (w : World) (hn : 0 < n)
    (HC : ∀ w, Calls Try.prog 18 #[rV false n d g c] w fun e w' => e = .returned (.int .i64 0) ∧ Below w.heap.size w w') :
    Calls Try.prog 20 #[rV false n d g c, .int .i64 5, .int .i64 0] w fun e w' => e = .returned (el3 (rwP false n d g c 5 0)) ∧ Below w.heap.size w w' := by

  have HC' := hid_mk HC
  clear HC
  go_enter Try.func20, Try.ntmps20
  go_wp2_with fail
  refine (HC'.out _).mono ?_
  rintro e w1 ⟨rfl, hb1⟩
  have B1 := hid_mk (below_new (Below.refl _ _) hb1)
  have C1 := bcell hb1
  have q1 : w.heap.size < w1.heap.size := by
    have := hb1.size
    simp at this
    omega
  clear hb1
  go_wp2_with fail
  go_ret3
  exact ⟨ret_eq (by simp [rwP]), B1.out⟩

set_option maxHeartbeats 2000000 in
theorem rwhere_false_6 (n d g c : Int) (w : World) (hn : 0 < n)
    (HC : ∀ w, Calls Try.prog 18 #[rV false n d g c] w fun e w' => e = .returned (.int .i64 0) ∧ Below w.heap.size w w') :
    Calls Try.prog 20 #[rV false n d g c, .int .i64 6, .int .i64 0] w fun e w' => e = .returned (el3 (rwP false n d g c 6 0)) ∧ Below w.heap.size w w' := by

  have HC' := hid_mk HC
  clear HC
  go_enter Try.func20, Try.ntmps20
  go_wp2_with fail
  refine (HC'.out _).mono ?_
  rintro e w1 ⟨rfl, hb1⟩
  have B1 := hid_mk (below_new (Below.refl _ _) hb1)
  have C1 := bcell hb1
  have q1 : w.heap.size < w1.heap.size := by
    have := hb1.size
    simp at this
    omega
  clear hb1
  go_wp2_with fail
  go_ret3
  exact ⟨ret_eq (by simp [rwP]), B1.out⟩

set_option maxHeartbeats 2000000 in
theorem rwhere_false_7 (n d g c : Int) (w : World) (hn : 0 < n)
    (HC : ∀ w, Calls Try.prog 18 #[rV false n d g c] w fun e w' => e = .returned (.int .i64 0) ∧ Below w.heap.size w w') :
    Calls Try.prog 20 #[rV false n d g c, .int .i64 7, .int .i64 0] w fun e w' => e = .returned (el3 (rwP false n d g c 7 0)) ∧ Below w.heap.size w w' := by

  have HC' := hid_mk HC
  clear HC
  go_enter Try.func20, Try.ntmps20
  go_wp2_with fail
  refine (HC'.out _).mono ?_
  rintro e w1 ⟨rfl, hb1⟩
  have B1 := hid_mk (below_new (Below.refl _ _) hb1)
  have C1 := bcell hb1
  have q1 : w.heap.size < w1.heap.size := by
    have := hb1.size
    simp at this
    omega
  clear hb1
  go_wp2_with fail
  go_ret3
  exact ⟨ret_eq (by simp [rwP]), B1.out⟩

set_option maxHeartbeats 2000000 in
theorem rwhere_false_8 (n d g c i : Int) (w : World) (hi : 0 ≤ i) (hn : i < n)
    (HC : ∀ w, Calls Try.prog 18 #[rV false n d g c] w fun e w' => e = .returned (.int .i64 0) ∧ Below w.heap.size w w') :
    Calls Try.prog 20 #[rV false n d g c, .int .i64 8, .int .i64 i] w fun e w' => e = .returned (el3 (rwP false n d g c 8 i)) ∧ Below w.heap.size w w' := by

  have HC' := hid_mk HC
  clear HC
  go_enter Try.func20, Try.ntmps20
  go_wp2_with fail
  refine (HC'.out _).mono ?_
  rintro e w1 ⟨rfl, hb1⟩
  have B1 := hid_mk (below_new (Below.refl _ _) hb1)
  have C1 := bcell hb1
  have q1 : w.heap.size < w1.heap.size := by
    have := hb1.size
    simp at this
    omega
  clear hb1
  go_wp2_with fail
  go_ret3
  exact ⟨ret_eq (by simp [rwP]), B1.out⟩

set_option maxHeartbeats 2000000 in
theorem rwhere_false_9 (n d g c : Int) (w : World) (hn : 0 < n)
    (HC : ∀ w, Calls Try.prog 18 #[rV false n d g c] w fun e w' => e = .returned (.int .i64 0) ∧ Below w.heap.size w w') :
    Calls Try.prog 20 #[rV false n d g c, .int .i64 9, .int .i64 0] w fun e w' => e = .returned (el3 (rwP false n d g c 9 0)) ∧ Below w.heap.size w w' := by

  have HC' := hid_mk HC
  clear HC
  go_enter Try.func20, Try.ntmps20
  go_wp2_with fail
  refine (HC'.out _).mono ?_
  rintro e w1 ⟨rfl, hb1⟩
  have B1 := hid_mk (below_new (Below.refl _ _) hb1)
  have C1 := bcell hb1
  have q1 : w.heap.size < w1.heap.size := by
    have := hb1.size
    simp at this
    omega
  clear hb1
  go_wp2_with fail
  go_ret3
  exact ⟨ret_eq (by simp [rwP]), B1.out⟩

set_option maxHeartbeats 2000000 in
theorem rwhere_false_10 (n d g c : Int) (w : World) (hn : 0 < n)
    (HC : ∀ w, Calls Try.prog 18 #[rV false n d g c] w fun e w' => e = .returned (.int .i64 0) ∧ Below w.heap.size w w') :
    Calls Try.prog 20 #[rV false n d g c, .int .i64 10, .int .i64 0] w fun e w' => e = .returned (el3 (rwP false n d g c 10 0)) ∧ Below w.heap.size w w' := by

  have HC' := hid_mk HC
  clear HC
  go_enter Try.func20, Try.ntmps20
  go_wp2_with fail
  refine (HC'.out _).mono ?_
  rintro e w1 ⟨rfl, hb1⟩
  have B1 := hid_mk (below_new (Below.refl _ _) hb1)
  have C1 := bcell hb1
  have q1 : w.heap.size < w1.heap.size := by
    have := hb1.size
    simp at this
    omega
  clear hb1
  go_wp2_with fail
  go_ret3
  exact ⟨ret_eq (by simp [rwP]), B1.out⟩

set_option maxHeartbeats 2000000 in
theorem rwhere_false_11 (n d g c : Int) (w : World) (hn : 0 < n)
    (HC : ∀ w, Calls Try.prog 18 #[rV false n d g c] w fun e w' => e = .returned (.int .i64 0) ∧ Below w.heap.size w w') :
    Calls Try.prog 20 #[rV false n d g c, .int .i64 11, .int .i64 0] w fun e w' => e = .returned (el3 (rwP false n d g c 11 0)) ∧ Below w.heap.size w w' := by

  have HC' := hid_mk HC
  clear HC
  go_enter Try.func20, Try.ntmps20
  go_wp2_with fail
  refine (HC'.out _).mono ?_
  rintro e w1 ⟨rfl, hb1⟩
  have B1 := hid_mk (below_new (Below.refl _ _) hb1)
  have C1 := bcell hb1
  have q1 : w.heap.size < w1.heap.size := by
    have := hb1.size
    simp at this
    omega
  clear hb1
  go_wp2_with fail
  go_ret3
  exact ⟨ret_eq (by simp [rwP]), B1.out⟩

set_option maxHeartbeats 2000000 in
theorem rwhere_false_no (n d g c x : Int) (w : World) (x1 : ¬ x = 1) (x2 : ¬ x = 2) (x3 : ¬ x = 3) (x4 : ¬ x = 4) (x5 : ¬ x = 5) (x6 : ¬ x = 6) (x7 : ¬ x = 7) (x8 : ¬ x = 8) (x9 : ¬ x = 9) (x10 : ¬ x = 10) (x11 : ¬ x = 11) (hn : 0 < n)
    (HC : ∀ w, Calls Try.prog 18 #[rV false n d g c] w fun e w' => e = .returned (.int .i64 0) ∧ Below w.heap.size w w') :
    Calls Try.prog 20 #[rV false n d g c, .int .i64 x, .int .i64 0] w fun e w' => e = .returned (el3 (rwP false n d g c x 0)) ∧ Below w.heap.size w w' := by
  have e0 : rwP false n d g c x 0 = (0, 0, 2) := by simp [rwP, *]
  rw [e0]
  clear e0
  have HC' := hid_mk HC
  clear HC
  go_enter Try.func20, Try.ntmps20
  go_wp2_with fail
  refine (HC'.out _).mono ?_
  rintro e w1 ⟨rfl, hb1⟩
  have B1 := hid_mk (below_new (Below.refl _ _) hb1)
  have C1 := bcell hb1
  have q1 : w.heap.size < w1.heap.size := by
    have := hb1.size
    simp at this
    omega
  clear hb1
  go_wp2_with fail
  go_ret3
  exact ⟨rfl, B1.out⟩

set_option maxHeartbeats 2000000 in
theorem rwhere_true_1 (n d g c i : Int) (w : World) (hi : 0 ≤ i) (hn : i < n)
    (HC : ∀ w, Calls Try.prog 18 #[rV true n d g c] w fun e w' => e = .returned (.int .i64 0) ∧ Below w.heap.size w w') :
    Calls Try.prog 20 #[rV true n d g c, .int .i64 1, .int .i64 i] w fun e w' => e = .returned (el3 (rwP true n d g c 1 i)) ∧ Below w.heap.size w w' := by

  have HC' := hid_mk HC
  clear HC
  go_enter Try.func20, Try.ntmps20
  go_wp2_with fail
  refine (HC'.out _).mono ?_
  rintro e w1 ⟨rfl, hb1⟩
  have B1 := hid_mk (below_new (Below.refl _ _) hb1)
  have C1 := bcell hb1
  have q1 : w.heap.size < w1.heap.size := by
    have := hb1.size
    simp at this
    omega
  clear hb1
  go_wp2_with fail
  go_ret3
  exact ⟨ret_eq (by simp [rwP]), B1.out⟩

set_option maxHeartbeats 2000000 in
theorem rwhere_true_2 (n d g c : Int) (w : World) (hn : 0 < n)
    (HC : ∀ w, Calls Try.prog 18 #[rV true n d g c] w fun e w' => e = .returned (.int .i64 0) ∧ Below w.heap.size w w') :
    Calls Try.prog 20 #[rV true n d g c, .int .i64 2, .int .i64 0] w fun e w' => e = .returned (el3 (rwP true n d g c 2 0)) ∧ Below w.heap.size w w' := by

  have HC' := hid_mk HC
  clear HC
  go_enter Try.func20, Try.ntmps20
  go_wp2_with fail
  refine (HC'.out _).mono ?_
  rintro e w1 ⟨rfl, hb1⟩
  have B1 := hid_mk (below_new (Below.refl _ _) hb1)
  have C1 := bcell hb1
  have q1 : w.heap.size < w1.heap.size := by
    have := hb1.size
    simp at this
    omega
  clear hb1
  go_wp2_with fail
  go_ret3
  exact ⟨ret_eq (by simp [rwP]), B1.out⟩

set_option maxHeartbeats 2000000 in
theorem rwhere_true_3 (n d g c : Int) (w : World) (hn : 0 < n)
    (HC : ∀ w, Calls Try.prog 18 #[rV true n d g c] w fun e w' => e = .returned (.int .i64 0) ∧ Below w.heap.size w w') :
    Calls Try.prog 20 #[rV true n d g c, .int .i64 3, .int .i64 0] w fun e w' => e = .returned (el3 (rwP true n d g c 3 0)) ∧ Below w.heap.size w w' := by

  have HC' := hid_mk HC
  clear HC
  go_enter Try.func20, Try.ntmps20
  go_wp2_with fail
  refine (HC'.out _).mono ?_
  rintro e w1 ⟨rfl, hb1⟩
  have B1 := hid_mk (below_new (Below.refl _ _) hb1)
  have C1 := bcell hb1
  have q1 : w.heap.size < w1.heap.size := by
    have := hb1.size
    simp at this
    omega
  clear hb1
  go_wp2_with fail
  go_ret3
  exact ⟨ret_eq (by simp [rwP]), B1.out⟩

set_option maxHeartbeats 2000000 in
theorem rwhere_true_4 (n d g c i : Int) (w : World) (hi : 0 ≤ i) (hn : i < n)
    (HC : ∀ w, Calls Try.prog 18 #[rV true n d g c] w fun e w' => e = .returned (.int .i64 0) ∧ Below w.heap.size w w') :
    Calls Try.prog 20 #[rV true n d g c, .int .i64 4, .int .i64 i] w fun e w' => e = .returned (el3 (rwP true n d g c 4 i)) ∧ Below w.heap.size w w' := by

  have HC' := hid_mk HC
  clear HC
  go_enter Try.func20, Try.ntmps20
  go_wp2_with fail
  refine (HC'.out _).mono ?_
  rintro e w1 ⟨rfl, hb1⟩
  have B1 := hid_mk (below_new (Below.refl _ _) hb1)
  have C1 := bcell hb1
  have q1 : w.heap.size < w1.heap.size := by
    have := hb1.size
    simp at this
    omega
  clear hb1
  go_wp2_with fail
  go_ret3
  exact ⟨ret_eq (by simp [rwP]), B1.out⟩

set_option maxHeartbeats 2000000 in
theorem rwhere_true_5 (n d g c : Int) (w : World) (hn : 0 < n)
    (HC : ∀ w, Calls Try.prog 18 #[rV true n d g c] w fun e w' => e = .returned (.int .i64 0) ∧ Below w.heap.size w w') :
    Calls Try.prog 20 #[rV true n d g c, .int .i64 5, .int .i64 0] w fun e w' => e = .returned (el3 (rwP true n d g c 5 0)) ∧ Below w.heap.size w w' := by

  have HC' := hid_mk HC
  clear HC
  go_enter Try.func20, Try.ntmps20
  go_wp2_with fail
  refine (HC'.out _).mono ?_
  rintro e w1 ⟨rfl, hb1⟩
  have B1 := hid_mk (below_new (Below.refl _ _) hb1)
  have C1 := bcell hb1
  have q1 : w.heap.size < w1.heap.size := by
    have := hb1.size
    simp at this
    omega
  clear hb1
  go_wp2_with fail
  go_ret3
  exact ⟨ret_eq (by simp [rwP]), B1.out⟩

set_option maxHeartbeats 2000000 in
theorem rwhere_true_6 (n d g c : Int) (w : World) (hn : 0 < n)
    (HC : ∀ w, Calls Try.prog 18 #[rV true n d g c] w fun e w' => e = .returned (.int .i64 0) ∧ Below w.heap.size w w') :
    Calls Try.prog 20 #[rV true n d g c, .int .i64 6, .int .i64 0] w fun e w' => e = .returned (el3 (rwP true n d g c 6 0)) ∧ Below w.heap.size w w' := by

  have HC' := hid_mk HC
  clear HC
  go_enter Try.func20, Try.ntmps20
  go_wp2_with fail
  refine (HC'.out _).mono ?_
  rintro e w1 ⟨rfl, hb1⟩
  have B1 := hid_mk (below_new (Below.refl _ _) hb1)
  have C1 := bcell hb1
  have q1 : w.heap.size < w1.heap.size := by
    have := hb1.size
    simp at this
    omega
  clear hb1
  go_wp2_with fail
  go_ret3
  exact ⟨ret_eq (by simp [rwP]), B1.out⟩

set_option maxHeartbeats 2000000 in
theorem rwhere_true_7 (n d g c : Int) (w : World) (hn : 0 < n)
    (HC : ∀ w, Calls Try.prog 18 #[rV true n d g c] w fun e w' => e = .returned (.int .i64 0) ∧ Below w.heap.size w w') :
    Calls Try.prog 20 #[rV true n d g c, .int .i64 7, .int .i64 0] w fun e w' => e = .returned (el3 (rwP true n d g c 7 0)) ∧ Below w.heap.size w w' := by

  have HC' := hid_mk HC
  clear HC
  go_enter Try.func20, Try.ntmps20
  go_wp2_with fail
  refine (HC'.out _).mono ?_
  rintro e w1 ⟨rfl, hb1⟩
  have B1 := hid_mk (below_new (Below.refl _ _) hb1)
  have C1 := bcell hb1
  have q1 : w.heap.size < w1.heap.size := by
    have := hb1.size
    simp at this
    omega
  clear hb1
  go_wp2_with fail
  go_ret3
  exact ⟨ret_eq (by simp [rwP]), B1.out⟩

set_option maxHeartbeats 2000000 in
theorem rwhere_true_8 (n d g c i : Int) (w : World) (hi : 0 ≤ i) (hn : i < n)
    (HC : ∀ w, Calls Try.prog 18 #[rV true n d g c] w fun e w' => e = .returned (.int .i64 0) ∧ Below w.heap.size w w') :
    Calls Try.prog 20 #[rV true n d g c, .int .i64 8, .int .i64 i] w fun e w' => e = .returned (el3 (rwP true n d g c 8 i)) ∧ Below w.heap.size w w' := by

  have HC' := hid_mk HC
  clear HC
  go_enter Try.func20, Try.ntmps20
  go_wp2_with fail
  refine (HC'.out _).mono ?_
  rintro e w1 ⟨rfl, hb1⟩
  have B1 := hid_mk (below_new (Below.refl _ _) hb1)
  have C1 := bcell hb1
  have q1 : w.heap.size < w1.heap.size := by
    have := hb1.size
    simp at this
    omega
  clear hb1
  go_wp2_with fail
  go_ret3
  exact ⟨ret_eq (by simp [rwP]), B1.out⟩

set_option maxHeartbeats 2000000 in
theorem rwhere_true_9 (n d g c : Int) (w : World) (hn : 0 < n)
    (HC : ∀ w, Calls Try.prog 18 #[rV true n d g c] w fun e w' => e = .returned (.int .i64 0) ∧ Below w.heap.size w w') :
    Calls Try.prog 20 #[rV true n d g c, .int .i64 9, .int .i64 0] w fun e w' => e = .returned (el3 (rwP true n d g c 9 0)) ∧ Below w.heap.size w w' := by

  have HC' := hid_mk HC
  clear HC
  go_enter Try.func20, Try.ntmps20
  go_wp2_with fail
  refine (HC'.out _).mono ?_
  rintro e w1 ⟨rfl, hb1⟩
  have B1 := hid_mk (below_new (Below.refl _ _) hb1)
  have C1 := bcell hb1
  have q1 : w.heap.size < w1.heap.size := by
    have := hb1.size
    simp at this
    omega
  clear hb1
  go_wp2_with fail
  go_ret3
  exact ⟨ret_eq (by simp [rwP]), B1.out⟩

set_option maxHeartbeats 2000000 in
theorem rwhere_true_10 (n d g c : Int) (w : World) (hn : 0 < n)
    (HC : ∀ w, Calls Try.prog 18 #[rV true n d g c] w fun e w' => e = .returned (.int .i64 0) ∧ Below w.heap.size w w') :
    Calls Try.prog 20 #[rV true n d g c, .int .i64 10, .int .i64 0] w fun e w' => e = .returned (el3 (rwP true n d g c 10 0)) ∧ Below w.heap.size w w' := by

  have HC' := hid_mk HC
  clear HC
  go_enter Try.func20, Try.ntmps20
  go_wp2_with fail
  refine (HC'.out _).mono ?_
  rintro e w1 ⟨rfl, hb1⟩
  have B1 := hid_mk (below_new (Below.refl _ _) hb1)
  have C1 := bcell hb1
  have q1 : w.heap.size < w1.heap.size := by
    have := hb1.size
    simp at this
    omega
  clear hb1
  go_wp2_with fail
  go_ret3
  exact ⟨ret_eq (by simp [rwP]), B1.out⟩

set_option maxHeartbeats 2000000 in
theorem rwhere_true_11 (n d g c : Int) (w : World) (hn : 0 < n)
    (HC : ∀ w, Calls Try.prog 18 #[rV true n d g c] w fun e w' => e = .returned (.int .i64 0) ∧ Below w.heap.size w w') :
    Calls Try.prog 20 #[rV true n d g c, .int .i64 11, .int .i64 0] w fun e w' => e = .returned (el3 (rwP true n d g c 11 0)) ∧ Below w.heap.size w w' := by

  have HC' := hid_mk HC
  clear HC
  go_enter Try.func20, Try.ntmps20
  go_wp2_with fail
  refine (HC'.out _).mono ?_
  rintro e w1 ⟨rfl, hb1⟩
  have B1 := hid_mk (below_new (Below.refl _ _) hb1)
  have C1 := bcell hb1
  have q1 : w.heap.size < w1.heap.size := by
    have := hb1.size
    simp at this
    omega
  clear hb1
  go_wp2_with fail
  go_ret3
  exact ⟨ret_eq (by simp [rwP]), B1.out⟩

set_option maxHeartbeats 2000000 in
theorem rwhere_true_no (n d g c x : Int) (w : World) (x1 : ¬ x = 1) (x2 : ¬ x = 2) (x3 : ¬ x = 3) (x4 : ¬ x = 4) (x5 : ¬ x = 5) (x6 : ¬ x = 6) (x7 : ¬ x = 7) (x8 : ¬ x = 8) (x9 : ¬ x = 9) (x10 : ¬ x = 10) (x11 : ¬ x = 11) (hn : 0 < n)
    (HC : ∀ w, Calls Try.prog 18 #[rV true n d g c] w fun e w' => e = .returned (.int .i64 0) ∧ Below w.heap.size w w') :
    Calls Try.prog 20 #[rV true n d g c, .int .i64 x, .int .i64 0] w fun e w' => e = .returned (el3 (rwP true n d g c x 0)) ∧ Below w.heap.size w w' := by
  have e0 : rwP true n d g c x 0 = (0, 0, 2) := by simp [rwP, *]
  rw [e0]
  clear e0
  have HC' := hid_mk HC
  clear HC
  go_enter Try.func20, Try.ntmps20
  go_wp2_with fail
  refine (HC'.out _).mono ?_
  rintro e w1 ⟨rfl, hb1⟩
  have B1 := hid_mk (below_new (Below.refl _ _) hb1)
  have C1 := bcell hb1
  have q1 : w.heap.size < w1.heap.size := by
    have := hb1.size
    simp at this
    omega
  clear hb1
  go_wp2_with fail
  go_ret3
  exact ⟨rfl, B1.out⟩


theorem rwhere_in (pk : Bool) (n d g c x i : Int) (w : World) (hi : 0 ≤ i) (hn : i < n) (hx : (x = 1 ∨ x = 4 ∨ x = 8) ∨ i = 0)
    (HC : ∀ w, Calls Try.prog 18 #[rV pk n d g c] w fun e w' => e = .returned (.int .i64 0) ∧ Below w.heap.size w w') :
    Calls Try.prog 20 #[rV pk n d g c, .int .i64 x, .int .i64 i] w fun e w' => e = .returned (el3 (rwP pk n d g c x i)) ∧ Below w.heap.size w w' := by
  by_cases h : isEl x
  · rcases h with rfl | rfl | rfl | rfl | rfl | rfl | rfl | rfl | rfl | rfl | rfl <;> cases pk
    · exact rwhere_false_1 n d g c i w hi hn HC
    · exact rwhere_true_1 n d g c i w hi hn HC
    · obtain rfl : i = 0 := by omega
      exact rwhere_false_2 n d g c w hn HC
    · obtain rfl : i = 0 := by omega
      exact rwhere_true_2 n d g c w hn HC
    · obtain rfl : i = 0 := by omega
      exact rwhere_false_3 n d g c w hn HC
    · obtain rfl : i = 0 := by omega
      exact rwhere_true_3 n d g c w hn HC
    · exact rwhere_false_4 n d g c i w hi hn HC
    · exact rwhere_true_4 n d g c i w hi hn HC
    · obtain rfl : i = 0 := by omega
      exact rwhere_false_5 n d g c w hn HC
    · obtain rfl : i = 0 := by omega
      exact rwhere_true_5 n d g c w hn HC
    · obtain rfl : i = 0 := by omega
      exact rwhere_false_6 n d g c w hn HC
    · obtain rfl : i = 0 := by omega
      exact rwhere_true_6 n d g c w hn HC
    · obtain rfl : i = 0 := by omega
      exact rwhere_false_7 n d g c w hn HC
    · obtain rfl : i = 0 := by omega
      exact rwhere_true_7 n d g c w hn HC
    · exact rwhere_false_8 n d g c i w hi hn HC
    · exact rwhere_true_8 n d g c i w hi hn HC
    · obtain rfl : i = 0 := by omega
      exact rwhere_false_9 n d g c w hn HC
    · obtain rfl : i = 0 := by omega
      exact rwhere_true_9 n d g c w hn HC
    · obtain rfl : i = 0 := by omega
      exact rwhere_false_10 n d g c w hn HC
    · obtain rfl : i = 0 := by omega
      exact rwhere_true_10 n d g c w hn HC
    · obtain rfl : i = 0 := by omega
      exact rwhere_false_11 n d g c w hn HC
    · obtain rfl : i = 0 := by omega
      exact rwhere_true_11 n d g c w hn HC
  · unfold isEl at h
    simp only [not_or] at h
    obtain ⟨h1, h2, h3, h4, h5, h6, h7, h8, h9, h10, h11⟩ := h
    obtain rfl : i = 0 := by omega
    cases pk
    · exact rwhere_false_no n d g c x w h1 h2 h3 h4 h5 h6 h7 h8 h9 h10 h11 hn HC
    · exact rwhere_true_no n d g c x w h1 h2 h3 h4 h5 h6 h7 h8 h9 h10 h11 hn HC

end Go.Proofs.Ytolflhnkdnjckaa
