/-
  PROVED: dumbwaiterlaw04.LayoutApart returns true for any rings and two of their elements, and what was in memory stays as it was. Conditions: none.
-/
import Derived.Test.YtolflhnkdnjckaaRows
import Derived.Test.YtolflhnkdnjckaaLayA
import Derived.Test.YtolflhnkdnjckaaRgOpen
import Derived.WalkKit
import Derived.ProofKit
import Derived.OpenShut
import Derived.ShutString
import Derived.ChangeOld
import Derived.Below
import Derived.Carry
import Derived.Lib.SmallJoins
namespace Go.Proofs.Ytolflhnkdnjckaa.layoutApart
open Go.ChangeShapes Go.WideShapes Go.ChangeAt Go.RowKit
set_option linter.unusedVariables false


set_option maxRecDepth 100000 in
set_option maxHeartbeats 40000000 in
theorem core_x (pk : Bool) (n d g c a i b j x y i1 j1 i2 j2 A1 N1 E1 A2 N2 E2 L1 L2 : Int) (w : World) (hn0 : 1 ≤ n) (hn1 : n ≤ 32768) (hx0 : 0 ≤ x) (hx1 : x < 11) (hy0 : 0 ≤ y) (hy1 : y < 11)
    (ei2 : (if nmB (1 + x) = true then 0 else i1) = i2) (ej2 : (if nmB (1 + y) = true then 0 else j1) = j2)
    (hE1 : (E1 == 0) = exB pk (1 + x)) (hE2 : (E2 == 0) = exB pk (1 + y)) (hE1' : (E1 != 0) = !(exB pk (1 + x))) (hE2' : (E2 != 0) = !(exB pk (1 + y)))
    (eL1 : exB pk (1 + x) = true → IntKind.u64.wrap (IntKind.u64.wrap (A1 + IntKind.u64.wrap N1) - 1) = L1) (eL2 : exB pk (1 + y) = true → IntKind.u64.wrap (IntKind.u64.wrap (A2 + IntKind.u64.wrap N2) - 1) = L2)
    (hap : exB pk (1 + x) = true → exB pk (1 + y) = true → ((L1 < A2 ∨ L2 < A1) ↔ ¬ (1 + x = 1 + y ∧ i2 = j2)))
    (Hx : a % 11 = x) (Hy : b % 11 = y) (Hi : i % n = i1) (Hj : j % n = j1)
    (HC : ∀ w, Calls Try.prog 13 #[rV pk n d g c] w fun e w' => e = .returned (.int .i64 0) ∧ Below w.heap.size w w')
    (HW1 : ∀ w, Calls Try.prog 9 #[rV pk n d g c, .int .i64 (1 + x), .int .i64 i2] w fun e w' => e = .returned (.tuple #[.int .u64 A1, .int .i64 N1, .int .i64 E1]) ∧ Below w.heap.size w w')
    (HW2 : ∀ w, Calls Try.prog 9 #[rV pk n d g c, .int .i64 (1 + y), .int .i64 j2] w fun e w' => e = .returned (.tuple #[.int .u64 A2, .int .i64 N2, .int .i64 E2]) ∧ Below w.heap.size w w')
    (HO : exB pk (1 + x) = true → ∀ v, (v = A1 ∨ v = L1) → ∀ w, Calls Try.prog 14 #[rV pk n d g c, .int .u64 v, .int .u64 1] w fun e w' => e = .returned (.bool true) ∧ Below w.heap.size w w') :
    Calls Try.prog 5 #[rV pk n d g c, .int .i64 a, .int .i64 i, .int .i64 b, .int .i64 j] w fun e w' => e = .returned (.bool true) ∧ Below w.heap.size w w' := by
  have HC' := hid_mk HC
  have Hx' := hid_mk Hx
  have Hy' := hid_mk Hy
  have HP' := hid_mk (fun (z : Int) (w : World) => pick_at z n _ w (by omega) (by omega) rfl)
  have Hi' := hid_mk Hi
  have Hj' := hid_mk Hj
  have HW1' := hid_mk HW1
  have HW2' := hid_mk HW2
  have HO' := hid_mk HO
  have HE1 := hid_mk hE1
  have HE2 := hid_mk hE2
  have HN1 := hid_mk hE1'
  have HN2 := hid_mk hE2'
  have HL1 := hid_mk eL1
  have HL2 := hid_mk eL2
  have HA := hid_mk hap
  clear HC Hx Hy Hi Hj HW1 HW2 HO hE1 hE2 hE1' hE2' eL1 eL2 hap
  go_enter Try.func5, Try.ntmps5
  go_wp2_with fail
  refine (lives_any _).mono ?_
  rintro e u1 ⟨rfl, hbu1⟩
  have Bu1 := hid_mk (below_new (Below.refl _ _) hbu1)
  have zu1 := hbu1.size
  simp at zu1
  have qu1 : w.heap.size < u1.heap.size := by omega
  have c10 := hbu1.cell (p := ⟨w.heap.size, 0, none⟩) (by simp)
  have c11 := hbu1.cell (p := ⟨w.heap.size, 1, none⟩) (by simp)
  have c12 := hbu1.cell (p := ⟨w.heap.size, 2, none⟩) (by simp)
  have c13 := hbu1.cell (p := ⟨w.heap.size, 3, none⟩) (by simp)
  have c14 := hbu1.cell (p := ⟨w.heap.size, 4, none⟩) (by simp)
  simp [go_sem] at c10 c11 c12 c13 c14
  clear hbu1
  go_wp2_with fail
  refine (HC'.out _).mono ?_
  rintro e u2 ⟨rfl, hbu2⟩
  have Bu2 := hid_mk (below_then Bu1.out hbu2)
  have zu2 := hbu2.size
  have qu2 : w.heap.size < u2.heap.size := by omega
  have R2 : Hid (RG w u2 w.heap.size pk n d g c) := (RG.mk Bu1.out qu1 c10 c11 c12 c13 c14).below hbu2
  obtain ⟨_, _, c20, c21, c22, c23, c24⟩ := R2.out
  clear hbu2 c10 c11 c12 c13 c14
  go_wp2_with fail
  refine (pick_at _ _ _ _ (by omega) (by omega) Hx'.out).mono ?_
  rintro e w' ⟨rfl, rfl⟩
  go_wp2_with fail
  refine (pick_at _ _ _ _ (by omega) (by omega) Hy'.out).mono ?_
  rintro e w' ⟨rfl, rfl⟩
  go_wp2_with fail
  go_quiet (first | (go_at_call 25; refine (HP'.out _ _).mono ?_; rintro e w'' ⟨rfl, rfl⟩; exact ⟨rfl, _, rfl⟩))
  rw [Hi'.out, Hj'.out]
  go_upto_region 7 with fail
  go_cut [49] (fun s49 wx => s49 = .bool (nmB (1 + x)) ∧ Hid (RG w wx w.heap.size pk n d g c))
  case first =>
    by_cases k1 : 1 + x = 1
    · have k1' : (1 + x != 1) = false := by simp [k1]
      have K1 := hid_mk k1
      clear k1
      go_wp2_with fail
      go_meet
      case rel => exact ⟨by simp [nmB, K1.out], R2.out.dn _⟩
    · by_cases k4 : 1 + x = 4
      · have k1' : (1 + x != 1) = true := by simp [k1]
        have k4' : (1 + x != 4) = false := by simp [k4]
        have K1 := hid_mk k1
        have K4 := hid_mk k4
        clear k1 k4
        go_wp2_with fail
        go_meet
        case rel => exact ⟨by simp [nmB, K4.out], R2.out.dn _⟩
      · by_cases k8 : 1 + x = 8
        · have k1' : (1 + x != 1) = true := by simp [k1]
          have k4' : (1 + x != 4) = true := by simp [k4]
          have k8' : (1 + x != 8) = false := by simp [k8]
          have K1 := hid_mk k1
          have K4 := hid_mk k4
          have K8 := hid_mk k8
          clear k1 k4 k8
          go_wp2_with fail
          go_meet
          case rel => exact ⟨by simp [nmB, K8.out], R2.out.dn _⟩
        · have k1' : (1 + x != 1) = true := by simp [k1]
          have k4' : (1 + x != 4) = true := by simp [k4]
          have k8' : (1 + x != 8) = true := by simp [k8]
          have K1 := hid_mk k1
          have K4 := hid_mk k4
          have K8 := hid_mk k8
          clear k1 k4 k8
          go_wp2_with fail
          go_meet
          case rel => exact ⟨by simp [nmB, K1.out, K4.out, K8.out], R2.out.dn _⟩
  case rest =>
  obtain ⟨rfl, R3⟩ := hcut
  clear c20 c21 c22 c23 c24
  go_upto_if 49 with fail
  go_cut [2] (fun s2 wx => s2 = .int .i64 (if nmB (1 + x) = true then 0 else i1) ∧ Hid (RG w wx w.heap.size pk n d g c))
  case first =>
    cases hnm : nmB (1 + x)
    · go_wp2_with fail
      go_meet
      case rel => exact ⟨by simp [hnm], R3⟩
    · go_wp2_with fail
      go_meet
      case rel => exact ⟨by simp [hnm], R3⟩
  case rest =>
  obtain ⟨rfl, R4⟩ := hcut
  rw [ei2]
  go_upto_region 9 with fail
  go_cut [59] (fun s59 wx => s59 = .bool (nmB (1 + y)) ∧ Hid (RG w wx w.heap.size pk n d g c))
  case first =>
    by_cases k1 : 1 + y = 1
    · have k1' : (1 + y != 1) = false := by simp [k1]
      have K1 := hid_mk k1
      clear k1
      go_wp2_with fail
      go_meet
      case rel => exact ⟨by simp [nmB, K1.out], R4⟩
    · by_cases k4 : 1 + y = 4
      · have k1' : (1 + y != 1) = true := by simp [k1]
        have k4' : (1 + y != 4) = false := by simp [k4]
        have K1 := hid_mk k1
        have K4 := hid_mk k4
        clear k1 k4
        go_wp2_with fail
        go_meet
        case rel => exact ⟨by simp [nmB, K4.out], R4⟩
      · by_cases k8 : 1 + y = 8
        · have k1' : (1 + y != 1) = true := by simp [k1]
          have k4' : (1 + y != 4) = true := by simp [k4]
          have k8' : (1 + y != 8) = false := by simp [k8]
          have K1 := hid_mk k1
          have K4 := hid_mk k4
          have K8 := hid_mk k8
          clear k1 k4 k8
          go_wp2_with fail
          go_meet
          case rel => exact ⟨by simp [nmB, K8.out], R4⟩
        · have k1' : (1 + y != 1) = true := by simp [k1]
          have k4' : (1 + y != 4) = true := by simp [k4]
          have k8' : (1 + y != 8) = true := by simp [k8]
          have K1 := hid_mk k1
          have K4 := hid_mk k4
          have K8 := hid_mk k8
          clear k1 k4 k8
          go_wp2_with fail
          go_meet
          case rel => exact ⟨by simp [nmB, K1.out, K4.out, K8.out], R4⟩
  case rest =>
  obtain ⟨rfl, R5⟩ := hcut
  go_upto_if 59 with fail
  go_cut [4] (fun s4 wx => s4 = .int .i64 (if nmB (1 + y) = true then 0 else j1) ∧ Hid (RG w wx w.heap.size pk n d g c))
  case first =>
    cases hnm : nmB (1 + y)
    · go_wp2_with fail
      go_meet
      case rel => exact ⟨by simp [hnm], R5⟩
    · go_wp2_with fail
      go_meet
      case rel => exact ⟨by simp [hnm], R5⟩
  case rest =>
  obtain ⟨rfl, R6⟩ := hcut
  rw [ej2]
  clear ei2 ej2
  obtain ⟨_, q6, c60, c61, c62, c63, c64⟩ := R6.out
  go_wp2_with fail
  refine (HW1'.out _).mono ?_
  rintro e w7 ⟨rfl, hb7⟩
  have R7 := hid_mk (R6.out.below hb7)
  clear hb7 q6 c60 c61 c62 c63 c64
  obtain ⟨_, q7, c70, c71, c72, c73, c74⟩ := R7.out
  go_wp2_with fail
  refine (HW2'.out _).mono ?_
  rintro e w8 ⟨rfl, hb8⟩
  have R8 := hid_mk (R7.out.below hb8)
  clear hb8 q7 c70 c71 c72 c73 c74
  obtain ⟨_, q8, c80, c81, c82, c83, c84⟩ := R8.out
  go_upto_region 14 with fail
  go_cut [103] (fun s103 wx => s103 = .bool false ∧ Hid (RG w wx w.heap.size pk n d g c))
  case first =>
    as_aux_lemma =>
    have HS := hid_mk (fun (v : Int) (w : World) => split_any v w)
    cases pk
    case' false =>
      by_cases kx : 1 + x = 1
      · have gx : (1 + x == 1) = true := by simp [kx]
        have eE1 : (E1 == 0) = true := by
          rw [HE1.out]
          simp [exB, kx]
        have Kx := hid_mk kx
        clear kx
        by_cases ky : 1 + y = 1
        · have gy : (1 + y == 1) = true := by simp [ky]
          have eE2 : (E2 == 0) = true := by
            rw [HE2.out]
            simp [exB, ky]
          have Ky := hid_mk ky
          clear ky
          go_quiet (first | (go_at_call 26; refine (HS.out _ _).mono ?_; rintro e w'' ⟨rfl, rfl⟩; exact ⟨rfl, _, rfl⟩))
          go_wp2_with fail
          go_meet
          case rel => exact ⟨rfl, R8.out.dn _⟩
        · have gy : (1 + y == 1) = false := by simp [ky]
          have Ky := hid_mk ky
          cases hsy : spB (1 + y)
          · have eE2 : (E2 == 0) = false := by
              rw [HE2.out]
              simp [exB, Ky.out, hsy]
            clear ky
            go_quiet (first | (go_at_call 26; refine (HS.out _ _).mono ?_; rintro e w'' ⟨rfl, rfl⟩; exact ⟨rfl, _, rfl⟩))
            go_wp2_with fail
            go_meet
            case rel => exact ⟨rfl, R8.out.dn _⟩
          · have eE2 : (E2 == 0) = true := by
              rw [HE2.out]
              simp [exB, hsy]
            clear ky
            go_quiet (first | (go_at_call 26; refine (HS.out _ _).mono ?_; rintro e w'' ⟨rfl, rfl⟩; exact ⟨rfl, _, rfl⟩))
            go_wp2_with fail
            go_meet
            case rel => exact ⟨rfl, R8.out.dn _⟩
      · have gx : (1 + x == 1) = false := by simp [kx]
        have Kx := hid_mk kx
        cases hsx : spB (1 + x)
        · have eE1 : (E1 == 0) = false := by
            rw [HE1.out]
            simp [exB, Kx.out, hsx]
          clear kx
          by_cases ky : 1 + y = 1
          · have gy : (1 + y == 1) = true := by simp [ky]
            have eE2 : (E2 == 0) = true := by
              rw [HE2.out]
              simp [exB, ky]
            have Ky := hid_mk ky
            clear ky
            go_quiet (first | (go_at_call 26; refine (HS.out _ _).mono ?_; rintro e w'' ⟨rfl, rfl⟩; exact ⟨rfl, _, rfl⟩))
            go_wp2_with fail
            go_meet
            case rel => exact ⟨rfl, R8.out.dn _⟩
          · have gy : (1 + y == 1) = false := by simp [ky]
            have Ky := hid_mk ky
            cases hsy : spB (1 + y)
            · have eE2 : (E2 == 0) = false := by
                rw [HE2.out]
                simp [exB, Ky.out, hsy]
              clear ky
              go_quiet (first | (go_at_call 26; refine (HS.out _ _).mono ?_; rintro e w'' ⟨rfl, rfl⟩; exact ⟨rfl, _, rfl⟩))
              go_wp2_with fail
              go_meet
              case rel => exact ⟨rfl, R8.out.dn _⟩
            · have eE2 : (E2 == 0) = true := by
                rw [HE2.out]
                simp [exB, hsy]
              clear ky
              go_quiet (first | (go_at_call 26; refine (HS.out _ _).mono ?_; rintro e w'' ⟨rfl, rfl⟩; exact ⟨rfl, _, rfl⟩))
              go_wp2_with fail
              go_meet
              case rel => exact ⟨rfl, R8.out.dn _⟩
        · have eE1 : (E1 == 0) = true := by
            rw [HE1.out]
            simp [exB, hsx]
          clear kx
          by_cases ky : 1 + y = 1
          · have gy : (1 + y == 1) = true := by simp [ky]
            have eE2 : (E2 == 0) = true := by
              rw [HE2.out]
              simp [exB, ky]
            have Ky := hid_mk ky
            clear ky
            go_quiet (first | (go_at_call 26; refine (HS.out _ _).mono ?_; rintro e w'' ⟨rfl, rfl⟩; exact ⟨rfl, _, rfl⟩))
            go_wp2_with fail
            go_meet
            case rel => exact ⟨rfl, R8.out.dn _⟩
          · have gy : (1 + y == 1) = false := by simp [ky]
            have Ky := hid_mk ky
            cases hsy : spB (1 + y)
            · have eE2 : (E2 == 0) = false := by
                rw [HE2.out]
                simp [exB, Ky.out, hsy]
              clear ky
              go_quiet (first | (go_at_call 26; refine (HS.out _ _).mono ?_; rintro e w'' ⟨rfl, rfl⟩; exact ⟨rfl, _, rfl⟩))
              go_wp2_with fail
              go_meet
              case rel => exact ⟨rfl, R8.out.dn _⟩
            · have eE2 : (E2 == 0) = true := by
                rw [HE2.out]
                simp [exB, hsy]
              clear ky
              go_quiet (first | (go_at_call 26; refine (HS.out _ _).mono ?_; rintro e w'' ⟨rfl, rfl⟩; exact ⟨rfl, _, rfl⟩))
              go_wp2_with fail
              go_meet
              case rel => exact ⟨rfl, R8.out.dn _⟩
    case' true =>
      by_cases kx : 1 + x = 1
      · have gx : (1 + x == 1) = true := by simp [kx]
        have eE1 : (E1 == 0) = true := by
          rw [HE1.out]
          simp [exB, kx]
        have Kx := hid_mk kx
        clear kx
        by_cases ky : 1 + y = 1
        · have gy : (1 + y == 1) = true := by simp [ky]
          have eE2 : (E2 == 0) = true := by
            rw [HE2.out]
            simp [exB, ky]
          have Ky := hid_mk ky
          clear ky
          go_quiet (first | (go_at_call 26; refine (HS.out _ _).mono ?_; rintro e w'' ⟨rfl, rfl⟩; exact ⟨rfl, _, rfl⟩))
          go_wp2_with fail
          go_meet
          case rel => exact ⟨rfl, R8.out.dn _⟩
        · have gy : (1 + y == 1) = false := by simp [ky]
          have Ky := hid_mk ky
          cases hsy : spB (1 + y)
          · have eE2 : (E2 == 0) = true := by
              rw [HE2.out]
              simp [exB, hsy]
            clear ky
            go_quiet (first | (go_at_call 26; refine (HS.out _ _).mono ?_; rintro e w'' ⟨rfl, rfl⟩; exact ⟨rfl, _, rfl⟩))
            go_wp2_with fail
            go_meet
            case rel => exact ⟨rfl, R8.out.dn _⟩
          · have eE2 : (E2 == 0) = false := by
              rw [HE2.out]
              simp [exB, Ky.out, hsy]
            clear ky
            go_quiet (first | (go_at_call 26; refine (HS.out _ _).mono ?_; rintro e w'' ⟨rfl, rfl⟩; exact ⟨rfl, _, rfl⟩))
            go_wp2_with fail
            go_meet
            case rel => exact ⟨rfl, R8.out.dn _⟩
      · have gx : (1 + x == 1) = false := by simp [kx]
        have Kx := hid_mk kx
        cases hsx : spB (1 + x)
        · have eE1 : (E1 == 0) = true := by
            rw [HE1.out]
            simp [exB, hsx]
          clear kx
          by_cases ky : 1 + y = 1
          · have gy : (1 + y == 1) = true := by simp [ky]
            have eE2 : (E2 == 0) = true := by
              rw [HE2.out]
              simp [exB, ky]
            have Ky := hid_mk ky
            clear ky
            go_quiet (first | (go_at_call 26; refine (HS.out _ _).mono ?_; rintro e w'' ⟨rfl, rfl⟩; exact ⟨rfl, _, rfl⟩))
            go_wp2_with fail
            go_meet
            case rel => exact ⟨rfl, R8.out.dn _⟩
          · have gy : (1 + y == 1) = false := by simp [ky]
            have Ky := hid_mk ky
            cases hsy : spB (1 + y)
            · have eE2 : (E2 == 0) = true := by
                rw [HE2.out]
                simp [exB, hsy]
              clear ky
              go_quiet (first | (go_at_call 26; refine (HS.out _ _).mono ?_; rintro e w'' ⟨rfl, rfl⟩; exact ⟨rfl, _, rfl⟩))
              go_wp2_with fail
              go_meet
              case rel => exact ⟨rfl, R8.out.dn _⟩
            · have eE2 : (E2 == 0) = false := by
                rw [HE2.out]
                simp [exB, Ky.out, hsy]
              clear ky
              go_quiet (first | (go_at_call 26; refine (HS.out _ _).mono ?_; rintro e w'' ⟨rfl, rfl⟩; exact ⟨rfl, _, rfl⟩))
              go_wp2_with fail
              go_meet
              case rel => exact ⟨rfl, R8.out.dn _⟩
        · have eE1 : (E1 == 0) = false := by
            rw [HE1.out]
            simp [exB, Kx.out, hsx]
          clear kx
          by_cases ky : 1 + y = 1
          · have gy : (1 + y == 1) = true := by simp [ky]
            have eE2 : (E2 == 0) = true := by
              rw [HE2.out]
              simp [exB, ky]
            have Ky := hid_mk ky
            clear ky
            go_quiet (first | (go_at_call 26; refine (HS.out _ _).mono ?_; rintro e w'' ⟨rfl, rfl⟩; exact ⟨rfl, _, rfl⟩))
            go_wp2_with fail
            go_meet
            case rel => exact ⟨rfl, R8.out.dn _⟩
          · have gy : (1 + y == 1) = false := by simp [ky]
            have Ky := hid_mk ky
            cases hsy : spB (1 + y)
            · have eE2 : (E2 == 0) = true := by
                rw [HE2.out]
                simp [exB, hsy]
              clear ky
              go_quiet (first | (go_at_call 26; refine (HS.out _ _).mono ?_; rintro e w'' ⟨rfl, rfl⟩; exact ⟨rfl, _, rfl⟩))
              go_wp2_with fail
              go_meet
              case rel => exact ⟨rfl, R8.out.dn _⟩
            · have eE2 : (E2 == 0) = false := by
                rw [HE2.out]
                simp [exB, Ky.out, hsy]
              clear ky
              go_quiet (first | (go_at_call 26; refine (HS.out _ _).mono ?_; rintro e w'' ⟨rfl, rfl⟩; exact ⟨rfl, _, rfl⟩))
              go_wp2_with fail
              go_meet
              case rel => exact ⟨rfl, R8.out.dn _⟩
  case rest =>
  obtain ⟨rfl, R9⟩ := hcut
  clear q8 c80 c81 c82 c83 c84
  cases k1 : exB pk (1 + x)
  · have g1 : (E1 != 0) = true := by
      rw [HN1.out, k1]
      rfl
    go_wp2_with fail
    go_ret
    exact ⟨rfl, R9.out.b⟩
  · have g1 : (E1 != 0) = false := by
      rw [HN1.out, k1]
      rfl
    cases k2 : exB pk (1 + y)
    · have g2 : (E2 != 0) = true := by
        rw [HN2.out, k2]
        rfl
      go_wp2_with fail
      go_ret
      exact ⟨rfl, R9.out.b⟩
    · have g2 : (E2 != 0) = false := by
        rw [HN2.out, k2]
        rfl
      have l1 := HL1.out k1
      have l2 := HL2.out k2
      have HOv := hid_mk (HO'.out k1)
      have HAp := hid_mk (HA.out k1 k2)
      clear k1 k2 HA HL1 HL2 HO'
      go_upto_region 18 with fail
      go_cut [18, 19] (fun s18 s19 wx => s18 = .bool true ∧ s19 = .bool true ∧ Hid (RG w wx w.heap.size pk n d g c))
      case first =>
        go_region_held3 (fun w' => Below w.heap.size w w' ∧ (w'.cell? ⟨w.heap.size, 0, none⟩ = some (.bool pk) ∧ w'.cell? ⟨w.heap.size, 1, none⟩ = some (.int .i64 n) ∧ w'.cell? ⟨w.heap.size, 2, none⟩ = some (.int .u64 d) ∧ w'.cell? ⟨w.heap.size, 3, none⟩ = some (.int .u64 g) ∧ w'.cell? ⟨w.heap.size, 4, none⟩ = some (.int .u64 c)) ∧ w.heap.size < w'.heap.size) (first | exact R9.out.drew.conj | exact RG.keep (by assumption) (by assumption))
          (first | (go_at_call 14; refine (HOv.out _ (by first | exact Or.inl rfl | exact Or.inr rfl) _).mono ?_; rintro e w' ⟨rfl, hb⟩))
        all_goals (go_wp2_with fail; go_meet)
        exact ⟨rfl, rfl, (by first | exact RG.ofc (by assumption) | exact RG.ofc (RG.keep (by assumption) (by assumption)))⟩
      case rest =>
      obtain ⟨rfl, rfl, R10⟩ := hcut
      by_cases h1 : L1 < A2
      · have hne := HAp.out.1 (Or.inl h1)
        by_cases hxy : 1 + x = 1 + y
        · have b1 : (1 + x != 1 + y) = false := by simp [hxy]
          have b2 : (i2 != j2) = true := by
            simp
            intro h
            exact hne ⟨hxy, h⟩
          clear hne hxy
          go_wp2_with fail
          go_ret
          exact ⟨rfl, R10.out.b⟩
        · have b1 : (1 + x != 1 + y) = true := by
            simp
            omega
          clear hne hxy
          go_wp2_with fail
          go_ret
          exact ⟨rfl, R10.out.b⟩
      · by_cases h2 : L2 < A1
        · have hne := HAp.out.1 (Or.inr h2)
          by_cases hxy : 1 + x = 1 + y
          · have b1 : (1 + x != 1 + y) = false := by simp [hxy]
            have b2 : (i2 != j2) = true := by
              simp
              intro h
              exact hne ⟨hxy, h⟩
            clear hne hxy
            go_wp2_with fail
            go_ret
            exact ⟨rfl, R10.out.b⟩
          · have b1 : (1 + x != 1 + y) = true := by
              simp
              omega
            clear hne hxy
            go_wp2_with fail
            go_ret
            exact ⟨rfl, R10.out.b⟩
        · have heq : 1 + x = 1 + y ∧ i2 = j2 := Classical.byContradiction fun h => by
            rcases HAp.out.2 h with h | h
            · exact h1 h
            · exact h2 h
          have b1 : (1 + x != 1 + y) = false := by simp [heq.1]
          have b2 : (i2 != j2) = false := by simp [heq.2]
          clear heq
          go_wp2_with fail
          go_ret
          exact ⟨rfl, R10.out.b⟩

theorem ne_not (E : Int) : (E != 0) = !(E == 0) := rfl
theorem walk (a0 : Bool) (b0 c0 d0 e0 a1 a2 a3 a4 : Int) (w1 : (Lit.int .i64 a1).wf = true) (w2 : (Lit.int .i64 a2).wf = true) (w3 : (Lit.int .i64 a3).wf = true) (w4 : (Lit.int .i64 a4).wf = true) (y0 : -9223372036854775808 ≤ b0 ∧ b0 ≤ 9223372036854775807) (z0 : U64 c0) (t0 : U64 d0) (w0 : U64 e0) (w : World) :
    Calls Try.prog 5 #[rV a0 b0 c0 d0 e0, .int .i64 a1, .int .i64 a2, .int .i64 a3, .int .i64 a4] w fun e w' => e = .returned (.bool true) ∧ Below w.heap.size w w' := by
  have HC := fun w => check_lay a0 b0 c0 d0 e0 w z0 t0 w0
  cases hk : okRg a0 b0 c0 d0 e0
  · rw [show chkR a0 b0 c0 d0 e0 = 2 from by simp [chkR, hk]] at HC
    have HC' := hid_mk HC
    clear HC hk z0 t0 w0 y0 w1 w2 w3 w4
    go_enter Try.func5, Try.ntmps5
    go_wp2_with fail
    refine (lives_any _).mono ?_
    rintro e u1 ⟨rfl, hbu1⟩
    have Bu1 := hid_mk (below_new (Below.refl _ _) hbu1)
    have C1 := bcell hbu1
    have zu1 := hbu1.size
    simp at zu1
    have qu1 : w.heap.size < u1.heap.size := by omega
    clear hbu1
    go_wp2_with fail
    refine (HC'.out _).mono ?_
    rintro e u2 ⟨rfl, hbu2⟩
    have Bu2 := hid_mk (below_then Bu1.out hbu2)
    clear hbu2
    go_wp2_with fail
    go_ret
    exact ⟨rfl, Bu2.out⟩
  · rw [show chkR a0 b0 c0 d0 e0 = 0 from by simp [chkR, hk]] at HC
    have hr := szB_rng (ok_parts hk).1
    clear y0 w1 w2 w3 w4
    obtain ⟨x, hx⟩ : ∃ x, a1 % 11 = x := ⟨_, rfl⟩
    obtain ⟨y, hy⟩ : ∃ y, a3 % 11 = y := ⟨_, rfl⟩
    obtain ⟨i1, hi⟩ : ∃ i1, a2 % b0 = i1 := ⟨_, rfl⟩
    obtain ⟨j1, hj⟩ : ∃ j1, a4 % b0 = j1 := ⟨_, rfl⟩
    have hi0 := Int.emod_nonneg a2 (show b0 ≠ 0 by omega)
    have hi1 := Int.emod_lt_of_pos a2 (show 0 < b0 by omega)
    have hj0 := Int.emod_nonneg a4 (show b0 ≠ 0 by omega)
    have hj1 := Int.emod_lt_of_pos a4 (show 0 < b0 by omega)
    rw [hi] at hi0 hi1
    rw [hj] at hj0 hj1
    obtain ⟨i2, ei2⟩ : ∃ i2 : Int, (if nmB (1 + x) = true then 0 else i1) = i2 := ⟨_, rfl⟩
    obtain ⟨j2, ej2⟩ : ∃ j2 : Int, (if nmB (1 + y) = true then 0 else j1) = j2 := ⟨_, rfl⟩
    have hi2 : (0 ≤ i2 ∧ i2 < b0) ∧ ((1 + x = 1 ∨ 1 + x = 4 ∨ 1 + x = 8) ∨ i2 = 0) := by
      cases h : nmB (1 + x)
      · rw [h] at ei2
        have e : i1 = i2 := by simpa using ei2
        exact ⟨⟨by omega, by omega⟩, Or.inl (nmB_f h)⟩
      · rw [h] at ei2
        have e : (0 : Int) = i2 := by simpa using ei2
        exact ⟨⟨by omega, by omega⟩, Or.inr e.symm⟩
    have hj2 : (0 ≤ j2 ∧ j2 < b0) ∧ ((1 + y = 1 ∨ 1 + y = 4 ∨ 1 + y = 8) ∨ j2 = 0) := by
      cases h : nmB (1 + y)
      · rw [h] at ej2
        have e : j1 = j2 := by simpa using ej2
        exact ⟨⟨by omega, by omega⟩, Or.inl (nmB_f h)⟩
      · rw [h] at ej2
        have e : (0 : Int) = j2 := by simpa using ej2
        exact ⟨⟨by omega, by omega⟩, Or.inr e.symm⟩
    have ex1 := whE_ex (x := 1 + x) (i := i2) hk (by omega) (by omega) hi2.1.1 hi2.1.2 hi2.2
    have ex2 := whE_ex (x := 1 + y) (i := j2) hk (by omega) (by omega) hj2.1.1 hj2.1.2 hj2.2
    have W1 := fun w => where_any a0 b0 c0 d0 e0 (1 + x) i2 w z0 t0 w0
    have W2 := fun w => where_any a0 b0 c0 d0 e0 (1 + y) j2 w z0 t0 w0
    have hE : ∀ z k, (whE a0 b0 c0 d0 e0 z k == 0) = whOk a0 b0 c0 d0 e0 z k := fun z k => by
      unfold whE
      cases whOk a0 b0 c0 d0 e0 z k <;> rfl
    have hL : ∀ z k, whOk a0 b0 c0 d0 e0 z k = true → whN a0 b0 c0 d0 e0 z k = (elP a0 b0 c0 d0 e0 z).2.1 ∧ IntKind.u64.wrap (IntKind.u64.wrap (whA a0 b0 c0 d0 e0 z k + IntKind.u64.wrap (whN a0 b0 c0 d0 e0 z k)) - 1) = whA a0 b0 c0 d0 e0 z k + (elP a0 b0 c0 d0 e0 z).2.1 - 1 ∧ 1 ≤ (elP a0 b0 c0 d0 e0 z).2.1 := fun z k h => by
      obtain ⟨q1, q2, q3, q4, q5⟩ := whA_eq h z0 t0 w0
      obtain ⟨r1, r2, r3⟩ := part_rng (ok_parts hk).1
      obtain ⟨⟨_, l1⟩, ⟨_, l2, l4⟩, _, l3, l5, l6⟩ := okL_t (ok_parts hk).2
      have e : whN a0 b0 c0 d0 e0 z k = (elP a0 b0 c0 d0 e0 z).2.1 := by
        unfold whN
        rw [if_pos h]
      have e1 := elB_of a0 (pD a0 b0) (pG a0 b0) (pC a0 b0) z
      have hz := z0.1
      have ht := t0.1
      have hw := w0.1
      refine ⟨e, ?_, q3⟩
      rw [e, IntKind.wrap_u64, IntKind.wrap_u64, IntKind.wrap_u64]
      rcases elB_of a0 c0 d0 e0 z with q | q | q <;> omega
    refine core_x a0 b0 c0 d0 e0 a1 a2 a3 a4 x y i1 j1 i2 j2 _ _ _ _ _ _ (whA a0 b0 c0 d0 e0 (1 + x) i2 + (elP a0 b0 c0 d0 e0 (1 + x)).2.1 - 1) (whA a0 b0 c0 d0 e0 (1 + y) j2 + (elP a0 b0 c0 d0 e0 (1 + y)).2.1 - 1) w hr.1 hr.2 (by omega) (by omega) (by omega) (by omega) ei2 ej2 ?_ ?_ ?_ ?_ ?_ ?_ ?_ hx hy hi hj HC W1 W2 ?_
    · rw [hE, ex1]
    · rw [hE, ex2]
    · rw [ne_not, hE, ex1]
    · rw [ne_not, hE, ex2]
    · intro h
      exact (hL _ _ (ex1.trans h)).2.1
    · intro h
      exact (hL _ _ (ex2.trans h)).2.1
    · intro h1 h2
      have hl1 := (hL _ _ (ex1.trans h1)).2.2
      have hl2 := (hL _ _ (ex2.trans h2)).2.2
      rw [← two_apart z0 t0 w0 (ex1.trans h1) (ex2.trans h2)]
      omega
    · intro h v hv u
      have hl := (hL _ _ (ex1.trans h)).2.2
      have uA : U64 v := by
        obtain ⟨q1, q2, q3, q4, q5⟩ := whA_eq (ex1.trans h) z0 t0 w0
        obtain ⟨r1, r2, r3⟩ := part_rng (ok_parts hk).1
        obtain ⟨⟨_, l1⟩, ⟨_, l2, l4⟩, _, l3, l5, l6⟩ := okL_t (ok_parts hk).2
        have e1 := elB_of a0 (pD a0 b0) (pG a0 b0) (pC a0 b0) (1 + x)
        have hz := z0.1
        have ht := t0.1
        have hw := w0.1
        constructor <;> rcases elB_of a0 c0 d0 e0 (1 + x) with q | q | q <;> omega
      have := over_any a0 b0 c0 d0 e0 v 1 u z0 t0 w0 uA (by decide)
      rw [in_over z0 t0 w0 (ex1.trans h) (by omega) (by omega)] at this
      exact this

/-! ### the row's frame -/
theorem own : ownKnob Try.prog.godebug = none := by kernel_rfl
theorem laidOut : laidOutB Try.prog = true := by kernel_rfl

set_option maxRecDepth 100000 in
theorem lifted (os : Os) (started : os.Started) (H : Type) (enc : TypeId × Value → H) :
    ReturnsInHanded {} Try.checked os 5 .any (Rows.layoutApartSpec.pre6 enc Try.prog Try.f5 Rows.layoutApartRow.domain false) (Rows.layoutApartSpec.post enc Try.prog Try.f5 false true false false) := by
  refine returnsInHanded_of_change (C := Try.checked) own started (by kernel_rfl) Try.func5
    (ChangeSpec.witness6 (enc := enc) (C := Try.checked) false ⟨#[], #[.agg #[.bool false, .int .i64 0, .int .u64 0, .int .u64 0, .int .u64 0], .int .i64 0, .int .i64 0, .int .i64 0, .int .i64 0], []⟩ 8 (by kernel_rfl) (by kernel_rfl) (by kernel_rfl) (by kernel_rfl)) ?_
  intro W base args ds gs before hval0 hW hcnd _
  have hval : ∀ (j : Nat) t v, Try.f5.params[j]? = some t → args[j]? = some v → Value.okWide Try.prog W .any base t v := hval0
  have hW' := hW
  obtain ⟨p, q, hA0, hV, rfl, hfz, hnd⟩ := hW
  have hA : DataW.TrodAll enc Try.prog W 0 (fun _ => true) true Try.f5.params.toList args.toList ds p := hA0
  rw [Try.params5] at hA hval
  obtain ⟨v0, vs0, d0, ds0, p0, q0, hargs, rfl, rfl, h0, r0⟩ := trodAll_cons hA
  obtain ⟨v1, vs1, d1, ds1, p1, q1, rfl, rfl, rfl, h1, r1⟩ := trodAll_cons r0
  obtain ⟨v2, vs2, d2, ds2, p2, q2, rfl, rfl, rfl, h2, r2⟩ := trodAll_cons r1
  obtain ⟨v3, vs3, d3, ds3, p3, q3, rfl, rfl, rfl, h3, r3⟩ := trodAll_cons r2
  obtain ⟨v4, vs4, d4, ds4, p4, q4, rfl, rfl, rfl, h4, r4⟩ := trodAll_cons r3
  obtain ⟨rfl, rfl, rfl⟩ := trodAll_nil r4
  obtain rfl : args = #[v0, v1, v2, v3, v4] := by cases args; simp_all
  obtain ⟨rfl, rfl⟩ := trodVars_none hV
  have k0 := h0
  have lt0 : ∀ x ∈ p0, x.block < W.heap.size := by
    obtain ⟨m, hm⟩ := k0
    exact DataW.trod_lt m _ _ _ hm
  have k1 := h1
  have lt1 : ∀ x ∈ p1, x.block < W.heap.size := by
    obtain ⟨m, hm⟩ := k1
    exact DataW.trod_lt m _ _ _ hm
  have k2 := h2
  have lt2 : ∀ x ∈ p2, x.block < W.heap.size := by
    obtain ⟨m, hm⟩ := k2
    exact DataW.trod_lt m _ _ _ hm
  have k3 := h3
  have lt3 : ∀ x ∈ p3, x.block < W.heap.size := by
    obtain ⟨m, hm⟩ := k3
    exact DataW.trod_lt m _ _ _ hm
  have k4 := h4
  have lt4 : ∀ x ∈ p4, x.block < W.heap.size := by
    obtain ⟨m, hm⟩ := k4
    exact DataW.trod_lt m _ _ _ hm
  obtain ⟨a0, b0, c0, d0, e0, rfl, y0, z0, t0, w0⟩ := open_rings (hval 0 24 v0 rfl rfl) h0
  obtain ⟨a1, rfl, rfl, rfl, w1⟩ := open_int Try.underlying3 (hval 1 3 v1 rfl rfl) h1
  obtain ⟨a2, rfl, rfl, rfl, w2⟩ := open_int Try.underlying3 (hval 2 3 v2 rfl rfl) h2
  obtain ⟨a3, rfl, rfl, rfl, w3⟩ := open_int Try.underlying3 (hval 3 3 v3 rfl rfl) h3
  obtain ⟨a4, rfl, rfl, rfl, w4⟩ := open_int Try.underlying3 (hval 4 3 v4 rfl rfl) h4
  clear hA0 hval0
  refine (walk a0 b0 c0 d0 e0 a1 a2 a3 a4 w1 w2 w3 w4 y0 z0 t0 w0 W).mono fun e W' ⟨he, bel⟩ => ?_
  subst he
  exact ⟨_, rfl, _, _, _, [], _, [], hW', trodAll_mk1 (shut_bool Try.underlying4 _), (trodAll_cons_mk (Below.trod laidOut (by kernel_rfl) (of_decide_eq_true (by kernel_rfl)) k0 bel lt0) (trodAll_cons_mk (Below.trod laidOut (by kernel_rfl) (of_decide_eq_true (by kernel_rfl)) k1 bel lt1) (trodAll_cons_mk (Below.trod laidOut (by kernel_rfl) (of_decide_eq_true (by kernel_rfl)) k2 bel lt2) (trodAll_cons_mk (Below.trod laidOut (by kernel_rfl) (of_decide_eq_true (by kernel_rfl)) k3 bel lt3) (trodAll_cons_mk (Below.trod laidOut (by kernel_rfl) (of_decide_eq_true (by kernel_rfl)) k4 bel lt4) trodAll_mk0))))), rfl, bel.frame _, fun h => by cases h⟩

theorem over : Rows.layoutApartRow.holds Try.pinned (OpenSpec.ofChange Rows.layoutApartSpec) :=
  OpenClaim.holds_of_wide 5 Try.f5 rfl rfl rfl rfl rfl rfl rfl ⟨rfl, rfl, rfl, rfl, rfl⟩ rfl rfl rfl rfl rfl (by kernel_rfl) Try.func5 (by kernel_rfl)
    (of_decide_eq_true (by kernel_rfl)) (by unfold Func.isWrapper; first | (rw [if_pos (by decide +kernel)]; kernel_rfl) | (rw [if_neg (by decide +kernel)]; exact ⟨rfl, rfl⟩))
    (fun os started H enc _ => lifted os started H enc)

/-- THE STATEMENT -/
theorem layoutApart_holds : Rows.LayoutApartSaid := over
#print axioms layoutApart_holds
end Go.Proofs.Ytolflhnkdnjckaa.layoutApart
