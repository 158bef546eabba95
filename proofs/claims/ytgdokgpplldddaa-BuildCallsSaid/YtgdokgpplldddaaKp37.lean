/- Rd1 Rd3: joined texts. Conditions: as each theorem names them. -/
import Derived.Test.YtgdokgpplldddaaKp36
import Derived.Test.YtgdokgpplldddaaKp08
import Derived.Test.YtgdokgpplldddaaKp09
import Derived.Laws.AppendOwn
import Derived.OwnWalk
import Derived.Maps.AppendAt
/- The reference of layer 3: put, get. Conditions: as each theorem names them. -/
namespace Go.Proofs.Ytgdokgpplldddaa
open Go.ChangeShapes Go.WideShapes Go.ChangeAt Go.RowKit
set_option linter.unusedVariables false
set_option maxRecDepth 100000

/-- bytes in a row of the call's own -/
abbrev OwnB (w : World) (B : Nat) (v : Value) (l : List Int) : Prop := w.ownsRow B 5 1 v l.length (l.map (Value.int .u8))
theorem byte_shr (x : Int) (j : Nat) (h0 : 0 ≤ x) : x / 2 ^ (8 * j) % 256 = x / pow2 (8 * j) % 256 := by rw [two_pow_int]
theorem rput_any (v : Value) (B : Nat) (l : List Int) (x : Int) (n : Nat) (w : World) (ho : OwnB w B v l) (hB : B ≤ w.heap.size) (hl : l.length ≤ 100000) (h8 : n ≤ 8) (hx : 0 ≤ x ∧ x < 18446744073709551616) :
    Calls Try.prog 72 #[v, .int .u64 x, .int .i64 n] w fun e w' => ∃ v', e = .returned v' ∧ OwnB w' B v' (l ++ leB n x) ∧ Below B w w' := by
  obtain ⟨i0, hi, hz0, hz1, hz2⟩ := info_parts rowU8
  obtain ⟨hx0, hx1⟩ := hx
  have HI := hid_mk hi
  have HZ := hid_mk (And.intro hz0 (And.intro hz1 hz2))
  have HO := hid_mk ho
  have HB := hid_mk hB
  have hni : (n : Int) ≤ 8 := by omega
  clear hi hz0 hz1 hz2 ho hB
  go_enter Try.func72, Try.ntmps72
  go_wp2_with fail
  go_loopw [0, 7] (fun s i wr => ∃ k : Nat, k ≤ n ∧ i = .int .i64 k ∧ Hid (OwnB wr B s (l ++ leB k x)) ∧ Below B w wr) (fun _ i _ => n - (intOf i).toNat)
  case atStart => exact ⟨0, Nat.zero_le _, rfl, hid_mk (by rw [leB, List.append_nil]; exact HO.out), Below.refl _ _⟩
  case round =>
    obtain ⟨k, hk, rfl, hO, hbel⟩ := hrel
    have hz := hbel.size
    by_cases hlt : k < n
    · have hki : (k : Int) < (n : Int) := by omega
      have hwk : IntKind.i64.wrap (8 * (k : Int)) = 8 * (k : Int) := IntWalk.i64_in _ (by omega)
      have hwu : IntKind.u64.wrap (8 * (k : Int)) = 8 * (k : Int) := by rw [IntKind.wrap_u64]; omega
      have hnew : l ++ leB (k + 1) x = (l ++ leB k x) ++ [x / 2 ^ (8 * k) % 256] := by rw [leB_snoc, List.append_assoc, two_pow_int]
      have hll : (l ++ leB k x).length = l.length + k := by rw [List.length_append, leB_length]
      have hnl : (l ++ leB (k + 1) x).length = (l ++ leB k x).length + 1 := by rw [List.length_append, List.length_append, leB_length, leB_length]; omega
      have hra : ∃ v' w2, (∀ ty, (Builtin.append_ #[49, 49] ty #[u0, .slice (some ⟨wr.heap.size, 0, none⟩) 1 1]).run Try.prog (wr.alloc (.cells #[.int .u8 (x / 2 ^ (8 * k) % 256)] 5)) = .ok v' w2) ∧ OwnB w2 B v' (l ++ leB (k + 1) x) ∧ Below B w w2 := by
        obtain ⟨v', w2, h1, h2, h3, _⟩ := run_append_own (P := Try.prog) (wr.alloc (.cells #[.int .u8 (x / 2 ^ (8 * k) % 256)] 5)) B 49 49 5 i0 _ 1 1 Try.underlying49 HI.out HZ.out.1 HZ.out.2.1 HZ.out.2.2 rfl (by decide) u0 _ _ (hO.out.alloc _) ⟨wr.heap.size, 0, none⟩ 1 1 [.int .u8 (x / 2 ^ (8 * k) % 256)] rfl (cell_one_new _ _ _) (fun u hu => by
          rw [List.mem_singleton] at hu
          subst hu
          rfl) (by rw [hll]; simp [maxLen]; omega) (by rw [hll]; omega) (by rw [sizeA]; have := HB.out; omega)
        refine ⟨v', w2, fun ty => h1, ?_, ?_⟩
        · unfold OwnB
          rw [hnl, hnew, List.map_append]
          exact h2
        · have hq : Below B wr w2 := ((Below.refl _ _).alloc (by have := HB.out; omega) _).trans (grown_below h3 (by rw [sizeA]; have := HB.out; omega) (fun q hq => (hO.out.lt q hq).1))
          exact hbel.trans hq
      obtain ⟨v', w2, h1, h2, h3⟩ := hra
      have HR := hid_mk h1
      have HO2 := hid_mk h2
      have HB2 := hid_mk h3
      clear h1 h2 h3 hnew hll hnl hz
      go_wp2_with (at_builtin; refine wpList_append_run (v := u0) (u := .slice (some ⟨wr.heap.size, 0, none⟩) 1 1) (v' := v') (w' := w2) rfl (.tmp 13) (.tmp 20) 49 rfl (by first | rfl | go_simp) (by first | rfl | go_simp) (HR.out _) ?_)
      go_roundw
      case rel => exact ⟨k + 1, by omega, by go_num, HO2, HB2.out⟩
      case measure => simp [intOf] <;> omega
    · obtain rfl : k = n := by omega
      go_wp2_with fail
      go_ret
      exact ⟨_, rfl, hO.out, hbel⟩

set_option maxHeartbeats 1000000 in
theorem rget_any (b o c m : Nat) (l : List Int) (k n : Nat) (w : World) (hm : l.length = m) (hc : ∀ j, j < l.length → w.cell? ⟨b, o + j, none⟩ = some (.int .u8 (l.getD j 0))) (hB : isBytes l) (hk : k + n ≤ l.length) (h8 : n ≤ 8) (hn1 : 1 ≤ n) (hM : m ≤ 100000) :
    Calls Try.prog 54 #[.slice (some ⟨b, o, none⟩) m c, .int .i64 k, .int .i64 n] w fun e w' => e = .returned (.int .u64 (le ((l.drop k).take n))) ∧ w = w' := by
  have hlen : ((l.drop k).take n).length = n := by simp; omega
  have HB := hid_mk (isBytes_take (isBytes_drop hB k) n)
  have HL := hid_mk hlen
  have HC := hid_mk (fun (j : Nat) (hj : j < n) => show w.cell? ⟨b, o + (k + j), none⟩ = some (.int .u8 (((l.drop k).take n).getD j 0)) by
    rw [hc (k + j) (by omega)]
    congr 2
    simp only [List.getD_eq_getElem?_getD, List.getElem?_take, List.getElem?_drop]
    rw [if_pos hj])
  have hkn : k + n ≤ m := by omega
  generalize (l.drop k).take n = y at *
  clear hc hlen hB hk hm
  have hn1i : (1 : Int) ≤ (n : Int) := by omega
  have hn8i : (n : Int) ≤ 8 := by omega
  go_enter Try.func54, Try.ntmps54
  go_wp2_with fail
  go_loop [7, 8] (fun x i => ∃ j : Nat, j ≤ n ∧ i = .int .i64 ((j : Int) - 1) ∧ x = .int .u64 (le (y.drop j))) (fun _ i => (intOf i + 1).toNat)
  case atStart => exact ⟨n, Nat.le_refl _, rfl, by rw [List.drop_of_length_le (by rw [HL.out]; exact Nat.le_refl _)]; rfl⟩
  case round =>
    obtain ⟨j, hj, rfl, rfl⟩ := hrel
    rcases Nat.eq_zero_or_pos j with hj0 | hjp
    · subst hj0
      have hneg : decide (0 ≤ (0 : Int) - 1) = false := by simp
      go_wp2_with fail
      go_ret
      exact ⟨rfl, rfl⟩
    · obtain ⟨u, rfl⟩ : ∃ u, j = u + 1 := ⟨j - 1, by omega⟩
      have HSTEP := hid_mk (leL_step y u (by rw [HL.out]; omega))
      obtain ⟨hd0, hd1⟩ := le_bd HB.out u (by rw [HL.out]; omega) (by rw [HL.out]; omega)
      obtain ⟨hf0, hf1⟩ := isBytes_at HB.out u
      have cc := HC.out u (by omega)
      have hkum : (k : Int) + (u : Int) < (m : Int) := by omega
      generalize y.getD u 0 = z at *
      go_wp2_with fail
      go_round
      case rel => exact ⟨u, by omega, by go_num, by rw [HSTEP.out]⟩
      case measure => simp [intOf]
end Go.Proofs.Ytgdokgpplldddaa

/- The reference of layer 3: Read, ReadPacked; words and flags. Conditions: as each theorem names them. -/
namespace Go.Proofs.Ytgdokgpplldddaa
open Go.ChangeShapes Go.WideShapes Go.ChangeAt Go.RowKit
set_option linter.unusedVariables false
set_option maxRecDepth 100000

theorem rdread_at (b o c : Nat) (l : List Int) (w : World) (hB : isBytes l) (hl : l.length = 16) (hb : b < w.heap.size) (hc : ∀ j, j < 16 → w.cell? ⟨b, o + j, none⟩ = some (.int .u8 (l.getD j 0))) :
    Calls Try.prog 53 #[.slice (some ⟨b, o, none⟩) 16 c] w fun e w' => e = .returned (.tuple #[dV (dR l), .int .i64 0]) ∧ Below w.heap.size w w' := by
  have hg := fun (u : World) (hu : Below w.heap.size w u) (k n : Nat) (hk : k + n ≤ 16) (h8 : n ≤ 8) (h1 : 1 ≤ n) => rget_any b o c 16 l k n u hl (fun j hj => (hu.cell (p := ⟨b, o + j, none⟩) hb).trans (hc j (by omega))) hB (by omega) h8 h1 (by omega)
  have h0 := fun u hu => hg u hu 0 8 (by omega) (by omega) (by omega)
  have h8 := fun u hu => hg u hu 8 4 (by omega) (by omega) (by omega)
  have h12 := fun u hu => hg u hu 12 2 (by omega) (by omega) (by omega)
  have h14 := fun u hu => hg u hu 14 2 (by omega) (by omega) (by omega)
  have H0 := hid_mk h0
  have H8 := hid_mk h8
  have H12 := hid_mk h12
  have H14 := hid_mk h14
  have hd := dR_is hB hl
  obtain ⟨l0, l1⟩ := hd.l
  obtain ⟨f0, f1⟩ := hd.f
  obtain ⟨n0, n1⟩ := hd.n
  have hBz : ∀ o, Below w.heap.size w (w.alloc o) := fun o => (Below.refl _ _).alloc (Nat.le_refl _) _
  have HBz := hid_mk hBz
  have e0 : (dR l).a = le ((l.drop 0).take 8) := rfl
  have e1 : (dR l).l = le ((l.drop 8).take 4) := rfl
  have e2 : (dR l).f = le ((l.drop 12).take 2) := rfl
  have e3 : (dR l).n = le ((l.drop 14).take 2) := rfl
  have hdv : dV (dR l) = .agg #[.int .u64 (le ((l.drop 0).take 8)), .int .u32 (le ((l.drop 8).take 4)), .int .u16 (le ((l.drop 12).take 2)), .int .u16 (le ((l.drop 14).take 2))] := rfl
  rw [hdv]
  rw [e1] at l0 l1
  rw [e2] at f0 f1
  rw [e3] at n0 n1
  clear hg h0 h8 h12 h14 hd hc hB hl hBz e0 e1 e2 e3 hdv
  generalize le ((l.drop 0).take 8) = x0 at *
  generalize le ((l.drop 8).take 4) = x1 at *
  generalize le ((l.drop 12).take 2) = x2 at *
  generalize le ((l.drop 14).take 2) = x3 at *
  go_enter Try.func53, Try.ntmps53
  go_wp2_with fail
  refine (H0.out _ (HBz.out _)).mono ?_
  rintro e w1 ⟨rfl, rfl⟩
  go_wp2_with fail
  refine (H8.out _ (HBz.out _)).mono ?_
  rintro e w1 ⟨rfl, rfl⟩
  go_wp2_with fail
  refine (H12.out _ (HBz.out _)).mono ?_
  rintro e w1 ⟨rfl, rfl⟩
  go_wp2_with fail
  refine (H14.out _ (HBz.out _)).mono ?_
  rintro e w1 ⟨rfl, rfl⟩
  go_wp2_with fail
  exact bodyPost_ret (v := .tuple #[.agg #[.int .u64 x0, .int .u32 x1, .int .u16 x2, .int .u16 x3], .int .i64 0]) (by simp [results, Try.results53, go_sem]) rfl ⟨rfl, (by repeat (first | exact Below.refl _ _ | (refine Below.alloc ?_ (by first | (simp; done) | (simp; omega)) _) | (refine Below.setCell ?_ (by first | (simp; done) | (simp; omega)) _)))⟩
theorem rdread_no (v : Value) (l : List Int) (w : World) (hv : BytesAt w v l) (hl : l.length ≠ 16) (hm : l.length ≤ 281474976710656) :
    Calls Try.prog 53 #[v] w fun e w' => e = .returned (.tuple #[dV ⟨0, 0, 0, 0⟩, .int .i64 4]) ∧ Below w.heap.size w w' := by
  have hlen : ∃ a c, v = .slice a l.length c := by
    rcases hv with ⟨⟨a, c, rfl, _⟩, rfl⟩ | ⟨b, o, c, rfl, _⟩
    · exact ⟨a, c, rfl⟩
    · exact ⟨_, c, rfl⟩
  obtain ⟨a, c, rfl⟩ := hlen
  have hz : ((l.length : Int) != 16) = true := by simp; omega
  clear hv hl
  go_enter Try.func53, Try.ntmps53
  go_wp2_with fail
  exact bodyPost_ret (v := .tuple #[dV ⟨0, 0, 0, 0⟩, .int .i64 4]) (by simp [results, Try.results53, go_sem]) rfl ⟨rfl, (by repeat (first | exact Below.refl _ _ | (refine Below.alloc ?_ (by first | (simp; done) | (simp; omega)) _) | (refine Below.setCell ?_ (by first | (simp; done) | (simp; omega)) _)))⟩
theorem rdread_any (v : Value) (l : List Int) (w : World) (hv : BytesAt w v l) (hB : isBytes l) (hm : l.length ≤ 281474976710656) :
    Calls Try.prog 53 #[v] w fun e w' => e = .returned (.tuple #[dV (rdD l), .int .i64 (rdE l)]) ∧ Below w.heap.size w w' := by
  by_cases h : l.length = 16
  · rw [(rd_yes h).1, (rd_yes h).2]
    rcases hv with ⟨_, rfl⟩ | ⟨b, o, c, rfl, h1, h2, h3⟩
    · simp at h
    · rw [h] at h3 ⊢
      exact rdread_at b o c l w hB h h1 h3
  · rw [(rd_no h).1, (rd_no h).2]
    exact rdread_no v l w hv h hm
theorem rpread_at (b o c : Nat) (l : List Int) (w : World) (hB : isBytes l) (hl : l.length = 16) (hb : b < w.heap.size) (hc : ∀ j, j < 16 → w.cell? ⟨b, o + j, none⟩ = some (.int .u8 (l.getD j 0))) :
    Calls Try.prog 30 #[.slice (some ⟨b, o, none⟩) 16 c] w fun e w' => e = .returned (.tuple #[dV (dR l), .int .i64 0]) ∧ Below w.heap.size w w' := by
  have hg := fun (u : World) (hu : Below w.heap.size w u) (k n : Nat) (hk : k + n ≤ 16) (h8 : n ≤ 8) (h1 : 1 ≤ n) => rget_any b o c 16 l k n u hl (fun j hj => (hu.cell (p := ⟨b, o + j, none⟩) hb).trans (hc j (by omega))) hB (by omega) h8 h1 (by omega)
  have h0 := fun u hu => hg u hu 0 8 (by omega) (by omega) (by omega)
  have h8 := fun u hu => hg u hu 8 4 (by omega) (by omega) (by omega)
  have h12 := fun u hu => hg u hu 12 2 (by omega) (by omega) (by omega)
  have h14 := fun u hu => hg u hu 14 2 (by omega) (by omega) (by omega)
  have H0 := hid_mk h0
  have H8 := hid_mk h8
  have H12 := hid_mk h12
  have H14 := hid_mk h14
  have hd := dR_is hB hl
  obtain ⟨l0, l1⟩ := hd.l
  obtain ⟨f0, f1⟩ := hd.f
  obtain ⟨n0, n1⟩ := hd.n
  have hBz : ∀ o, Below w.heap.size w (w.alloc o) := fun o => (Below.refl _ _).alloc (Nat.le_refl _) _
  have HBz := hid_mk hBz
  have e0 : (dR l).a = le ((l.drop 0).take 8) := rfl
  have e1 : (dR l).l = le ((l.drop 8).take 4) := rfl
  have e2 : (dR l).f = le ((l.drop 12).take 2) := rfl
  have e3 : (dR l).n = le ((l.drop 14).take 2) := rfl
  have hdv : dV (dR l) = .agg #[.int .u64 (le ((l.drop 0).take 8)), .int .u32 (le ((l.drop 8).take 4)), .int .u16 (le ((l.drop 12).take 2)), .int .u16 (le ((l.drop 14).take 2))] := rfl
  rw [hdv]
  rw [e1] at l0 l1
  rw [e2] at f0 f1
  rw [e3] at n0 n1
  clear hg h0 h8 h12 h14 hd hc hB hl hBz e0 e1 e2 e3 hdv
  generalize le ((l.drop 0).take 8) = x0 at *
  generalize le ((l.drop 8).take 4) = x1 at *
  generalize le ((l.drop 12).take 2) = x2 at *
  generalize le ((l.drop 14).take 2) = x3 at *
  go_enter Try.func30, Try.ntmps30
  go_wp2_with fail
  refine (H0.out _ (HBz.out _)).mono ?_
  rintro e w1 ⟨rfl, rfl⟩
  go_wp2_with fail
  refine (H8.out _ (HBz.out _)).mono ?_
  rintro e w1 ⟨rfl, rfl⟩
  go_wp2_with fail
  refine (H12.out _ (HBz.out _)).mono ?_
  rintro e w1 ⟨rfl, rfl⟩
  go_wp2_with fail
  refine (H14.out _ (HBz.out _)).mono ?_
  rintro e w1 ⟨rfl, rfl⟩
  go_wp2_with fail
  exact bodyPost_ret (v := .tuple #[.agg #[.int .u64 x0, .int .u32 x1, .int .u16 x2, .int .u16 x3], .int .i64 0]) (by simp [results, Try.results30, go_sem]) rfl ⟨rfl, (by repeat (first | exact Below.refl _ _ | (refine Below.alloc ?_ (by first | (simp; done) | (simp; omega)) _) | (refine Below.setCell ?_ (by first | (simp; done) | (simp; omega)) _)))⟩
theorem rpread_no (v : Value) (l : List Int) (w : World) (hv : BytesAt w v l) (hl : l.length ≠ 16) (hm : l.length ≤ 281474976710656) :
    Calls Try.prog 30 #[v] w fun e w' => e = .returned (.tuple #[dV ⟨0, 0, 0, 0⟩, .int .i64 4]) ∧ Below w.heap.size w w' := by
  have hlen : ∃ a c, v = .slice a l.length c := by
    rcases hv with ⟨⟨a, c, rfl, _⟩, rfl⟩ | ⟨b, o, c, rfl, _⟩
    · exact ⟨a, c, rfl⟩
    · exact ⟨_, c, rfl⟩
  obtain ⟨a, c, rfl⟩ := hlen
  have hz : ((l.length : Int) != 16) = true := by simp; omega
  clear hv hl
  go_enter Try.func30, Try.ntmps30
  go_wp2_with fail
  exact bodyPost_ret (v := .tuple #[dV ⟨0, 0, 0, 0⟩, .int .i64 4]) (by simp [results, Try.results30, go_sem]) rfl ⟨rfl, (by repeat (first | exact Below.refl _ _ | (refine Below.alloc ?_ (by first | (simp; done) | (simp; omega)) _) | (refine Below.setCell ?_ (by first | (simp; done) | (simp; omega)) _)))⟩
theorem rpread_any (v : Value) (l : List Int) (w : World) (hv : BytesAt w v l) (hB : isBytes l) (hm : l.length ≤ 281474976710656) :
    Calls Try.prog 30 #[v] w fun e w' => e = .returned (.tuple #[dV (rdD l), .int .i64 (rdE l)]) ∧ Below w.heap.size w w' := by
  by_cases h : l.length = 16
  · rw [(rd_yes h).1, (rd_yes h).2]
    rcases hv with ⟨_, rfl⟩ | ⟨b, o, c, rfl, h1, h2, h3⟩
    · simp at h
    · rw [h] at h3 ⊢
      exact rpread_at b o c l w hB h h1 h3
  · rw [(rd_no h).1, (rd_no h).2]
    exact rpread_no v l w hv h hm

/-! ## words -/
end Go.Proofs.Ytgdokgpplldddaa
