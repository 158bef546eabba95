/- Layer 3's arguments as they came in; kit.SameDescs of two slices of the same descriptors. Conditions: as each theorem names them. -/
import Derived.Test.YtfjccpalkdmniaaDsc10
import Derived.Test.YtfjccpalkdmniaaArg
import Derived.OpenShut
import Derived.Deep.SlicePairs
import Derived.Lib.SmallJoins
import Derived.BigQuiet
namespace Go.Proofs.Ytfjccpalkdmniaa
open Go.ChangeShapes Go.WideShapes Go.ChangeAt Go.RowKit
set_option linter.unusedVariables false
set_option maxRecDepth 100000

section
variable {H : Type} {enc : TypeId × Value → H} {W : World} {r : Reach} {b0 : Nat} {v : Value} {d : DataW H} {p : List MemPlace}

theorem open_dsc (hval : Value.okWide Try.prog W r b0 56 v) (h : DataW.Trod enc Try.prog W 0 (fun _ => true) true 56 v d p) : ∃ x : Dsc, v = dV x ∧ isDsc x := by
  obtain ⟨c0, c1, c2, c3, y0, y1, y2, y3, m, rfl, rfl, rfl, h0, h1, h2, h3⟩ := Go.Joins.open_agg4 Try.underlying56 (by kernel_rfl) (by kernel_rfl) hval h
  obtain ⟨n0, e0, _, w0⟩ := DataW.trod_int Try.underlying26 h0
  obtain ⟨n1, e1, _, w1⟩ := DataW.trod_int Try.underlying53 h1
  obtain ⟨n2, e2, _, w2⟩ := DataW.trod_int Try.underlying54 h2
  obtain ⟨n3, e3, _, w3⟩ := DataW.trod_int Try.underlying54 h3
  simp at e0 e1 e2 e3
  subst e0 e1 e2 e3
  have u0 := bounds_u64 w0
  have u1 := bounds_u32 w1
  have u2 := bounds_u16 w2
  have u3 := bounds_u16 w3
  exact ⟨⟨n0, n1, n2, n3⟩, rfl, ⟨by simp only; omega, by simp only; omega, by simp only; omega, by simp only; omega⟩⟩
theorem open_pck (hval : Value.okWide Try.prog W r b0 60 v) (h : DataW.Trod enc Try.prog W 0 (fun _ => true) true 60 v d p) : ∃ x : Dsc, v = dV x ∧ isDsc x := by
  obtain ⟨c0, c1, c2, c3, y0, y1, y2, y3, m, rfl, rfl, rfl, h0, h1, h2, h3⟩ := Go.Joins.open_agg4 Try.underlying60 (by kernel_rfl) (by kernel_rfl) hval h
  obtain ⟨n0, e0, _, w0⟩ := DataW.trod_int Try.underlying26 h0
  obtain ⟨n1, e1, _, w1⟩ := DataW.trod_int Try.underlying53 h1
  obtain ⟨n2, e2, _, w2⟩ := DataW.trod_int Try.underlying54 h2
  obtain ⟨n3, e3, _, w3⟩ := DataW.trod_int Try.underlying54 h3
  simp at e0 e1 e2 e3
  subst e0 e1 e2 e3
  have u0 := bounds_u64 w0
  have u1 := bounds_u32 w1
  have u2 := bounds_u16 w2
  have u3 := bounds_u16 w3
  exact ⟨⟨n0, n1, n2, n3⟩, rfl, ⟨by simp only; omega, by simp only; omega, by simp only; omega, by simp only; omega⟩⟩
theorem open_used (hval : Value.okWide Try.prog W r b0 68 v) (h : DataW.Trod enc Try.prog W 0 (fun _ => true) true 68 v d p) : ∃ i l : Int, v = .agg #[.int .u32 i, .int .u32 l] ∧ (0 ≤ i ∧ i < 4294967296) ∧ 0 ≤ l ∧ l < 4294967296 := by
  obtain ⟨c0, c1, y0, y1, m, rfl, rfl, rfl, h0, h1⟩ := Go.Joins.open_agg2 Try.underlying68 (by kernel_rfl) (by kernel_rfl) hval h
  obtain ⟨n0, e0, _, w0⟩ := DataW.trod_int Try.underlying53 h0
  obtain ⟨n1, e1, _, w1⟩ := DataW.trod_int Try.underlying53 h1
  simp at e0 e1
  subst e0 e1
  have u0 := bounds_u32 w0
  have u1 := bounds_u32 w1
  exact ⟨n0, n1, rfl, by omega, by omega, by omega⟩
theorem open_event (hval : Value.okWide Try.prog W r b0 71 v) (h : DataW.Trod enc Try.prog W 0 (fun _ => true) true 71 v d p) : ∃ i l : Int, v = .agg #[.int .u16 i, .int .u16 l] ∧ (0 ≤ i ∧ i < 65536) ∧ 0 ≤ l ∧ l < 65536 := by
  obtain ⟨c0, c1, y0, y1, m, rfl, rfl, rfl, h0, h1⟩ := Go.Joins.open_agg2 Try.underlying71 (by kernel_rfl) (by kernel_rfl) hval h
  obtain ⟨n0, e0, _, w0⟩ := DataW.trod_int Try.underlying54 h0
  obtain ⟨n1, e1, _, w1⟩ := DataW.trod_int Try.underlying54 h1
  simp at e0 e1
  subst e0 e1
  have u0 := bounds_u16 w0
  have u1 := bounds_u16 w1
  exact ⟨n0, n1, rfl, by omega, by omega, by omega⟩
instance : Inhabited Dsc := ⟨⟨0, 0, 0, 0⟩⟩
theorem list4 {α : Type} {l : List α} (h : l.length = 4) : ∃ a b c d, l = [a, b, c, d] := by
  match l, h with
  | [a, b, c, d], _ => exact ⟨a, b, c, d, rfl⟩
theorem open_descs (hval : Value.okWide Try.prog W r b0 63 v) (h : DataW.Trod enc Try.prog W 0 (fun _ => true) true 63 v d p) :
    ∃ L, DescsAt W v L ∧ isDscs L ∧ L.length ≤ maxLen := by
  obtain ⟨a, len, cap, rfl⟩ := okWide_slice Try.underlying63 hval
  obtain ⟨fuel, hf⟩ := h
  rcases Go.Deep.open_slice Try.underlying63 hf with ⟨hcs, _⟩ | ⟨a', len', cap', m, n, D, Pl, hcs, _, hle, hmax, hm, _, hx⟩
  · simp [Value.cells] at hcs
    obtain ⟨rfl, rfl, rfl⟩ := hcs
    exact ⟨[], Or.inl ⟨⟨_, _, rfl, fun _ => rfl⟩, rfl⟩, (fun d hd => by cases hd), by simp⟩
  · simp [Value.cells] at hcs
    obtain ⟨rfl, rfl, rfl⟩ := hcs
    simp only [if_true] at hm
    subst hm
    have hC : Try.prog.cellsOf 56 = 4 := by kernel_rfl
    have hC64 : Try.prog.cellsOf 26 = 1 := by kernel_rfl
    have hC32 : Try.prog.cellsOf 53 = 1 := by kernel_rfl
    have hC16 : Try.prog.cellsOf 54 = 1 := by kernel_rfl
    have each : ∀ i, i < len → ∃ x : Dsc, (W.cell? (a'.add (i * 4)) = some (.int .u64 x.a) ∧ W.cell? (a'.add (i * 4 + 1)) = some (.int .u32 x.l) ∧ W.cell? (a'.add (i * 4 + 2)) = some (.int .u16 x.f) ∧ W.cell? (a'.add (i * 4 + 3)) = some (.int .u16 x.n)) ∧ isDsc x := fun i hi => by
      obtain ⟨cs', h1, h2⟩ := hx i (by omega)
      rw [hC] at h1
      obtain ⟨_, hlen, hcell⟩ := World.cells?_some h1
      obtain ⟨v0, v1, v2, v3, rfl⟩ := list4 hlen
      obtain ⟨xs, k, hk, hxy, _, hxl, hfd⟩ := DataW.trod_struct Try.underlying56 h2
      obtain ⟨y0, y1, y2, y3, rfl⟩ := list4 hxl
      have g0 := hfd 0 _ rfl
      have g1 := hfd 1 _ rfl
      have g2 := hfd 2 _ rfl
      have g3 := hfd 3 _ rfl
      simp [hC64, hC32, hC16] at g0 g1 g2 g3
      obtain ⟨n0, e0, _, w0⟩ := DataW.trod_int Try.underlying26 g0
      obtain ⟨n1, e1, _, w1⟩ := DataW.trod_int Try.underlying53 g1
      obtain ⟨n2, e2, _, w2⟩ := DataW.trod_int Try.underlying54 g2
      obtain ⟨n3, e3, _, w3⟩ := DataW.trod_int Try.underlying54 g3
      simp at e0 e1 e2 e3
      subst e0 e1 e2 e3
      have c0 := hcell 0 (by omega)
      have c1 := hcell 1 (by omega)
      have c2 := hcell 2 (by omega)
      have c3 := hcell 3 (by omega)
      rw [Go.Deep.add_add] at c0 c1 c2 c3
      have u0 := bounds_u64 w0
      have u1 := bounds_u32 w1
      have u2 := bounds_u16 w2
      have u3 := bounds_u16 w3
      exact ⟨⟨n0, n1, n2, n3⟩, ⟨c0, c1, c2, c3⟩, ⟨by simp only; omega, by simp only; omega, by simp only; omega, by simp only; omega⟩⟩
    obtain ⟨f, hf2⟩ := Go.Deep.choose_lt each
    have hlen : ((List.range len).map f).length = len := by simp
    have hat : ∀ i, i < len → dat ((List.range len).map f) i = f i := fun i hi => by simp [dat, List.getD, hi]
    refine ⟨(List.range len).map f, ?_, (fun d hd => by
      obtain ⟨i, hi, rfl⟩ := List.mem_map.1 hd
      exact (hf2 i (by simpa using hi)).2), by rw [hlen]; omega⟩
    by_cases h0 : len = 0
    · subst h0
      exact Or.inl ⟨⟨_, _, rfl, fun h => by cases h⟩, rfl⟩
    · obtain ⟨b, off, spot⟩ := a'
      have hspot : spot = none := by simpa [Addr.add] using World.cell?_spot (hf2 0 (by omega)).1.1
      subst hspot
      have h00 := (hf2 0 (by omega)).1.1
      rw [add_plain] at h00
      refine Or.inr ⟨b, off, m, by rw [hlen], World.block_lt_of_cell? W _ h00, by omega, fun j hj => ?_⟩
      rw [hlen] at hj
      have h1 := (hf2 j hj).1
      simp only [add_plain] at h1
      rw [hat j hj]
      exact ⟨h1.1, by rw [Nat.add_assoc]; exact h1.2.1, by rw [Nat.add_assoc]; exact h1.2.2.1, by rw [Nat.add_assoc]; exact h1.2.2.2⟩
end

set_option maxHeartbeats 2000000 in
theorem samed_any (v1 v2 : Value) (L : List Dsc) (w : World) (h1 : DescsAt w v1 L) (h2 : DescsAt w v2 L) (hm : L.length ≤ 1000) :
    Calls Try.prog 43 #[v1, v2] w fun e w' => e = .returned (.bool true) ∧ Below w.heap.size w w' := by
  have hmi : (L.length : Int) ≤ 1000 := by omega
  by_cases hL : L = []
  · subst hL
    obtain ⟨a1, c1, rfl⟩ := h1.len
    obtain ⟨a2, c2, rfl⟩ := h2.len
    clear h1 h2 hm hmi
    go_enter Try.func43, Try.ntmps43
    go_wp2_with fail
    go_loop [5] (fun i => i = .int .i64 0) (fun _ => 0)
    case atStart => rfl
    case round =>
      obtain rfl := hrel
      go_wp2_with fail
      go_ret
      exact ⟨rfl, Below.refl _ _⟩
  · rcases h1 with ⟨_, h⟩ | ⟨b, o, c, rfl, hb1, hb2, hb3⟩
    · exact absurd h hL
    rcases h2 with ⟨_, h⟩ | ⟨b2, o2, c2, rfl, g1, g2, g3⟩
    · exact absurd h hL
    have HC := hid_mk hb3
    have HG := hid_mk g3
    clear hb3 g3 hL hm
    go_enter Try.func43, Try.ntmps43
    go_wp2_with fail
    go_loopw [5] (fun i wr => ∃ k m : Nat, k ≤ L.length ∧ i = .int .i64 k ∧ wr = w.drewN m) (fun i _ => L.length - (intOf i).toNat)
    case atStart => exact ⟨0, 0, Nat.zero_le _, rfl, rfl⟩
    case round =>
      obtain ⟨k, m, hk, rfl, rfl⟩ := hrel
      by_cases hlt : k < L.length
      · obtain ⟨q0, q1, q2, q3⟩ := HC.out k hlt
        obtain ⟨r0, r1, r2, r3⟩ := HG.out k hlt
        generalize (dat L k).a = x0 at *
        generalize (dat L k).l = x1 at *
        generalize (dat L k).f = x2 at *
        generalize (dat L k).n = x3 at *
        go_wp2_with fail
        go_quiet (fail)
        go_wp2_with fail
        go_roundw
        case rel => exact ⟨k + 1, _, by omega, by go_num, rfl⟩
        case measure => simp [intOf] <;> omega
      · obtain rfl : k = L.length := by omega
        go_wp2_with fail
        go_ret
        exact ⟨rfl, below_drewN _ _⟩

/-! ## the contracts with a name for the new block -/
theorem bytes_ex (d : Dsc) (w : World) (hd : isDsc d) :
    Calls Try.prog 46 #[dV d] w fun e w' => ∃ b, e = .returned (.slice (some ⟨b, 0, none⟩) 16 16) ∧ w.heap.size ≤ b ∧ Row w' b 102 (dB d) ∧ Below w.heap.size w w' := by
  refine (bytes_any d w hd).mono ?_
  rintro e w' ⟨rfl, hr, hb⟩
  exact ⟨_, rfl, by omega, hr, hb⟩
theorem pbytes_ex (d : Dsc) (w : World) (hd : isDsc d) :
    Calls Try.prog 48 #[dV d] w fun e w' => ∃ b, e = .returned (.slice (some ⟨b, 0, none⟩) 16 16) ∧ w.heap.size ≤ b ∧ Row w' b 102 (dB d) ∧ Below w.heap.size w w' := by
  refine (pbytes_any d w hd).mono ?_
  rintro e w' ⟨rfl, hr, hb⟩
  exact ⟨_, rfl, by omega, hr, hb⟩
theorem table_ex (v : Value) (L : List Dsc) (w : World) (hv : DescsAt w v L) (hu : isDscs L) (h300 : L.length ≤ 300) :
    Calls Try.prog 54 #[v] w fun e w' => ∃ b, e = .returned (.slice (some ⟨b, 0, none⟩) (16 * L.length) (16 * L.length)) ∧ w.heap.size ≤ b ∧ Row w' b 5 (tabB L) ∧ Below w.heap.size w w' := by
  refine (table_any v L w hv hu h300).mono ?_
  rintro e w' ⟨rfl, hr, hb⟩
  exact ⟨_, rfl, Nat.le_refl _, hr, hb⟩
/-- Read of what a block holds -/
theorem readRow (b : Nat) (t : TypeId) (M : List Int) (w : World) (h : Row w b t M) (hB : isBytes M) (hM : M.length = 16) :
    Calls Try.prog 32 #[.slice (some ⟨b, 0, none⟩) 16 16] w fun e w' => e = .returned (.tuple #[dV (dR M), .int .i64 0]) ∧ Below w.heap.size w w' :=
  read_at b 0 16 M w hB hM (lt_blk h) (fun j hj => by rw [Nat.zero_add]; exact cellB h j (by omega))
theorem preadRow (b : Nat) (t : TypeId) (M : List Int) (w : World) (h : Row w b t M) (hB : isBytes M) (hM : M.length = 16) :
    Calls Try.prog 33 #[.slice (some ⟨b, 0, none⟩) 16 16] w fun e w' => e = .returned (.tuple #[dV (dR M), .int .i64 0]) ∧ Below w.heap.size w w' :=
  pread_at b 0 16 M w hB hM (lt_blk h) (fun j hj => by rw [Nat.zero_add]; exact cellB h j (by omega))
theorem readBack (d : Dsc) (b : Nat) (t : TypeId) (w : World) (h : Row w b t (dB d)) (hd : isDsc d) :
    Calls Try.prog 32 #[.slice (some ⟨b, 0, none⟩) 16 16] w fun e w' => e = .returned (.tuple #[dV d, .int .i64 0]) ∧ Below w.heap.size w w' := by
  have := readRow b t (dB d) w h (dB_bytes d) (dB_length d)
  rw [dR_dB hd] at this
  exact this
theorem preadBack (d : Dsc) (b : Nat) (t : TypeId) (w : World) (h : Row w b t (dB d)) (hd : isDsc d) :
    Calls Try.prog 33 #[.slice (some ⟨b, 0, none⟩) 16 16] w fun e w' => e = .returned (.tuple #[dV d, .int .i64 0]) ∧ Below w.heap.size w w' := by
  have := preadRow b t (dB d) w h (dB_bytes d) (dB_length d)
  rw [dR_dB hd] at this
  exact this
theorem readTabBack (L : List Dsc) (b : Nat) (t : TypeId) (w : World) (h : Row w b t (tabB L)) (hL : isDscs L) (h300 : L.length ≤ 300) :
    Calls Try.prog 34 #[.slice (some ⟨b, 0, none⟩) (16 * L.length) (16 * L.length)] w fun e w' => ∃ v', e = .returned (.tuple #[v', .int .i64 0]) ∧ DescsAt w' v' L ∧ Below w.heap.size w w' := by
  have := readTable_at b 0 (16 * L.length) L.length (tabB L) w (tabB_bytes L) (tabB_length L) (by omega) (lt_blk h) (Nat.le_refl _) (fun j hj => by rw [Nat.zero_add]; exact cellB h j hj)
  rw [rdT_tabB hL] at this
  refine this.mono ?_
  rintro e w' ⟨rfl, hd, hb⟩
  exact ⟨_, rfl, hd.descs rfl (Nat.le_refl _), hb⟩
theorem below_more {w a b : World} (h : Below w.heap.size w a) (hb : Below a.heap.size a b) : Below w.heap.size w b := h.trans (hb.mono h.size)
end Go.Proofs.Ytfjccpalkdmniaa
