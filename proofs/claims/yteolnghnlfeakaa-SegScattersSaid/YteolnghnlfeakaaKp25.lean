/- Pg10 Pg11: joined texts. Conditions: as each theorem names them. -/
import Derived.Test.YteolnghnlfeakaaKp24
import Derived.Test.YteolnghnlfeakaaKp13
/- Package seg's assemble, Gather. Conditions: as each theorem names them. -/
namespace Go.Proofs.Yteolnghnlfeakaa
open Go.ChangeShapes Go.WideShapes Go.ChangeAt Go.RowKit
set_option linter.unusedVariables false
set_option maxRecDepth 100000

/-- the bytes of each segment -/
def rdS5 (R : List (Int × Int)) (M : List Int) (L : List Sg) : List (List Int) := L.map fun s => readL R M s.a s.n
theorem rdS5_len (R : List (Int × Int)) (M : List Int) (L : List Sg) : (rdS5 R M L).length = L.length := by simp [rdS5]
theorem rdS5_at (R : List (Int × Int)) (M : List Int) {L : List Sg} {k : Nat} (h : k < L.length) : (rdS5 R M L).getD k [] = readL R M (sat L k).a (sat L k).n := by
  simp [rdS5, sat, List.getD, h]
theorem flat_le5 (R : List (Int × Int)) (M : List Int) : ∀ {L : List Sg}, isSgs L → ((rdS5 R M L).flatten.length : Int) ≤ sumS L
  | [], _ => by simp [rdS5, sumS]
  | s :: l, h => by
    obtain ⟨h1, h2⟩ := isSgs_cons h
    have ih := flat_le5 R M h2
    have hr := readL_le R M s.a s.n h1.2.1
    have e : (rdS5 R M (s :: l)).flatten = readL R M s.a s.n ++ (rdS5 R M l).flatten := rfl
    rw [e, List.length_append]
    simp only [sumS]
    omega
theorem flat_all5 {R : List (Int × Int)} {M : List Int} (hM : M.length = sumR R) : ∀ {L : List Sg}, isSgs L → allIn R L = true → ((rdS5 R M L).flatten.length : Int) = sumS L
  | [], _, _ => rfl
  | s :: l, h, ha => by
    obtain ⟨h1, h2⟩ := isSgs_cons h
    obtain ⟨a1, a2⟩ := allIn_cons ha
    have ih := flat_all5 hM h2 a2
    have hr := readL_length hM a1 h1.2.1
    have e : (rdS5 R M (s :: l)).flatten = readL R M s.a s.n ++ (rdS5 R M l).flatten := rfl
    rw [e, List.length_append]
    simp only [sumS]
    omega
theorem flat_less5 (R : List (Int × Int)) (M : List Int) : ∀ {L : List Sg} {p : Bool}, isSgs L → okS p L → allIn R L = false → ((rdS5 R M L).flatten.length : Int) < sumS L
  | [], p, _, _, ha => by cases ha
  | s :: l, p, h, ho, ha => by
    obtain ⟨h1, h2⟩ := isSgs_cons h
    obtain ⟨⟨o1, o2, o3⟩, o4⟩ := ho
    have e : (rdS5 R M (s :: l)).flatten = readL R M s.a s.n ++ (rdS5 R M l).flatten := rfl
    rw [e, List.length_append]
    simp only [sumS]
    have hr := readL_le R M s.a s.n h1.2.1
    cases hs : (loc R s.a s.n).isSome
    · have e2 : readL R M s.a s.n = [] := by
        unfold readL
        cases hl : loc R s.a s.n with
        | none => rfl
        | some k =>
          rw [hl] at hs
          cases hs
      have := flat_le5 R M h2
      rw [e2]
      simp only [List.length_nil]
      omega
    · have ha2 : allIn R l = false := by
        unfold allIn at ha ⊢
        simp only [List.all_cons, hs, Bool.true_and] at ha
        exact ha
      have := flat_less5 R M h2 o4 ha2
      omega
theorem gatS_flat (R : List (Int × Int)) (M : List Int) : ∀ L : List Sg, (rdS5 R M (partS false L)).flatten = gatS R M L
  | [] => rfl
  | s :: l => by
    have ih := gatS_flat R M l
    by_cases ht : s.t = true
    · rw [partS_no (by rw [ht]; decide)]
      simp only [gatS]
      rw [if_pos ht, ih]
      rfl
    · rw [partS_yes (by simpa using ht)]
      simp only [gatS]
      rw [if_neg ht, ← ih]
      rfl
theorem allIn_two {R : List (Int × Int)} {L : List Sg} (h : okS false L) : allIn R L = (allIn R (partS true L) && allIn R (partS false L)) := by
  conv => lhs; rw [← part_two h]
  rw [allIn_append, Bool.and_comm]

theorem rowSl : (Try.prog.info? 38).map (fun i => (i.zero, i.size, i.bytes)) = some (some (.slice none 0 0), 1, 24) := by kernel_rfl
theorem makeSl (w : World) (n : Nat) (h : n ≤ 1000000) :
    (Instr.makeSlice 77 (.int .i64 (n : Int)) (.int .i64 (n : Int))).run Try.prog w = .ok (.slice (some ⟨w.heap.size, 0, none⟩) n n) (w.alloc (.cells (List.replicate n (Value.slice none 0 0)).toArray 38)) := by
  obtain ⟨i0, hi, hz0, hz1, hz2⟩ := info_parts rowSl
  have hr := run_make (P := Try.prog) w 77 38 i0 _ Try.underlying77 hi hz0 .i64 .i64 n n (by omega) (Int.le_refl _) (by rw [hz2]; omega) (by omega)
  rw [hr]
  simp only [Int.toNat_natCast, hz1, Nat.mul_one]
  congr 3
  apply Array.ext'
  rw [show (Value.slice none 0 0).cells = #[.slice none 0 0] from rfl, toList_madeCells_one]
theorem newBytes_len {B : Nat} {w : World} {v : Value} {l : List Int} (h : NewBytes B w v l) : ∃ a c, v = .slice a l.length c := by
  rcases h with ⟨rfl, rfl⟩ | ⟨b, c, rfl, _⟩
  · exact ⟨_, _, rfl⟩
  · exact ⟨_, _, rfl⟩
theorem newBytes_chg {B : Nat} {w w' : World} {v : Value} {l : List Int} {S : Nat → Prop} (h : NewBytes B w v l) (hc : Chg S w w') (hS : ∀ k, B ≤ k → ¬ S k) : NewBytes B w' v l := by
  rcases h with h | ⟨b, c, h1, h2, h3, cs, h4, h5⟩
  · exact Or.inl h
  · exact Or.inr ⟨b, c, h1, h2, h3, cs, hc.keep h4 (hS b h2), h5⟩
theorem newBytes_mono {B B' : Nat} {w : World} {v : Value} {l : List Int} (h : NewBytes B w v l) (hB : B' ≤ B) : NewBytes B' w v l := by
  rcases h with h | ⟨b, c, h1, h2, h3⟩
  · exact Or.inl h
  · exact Or.inr ⟨b, c, h1, Nat.le_trans hB h2, h3⟩

/-- the parts, filled up to k -/
structure Half (w : World) (pb n : Nat) (X : List (List Int)) (k : Nat) : Prop where
  row : ∃ vs : List Value, vs.length = n ∧ w.heap[pb]? = some (.cells vs.toArray 38 (0, 0)) ∧ ∀ j, j < k → ∃ v, vs[j]? = some v ∧ NewBytes (pb + 1) w v (X.getD j [])
theorem Half.below {w w' : World} {pb n k : Nat} {X : List (List Int)} (h : Half w pb n X k) (hb : Below w.heap.size w w') : Half w' pb n X k := by
  obtain ⟨vs, h1, h2, h3⟩ := h.row
  refine ⟨vs, h1, keepB hb h2, fun j hj => ?_⟩
  obtain ⟨v, e, hv⟩ := h3 j hj
  exact ⟨v, e, hv.below hb⟩
theorem Half.set {w : World} {pb n k : Nat} {X : List (List Int)} {v : Value} (h : Half w pb n X k) (hk : k < n) (hv : NewBytes (pb + 1) w v (X.getD k [])) : Half (w.setCell ⟨pb, k, none⟩ v) pb n X (k + 1) := by
  obtain ⟨vs, h1, h2, h3⟩ := h.row
  have hc : Chg (· = pb) w (w.setCell ⟨pb, k, none⟩ v) := (Chg.refl (· = pb) w).setR (p := ⟨pb, k, none⟩) (Or.inl rfl) v
  have hn : ∀ {v2 : Value} {l : List Int}, NewBytes (pb + 1) w v2 l → NewBytes (pb + 1) (w.setCell ⟨pb, k, none⟩ v) v2 l := fun h => newBytes_chg h hc (fun q hq e => by omega)
  refine ⟨vs.set k v, by rw [List.length_set]; exact h1, ?_, fun j hj => ?_⟩
  · rw [heap_setCell_same w pb k _ _ v h2]
    simp
  · by_cases hjk : j = k
    · subst hjk
      exact ⟨v, by rw [List.getElem?_set_self (by omega)], hn hv⟩
    · obtain ⟨v2, e, hv2⟩ := h3 j (by omega)
      exact ⟨v2, by rw [List.getElem?_set_ne (by omega)]; exact e, hn hv2⟩
theorem Half.cell {w : World} {pb n k : Nat} {X : List (List Int)} (h : Half w pb n X k) (i : Nat) (hi : i < n) : (∃ v, w.cell? ⟨pb, i, none⟩ = some v) ∧ w.frozen? ⟨pb, i, none⟩ = false := by
  obtain ⟨vs, h1, h2, h3⟩ := h.row
  refine ⟨⟨vs[i], ?_⟩, frozenK h2 i⟩
  rw [cellK h2]
  simp
theorem Half.done {w : World} {pb : Nat} {X : List (List Int)} (h : Half w pb X.length X X.length) : PartsAt w pb X := by
  obtain ⟨vs, h1, h2, h3⟩ := h.row
  refine ⟨lt_blk h2, fun j hj => ?_⟩
  obtain ⟨v, e, hv⟩ := h3 j hj
  obtain ⟨a, c, rfl⟩ := newBytes_len hv
  exact ⟨a, c, by rw [cellK h2]; exact e, hv.at⟩

/-- what assemble holds when it comes to segment k: its three variables, the parts -/
structure AsI (w : World) (v : Value) (n : Nat) (X : List (List Int)) (k : Nat) (W : World) : Prop where
  bel : Below w.heap.size w W
  siz : w.heap.size + 1 + 1 + 1 < W.heap.size
  c0 : W.cell? ⟨w.heap.size, 0, none⟩ = some v
  c1 : W.cell? ⟨w.heap.size + 1, 0, none⟩ = some (.slice none 0 0)
  c2 : W.cell? ⟨w.heap.size + 1 + 1, 0, none⟩ = some (.int .i64 0)
  f1 : W.frozen? ⟨w.heap.size + 1, 0, none⟩ = false
  f2 : W.frozen? ⟨w.heap.size + 1 + 1, 0, none⟩ = false
  half : Half W (w.heap.size + 1 + 1 + 1) n X k
theorem AsI.below {w : World} {v : Value} {n : Nat} {X : List (List Int)} {k : Nat} {W W' : World} (h : AsI w v n X k W) (hb : Below W.heap.size W W') : AsI w v n X k W' := by
  have hz := h.siz
  exact ⟨below_then h.bel hb, Nat.lt_of_lt_of_le hz hb.size, (hb.cell (p := ⟨_, 0, none⟩) (by simp only []; omega)).trans h.c0, (hb.cell (p := ⟨_, 0, none⟩) (by simp only []; omega)).trans h.c1, (hb.cell (p := ⟨_, 0, none⟩) (by simp only []; omega)).trans h.c2,
    (hb.frozen (p := ⟨_, 0, none⟩) (by simp only []; omega)).trans h.f1, (hb.frozen (p := ⟨_, 0, none⟩) (by simp only []; omega)).trans h.f2, h.half.below hb⟩
theorem AsI.set {w : World} {v : Value} {n : Nat} {X : List (List Int)} {k : Nat} {W : World} {x : Value} (h : AsI w v n X k W) (hk : k < n) (hx : NewBytes (w.heap.size + 1 + 1 + 1 + 1) W x (X.getD k [])) : AsI w v n X (k + 1) (W.setCell ⟨w.heap.size + 1 + 1 + 1, k, none⟩ x) := by
  have hne : ∀ b, b < w.heap.size + 1 + 1 + 1 → (⟨w.heap.size + 1 + 1 + 1, k, none⟩ : Addr) ≠ ⟨b, 0, none⟩ := fun b hb e => by
    injection e with e1
    omega
  exact ⟨h.bel.setCell (by simp only []; omega) _, by rw [World.size_setCell]; exact h.siz, by rw [World.cell?_setCell_other _ _ _ _ (hne _ (by omega))]; exact h.c0, by rw [World.cell?_setCell_other _ _ _ _ (hne _ (by omega))]; exact h.c1, by rw [World.cell?_setCell_other _ _ _ _ (hne _ (by omega))]; exact h.c2,
    by rw [World.frozen?_setCell]; exact h.f1, by rw [World.frozen?_setCell]; exact h.f2, h.half.set hk hx⟩
theorem AsI.start {w : World} {v : Value} {n : Nat} {X : List (List Int)} {t1 t2 t3 : TypeId} : AsI w v n X 0 ((((w.alloc (.cells #[v] t1)).alloc (.cells #[.slice none 0 0] t2)).alloc (.cells #[.int .i64 0] t3)).alloc (.cells (Array.replicate n (.slice none 0 0)) 38)) := by
  have h3 := heap_alloc_new (((w.alloc (.cells #[v] t1)).alloc (.cells #[.slice none 0 0] t2)).alloc (.cells #[.int .i64 0] t3)) (.cells (Array.replicate n (.slice none 0 0)) 38)
  simp only [World.size_alloc] at h3
  refine ⟨?_, by simp, ?_, ?_, ?_, ?_, ?_, ⟨⟨List.replicate n (.slice none 0 0), by simp, by simpa using h3, fun j hj => absurd hj (Nat.not_lt_zero _)⟩⟩⟩
  · exact ((((Below.refl _ _).alloc (Nat.le_refl _) _).alloc (by simp) _).alloc (by simp; omega) _).alloc (by simp; omega) _
  · go_simp
  · go_simp
  · go_simp
  · go_simp
  · go_simp

/-- assemble's bytes -/
def asL (R : List (Int × Int)) (M : List Int) (L : List Sg) : List Int := if allIn R L = true then (rdS5 R M L).flatten else []
/-- assemble's end -/
def AsEnd (w : World) (R : List (Int × Int)) (M : List Int) (L : List Sg) (e : Ending) (w' : World) : Prop := ∃ v', e = .returned (.tuple #[v', .int .i64 (exE R L)]) ∧ NewBytes w.heap.size w' v' (asL R M L) ∧ Below w.heap.size w w'

set_option maxHeartbeats 1000000 in
theorem passemble (v : Value) (L : List Sg) (q : Bool) (p ib qb : Nat) (R : List (Int × Int)) (M : List Int) (w : World) (hv : SegsAt w v L) (hu : isSgs L) (ho : okS q L) (hl : L.length ≤ 64) (hs : sumS L < 4294967296) (hm : IsMem w p ib qb R M) :
    Calls Try.prog 43 #[.pointer (some ⟨p, 0, none⟩), v] w (AsEnd w R M L) := by
  have hmf : ∀ (fn : Fn) (first cap : Array Value) (w : World), (Instr.makeFunc fn first cap).run Try.prog w = .ok (.func fn first cap) w := fun _ _ _ _ => rfl
  have hmk := fun w => makeSl w L.length (by omega)
  have HV := hid_mk hv
  have HU := hid_mk hu
  have HM := hid_mk hm
  have HO := hid_mk ho
  have HL := hid_mk hl
  have HSm := hid_mk hs
  obtain ⟨va, vc, rfl⟩ := hv.len
  have HC : Hid (∀ k, k < L.length → ∃ b o, va = some ⟨b, o, none⟩ ∧ b < w.heap.size ∧ at3 w b (o + k * 3) (sat L k)) := fun k hk => by
    rcases hv with ⟨_, hL⟩ | ⟨b, o, c, he, hb1, hb2, hb3⟩
    · rw [hL] at hk
      exact absurd hk (by simp)
    · cases he
      exact ⟨b, o, rfl, hb1, hb3 k hk⟩
  have HCat : Hid (∀ u pb, PartsAt u pb (rdS5 R M L) → Calls Try.prog 56 #[.slice (some ⟨pb, 0, none⟩) L.length L.length] u fun e w' => ∃ v', e = .returned v' ∧ OwnB u.heap.size w' v' (rdS5 R M L).flatten ∧ Below u.heap.size u w') := fun u pb h => by
    have hx := rdS5_len R M L
    have := pconcat pb (rdS5 R M L) u h (by omega) (by have := flat_le5 R M hu; omega)
    rw [hx] at this
    exact this
  have h64i : (L.length : Int) ≤ 64 := by omega
  have HXA := hid_mk (fun k (h : k < L.length) => rdS5_at R M h)
  have HXL := hid_mk (rdS5_len R M L)
  clear hv hu hm ho hl hs
  go_enter_defers Try.func43, Try.ntmps43
  go_wp2_with fail
  clear hmk hmf
  go_loopw [7, 8, 15] (fun _ _ i wr => ∃ k : Nat, k ≤ L.length ∧ i = .int .i64 k ∧ Hid (AsI w (.slice va L.length vc) L.length (rdS5 R M L) k wr)) (fun _ _ i _ => L.length - (intOf i).toNat)
  case atStart => exact ⟨0, Nat.zero_le _, rfl, hid_mk AsI.start⟩
  case round =>
    obtain ⟨k, hk, rfl, hst⟩ := hrel
    by_cases hlt : k < L.length
    · obtain ⟨b, o, hva, hb1, c0, c1, c2⟩ := HC.out k hlt
      subst hva
      obtain ⟨hx, hy0, hy1⟩ := sat_is HU.out k
      have d0 := (hst.out.bel.cell (p := ⟨b, o + k * 3, none⟩) hb1).trans c0
      have d1 := (hst.out.bel.cell (p := ⟨b, o + k * 3 + 1, none⟩) hb1).trans c1
      have d2 := (hst.out.bel.cell (p := ⟨b, o + k * 3 + 2, none⟩) hb1).trans c2
      have hbw : b < wr.heap.size := Nat.lt_of_lt_of_le hb1 hst.out.bel.size
      have hyw : IntKind.i64.wrap (sat L k).n = (sat L k).n := IntWalk.i64_in _ (by omega)
      have hyw2 : wrap64 (sat L k).n = (sat L k).n := by unfold wrap64; omega
      have HS1 := hid_mk (hst.out.below ((Below.refl wr.heap.size wr).alloc (Nat.le_refl _) (.cells #[.int .u64 (sat L k).a, .int .u32 (sat L k).n, .bool (sat L k).t] 32)))
      have HRd := hid_mk (fun u (h : IsMem u p ib qb R M) => read_any p ib qb R M (sat L k).a (sat L k).n u h hx (by omega))
      rw [← HXA.out k hlt] at HRd
      clear c0 c1 c2 hst hx hy0 hy1
      generalize (sat L k).a = x at *
      generalize (sat L k).n = y at *
      generalize (sat L k).t = z at *
      go_wp2_with fail
      refine (HRd.out _ (HM.out.below HS1.out.bel)).mono ?_
      rintro e w2 ⟨v1, rfl, hn1, hb2⟩
      have hst2 := HS1.out.below hb2
      have hz := HS1.out.siz
      have hn2 := newBytes_mono hn1 (B' := w.heap.size + 1 + 1 + 1 + 1) (by omega)
      obtain ⟨⟨ov, hov⟩, hfz⟩ := hst2.half.cell k hlt
      obtain ⟨a1, cc1, rfl⟩ := newBytes_len hn1
      have HS2 := hid_mk (hst2.set hlt hn2)
      clear hn1 hn2 hst2 hb2 hz d0 d1 d2
      go_wp2_with fail
      go_roundw
      case rel => exact ⟨k + 1, by omega, by go_num, HS2⟩
      case measure => simp [intOf]; omega
    · obtain rfl : k = L.length := by omega
      have hpa : PartsAt wr (w.heap.size + 1 + 1 + 1) (rdS5 R M L) := by
        have h := hst.out.half
        rw [← HXL.out] at h
        exact h.done
      have HP := hid_mk hpa
      clear hpa
      go_wp2_with fail
      refine (HCat.out _ _ HP.out).mono ?_
      rintro e w2 ⟨v1, rfl, hn1, hb2⟩
      have hnb := own_new hn1
      obtain ⟨a1, cc1, rfl⟩ := newBytes_len hnb
      have hst2 := hst.out.below hb2
      have k0 := hst2.c0
      have k1 := hst2.c1
      have k2 := hst2.c2
      have f1 := hst2.f1
      have f2 := hst2.f2
      have hz2 := hst2.siz
      have HB2 := hid_mk hst2.bel
      have hnb2 := newBytes_mono hnb (B' := w.heap.size + 1 + 1 + 1) (Nat.le_of_lt hst.out.siz)
      have HNB := hid_mk hnb2
      have hfl : (rdS5 R M L).flatten.length ≤ 8589934592 := by
        have := flat_le5 R M HU.out
        have := HSm.out
        omega
      have HV2 := hid_mk (HV.out.below HB2.out)
      by_cases hall : allIn R L = true
      · have hend : ∀ e w', (∃ v', e = .returned (.tuple #[v', .int .i64 0]) ∧ NewBytes w.heap.size w' v' (rdS5 R M L).flatten ∧ Below w.heap.size w w') → AsEnd w R M L e w' := fun e w' h => by
          unfold AsEnd asL
          rw [if_pos hall, exE_yes hall]
          exact h
        have hsum := flat_all5 HM.out.len HU.out hall
        have HEnd := hid_mk hend
        have HSum := hid_mk hsum
        have HFl := hid_mk hfl
        clear hnb hn1 hb2 hst2 hst hall hend hsum hfl hnb2 HCat HP HXL HXA
        generalize (rdS5 R M L).flatten = F at *
        go_wp2_with fail
        refine leaves_cons (f := 55) (args := #[.pointer (some ⟨w.heap.size + 1, 0, none⟩), .pointer (some ⟨w.heap.size, 0, none⟩), .pointer (some ⟨w.heap.size + 1 + 1, 0, none⟩)]) (by simp) (by simp [go_sem]) ?_
        have hne : ∀ b, b < w.heap.size + 1 + 1 → (⟨w.heap.size + 1 + 1, 0, none⟩ : Addr) ≠ ⟨b, 0, none⟩ := fun b hb e => by
          injection e with e1
          omega
        have hne2 : (⟨w.heap.size + 1, 0, none⟩ : Addr) ≠ ⟨w.heap.size, 0, none⟩ := fun e => by
          injection e with e1
          omega
        have hbd := (HB2.out.setCell (p := ⟨w.heap.size + 1, 0, none⟩) (by simp only []; omega) (.slice a1 F.length cc1)).setCell (p := ⟨w.heap.size + 1 + 1, 0, none⟩) (by simp only []; omega) (.int .i64 0)
        have hcd := ((Chg.refl (fun k => k = w.heap.size + 1 ∨ k = w.heap.size + 1 + 1) w2).setR (p := ⟨w.heap.size + 1, 0, none⟩) (Or.inl (Or.inl rfl)) (.slice a1 F.length cc1)).setR (p := ⟨w.heap.size + 1 + 1, 0, none⟩) (Or.inl (Or.inr rfl)) (.int .i64 0)
        have hnd := newBytes_chg HNB.out hcd (fun k hk hc => by rcases hc with hc | hc <;> omega)
        refine (passm1_ok (w.heap.size + 1) w.heap.size (w.heap.size + 1 + 1) a1 F.length cc1 (.slice va L.length vc) L .returning _ ?_ ?_ ?_ HU.out (Nat.le_trans HL.out (by decide)) ?_ ?_ HFl.out HSum.out).mono ?_
        · rw [World.cell?_setCell_other _ _ _ _ (hne _ (by omega))]
          exact World.cell?_setCell_same _ _ _ k1
        · rw [World.cell?_setCell_other _ _ _ _ (hne _ (by omega)), World.cell?_setCell_other _ _ _ _ hne2]
          exact k0
        · exact HV.out.below hbd
        · simp
          omega
        · simp
          omega
        · rintro e u' w'' ⟨rfl, rfl, hb3⟩
          have r1 : w''.cell? ⟨w.heap.size + 1, 0, none⟩ = some (.slice a1 F.length cc1) := by
            rw [hb3.cell (p := ⟨w.heap.size + 1, 0, none⟩) (by simp; omega), World.cell?_setCell_other _ _ _ _ (hne _ (by omega))]
            exact World.cell?_setCell_same _ _ _ k1
          have r2 : w''.cell? ⟨w.heap.size + 1 + 1, 0, none⟩ = some (.int .i64 0) := by
            rw [hb3.cell (p := ⟨w.heap.size + 1 + 1, 0, none⟩) (by simp; omega)]
            refine World.cell?_setCell_same _ _ _ (u := .int .i64 0) ?_
            rw [World.cell?_setCell_other _ _ _ _ (fun e => by injection e with e1; omega)]
            exact k2
          have hB := hbd.trans (hb3.mono hbd.size)
          have hN := newBytes_mono (hnd.below hb3) (B' := w.heap.size) (by omega)
          clear hbd hcd hnd hb3
          exact ⟨.tuple #[.slice a1 F.length cc1, .int .i64 0], by simp [results, Try.results43, go_sem, r1, r2], HEnd.out _ _ ⟨_, rfl, hN, hB⟩⟩
      · have hall2 : allIn R L = false := by simpa using hall
        have hend : ∀ e w', (∃ v', e = .returned (.tuple #[v', .int .i64 5]) ∧ NewBytes w.heap.size w' v' [] ∧ Below w.heap.size w w') → AsEnd w R M L e w' := fun e w' h => by
          unfold AsEnd asL
          rw [if_neg hall, exE_no hall2]
          exact h
        have hsum := flat_less5 R M HU.out HO.out hall2
        have HEnd := hid_mk hend
        have HSum : Hid (((rdS5 R M L).flatten.length : Int) ≠ sumS L) := by
          show _ ≠ _
          omega
        have HFl := hid_mk hfl
        clear hnb hn1 hb2 hst2 hst hall hall2 hend hsum hfl hnb2 HCat HP HXL HXA
        generalize (rdS5 R M L).flatten = F at *
        go_wp2_with fail
        refine leaves_cons (f := 55) (args := #[.pointer (some ⟨w.heap.size + 1, 0, none⟩), .pointer (some ⟨w.heap.size, 0, none⟩), .pointer (some ⟨w.heap.size + 1 + 1, 0, none⟩)]) (by simp) (by simp [go_sem]) ?_
        have hne : ∀ b, b < w.heap.size + 1 + 1 → (⟨w.heap.size + 1 + 1, 0, none⟩ : Addr) ≠ ⟨b, 0, none⟩ := fun b hb e => by
          injection e with e1
          omega
        have hne2 : (⟨w.heap.size + 1, 0, none⟩ : Addr) ≠ ⟨w.heap.size, 0, none⟩ := fun e => by
          injection e with e1
          omega
        have hbd := (HB2.out.setCell (p := ⟨w.heap.size + 1, 0, none⟩) (by simp only []; omega) (.slice a1 F.length cc1)).setCell (p := ⟨w.heap.size + 1 + 1, 0, none⟩) (by simp only []; omega) (.int .i64 0)
        refine (passm1_bad (w.heap.size + 1) w.heap.size (w.heap.size + 1 + 1) a1 F.length cc1 (.slice va L.length vc) L .returning _ ?_ ?_ ?_ ?_ ?_ ?_ HU.out (Nat.le_trans HL.out (by decide)) ?_ ?_ ?_ (by omega) HFl.out HSum.out).mono ?_
        · rw [World.cell?_setCell_other _ _ _ _ (hne _ (by omega))]
          exact World.cell?_setCell_same _ _ _ k1
        · rw [World.cell?_setCell_other _ _ _ _ (hne _ (by omega)), World.cell?_setCell_other _ _ _ _ hne2]
          exact k0
        · refine World.cell?_setCell_same _ _ _ (u := .int .i64 0) ?_
          rw [World.cell?_setCell_other _ _ _ _ (fun e => by injection e with e1; omega)]
          exact k2
        · rw [World.frozen?_setCell, World.frozen?_setCell]
          exact f1
        · rw [World.frozen?_setCell, World.frozen?_setCell]
          exact f2
        · exact HV.out.below hbd
        · simp
          omega
        · simp
          omega
        · simp
          omega
        · rintro e u' w'' ⟨rfl, rfl, ⟨r1, r2⟩, hc3⟩
          have hB := hbd.trans (hc3.below (B := w.heap.size) hbd.size (fun k hk hc => by rcases hc with hc | hc <;> omega))
          clear hbd hc3
          exact ⟨.tuple #[.slice none 0 0, .int .i64 5], by simp [results, Try.results43, go_sem, r1, r2], HEnd.out _ _ ⟨_, rfl, Or.inl ⟨rfl, rfl⟩, hB⟩⟩
end Go.Proofs.Yteolnghnlfeakaa

/- Package seg's Gather, Same; law05.lives. Conditions: as each theorem names them. -/
namespace Go.Proofs.Yteolnghnlfeakaa
open Go.ChangeShapes Go.WideShapes Go.ChangeAt Go.RowKit
set_option linter.unusedVariables false
set_option maxRecDepth 100000

theorem pgat_nil (v : Value) (w : World) :
    Calls Try.prog 12 #[.pointer none, v] w fun e w' => e = .returned (.tuple #[.slice none 0 0, .int .i64 1]) ∧ w = w' := by
  go_enter Try.func12, Try.ntmps12
  go_wp2_with (go_at_call 41; refine (pusable_nil _ _).mono ?_; rintro e w' ⟨rfl, rfl⟩)
  go_ret2
  exact ⟨rfl, rfl⟩

set_option maxHeartbeats 1000000 in
theorem pgat (v : Value) (L : List Sg) (p ib qb : Nat) (R : List (Int × Int)) (M : List Int) (w : World) (hv : SegsAt w v L) (hu : isSgs L) (hm : IsMem w p ib qb R M) :
    Calls Try.prog 12 #[.pointer (some ⟨p, 0, none⟩), v] w fun e w' => ∃ v', e = .returned (.tuple #[v', .int .i64 (inE R L)]) ∧ NewBytes w.heap.size w' v' (gatL R M L) ∧ Below w.heap.size w w' := by
  have HUs := hid_mk (pusable v L p ib qb R M w hv hu hm)
  have HV := hid_mk hv
  have HU := hid_mk hu
  have HM := hid_mk hm
  obtain ⟨va, vc, rfl⟩ := hv.len
  by_cases hE : segE L = 0
  · rw [inE_ok hE]
    rw [hE] at HUs
    obtain ⟨o1, o2, o3⟩ := (segE_ok hu).1 hE
    have hgl : gatL R M L = if exE R L = 0 then gatS R M L else [] := by
      unfold gatL
      rw [inE_ok hE]
    have hpt : ∀ t, partE t L = partS t L := fun t => by
      unfold partE
      rw [if_pos hE]
    have HP := hid_mk (fun t u (h : SegsAt u (.slice va L.length vc) L) => ppart _ t L u h hu)
    simp only [hpt] at HP
    have h2 := allIn_two (R := R) o2
    have HL : Hid (∀ t, (partS t L).length ≤ 64) := fun t => Nat.le_trans (partS_le t L) o1
    have HSm : Hid (sumS (partS false L) < 4294967296) := by
      show _ < _
      rw [sumS_part]
      have h1 := totS_sum L
      have h3 := totS_nonneg true hu
      omega
    have HOk : Hid (okS false (partS false L)) := okS_part false o2 (by simp)
    have HFl := hid_mk (gatS_flat R M L)
    clear hv hu hm hE o1 o2 o3 hpt
    cases h1 : allIn R (partS true L)
    · rw [h1, Bool.false_and] at h2
      have e5 := exE_no h2
      rw [e5] at hgl ⊢
      rw [if_neg (by decide)] at hgl
      rw [hgl]
      have HX := hid_mk (exE_no h1)
      clear h1 h2 hgl e5
      go_enter Try.func12, Try.ntmps12
      go_wp2_with fail
      refine HUs.out.mono ?_
      rintro e w1 ⟨rfl, hb⟩
      have HB1 := hid_mk hb
      clear hb
      go_wp2_with fail
      refine (HP.out true _ (HV.out.below HB1.out)).mono ?_
      rintro e w2 ⟨v2, rfl, ho2, hb⟩
      have HB2 := hid_mk (below_then HB1.out hb)
      have HO2 := hid_mk ho2.at
      clear hb ho2
      go_wp2_with fail
      refine (pexist _ _ p ib qb R M _ HO2.out (partS_is HU.out) (Nat.le_trans (HL.out true) (by decide)) (HM.out.below HB2.out)).mono ?_
      rw [HX.out]
      rintro e w3 ⟨rfl, hb⟩
      have HB3 := hid_mk (below_then HB2.out hb)
      clear hb
      go_wp2_with fail
      go_ret2
      exact ⟨_, rfl, Or.inl ⟨rfl, rfl⟩, HB3.out⟩
    · rw [h1, Bool.true_and] at h2
      have hex : exE R L = exE R (partS false L) := by
        unfold exE
        rw [h2]
      have hga : gatL R M L = asL R M (partS false L) := by
        rw [hgl, hex]
        unfold asL exE
        by_cases h3 : allIn R (partS false L) = true
        · rw [if_pos h3, if_pos h3, if_pos rfl, HFl.out]
        · rw [if_neg h3, if_neg h3, if_neg (by decide)]
      rw [hex, hga]
      have HX := hid_mk (exE_yes h1)
      clear h1 h2 hgl hex hga
      go_enter Try.func12, Try.ntmps12
      go_wp2_with fail
      refine HUs.out.mono ?_
      rintro e w1 ⟨rfl, hb⟩
      have HB1 := hid_mk hb
      clear hb
      go_wp2_with fail
      refine (HP.out true _ (HV.out.below HB1.out)).mono ?_
      rintro e w2 ⟨v2, rfl, ho2, hb⟩
      have HB2 := hid_mk (below_then HB1.out hb)
      have HO2 := hid_mk ho2.at
      clear hb ho2
      go_wp2_with fail
      refine (pexist _ _ p ib qb R M _ HO2.out (partS_is HU.out) (Nat.le_trans (HL.out true) (by decide)) (HM.out.below HB2.out)).mono ?_
      rw [HX.out]
      rintro e w3 ⟨rfl, hb⟩
      have HB3 := hid_mk (below_then HB2.out hb)
      clear hb
      go_wp2_with fail
      refine (HP.out false _ (HV.out.below HB3.out)).mono ?_
      rintro e w4 ⟨v4, rfl, ho4, hb⟩
      have HB4 := hid_mk (below_then HB3.out hb)
      have HO4 := hid_mk ho4.at
      clear hb ho4
      go_wp2_with fail
      refine (passemble _ _ false p ib qb R M _ HO4.out (partS_is HU.out) HOk.out (HL.out false) HSm.out (HM.out.below HB4.out)).mono ?_
      unfold AsEnd
      rintro e w5 ⟨v5, rfl, hn5, hb⟩
      have HB5 := hid_mk (below_then HB4.out hb)
      have HN5 := hid_mk (newBytes_mono hn5 HB4.out.size)
      clear hb hn5
      go_wp2_with fail
      go_ret2
      exact ⟨_, rfl, HN5.out, HB5.out⟩
  · rw [inE_bad hE]
    have hgl : gatL R M L = [] := by
      unfold gatL
      rw [inE_bad hE, if_neg hE]
    rw [hgl]
    have hE2 : (segE L != 0) = true := by simp [hE]
    clear hv hu hm hE hgl
    generalize segE L = x at *
    go_enter Try.func12, Try.ntmps12
    go_wp2_with fail
    refine HUs.out.mono ?_
    rintro e w1 ⟨rfl, hb⟩
    have HB1 := hid_mk hb
    clear hb
    go_wp2_with fail
    go_ret2
    exact ⟨_, rfl, Or.inl ⟨rfl, rfl⟩, HB1.out⟩

set_option maxHeartbeats 1000000 in
theorem pequal (v1 v2 : Value) (L O : List Sg) (w : World) (h1 : SegsAt w v1 L) (h2 : SegsAt w v2 O) (hl : L.length ≤ 1000) :
    Calls Try.prog 45 #[v1, v2] w fun e w' => e = .returned (.bool (sameS L O)) ∧ ∃ m, w' = w.drewN m := by
  by_cases hn : L.length = O.length
  · rcases h1 with ⟨⟨va, vc, rfl, _⟩, rfl⟩ | ⟨b, o, c, rfl, hb1, hb2, hb3⟩
    · have hO : O = [] := List.length_eq_zero_iff.1 hn.symm
      subst hO
      obtain ⟨vb, vd, rfl⟩ := h2.len
      go_enter Try.func45, Try.ntmps45
      go_wp2
      go_loop [5, 13] (fun _ i => i = .int .i64 0) (fun _ i => 0)
      case atStart => rfl
      case round =>
        obtain rfl := hrel
        go_wp2
        go_ret
        exact ⟨rfl, 0, rfl⟩
    · rcases h2 with ⟨⟨va, vc, rfl, _⟩, rfl⟩ | ⟨b2, o2, c2, rfl, hd1, hd2, hd3⟩
      · have hL : L = [] := List.length_eq_zero_iff.1 hn
        subst hL
        go_enter Try.func45, Try.ntmps45
        go_wp2
        go_loop [5, 13] (fun _ i => i = .int .i64 0) (fun _ i => 0)
        case atStart => rfl
        case round =>
          obtain rfl := hrel
          go_wp2
          go_ret
          exact ⟨rfl, 0, rfl⟩
      · have HC := hid_mk hb3
        have HD := hid_mk hd3
        have hmx : (L.length : Int) ≤ 1000 := by omega
        have hne : ((O.length : Int) != (O.length : Int)) = false := by simp
        have HN := hid_mk hn
        have hni : (L.length : Int) = (O.length : Int) := by omega
        have hmo : (O.length : Int) ≤ 1000 := by omega
        rw [hn] at hb2 ⊢
        clear hb3 hd3 hn
        go_enter Try.func45, Try.ntmps45
        go_wp2
        go_loopw [5, 13] (fun _ i wr => ∃ (k m : Nat), k ≤ O.length ∧ i = .int .i64 k ∧ wr = w.drewN m ∧ Hid (sameS L O = sameS (L.drop k) (O.drop k))) (fun _ i _ => O.length - (intOf i).toNat)
        case atStart => exact ⟨0, 0, Nat.zero_le _, rfl, rfl, rfl⟩
        case round =>
          obtain ⟨k, m, hk, rfl, rfl, heq⟩ := hrel
          by_cases hlt : k < O.length
          · obtain ⟨p0, p1, p2⟩ := HC.out k (by have := HN.out; omega)
            obtain ⟨q0, q1, q2⟩ := HD.out k hlt
            have hst := sameS_step (L := L) (O := O) (k := k) (by have := HN.out; omega) hlt
            have hq := neqSg (sat L k).a (sat L k).n (sat O k).a (sat O k).n (sat L k).t (sat O k).t
            rw [show ((sat L k).a == (sat O k).a && ((sat L k).n == (sat O k).n && (sat L k).t == (sat O k).t)) = sgB (sat L k) (sat O k) from rfl] at hq
            have hni2 : (k : Int) < (L.length : Int) := by omega
            cases hs : sgB (sat L k) (sat O k)
            · rw [hs] at hst hq
              have HF : Hid (false = sameS L O) := by
                show false = sameS L O
                rw [heq.out, hst]
                rfl
              clear hst heq hs hni
              generalize sat L k = s1 at *
              generalize sat O k = s2 at *
              go_wp2_with fail
              go_quiet (fail)
              go_wp2_with fail
              go_ret
              exact ⟨ret_eq (congrArg Value.bool HF.out), _, drewN_drewN _ _ _⟩
            · rw [hs] at hst hq
              have HX : Hid (sameS L O = sameS (L.drop (k + 1)) (O.drop (k + 1))) := by
                show sameS L O = _
                rw [heq.out, hst]
                rfl
              clear hst heq hs hni
              generalize sat L k = s1 at *
              generalize sat O k = s2 at *
              go_wp2_with fail
              go_quiet (fail)
              go_wp2_with fail
              go_roundw
              case rel => exact ⟨k + 1, _, by omega, by go_num, rfl, HX⟩
              case measure => simp [intOf]; omega
          · obtain rfl : k = O.length := by omega
            have HF : Hid (true = sameS L O) := by
              show true = sameS L O
              rw [heq.out, List.drop_length, List.drop_of_length_le (by have := HN.out; omega)]
              rfl
            go_wp2_with fail
            go_ret
            exact ⟨ret_eq (congrArg Value.bool HF.out), m, rfl⟩
  · obtain ⟨va, vc, rfl⟩ := h1.len
    obtain ⟨vb, vd, rfl⟩ := h2.len
    have HF : Hid (false = sameS L O) := (sameS_len hn).symm
    have hni : ((L.length : Int) != (O.length : Int)) = true := by
      simp
      omega
    clear h1 h2
    go_enter Try.func45, Try.ntmps45
    go_wp2
    go_ret
    exact ⟨ret_eq (congrArg Value.bool HF.out), 0, rfl⟩
theorem psame (v1 v2 : Value) (L O : List Sg) (w : World) (h1 : SegsAt w v1 L) (h2 : SegsAt w v2 O) (hl : L.length ≤ 1000) :
    Calls Try.prog 16 #[v1, v2] w fun e w' => e = .returned (.bool (sameS L O)) ∧ ∃ m, w' = w.drewN m := by
  have HE := hid_mk (pequal v1 v2 L O w h1 h2 hl)
  obtain ⟨va, vc, rfl⟩ := h1.len
  obtain ⟨vb, vd, rfl⟩ := h2.len
  clear h1 h2
  go_enter Try.func16, Try.ntmps16
  go_wp2_with fail
  refine HE.out.mono ?_
  rintro e w' ⟨rfl, m, rfl⟩
  go_wp2_with fail
  go_ret
  exact ⟨rfl, m, rfl⟩
end Go.Proofs.Yteolnghnlfeakaa
