/- Sg13 Pg15: joined texts. Conditions: as each theorem names them. -/
import Derived.Test.YteolnghnlfeakaaKp23
import Derived.Test.YteolnghnlfeakaaKp26
import Derived.Laws.Concat
/- Plain facts for one region of 2,000 bytes: what is scattered is set place by place, and read back. No program in sight. Conditions: as each lemma names them. -/
namespace Go.Proofs.Yteolnghnlfeakaa
open Go.ChangeShapes Go.WideShapes Go.ChangeAt Go.RowKit
set_option linter.unusedVariables false
set_option maxRecDepth 100000

/-- the addresses that are written, in order -/
def plcS : List Sg → List Nat
  | [] => []
  | s :: l => (if s.t = true then List.range' s.a.toNat s.n.toNat else []) ++ plcS l
/-- bytes set one by one -/
def setAll : List Int → List Nat → List Int → List Int
  | M, [], _ => M
  | M, _ :: _, [] => M
  | M, p :: ps, x :: xs => setAll (M.set p x) ps xs
theorem setAll_none (M b : List Int) : setAll M [] b = M := by cases b <;> rfl
theorem setAll_nil (M : List Int) : ∀ ps, setAll M ps [] = M
  | [] => rfl
  | _ :: _ => rfl
theorem setAll_length : ∀ (M : List Int) (ps : List Nat) (b : List Int), (setAll M ps b).length = M.length
  | M, [], b => by rw [setAll_none]
  | M, _ :: _, [] => rfl
  | M, p :: ps, x :: xs => by
    show (setAll (M.set p x) ps xs).length = _
    rw [setAll_length, List.length_set]
theorem setAll_append : ∀ (M : List Int) (ps qs : List Nat) (b : List Int), setAll M (ps ++ qs) b = setAll (setAll M ps (b.take ps.length)) qs (b.drop ps.length)
  | M, [], qs, b => rfl
  | M, p :: ps, qs, [] => by
    rw [List.take_nil, List.drop_nil, setAll_nil, setAll_nil, setAll_nil]
  | M, p :: ps, qs, x :: xs => by
    show setAll (M.set p x) (ps ++ qs) xs = _
    rw [setAll_append]
    rfl
theorem set_put (M : List Int) (k : Nat) (x : Int) (h : k < M.length) : M.set k x = put M k [x] := by
  have := put_snoc M k [] x (by simpa using h)
  rw [put_nil] at this
  simpa using this
theorem setAll_range : ∀ (l M : List Int) (k n : Nat), k + l.length ≤ M.length → l.length ≤ n → setAll M (List.range' k n) l = put M k l
  | [], M, k, n, h, hn => by rw [setAll_nil, put_nil]
  | x :: xs, M, k, n, h, hn => by
    simp only [List.length_cons] at h hn
    obtain ⟨m, rfl⟩ : ∃ m, n = m + 1 := ⟨n - 1, by omega⟩
    rw [List.range'_succ]
    show setAll (M.set k x) (List.range' (k + 1) m) xs = _
    rw [setAll_range xs (M.set k x) (k + 1) m (by rw [List.length_set]; omega) (by omega), set_put M k x (by omega)]
    have := put_put M k [x] xs (by simp; omega)
    simpa using this

abbrev R1 : List (Int × Int) := [(0, 2000)]
theorem okR1 : okR (-1) 1048576 R1 = true := by decide
theorem sumR1 : sumR R1 = 2000 := by decide
theorem locR1 {a n : Int} (h0 : 0 ≤ a) (h1 : a + n ≤ 2000) (h2 : 1 ≤ n) : loc R1 a n = some a.toNat := by
  have := loc_mk okR1 (a := a) (n := n) (i := 0) (by decide) (by show (0 : Int) ≤ a; exact h0) (by show a + n ≤ 0 + 2000; omega) h2
  rw [this]
  congr 1
  show off R1 0 + (a - 0).toNat = a.toNat
  rw [off_zero]
  omega
theorem locR1_some {a n : Int} (h : (loc R1 a n).isSome = true) : 0 ≤ a ∧ a + n ≤ 2000 ∧ 1 ≤ n := by
  obtain ⟨k, hk⟩ := Option.isSome_iff_exists.1 h
  obtain ⟨i, hi, h1, h2, h3, _⟩ := loc_some hk
  obtain rfl : i = 0 := by simpa using hi
  have e : at_ R1 0 = (0, 2000) := rfl
  rw [e] at h1 h2
  simp only [] at h1 h2
  exact ⟨h1, by omega, h3⟩
theorem writeR1 {M l : List Int} {a : Int} (hM : M.length = 2000) (h0 : 0 ≤ a) (h1 : a + l.length ≤ 2000) : writeM R1 M a l = put M a.toNat l := by
  cases l with
  | nil => rw [writeM_nil, put_nil]
  | cons x xs =>
    unfold writeM
    rw [locR1 h0 h1 (by simp; omega)]
theorem scat_set : ∀ (L : List Sg) (M b : List Int), M.length = 2000 → isSgs L → allIn R1 L = true → scatS R1 M b L = setAll M (plcS L) b
  | [], M, b, hM, h, ha => (setAll_none M b).symm
  | s :: l, M, b, hM, h, ha => by
    obtain ⟨h1, h2⟩ := isSgs_cons h
    obtain ⟨a1, a2⟩ := allIn_cons ha
    obtain ⟨q0, q1, q2⟩ := locR1_some a1
    cases ht : s.t
    · have e : scatS R1 M b (s :: l) = scatS R1 M b l := by
        show (if s.t = true then _ else _) = _
        rw [ht, if_neg (by decide)]
      have e2 : plcS (s :: l) = plcS l := by
        show (if s.t = true then _ else []) ++ plcS l = _
        rw [ht, if_neg (by decide), List.nil_append]
      rw [e, e2]
      exact scat_set l M b hM h2 a2
    · have e : scatS R1 M b (s :: l) = scatS R1 (writeM R1 M s.a (b.take s.n.toNat)) (b.drop s.n.toNat) l := by
        show (if s.t = true then _ else _) = _
        rw [ht, if_pos rfl]
      have e2 : plcS (s :: l) = List.range' s.a.toNat s.n.toNat ++ plcS l := by
        show (if s.t = true then _ else []) ++ plcS l = _
        rw [ht, if_pos rfl]
      have hl : (b.take s.n.toNat).length ≤ s.n.toNat := by
        rw [List.length_take]
        omega
      rw [e, e2, setAll_append, List.length_range', writeR1 hM q0 (by omega), setAll_range _ _ _ _ (by omega) hl]
      exact scat_set l _ _ (by rw [put_length _ _ _ (by omega)]; exact hM) h2 a2
theorem setAll_get : ∀ (M : List Int) (ps : List Nat) (b : List Int) (q : Nat), q ∉ ps → (setAll M ps b).getD q 0 = M.getD q 0
  | M, [], b, q, h => by rw [setAll_none]
  | M, _ :: _, [], q, h => rfl
  | M, p :: ps, x :: xs, q, h => by
    show (setAll (M.set p x) ps xs).getD q 0 = _
    rw [setAll_get _ ps xs q (fun hq => h (List.mem_cons_of_mem _ hq))]
    have hne : p ≠ q := fun e => h (by rw [e]; exact List.mem_cons_self ..)
    rw [List.getD_eq_getElem?_getD, List.getD_eq_getElem?_getD, List.getElem?_set_ne hne]
/-- what was set is read back -/
theorem get_set : ∀ (M : List Int) (ps : List Nat) (b : List Int), ps.Nodup → (∀ p ∈ ps, p < M.length) → (ps.map fun p => (setAll M ps b).getD p 0).take b.length = b.take ps.length
  | M, [], b, hd, hp => by simp
  | M, p :: ps, [], hd, hp => by simp
  | M, p :: ps, x :: xs, hd, hp => by
    obtain ⟨h1, h2⟩ := List.nodup_cons.1 hd
    have ih := get_set (M.set p x) ps xs h2 (fun q hq => by rw [List.length_set]; exact hp q (List.mem_cons_of_mem _ hq))
    have e : (setAll M (p :: ps) (x :: xs)) = setAll (M.set p x) ps xs := rfl
    rw [e]
    have e0 : (setAll (M.set p x) ps xs).getD p 0 = x := by
      rw [setAll_get _ _ _ _ h1, List.getD_eq_getElem?_getD, List.getElem?_set_self (hp p (List.mem_cons_self ..))]
      rfl
    simp only [List.map_cons, List.length_cons, List.take_succ_cons, e0, ih]
/-- the written segments, as ones that are read -/
def backS (L : List Sg) : List Sg := (partS true L).map fun s => ⟨s.a, s.n, false⟩
theorem readR1 {M : List Int} {a n : Int} (hM : M.length = 2000) (h0 : 0 ≤ a) (h1 : a + n ≤ 2000) (h2 : 1 ≤ n) : readL R1 M a n = (List.range' a.toNat n.toNat).map fun p => M.getD p 0 := by
  rw [readL_some (locR1 h0 h1 h2)]
  apply List.ext_getElem?
  intro i
  by_cases hi : i < n.toNat
  · rw [List.getElem?_take_of_lt hi, List.getElem?_drop, List.getElem?_map, List.getElem?_range' hi]
    have hb : a.toNat + i < M.length := by omega
    simp [List.getD, hb]
  · rw [List.getElem?_eq_none (by rw [List.length_take]; omega), List.getElem?_eq_none (by simp; omega)]
theorem gat_back : ∀ (L : List Sg) (M : List Int), M.length = 2000 → isSgs L → allIn R1 L = true → gatS R1 M (backS L) = (plcS L).map fun p => M.getD p 0
  | [], M, hM, h, ha => rfl
  | s :: l, M, hM, h, ha => by
    obtain ⟨h1, h2⟩ := isSgs_cons h
    obtain ⟨a1, a2⟩ := allIn_cons ha
    obtain ⟨q0, q1, q2⟩ := locR1_some a1
    have ih := gat_back l M hM h2 a2
    unfold backS at ih ⊢
    cases ht : s.t
    · rw [partS_no (by rw [ht]; decide)]
      have e2 : plcS (s :: l) = plcS l := by
        show (if s.t = true then _ else []) ++ plcS l = _
        rw [ht, if_neg (by decide), List.nil_append]
      rw [e2, ih]
    · rw [partS_yes ht]
      have e2 : plcS (s :: l) = List.range' s.a.toNat s.n.toNat ++ plcS l := by
        show (if s.t = true then _ else []) ++ plcS l = _
        rw [ht, if_pos rfl]
      rw [e2, List.map_cons, List.map_append]
      show (if false = true then [] else readL R1 M s.a s.n) ++ gatS R1 M _ = _
      rw [if_neg (by decide), readR1 hM q0 q1 q2, ih]
theorem plc_length : ∀ (L : List Sg), isSgs L → ((plcS L).length : Int) = totS true L
  | [], h => rfl
  | s :: l, h => by
    obtain ⟨h1, h2⟩ := isSgs_cons h
    have ih := plc_length l h2
    have hn := h1.2.1
    simp only [plcS, totS, List.length_append]
    cases s.t
    · simp
      omega
    · simp
      omega
end Go.Proofs.Yteolnghnlfeakaa

/- Facts for the walks of layer 5's statements: bytes put together as strings, Gather and Scatter of buffers that exist, by name. Conditions: as each theorem names them. -/
namespace Go.Proofs.Yteolnghnlfeakaa
open Go.ChangeShapes Go.WideShapes Go.ChangeAt Go.RowKit
set_option linter.unusedVariables false
set_option maxRecDepth 100000

theorem strOfNums_append (a b : List Int) : strOfNums (a ++ b) = strOfNums a ++ strOfNums b := by
  unfold strOfNums
  rw [ByteArray.mk_append_mk, List.map_append]
theorem gatS_part (R : List (Int × Int)) (M : List Int) : ∀ L : List Sg, gatS R M (partS false L) = gatS R M L
  | [] => rfl
  | s :: l => by
    have ih := gatS_part R M l
    by_cases ht : s.t = true
    · rw [partS_no (by rw [ht]; decide), ih]
      simp only [gatS]
      rw [if_pos ht]
      rfl
    · rw [partS_yes (by simpa using ht)]
      simp only [gatS]
      rw [ih]
theorem sum_in : ∀ {L : List Sg}, allIn R1 L = true → sumS L ≤ 2000 * (L.length : Int)
  | [], _ => by simp [sumS]
  | s :: l, h => by
    obtain ⟨a1, a2⟩ := allIn_cons h
    have := sum_in a2
    obtain ⟨h0, h1, h2⟩ := locR1_some a1
    simp only [sumS, List.length_cons]
    omega
theorem inE_yes {R : List (Int × Int)} {L : List Sg} (h : segE L = 0) (ha : allIn R L = true) : inE R L = 0 := by
  rw [inE_ok h, exE_yes ha]
theorem inE_all {R : List (Int × Int)} {L : List Sg} (h : segE L = 0) (hi : inE R L = 0) : allIn R L = true := by
  rw [inE_ok h] at hi
  by_cases ha : allIn R L = true
  · exact ha
  · rw [exE_no (by simpa using ha)] at hi
    cases hi
theorem inE_five {R : List (Int × Int)} {L : List Sg} (h : segE L = 0) (hi : inE R L ≠ 0) : inE R L = 5 := by
  rw [inE_ok h] at hi ⊢
  by_cases ha : allIn R L = true
  · exact absurd (exE_yes ha) hi
  · exact exE_no (by simpa using ha)
theorem pgat_ok {v : Value} {L : List Sg} {p ib qb : Nat} {R : List (Int × Int)} {M : List Int} {w : World} (hv : SegsAt w v L) (hu : isSgs L) (hm : IsMem w p ib qb R M) (hi : inE R L = 0) {G : List Int} (hG : gatS R M L = G) :
    Calls Try.prog 12 #[.pointer (some ⟨p, 0, none⟩), v] w fun e w' => ∃ a c, e = .returned (.tuple #[.slice a G.length c, .int .i64 0]) ∧ NewBytes w.heap.size w' (.slice a G.length c) G ∧ Below w.heap.size w w' := by
  have h := pgat v L p ib qb R M w hv hu hm
  have e : gatL R M L = G := by
    unfold gatL
    rw [if_pos hi, hG]
  rw [hi, e] at h
  refine h.mono ?_
  rintro e w' ⟨v', rfl, hn, hb⟩
  obtain ⟨a, c, rfl⟩ := newBytes_len hn
  exact ⟨a, c, rfl, hn, hb⟩
theorem pgat_bad {v : Value} {L : List Sg} {p ib qb : Nat} {R : List (Int × Int)} {M : List Int} {w : World} (hv : SegsAt w v L) (hu : isSgs L) (hm : IsMem w p ib qb R M) {x : Int} (hi : inE R L = x) (hx : x ≠ 0) :
    Calls Try.prog 12 #[.pointer (some ⟨p, 0, none⟩), v] w fun e w' => ∃ a c, e = .returned (.tuple #[.slice a 0 c, .int .i64 x]) ∧ Below w.heap.size w w' := by
  have h := pgat v L p ib qb R M w hv hu hm
  have e : gatL R M L = [] := by
    unfold gatL
    rw [hi, if_neg hx]
  rw [hi, e] at h
  refine h.mono ?_
  rintro e w' ⟨v', rfl, hn, hb⟩
  obtain ⟨a, c, rfl⟩ := newBytes_len hn
  exact ⟨a, c, rfl, hb⟩
theorem pscat_ok {v : Value} {L : List Sg} {xa : Option Addr} {xc n : Nat} {l : List Int} {p ib qb : Nat} {R : List (Int × Int)} {M : List Int} {w : World} (hv : SegsAt w v L) (hu : isSgs L) (hn : l.length = n) (hb : BytesAt w (.slice xa n xc) l) (hlb : isBytes l) (hlen : l.length ≤ 1000000) (hm : IsMem w p ib qb R M)
    (hx : ∀ b o, xa = some ⟨b, o, none⟩ → b ≠ ib) (hi : inE R L = 0) {k : Int} (hk : min (l.length : Int) (totS true L) = k) {M' : List Int} (hM : scatS R M l L = M') :
    Calls Try.prog 10 #[.pointer (some ⟨p, 0, none⟩), v, .slice xa n xc] w fun e w' => e = .returned (.tuple #[.int .i64 k, .int .i64 0]) ∧ IsMem w' p ib qb R M' ∧ Chg (· = ib) w w' := by
  subst hn
  have h := pscat v L xa xc l p ib qb R M w hv hu hb hlb hlen hm hx
  have e1 : scatN R L l = k := by
    unfold scatN
    rw [if_pos hi, hk]
  have e2 : scatM R M L l = M' := by
    unfold scatM
    rw [if_pos hi, hM]
  rw [hi, e1, e2] at h
  exact h
theorem pscat_bad {v xv : Value} {L : List Sg} {p ib qb : Nat} {R : List (Int × Int)} {M : List Int} {w : World} (hv : SegsAt w v L) (hu : isSgs L) (hm : IsMem w p ib qb R M) {x : Int} (hi : inE R L = x) (hx0 : x ≠ 0) :
    Calls Try.prog 10 #[.pointer (some ⟨p, 0, none⟩), v, xv] w fun e w' => e = .returned (.tuple #[.int .i64 0, .int .i64 x]) ∧ Below w.heap.size w w' := by
  have HI := hid_mk (pin v L p ib qb R M w hv hu hm)
  rw [hi] at HI
  have hE2 : (x != 0) = true := by simp [hx0]
  obtain ⟨va, vc, rfl⟩ := hv.len
  clear hv hm hi
  go_enter Try.func10, Try.ntmps10
  go_wp2_with fail
  refine HI.out.mono ?_
  rintro e w1 ⟨rfl, hb⟩
  have HB1 := hid_mk hb
  clear hb
  go_wp2_with fail
  go_ret2
  exact ⟨rfl, HB1.out⟩
/-- a memory of one region of 2,000 bytes, written from its start -/
theorem write_start {l : List Int} (h : l.length ≤ 2000) : writeE R1 0 l = 0 := by
  unfold writeE
  by_cases he : l.isEmpty = true
  · rw [if_pos he]
  · rw [if_neg he]
    have h1 : 1 ≤ l.length := by
      cases l
      · exact absurd rfl he
      · simp
    rw [locR1 (by omega) (by omega) (by omega)]
    rfl
theorem bytes_len {w : World} {v : Value} {l : List Int} (h : BytesAt w v l) : ∃ a c, v = .slice a l.length c := by
  rcases h with ⟨⟨a, c, rfl, _⟩, rfl⟩ | ⟨b, o, c, rfl, _⟩
  · exact ⟨a, c, rfl⟩
  · exact ⟨_, c, rfl⟩
/-- new bytes, wherever they begin -/
def newP (l : List Int) (v : Value) (w : World) : Prop := ∃ B, NewBytes B w v l
theorem up_newP (l : List Int) : ∀ v w w', Below w.heap.size w w' → newP l v w → newP l v w' := fun v w w' hb ⟨B, h⟩ => ⟨B, h.below hb⟩
theorem conv_newP {l : List Int} {v : Value} {w : World} (h : newP l v w) : (convert 38 9 v).run Try.prog w = .ok (.string (strOfNums l)) w := by
  obtain ⟨B, h⟩ := h
  exact convN h
theorem conv_new {B : Nat} {w u : World} {v : Value} {l : List Int} (h : NewBytes B w v l) (ib : Nat) (hc : Chg (· = ib) w u) (hB : ib < B) : (convert 38 9 v).run Try.prog u = .ok (.string (strOfNums l)) u :=
  convN (newBytes_chg h hc (fun k hk e => by omega))
end Go.Proofs.Yteolnghnlfeakaa
