/- Facts for the walks of layer 5's statements: bytes put together as strings, Gather and Scatter of buffers that exist, by name. Conditions: as each theorem names them. -/
import Derived.Test.YteolnghnlfeakaaPg14
import Derived.Test.YteolnghnlfeakaaSg13
import Derived.Laws.Concat
namespace Go.Proofs.Yteolnghnlfeakaa
open Go.ChangeShapes Go.WideShapes Go.ChangeAt Go.RowKit
set_option linter.unusedVariables false
set_option maxRecDepth 100000

theorem strOfNums_append (a b : List Int) : strOfNums (a ++ b) = strOfNums a ++ strOfNums b := by
  unfold strOfNums
  rw [ByteArray.mk_append_mk, List.map_append]
theorem gatS_part (R : List (Int × Int)) (M : List Int) : ∀ L : List Sg, gatS R M (partS false L) = gatS R M L
  | [] => rfl
  | s :: l => by
    have ih := gatS_part R M l
    by_cases ht : s.t = true
    · rw [partS_no (by rw [ht]; decide), ih]
      simp only [gatS]
      rw [if_pos ht]
      rfl
    · rw [partS_yes (by simpa using ht)]
      simp only [gatS]
      rw [ih]
theorem sum_in : ∀ {L : List Sg}, allIn R1 L = true → sumS L ≤ 2000 * (L.length : Int)
  | [], _ => by simp [sumS]
  | s :: l, h => by
    obtain ⟨a1, a2⟩ := allIn_cons h
    have := sum_in a2
    obtain ⟨h0, h1, h2⟩ := locR1_some a1
    simp only [sumS, List.length_cons]
    omega
theorem inE_yes {R : List (Int × Int)} {L : List Sg} (h : segE L = 0) (ha : allIn R L = true) : inE R L = 0 := by
  rw [inE_ok h, exE_yes ha]
theorem inE_all {R : List (Int × Int)} {L : List Sg} (h : segE L = 0) (hi : inE R L = 0) : allIn R L = true := by
  rw [inE_ok h] at hi
  by_cases ha : allIn R L = true
  · exact ha
  · rw [exE_no (by simpa using ha)] at hi
    cases hi
theorem inE_five {R : List (Int × Int)} {L : List Sg} (h : segE L = 0) (hi : inE R L ≠ 0) : inE R L = 5 := by
  rw [inE_ok h] at hi ⊢
  by_cases ha : allIn R L = true
  · exact absurd (exE_yes ha) hi
  · exact exE_no (by simpa using ha)
theorem pgat_ok {v : Value} {L : List Sg} {p ib qb : Nat} {R : List (Int × Int)} {M : List Int} {w : World} (hv : SegsAt w v L) (hu : isSgs L) (hm : IsMem w p ib qb R M) (hi : inE R L = 0) {G : List Int} (hG : gatS R M L = G) :
    Calls Try.prog 12 #[.pointer (some ⟨p, 0, none⟩), v] w fun e w' => ∃ a c, e = .returned (.tuple #[.slice a G.length c, .int .i64 0]) ∧ NewBytes w.heap.size w' (.slice a G.length c) G ∧ Below w.heap.size w w' := by
  have h := pgat v L p ib qb R M w hv hu hm
  have e : gatL R M L = G := by
    unfold gatL
    rw [if_pos hi, hG]
  rw [hi, e] at h
  refine h.mono ?_
  rintro e w' ⟨v', rfl, hn, hb⟩
  obtain ⟨a, c, rfl⟩ := newBytes_len hn
  exact ⟨a, c, rfl, hn, hb⟩
theorem pgat_bad {v : Value} {L : List Sg} {p ib qb : Nat} {R : List (Int × Int)} {M : List Int} {w : World} (hv : SegsAt w v L) (hu : isSgs L) (hm : IsMem w p ib qb R M) {x : Int} (hi : inE R L = x) (hx : x ≠ 0) :
    Calls Try.prog 12 #[.pointer (some ⟨p, 0, none⟩), v] w fun e w' => ∃ a c, e = .returned (.tuple #[.slice a 0 c, .int .i64 x]) ∧ Below w.heap.size w w' := by
  have h := pgat v L p ib qb R M w hv hu hm
  have e : gatL R M L = [] := by
    unfold gatL
    rw [hi, if_neg hx]
  rw [hi, e] at h
  refine h.mono ?_
  rintro e w' ⟨v', rfl, hn, hb⟩
  obtain ⟨a, c, rfl⟩ := newBytes_len hn
  exact ⟨a, c, rfl, hb⟩
theorem pscat_ok {v : Value} {L : List Sg} {xa : Option Addr} {xc n : Nat} {l : List Int} {p ib qb : Nat} {R : List (Int × Int)} {M : List Int} {w : World} (hv : SegsAt w v L) (hu : isSgs L) (hn : l.length = n) (hb : BytesAt w (.slice xa n xc) l) (hlb : isBytes l) (hlen : l.length ≤ 1000000) (hm : IsMem w p ib qb R M)
    (hx : ∀ b o, xa = some ⟨b, o, none⟩ → b ≠ ib) (hi : inE R L = 0) {k : Int} (hk : min (l.length : Int) (totS true L) = k) {M' : List Int} (hM : scatS R M l L = M') :
    Calls Try.prog 10 #[.pointer (some ⟨p, 0, none⟩), v, .slice xa n xc] w fun e w' => e = .returned (.tuple #[.int .i64 k, .int .i64 0]) ∧ IsMem w' p ib qb R M' ∧ Chg (· = ib) w w' := by
  subst hn
  have h := pscat v L xa xc l p ib qb R M w hv hu hb hlb hlen hm hx
  have e1 : scatN R L l = k := by
    unfold scatN
    rw [if_pos hi, hk]
  have e2 : scatM R M L l = M' := by
    unfold scatM
    rw [if_pos hi, hM]
  rw [hi, e1, e2] at h
  exact h
theorem pscat_bad {v xv : Value} {L : List Sg} {p ib qb : Nat} {R : List (Int × Int)} {M : List Int} {w : World} (hv : SegsAt w v L) (hu : isSgs L) (hm : IsMem w p ib qb R M) {x : Int} (hi : inE R L = x) (hx0 : x ≠ 0) :
    Calls Try.prog 10 #[.pointer (some ⟨p, 0, none⟩), v, xv] w fun e w' => e = .returned (.tuple #[.int .i64 0, .int .i64 x]) ∧ Below w.heap.size w w' := by
  have HI := hid_mk (pin v L p ib qb R M w hv hu hm)
  rw [hi] at HI
  have hE2 : (x != 0) = true := by simp [hx0]
  obtain ⟨va, vc, rfl⟩ := hv.len
  clear hv hm hi
  go_enter Try.func10, Try.ntmps10
  go_wp2_with fail
  refine HI.out.mono ?_
  rintro e w1 ⟨rfl, hb⟩
  have HB1 := hid_mk hb
  clear hb
  go_wp2_with fail
  go_ret2
  exact ⟨rfl, HB1.out⟩
/-- a memory of one region of 2,000 bytes, written from its start -/
theorem write_start {l : List Int} (h : l.length ≤ 2000) : writeE R1 0 l = 0 := by
  unfold writeE
  by_cases he : l.isEmpty = true
  · rw [if_pos he]
  · rw [if_neg he]
    have h1 : 1 ≤ l.length := by
      cases l
      · exact absurd rfl he
      · simp
    rw [locR1 (by omega) (by omega) (by omega)]
    rfl
theorem bytes_len {w : World} {v : Value} {l : List Int} (h : BytesAt w v l) : ∃ a c, v = .slice a l.length c := by
  rcases h with ⟨⟨a, c, rfl, _⟩, rfl⟩ | ⟨b, o, c, rfl, _⟩
  · exact ⟨a, c, rfl⟩
  · exact ⟨_, c, rfl⟩
theorem conv_new {B : Nat} {w u : World} {v : Value} {l : List Int} (h : NewBytes B w v l) (ib : Nat) (hc : Chg (· = ib) w u) (hB : ib < B) : (convert 38 9 v).run Try.prog u = .ok (.string (strOfNums l)) u :=
  convN (newBytes_chg h hc (fun k hk e => by omega))
end Go.Proofs.Yteolnghnlfeakaa
