/- Bt0: joined texts. Conditions: as each theorem names them. -/
import Derived.Test.YtgdokgpplldddaaKp42
import Derived.Test.YtgdokgpplldddaaKp37
import Derived.Test.YtgdokgpplldddaaKp36
import Derived.Test.YtgdokgpplldddaaKp27
/- Facts of BuildTells: its numbers, flags, the closure; what is read back. Conditions: as each theorem names them. -/
namespace Go.Proofs.Ytgdokgpplldddaa
open Go.ChangeShapes Go.WideShapes Go.ChangeAt Go.RowKit
set_option linter.unusedVariables false
set_option maxRecDepth 100000

/-- the numbers -/
def idT (q n : Nat) : List Nat := (List.range n).map (fun k => q + 5 * k)
def idI (q n : Nat) : List Int := (idT q n).map (fun i : Nat => (i : Int))
theorem idT_len (q n : Nat) : (idT q n).length = n := by simp [idT]
theorem idI_len (q n : Nat) : (idI q n).length = n := by simp [idI, idT]
theorem idT_succ (q n : Nat) : idT q (n + 1) = idT q n ++ [q + 5 * n] := by
  unfold idT
  rw [List.range_succ, List.map_append]
  rfl
theorem idI_at {q n k : Nat} (h : k < n) : (idI q n).getD k 0 = ((q + 5 * k : Nat) : Int) := by
  simp [idI, idT, List.getD, h]
theorem idI_ok {q n : Nat} (hq : q ≤ 200) (hn : n ≤ 64) : okT 32768 (idI q n) (idI q n).length = true := by
  refine (okT_iff (Nat.le_refl _)).2 ⟨fun x hx => ?_, ?_⟩
  · rw [List.take_length] at hx
    unfold idI idT at hx
    rw [List.map_map] at hx
    obtain ⟨i, hi, rfl⟩ := List.mem_map.1 hx
    have := List.mem_range.1 hi
    show (0 : Int) ≤ ((q + 5 * i : Nat) : Int) ∧ ((q + 5 * i : Nat) : Int) < 32768
    omega
  · rw [List.take_length]
    unfold idI idT
    rw [List.map_map]
    exact List.pairwise_map.2 (List.Pairwise.imp (fun {a b} (hab : a ≠ b) => fun e => hab (by
      have e : ((q + 5 * a : Nat) : Int) = ((q + 5 * b : Nat) : Int) := e
      omega)) (show List.Pairwise (· ≠ ·) (List.range n) from List.nodup_range))
theorem spl_id {q : Nat} {L : List Sg} (hq : q ≤ 200) (hm : mayE L = 0) (hn : L.length ≤ 64) : splE (idI q L.length) L = 0 ∧ splR (idI q L.length) L = splL (idI q L.length) L := spl_yes hm (idI_len _ _) (idI_ok hq hn)
/-- the flags that the closure asks for -/
def flOk (f : Nat) (t nx : Bool) : Bool := (bits .and .u16 (f : Int) 2 == if t then 2 else 0) && ((bits .and .u16 (f : Int) 1 == if nx then 1 else 0) && bits .and .u16 (f : Int) 4 == 0)
theorem flOk_plain (t nx : Bool) : flOk (flgN t nx) t nx = true := by cases t <;> cases nx <;> decide +kernel
theorem flOk_mark (t nx wr : Bool) : flOk (markN (flgN t nx) wr false) t nx = true := by cases t <;> cases nx <;> cases wr <;> decide +kernel
theorem own_flg (t nx wr : Bool) : ownN (markN (flgN t nx) wr false) = mkN wr false := by cases t <;> cases nx <;> cases wr <;> decide +kernel
set_option maxHeartbeats 1000000 in
theorem lflags (k n f : Nat) (t nx : Bool) (b6 b2 o2 uc : Nat) (w : World) (hb : w.cell? ⟨b6, 0, none⟩ = some (.slice (some ⟨b2, o2, none⟩) n uc)) (hc : w.cell? ⟨b2, o2 + k * 3 + 2, none⟩ = some (.bool t)) (hk : k < n) (hn : n ≤ 64) (hx : nx = decide (k + 1 < n)) (hf : flOk f t nx = true) :
    Calls Try.prog 28 #[.int .i64 k, .int .u16 f, .pointer (some ⟨b6, 0, none⟩)] w fun e w' => e = .returned (.bool true) ∧ w' = w := by
  unfold flOk at hf
  simp only [Bool.and_eq_true, beq_iff_eq] at hf
  obtain ⟨h1, h2, h3⟩ := hf
  have hki : (k : Int) < (n : Int) := by omega
  have hni : (n : Int) ≤ 64 := by omega
  cases t <;> cases nx
  · simp only [Bool.false_eq_true, if_false] at h1 h2
    have hnx : decide ((k : Int) + 1 < (n : Int)) = false := decide_eq_false (by have := of_decide_eq_false hx.symm; omega)
    clear hx
    go_enter Try.func28, Try.ntmps28
    go_wp2
    go_ret
    exact ⟨rfl, rfl⟩
  · simp only [if_true, Bool.false_eq_true, if_false] at h1 h2
    have hnx : (k : Int) + 1 < (n : Int) := by have := of_decide_eq_true hx.symm; omega
    clear hx
    go_enter Try.func28, Try.ntmps28
    go_wp2
    go_ret
    exact ⟨rfl, rfl⟩
  · simp only [if_true, Bool.false_eq_true, if_false] at h1 h2
    have hnx : decide ((k : Int) + 1 < (n : Int)) = false := decide_eq_false (by have := of_decide_eq_false hx.symm; omega)
    clear hx
    go_enter Try.func28, Try.ntmps28
    go_wp2
    go_ret
    exact ⟨rfl, rfl⟩
  · simp only [if_true] at h1 h2
    have hnx : (k : Int) + 1 < (n : Int) := by have := of_decide_eq_true hx.symm; omega
    clear hx
    go_enter Try.func28, Try.ntmps28
    go_wp2
    go_ret
    exact ⟨rfl, rfl⟩
theorem BlkAt.one {w : World} {b : Nat} {x : Value} {t : TypeId} (h : BlkAt w b [x] t) : b < w.heap.size ∧ w.cell? ⟨b, 0, none⟩ = some x ∧ True := ⟨h.lt, h.cell 0, trivial⟩
theorem BlkAt.own_app {B : Nat} {w w' : World} {b : Nat} {C : List Value} {t : TypeId} (h : BlkAt w b C t) (hb : Below B w w') (hlt : b < B) : BlkAt w' b C t := (hb.block b hlt).trans h
/-- cells of lists that are there, at one index -/
theorem tell_p {w : World} {L : List Pt} {k n : Nat} {a : Option Addr} {c : Nat} (h : PtsAt w (.slice a n c) L) (hk : k < L.length) : ∃ g o, a = some ⟨g, o, none⟩ ∧ g < w.heap.size ∧ at5 w g (o + k * 5) (ptat L k) := by
  rcases h with ⟨_, e⟩ | ⟨g, o, c, he, h1, h2, h3⟩
  · rw [e] at hk
    simp at hk
  · cases he
    exact ⟨g, o, rfl, h1, h3 k hk⟩
theorem tell_d {w : World} {L : List Dsc} {k n : Nat} {a : Option Addr} {c : Nat} (h : DescsAt w (.slice a n c) L) (hk : k < L.length) : ∃ g o, a = some ⟨g, o, none⟩ ∧ g < w.heap.size ∧ at4 w g (o + k * 4) (dat L k) := by
  rcases h with ⟨_, e⟩ | ⟨g, o, c, he, h1, h2, h3⟩
  · rw [e] at hk
    simp at hk
  · cases he
    exact ⟨g, o, rfl, h1, h3 k hk⟩
theorem tell_s {w : World} {L : List Sg} {k n : Nat} {a : Option Addr} {c : Nat} (h : SegsAt w (.slice a n c) L) (hk : k < L.length) : ∃ g o, a = some ⟨g, o, none⟩ ∧ g < w.heap.size ∧ at3 w g (o + k * 3) (sat L k) := by
  rcases h with ⟨_, e⟩ | ⟨g, o, c, he, h1, h2, h3⟩
  · rw [e] at hk
    simp at hk
  · cases he
    exact ⟨g, o, rfl, h1, h3 k hk⟩
theorem tell_i {w : World} {L : List Int} {k n : Nat} {a : Option Addr} {c : Nat} (h : IntsZ w (.slice a n c) L) (hk : k < L.length) : ∃ g o, a = some ⟨g, o, none⟩ ∧ g < w.heap.size ∧ (∀ j, j < L.length → w.cell? ⟨g, o + j, none⟩ = some (.int .i64 (L.getD j 0))) := by
  rcases h with ⟨_, e⟩ | ⟨g, o, c, he, h1, h2, h3⟩
  · rw [e] at hk
    simp at hk
  · cases he
    exact ⟨g, o, rfl, h1, h3⟩
/-- a position of a ring and its round -/
theorem go_mod {a k n : Nat} (ha : a < n) (hk : k < n) : ((a : Int) + (k : Int)).tmod (n : Int) = goA a k n := by
  rw [Int.tmod_eq_emod_of_nonneg (by omega)]
  unfold goA
  by_cases h : (a : Int) + (k : Int) < (n : Int)
  · rw [if_pos h, Int.emod_eq_of_lt (by omega) h]
  · rw [if_neg h, show (a : Int) + (k : Int) = ((a : Int) + (k : Int) - n) + n * 1 by omega, Int.add_mul_emod_self_left, Int.emod_eq_of_lt (by omega) (by omega)]
    omega
theorem go_round {a k n : Nat} (b : Bool) : goW a k n b = (b != decide ((n : Int) ≤ (a : Int) + (k : Int))) := by
  unfold goW
  by_cases h : (a : Int) + (k : Int) < (n : Int)
  · rw [if_pos h, decide_eq_false (by omega)]
    cases b <;> rfl
  · rw [if_neg h, decide_eq_true (by omega)]
    cases b <;> rfl
theorem pck_len {p n : Int} {b : Bool} {id : Int} {L : List Sg} (hm : mayE L = 0) (hp : okP p n = true) (h0 : 0 ≤ id) (h1 : id < n) (hl : (L.length : Int) ≤ n) : pckE p n id L = 0 ∧ pckR p n b id L = pckL p n b id L := by
  refine pck_yes hm ?_
  unfold pckB
  rw [hp, okI_iff.2 ⟨h0, h1⟩, decide_eq_true hl]
  rfl
theorem ptb_back {L : List Sg} (hs : isSgs L) (hm : mayE L = 0) (k : Nat) (hk : k < L.length) : ((ptbB L).drop (16 * k)).take 16 = dB (ptbD L k) ∧ isBytes (ptbB L) ∧ (ptbB L).length = 16 * L.length ∧ rdD (dB (ptbD L k)) = ptbD L k := by
  have e : ptbB L = tabB (ptbL L) := by
    unfold ptbB
    rw [if_pos hm]
  have hd : isDsc (ptbD L k) := by
    obtain ⟨⟨a1, a2⟩, n1, n2⟩ := sat_is hs k
    have hf := flgN_lt (sat L k).t false
    refine ⟨⟨a1, a2⟩, ⟨n1, n2⟩, ⟨by show (0 : Int) ≤ 0; omega, by show (0 : Int) < 65536; omega⟩, ⟨by show (0 : Int) ≤ ((flgN _ _ : Nat) : Int); omega, by show ((flgN _ _ : Nat) : Int) < _; omega⟩⟩
  have hp := tabB_part (ptbL L) k (by rw [ptbL_len]; exact hk)
  rw [show dat (ptbL L) k = ptbD L k by simp [dat, ptbL, List.getD, hk]] at hp
  refine ⟨by rw [e]; exact hp, by rw [e]; exact tabB_bytes _, (stb_len hm).2, ?_⟩
  rw [(rd_yes (dB_length _)).1, dR_dB hd]
/-- a part of a slice of bytes, not empty -/
theorem sliceMidB {w : World} {va : Option Addr} {vc : Nat} {l : List Int} {n : Nat} (hv : BytesAt w (.slice va n vc) l) (hn : l.length = n) (i k : Nat) (hk : 0 < k) (h : i + k ≤ n) :
    ∃ v1, (∀ u, (Instr.sliceAt 49 (.slice va n vc) (some (.int .i64 (i : Int))) (some (.int .i64 ((i : Int) + (k : Int)))) none).run Try.prog u = .ok v1 u) ∧ BytesAt w v1 ((l.drop i).take k) := by
  subst hn
  have hik : (i : Int) ≤ (i : Int) + (k : Int) := by omega
  have hlen : ((l.drop i).take k).length = k := by
    rw [List.length_take, List.length_drop]
    omega
  rcases hv with ⟨_, rfl⟩ | ⟨b, o, c, he, h2, h3, h4⟩
  · simp at h
    omega
  · cases he
    have hci : (i : Int) + (k : Int) ≤ (vc : Int) := by omega
    have hvq : vc ≠ i := by omega
    refine ⟨.slice (some ⟨b, o + i, none⟩) k (vc - i), fun u => ?_, Or.inr ⟨b, o + i, vc - i, ?_, h2, by rw [hlen]; omega, fun j hj => ?_⟩⟩
    · simp [go_sem, hci, hik, hvq]
      omega
    · rw [hlen]
    · rw [hlen] at hj
      rw [Nat.add_assoc, h4 (i + j) (by omega)]
      congr 2
      rw [List.getD_eq_getElem?_getD, List.getD_eq_getElem?_getD, List.getElem?_take_of_lt hj, List.getElem?_drop]
theorem neqPd (x : Dsc) (w : World) : (binOp .neq 44 (dV x) (dV x)).run Try.prog w = .ok (.bool false) w := by
  rw [run_neq_struct, run_equalIn_agg w 9999 44 _ _ fieldsP stoodP]
  have hf := fieldsP
  rw [Try.underlying44] at hf
  simp at hf
  rw [← hf]
  simp [Op.eqFields, go_sem, Try.underlying34, Try.underlying35, Try.underlying36]
theorem stb_back {L : List Sg} (hs : isSgs L) (hl : L.length ≤ 64) (hm : mayE L = 0) : rtE (stbB L) = 0 ∧ rtD (stbB L) = stbL L ∧ isBytes (stbB L) ∧ (stbB L).length ≤ 5000 := by
  have e : stbB L = tabB (stbL L) := by
    unfold stbB
    rw [if_pos hm]
  have hd : isDscs (stbL L) := fun d hd => by
    unfold stbL splL at hd
    rw [List.map_map] at hd
    obtain ⟨k, hk, rfl⟩ := List.mem_map.1 hd
    exact spl_is hs (by omega) k (List.mem_range.1 hk)
  have hlen : (tabB (stbL L)).length = 16 * L.length := by rw [tabB_length, stbL_len]
  have h1 := rdT_tabB hd
  rw [stbL_len] at h1
  rw [e]
  refine ⟨?_, ?_, tabB_bytes _, by rw [hlen]; omega⟩
  · unfold rtE
    rw [hlen, if_pos (by omega)]
  · unfold rtD
    rw [hlen, if_pos (by omega), show 16 * L.length / 16 = L.length by omega, h1]
theorem stbL_at {L : List Sg} {k : Nat} (h : k < L.length) : dat (stbL L) k = (splD (numI L.length) L k).d := by
  simp [dat, stbL, splL, List.getD, h]
theorem numI_at {n k : Nat} (h : k < n) : (numI n).getD k 0 = (k : Int) := by
  simp [numI, List.getD, h]
end Go.Proofs.Ytgdokgpplldddaa
