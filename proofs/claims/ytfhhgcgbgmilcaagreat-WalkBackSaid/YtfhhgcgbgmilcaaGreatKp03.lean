/- Gm2 Gm3 Bw: joined texts. Conditions: as each theorem names them. -/
import Derived.Test.YtfhhgcgbgmilcaaGreatKp02
import Derived.Test.YtfhhgcgbgmilcaaGreatKp01
import Derived.OwnWalk
import Derived.WalkSpells
import Derived.Laws.CopyOwn
import Derived.Deep.WholeRow
import Derived.Test.YtfhhgcgbgmilcaaGreatRows
import Derived.WalkKit
import Derived.ProofKit
import Derived.Laws.MakeOwn
import Derived.Laws.OwnMore
import Derived.Lib.SliceRun
/- Contracts of gmem's find and of what stands on it. Conditions: as each theorem names them. -/
namespace Go.Proofs.YtfhhgcgbgmilcaaGreat
open Go.ChangeShapes Go.WideShapes Go.ChangeAt Go.RowKit
set_option linter.unusedVariables false

/-- the bytes that 'find' returns -/
def findV (ib : Nat) (n : Int) : Option Nat → Value
  | none => .slice none 0 0
  | some k => .slice (some ⟨ib, k, none⟩) n.toNat n.toNat

theorem search_ends (p ib qb : Nat) (L : List (Int × Int)) (M : List Int) (a : Int) (pb ab : Nat) (w : World) (h : IsMem w p ib qb L M) (hp : w.cell? ⟨pb, 0, none⟩ = some (.pointer (some ⟨p, 0, none⟩))) (ha : w.cell? ⟨ab, 0, none⟩ = some (.int .u64 a)) :
    Calls Tryz.prog 63 #[.int .i64 L.length, .func (.func 64) #[] #[.pointer (some ⟨pb, 0, none⟩), .pointer (some ⟨ab, 0, none⟩)]] w fun e w' => ∃ r : Nat, e = .returned (.int .i64 r) ∧ Found L a r ∧ ∃ k, w' = w.drewN k := by
  have h16 := h.n16
  refine (search_any 64 _ L.length (fun i => decide (a ≤ (at_ L i).1 + (at_ L i).2 - 1)) w (enters_of Tryz.func64 (by kernel_rfl) rfl) (by omega) ?_ ?_).mono ?_
  · intro m i hi
    refine (end_any p ib qb pb ab L M a i (w.drewN m) (h.drewN m) ?_ ?_ hi).mono fun e w' hh => hh
    · exact hp
    · exact ha
  · intro i j hij hj ht
    rcases Nat.eq_or_lt_of_le hij with rfl | hlt
    · exact ht
    · have h1 := okR_mono h.ok hlt hj
      have h2 := okR_at h.ok j hj
      simp only [decide_eq_true_eq] at ht ⊢
      omega
  · rintro e w' ⟨r, he, ⟨h1, h2, h3⟩, hk⟩
    refine ⟨r, he, ⟨h1, fun j hj => ?_, fun hr => ?_⟩, hk⟩
    · have := h2 j hj
      simp only [decide_eq_false_iff_not] at this
      omega
    · have := h3 hr
      simp only [decide_eq_true_eq] at this
      exact this

set_option maxHeartbeats 1000000 in
theorem find_any (p ib qb : Nat) (L : List (Int × Int)) (M : List Int) (a n : Int) (w : World) (h : IsMem w p ib qb L M) (ha : U64 a) (hn : U64 n) :
    Calls Tryz.prog 31 #[.pointer (some ⟨p, 0, none⟩), .int .u64 a, .int .u64 n] w fun e w' => e = .returned (findV ib n (loc L a n)) ∧ Below w.heap.size w w' := by
  have H : Hid (IsMem w p ib qb L M) := h
  have ho := (cellK h.obj 2)
  simp at ho
  have hpl := lt_blk h.obj
  have hql := lt_blk h.prt
  have hn16 := h.n16
  clear h
  go_enter Tryz.func31, Tryz.ntmps31
  go_wp2_with fail
  refine (search_ends p ib qb L M a w.heap.size (w.heap.size + 1) _ (H.out.below (((Below.refl _ _).alloc (Nat.le_refl _) _).alloc (by simp) _)) (by go_simp) (by go_simp)).mono ?_
  rintro e w' ⟨r, rfl, hf, nq, rfl⟩
  have HF : Hid (Found L a r) := hf
  have hrl := hf.le
  clear hf
  have hq := fun hk => partCells_at ib 0 L r hk
  by_cases hr : r = L.length
  · have HL : Hid (loc L a n = none) := by
      have := HF.out
      rw [hr] at this
      exact hid_mk this.nowhere
    have hd : decide ((r : Int) = (L.length : Int)) = true := by simp [hr]
    have hb : ((r : Int) == (L.length : Int)) = true := by simp [hr]
    clear hr hq
    go_wp2_with fail
    go_quiet (fail)
    go_wp2_with fail
    go_ret
    exact ⟨ret_eq (by rw [HL.out]; rfl), by repeat (first | exact Below.refl _ _ | (refine below_dn ?_ _) | (refine Below.alloc ?_ (by first | (simp; done) | (simp; omega)) _))⟩
  · have hlt : r < L.length := by omega
    obtain ⟨g1, g2, g3⟩ := hq hlt
    have c1 := (cellK H.out.prt (r * 3)).trans g1
    have c3 := (cellK H.out.prt (r * 3 + 2)).trans g3
    clear g1 g2 g3 hq
    have hd : decide ((r : Int) = (L.length : Int)) = false := by simp; omega
    have hb : ((r : Int) == (L.length : Int)) = false := by simp; omega
    have hokr := okR_at H.out.ok r hlt
    have hhere := HF.out.here hlt
    by_cases hah : a < (at_ L r).1
    · have HL : Hid (loc L a n = none) := hid_mk (HF.out.ahead H.out.ok hlt hah)
      generalize (at_ L r).1 = x at *
      go_wp2_with fail
      go_quiet (fail)
      go_wp2_with fail
      go_ret
      exact ⟨ret_eq (by rw [HL.out]; rfl), by repeat (first | exact Below.refl _ _ | (refine below_dn ?_ _) | (refine Below.alloc ?_ (by first | (simp; done) | (simp; omega)) _))⟩
    · have hk : (at_ L r).1 ≤ a := by omega
      have hoff : off L r + (at_ L r).2.toNat ≤ sumR L := off_room L r hlt
      have HM : Hid (∀ m : Int, 1 ≤ m → a + m ≤ (at_ L r).1 + (at_ L r).2 → loc L a m = some (off L r + (a - (at_ L r).1).toNat)) := hid_mk fun m h1 h2 => loc_mk H.out.ok hlt hk h2 h1
      have HN : Hid (∀ m : Int, (m < 1 ∨ (at_ L r).1 + (at_ L r).2 < a + m) → loc L a m = none) := hid_mk fun m h => HF.out.short H.out.ok hlt h
      generalize hx : (at_ L r).1 = x at *
      generalize hy : (at_ L r).2 = y at *
      have hw : IntKind.u64.wrap (a - x) = a - x := by rw [IntKind.wrap_u64]; omega
      have hs0 : 0 ≤ a - x := by omega
      obtain ⟨y', rfl⟩ := Int.eq_ofNat_of_zero_le (show 0 ≤ y by omega)
      obtain ⟨k, hkk⟩ := Int.eq_ofNat_of_zero_le hs0
      have hk2 : k < y' := by omega
      clear hx hy hrl
      rw [hkk] at hw
      have hax : a = x + (k : Int) := by omega
      subst hax
      have hd2 : decide (x + (k : Int) < x) = false := by simp; omega
      have hki : (k : Int) ≤ (y' : Int) := by omega
      have hne : ¬ y' = k := by omega
      go_wp2_with fail
      go_quiet (fail)
      go_wp2_with fail
      go_quiet (fail)
      clear hb hd hd2 hw ho c1 c3
      go_wp2_with fail
      · go_ret
        exact ⟨ret_eq (by rw [HN.out _ (Or.inl (by omega))]; rfl), (by repeat (first | exact Below.refl _ _ | (refine below_dn ?_ _) | (refine Below.alloc ?_ (by first | (simp; done) | (simp; omega)) _)))⟩
      · rename_i hz hor
        have hor' : n = 0 ∨ ((y' - k : Nat) : Int) < n := by simpa using hor
        go_ret
        exact ⟨ret_eq (by rw [HN.out n (by omega)]; rfl), (by repeat (first | exact Below.refl _ _ | (refine below_dn ?_ _) | (refine Below.alloc ?_ (by first | (simp; done) | (simp; omega)) _)))⟩
      · rename_i hz hle
        have hle' : n ≤ ((y' - k : Nat) : Int) := hle.2
        go_ret
        refine ⟨ret_eq ?_, (by repeat (first | exact Below.refl _ _ | (refine below_dn ?_ _) | (refine Below.alloc ?_ (by first | (simp; done) | (simp; omega)) _)))⟩
        rw [HM.out n (by omega) (by omega)]
        have e : x + (k : Int) - x = k := by omega
        rw [e]
        simp [findV]
end Go.Proofs.YtfhhgcgbgmilcaaGreat

/- Contracts of gmem's accesses that only read: word, Load, Has, Read, Image. Conditions: as each theorem names them. -/
namespace Go.Proofs.YtfhhgcgbgmilcaaGreat
open Go.ChangeShapes Go.WideShapes Go.ChangeAt Go.RowKit
set_option linter.unusedVariables false

theorem eqnil (w : World) (a : Option Addr) (n c : Nat) : (binOp .eql 47 (.slice a n c) (.slice none 0 0)).run Tryz.prog w = .ok (.bool a.isNone) w := Lib.run_eql_slice_nil w 47 5 a n c 0 0 Tryz.underlying47
theorem neqnil (w : World) (a : Option Addr) (n c : Nat) : (binOp .neq 47 (.slice a n c) (.slice none 0 0)).run Tryz.prog w = .ok (.bool (!a.isNone)) w := run_neq_slice_nil_any w 47 5 a n c 0 0 Tryz.underlying47
/-- is it the width of a word? -/
def wid (n : Int) : Bool := n == 1 || n == 2 || n == 4 || n == 8
theorem wid_iff {n : Int} : wid n = true ↔ n = 1 ∨ n = 2 ∨ n = 4 ∨ n = 8 := by
  unfold wid
  simp
  omega
/-- what 'word' returns, and its error -/
def accE (L : List (Int × Int)) (a n : Int) : Int := if wid n then (if (loc L a n).isSome then 0 else 5) else 2
def accV (ib : Nat) (L : List (Int × Int)) (a n : Int) : Value := if wid n then findV ib n (loc L a n) else .slice none 0 0

/-! ## Load -/
def loadV (L : List (Int × Int)) (M : List Int) (a n : Int) : Int :=
  if wid n then (match loc L a n with | some k => le ((M.drop k).take n.toNat) | none => 0) else 0
/-! ## Has -/
theorem has_nil (a n : Int) (w : World) : Calls Tryz.prog 95 #[.pointer none, .int .u64 a, .int .u64 n] w fun e w' => e = .returned (.bool false) ∧ w = w' := by
  go_enter Tryz.func95, Tryz.ntmps95
  go_wp2_with (go_at_call 30; refine (made_nil _).mono ?_; rintro e w' ⟨rfl, rfl⟩)
  go_ret
  exact ⟨rfl, rfl⟩
theorem has_any (p ib qb : Nat) (L : List (Int × Int)) (M : List Int) (a n : Int) (w : World) (h : IsMem w p ib qb L M) (ha : U64 a) (hn : U64 n) :
    Calls Tryz.prog 95 #[.pointer (some ⟨p, 0, none⟩), .int .u64 a, .int .u64 n] w fun e w' => e = .returned (.bool (loc L a n).isSome) ∧ Below w.heap.size w w' := by
  have hm := made_yes p w (by rw [cellK h.obj 0]; rfl)
  have hf := find_any p ib qb L M a n w h ha hn
  have hneq := neqnil
  clear h
  cases hl : loc L a n
  all_goals
    rw [hl] at hf
    unfold findV at hf
    clear hl
    go_enter Tryz.func95, Tryz.ntmps95
    go_wp2_with (first | (go_at_call 30; refine hm.mono ?_; rintro e w' ⟨rfl, rfl⟩) | (go_at_call 31; refine hf.mono ?_; rintro e w' ⟨rfl, hb⟩))
    go_ret
    exact ⟨rfl, hb⟩
end Go.Proofs.YtfhhgcgbgmilcaaGreat

/- Blocks of bytes: what make, copy, clear and a store do to them, as equations of runs. Conditions: as each theorem names them. -/
namespace Go.Proofs.YtfhhgcgbgmilcaaGreat
open Go.ChangeShapes Go.WideShapes Go.ChangeAt Go.RowKit
set_option linter.unusedVariables false
set_option maxRecDepth 100000

/-- bytes as a block's cells -/
def bv (M : List Int) : Array Value := (M.map (Value.int .u8)).toArray
theorem bv_size (M : List Int) : (bv M).size = M.length := by simp [bv]
/-- M with l laid over it from k on -/
def put (M : List Int) (k : Nat) (l : List Int) : List Int := M.take k ++ l ++ M.drop (k + l.length)
theorem put_nil (M : List Int) (k : Nat) : put M k [] = M := by simp [put]
theorem put_length (M : List Int) (k : Nat) (l : List Int) (h : k + l.length ≤ M.length) : (put M k l).length = M.length := by
  simp [put]
  omega
theorem put_bytes {M : List Int} {k : Nat} {l : List Int} (hM : isBytes M) (hl : isBytes l) : isBytes (put M k l) := isBytes_append (isBytes_append (isBytes_take hM _) hl) (isBytes_drop hM _)
theorem put_snoc (M : List Int) (k : Nat) (l : List Int) (x : Int) (h : k + l.length < M.length) : (put M k l).set (k + l.length) x = put M k (l ++ [x]) := by
  unfold put
  have e1 : (M.take k ++ l).length = k + l.length := by simp; omega
  have hd : M.drop (k + l.length) = M[k + l.length] :: M.drop (k + l.length + 1) := by
    rw [List.drop_eq_getElem_cons h]
  rw [List.set_append_right _ _ (by omega), e1, Nat.sub_self, hd]
  simp [Nat.add_assoc]
theorem put_put (M : List Int) (k : Nat) (a b : List Int) (h : k + a.length + b.length ≤ M.length) : put (put M k a) (k + a.length) b = put M k (a ++ b) := by
  unfold put
  have e1 : (M.take k ++ a).length = k + a.length := by simp; omega
  have e2 : (M.take k ++ a ++ M.drop (k + a.length)).take (k + a.length) = M.take k ++ a := by
    rw [List.take_append_of_le_length (by omega), List.take_of_length_le (by omega)]
  have e3 : (M.take k ++ a ++ M.drop (k + a.length)).drop (k + a.length + b.length) = M.drop (k + (a ++ b).length) := by
    rw [List.drop_append, List.drop_of_length_le (by omega), e1, List.drop_drop, List.nil_append]
    congr 1
    simp
    omega
  rw [e2, e3]
  simp
theorem put_getD (M : List Int) (k : Nat) (l : List Int) (h : k + l.length ≤ M.length) (i : Nat) : (put M k l).getD i 0 = if k ≤ i ∧ i < k + l.length then l.getD (i - k) 0 else M.getD i 0 := by
  unfold put
  simp only [List.getD_eq_getElem?_getD]
  congr 1
  have e1 : (M.take k).length = k := by simp; omega
  rw [List.append_assoc, List.getElem?_append, e1]
  by_cases h1 : i < k
  · rw [if_pos h1, if_neg (by omega), List.getElem?_take, if_pos h1]
  · rw [if_neg h1, List.getElem?_append]
    by_cases h2 : i < k + l.length
    · rw [if_pos (by omega), if_pos (by omega)]
    · rw [if_neg (by omega), if_neg (by omega), List.getElem?_drop, show k + l.length + (i - k - l.length) = i from by omega]
theorem put_all (M l : List Int) (h : l.length = M.length) : put M 0 l = l := by
  unfold put
  rw [List.take_zero, List.nil_append, List.drop_of_length_le (by omega), List.append_nil]

theorem Chg.setRow (w : World) (g : Nat) (cs : Array Value) : Chg (· = g) w (w.setRow g cs) :=
  ⟨rfl, rfl, rfl, by simp, fun k hk hne => setRow_other w g k cs hne⟩

theorem infoU8 : (Tryz.prog.info? 5).map (·.size) = some 1 := by kernel_rfl
theorem rowU8 : (Tryz.prog.info? 5).map (fun i => (i.zero, i.size, i.bytes)) = some (some (.int .u8 0), 1, 1) := by kernel_rfl
theorem zeroU8 (w : World) : (zeroValue 5).run Tryz.prog w = .ok (.int .u8 0) w := by kernel_rfl

theorem setB (w : World) (g i : Nat) (M : List Int) (x : Int) (t : TypeId) (hg : w.heap[g]? = some (.cells (bv M) t (0, 0))) : w.setCell ⟨g, i, none⟩ (.int .u8 x) = w.setRow g (bv (M.set i x)) := by
  rw [setCell_eq_setRow w g i _ t (0, 0) _ hg]
  congr 1
  simp [bv, List.map_set]

/-- copy(d, s): l is what the source holds, as far as the target reaches -/
theorem copyB (w : World) (ty : TypeId) (g o dLen dCap b o2 sLen sCap : Nat) (M l : List Int) (t : TypeId) (hg : w.heap[g]? = some (.cells (bv M) t (0, 0)))
    (hl : l.length = min sLen dLen) (hs : ∀ j, j < l.length → w.cell? ⟨b, o2 + j, none⟩ = some (.int .u8 (l.getD j 0))) (hfit : o + l.length ≤ M.length) :
    (Builtin.copy_ #[47, 47] ty #[.slice (some ⟨g, o, none⟩) dLen dCap, .slice (some ⟨b, o2, none⟩) sLen sCap]).run Tryz.prog w = .ok (goInt l.length) (w.setRow g (bv (put M o l))) := by
  have h := run_copy_row (P := Tryz.prog) w 47 47 ty 5 g o dLen dCap ⟨b, o2, none⟩ sLen sCap (bv M) t (l.map (Value.int .u8)) Tryz.underlying47 infoU8 hg
    (by simp only [List.length_map]; exact hl) (fun j v hj => by
      have hjl : j < l.length := by
        have := (List.getElem?_eq_some_iff.1 hj).1
        simpa using this
      rw [show (⟨b, o2, none⟩ : Addr).add j = ⟨b, o2 + j, none⟩ from by unfold Addr.add; split <;> simp_all, hs j hjl]
      simp [hjl] at hj
      subst hj
      simp [List.getD, hjl]) (by simp [bv]; exact hfit) (fun v hv => by
      obtain ⟨x, _, rfl⟩ := List.mem_map.1 hv
      rfl)
  rw [h]
  simp only [List.length_map]
  congr 2
  simp [bv, put]

/-- clear(s) -/
theorem clearB (w : World) (ty : TypeId) (g o n c : Nat) (M : List Int) (t : TypeId) (hg : w.heap[g]? = some (.cells (bv M) t (0, 0))) (hfit : o + n ≤ M.length) :
    (Builtin.clear_ #[47] ty #[.slice (some ⟨g, o, none⟩) n c]).run Tryz.prog w = .ok (.tuple #[]) (w.setRow g (bv (put M o (List.replicate n 0)))) := by
  cases n with
  | zero =>
    simp only [List.replicate_zero, put_nil]
    rw [setRow_self w g (bv M) t (0, 0) hg]
    simp [Builtin.clear_, run_underlying Tryz.underlying47]
  | succ n =>
    have hst := run_storeCells_at Tryz.prog g o t (List.replicate (n + 1) (.int .u8 0)) 0 (bv M) w hg (by simp [bv]; omega) (by intro v hv; rw [List.eq_of_mem_replicate hv]; rfl)
    have hzc : (Builtin.zeroCells #[Value.int .u8 0] (n + 1)).toList = List.replicate (n + 1) (.int .u8 0) := by
      simp [Builtin.zeroCells]
      apply List.ext_getElem
      · simp
      · intro i h1 h2
        simp [Nat.mod_one]
    simp only [Nat.add_zero] at hst
    simp [Builtin.clear_, run_underlying Tryz.underlying47, Value.cells, hzc, hst]
    congr 1
    simp [bv, put]

/-- make([]byte, n) -/
theorem makeB (w : World) (k : IntKind) (n : Nat) (h : n ≤ 281474976710656) :
    (Instr.makeSlice 47 (.int k (n : Int)) (.int k (n : Int))).run Tryz.prog w = .ok (.slice (some ⟨w.heap.size, 0, none⟩) n n) (w.alloc (.cells (bv (List.replicate n 0)) 5)) := by
  obtain ⟨i0, hi, hz0, hz1, hz2⟩ := info_parts rowU8
  have hr := run_make (P := Tryz.prog) w 47 5 i0 (.int .u8 0) Tryz.underlying47 hi hz0 k k n n (by omega) (Int.le_refl _) (by rw [hz2]; omega) (by omega)
  rw [hr]
  simp only [Int.toNat_natCast, hz1, Nat.mul_one]
  congr 3
  apply Array.ext'
  rw [show (Value.int IntKind.u8 0).cells = #[.int .u8 0] from rfl, toList_madeCells_one]
  simp [bv]
/-- make([]byte, n), and a copy of n bytes into it -/
theorem copyNew (w : World) (ty : TypeId) (n b o2 sLen sCap : Nat) (l : List Int) (hl : l.length = n) (hn : n ≤ sLen) (hb : b < w.heap.size) (hs : ∀ j, j < n → w.cell? ⟨b, o2 + j, none⟩ = some (.int .u8 (l.getD j 0))) :
    (Builtin.copy_ #[47, 47] ty #[.slice (some ⟨w.heap.size, 0, none⟩) n n, .slice (some ⟨b, o2, none⟩) sLen sCap]).run Tryz.prog (w.alloc (.cells (bv (List.replicate n 0)) 5)) = .ok (goInt n) (w.alloc (.cells (bv l) 5)) := by
  have h := copyB (w.alloc (.cells (bv (List.replicate n 0)) 5)) ty w.heap.size 0 n n b o2 sLen sCap (List.replicate n 0) l 5 (heap_alloc_new _ _) (by omega)
    (fun j hj => ((Below.alloc (Below.refl _ _) (Nat.le_refl _) _ : Below w.heap.size w (w.alloc (.cells (bv (List.replicate n 0)) 5))).cell (p := ⟨b, o2 + j, none⟩) hb).trans (hs j (by omega))) (by simp; omega)
  rw [put_all _ _ (by simp; omega), World.setRow_alloc_new, hl] at h
  exact h
end Go.Proofs.YtfhhgcgbgmilcaaGreat
