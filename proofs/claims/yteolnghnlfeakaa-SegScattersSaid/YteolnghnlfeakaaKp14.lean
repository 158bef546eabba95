/- Pg5 Pg6: joined texts. Conditions: as each theorem names them. -/
import Derived.Test.YteolnghnlfeakaaKp13
import Derived.WalkSpells
/- Package seg's rest: so many bytes consumed (take). Conditions: as each theorem names them. -/
namespace Go.Proofs.Yteolnghnlfeakaa
open Go.ChangeShapes Go.WideShapes Go.ChangeAt Go.RowKit
set_option linter.unusedVariables false
set_option maxRecDepth 100000

/-- what is left behind n bytes -/
def restS : List Sg → Int → List Sg
  | [], _ => []
  | s :: l, n => if n ≤ 0 then s :: l else if s.n ≤ n then restS l (n - s.n) else ⟨s.a + n, s.n - n, s.t⟩ :: l
theorem restS_zero : ∀ (L : List Sg) {n : Int}, n ≤ 0 → restS L n = L
  | [], _, _ => rfl
  | s :: l, n, h => by
    unfold restS
    rw [if_pos h]
theorem restS_all {s : Sg} {l : List Sg} {n : Int} (h0 : 0 < n) (h : s.n ≤ n) : restS (s :: l) n = restS l (n - s.n) := by
  rw [restS, if_neg (by omega), if_pos h]
theorem restS_part {s : Sg} {l : List Sg} {n : Int} (h0 : 0 < n) (h : n < s.n) : restS (s :: l) n = ⟨s.a + n, s.n - n, s.t⟩ :: l := by
  rw [restS, if_neg (by omega), if_neg (by omega)]
theorem cut_rest : ∀ (L : List Sg) (f n : Int) (p : Bool), isSgs L → okS p L → 0 ≤ f → cutS (restS L f) 0 n = cutS L f n
  | [], f, n, p, h, ho, hf => rfl
  | s :: l, f, n, p, h, ho, hf => by
    obtain ⟨h1, h2⟩ := isSgs_cons h
    obtain ⟨⟨o1, o2, o3⟩, o4⟩ := ho
    by_cases h0 : f ≤ 0
    · obtain rfl : f = 0 := by omega
      rw [restS_zero _ (Int.le_refl 0)]
    · by_cases hs : s.n ≤ f
      · rw [restS_all (by omega) hs, cutS_le hs]
        exact cut_rest l _ _ _ h2 o4 (by omega)
      · rw [restS_part (by omega) (by omega)]
        obtain ⟨k, hk⟩ : ∃ k, min (s.n - f) n = k := ⟨_, rfl⟩
        have hk2 : min (s.n - f - 0) n = k := by omega
        by_cases hp : 0 < k
        · rw [cutS_some (s := ⟨s.a + f, s.n - f, s.t⟩) (by simp only []; omega) hk2 hp, cutS_some (by omega) hk hp]
          simp
        · rw [cutS_none (s := ⟨s.a + f, s.n - f, s.t⟩) (by simp only []; omega) hk2 (by omega), cutS_none (by omega) hk (by omega)]
theorem restS_is : ∀ (L : List Sg) (f : Int) (p : Bool), isSgs L → okS p L → 0 ≤ f → isSgs (restS L f) ∧ okS p (restS L f) ∧ (restS L f).length ≤ L.length
  | [], f, p, h, ho, hf => ⟨h, ho, Nat.le_refl _⟩
  | s :: l, f, p, h, ho, hf => by
    by_cases h0 : f ≤ 0
    · rw [restS_zero _ h0]
      exact ⟨h, ho, Nat.le_refl _⟩
    · obtain ⟨h1, h2⟩ := isSgs_cons h
      obtain ⟨⟨o1, o2, o3⟩, o4⟩ := ho
      by_cases hs : s.n ≤ f
      · rw [restS_all (by omega) hs]
        obtain ⟨q1, q2, q3⟩ := restS_is l (f - s.n) s.t h2 o4 (by omega)
        exact ⟨q1, okS_weak q2 o3, Nat.le_trans q3 (by simp)⟩
      · rw [restS_part (by omega) (by omega)]
        refine ⟨fun x hx => ?_, ⟨⟨by simp only []; omega, by simp only []; omega, o3⟩, o4⟩, by simp⟩
        rcases List.mem_cons.1 hx with rfl | hx
        · obtain ⟨⟨a0, a1⟩, b0, b1⟩ := h1
          exact ⟨⟨by simp only []; omega, by simp only []; omega⟩, by simp only []; omega, by simp only []; omega⟩
        · exact h2 x hx

/-- what take holds: taken acc, left l, m bytes to go -/
structure TakeInv (L : List Sg) (n : Int) (acc l : List Sg) (m : Int) : Prop where
  um : U64 m
  is : isSgs l
  ok : ∃ p, okS p l
  len : l.length ≤ L.length
  cnt : acc.length + l.length ≤ L.length + if 0 < m then 0 else 1
  cut : cutS L 0 n = acc ++ cutS l 0 m
  rst : restS L n = restS l m
theorem TakeInv.start {L : List Sg} {n : Int} {p : Bool} (hn : U64 n) (hu : isSgs L) (ho : okS p L) : TakeInv L n [] L n :=
  ⟨hn, hu, ⟨p, ho⟩, Nat.le_refl _, by simp, rfl, rfl⟩
theorem TakeInv.all {L : List Sg} {n : Int} {acc l : List Sg} {s : Sg} {m : Int} (h : TakeInv L n acc (s :: l) m) (h0 : 0 < m) (hs : s.n ≤ m) : TakeInv L n (acc ++ [s]) l (m - s.n) := by
  obtain ⟨u0, u1⟩ := h.um
  obtain ⟨i1, i2⟩ := isSgs_cons h.is
  obtain ⟨p, ho⟩ := h.ok
  obtain ⟨⟨o1, o2, o3⟩, o4⟩ := ho
  have hc := h.cnt
  rw [if_pos h0] at hc
  have hl := h.len
  simp only [List.length_cons] at hc hl
  refine ⟨⟨by omega, by omega⟩, i2, ⟨_, o4⟩, by omega, by simp only [List.length_append, List.length_cons, List.length_nil]; omega, ?_, ?_⟩
  · rw [h.cut, cutS_some (k := s.n) (by omega) (by omega) (by omega), Int.add_zero, List.append_assoc]
    rfl
  · rw [h.rst, restS_all h0 hs]
theorem TakeInv.part {L : List Sg} {n : Int} {acc l : List Sg} {s : Sg} {m : Int} (h : TakeInv L n acc (s :: l) m) (h0 : 0 < m) (hs : m < s.n) : TakeInv L n (acc ++ [⟨s.a, m, s.t⟩]) (⟨s.a + m, s.n - m, s.t⟩ :: l) 0 := by
  obtain ⟨u0, u1⟩ := h.um
  obtain ⟨i1, i2⟩ := isSgs_cons h.is
  obtain ⟨p, ho⟩ := h.ok
  obtain ⟨⟨o1, o2, o3⟩, o4⟩ := ho
  obtain ⟨⟨a0, a1⟩, b0, b1⟩ := i1
  have hc := h.cnt
  rw [if_pos h0] at hc
  have hl := h.len
  simp only [List.length_cons] at hc hl
  refine ⟨by decide, fun x hx => ?_, ⟨p, ⟨by simp only []; omega, by simp only []; omega, o3⟩, o4⟩, by simp only [List.length_cons]; omega, by simp only [List.length_append, List.length_cons, List.length_nil]; rw [if_neg (by decide)]; omega, ?_, ?_⟩
  · rcases List.mem_cons.1 hx with rfl | hx
    · exact ⟨⟨by simp only []; omega, by simp only []; omega⟩, by simp only []; omega, by simp only []; omega⟩
    · exact i2 x hx
  · rw [h.cut, cutS_some (k := m) (by omega) (by omega) h0, Int.add_zero, cutS_zero _ _ _ (Int.le_refl 0), List.append_nil, cutS_zero _ _ _ (by omega)]
  · rw [h.rst, restS_part h0 hs, restS_zero _ (Int.le_refl 0)]
theorem TakeInv.done {L : List Sg} {n : Int} {acc l : List Sg} {m : Int} (h : TakeInv L n acc l m) (h0 : m ≤ 0 ∨ l = []) : cutS L 0 n = acc ∧ restS L n = l := by
  rcases h0 with h0 | h0
  · refine ⟨?_, ?_⟩
    · rw [h.cut, cutS_zero _ _ _ h0, List.append_nil]
    · rw [h.rst, restS_zero _ h0]
  · subst h0
    exact ⟨by rw [h.cut]; exact List.append_nil _, h.rst⟩
theorem TakeInv.next {L : List Sg} {n : Int} {acc l : List Sg} {s : Sg} {m : Int} (h : TakeInv L n acc (s :: l) m) (h0 : 0 < m) : TakeInv L n (acc ++ [nxS s m]) (nxR s l m) (m - (nxS s m).n) := by
  unfold nxS nxR
  by_cases hs : s.n ≤ m
  · rw [if_pos hs, if_pos hs]
    exact h.all h0 hs
  · rw [if_neg hs, if_neg hs]
    have := h.part h0 (by omega)
    rw [show m - (⟨s.a, m, s.t⟩ : Sg).n = 0 from by simp]
    exact this
theorem nxS_is {s : Sg} {m : Int} (hs : isSg s) (h0 : 0 < m) : isSg (nxS s m) := by
  unfold nxS
  by_cases h : s.n ≤ m
  · rw [if_pos h]
    exact hs
  · rw [if_neg h]
    obtain ⟨a, b0, b1⟩ := hs
    exact ⟨a, by simp only []; omega, by simp only []; omega⟩
theorem nxS_le {s : Sg} {m : Int} (h0 : 0 < m) : (nxS s m).n ≤ m := by
  unfold nxS
  by_cases h : s.n ≤ m
  · rw [if_pos h]
    exact h
  · rw [if_neg h]
    simp
theorem nx_less {s : Sg} {l : List Sg} {m : Int} (h0 : 0 < m) : 2 * (nxR s l m).length + (if 0 < m - (nxS s m).n then 1 else 0) < 2 * (s :: l).length + (if 0 < m then 1 else 0) := by
  unfold nxS nxR
  by_cases h : s.n ≤ m
  · rw [if_pos h, if_pos h, if_pos h0]
    simp only [List.length_cons]
    split <;> omega
  · rw [if_neg h, if_neg h, if_pos h0, if_neg (by simp only []; omega)]
    simp only [List.length_cons]
    omega
theorem own_chg {B : Nat} {w w' : World} {v : Value} {L : List Sg} {S : Nat → Prop} (h : OwnS B w v L) (hc : Chg S w w') (hS : ∀ k, B ≤ k → ¬ S k) : OwnS B w' v L := by
  refine ⟨h.1, ?_⟩
  rcases h.2 with hn | ⟨g, cap, cur, rfl, hg, hh, rest⟩
  · exact .inl hn
  · exact .inr ⟨g, cap, cur, rfl, hg, hc.keep hh (hS g hg), rest⟩

theorem IsRest.keepB {w w' : World} {rb g B : Nat} {L : List Sg} (h : IsRest w rb g L) (hb : Below B w w') (hrb : rb < B) (hgB : g < B) : IsRest w' rb g L := by
  obtain ⟨a, c, h1, h2⟩ := h.val
  have hz := hb.size
  refine ⟨(hb.frozen (p := ⟨rb, 0, none⟩) hrb).trans h.fr, h.ne, Nat.lt_of_lt_of_le h.lt hz, a, c, (hb.cell (p := ⟨rb, 0, none⟩) hrb).trans h1, fun hl => ?_⟩
  obtain ⟨o, e, hc, hg, hf, hj⟩ := h2 hl
  exact ⟨o, e, hc, by omega, fun i => (hb.frozen (p := ⟨g, i, none⟩) hgB).trans (hf i), fun j hj1 => (hj j hj1).below hb hgB⟩
theorem chg_below {S : Nat → Prop} {a b c : World} (h : Chg S a b) (hb : Below a.heap.size b c) : Chg S a c :=
  ⟨hb.os.trans h.os, hb.tape.trans h.tape, hb.output.trans h.output, Nat.le_trans h.size hb.size, fun k hk hs => (hb.block k hk).trans (h.block k hk hs)⟩

theorem pnext (rb g : Nat) (s : Sg) (l : List Sg) (n : Int) (w : World) (hr : IsRest w rb g (s :: l)) (hs : isSg s) (hs2 : s.a + s.n ≤ 18446744073709551616) (hn : U64 n) (hl : l.length ≤ 1000) :
    Calls Try.prog 58 #[.pointer (some ⟨rb, 0, none⟩), .int .u64 n] w fun e w' => e = .returned (sV (nxS s n)) ∧ IsRest w' rb g (nxR s l n) ∧ Chg (RestC rb g) w w' := by
  unfold nxS nxR
  by_cases h : s.n ≤ n
  · rw [if_pos h, if_pos h]
    exact pnext_all rb g s l n w hr hs hn h hl
  · rw [if_neg h, if_neg h]
    exact pnext_part rb g s l n w hr hs hs2 hn (by omega) hl

set_option maxHeartbeats 1000000 in
theorem ptake (rb g : Nat) (L : List Sg) (n : Int) (p : Bool) (w : World) (hr : IsRest w rb g L) (hu : isSgs L) (ho : okS p L) (hn : U64 n) (hl : L.length ≤ 64) :
    Calls Try.prog 49 #[.pointer (some ⟨rb, 0, none⟩), .int .u64 n] w fun e w' => ∃ v', e = .returned v' ∧ OwnS w.heap.size w' v' (cutS L 0 n) ∧ IsRest w' rb g (restS L n) ∧ Chg (RestC rb g) w w' := by
  have HI := hid_mk (TakeInv.start hn hu ho)
  have HR := hid_mk hr
  have HG : Hid (0 < L.length → g < w.heap.size) := fun h => by
    obtain ⟨a, c, _, h2⟩ := hr.val
    obtain ⟨o, _, _, h3, _⟩ := h2 h
    exact h3
  have HRB := hid_mk hr.lt
  have HL : Hid (L.length ≤ 64) := hl
  clear hr hu ho hn hl
  go_enter Try.func49, Try.ntmps49
  go_wp2
  go_loopg [1, 5, 6] (2 * L.length + 1) (fun kx s1 s5 s6 wr => ∃ (m : Int) (vo : Value) (acc l : List Sg), s1 = .int .u64 m ∧ vo = s5 ∧ Hid (2 * l.length + (if 0 < m then 1 else 0) ≤ kx) ∧ Hid (TakeInv L n acc l m) ∧ Hid (OwnS w.heap.size wr vo acc) ∧ Hid (IsRest wr rb g l) ∧ Hid (Chg (RestC rb g) w wr))
  case atStart => exact ⟨n, _, [], L, rfl, rfl, hid_mk (by split <;> omega), HI, hid_mk (World.ownsRow_nil _ _ _ _), HR, hid_mk (Chg.refl _ _)⟩
  case round =>
    obtain ⟨m, vo, acc, l, rfl, rfl, hms, hinv, hown, hrest, hchg⟩ := hrel
    by_cases h0 : 0 < m
    · have hd : decide (0 < m) = true := by simp; exact h0
      cases l with
      | nil =>
        obtain ⟨f1, f2⟩ := hinv.out.done (Or.inr rfl)
        have HF1 := hid_mk f1
        have HF2 := hid_mk f2
        obtain ⟨a, c, hcell, _⟩ := hrest.out.val
        simp only [List.length_nil] at hcell
        clear f1 f2 hinv h0
        go_wp2_with fail
        go_ret
        exact ⟨_, rfl, by rw [HF1.out]; exact hown.out, by rw [HF2.out]; exact hrest.out, hchg.out⟩
      | cons s l =>
        have hlen := hinv.out.len
        have hL := HL.out
        have hcnt := hinv.out.cnt
        rw [if_pos h0] at hcnt
        have hgz := HG.out (by simp at hlen; omega)
        obtain ⟨a, c, hcell, _⟩ := hrest.out.val
        simp only [List.length_cons] at hcell hlen hcnt
        obtain ⟨i1, i2⟩ := isSgs_cons hinv.out.is
        obtain ⟨pp, ⟨o1, o2, o3⟩, o4⟩ := hinv.out.ok
        obtain ⟨u0, u1⟩ := hinv.out.um
        have HN := hid_mk (pnext rb g s l m _ hrest.out i1 o2 ⟨u0, u1⟩ (by omega))
        have HX := hid_mk (hinv.out.next h0)
        have HLess := hid_mk (nx_less (s := s) (l := l) h0)
        have hnx := nxS_is i1 h0
        have hnl := nxS_le (s := s) h0
        have hacc : acc.length ≤ 1000 := by omega
        have HA := hid_mk hacc
        have hli : (0 : Int) < (l.length : Int) + 1 := by omega
        obtain ⟨⟨a0, a1⟩, b0, b1⟩ := hnx
        have hyw : IntKind.u64.wrap (nxS s m).n = (nxS s m).n := by rw [IntKind.wrap_u64]; omega
        have hw1 : IntKind.u64.wrap (m - (nxS s m).n) = m - (nxS s m).n := by rw [IntKind.wrap_u64]; omega
        have hS : ∀ k, w.heap.size ≤ k → ¬ RestC rb g k := fun k hk hc => by
          have := HRB.out
          rcases hc with hc | hc <;> omega
        have HS := hid_mk hS
        have HZ := hid_mk hchg.out.size
        have HGZ := hid_mk hgz
        clear hlen hL hcnt hgz i1 i2 o1 o2 o3 o4 hinv hacc hnl hS a0 a1
        generalize hq : nxS s m = q at *
        generalize hq2 : nxR s l m = l2 at *
        obtain ⟨x, y, t⟩ := q
        clear hq hq2
        go_wp2_with fail
        refine HN.out.mono ?_
        rintro e w2 ⟨rfl, hr2, hc2⟩
        have hz2 : w.heap.size ≤ (w2.alloc (.cells #[.int .u64 x, .int .u32 y, .bool t] 32)).heap.size := by
          have := HZ.out
          have := hc2.size
          rw [sizeA]
          omega
        obtain ⟨g3, cap, w3, hrun, ho3, hb3⟩ := app_seg ⟨x, y, t⟩ (World.ownsRow.alloc (own_chg hown.out hc2 HS.out) (.cells #[.int .u64 x, .int .u32 y, .bool t] 32)) hz2 HA.out
        rw [sizeA] at hrun
        have HR3 := hid_mk hrun
        have HO3 := hid_mk ho3
        have HR2 := hid_mk ((hr2.keep (w' := w2.alloc (.cells #[.int .u64 x, .int .u32 y, .bool t] 32)) ((Below.refl _ _).alloc (Nat.le_refl _) _)).keepB hb3 HRB.out HGZ.out)
        have HC2 := hid_mk (chg_below ((hchg.out.trans hc2).allocR (.cells #[.int .u64 x, .int .u32 y, .bool t] 32)) hb3)
        clear hrun ho3 hb3 hz2 hr2 hc2 hown hrest hchg hcell b0 b1 u0 u1
        generalize acc.length = q at *
        go_wp2_with (at_builtin; refine wpList_append_run (v := vo) (u := .slice (some ⟨w2.heap.size + 1, 0, none⟩) 1 1) (v' := .slice (some ⟨g3, 0, none⟩) (q + 1) cap) (w' := w3) rfl (.tmp 24) (.tmp 26) 33 rfl (by first | rfl | go_simp) (by first | rfl | go_simp) (HR3.out _) ?_)
        go_roundg (2 * l2.length + (if 0 < m - y then 1 else 0))
        case measure => exact Nat.lt_of_lt_of_le HLess.out hms.out
        case rel => exact ⟨m - y, _, _, l2, rfl, rfl, hid_mk (Nat.le_refl _), HX, HO3, HR2, HC2⟩
    · have hd : decide (0 < m) = false := by simp; omega
      obtain ⟨f1, f2⟩ := hinv.out.done (Or.inl (by omega))
      have HF1 := hid_mk f1
      have HF2 := hid_mk f2
      clear f1 f2 hinv h0
      go_wp2_with fail
      go_ret
      exact ⟨_, rfl, by rw [HF1.out]; exact hown.out, by rw [HF2.out]; exact hrest.out, hchg.out⟩
end Go.Proofs.Yteolnghnlfeakaa

/- Package seg's Cut; slices.Clone at segments. Conditions: as each theorem names them. -/
namespace Go.Proofs.Yteolnghnlfeakaa
open Go.ChangeShapes Go.WideShapes Go.ChangeAt Go.RowKit
set_option linter.unusedVariables false
set_option maxRecDepth 100000

theorem eqnilS (w : World) (a : Option Addr) (n c : Nat) : (binOp .eql 33 (.slice a n c) (.slice none 0 0)).run Try.prog w = .ok (.bool a.isNone) w := Lib.run_eql_slice_nil w 33 32 a n c 0 0 Try.underlying33

set_option maxHeartbeats 1000000 in
theorem pclone (v : Value) (L : List Sg) (w : World) (hv : SegsAt w v L) (hl : L.length ≤ 1000) :
    Calls Try.prog 48 #[v] w fun e w' => ∃ v', e = .returned v' ∧ OwnS w.heap.size w' v' L ∧ Below w.heap.size w w' := by
  obtain ⟨i0, hi, hz0, hz1, hz2⟩ := info_parts rowSg
  have hown := World.ownsRow_made (e := 32) (size := 3) (base := w.heap.size) w #[] 0 (Nat.le_refl _) (by simp [maxLen]) rfl
  have hbase : w.heap.size ≤ (w.alloc (.cells #[] 32)).heap.size := by rw [sizeA]; omega
  have hnil := eqnilS
  by_cases h0 : ∃ c, v = .slice none 0 c ∧ L = []
  · obtain ⟨c, rfl, rfl⟩ := h0
    clear hv hl hown hbase hi hz0 hz1 hz2
    go_enter Try.func48, Try.ntmps48
    go_wp2
    go_ret
    exact ⟨_, rfl, World.ownsRow_nil _ _ _ _, Below.refl _ _⟩
  · have hrun : ∃ a n c v' w', v = .slice (some a) n c ∧ (∀ ty, (Builtin.append_ #[33, 33] ty #[.slice (some ⟨w.heap.size, 0, none⟩) 0 0, v]).run Try.prog (w.alloc (.cells #[] 32)) = .ok v' w') ∧ OwnS w.heap.size w' v' L ∧ Below w.heap.size w w' := by
      rcases hv with ⟨⟨a, c, rfl, hac⟩, rfl⟩ | ⟨b, o, c, rfl, hb1, hb2, hb3⟩
      · cases a with
        | none => exact absurd ⟨c, rfl, rfl⟩ h0
        | some a =>
          obtain ⟨v', w', h1, h2, h3, _⟩ := run_append_own (w.alloc (.cells #[] 32)) w.heap.size 33 33 32 i0 _ 3 16 Try.underlying33 hi hz0 hz1 hz2 rfl (by decide) _ 0 [] hown a 0 c [] rfl (fun j u hu => by simp at hu) (fun u hu => by cases hu) (by simp [maxLen]) (by decide) hbase
          exact ⟨a, 0, c, v', w', rfl, fun ty => h1, h2, ((Below.refl _ _).alloc (Nat.le_refl _) _).trans (grown_below h3 hbase (fun k hk => by simp [Value.ownBlock] at hk; omega))⟩
      · have hba : Below w.heap.size w (w.alloc (.cells #[] 32)) := Below.alloc (Below.refl _ _) (Nat.le_refl _) _
        have hb3' : ∀ j, j < L.length → at3 (w.alloc (.cells #[] 32)) b (o + j * 3) (sat L j) := fun j hj => (hb3 j hj).below hba hb1
        obtain ⟨v', w', h1, h2, h3, _⟩ := run_append_own (w.alloc (.cells #[] 32)) w.heap.size 33 33 32 i0 _ 3 16 Try.underlying33 hi hz0 hz1 hz2 rfl (by decide) _ 0 [] hown ⟨b, o, none⟩ L.length c (segCells L) (segCells_length L) (newsS_of hb3') oneS_of (by simp [maxLen]; omega) (by omega) hbase
        rw [List.nil_append, Nat.zero_add] at h2
        exact ⟨_, _, _, v', w', rfl, fun ty => h1, h2, ((Below.refl _ _).alloc (Nat.le_refl _) _).trans (grown_below h3 hbase (fun k hk => by simp [Value.ownBlock] at hk; omega))⟩
    obtain ⟨a, n, c, v', w', rfl, hrun, hn, hb⟩ := hrun
    have HN := hid_mk hn
    have HB := hid_mk hb
    have HR := hid_mk hrun
    clear hv hl hown hbase hi hz0 hz1 hz2 hn hb h0 hrun
    go_enter Try.func48, Try.ntmps48
    go_wp2_with (at_builtin; refine wpList_append_run rfl _ _ _ rfl rfl rfl (HR.out _) ?_)
    go_ret
    exact ⟨v', rfl, HN.out, HB.out⟩

/-- a cell that holds an owned row is a rest -/
theorem rest_start {B : Nat} {w : World} {v : Value} {L : List Sg} {t : TypeId} (h : OwnS B w v L) : ∃ g, IsRest (w.alloc (.cells #[v] t)) w.heap.size g L ∧ (∀ k, RestC w.heap.size g k → B ≤ k ∨ k = w.heap.size ∨ k = w.heap.size + 1) := by
  obtain ⟨h1, h2⟩ := h
  have hn := heap_alloc_new w (.cells #[v] t)
  have hb : Below w.heap.size w (w.alloc (.cells #[v] t)) := (Below.refl _ _).alloc (Nat.le_refl _) _
  have hz : (w.alloc (.cells #[v] t)).heap.size = w.heap.size + 1 := sizeA _ _
  have hc : (w.alloc (.cells #[v] t)).cell? ⟨w.heap.size, 0, none⟩ = some v := cellK (cs := [v]) hn 0
  have hf : (w.alloc (.cells #[v] t)).frozen? ⟨w.heap.size, 0, none⟩ = false := frozenK hn 0
  rcases h2 with ⟨rfl, h0⟩ | ⟨g, cap, cur, rfl, hg, hh, hcap, hm, hs, ht⟩
  · have hL : L = [] := List.length_eq_zero_iff.1 h0
    subst hL
    exact ⟨w.heap.size + 1, ⟨hf, by omega, by omega, none, 0, hc, fun h => absurd h (by simp)⟩, fun k hk => Or.inr hk⟩
  · have hat := OwnS.at (B := B) (w := w) (v := .slice (some ⟨g, 0, none⟩) L.length cap) ⟨h1, Or.inr ⟨g, cap, cur, rfl, hg, hh, hcap, hm, hs, ht⟩⟩
    have hgl := lt_blk hh
    refine ⟨g, ⟨hf, by omega, by omega, _, cap, hc, fun hl => ⟨0, rfl, hcap, by omega, fun i => frozenK (keepB hb hh) i, ?_⟩⟩, fun k hk => ?_⟩
    · rcases hat with ⟨_, hL⟩ | ⟨b, o, c, he, hb1, hb2, hb3⟩
      · rw [hL] at hl
        exact absurd hl (by simp)
      · cases he
        exact fun j hj => (hb3 j hj).below hb hb1
    · rcases hk with hk | hk
      · exact Or.inr (Or.inl hk)
      · exact Or.inl (by omega)

set_option maxHeartbeats 1000000 in
theorem pcut (v : Value) (f n : Int) (L : List Sg) (w : World) (hv : SegsAt w v L) (hu : isSgs L) (hf : U64 f) (hn : U64 n) :
    Calls Try.prog 26 #[v, .int .u64 f, .int .u64 n] w fun e w' => ∃ v', e = .returned v' ∧ OwnS w.heap.size w' v' (cutE L f n) ∧ Below w.heap.size w w' := by
  have HCk := hid_mk (pcheck v L w hv hu)
  by_cases hE : segE L = 0
  · have e1 : cutE L f n = cutS L f n := by
      unfold cutE
      rw [if_pos hE]
    obtain ⟨o1, o2, _⟩ := (segE_ok hu).1 hE
    rw [e1, ← cut_rest L f n false hu o2 hf.1]
    rw [hE] at HCk
    have HV := hid_mk hv
    have HU := hid_mk hu
    have HO := hid_mk o2
    have HL := hid_mk o1
    have HFn := hid_mk hf
    have HNn := hid_mk hn
    obtain ⟨va, vc, rfl⟩ := hv.len
    clear e1 hE hv hu o1 o2 hf hn
    go_enter Try.func26, Try.ntmps26
    go_wp2_with fail
    refine HCk.out.mono ?_
    rintro e w1 ⟨rfl, hb⟩
    have HB1 := hid_mk hb
    clear hb
    go_wp2_with fail
    refine (pclone _ L _ (HV.out.below HB1.out) (Nat.le_trans HL.out (by decide))).mono ?_
    rintro e w2 ⟨v2, rfl, ho2, hb⟩
    obtain ⟨va2, vc2, rfl⟩ := ho2.at.len
    have HB2 := hid_mk (below_then HB1.out hb)
    obtain ⟨g, hr, hk⟩ := rest_start (t := 81) ho2
    have hz2 := HB2.out.size
    have HK : Hid (∀ k, RestC w2.heap.size g k → w.heap.size ≤ k) := fun k hk1 => by
      have := HB1.out.size
      have := hb.size
      rcases hk k hk1 with h | h | h <;> omega
    have HR := hid_mk hr
    have HB3 := hid_mk (HB2.out.alloc hz2 (.cells #[.slice va2 L.length vc2] 81))
    clear hb hk hr ho2 hz2
    obtain ⟨q1, q2, q3⟩ := restS_is L f false HU.out HO.out HFn.out.1
    have Q1 := hid_mk q1
    have Q2 := hid_mk q2
    have Q3 := hid_mk (Nat.le_trans q3 HL.out)
    clear q1 q2 q3
    go_wp2_with fail
    refine (ptake w2.heap.size g L f false _ HR.out HU.out HO.out HFn.out HL.out).mono ?_
    rintro e w3 ⟨v3, rfl, _, hr3, hc3⟩
    have HR3 := hid_mk hr3
    have HB4 := hid_mk (hc3.since HB3.out HK.out)
    clear hr3 hc3
    go_wp2_with fail
    refine (ptake w2.heap.size g (restS L f) n false _ HR3.out Q1.out Q2.out HNn.out Q3.out).mono ?_
    rintro e w4 ⟨v4, rfl, ho4, _, hc4⟩
    have HB5 := hid_mk (hc4.since HB4.out HK.out)
    have HO4 : Hid (OwnS w.heap.size w4 v4 (cutS (restS L f) 0 n)) := by
      refine ⟨ho4.1, ?_⟩
      rcases ho4.2 with hn | ⟨g, cap, cur, rfl, hg, hh, rest⟩
      · exact .inl hn
      · exact .inr ⟨g, cap, cur, rfl, Nat.le_trans HB4.out.size hg, hh, rest⟩
    clear ho4 hc4
    go_wp2_with fail
    go_ret
    exact ⟨_, rfl, HO4.out, HB5.out⟩
  · have e1 : cutE L f n = [] := by
      unfold cutE
      rw [if_neg hE]
    rw [e1]
    have hE2 : (segE L != 0) = true := by simp [hE]
    obtain ⟨va, vc, rfl⟩ := hv.len
    clear e1 hE hu hv hf hn
    generalize segE L = x at *
    go_enter Try.func26, Try.ntmps26
    go_wp2_with fail
    refine HCk.out.mono ?_
    rintro e w1 ⟨rfl, hb⟩
    have HB := hid_mk hb
    clear hb
    go_wp2_with fail
    go_ret
    exact ⟨_, rfl, World.ownsRow_nil _ _ _ _, HB.out⟩
end Go.Proofs.Yteolnghnlfeakaa
