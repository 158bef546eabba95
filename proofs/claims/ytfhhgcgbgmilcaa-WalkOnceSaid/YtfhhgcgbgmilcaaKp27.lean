/- Az Wk5 Wk6: joined texts. Conditions: as each theorem names them. -/
import Derived.Test.YtfhhgcgbgmilcaaKp22
import Derived.Test.YtfhhgcgbgmilcaaKp26
import Derived.ArgAppend
import Derived.Deep.Upon
/- Lists of ints appended to: to a slice that is full, to a row of the call's own. Conditions: as each theorem names them. -/
namespace Go.Proofs.Ytfhhgcgbgmilcaa
open Go.ChangeShapes Go.WideShapes Go.ChangeAt Go.RowKit
set_option linter.unusedVariables false
set_option maxRecDepth 100000

/-- a slice of ints whose block, if it has elements, is not below B -/
def IntsN (B : Nat) (w : World) (v : Value) (L : List Int) : Prop :=
  ((∃ a c, v = .slice a 0 c ∧ (a = none → c = 0)) ∧ L = []) ∨ ∃ b o c : Nat, v = .slice (some ⟨b, o, none⟩) L.length c ∧ B ≤ b ∧ b < w.heap.size ∧ L.length ≤ c ∧ ∀ j, j < L.length → w.cell? ⟨b, o + j, none⟩ = some (.int .i64 (L.getD j 0))
theorem IntsN.z {B : Nat} {w : World} {v : Value} {L : List Int} (h : IntsN B w v L) : IntsZ w v L := by
  rcases h with h | ⟨b, o, c, h1, _, h2⟩
  · exact Or.inl h
  · exact Or.inr ⟨b, o, c, h1, h2⟩
theorem IntsN.mono {B B2 : Nat} {w : World} {v : Value} {L : List Int} (h : IntsN B w v L) (hB : B2 ≤ B) : IntsN B2 w v L := by
  rcases h with h | ⟨b, o, c, h1, h0, h2⟩
  · exact Or.inl h
  · exact Or.inr ⟨b, o, c, h1, by omega, h2⟩
theorem IntsN.len {B : Nat} {w : World} {v : Value} {L : List Int} (h : IntsN B w v L) : ∃ a c, v = .slice a L.length c := h.z.len
theorem IntsZ.chg {X : Nat → Prop} {w w' : World} {v : Value} {L : List Int} (h : IntsZ w v L) (hc : Chg X w w') (hX : ∀ b o n c, v = .slice (some ⟨b, o, none⟩) n c → b < w.heap.size → ¬ X b) : IntsZ w' v L := by
  rcases h with h | ⟨b, o, c, h1, h2, h3, h4⟩
  · exact Or.inl h
  · have := hc.size
    exact Or.inr ⟨b, o, c, h1, by omega, h3, fun j hj => (hc.cell h2 (hX _ _ _ _ h1 h2)).trans (h4 j hj)⟩
theorem IntsN.chg {B : Nat} {X : Nat → Prop} {w w' : World} {v : Value} {L : List Int} (h : IntsN B w v L) (hc : Chg X w w') (hX : ∀ b, B ≤ b → ¬ X b) : IntsN B w' v L := by
  rcases h with h | ⟨b, o, c, h1, h0, h2, h3, h4⟩
  · exact Or.inl h
  · have := hc.size
    exact Or.inr ⟨b, o, c, h1, h0, by omega, h3, fun j hj => (hc.cell h2 (hX b h0)).trans (h4 j hj)⟩
theorem IntsN.below {B : Nat} {w w' : World} {v : Value} {L : List Int} (h : IntsN B w v L) (hb : Below w.heap.size w w') : IntsN B w' v L := by
  rcases h with h | ⟨b, o, c, h1, h0, h2, h3, h4⟩
  · exact Or.inl h
  · have := hb.size
    exact Or.inr ⟨b, o, c, h1, h0, by omega, h3, fun j hj => (hb.cell (p := ⟨b, o + j, none⟩) h2).trans (h4 j hj)⟩

/-- a row of ints of the call's own, of any sign -/
abbrev OwnZ (B : Nat) (w : World) (v : Value) (l : List Int) : Prop := w.ownsRow B 3 1 v l.length (l.map (Value.int .i64))
theorem OwnZ.at {B : Nat} {w : World} {v : Value} {l : List Int} (h : OwnZ B w v l) : (l = [] ∧ v = .slice none 0 0) ∨ ∃ g c, v = .slice (some ⟨g, 0, none⟩) l.length c ∧ B ≤ g ∧ g < w.heap.size ∧ l.length ≤ c ∧ ∀ j, j < l.length → w.cell? ⟨g, j, none⟩ = some (.int .i64 (l.getD j 0)) := by
  obtain ⟨h1, h2⟩ := h
  rcases h2 with ⟨rfl, h0⟩ | ⟨g, cap, cur, rfl, hg, hh, hcap, hm, hs, ht⟩
  · exact Or.inl ⟨List.length_eq_zero_iff.1 h0, rfl⟩
  · right
    refine ⟨g, cap, rfl, hg, lt_blk hh, hcap, fun j hj => ?_⟩
    have e : cur = ((l.map (Value.int .i64)) ++ cur.toList.drop (l.length * 1)).toArray := by
      rw [← ht, List.take_append_drop]
    rw [e] at hh
    rw [cellK hh, List.getElem?_append_left (by simpa using hj)]
    simp [hj, List.getD]
theorem OwnZ.n {B : Nat} {w : World} {v : Value} {l : List Int} (h : OwnZ B w v l) : IntsN B w v l := by
  rcases h.at with ⟨rfl, rfl⟩ | ⟨g, c, rfl, h0, h1, h2, h3⟩
  · exact Or.inl ⟨⟨_, _, rfl, fun _ => rfl⟩, rfl⟩
  · exact Or.inr ⟨g, 0, c, rfl, h0, h1, h2, fun j hj => by rw [Nat.zero_add]; exact h3 j hj⟩
theorem OwnZ.keep {B : Nat} {w w' : World} {v : Value} {l : List Int} (h : OwnZ B w v l) (hk : ∀ g, v.ownBlock = some g → B ≤ g → g < w.heap.size → w'.heap[g]? = w.heap[g]?) : OwnZ B w' v l := by
  refine ⟨h.1, ?_⟩
  rcases h.2 with hn | ⟨gg, cap, cur, rfl, hg, hh, rest⟩
  · exact .inl hn
  · exact .inr ⟨gg, cap, cur, rfl, hg, (hk gg rfl hg (lt_blk hh)).trans hh, rest⟩
theorem OwnZ.below {B : Nat} {w w' : World} {v : Value} {l : List Int} (h : OwnZ B w v l) (hb : Below w.heap.size w w') : OwnZ B w' v l := h.keep fun g _ _ hlt => hb.block g hlt
theorem OwnZ.mono {B B2 : Nat} {w : World} {v : Value} {l : List Int} (h : OwnZ B w v l) (hB : B2 ≤ B) : OwnZ B2 w v l := by
  refine ⟨h.1, ?_⟩
  rcases h.2 with hn | ⟨gg, cap, cur, rfl, hg, rest⟩
  · exact .inl hn
  · exact .inr ⟨gg, cap, cur, rfl, by omega, rest⟩

theorem newsZ {W : World} {b o : Nat} {l : List Int} (h : ∀ j, j < l.length → W.cell? ⟨b, o + j, none⟩ = some (.int .i64 (l.getD j 0))) : ∀ j u, (l.map (Value.int .i64))[j]? = some u → W.cell? ((⟨b, o, none⟩ : Addr).add j) = some u := fun j u hu => by
  have hj : j < l.length := by
    have := (List.getElem?_eq_some_iff.1 hu).1
    simpa using this
  rw [show (⟨b, o, none⟩ : Addr).add j = ⟨b, o + j, none⟩ from by unfold Addr.add; split <;> simp_all, h j hj]
  simp [hj] at hu
  subst hu
  simp [List.getD, hj]
theorem oneZ {l : List Int} : ∀ u ∈ l.map (Value.int .i64), u.oneCell' = true := fun u hu => by
  obtain ⟨x, _, rfl⟩ := List.mem_map.1 hu
  rfl
theorem grown_none {w w' : World} (h : w.grownBy w' none) : Below w.heap.size w w' := grown_below h (Nat.le_refl _) (fun k hk => by cases hk)

theorem src_empty (w : World) (ua : Option Addr) (uc size : Nat) : Src Try.prog size 72 (.slice ua 0 uc) 0 [] w := by
  cases ua with
  | none => exact Src.ofNil w Try.underlying72 uc
  | some a => exact Src.ofSlice w Try.underlying72 a 0 uc [] (by simp) (fun j u hu => by simp at hu) (fun u hu => by cases hu)
/-- appended to a row of the call's own -/
theorem app_own {B : Nat} {w : World} {v u : Value} {L M : List Int} (hv : OwnZ B w v L) (hu : IntsZ w u M) (hB : B ≤ w.heap.size) (hl : L.length + M.length ≤ 2000000) :
    ∃ v' w', (∀ ty, (Builtin.append_ #[72, 72] ty #[v, u]).run Try.prog w = .ok v' w') ∧ OwnZ B w' v' (L ++ M) ∧ w.grownBy w' v.ownBlock := by
  obtain ⟨i0, hi, hz0, hz1, hz2⟩ := info_parts rowI64
  have hbig : L.length + M.length ≤ maxLen := by simp only [maxLen]; omega
  rcases hu with ⟨⟨ua, uc, rfl, hac⟩, rfl⟩ | ⟨b2, o2, c2, rfl, g2, g3, g4⟩
  · rw [List.append_nil]
    refine ⟨v, w, fun ty => ?_, hv, ⟨rfl, rfl, rfl, Nat.le_refl _, fun _ _ _ => rfl⟩⟩
    rcases hv.at with ⟨rfl, rfl⟩ | ⟨g, c, rfl, _, _, hc, _⟩
    · exact run_append_nothing w 72 72 ty 3 i0 Try.underlying72 hi none 0 0 (Nat.le_refl _) _ (src_empty w ua uc i0.size)
    · exact run_append_nothing w 72 72 ty 3 i0 Try.underlying72 hi _ L.length c hc _ (src_empty w ua uc i0.size)
  · obtain ⟨v', w', h1, h2, h3, h4⟩ := run_append_own (P := Try.prog) w B 72 72 3 i0 _ 1 8 Try.underlying72 hi hz0 hz1 hz2 rfl (by decide) v L.length _ hv ⟨b2, o2, none⟩ M.length c2 _ (by simp) (newsZ g4) oneZ hbig (by omega) hB
    refine ⟨v', w', fun ty => h1, ?_, h3⟩
    rw [← List.map_append, ← List.length_append] at h2
    exact h2

/-- appended to a slice that is full: a new row, or as it was -/
theorem app_full {w : World} {a : Option Addr} {c : Nat} {u : Value} {L M : List Int} (hv : IntsZ w (.slice a L.length c) L) (hc : c = L.length) (hu : IntsZ w u M) (hl : L.length + M.length ≤ 2000000) :
    ∃ v' w', (∀ ty, (Builtin.append_ #[72, 72] ty #[.slice a L.length c, u]).run Try.prog w = .ok v' w') ∧ Below w.heap.size w w' ∧ ((M = [] ∧ v' = .slice a L.length c ∧ w' = w) ∨ (M ≠ [] ∧ OwnZ w.heap.size w' v' (L ++ M))) := by
  obtain ⟨i0, hi, hz0, hz1, hz2⟩ := info_parts rowI64
  subst hc
  by_cases hM : M = []
  · subst hM
    refine ⟨_, w, fun ty => ?_, Below.refl _ _, Or.inl ⟨rfl, rfl, rfl⟩⟩
    obtain ⟨ua, uc, rfl⟩ := hu.len
    exact run_append_nothing w 72 72 ty 3 i0 Try.underlying72 hi a L.length L.length (Nat.le_refl _) _ (src_empty w ua uc i0.size)
  · have hm0 : 0 < M.length := List.length_pos_iff.2 hM
    rcases hu with ⟨_, e⟩ | ⟨b2, o2, c2, rfl, g2, g3, g4⟩
    · exact absurd e hM
    have hcells := newsZ g4
    have hbig : L.length + M.length ≤ maxLen := by simp only [maxLen]; omega
    rcases hv with ⟨⟨va, vc, he, hac⟩, rfl⟩ | ⟨b, o, c', he, h2, h3, h4⟩
    · simp only [List.length_nil] at he hbig hl ⊢
      cases he
      cases a with
      | none =>
        obtain ⟨v', w', h1, h2, h3, h4⟩ := run_append_own (P := Try.prog) w w.heap.size 72 72 3 i0 _ 1 8 Try.underlying72 hi hz0 hz1 hz2 rfl (by decide) (.slice none 0 0) 0 [] (World.ownsRow_nil _ _ _ _) ⟨b2, o2, none⟩ M.length c2 _ (by simp) hcells oneZ (by simp only [maxLen]; omega) (by omega) (Nat.le_refl _)
        refine ⟨v', w', fun ty => h1, grown_none h3, Or.inr ⟨hM, ?_⟩⟩
        have h2' : w'.ownsRow w.heap.size 3 1 v' (0 + M.length) ([] ++ M.map (Value.int .i64)) := h2
        rw [Nat.zero_add] at h2'
        exact h2'
      | some a =>
        obtain ⟨v', w', h1, h2, h3⟩ := run_append_arg_grows (P := Try.prog) w 72 72 3 i0 _ 1 8 Try.underlying72 hi hz0 hz1 hz2 rfl (by decide) a 0 0 [] (by simp) (fun j u hu => by simp at hu) ⟨b2, o2, none⟩ M.length c2 (M.map (Value.int .i64)) (by simp) hcells (by omega) (by simp only [maxLen]; omega) (by omega)
        refine ⟨v', w', fun ty => h1, grown_none h3, Or.inr ⟨hM, ?_⟩⟩
        rw [Nat.zero_add] at h2
        exact h2
    · cases he
      obtain ⟨v', w', h1, h2, h3⟩ := run_append_arg_grows (P := Try.prog) w 72 72 3 i0 _ 1 8 Try.underlying72 hi hz0 hz1 hz2 rfl (by decide) ⟨b, o, none⟩ L.length L.length (L.map (Value.int .i64)) (by simp) (newsZ h4) ⟨b2, o2, none⟩ M.length c2 (M.map (Value.int .i64)) (by simp) hcells (by omega) hbig (by omega)
      refine ⟨v', w', fun ty => h1, grown_none h3, Or.inr ⟨hM, ?_⟩⟩
      rw [← List.map_append, ← List.length_append] at h2
      exact h2
end Go.Proofs.Ytfhhgcgbgmilcaa

/- The reference of layer 10: chain. Conditions: as each theorem names them. -/
namespace Go.Proofs.Ytfhhgcgbgmilcaa
open Go.ChangeShapes Go.WideShapes Go.ChangeAt Go.RowKit
set_option linter.unusedVariables false
set_option maxRecDepth 100000

/-- a row of another type has grown in place -/
theorem Rd.grown {w0 w w' : World} {rp xb : Nat} {R : List (Int × Int)} {M : List Int} {x : Wst} (h : Rd w0 rp R M xb x w) {B z n : Nat} {v : Value} {C : List Value} {t : TypeId} (hr : w.ownsRow B t z v n C) (hg : w.grownBy w' v.ownBlock) (h1 : t ≠ 53) (h2 : t ≠ 106) (hB : w0.heap.size ≤ B) : Rd w0 rp R M xb x w' := by
  obtain ⟨⟨hxb, u, g1, g2⟩, ho, hm, a1, a2, a3⟩ := h
  have hne : ∀ (b : Nat) (cs : Array Value) (t2 : TypeId) (fr : Nat × Nat), w.heap[b]? = some (.cells cs t2 fr) → t ≠ t2 → w'.heap[b]? = some (.cells cs t2 fr) := fun b cs t2 fr hb hne => (grown_other hg (lt_blk hb) (fun g e e2 => by
    subst e2
    obtain ⟨cur, hc, _⟩ := own_ty hr e
    rw [hc] at hb
    injection hb with hb
    injection hb with _ hb
    exact hne hb)).trans hb
  refine ⟨⟨hxb, u, hne _ _ _ _ g1 h2, ?_⟩, ho.grown hg (ho.size) (fun g e => ?_), hm, a1, a2, a3⟩
  · refine ⟨g2.1, ?_⟩
    rcases g2.2 with hn | ⟨gg, cap, cur, rfl, hgB, hh, rest⟩
    · exact .inl hn
    · exact .inr ⟨gg, cap, cur, rfl, hgB, hne _ _ _ _ hh h1, rest⟩
  · obtain ⟨cur, hc, hle⟩ := own_ty hr e
    omega
theorem Kp.grown {w w1 w' : World} (h : Kp w w1) {B z n : Nat} {v : Value} {C : List Value} {t : TypeId} (hr : w1.ownsRow B t z v n C) (hg : w1.grownBy w' v.ownBlock) (hB : w.heap.size ≤ B) : Kp w w' :=
  ⟨Nat.le_trans h.size hg.size, fun b cs t2 fr hb h1 h2 => (grown_other hg (Nat.lt_of_lt_of_le (lt_blk hb) h.size) (fun g e e2 => by
    subst e2
    obtain ⟨cur, hc, hle⟩ := own_ty hr e
    have := lt_blk hb
    omega)).trans (h.blk b cs t2 fr hb h1 h2)⟩
/-- what goes round: the numbers seen are different ones of the ring -/
structure SeenOK (size : Int) (S : List Int) : Prop where
  nd : S.Nodup
  rg : ∀ x ∈ S, 0 ≤ x ∧ x < size
theorem SeenOK.nil (size : Int) : SeenOK size [] := ⟨List.nodup_nil, fun x h => by cases h⟩
theorem SeenOK.len {size : Int} {S : List Int} (h : SeenOK size S) (hs : 0 ≤ size) : (S.length : Int) ≤ size := by
  rcases range_len h.rg h.nd with h1 | h1
  · exact h1
  · rw [h1]
    simpa using hs
theorem SeenOK.snoc {size : Int} {S : List Int} {k : Int} (h : SeenOK size S) (h1 : inB S k = false) (h2 : okI size k = true) : SeenOK size (S ++ [k]) := by
  unfold inB at h1
  have h1 : k ∉ S := of_decide_eq_false h1
  refine ⟨?_, fun x hx => ?_⟩
  · rw [List.nodup_append]
    refine ⟨h.nd, by simp, fun a ha b hb => ?_⟩
    rw [List.mem_singleton] at hb
    subst hb
    exact fun e => h1 (e ▸ ha)
  · rcases List.mem_append.1 hx with hx | hx
    · exact h.rg x hx
    · rw [List.mem_singleton] at hx
      subst hx
      exact okI_iff.1 h2
/-- a chain's fuel: what is left when the rest of it is read -/
theorem wch_succ (R : List (Int × Int)) (M : List Int) (at_ size : Int) (inner table : Bool) (tab : Int → Int → Wst → Wst) (f : Nat) (seen : List Int) (k : Int) (x : Wst) :
    wch R M at_ size inner table tab (f + 1) seen k x = if inB seen k = true then wstop 4 x else if okI size k = false then wstop 4 x else match dscAt R M (at_ + 16 * k) with
      | none => wstop 5 x
      | some d => if flB d.f 4 = true then (if (inner || (!table || flB d.f 1)) = true then wstop 4 (wone x) else tab d.a d.l (wone x)) else if flB d.f 1 = true then wch R M at_ size inner table tab f (seen ++ [k]) d.n (wseg d.a d.l d.f (wone x)) else wseg d.a d.l d.f (wone x) := by
  conv => lhs; unfold wch
  rfl
theorem dsc_is {R : List (Int × Int)} {M : List Int} {a : Int} {d : Dsc} (hok : okR (-1) 1048576 R = true) (hM : M.length = sumR R) (hB : isBytes M) (h : dscAt R M a = some d) : isDsc d := by
  unfold dscAt at h
  by_cases e : readE R a 16 = 0
  · rw [if_pos e] at h
    rw [← Option.some.inj h]
    exact dR_is (readL_bytes hB) (readL_16 hok hM e)
  · rw [if_neg e] at h
    cases h
theorem wseg_len (a l f : Int) (x : Wst) : (wseg a l f x).S.length = x.S.length + 1 ∧ (wseg a l f x).n = x.n := by simp [wseg]
theorem wone_len (x : Wst) : (wone x).S.length = x.S.length ∧ (wone x).n = x.n + 1 := by simp [wone]
/-- how much was read when so many numbers were seen -/
def Bnd (x0 x : Wst) (s : Nat) : Prop := x.n = x0.n + s ∧ x.S.length = x0.S.length + s
end Go.Proofs.Ytfhhgcgbgmilcaa

/- The reference of layer 10: chain's walk. Conditions: as each theorem names them. -/
namespace Go.Proofs.Ytfhhgcgbgmilcaa
open Go.ChangeShapes Go.WideShapes Go.ChangeAt Go.RowKit
set_option linter.unusedVariables false
set_option maxRecDepth 100000

theorem rsegW {w0 w : World} {rp xb : Nat} {R : List (Int × Int)} {M : List Int} {x : Wst} (h : Rd w0 rp R M xb x w) (a l f : Int) (hf : 0 ≤ f ∧ f < 65536) (hl : x.S.length ≤ 100000) :
    Calls Try.prog 51 #[.pointer (some ⟨xb, 0, none⟩), .int .u64 a, .int .u32 l, .int .u16 f] w fun e w' => e = .returned (.tuple #[]) ∧ Lf w0 w xb (.pointer (some ⟨rp, 0, none⟩)) (wseg a l f x) w' := rseg w0 xb _ x a l f w h.rd h.old hf hl
set_option maxHeartbeats 4000000 in
theorem rchain (w0 : World) (rp xb : Nat) (R : List (Int × Int)) (M : List Int) (at_ size head : Int) (inner table : Bool) (tab : Int → Int → Wst → Wst) (x0 : Wst) (w : World) (h : Rd w0 rp R M xb x0 w)
    (HT : inner = false → ∀ (a l : Int) (x : Wst) (u : World), Rd w0 rp R M xb x u → U64 a → 0 ≤ l → l < 4294967296 → x.n ≤ x0.n + 32769 → x.S.length ≤ x0.S.length + 32769 → Calls Try.prog 70 #[.pointer (some ⟨xb, 0, none⟩), .int .u64 a, .int .u32 l] u fun e w' => e = .returned (.tuple #[]) ∧ Lf w0 u xb (.pointer (some ⟨rp, 0, none⟩)) (tab a l x) w')
    (ha0 : 0 ≤ at_) (ha1 : at_ + 16 * size ≤ 18446744073709551616) (hs0 : 0 ≤ size) (hs1 : size ≤ 32768) (hh : I64 head) (hx1 : x0.n ≤ 40000) (hx2 : x0.S.length ≤ 40000) :
    Calls Try.prog 43 #[.pointer (some ⟨xb, 0, none⟩), .int .u64 at_, .int .i64 size, .int .i64 head, .bool inner, .bool table] w fun e w' => e = .returned (.tuple #[]) ∧ Lf w0 w xb (.pointer (some ⟨rp, 0, none⟩)) (wch R M at_ size inner table tab (size.toNat + 1) [] head x0) w' := by
  have H := hid_mk h
  have HTab := hid_mk HT
  have HA0 := hid_mk ha0
  have HA1 := hid_mk ha1
  have HS0 := hid_mk hs0
  have HS1 := hid_mk hs1
  have HX1 := hid_mk hx1
  have HX2 := hid_mk hx2
  clear h HT ha0 ha1 hs0 hs1 hh hx1 hx2
  obtain ⟨FIN, hFIN⟩ : ∃ F, F = wch R M at_ size inner table tab (size.toNat + 1) [] head x0 := ⟨_, rfl⟩
  rw [← hFIN]
  have HFI := hid_mk hFIN
  clear hFIN
  go_enter Try.func43, Try.ntmps43
  go_wp2
  go_loopg [12, 13, 14, 15, 16] (size.toNat + 1) (fun kx s kv _ _ _ wr => ∃ (Sn : List Int) (K : Int) (x : Wst), kv = .int .i64 K ∧ Sn.length + kx = size.toNat + 1 ∧ Hid (OwnZ w.heap.size wr s Sn) ∧ Hid (SeenOK size Sn) ∧ Hid (Bnd x0 x Sn.length) ∧ Hid (Rd w0 rp R M xb x wr) ∧ Hid (Kp w wr) ∧ Hid (FIN = wch R M at_ size inner table tab kx Sn K x))
  case atStart => exact ⟨[], head, x0, rfl, by simp, hid_mk (World.ownsRow_nil _ _ _ _), hid_mk (SeenOK.nil _), hid_mk ⟨rfl, rfl⟩, H, hid_mk (Kp.refl _), HFI⟩
  case round =>
    obtain ⟨Sn, K, x, rfl, hk, hown, hsn, hbn, hrd, hkp, hw⟩ := hrel
    have hln := hsn.out.len HS0.out
    obtain ⟨f, rfl⟩ : ∃ f, gk = f + 1 := ⟨gk - 1, by have := HS0.out; omega⟩
    rw [wch_succ] at hw
    obtain ⟨sa, sc, hsv⟩ : ∃ a c, u12 = .slice a Sn.length c := by
      rcases hown.out.at with ⟨rfl, rfl⟩ | ⟨g, c, rfl, _⟩
      · exact ⟨none, 0, rfl⟩
      · exact ⟨_, c, rfl⟩
    subst hsv
    have hs33 : Sn.length ≤ 32768 := by have := HS1.out; omega
    have HSn : Hid (∀ j, j < Sn.length → ∃ g, sa = some ⟨g, 0, none⟩ ∧ wr.cell? ⟨g, j, none⟩ = some (.int .i64 (Sn.getD j 0))) := hid_mk (fun j hj => by
      rcases hown.out.at with ⟨rfl, _⟩ | ⟨g, c, e, _, _, _, h3⟩
      · simp at hj
      · cases e
        exact ⟨g, rfl, h3 j hj⟩)
    obtain ⟨wo, rfl⟩ : ∃ wo : World, wo = wr := ⟨_, rfl⟩
    have HN33 := hid_mk hs33
    have hni : (Sn.length : Int) ≤ 32768 := by omega
    go_wp2_with fail
    go_loopw [14] (fun i wi => ∃ j : Nat, j ≤ Sn.length ∧ i = .int .i64 j ∧ wi = wo ∧ Hid (inB (Sn.take j) K = false)) (fun i _ => Sn.length - (intOf i).toNat)
    case atStart => exact ⟨0, Nat.zero_le _, rfl, rfl, hid_mk (by simp [inB])⟩
    case round =>
      obtain ⟨j, hj, rfl, rfl, hno⟩ := hrel
      by_cases hlt : j < Sn.length
      · obtain ⟨g, hg, c0⟩ := HSn.out j hlt
        subst hg
        have hji : (j : Int) < (Sn.length : Int) := by omega
        have HT2 := hid_mk (inB_take (n := K) hlt)
        have HIn : Hid (Sn.getD j 0 = K → inB Sn K = true) := hid_mk (fun e => by
          unfold inB
          rw [decide_eq_true_eq, ← e, List.getD_eq_getElem?_getD, List.getElem?_eq_getElem hlt]
          exact List.getElem_mem hlt)
        generalize Sn.getD j 0 = y at *
        have hb : (y == K) = decide (y = K) := beq_dec y K
        by_cases he : y = K
        · rw [decide_eq_true he] at hb
          have hin := HIn.out he
          rw [hin, if_pos rfl] at hw
          have HS4 := hid_mk (rstopW hrd.out 4)
          clear he HT2 HIn hin
          go_wp2_with fail
          refine HS4.out.mono ?_
          rintro e w1 ⟨rfl, hl⟩
          have HL := hid_mk hl
          clear hl
          go_wp2_with fail
          exact bodyPost_ret (results_none rfl _ _ _) rfl ⟨rfl, by rw [hw.out]; exact ⟨HL.out.rd, HL.out.old, hkp.out.trans HL.out.kp⟩⟩
        · rw [decide_eq_false he] at hb
          have HE : Hid (inB (Sn.take (j + 1)) K = false) := hid_mk (by rw [HT2.out, hno.out, decide_eq_false he]; rfl)
          clear he HT2 HIn
          go_wp2_with fail
          go_roundw
          case rel => exact ⟨j + 1, by omega, by simp, trivial, HE⟩
          case measure => simp [intOf]; omega
      · obtain rfl : j = Sn.length := by omega
        have hin := hno.out
        rw [List.take_length] at hin
        rw [hin, if_neg (by decide)] at hw
        have HIN := hid_mk hin
        clear hno hlt hin HSn
        cases ho : okI size K
        · rw [ho, if_pos rfl] at hw
          have HS4 := hid_mk (rstopW hrd.out 4)
          have hor : K < 0 ∨ size ≤ K := okI_no ho
          clear ho
          by_cases hk0 : K < 0
          · have b1 : decide (K < 0) = true := decide_eq_true hk0
            clear hor hk0
            go_wp2_with fail
            refine HS4.out.mono ?_
            rintro e w1 ⟨rfl, hl⟩
            have HL := hid_mk hl
            clear hl
            go_wp2_with fail
            exact bodyPost_ret (results_none rfl _ _ _) rfl ⟨rfl, by rw [hw.out]; exact ⟨HL.out.rd, HL.out.old, hkp.out.trans HL.out.kp⟩⟩
          · have b1 : decide (K < 0) = false := decide_eq_false hk0
            have b2 : decide (size ≤ K) = true := decide_eq_true (by omega)
            clear hor hk0
            go_wp2_with fail
            refine HS4.out.mono ?_
            rintro e w1 ⟨rfl, hl⟩
            have HL := hid_mk hl
            clear hl
            go_wp2_with fail
            exact bodyPost_ret (results_none rfl _ _ _) rfl ⟨rfl, by rw [hw.out]; exact ⟨HL.out.rd, HL.out.old, hkp.out.trans HL.out.kp⟩⟩
        · rw [ho, if_neg (by decide)] at hw
          have HO := hid_mk ho
          obtain ⟨hk0, hk1⟩ := okI_iff.1 ho
          have b1 : decide (K < 0) = false := decide_eq_false (by omega)
          have b2 : decide (size ≤ K) = false := decide_eq_false (by omega)
          have hk2 : K < 32768 := by have := HS1.out; omega
          have hw1 : IntKind.u64.wrap K = K := by rw [IntKind.wrap_u64]; omega
          have hw2 : IntKind.u64.wrap (16 * K) = 16 * K := by rw [IntKind.wrap_u64]; omega
          have hw3 : IntKind.u64.wrap (at_ + 16 * K) = at_ + 16 * K := by have := HA0.out; have := HA1.out; rw [IntKind.wrap_u64]; omega
          have HAU : Hid (U64 (at_ + 16 * K)) := hid_mk (by have := HA0.out; have := HA1.out; omega)
          obtain ⟨v', w', g1, g2, g3⟩ := app_own (hown.out.below (below_box wr (.cells #[.int .i64 K] 3))) (Or.inr ⟨wr.heap.size, 0, 1, rfl, by simp, by simp, fun j hj => by
            obtain rfl : j = 0 := by simpa using hj
            exact (blk_new wr [.int .i64 K] 3).cell 0⟩ : IntsZ (wr.alloc (.cells #[.int .i64 K] 3)) (.slice (some ⟨wr.heap.size, 0, none⟩) 1 1) [K]) (by simp; exact Nat.le_succ_of_le hkp.out.size) (by have := HN33.out; simp; omega)
          obtain ⟨na, nc, hnv⟩ : ∃ a c, v' = .slice a (Sn.length + 1) c := by
            rcases g2.at with ⟨e, _⟩ | ⟨g, c, e, _⟩
            · simp at e
            · exact ⟨some ⟨g, 0, none⟩, c, by rw [e]; simp⟩
          subst hnv
          have HRD1 := hid_mk ((hrd.out.below (below_box wr (.cells #[.int .i64 K] 3))).grown (hown.out.below (below_box wr (.cells #[.int .i64 K] 3))) g3 (by decide) (by decide) H.out.old.size)
          have HKP1 := hid_mk ((hkp.out.trans (Kp.below (below_box wr (.cells #[.int .i64 K] 3)))).grown (hown.out.below (below_box wr (.cells #[.int .i64 K] 3))) g3 (Nat.le_refl _))
          have HSN1 := hid_mk (hsn.out.snoc HIN.out ho)
          have HOW1 := hid_mk g2
          have HAP := hid_mk g1
          clear g1 g2 g3 ho hk0 hk1 hk2
          go_wp2_with (at_builtin; refine wpList_append_run (v := .slice sa Sn.length sc) (u := .slice (some ⟨wr.heap.size, 0, none⟩) 1 1) (v' := .slice na (Sn.length + 1) nc) (w' := w') rfl _ _ 72 rfl (by first | rfl | go_simp) (by first | rfl | go_simp) (HAP.out _) ?_)
          cases hd : dscAt R M (at_ + 16 * K) with
          | none =>
            rw [hd] at hw
            simp only at hw
            refine (rdesc_no w0 rp xb R M x _ w' HRD1.out HAU.out hd).mono ?_
            rintro e w2 ⟨rfl, hl⟩
            have HL := hid_mk (hl.below (below_box w2 (.cells #[.int .u64 0, .int .u32 0, .int .u16 0, .int .u16 0] 49)))
            clear hl hd
            go_wp2_with fail
            exact bodyPost_ret (results_none rfl _ _ _) rfl ⟨rfl, by rw [hw.out]; exact ⟨HL.out.rd, HL.out.old, HKP1.out.trans HL.out.kp⟩⟩
          | some d =>
            rw [hd] at hw
            simp only at hw
            have HDI := hid_mk (dsc_is hrd.out.ok hrd.out.len hrd.out.byt hd)
            have hf4 : (bits .and .u16 d.f 4 != 0) = flB d.f 4 := flB_and 4 HDI.out.f (by decide)
            have hf1 : (bits .and .u16 d.f 1 != 0) = flB d.f 1 := flB_and 1 HDI.out.f (by decide)
            have hn1 : x.n ≤ 100000 := by have := hbn.out.1; have := HX1.out; have := HN33.out; omega
            refine (rdesc_yes w0 rp xb R M x _ d w' HRD1.out HAU.out hd hn1).mono ?_
            rintro e w2 ⟨rfl, hl⟩
            have HRD2 := hid_mk ((HRD1.out.lf hl).below (below_box w2 (.cells #[.int .u64 d.a, .int .u32 d.l, .int .u16 d.f, .int .u16 d.n] 49)))
            have HKP2 := hid_mk ((HKP1.out.trans hl.kp).trans (Kp.below (below_box w2 (.cells #[.int .u64 d.a, .int .u32 d.l, .int .u16 d.f, .int .u16 d.n] 49))))
            have HOW2 := hid_mk (ownsRow_below (Kp.row HOW1.out hl.kp (by decide) (by decide)) (below_box w2 (.cells #[.int .u64 d.a, .int .u32 d.l, .int .u16 d.f, .int .u16 d.n] 49)))
            have HBX := hid_mk (blk_new w2 [.int .u64 d.a, .int .u32 d.l, .int .u16 d.f, .int .u16 d.n] 49)
            clear hl hd hrd hkp hown HRD1 HKP1 HOW1 HAP HAU hw1 hw2 hw3 b1 b2 hn1
            cases h4 : flB d.f 4
            · rw [h4, if_neg (by decide)] at hw
              go_wp2_with fail
              refine (rsegW HRD2.out d.a d.l d.f HDI.out.f (by have := hbn.out.2; have := HN33.out; have := HX2.out; rw [(wone_len x).1]; omega)).mono ?_
              rintro e w3 ⟨rfl, hl⟩
              have HRD3 := hid_mk (HRD2.out.lf hl)
              have HKP3 := hid_mk (HKP2.out.trans hl.kp)
              have HOW3 := hid_mk (Kp.row HOW2.out hl.kp (by decide) (by decide))
              obtain ⟨lx, c0, c1, c2, c3, _⟩ := cells4 (hl.kp.at HBX.out (by decide) (by decide))
              have HLF := hid_mk hl
              clear hl HRD2 HKP2 HOW2 HBX
              cases h1 : flB d.f 1
              · rw [h1, if_neg (by decide)] at hw
                have hf0 : (bits .and .u16 d.f 1 == 0) = true := by
                  rw [h1] at hf1
                  simpa using hf1
                go_wp2_with fail
                exact bodyPost_ret (results_none rfl _ _ _) rfl ⟨rfl, by rw [hw.out]; exact ⟨HRD3.out.rd, HRD3.out.old, HKP3.out⟩⟩
              · rw [h1, if_pos rfl] at hw
                have hf0 : (bits .and .u16 d.f 1 == 0) = false := by
                  rw [h1] at hf1
                  simpa using hf1
                have hw16 : IntKind.i64.wrap d.n = d.n := IntWalk.i64_in _ (by have := HDI.out.n; omega)
                have hn16 := HDI.out.n
                go_wp2_with fail
                go_roundg f
                case measure => omega
                case rel => exact ⟨Sn ++ [K], d.n, wseg d.a d.l d.f (wone x), rfl, by simp; omega, HOW3, HSN1, hid_mk ⟨by have := hbn.out.1; rw [(wseg_len _ _ _ _).2, (wone_len x).2]; simp; omega, by have := hbn.out.2; rw [(wseg_len _ _ _ _).1, (wone_len x).1]; simp; omega⟩, HRD3, HKP3, hw⟩
            · rw [h4, if_pos rfl] at hw
              by_cases hi : inner = true
              · rw [hi, Bool.true_or, if_pos rfl] at hw
                go_wp2_with fail
                refine (rstopW HRD2.out 4).mono ?_
                rintro e w3 ⟨rfl, hl⟩
                have HL := hid_mk hl
                clear hl
                go_wp2_with fail
                exact bodyPost_ret (results_none rfl _ _ _) rfl ⟨rfl, by rw [hw.out]; exact ⟨HL.out.rd, HL.out.old, HKP2.out.trans HL.out.kp⟩⟩
              · have hi : inner = false := by simpa using hi
                by_cases ht : table = true
                · cases h1 : flB d.f 1
                  · rw [hi, ht, h1, if_neg (by decide)] at hw
                    go_wp2_with fail
                    refine (HTab.out hi d.a d.l (wone x) _ HRD2.out HDI.out.a HDI.out.l.1 HDI.out.l.2 (by have := hbn.out.1; have := HN33.out; rw [(wone_len x).2]; omega) (by have := hbn.out.2; have := HN33.out; rw [(wone_len x).1]; omega)).mono ?_
                    rintro e w3 ⟨rfl, hl⟩
                    have HL := hid_mk hl
                    clear hl
                    go_wp2_with fail
                    exact bodyPost_ret (results_none rfl _ _ _) rfl ⟨rfl, by rw [hw.out]; exact ⟨HL.out.rd, HL.out.old, HKP2.out.trans HL.out.kp⟩⟩
                  · rw [hi, ht, h1, if_pos (by decide)] at hw
                    go_wp2_with fail
                    refine (rstopW HRD2.out 4).mono ?_
                    rintro e w3 ⟨rfl, hl⟩
                    have HL := hid_mk hl
                    clear hl
                    go_wp2_with fail
                    exact bodyPost_ret (results_none rfl _ _ _) rfl ⟨rfl, by rw [hw.out]; exact ⟨HL.out.rd, HL.out.old, HKP2.out.trans HL.out.kp⟩⟩
                · have ht : table = false := by simpa using ht
                  rw [hi, ht, Bool.false_or, Bool.not_false, Bool.true_or, if_pos rfl] at hw
                  go_wp2_with fail
                  refine (rstopW HRD2.out 4).mono ?_
                  rintro e w3 ⟨rfl, hl⟩
                  have HL := hid_mk hl
                  clear hl
                  go_wp2_with fail
                  exact bodyPost_ret (results_none rfl _ _ _) rfl ⟨rfl, by rw [hw.out]; exact ⟨HL.out.rd, HL.out.old, HKP2.out.trans HL.out.kp⟩⟩
end Go.Proofs.Ytfhhgcgbgmilcaa
