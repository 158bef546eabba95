/- Az Wk5 Wk6: joined texts. Conditions: as each theorem names them. -/
import Derived.Test.YtfhhgcgbgmilcaaGreatKp22
import Derived.Test.YtfhhgcgbgmilcaaGreatKp26
import Derived.ArgAppend
import Derived.Deep.Upon
/- Lists of ints appended to: to a slice that is full, to a row of the call's own. Conditions: as each theorem names them. -/
namespace Go.Proofs.YtfhhgcgbgmilcaaGreat
open Go.ChangeShapes Go.WideShapes Go.ChangeAt Go.RowKit
set_option linter.unusedVariables false
set_option maxRecDepth 100000

/-- a slice of ints whose block, if it has elements, is not below B -/
def IntsN (B : Nat) (w : World) (v : Value) (L : List Int) : Prop :=
  ((∃ a c, v = .slice a 0 c ∧ (a = none → c = 0)) ∧ L = []) ∨ ∃ b o c : Nat, v = .slice (some ⟨b, o, none⟩) L.length c ∧ B ≤ b ∧ b < w.heap.size ∧ L.length ≤ c ∧ ∀ j, j < L.length → w.cell? ⟨b, o + j, none⟩ = some (.int .i64 (L.getD j 0))
theorem IntsN.z {B : Nat} {w : World} {v : Value} {L : List Int} (h : IntsN B w v L) : IntsZ w v L := by
  rcases h with h | ⟨b, o, c, h1, _, h2⟩
  · exact Or.inl h
  · exact Or.inr ⟨b, o, c, h1, h2⟩
theorem IntsN.mono {B B2 : Nat} {w : World} {v : Value} {L : List Int} (h : IntsN B w v L) (hB : B2 ≤ B) : IntsN B2 w v L := by
  rcases h with h | ⟨b, o, c, h1, h0, h2⟩
  · exact Or.inl h
  · exact Or.inr ⟨b, o, c, h1, by omega, h2⟩
theorem IntsN.len {B : Nat} {w : World} {v : Value} {L : List Int} (h : IntsN B w v L) : ∃ a c, v = .slice a L.length c := h.z.len
theorem IntsZ.chg {X : Nat → Prop} {w w' : World} {v : Value} {L : List Int} (h : IntsZ w v L) (hc : Chg X w w') (hX : ∀ b o n c, v = .slice (some ⟨b, o, none⟩) n c → b < w.heap.size → ¬ X b) : IntsZ w' v L := by
  rcases h with h | ⟨b, o, c, h1, h2, h3, h4⟩
  · exact Or.inl h
  · have := hc.size
    exact Or.inr ⟨b, o, c, h1, by omega, h3, fun j hj => (hc.cell h2 (hX _ _ _ _ h1 h2)).trans (h4 j hj)⟩
theorem IntsN.chg {B : Nat} {X : Nat → Prop} {w w' : World} {v : Value} {L : List Int} (h : IntsN B w v L) (hc : Chg X w w') (hX : ∀ b, B ≤ b → ¬ X b) : IntsN B w' v L := by
  rcases h with h | ⟨b, o, c, h1, h0, h2, h3, h4⟩
  · exact Or.inl h
  · have := hc.size
    exact Or.inr ⟨b, o, c, h1, h0, by omega, h3, fun j hj => (hc.cell h2 (hX b h0)).trans (h4 j hj)⟩
theorem IntsN.below {B : Nat} {w w' : World} {v : Value} {L : List Int} (h : IntsN B w v L) (hb : Below w.heap.size w w') : IntsN B w' v L := by
  rcases h with h | ⟨b, o, c, h1, h0, h2, h3, h4⟩
  · exact Or.inl h
  · have := hb.size
    exact Or.inr ⟨b, o, c, h1, h0, by omega, h3, fun j hj => (hb.cell (p := ⟨b, o + j, none⟩) h2).trans (h4 j hj)⟩

/-- a row of ints of the call's own, of any sign -/
abbrev OwnZ (B : Nat) (w : World) (v : Value) (l : List Int) : Prop := w.ownsRow B 3 1 v l.length (l.map (Value.int .i64))
theorem OwnZ.at {B : Nat} {w : World} {v : Value} {l : List Int} (h : OwnZ B w v l) : (l = [] ∧ v = .slice none 0 0) ∨ ∃ g c, v = .slice (some ⟨g, 0, none⟩) l.length c ∧ B ≤ g ∧ g < w.heap.size ∧ l.length ≤ c ∧ ∀ j, j < l.length → w.cell? ⟨g, j, none⟩ = some (.int .i64 (l.getD j 0)) := by
  obtain ⟨h1, h2⟩ := h
  rcases h2 with ⟨rfl, h0⟩ | ⟨g, cap, cur, rfl, hg, hh, hcap, hm, hs, ht⟩
  · exact Or.inl ⟨List.length_eq_zero_iff.1 h0, rfl⟩
  · right
    refine ⟨g, cap, rfl, hg, lt_blk hh, hcap, fun j hj => ?_⟩
    have e : cur = ((l.map (Value.int .i64)) ++ cur.toList.drop (l.length * 1)).toArray := by
      rw [← ht, List.take_append_drop]
    rw [e] at hh
    rw [cellK hh, List.getElem?_append_left (by simpa using hj)]
    simp [hj, List.getD]
theorem OwnZ.n {B : Nat} {w : World} {v : Value} {l : List Int} (h : OwnZ B w v l) : IntsN B w v l := by
  rcases h.at with ⟨rfl, rfl⟩ | ⟨g, c, rfl, h0, h1, h2, h3⟩
  · exact Or.inl ⟨⟨_, _, rfl, fun _ => rfl⟩, rfl⟩
  · exact Or.inr ⟨g, 0, c, rfl, h0, h1, h2, fun j hj => by rw [Nat.zero_add]; exact h3 j hj⟩
theorem OwnZ.keep {B : Nat} {w w' : World} {v : Value} {l : List Int} (h : OwnZ B w v l) (hk : ∀ g, v.ownBlock = some g → B ≤ g → g < w.heap.size → w'.heap[g]? = w.heap[g]?) : OwnZ B w' v l := by
  refine ⟨h.1, ?_⟩
  rcases h.2 with hn | ⟨gg, cap, cur, rfl, hg, hh, rest⟩
  · exact .inl hn
  · exact .inr ⟨gg, cap, cur, rfl, hg, (hk gg rfl hg (lt_blk hh)).trans hh, rest⟩
theorem OwnZ.below {B : Nat} {w w' : World} {v : Value} {l : List Int} (h : OwnZ B w v l) (hb : Below w.heap.size w w') : OwnZ B w' v l := h.keep fun g _ _ hlt => hb.block g hlt
theorem OwnZ.mono {B B2 : Nat} {w : World} {v : Value} {l : List Int} (h : OwnZ B w v l) (hB : B2 ≤ B) : OwnZ B2 w v l := by
  refine ⟨h.1, ?_⟩
  rcases h.2 with hn | ⟨gg, cap, cur, rfl, hg, rest⟩
  · exact .inl hn
  · exact .inr ⟨gg, cap, cur, rfl, by omega, rest⟩

theorem newsZ {W : World} {b o : Nat} {l : List Int} (h : ∀ j, j < l.length → W.cell? ⟨b, o + j, none⟩ = some (.int .i64 (l.getD j 0))) : ∀ j u, (l.map (Value.int .i64))[j]? = some u → W.cell? ((⟨b, o, none⟩ : Addr).add j) = some u := fun j u hu => by
  have hj : j < l.length := by
    have := (List.getElem?_eq_some_iff.1 hu).1
    simpa using this
  rw [show (⟨b, o, none⟩ : Addr).add j = ⟨b, o + j, none⟩ from by unfold Addr.add; split <;> simp_all, h j hj]
  simp [hj] at hu
  subst hu
  simp [List.getD, hj]
theorem oneZ {l : List Int} : ∀ u ∈ l.map (Value.int .i64), u.oneCell' = true := fun u hu => by
  obtain ⟨x, _, rfl⟩ := List.mem_map.1 hu
  rfl
theorem grown_none {w w' : World} (h : w.grownBy w' none) : Below w.heap.size w w' := grown_below h (Nat.le_refl _) (fun k hk => by cases hk)

theorem src_empty (w : World) (ua : Option Addr) (uc size : Nat) : Src Tryz.prog size 35 (.slice ua 0 uc) 0 [] w := by
  cases ua with
  | none => exact Src.ofNil w Tryz.underlying35 uc
  | some a => exact Src.ofSlice w Tryz.underlying35 a 0 uc [] (by simp) (fun j u hu => by simp at hu) (fun u hu => by cases hu)
/-- appended to a row of the call's own -/
theorem app_own {B : Nat} {w : World} {v u : Value} {L M : List Int} (hv : OwnZ B w v L) (hu : IntsZ w u M) (hB : B ≤ w.heap.size) (hl : L.length + M.length ≤ 2000000) :
    ∃ v' w', (∀ ty, (Builtin.append_ #[35, 35] ty #[v, u]).run Tryz.prog w = .ok v' w') ∧ OwnZ B w' v' (L ++ M) ∧ w.grownBy w' v.ownBlock := by
  obtain ⟨i0, hi, hz0, hz1, hz2⟩ := info_parts rowI64
  have hbig : L.length + M.length ≤ maxLen := by simp only [maxLen]; omega
  rcases hu with ⟨⟨ua, uc, rfl, hac⟩, rfl⟩ | ⟨b2, o2, c2, rfl, g2, g3, g4⟩
  · rw [List.append_nil]
    refine ⟨v, w, fun ty => ?_, hv, ⟨rfl, rfl, rfl, Nat.le_refl _, fun _ _ _ => rfl⟩⟩
    rcases hv.at with ⟨rfl, rfl⟩ | ⟨g, c, rfl, _, _, hc, _⟩
    · exact run_append_nothing w 35 35 ty 3 i0 Tryz.underlying35 hi none 0 0 (Nat.le_refl _) _ (src_empty w ua uc i0.size)
    · exact run_append_nothing w 35 35 ty 3 i0 Tryz.underlying35 hi _ L.length c hc _ (src_empty w ua uc i0.size)
  · obtain ⟨v', w', h1, h2, h3, h4⟩ := run_append_own (P := Tryz.prog) w B 35 35 3 i0 _ 1 8 Tryz.underlying35 hi hz0 hz1 hz2 rfl (by decide) v L.length _ hv ⟨b2, o2, none⟩ M.length c2 _ (by simp) (newsZ g4) oneZ hbig (by omega) hB
    refine ⟨v', w', fun ty => h1, ?_, h3⟩
    rw [← List.map_append, ← List.length_append] at h2
    exact h2

/-- appended to a slice that is full: a new row, or as it was -/
theorem app_full {w : World} {a : Option Addr} {c : Nat} {u : Value} {L M : List Int} (hv : IntsZ w (.slice a L.length c) L) (hc : c = L.length) (hu : IntsZ w u M) (hl : L.length + M.length ≤ 2000000) :
    ∃ v' w', (∀ ty, (Builtin.append_ #[35, 35] ty #[.slice a L.length c, u]).run Tryz.prog w = .ok v' w') ∧ Below w.heap.size w w' ∧ ((M = [] ∧ v' = .slice a L.length c ∧ w' = w) ∨ (M ≠ [] ∧ OwnZ w.heap.size w' v' (L ++ M))) := by
  obtain ⟨i0, hi, hz0, hz1, hz2⟩ := info_parts rowI64
  subst hc
  by_cases hM : M = []
  · subst hM
    refine ⟨_, w, fun ty => ?_, Below.refl _ _, Or.inl ⟨rfl, rfl, rfl⟩⟩
    obtain ⟨ua, uc, rfl⟩ := hu.len
    exact run_append_nothing w 35 35 ty 3 i0 Tryz.underlying35 hi a L.length L.length (Nat.le_refl _) _ (src_empty w ua uc i0.size)
  · have hm0 : 0 < M.length := List.length_pos_iff.2 hM
    rcases hu with ⟨_, e⟩ | ⟨b2, o2, c2, rfl, g2, g3, g4⟩
    · exact absurd e hM
    have hcells := newsZ g4
    have hbig : L.length + M.length ≤ maxLen := by simp only [maxLen]; omega
    rcases hv with ⟨⟨va, vc, he, hac⟩, rfl⟩ | ⟨b, o, c', he, h2, h3, h4⟩
    · simp only [List.length_nil] at he hbig hl ⊢
      cases he
      cases a with
      | none =>
        obtain ⟨v', w', h1, h2, h3, h4⟩ := run_append_own (P := Tryz.prog) w w.heap.size 35 35 3 i0 _ 1 8 Tryz.underlying35 hi hz0 hz1 hz2 rfl (by decide) (.slice none 0 0) 0 [] (World.ownsRow_nil _ _ _ _) ⟨b2, o2, none⟩ M.length c2 _ (by simp) hcells oneZ (by simp only [maxLen]; omega) (by omega) (Nat.le_refl _)
        refine ⟨v', w', fun ty => h1, grown_none h3, Or.inr ⟨hM, ?_⟩⟩
        have h2' : w'.ownsRow w.heap.size 3 1 v' (0 + M.length) ([] ++ M.map (Value.int .i64)) := h2
        rw [Nat.zero_add] at h2'
        exact h2'
      | some a =>
        obtain ⟨v', w', h1, h2, h3⟩ := run_append_arg_grows (P := Tryz.prog) w 35 35 3 i0 _ 1 8 Tryz.underlying35 hi hz0 hz1 hz2 rfl (by decide) a 0 0 [] (by simp) (fun j u hu => by simp at hu) ⟨b2, o2, none⟩ M.length c2 (M.map (Value.int .i64)) (by simp) hcells (by omega) (by simp only [maxLen]; omega) (by omega)
        refine ⟨v', w', fun ty => h1, grown_none h3, Or.inr ⟨hM, ?_⟩⟩
        rw [Nat.zero_add] at h2
        exact h2
    · cases he
      obtain ⟨v', w', h1, h2, h3⟩ := run_append_arg_grows (P := Tryz.prog) w 35 35 3 i0 _ 1 8 Tryz.underlying35 hi hz0 hz1 hz2 rfl (by decide) ⟨b, o, none⟩ L.length L.length (L.map (Value.int .i64)) (by simp) (newsZ h4) ⟨b2, o2, none⟩ M.length c2 (M.map (Value.int .i64)) (by simp) hcells (by omega) hbig (by omega)
      refine ⟨v', w', fun ty => h1, grown_none h3, Or.inr ⟨hM, ?_⟩⟩
      rw [← List.map_append, ← List.length_append] at h2
      exact h2
end Go.Proofs.YtfhhgcgbgmilcaaGreat

/- The reference of layer 10: chain. Conditions: as each theorem names them. -/
namespace Go.Proofs.YtfhhgcgbgmilcaaGreat
open Go.ChangeShapes Go.WideShapes Go.ChangeAt Go.RowKit
set_option linter.unusedVariables false
set_option maxRecDepth 100000

/-- what goes round: the numbers seen are different ones of the ring -/
structure SeenOK (size : Int) (S : List Int) : Prop where
  nd : S.Nodup
  rg : ∀ x ∈ S, 0 ≤ x ∧ x < size
theorem SeenOK.nil (size : Int) : SeenOK size [] := ⟨List.nodup_nil, fun x h => by cases h⟩
theorem SeenOK.len {size : Int} {S : List Int} (h : SeenOK size S) (hs : 0 ≤ size) : (S.length : Int) ≤ size := by
  rcases range_len h.rg h.nd with h1 | h1
  · exact h1
  · rw [h1]
    simpa using hs
theorem SeenOK.snoc {size : Int} {S : List Int} {k : Int} (h : SeenOK size S) (h1 : inB S k = false) (h2 : okI size k = true) : SeenOK size (S ++ [k]) := by
  unfold inB at h1
  have h1 : k ∉ S := of_decide_eq_false h1
  refine ⟨?_, fun x hx => ?_⟩
  · rw [List.nodup_append]
    refine ⟨h.nd, by simp, fun a ha b hb => ?_⟩
    rw [List.mem_singleton] at hb
    subst hb
    exact fun e => h1 (e ▸ ha)
  · rcases List.mem_append.1 hx with hx | hx
    · exact h.rg x hx
    · rw [List.mem_singleton] at hx
      subst hx
      exact okI_iff.1 h2
/-- a chain's fuel: what is left when the rest of it is read -/
theorem wch_succ (R : List (Int × Int)) (M : List Int) (at_ size : Int) (inner table : Bool) (tab : Int → Int → Wst → Wst) (f : Nat) (seen : List Int) (k : Int) (x : Wst) :
    wch R M at_ size inner table tab (f + 1) seen k x = if inB seen k = true then wstop 4 x else if okI size k = false then wstop 4 x else match dscAt R M (at_ + 16 * k) with
      | none => wstop 5 x
      | some d => if flB d.f 4 = true then (if (inner || (!table || flB d.f 1)) = true then wstop 4 (wone x) else tab d.a d.l (wone x)) else if flB d.f 1 = true then wch R M at_ size inner table tab f (seen ++ [k]) d.n (wseg d.a d.l d.f (wone x)) else wseg d.a d.l d.f (wone x) := by
  conv => lhs; unfold wch
  rfl
theorem dsc_is {R : List (Int × Int)} {M : List Int} {a : Int} {d : Dsc} (hok : okR (-1) 1048576 R = true) (hM : M.length = sumR R) (hB : isBytes M) (h : dscAt R M a = some d) : isDsc d := by
  unfold dscAt at h
  by_cases e : readE R a 16 = 0
  · rw [if_pos e] at h
    rw [← Option.some.inj h]
    exact dR_is (readL_bytes hB) (readL_16 hok hM e)
  · rw [if_neg e] at h
    cases h
theorem wseg_len (a l f : Int) (x : Wst) : (wseg a l f x).S.length = x.S.length + 1 ∧ (wseg a l f x).n = x.n := by simp [wseg]
theorem wone_len (x : Wst) : (wone x).S.length = x.S.length ∧ (wone x).n = x.n + 1 := by simp [wone]
/-- how much was read when so many numbers were seen -/
def Bnd (x0 x : Wst) (s : Nat) : Prop := x.n = x0.n + s ∧ x.S.length = x0.S.length + s
end Go.Proofs.YtfhhgcgbgmilcaaGreat

/- The reference of layer 10: chain's walk. Conditions: as each theorem names them. -/
namespace Go.Proofs.YtfhhgcgbgmilcaaGreat
open Go.ChangeShapes Go.WideShapes Go.ChangeAt Go.RowKit
set_option linter.unusedVariables false
set_option maxRecDepth 100000

end Go.Proofs.YtfhhgcgbgmilcaaGreat
