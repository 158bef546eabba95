/- Plain facts of FreeOrders: what is given back in another order, and taken again. No program in sight. -/
import Derived.Test.YtfbimocgcnaogaaFe0
namespace Go.Proofs.Ytfbimocgcnaogaa
open Go
set_option linter.unusedVariables false
set_option maxRecDepth 100000

theorem tak_yes {S : Int} {L : List Int} {n : Nat} (h : chkL S L = true) (h1 : 1 ≤ n) (h2 : n ≤ L.length) : takE S L n = 0 ∧ takS S L n = S ∧ takA S L n = L.take n ∧ takR S L n = L.drop n := by
  have e : takB S L n = true := by
    unfold takB
    rw [h, decide_eq_true (show (1 : Int) ≤ n by omega), decide_eq_true (show (n : Int) ≤ L.length by omega)]
    rfl
  refine ⟨?_, ?_, ?_, ?_⟩
  · unfold takE
    rw [h, decide_eq_true (show (1 : Int) ≤ n by omega), if_pos (show (true && true) = true from rfl), if_pos (by omega)]
  · unfold takS
    rw [if_pos e]
  · unfold takA
    rw [if_pos e]
    rfl
  · unfold takR
    rw [if_pos e]
    rfl
theorem giv_yes2 {S : Int} {L G : List Int} (h : givB S L G = true) : givE S L G = 0 ∧ givS S L G = S ∧ givR S L G = G ++ L := by
  refine ⟨?_, ?_, ?_⟩
  · unfold givB at h
    rw [Bool.and_eq_true] at h
    unfold givE
    rw [if_pos h.1, if_pos h.2]
  · unfold givS
    rw [if_pos h]
  · unfold givR
    rw [if_pos h]
theorem givB_perm {S : Int} {L G G2 : List Int} (h : givB S L G = true) (hp : G2.Perm G) : givB S L G2 = true := by
  obtain ⟨h1, h2, h3, h4⟩ := givB_iff.1 h
  exact givB_iff.2 ⟨h1, fun x hx => h2 x (hp.mem_iff.1 hx), fun x hx => h3 x (hp.mem_iff.1 hx), (hp.nodup_iff).2 h4⟩
theorem givB_sub {S : Int} {L G G2 : List Int} (h : givB S L G = true) (hp : G2.Sublist G) : givB S L G2 = true := by
  obtain ⟨h1, h2, h3, h4⟩ := givB_iff.1 h
  exact givB_iff.2 ⟨h1, fun x hx => h2 x (hp.subset hx), fun x hx => h3 x (hp.subset hx), h4.sublist hp⟩
structure OrdF (s n k c : Nat) (A R Bk : List Int) : Prop where
  nS : newLS s = s
  nE : newLE s = 0
  nL : (newLL s).length = s
  t1 : takE s (newLL s) n = 0 ∧ takS s (newLL s) n = s ∧ takA s (newLL s) n = A ∧ takR s (newLL s) n = R
  aL : A.length = n
  bL : Bk.length = n
  rL : R.length ≤ 300
  g1 : givE s R Bk = 0 ∧ givS s R Bk = s ∧ givR s R Bk = Bk ++ R
  t2 : takE s (Bk ++ R) n = 0 ∧ takS s (Bk ++ R) n = s ∧ takA s (Bk ++ R) n = Bk ∧ takR s (Bk ++ R) n = R
  g2 : givE s R (Bk.drop c) = 0 ∧ givS s R (Bk.drop c) = s ∧ givR s R (Bk.drop c) = Bk.drop c ++ R
  g3 : givE s (Bk.drop c ++ R) (Bk.take c) = 0 ∧ givS s (Bk.drop c ++ R) (Bk.take c) = s ∧ givR s (Bk.drop c ++ R) (Bk.take c) = Bk ++ R
  t3 : 0 < c → takE s (Bk ++ R) c = 0 ∧ takS s (Bk ++ R) c = s ∧ takA s (Bk ++ R) c = Bk.take c ∧ takR s (Bk ++ R) c = Bk.drop c ++ R
  t4 : takE s (Bk.drop c ++ R) ((n - c : Nat) : Int) = 0 ∧ takS s (Bk.drop c ++ R) ((n - c : Nat) : Int) = s ∧ takA s (Bk.drop c ++ R) ((n - c : Nat) : Int) = Bk.drop c ∧ takR s (Bk.drop c ++ R) ((n - c : Nat) : Int) = R
theorem ordF {s n k c : Nat} (hs : 1 ≤ s) (hs2 : s ≤ 300) (hn : 1 ≤ n) (hn2 : n ≤ s) (hk : k < n) (hc : c < n) : OrdF s n k c ((newLL s).take n) ((newLL s).drop n) (((newLL s).take n).drop k ++ ((newLL s).take n).take k) := by
  have hb : newLB (s : Int) = true := by
    unfold newLB
    rw [decide_eq_true (show (1 : Int) ≤ s by omega), decide_eq_true (show (s : Int) ≤ 32768 by omega)]
    rfl
  obtain ⟨c0, l0⟩ := newLL_chk hb
  have l0' : (newLL (s : Int)).length = s := by omega
  have hg0 := giv_back (n := n) c0
  have la : ((newLL (s : Int)).take n).length = n := by rw [List.length_take]; omega
  have lr : ((newLL (s : Int)).drop n).length ≤ 300 := by rw [List.length_drop]; omega
  have hp : (((newLL (s : Int)).take n).drop k ++ ((newLL (s : Int)).take n).take k).Perm ((newLL (s : Int)).take n) := by
    have := List.perm_append_comm (l₁ := ((newLL (s : Int)).take n).drop k) (l₂ := ((newLL (s : Int)).take n).take k)
    rwa [List.take_append_drop] at this
  have hg1 := givB_perm hg0 hp
  have lb : (((newLL (s : Int)).take n).drop k ++ ((newLL (s : Int)).take n).take k).length = n := by
    rw [hp.length_eq, la]
  have e1 := tak_yes c0 hn (by omega : n ≤ (newLL (s : Int)).length)
  generalize ((newLL (s : Int)).take n).drop k ++ ((newLL (s : Int)).take n).take k = Bk at *
  generalize (newLL (s : Int)).take n = A at *
  generalize (newLL (s : Int)).drop n = R at *
  have c1 := chkL_give hg1
  have hln : (Bk ++ R).length = n + R.length := by rw [List.length_append, lb]
  have e2 := tak_yes c1 hn (by omega)
  have t2 : (Bk ++ R).take n = Bk := by rw [← lb]; exact List.take_left
  have d2 : (Bk ++ R).drop n = R := by rw [← lb]; exact List.drop_left
  have t3 : (Bk ++ R).take c = Bk.take c := List.take_append_of_le_length (by omega)
  have d3 : (Bk ++ R).drop c = Bk.drop c ++ R := List.drop_append_of_le_length (by omega)
  have c2 : chkL s (Bk.drop c ++ R) = true := by
    have := chkL_drop c1 c
    rwa [d3] at this
  have hg3 := giv_back (n := c) c1
  rw [t3, d3] at hg3
  have ldc : (Bk.drop c).length = n - c := by rw [List.length_drop, lb]
  have e4 := tak_yes c2 (show 1 ≤ n - c by omega) (by rw [List.length_append, ldc]; omega)
  have t4 : (Bk.drop c ++ R).take (n - c) = Bk.drop c := by rw [← ldc]; exact List.take_left
  have d4 : (Bk.drop c ++ R).drop (n - c) = R := by rw [← ldc]; exact List.drop_left
  refine ⟨?_, ?_, l0', e1, la, lb, lr, giv_yes2 hg1, ?_, giv_yes2 (givB_sub hg1 (List.drop_sublist c Bk)), ?_, fun h0 => ?_, ?_⟩
  · unfold newLS
    rw [if_pos hb]
  · unfold newLE
    rw [if_pos hb]
  · rw [t2, d2] at e2
    exact e2
  · have := giv_yes2 hg3
    rw [← List.append_assoc, List.take_append_drop] at this
    exact this
  · have := tak_yes c1 h0 (by omega : c ≤ (Bk ++ R).length)
    rw [t3, d3] at this
    exact this
  · rw [t4, d4] at e4
    exact e4
end Go.Proofs.Ytfbimocgcnaogaa
