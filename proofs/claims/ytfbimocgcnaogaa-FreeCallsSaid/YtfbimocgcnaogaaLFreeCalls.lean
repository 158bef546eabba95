/-
  PROVED: dumbwaiterlaw08.FreeCalls returns true for any two lists, a number and numbers, and what was in memory stays as it was. Conditions: none.
-/
import Derived.Test.YtfbimocgcnaogaaRows
import Derived.Test.YtfbimocgcnaogaaFel
import Derived.Test.YtfbimocgcnaogaaFe5
import Derived.Test.YtfbimocgcnaogaaFe6
import Derived.WalkKit
import Derived.ProofKit
import Derived.OpenShut
import Derived.ShutString
import Derived.ChangeOld
import Derived.Below
import Derived.Carry
import Derived.Lib.SmallJoins
namespace Go.Proofs.Ytfbimocgcnaogaa.freeCalls
open Go.ChangeShapes Go.WideShapes Go.ChangeAt Go.RowKit
set_option linter.unusedVariables false


set_option maxRecDepth 100000 in
set_option maxHeartbeats 1000000 in
theorem walk_L (w : World) (S T n : Int) (va ya ga : Option Addr) (vc yc gc : Nat) (L M G : List Int) (hv : IntsZ w (.slice va L.length vc) L) (hy : IntsZ w (.slice ya M.length yc) M) (hg : IntsZ w (.slice ga G.length gc) G) (hS : I64 S) (hT : I64 T) (hn : I64 n) (h1 : 300 < L.length) :
    Calls Try.prog 4 #[frV S (.slice va L.length vc), frV T (.slice ya M.length yc), .int .i64 n, .slice ga G.length gc] w fun e w' => e = .returned (.bool true) ∧ Below w.heap.size w w' := by
  have h1i : (300 : Int) < (L.length : Int) := by omega
  clear h1
  obtain ⟨X1, X2, B0⟩ := two_fr w S (.slice va L.length vc) (.int .i64 T) (.slice ya M.length yc) 24 24
  have Xf := hid_mk X1
  have Xo := hid_mk X2
  have B := hid_mk B0
  have QL := hid_mk ((IntsK.of hv).below B0)
  have QM := hid_mk ((IntsK.of hy).below B0)
  have QG := hid_mk ((IntsK.of hg).below B0)
  clear X1 X2 B0 hv hy hg
  unfold frV
  go_enter Try.func4, Try.ntmps4
  go_wp2_with fail
  refine (lives8_any _).mono ?_
  rintro e w1 ⟨rfl, hb⟩
  replace QL := hid_mk (QL.out.below hb)
  replace QM := hid_mk (QM.out.below hb)
  replace QG := hid_mk (QG.out.below hb)
  replace Xf := hid_mk (Xf.out.below hb)
  replace Xo := hid_mk (Xo.out.below hb)
  replace B := hid_mk (below_then B.out hb)
  clear hb
  obtain ⟨lf, cf0, cf1, ff0, ff1⟩ := blk2 Xf.out
  obtain ⟨lo, co0, co1, fo0, fo1⟩ := blk2 Xo.out
  go_wp2_with fail
  go_ret
  exact ⟨rfl, B.out⟩

set_option maxRecDepth 100000 in
set_option maxHeartbeats 1000000 in
theorem walk_M (w : World) (S T n : Int) (va ya ga : Option Addr) (vc yc gc : Nat) (L M G : List Int) (hv : IntsZ w (.slice va L.length vc) L) (hy : IntsZ w (.slice ya M.length yc) M) (hg : IntsZ w (.slice ga G.length gc) G) (hS : I64 S) (hT : I64 T) (hn : I64 n) (h1 : L.length ≤ 300) (h2 : 300 < M.length) :
    Calls Try.prog 4 #[frV S (.slice va L.length vc), frV T (.slice ya M.length yc), .int .i64 n, .slice ga G.length gc] w fun e w' => e = .returned (.bool true) ∧ Below w.heap.size w w' := by
  have h1i : (L.length : Int) ≤ 300 := by omega
  have h2i : (300 : Int) < (M.length : Int) := by omega
  clear h1 h2
  obtain ⟨X1, X2, B0⟩ := two_fr w S (.slice va L.length vc) (.int .i64 T) (.slice ya M.length yc) 24 24
  have Xf := hid_mk X1
  have Xo := hid_mk X2
  have B := hid_mk B0
  have QL := hid_mk ((IntsK.of hv).below B0)
  have QM := hid_mk ((IntsK.of hy).below B0)
  have QG := hid_mk ((IntsK.of hg).below B0)
  clear X1 X2 B0 hv hy hg
  unfold frV
  go_enter Try.func4, Try.ntmps4
  go_wp2_with fail
  refine (lives8_any _).mono ?_
  rintro e w1 ⟨rfl, hb⟩
  replace QL := hid_mk (QL.out.below hb)
  replace QM := hid_mk (QM.out.below hb)
  replace QG := hid_mk (QG.out.below hb)
  replace Xf := hid_mk (Xf.out.below hb)
  replace Xo := hid_mk (Xo.out.below hb)
  replace B := hid_mk (below_then B.out hb)
  clear hb
  obtain ⟨lf, cf0, cf1, ff0, ff1⟩ := blk2 Xf.out
  obtain ⟨lo, co0, co1, fo0, fo1⟩ := blk2 Xo.out
  go_wp2_with fail
  go_ret
  exact ⟨rfl, B.out⟩

set_option maxRecDepth 100000 in
set_option maxHeartbeats 1000000 in
theorem walk_G (w : World) (S T n : Int) (va ya ga : Option Addr) (vc yc gc : Nat) (L M G : List Int) (hv : IntsZ w (.slice va L.length vc) L) (hy : IntsZ w (.slice ya M.length yc) M) (hg : IntsZ w (.slice ga G.length gc) G) (hS : I64 S) (hT : I64 T) (hn : I64 n) (h1 : L.length ≤ 300) (h2 : M.length ≤ 300) (h3 : 300 < G.length) :
    Calls Try.prog 4 #[frV S (.slice va L.length vc), frV T (.slice ya M.length yc), .int .i64 n, .slice ga G.length gc] w fun e w' => e = .returned (.bool true) ∧ Below w.heap.size w w' := by
  have h1i : (L.length : Int) ≤ 300 := by omega
  have h2i : (M.length : Int) ≤ 300 := by omega
  have h3i : (300 : Int) < (G.length : Int) := by omega
  clear h1 h2 h3
  obtain ⟨X1, X2, B0⟩ := two_fr w S (.slice va L.length vc) (.int .i64 T) (.slice ya M.length yc) 24 24
  have Xf := hid_mk X1
  have Xo := hid_mk X2
  have B := hid_mk B0
  have QL := hid_mk ((IntsK.of hv).below B0)
  have QM := hid_mk ((IntsK.of hy).below B0)
  have QG := hid_mk ((IntsK.of hg).below B0)
  clear X1 X2 B0 hv hy hg
  unfold frV
  go_enter Try.func4, Try.ntmps4
  go_wp2_with fail
  refine (lives8_any _).mono ?_
  rintro e w1 ⟨rfl, hb⟩
  replace QL := hid_mk (QL.out.below hb)
  replace QM := hid_mk (QM.out.below hb)
  replace QG := hid_mk (QG.out.below hb)
  replace Xf := hid_mk (Xf.out.below hb)
  replace Xo := hid_mk (Xo.out.below hb)
  replace B := hid_mk (below_then B.out hb)
  clear hb
  obtain ⟨lf, cf0, cf1, ff0, ff1⟩ := blk2 Xf.out
  obtain ⟨lo, co0, co1, fo0, fo1⟩ := blk2 Xo.out
  go_wp2_with fail
  go_ret
  exact ⟨rfl, B.out⟩

set_option maxRecDepth 100000 in
set_option maxHeartbeats 4000000 in
theorem walk_main (w : World) (S T n : Int) (va ya ga : Option Addr) (vc yc gc : Nat) (L M G : List Int) (hv : IntsZ w (.slice va L.length vc) L) (hy : IntsZ w (.slice ya M.length yc) M) (hg : IntsZ w (.slice ga G.length gc) G) (hS : I64 S) (hT : I64 T) (hn : I64 n) (h1 : L.length ≤ 300) (h2 : M.length ≤ 300) (h3 : G.length ≤ 300) :
    Calls Try.prog 4 #[frV S (.slice va L.length vc), frV T (.slice ya M.length yc), .int .i64 n, .slice ga G.length gc] w fun e w' => e = .returned (.bool true) ∧ Below w.heap.size w w' := by
  have h1i : (L.length : Int) ≤ 300 := by omega
  have h2i : (M.length : Int) ≤ 300 := by omega
  have h3i : (G.length : Int) ≤ 300 := by omega
  have H1 : Hid (L.length ≤ 300) := hid_mk h1
  have H2 : Hid (M.length ≤ 300) := hid_mk h2
  have H3 : Hid (G.length ≤ 300) := hid_mk h3
  have HLl : Hid (L.length ≤ 1000000) := hid_mk (by omega)
  have HGl : Hid (G.length ≤ 1000000) := hid_mk (by omega)
  have HMl : Hid (M.length ≤ 1000000) := hid_mk (by omega)
  have CT := hid_mk (fun (u : World) (hq : IntsK w.heap.size u (.slice va L.length vc) L) hB => frtake w.heap.size S (.slice va L.length vc) L n u hq hB hS hn (by omega))
  have RT := hid_mk (fun (u : World) (hq : IntsZ u (.slice va L.length vc) L) => rftake S (.slice va L.length vc) L n u hq HLl.out)
  have CG := hid_mk (fun (u : World) (x : Value) (hq : IntsK w.heap.size u (.slice va L.length vc) L) (hx : IntsK w.heap.size u x G) hB => frgive w.heap.size S (.slice va L.length vc) x L G u hq hx hB hS (by omega) (by omega))
  have RG := hid_mk (fun (u : World) (hq : IntsZ u (.slice va L.length vc) L) (hx : IntsZ u (.slice ga G.length gc) G) => rfgive S (.slice va L.length vc) (.slice ga G.length gc) L G u hq hx HLl.out HGl.out)
  have CI := hid_mk (fun (u : World) (hq : IntsZ u (.slice va L.length vc) L) => fris S (.slice va L.length vc) L n u hq hS hn (by omega))
  have RI := hid_mk (fun (u : World) (hq : IntsZ u (.slice va L.length vc) L) => rfis S (.slice va L.length vc) L n u hq HLl.out)
  have CS := hid_mk (fun (u : World) (hq : IntsZ u (.slice va L.length vc) L) (hm : IntsZ u (.slice ya M.length yc) M) => frsame S T (.slice va L.length vc) (.slice ya M.length yc) L M u hq hm (by omega))
  have RS := hid_mk (fun (u : World) (hq : IntsZ u (.slice va L.length vc) L) (hm : IntsZ u (.slice ya M.length yc) M) => kfree S T (.slice va L.length vc) (.slice ya M.length yc) L M u hq hm HLl.out)
  have CC := hid_mk (fun (u : World) (hq : IntsZ u (.slice va L.length vc) L) => frcheck S (.slice va L.length vc) L u hq hS (by omega))
  have RC := hid_mk (fun (u : World) (hq : IntsZ u (.slice va L.length vc) L) => rfcheck S (.slice va L.length vc) L u hq)
  have CN := hid_mk (fun (u : World) (hq : IntsZ u (.slice va L.length vc) L) => frcount S (.slice va L.length vc) L u hq hS (by omega))
  obtain ⟨p, hp⟩ : ∃ p, n % 400 = p := ⟨_, rfl⟩
  have HPk := hid_mk (fun u => pick_at n 400 p u (by decide) (by decide) hp)
  have CW := hid_mk (fun (u : World) => frnew p u (by constructor <;> omega))
  have RW := hid_mk (fun (u : World) => rfnew p u (by constructor <;> omega))
  obtain ⟨l1, l2⟩ := takA_len (S := S) (L := L) (n := n)
  have l3 := givR_len (S := S) (L := L) (G := G)
  unfold frV at CT RT CG RG CI RI CS RS CC RC CN CW RW
  generalize takA S L n = A at *
  generalize takR S L n = R at *
  generalize takS S L n = TS at *
  generalize takE S L n = TE at *
  generalize givR S L G = R2 at *
  generalize givS S L G = GS at *
  generalize givE S L G = GE at *
  generalize isL S L n = q at *
  generalize sameF S L T M = z at *
  generalize newLS p = NS at *
  generalize newLE p = NE at *
  obtain ⟨NL, hNL⟩ : ∃ NL, newLL p = NL := ⟨_, rfl⟩
  have l4 : NL.length ≤ 400 := by
    rw [← hNL]
    unfold newLL
    split
    · rw [List.length_map, List.length_range]
      omega
    · simp
  rw [hNL] at CW RW
  clear hNL
  have HA1 : Hid (A.length ≤ 1000000) := hid_mk (by omega)
  have HR1 : Hid (R.length ≤ 1000000) := hid_mk (by omega)
  have HR2 : Hid (R2.length ≤ 1000000) := hid_mk (by omega)
  have HN1 : Hid (NL.length ≤ 1000000) := hid_mk (by omega)
  have hne1 : (TE != TE) = false := by simp
  have hne2 : (GE != GE) = false := by simp
  clear hS hT hn h1 h2 h3 l1 l2 l3 l4 hp
  obtain ⟨X1, X2, B0⟩ := two_fr w S (.slice va L.length vc) (.int .i64 T) (.slice ya M.length yc) 24 24
  have Xf := hid_mk X1
  have Xo := hid_mk X2
  have B := hid_mk B0
  have QL := hid_mk ((IntsK.of hv).below B0)
  have QM := hid_mk ((IntsK.of hy).below B0)
  have QG := hid_mk ((IntsK.of hg).below B0)
  clear X1 X2 B0 hv hy hg
  unfold frV
  go_enter Try.func4, Try.ntmps4
  go_wp2_with fail
  refine (lives8_any _).mono ?_
  rintro e w1 ⟨rfl, hb⟩
  replace QL := hid_mk (QL.out.below hb)
  replace QM := hid_mk (QM.out.below hb)
  replace QG := hid_mk (QG.out.below hb)
  replace Xf := hid_mk (Xf.out.below hb)
  replace Xo := hid_mk (Xo.out.below hb)
  replace B := hid_mk (below_then B.out hb)
  clear hb
  obtain ⟨lf, cf0, cf1, ff0, ff1⟩ := blk2 Xf.out
  obtain ⟨lo, co0, co1, fo0, fo1⟩ := blk2 Xo.out
  go_wp2_with fail
  refine (CT.out _ QL.out B.out.size).mono ?_
  rintro e w2 ⟨v1, v2, rfl, ⟨hq, _, _⟩, ⟨hr, _⟩, hb⟩
  clear lf cf0 cf1 ff0 ff1
  clear lo co0 co1 fo0 fo1
  replace QL := hid_mk (QL.out.below hb)
  replace QM := hid_mk (QM.out.below hb)
  replace QG := hid_mk (QG.out.below hb)
  replace Xf := hid_mk (Xf.out.below hb)
  replace Xo := hid_mk (Xo.out.below hb)
  replace B := hid_mk (below_then B.out hb)
  clear hb
  obtain ⟨aa, ac, rfl⟩ := hq.len
  obtain ⟨xa, xc, rfl⟩ := hr.len
  have Qa := hid_mk hq
  have Qx := hid_mk hr
  clear hq hr
  obtain ⟨lf, cf0, cf1, ff0, ff1⟩ := blk2 Xf.out
  have hx := blk_new w2 [.int .i64 TS, .slice xa R.length xc] 24
  have hbx := below_box w2 (.cells #[.int .i64 TS, .slice xa R.length xc] 24)
  have Nfx := hid_mk (Nat.ne_of_lt Xf.out.lt)
  have Nox := hid_mk (Nat.ne_of_lt Xo.out.lt)
  have Gx : Hid (w.heap.size ≤ w2.heap.size) := hid_mk B.out.size
  replace QL := hid_mk (QL.out.below hbx)
  replace QM := hid_mk (QM.out.below hbx)
  replace QG := hid_mk (QG.out.below hbx)
  replace Qa := hid_mk (Qa.out.below hbx)
  replace Qx := hid_mk (Qx.out.below hbx)
  replace Xf := hid_mk (Xf.out.below hbx)
  replace Xo := hid_mk (Xo.out.below hbx)
  replace B := hid_mk (below_then B.out hbx)
  have Xx := hid_mk hx
  clear hx hbx
  go_wp2_with fail
  refine (RT.out _ QL.out.1).mono ?_
  rintro e w3 ⟨v1, v2, rfl, hq, hr, hb⟩
  clear lf cf0 cf1 ff0 ff1
  replace QL := hid_mk (QL.out.below hb)
  replace QM := hid_mk (QM.out.below hb)
  replace QG := hid_mk (QG.out.below hb)
  replace Qa := hid_mk (Qa.out.below hb)
  replace Qx := hid_mk (Qx.out.below hb)
  replace Xf := hid_mk (Xf.out.below hb)
  replace Xo := hid_mk (Xo.out.below hb)
  replace Xx := hid_mk (Xx.out.below hb)
  replace B := hid_mk (below_then B.out hb)
  replace hq := IntsK.of hq
  replace hr := IntsK.of hr
  clear hb
  obtain ⟨ba, bc, rfl⟩ := hq.len
  obtain ⟨ya2, yc2, rfl⟩ := hr.len
  have Qb := hid_mk hq
  have Qy := hid_mk hr
  clear hq hr
  have hx := blk_new w3 [.int .i64 TS, .slice ya2 R.length yc2] 24
  have hbx := below_box w3 (.cells #[.int .i64 TS, .slice ya2 R.length yc2] 24)
  have Nfy := hid_mk (Nat.ne_of_lt Xf.out.lt)
  have Noy := hid_mk (Nat.ne_of_lt Xo.out.lt)
  have Nxy := hid_mk (Nat.ne_of_lt Xx.out.lt)
  have Gy : Hid (w.heap.size ≤ w3.heap.size) := hid_mk B.out.size
  replace QL := hid_mk (QL.out.below hbx)
  replace QM := hid_mk (QM.out.below hbx)
  replace QG := hid_mk (QG.out.below hbx)
  replace Qa := hid_mk (Qa.out.below hbx)
  replace Qx := hid_mk (Qx.out.below hbx)
  replace Qb := hid_mk (Qb.out.below hbx)
  replace Qy := hid_mk (Qy.out.below hbx)
  replace Xf := hid_mk (Xf.out.below hbx)
  replace Xo := hid_mk (Xo.out.below hbx)
  replace Xx := hid_mk (Xx.out.below hbx)
  replace B := hid_mk (below_then B.out hbx)
  have Xy := hid_mk hx
  clear hx hbx
  obtain ⟨lf, cf0, cf1, ff0, ff1⟩ := blk2 Xf.out
  go_wp2_with fail
  clear lf cf0 cf1 ff0 ff1
  have BU0 := B.out.size
  obtain ⟨U, hU⟩ : ∃ U, U = (w3.alloc (.cells #[.int .i64 TS, .slice ya2 R.length yc2] 24)) := ⟨_, rfl⟩
  rw [← hU] at BU0 QL QM QG Qa Qx Qb Qy Xf Xo Xx Xy B
  rw [← hU]
  have BU := hid_mk BU0
  clear hU BU0
  refine wp_region_outl3 15 [(9, PutB U.heap.size)] [] []
      [(fun v _ => v = .agg #[.int .i64 S, .slice va L.length vc]),
      (fun v _ => ∃ g, v = .slice (some ⟨g, 0, none⟩) 0 0),
      (fun v _ => v = .slice ga G.length gc),
      (fun v W => IntsK w.heap.size W v G),
      (fun v W => ∃ x, v = .tuple #[.agg #[.int .i64 GS, x], .int .i64 GE] ∧ IntsK w.heap.size W x R2),
      (fun v W => ∃ x, v = .tuple #[.agg #[.int .i64 GS, x], .int .i64 GE] ∧ IntsK w.heap.size W x R2),
      (fun v W => ∃ x, v = .agg #[.int .i64 GS, x] ∧ IntsK w.heap.size W x R2),
      (fun v _ => v = .int .i64 GE),
      (fun v W => ∃ b x y, v = .pointer (some ⟨b, 0, none⟩) ∧ U.heap.size ≤ b ∧ BlkAt W b [x, y] 24),
      (fun v W => ∃ b x, v = .pointer (some ⟨b, 0, none⟩) ∧ BlkAt W b [.int .i64 GS, x] 24 ∧ IntsK w.heap.size W x R2),
      (fun v _ => v = .int .i64 GE)]
      (Below U.heap.size U) (by kernel_rfl) (by kernel_rfl) (by kernel_rfl) ?_ (fun u u' hb h => h.trans (hb.mono h.size)) ((Below.refl _ _).drew) ?_ ?_ ?_ ?_ ?_
  · refine And.intro (up_eq _) ?_
    refine And.intro (up_slice0) ?_
    refine And.intro (up_eq _) ?_
    refine And.intro (up_k _ _) ?_
    refine And.intro (upT_k _ _ _ _) ?_
    refine And.intro (upT_k _ _ _ _) ?_
    refine And.intro (upA_k _ _ _) ?_
    refine And.intro (up_eq _) ?_
    refine And.intro (up_new _) ?_
    refine And.intro (up_full _ _ _) ?_
    refine And.intro (up_eq _) ?_
    trivial
  · trivial
  · trivial
  · refine And.intro (And.intro ?_ (fun u u' hp h => putB_below h (Nat.le_refl _) hp)) ?_
    · refine And.intro (fun _ _ _ => ch_eq _ _) ?_
      refine And.intro (fun _ _ _ => fun _ _ _ _ h => h) ?_
      refine And.intro (fun _ _ _ => ch_eq _ _) ?_
      refine And.intro (fun _ _ _ => putB_k BU.out) ?_
      refine And.intro (fun _ _ _ => putT_k BU.out) ?_
      refine And.intro (fun _ _ _ => putT_k BU.out) ?_
      refine And.intro (fun _ _ _ => putA_k BU.out) ?_
      refine And.intro (fun _ _ _ => ch_eq _ _) ?_
      refine And.intro (fun _ _ _ => put_new _ _) ?_
      refine And.intro (fun h _ _ => absurd rfl h) ?_
      refine And.intro (fun _ _ _ => ch_eq _ _) ?_
      trivial
    trivial
  · refine And.intro ?_ (And.intro ?_ (And.intro ?_ (And.intro ?_ (And.intro ?_ (And.intro ?_ (And.intro ?_ (And.intro ?_ (And.intro ?_ (And.intro ?_ (And.intro ?_ (True.intro)))))))))))
    · refine qstep_val (.agg #[.int .i64 S, .slice va L.length vc]) (by kernel_rfl) (by kernel_rfl) rfl (fun _ A1 W1 inv hnl hall => ⟨wanted_none rfl, ?_, rfl⟩)
      have h4 : A1.eval (.tmp 4) = .pointer (some ⟨w.heap.size, 0, none⟩) := (inv.base 4 (by kernel_rfl)).trans rfl
      simp only [execOp, h4, Sem.run_bind, loadFr (Xf.out.below inv.s), Result.andThen_ok, Sem.run_pure]
    · refine qstep_run (by kernel_rfl) (by kernel_rfl) rfl (fun _ A1 W1 inv hnl hall => ⟨wanted_none rfl, ?_⟩)
      refine ⟨.slice (some ⟨W1.heap.size, 0, none⟩) 0 0, W1.alloc (.cells #[] 3), ?_, ⟨_, rfl⟩, below_box _ _⟩
      simp [execOp, go_sem]
    · refine qstep_val (.slice ga G.length gc) (by kernel_rfl) (by kernel_rfl) rfl (fun _ A1 W1 inv hnl hall => ⟨wanted_none rfl, ?_, rfl⟩)
      have h3 : A1.eval (.tmp 3) = .slice ga G.length gc := (inv.base 3 (by kernel_rfl)).trans rfl
      simp only [execOp, h3, Sem.run_pure]
    · refine qstep_run (by kernel_rfl) (by kernel_rfl) rfl (fun _ A1 W1 inv hnl hall => ⟨wanted_none rfl, ?_⟩)
      have h56 : (fun v _ => ∃ g, v = .slice (some ⟨g, 0, none⟩) 0 0) (A1.eval (.tmp 56)) W1 := inv.get hall 1 56 (by kernel_rfl) (by kernel_rfl) rfl
      have h57 : A1.eval (.tmp 57) = .slice ga G.length gc := inv.get hall 2 57 (by kernel_rfl) (by kernel_rfl) rfl
      obtain ⟨g, hg⟩ := h56
      obtain ⟨v', w', h1, h2, h3⟩ := app_emptyK (B := w.heap.size) g (QG.out.below inv.s).1 HGl.out
      refine ⟨v', w', ?_, h2, h3⟩
      simp only [execOp]
      simp [resolve, invoke, builtin, h57, hg, h1, Result.andThen]
    · refine qstep_call 9 (by kernel_rfl) _ _ (by kernel_rfl) (by kernel_rfl) rfl rfl (fun _ A1 W1 inv hnl hall => ⟨wanted_none rfl, #[.agg #[.int .i64 S, .slice va L.length vc], A1.eval (.tmp 58)], ?_, ?_⟩)
      · have h55 : A1.eval (.tmp 55) = .agg #[.int .i64 S, .slice va L.length vc] := inv.get hall 0 55 (by kernel_rfl) (by kernel_rfl) rfl
        simp [h55]
      · have h58 : (fun v W => IntsK w.heap.size W v G) (A1.eval (.tmp 58)) W1 := inv.get hall 3 58 (by kernel_rfl) (by kernel_rfl) rfl
        refine (CG.out _ _ (QL.out.below inv.s) h58 (Nat.le_trans BU.out inv.s.size)).mono ?_
        rintro e u ⟨x, rfl, ⟨hx, _⟩, hb⟩
        exact ⟨_, rfl, ⟨x, rfl, hx⟩, hb⟩
    · refine qstep_ex (by kernel_rfl) (by kernel_rfl) rfl (fun _ A1 W1 inv hnl hall => ⟨wanted_none rfl, ?_⟩)
      have h59 : (fun v W => ∃ x, v = .tuple #[.agg #[.int .i64 GS, x], .int .i64 GE] ∧ IntsK w.heap.size W x R2) (A1.eval (.tmp 59)) W1 := inv.get hall 4 59 (by kernel_rfl) (by kernel_rfl) rfl
      exact ⟨A1.eval (.tmp 59), by simp only [execOp, Sem.run_pure], h59⟩
    · refine qstep_ex (by kernel_rfl) (by kernel_rfl) rfl (fun _ A1 W1 inv hnl hall => ⟨wanted_none rfl, ?_⟩)
      have h54 : (fun v W => ∃ x, v = .tuple #[.agg #[.int .i64 GS, x], .int .i64 GE] ∧ IntsK w.heap.size W x R2) (A1.eval (.tmp 54)) W1 := inv.get hall 5 54 (by kernel_rfl) (by kernel_rfl) rfl
      obtain ⟨x, hx, hi⟩ := h54
      refine ⟨.agg #[.int .i64 GS, x], ?_, x, rfl, hi⟩
      simp only [execOp, hx]
      simp [go_sem]
    · refine qstep_val (.int .i64 GE) (by kernel_rfl) (by kernel_rfl) rfl (fun _ A1 W1 inv hnl hall => ⟨wanted_none rfl, ?_, rfl⟩)
      have h54 : (fun v W => ∃ x, v = .tuple #[.agg #[.int .i64 GS, x], .int .i64 GE] ∧ IntsK w.heap.size W x R2) (A1.eval (.tmp 54)) W1 := inv.get hall 5 54 (by kernel_rfl) (by kernel_rfl) rfl
      obtain ⟨x, hx, hi⟩ := h54
      simp only [execOp, hx]
      simp [go_sem]
    · refine qstep_run (by kernel_rfl) (by kernel_rfl) rfl (fun _ A1 W1 inv hnl hall => ⟨wanted_none rfl, ?_⟩)
      refine ⟨.pointer (some ⟨W1.heap.size, 0, none⟩), W1.alloc (.cells #[.int .i64 0, .slice none 0 0] 24), ?_, ⟨_, _, _, rfl, inv.s.size, blk_new _ [.int .i64 0, .slice none 0 0] _⟩, below_box _ _⟩
      simp [execOp, go_sem]
    · refine qstep_skip (by kernel_rfl) (by kernel_rfl) rfl (fun _ A1 W1 inv hnl hall => ⟨wanted_none rfl, ?_⟩)
      have h15 : (fun v W => ∃ b x y, v = .pointer (some ⟨b, 0, none⟩) ∧ U.heap.size ≤ b ∧ BlkAt W b [x, y] 24) (A1.eval (.tmp 15)) W1 := inv.get hall 8 15 (by kernel_rfl) (by kernel_rfl) rfl
      have h60 : (fun v W => ∃ x, v = .agg #[.int .i64 GS, x] ∧ IntsK w.heap.size W x R2) (A1.eval (.tmp 60)) W1 := inv.get hall 6 60 (by kernel_rfl) (by kernel_rfl) rfl
      obtain ⟨b, y0, y1, hb, hB, hr⟩ := h15
      obtain ⟨x, hx, hi⟩ := h60
      obtain ⟨_, _, hh⟩ := hi.len
      refine ⟨(W1.setCell ⟨b, 0, none⟩ (.int .i64 GS)).setCell ⟨b, 1, none⟩ x, ?_, ⟨b, x, hb, (hr.set 0 _).set 1 _, putB_k BU.out _ _ _ ⟨b, _, _, _, hB, hr, rfl⟩ hi⟩, ⟨b, _, _, _, hB, hr, rfl⟩⟩
      simp only [execOp, hb, hx]
      rw [hh]
      have c0 := hr.cell 0
      have c1 := hr.cell 1
      have f0 := hr.free 0
      have f1 := hr.free 1
      simp at c0 c1
      simp [go_sem, c0, c1, f0, f1]
    · refine qstep_val (.int .i64 GE) (by kernel_rfl) (by kernel_rfl) rfl (fun _ A1 W1 inv hnl hall => ⟨wanted_none rfl, ?_, rfl⟩)
      have h61 : A1.eval (.tmp 61) = .int .i64 GE := inv.get hall 7 61 (by kernel_rfl) (by kernel_rfl) rfl
      simp only [execOp, h61, Sem.run_pure]
  · intro listed A1 W1 inv hall
    have e55 : A1.eval (.tmp 55) = .agg #[.int .i64 S, .slice va L.length vc] := inv.fin 0 55 (by kernel_rfl) (hall 0 (Nat.lt_of_lt_of_eq (by decide : 0 < 11) (by kernel_rfl))) rfl
    have e57 : A1.eval (.tmp 57) = .slice ga G.length gc := inv.fin 2 57 (by kernel_rfl) (hall 2 (Nat.lt_of_lt_of_eq (by decide : 2 < 11) (by kernel_rfl))) rfl
    have e61 : A1.eval (.tmp 61) = .int .i64 GE := inv.fin 7 61 (by kernel_rfl) (hall 7 (Nat.lt_of_lt_of_eq (by decide : 7 < 11) (by kernel_rfl))) rfl
    have e16 : A1.eval (.tmp 16) = .int .i64 GE := inv.fin 10 16 (by kernel_rfl) (hall 10 (Nat.lt_of_lt_of_eq (by decide : 10 < 11) (by kernel_rfl))) rfl
    have p56 : (fun v _ => ∃ g, v = .slice (some ⟨g, 0, none⟩) 0 0) (A1.eval (.tmp 56)) W1 := inv.fin 1 56 (by kernel_rfl) (hall 1 (Nat.lt_of_lt_of_eq (by decide : 1 < 11) (by kernel_rfl))) rfl
    obtain ⟨v56, e56⟩ : ∃ v, A1.eval (.tmp 56) = v := ⟨_, rfl⟩
    rw [e56] at p56
    have p58 : (fun v W => IntsK w.heap.size W v G) (A1.eval (.tmp 58)) W1 := inv.fin 3 58 (by kernel_rfl) (hall 3 (Nat.lt_of_lt_of_eq (by decide : 3 < 11) (by kernel_rfl))) rfl
    obtain ⟨v58, e58⟩ : ∃ v, A1.eval (.tmp 58) = v := ⟨_, rfl⟩
    rw [e58] at p58
    have p59 : (fun v W => ∃ x, v = .tuple #[.agg #[.int .i64 GS, x], .int .i64 GE] ∧ IntsK w.heap.size W x R2) (A1.eval (.tmp 59)) W1 := inv.fin 4 59 (by kernel_rfl) (hall 4 (Nat.lt_of_lt_of_eq (by decide : 4 < 11) (by kernel_rfl))) rfl
    obtain ⟨v59, e59⟩ : ∃ v, A1.eval (.tmp 59) = v := ⟨_, rfl⟩
    rw [e59] at p59
    have p54 : (fun v W => ∃ x, v = .tuple #[.agg #[.int .i64 GS, x], .int .i64 GE] ∧ IntsK w.heap.size W x R2) (A1.eval (.tmp 54)) W1 := inv.fin 5 54 (by kernel_rfl) (hall 5 (Nat.lt_of_lt_of_eq (by decide : 5 < 11) (by kernel_rfl))) rfl
    obtain ⟨v54, e54⟩ : ∃ v, A1.eval (.tmp 54) = v := ⟨_, rfl⟩
    rw [e54] at p54
    have p60 : (fun v W => ∃ x, v = .agg #[.int .i64 GS, x] ∧ IntsK w.heap.size W x R2) (A1.eval (.tmp 60)) W1 := inv.fin 6 60 (by kernel_rfl) (hall 6 (Nat.lt_of_lt_of_eq (by decide : 6 < 11) (by kernel_rfl))) rfl
    obtain ⟨v60, e60⟩ : ∃ v, A1.eval (.tmp 60) = v := ⟨_, rfl⟩
    rw [e60] at p60
    have p15 : (fun v W => ∃ b x y, v = .pointer (some ⟨b, 0, none⟩) ∧ U.heap.size ≤ b ∧ BlkAt W b [x, y] 24) (A1.eval (.tmp 15)) W1 := inv.fin 8 15 (by kernel_rfl) (hall 8 (Nat.lt_of_lt_of_eq (by decide : 8 < 11) (by kernel_rfl))) rfl
    obtain ⟨v15, e15⟩ : ∃ v, A1.eval (.tmp 15) = v := ⟨_, rfl⟩
    rw [e15] at p15
    have hst9 := inv.fin0 9 (by kernel_rfl) (hall 9 (Nat.lt_of_lt_of_eq (by decide : 9 < 11) (by kernel_rfl))) rfl
    rw [e15] at hst9
    have HF := inv.frame hall
    have HS9 := hid_mk inv.s
    simp only [putEnd, e55, e57, e61, e16, e56, e58, e59, e54, e60, e15, Act.put, List.setIfInBounds_toArray, List.set_cons_succ, List.set_cons_zero] at HF
    clear e55 e57 e61 e16 e56 e58 e59 e54 e60 e15 inv hall
    subst HF
    obtain ⟨bu, xu, hb15, hxu, hku⟩ := hst9
    obtain ⟨ua, uc, rfl⟩ := hku.len
    subst hb15
    replace QL := hid_mk (QL.out.below HS9.out)
    replace QM := hid_mk (QM.out.below HS9.out)
    replace QG := hid_mk (QG.out.below HS9.out)
    replace Qa := hid_mk (Qa.out.below HS9.out)
    replace Qx := hid_mk (Qx.out.below HS9.out)
    replace Qb := hid_mk (Qb.out.below HS9.out)
    replace Qy := hid_mk (Qy.out.below HS9.out)
    replace Xf := hid_mk (Xf.out.below HS9.out)
    replace Xo := hid_mk (Xo.out.below HS9.out)
    replace Xx := hid_mk (Xx.out.below HS9.out)
    replace Xy := hid_mk (Xy.out.below HS9.out)
    replace B := hid_mk (below_then B.out HS9.out)
    have Xu := hid_mk hxu
    have Qu := hid_mk hku
    clear hxu hku HS9
    obtain ⟨lf, cf0, cf1, ff0, ff1⟩ := blk2 Xf.out
    go_wp2_with fail
    refine (RG.out _ QL.out.1 QG.out.1).mono ?_
    rintro e w6 ⟨v2, rfl, hr, hb⟩
    clear lf cf0 cf1 ff0 ff1
    replace QL := hid_mk (QL.out.below hb)
    replace QM := hid_mk (QM.out.below hb)
    replace QG := hid_mk (QG.out.below hb)
    replace Qa := hid_mk (Qa.out.below hb)
    replace Qx := hid_mk (Qx.out.below hb)
    replace Qb := hid_mk (Qb.out.below hb)
    replace Qy := hid_mk (Qy.out.below hb)
    replace Qu := hid_mk (Qu.out.below hb)
    replace Xf := hid_mk (Xf.out.below hb)
    replace Xo := hid_mk (Xo.out.below hb)
    replace Xx := hid_mk (Xx.out.below hb)
    replace Xy := hid_mk (Xy.out.below hb)
    replace Xu := hid_mk (Xu.out.below hb)
    replace B := hid_mk (below_then B.out hb)
    clear hb
    replace hr := IntsK.of hr
    obtain ⟨pa, pc, rfl⟩ := hr.len
    have Qp := hid_mk hr
    clear hr
    have hx := blk_new w6 [.int .i64 GS, .slice pa R2.length pc] 24
    have hbx := below_box w6 (.cells #[.int .i64 GS, .slice pa R2.length pc] 24)
    have Nfp := hid_mk (Nat.ne_of_lt Xf.out.lt)
    have Nop := hid_mk (Nat.ne_of_lt Xo.out.lt)
    have Nxp := hid_mk (Nat.ne_of_lt Xx.out.lt)
    have Nyp := hid_mk (Nat.ne_of_lt Xy.out.lt)
    have Nup := hid_mk (Nat.ne_of_lt Xu.out.lt)
    have Gp : Hid (w.heap.size ≤ w6.heap.size) := hid_mk B.out.size
    replace QL := hid_mk (QL.out.below hbx)
    replace QM := hid_mk (QM.out.below hbx)
    replace QG := hid_mk (QG.out.below hbx)
    replace Qa := hid_mk (Qa.out.below hbx)
    replace Qx := hid_mk (Qx.out.below hbx)
    replace Qb := hid_mk (Qb.out.below hbx)
    replace Qy := hid_mk (Qy.out.below hbx)
    replace Qu := hid_mk (Qu.out.below hbx)
    replace Qp := hid_mk (Qp.out.below hbx)
    replace Xf := hid_mk (Xf.out.below hbx)
    replace Xo := hid_mk (Xo.out.below hbx)
    replace Xx := hid_mk (Xx.out.below hbx)
    replace Xy := hid_mk (Xy.out.below hbx)
    replace Xu := hid_mk (Xu.out.below hbx)
    replace B := hid_mk (below_then B.out hbx)
    have Xp := hid_mk hx
    clear hx hbx
    go_wp2_with fail
    refine (kints _ _ A A _ Qa.out.1 Qb.out.1 HA1.out).mono ?_
    rintro e w7 ⟨he, hb⟩
    replace QL := hid_mk (QL.out.below hb)
    replace QM := hid_mk (QM.out.below hb)
    replace QG := hid_mk (QG.out.below hb)
    replace Qa := hid_mk (Qa.out.below hb)
    replace Qx := hid_mk (Qx.out.below hb)
    replace Qb := hid_mk (Qb.out.below hb)
    replace Qy := hid_mk (Qy.out.below hb)
    replace Qu := hid_mk (Qu.out.below hb)
    replace Qp := hid_mk (Qp.out.below hb)
    replace Xf := hid_mk (Xf.out.below hb)
    replace Xo := hid_mk (Xo.out.below hb)
    replace Xx := hid_mk (Xx.out.below hb)
    replace Xy := hid_mk (Xy.out.below hb)
    replace Xu := hid_mk (Xu.out.below hb)
    replace Xp := hid_mk (Xp.out.below hb)
    replace B := hid_mk (below_then B.out hb)
    clear hb
    rw [sameL_self] at he
    subst he
    obtain ⟨lx, cx0, cx1, fx0, fx1⟩ := blk2 Xx.out
    obtain ⟨ly, cy0, cy1, fy0, fy1⟩ := blk2 Xy.out
    go_wp2_with fail
    refine (kfree TS TS _ _ R R _ Qx.out.1 Qy.out.1 HR1.out).mono ?_
    rintro e w8 ⟨he, hb⟩
    clear lx cx0 cx1 fx0 fx1
    clear ly cy0 cy1 fy0 fy1
    replace QL := hid_mk (QL.out.below hb)
    replace QM := hid_mk (QM.out.below hb)
    replace QG := hid_mk (QG.out.below hb)
    replace Qa := hid_mk (Qa.out.below hb)
    replace Qx := hid_mk (Qx.out.below hb)
    replace Qb := hid_mk (Qb.out.below hb)
    replace Qy := hid_mk (Qy.out.below hb)
    replace Qu := hid_mk (Qu.out.below hb)
    replace Qp := hid_mk (Qp.out.below hb)
    replace Xf := hid_mk (Xf.out.below hb)
    replace Xo := hid_mk (Xo.out.below hb)
    replace Xx := hid_mk (Xx.out.below hb)
    replace Xy := hid_mk (Xy.out.below hb)
    replace Xu := hid_mk (Xu.out.below hb)
    replace Xp := hid_mk (Xp.out.below hb)
    replace B := hid_mk (below_then B.out hb)
    clear hb
    rw [sameF_self] at he
    subst he
    obtain ⟨lu, cu0, cu1, fu0, fu1⟩ := blk2 Xu.out
    obtain ⟨lp, cp0, cp1, fp0, fp1⟩ := blk2 Xp.out
    go_wp2_with fail
    refine (kfree GS GS _ _ R2 R2 _ Qu.out.1 Qp.out.1 HR2.out).mono ?_
    rintro e w9 ⟨he, hb⟩
    clear lu cu0 cu1 fu0 fu1
    clear lp cp0 cp1 fp0 fp1
    replace QL := hid_mk (QL.out.below hb)
    replace QM := hid_mk (QM.out.below hb)
    replace QG := hid_mk (QG.out.below hb)
    replace Qa := hid_mk (Qa.out.below hb)
    replace Qx := hid_mk (Qx.out.below hb)
    replace Qb := hid_mk (Qb.out.below hb)
    replace Qy := hid_mk (Qy.out.below hb)
    replace Qu := hid_mk (Qu.out.below hb)
    replace Qp := hid_mk (Qp.out.below hb)
    replace Xf := hid_mk (Xf.out.below hb)
    replace Xo := hid_mk (Xo.out.below hb)
    replace Xx := hid_mk (Xx.out.below hb)
    replace Xy := hid_mk (Xy.out.below hb)
    replace Xu := hid_mk (Xu.out.below hb)
    replace Xp := hid_mk (Xp.out.below hb)
    replace B := hid_mk (below_then B.out hb)
    clear hb
    rw [sameF_self] at he
    subst he
    obtain ⟨lf, cf0, cf1, ff0, ff1⟩ := blk2 Xf.out
    go_wp2_with fail
    refine (RC.out _ QL.out.1).mono ?_
    rintro e w10 ⟨he, hb⟩
    clear lf cf0 cf1 ff0 ff1
    replace QL := hid_mk (QL.out.below hb)
    replace QM := hid_mk (QM.out.below hb)
    replace QG := hid_mk (QG.out.below hb)
    replace Qa := hid_mk (Qa.out.below hb)
    replace Qx := hid_mk (Qx.out.below hb)
    replace Qb := hid_mk (Qb.out.below hb)
    replace Qy := hid_mk (Qy.out.below hb)
    replace Qu := hid_mk (Qu.out.below hb)
    replace Qp := hid_mk (Qp.out.below hb)
    replace Xf := hid_mk (Xf.out.below hb)
    replace Xo := hid_mk (Xo.out.below hb)
    replace Xx := hid_mk (Xx.out.below hb)
    replace Xy := hid_mk (Xy.out.below hb)
    replace Xu := hid_mk (Xu.out.below hb)
    replace Xp := hid_mk (Xp.out.below hb)
    replace B := hid_mk (below_then B.out hb)
    clear hb
    unfold chkLE at he
    cases hc : chkL S L
    · rw [hc, if_neg (by decide)] at he
      subst he
      have e1 : chkLE S L = 2 := by
        unfold chkLE
        rw [hc]
        rfl
      have e2 : cntL S L = 0 := by
        unfold cntL
        rw [hc]
        rfl
      rw [e1] at CC RC
      rw [e2] at CN
      clear e1 e2 hc Qa Qb Qx Qy Qu Qp QG Xx Xy Xu Xp
      obtain ⟨lf, cf0, cf1, ff0, ff1⟩ := blk2 Xf.out
      go_wp2_with fail
      refine (HPk.out _).mono ?_
      rintro e w11 ⟨rfl, hs⟩
      have hb : Below w10.heap.size w10 w11 := by
        rw [hs]
        exact Below.refl _ _
      clear hs
      clear lf cf0 cf1 ff0 ff1
      replace QL := hid_mk (QL.out.below hb)
      replace QM := hid_mk (QM.out.below hb)
      replace Xf := hid_mk (Xf.out.below hb)
      replace Xo := hid_mk (Xo.out.below hb)
      replace B := hid_mk (below_then B.out hb)
      clear hb
      go_wp2_with fail
      refine (CW.out _).mono ?_
      rintro e w12 ⟨v1, rfl, hq, _, hb⟩
      replace QL := hid_mk (QL.out.below hb)
      replace QM := hid_mk (QM.out.below hb)
      replace Xf := hid_mk (Xf.out.below hb)
      replace Xo := hid_mk (Xo.out.below hb)
      replace B := hid_mk (below_then B.out hb)
      clear hb
      obtain ⟨ka, kc, rfl⟩ := hq.len
      have Qk := hid_mk (hq.mono (Nat.zero_le w.heap.size))
      clear hq
      have hx := blk_new w12 [.int .i64 NS, .slice ka NL.length kc] 24
      have hbx := below_box w12 (.cells #[.int .i64 NS, .slice ka NL.length kc] 24)
      have Nfk := hid_mk (Nat.ne_of_lt Xf.out.lt)
      have Nok := hid_mk (Nat.ne_of_lt Xo.out.lt)
      have Gk : Hid (w.heap.size ≤ w12.heap.size) := hid_mk B.out.size
      replace QL := hid_mk (QL.out.below hbx)
      replace QM := hid_mk (QM.out.below hbx)
      replace Qk := hid_mk (Qk.out.below hbx)
      replace Xf := hid_mk (Xf.out.below hbx)
      replace Xo := hid_mk (Xo.out.below hbx)
      replace B := hid_mk (below_then B.out hbx)
      have Xk := hid_mk hx
      clear hx hbx
      go_wp2_with fail
      refine (RW.out _).mono ?_
      rintro e w13 ⟨v1, rfl, hq, hb⟩
      replace QL := hid_mk (QL.out.below hb)
      replace QM := hid_mk (QM.out.below hb)
      replace Qk := hid_mk (Qk.out.below hb)
      replace Xf := hid_mk (Xf.out.below hb)
      replace Xo := hid_mk (Xo.out.below hb)
      replace Xk := hid_mk (Xk.out.below hb)
      replace B := hid_mk (below_then B.out hb)
      clear hb
      obtain ⟨ja, jc, rfl⟩ := hq.len
      have Qj := hid_mk (IntsK.of hq)
      clear hq
      have hx := blk_new w13 [.int .i64 NS, .slice ja NL.length jc] 24
      have hbx := below_box w13 (.cells #[.int .i64 NS, .slice ja NL.length jc] 24)
      have Nfj := hid_mk (Nat.ne_of_lt Xf.out.lt)
      have Noj := hid_mk (Nat.ne_of_lt Xo.out.lt)
      have Nkj := hid_mk (Nat.ne_of_lt Xk.out.lt)
      have Gj : Hid (w.heap.size ≤ w13.heap.size) := hid_mk B.out.size
      replace QL := hid_mk (QL.out.below hbx)
      replace QM := hid_mk (QM.out.below hbx)
      replace Qk := hid_mk (Qk.out.below hbx)
      replace Qj := hid_mk (Qj.out.below hbx)
      replace Xf := hid_mk (Xf.out.below hbx)
      replace Xo := hid_mk (Xo.out.below hbx)
      replace Xk := hid_mk (Xk.out.below hbx)
      replace B := hid_mk (below_then B.out hbx)
      have Xj := hid_mk hx
      clear hx hbx
      go_wp2_with fail
      refine wp_region_outl
        [(fun v _ => v = .agg #[.int .i64 NS, .slice ka NL.length kc]),
        (fun v _ => v = .agg #[.int .i64 NS, .slice ja NL.length jc]),
        (fun v _ => v = .bool true),
        (fun v _ => v = .bool true),
        (fun v _ => v = .int .i64 NE),
        (fun v _ => v = .int .i64 NE),
        (fun v _ => v = .bool true),
        (fun v _ => v = .bool true),
        (fun v _ => v = .bool true),
        (fun v _ => v = .agg #[.int .i64 S, .slice va L.length vc]),
        (fun v _ => v = .int .i64 2),
        (fun v _ => v = .agg #[.int .i64 S, .slice va L.length vc]),
        (fun v _ => v = .int .i64 2),
        (fun v _ => v = .bool true),
        (fun v _ => v = .bool true),
        (fun v _ => v = .bool true),
        (fun v _ => v = .agg #[.int .i64 S, .slice va L.length vc]),
        (fun v _ => v = .int .i64 0),
        (fun v _ => v = .int .i64 0),
        (fun v _ => v = .bool true),
        (fun v _ => v = .bool true),
        (fun v _ => v = .bool true),
        (fun v _ => v = .agg #[.int .i64 S, .slice va L.length vc]),
        (fun v _ => v = .int .i64 n),
        (fun v _ => v = .bool q),
        (fun v _ => v = .agg #[.int .i64 S, .slice va L.length vc]),
        (fun v _ => v = .int .i64 n),
        (fun v _ => v = .bool q),
        (fun v _ => v = .bool true),
        (fun v _ => v = .bool true),
        (fun v _ => v = .bool true),
        (fun v _ => v = .agg #[.int .i64 S, .slice va L.length vc]),
        (fun v _ => v = .agg #[.int .i64 T, .slice ya M.length yc]),
        (fun v _ => v = .bool z),
        (fun v _ => v = .agg #[.int .i64 S, .slice va L.length vc]),
        (fun v _ => v = .agg #[.int .i64 T, .slice ya M.length yc]),
        (fun v _ => v = .bool z),
        (fun v _ => v = .bool true),
        (fun v _ => v = .bool true),
        (fun v _ => v = .bool true)]
        (fun u => Below (w13.alloc (.cells #[.int .i64 NS, .slice ja NL.length jc] 24)).heap.size (w13.alloc (.cells #[.int .i64 NS, .slice ja NL.length jc] 24)) u) (by kernel_rfl) (by kernel_rfl) ?_ (fun u u' hb h => h.trans (hb.mono h.size)) ((Below.refl _ _).drew) ?_ ?_
      · refine And.intro (up_eq _) ?_
        refine And.intro (up_eq _) ?_
        refine And.intro (up_eq _) ?_
        refine And.intro (up_eq _) ?_
        refine And.intro (up_eq _) ?_
        refine And.intro (up_eq _) ?_
        refine And.intro (up_eq _) ?_
        refine And.intro (up_eq _) ?_
        refine And.intro (up_eq _) ?_
        refine And.intro (up_eq _) ?_
        refine And.intro (up_eq _) ?_
        refine And.intro (up_eq _) ?_
        refine And.intro (up_eq _) ?_
        refine And.intro (up_eq _) ?_
        refine And.intro (up_eq _) ?_
        refine And.intro (up_eq _) ?_
        refine And.intro (up_eq _) ?_
        refine And.intro (up_eq _) ?_
        refine And.intro (up_eq _) ?_
        refine And.intro (up_eq _) ?_
        refine And.intro (up_eq _) ?_
        refine And.intro (up_eq _) ?_
        refine And.intro (up_eq _) ?_
        refine And.intro (up_eq _) ?_
        refine And.intro (up_eq _) ?_
        refine And.intro (up_eq _) ?_
        refine And.intro (up_eq _) ?_
        refine And.intro (up_eq _) ?_
        refine And.intro (up_eq _) ?_
        refine And.intro (up_eq _) ?_
        refine And.intro (up_eq _) ?_
        refine And.intro (up_eq _) ?_
        refine And.intro (up_eq _) ?_
        refine And.intro (up_eq _) ?_
        refine And.intro (up_eq _) ?_
        refine And.intro (up_eq _) ?_
        refine And.intro (up_eq _) ?_
        refine And.intro (up_eq _) ?_
        refine And.intro (up_eq _) ?_
        refine And.intro (up_eq _) ?_
        trivial
      · refine And.intro ?_ (And.intro ?_ (And.intro ?_ (And.intro ?_ (And.intro ?_ (And.intro ?_ (And.intro ?_ (And.intro ?_ (And.intro ?_ (And.intro ?_ (And.intro ?_ (And.intro ?_ (And.intro ?_ (And.intro ?_ (And.intro ?_ (And.intro ?_ (And.intro ?_ (And.intro ?_ (And.intro ?_ (And.intro ?_ (And.intro ?_ (And.intro ?_ (And.intro ?_ (And.intro ?_ (And.intro ?_ (And.intro ?_ (And.intro ?_ (And.intro ?_ (And.intro ?_ (And.intro ?_ (And.intro ?_ (And.intro ?_ (And.intro ?_ (And.intro ?_ (And.intro ?_ (And.intro ?_ (And.intro ?_ (And.intro ?_ (And.intro ?_ (And.intro ?_ (True.intro))))))))))))))))))))))))))))))))))))))))
        · refine ostep_val (.agg #[.int .i64 NS, .slice ka NL.length kc]) (by kernel_rfl) (fun _ A1 W1 inv hall => ⟨wanted_none rfl, ?_, rfl⟩)
          have h21 : A1.eval (.tmp 21) = .pointer (some ⟨w12.heap.size, 0, none⟩) := (inv.base 21 (by kernel_rfl)).trans rfl
          simp only [execOp, h21, Sem.run_bind, loadFr (Xk.out.below inv.s), Result.andThen_ok, Sem.run_pure]
        · refine ostep_val (.agg #[.int .i64 NS, .slice ja NL.length jc]) (by kernel_rfl) (fun _ A1 W1 inv hall => ⟨wanted_none rfl, ?_, rfl⟩)
          have h22 : A1.eval (.tmp 22) = .pointer (some ⟨w13.heap.size, 0, none⟩) := (inv.base 22 (by kernel_rfl)).trans rfl
          simp only [execOp, h22, Sem.run_bind, loadFr (Xj.out.below inv.s), Result.andThen_ok, Sem.run_pure]
        · refine ostep_call 18 (by kernel_rfl) _ _ (by kernel_rfl) rfl (fun _ A1 W1 inv hall => ⟨wanted_none rfl, #[.agg #[.int .i64 NS, .slice ka NL.length kc], .agg #[.int .i64 NS, .slice ja NL.length jc]], ?_, ?_⟩)
          · have h112 : A1.eval (.tmp 112) = .agg #[.int .i64 NS, .slice ka NL.length kc] := inv.get hall 0 112 (by kernel_rfl) (by kernel_rfl)
            have h113 : A1.eval (.tmp 113) = .agg #[.int .i64 NS, .slice ja NL.length jc] := inv.get hall 1 113 (by kernel_rfl) (by kernel_rfl)
            simp [h112, h113]
          · refine (kfree NS NS _ _ NL NL _ (Qk.out.below inv.s).1 (Qj.out.below inv.s).1 HN1.out).mono ?_
            rw [sameF_self]
            rintro e u ⟨rfl, hb⟩
            exact ⟨_, rfl, rfl, hb⟩
        · refine ostep_val (.bool true) (by kernel_rfl) (fun _ A1 W1 inv hall => ⟨wanted_none rfl, ?_, rfl⟩)
          have h114 : A1.eval (.tmp 114) = .bool true := inv.get hall 2 114 (by kernel_rfl) (by kernel_rfl)
          simp only [execOp, h114, Sem.run_pure]
        · refine ostep_val (.int .i64 NE) (by kernel_rfl) (fun _ A1 W1 inv hall => ⟨wanted_some (g := 3) (d := 115) (b := true) rfl (by kernel_rfl) (inv.get hall 3 115 (by kernel_rfl) (by kernel_rfl)), ?_, rfl⟩)
          have h11 : A1.eval (.tmp 11) = .int .i64 NE := (inv.base 11 (by kernel_rfl)).trans rfl
          simp only [execOp, h11, Sem.run_pure]
        · refine ostep_val (.int .i64 NE) (by kernel_rfl) (fun _ A1 W1 inv hall => ⟨wanted_some (g := 3) (d := 115) (b := true) rfl (by kernel_rfl) (inv.get hall 3 115 (by kernel_rfl) (by kernel_rfl)), ?_, rfl⟩)
          have h14 : A1.eval (.tmp 14) = .int .i64 NE := (inv.base 14 (by kernel_rfl)).trans rfl
          simp only [execOp, h14, Sem.run_pure]
        · refine ostep_val (.bool true) (by kernel_rfl) (fun _ A1 W1 inv hall => ⟨wanted_some (g := 3) (d := 115) (b := true) rfl (by kernel_rfl) (inv.get hall 3 115 (by kernel_rfl) (by kernel_rfl)), ?_, rfl⟩)
          have h116 : A1.eval (.tmp 116) = .int .i64 NE := inv.get hall 4 116 (by kernel_rfl) (by kernel_rfl)
          have h117 : A1.eval (.tmp 117) = .int .i64 NE := inv.get hall 5 117 (by kernel_rfl) (by kernel_rfl)
          simp only [execOp, h116, h117]
          simp [eqGuard, go_sem]
        · refine ostep_val (.bool true) (by kernel_rfl) (fun _ A1 W1 inv hall => ⟨wanted_none rfl, ?_, rfl⟩)
          have h115 : A1.eval (.tmp 115) = .bool true := inv.get hall 3 115 (by kernel_rfl) (by kernel_rfl)
          have h118 : A1.eval (.tmp 118) = .bool true := inv.get hall 6 118 (by kernel_rfl) (by kernel_rfl)
          simp only [execOp, h115, h118]
          simp [asBool]
        · refine ostep_val (.bool true) (by kernel_rfl) (fun _ A1 W1 inv hall => ⟨wanted_none rfl, ?_, rfl⟩)
          have h119 : A1.eval (.tmp 119) = .bool true := inv.get hall 7 119 (by kernel_rfl) (by kernel_rfl)
          simp only [execOp, h119, Sem.run_pure]
        · refine ostep_val (.agg #[.int .i64 S, .slice va L.length vc]) (by kernel_rfl) (fun _ A1 W1 inv hall => ⟨wanted_some (g := 8) (d := 120) (b := true) rfl (by kernel_rfl) (inv.get hall 8 120 (by kernel_rfl) (by kernel_rfl)), ?_, rfl⟩)
          have h4 : A1.eval (.tmp 4) = .pointer (some ⟨w.heap.size, 0, none⟩) := (inv.base 4 (by kernel_rfl)).trans rfl
          simp only [execOp, h4, Sem.run_bind, loadFr (Xf.out.below inv.s), Result.andThen_ok, Sem.run_pure]
        · refine ostep_call 13 (by kernel_rfl) _ _ (by kernel_rfl) rfl (fun _ A1 W1 inv hall => ⟨wanted_some (g := 8) (d := 120) (b := true) rfl (by kernel_rfl) (inv.get hall 8 120 (by kernel_rfl) (by kernel_rfl)), #[.agg #[.int .i64 S, .slice va L.length vc]], ?_, ?_⟩)
          · have h121 : A1.eval (.tmp 121) = .agg #[.int .i64 S, .slice va L.length vc] := inv.get hall 9 121 (by kernel_rfl) (by kernel_rfl)
            simp [h121]
          · refine (CC.out _ (QL.out.below inv.s).1).mono ?_
            rintro e u ⟨rfl, hb⟩
            exact ⟨_, rfl, rfl, hb⟩
        · refine ostep_val (.agg #[.int .i64 S, .slice va L.length vc]) (by kernel_rfl) (fun _ A1 W1 inv hall => ⟨wanted_some (g := 8) (d := 120) (b := true) rfl (by kernel_rfl) (inv.get hall 8 120 (by kernel_rfl) (by kernel_rfl)), ?_, rfl⟩)
          have h4 : A1.eval (.tmp 4) = .pointer (some ⟨w.heap.size, 0, none⟩) := (inv.base 4 (by kernel_rfl)).trans rfl
          simp only [execOp, h4, Sem.run_bind, loadFr (Xf.out.below inv.s), Result.andThen_ok, Sem.run_pure]
        · refine ostep_call 19 (by kernel_rfl) _ _ (by kernel_rfl) rfl (fun _ A1 W1 inv hall => ⟨wanted_some (g := 8) (d := 120) (b := true) rfl (by kernel_rfl) (inv.get hall 8 120 (by kernel_rfl) (by kernel_rfl)), #[.agg #[.int .i64 S, .slice va L.length vc]], ?_, ?_⟩)
          · have h123 : A1.eval (.tmp 123) = .agg #[.int .i64 S, .slice va L.length vc] := inv.get hall 11 123 (by kernel_rfl) (by kernel_rfl)
            simp [h123]
          · refine (RC.out _ (QL.out.below inv.s).1).mono ?_
            rintro e u ⟨rfl, hb⟩
            exact ⟨_, rfl, rfl, hb⟩
        · refine ostep_val (.bool true) (by kernel_rfl) (fun _ A1 W1 inv hall => ⟨wanted_some (g := 8) (d := 120) (b := true) rfl (by kernel_rfl) (inv.get hall 8 120 (by kernel_rfl) (by kernel_rfl)), ?_, rfl⟩)
          have h122 : A1.eval (.tmp 122) = .int .i64 2 := inv.get hall 10 122 (by kernel_rfl) (by kernel_rfl)
          have h124 : A1.eval (.tmp 124) = .int .i64 2 := inv.get hall 12 124 (by kernel_rfl) (by kernel_rfl)
          simp only [execOp, h122, h124]
          simp [eqGuard, go_sem]
        · refine ostep_val (.bool true) (by kernel_rfl) (fun _ A1 W1 inv hall => ⟨wanted_none rfl, ?_, rfl⟩)
          have h120 : A1.eval (.tmp 120) = .bool true := inv.get hall 8 120 (by kernel_rfl) (by kernel_rfl)
          have h125 : A1.eval (.tmp 125) = .bool true := inv.get hall 13 125 (by kernel_rfl) (by kernel_rfl)
          simp only [execOp, h120, h125]
          simp [asBool]
        · refine ostep_val (.bool true) (by kernel_rfl) (fun _ A1 W1 inv hall => ⟨wanted_none rfl, ?_, rfl⟩)
          have h126 : A1.eval (.tmp 126) = .bool true := inv.get hall 14 126 (by kernel_rfl) (by kernel_rfl)
          simp only [execOp, h126, Sem.run_pure]
        · refine ostep_val (.agg #[.int .i64 S, .slice va L.length vc]) (by kernel_rfl) (fun _ A1 W1 inv hall => ⟨wanted_some (g := 15) (d := 127) (b := true) rfl (by kernel_rfl) (inv.get hall 15 127 (by kernel_rfl) (by kernel_rfl)), ?_, rfl⟩)
          have h4 : A1.eval (.tmp 4) = .pointer (some ⟨w.heap.size, 0, none⟩) := (inv.base 4 (by kernel_rfl)).trans rfl
          simp only [execOp, h4, Sem.run_bind, loadFr (Xf.out.below inv.s), Result.andThen_ok, Sem.run_pure]
        · refine ostep_call 11 (by kernel_rfl) _ _ (by kernel_rfl) rfl (fun _ A1 W1 inv hall => ⟨wanted_some (g := 15) (d := 127) (b := true) rfl (by kernel_rfl) (inv.get hall 15 127 (by kernel_rfl) (by kernel_rfl)), #[.agg #[.int .i64 S, .slice va L.length vc]], ?_, ?_⟩)
          · have h128 : A1.eval (.tmp 128) = .agg #[.int .i64 S, .slice va L.length vc] := inv.get hall 16 128 (by kernel_rfl) (by kernel_rfl)
            simp [h128]
          · refine (CN.out _ (QL.out.below inv.s).1).mono ?_
            rintro e u ⟨rfl, hb⟩
            exact ⟨_, rfl, rfl, hb⟩
        · refine ostep_val (.int .i64 0) (by kernel_rfl) (fun _ A1 W1 inv hall => ⟨wanted_some (g := 15) (d := 127) (b := true) rfl (by kernel_rfl) (inv.get hall 15 127 (by kernel_rfl) (by kernel_rfl)), ?_, rfl⟩)
          have h19 : A1.eval (.tmp 19) = .int .i64 0 := (inv.base 19 (by kernel_rfl)).trans rfl
          simp only [execOp, h19, Sem.run_pure]
        · refine ostep_val (.bool true) (by kernel_rfl) (fun _ A1 W1 inv hall => ⟨wanted_some (g := 15) (d := 127) (b := true) rfl (by kernel_rfl) (inv.get hall 15 127 (by kernel_rfl) (by kernel_rfl)), ?_, rfl⟩)
          have h129 : A1.eval (.tmp 129) = .int .i64 0 := inv.get hall 17 129 (by kernel_rfl) (by kernel_rfl)
          have h130 : A1.eval (.tmp 130) = .int .i64 0 := inv.get hall 18 130 (by kernel_rfl) (by kernel_rfl)
          simp only [execOp, h129, h130]
          simp [eqGuard, go_sem]
        · refine ostep_val (.bool true) (by kernel_rfl) (fun _ A1 W1 inv hall => ⟨wanted_none rfl, ?_, rfl⟩)
          have h127 : A1.eval (.tmp 127) = .bool true := inv.get hall 15 127 (by kernel_rfl) (by kernel_rfl)
          have h131 : A1.eval (.tmp 131) = .bool true := inv.get hall 19 131 (by kernel_rfl) (by kernel_rfl)
          simp only [execOp, h127, h131]
          simp [asBool]
        · refine ostep_val (.bool true) (by kernel_rfl) (fun _ A1 W1 inv hall => ⟨wanted_none rfl, ?_, rfl⟩)
          have h132 : A1.eval (.tmp 132) = .bool true := inv.get hall 20 132 (by kernel_rfl) (by kernel_rfl)
          simp only [execOp, h132, Sem.run_pure]
        · refine ostep_val (.agg #[.int .i64 S, .slice va L.length vc]) (by kernel_rfl) (fun _ A1 W1 inv hall => ⟨wanted_some (g := 21) (d := 133) (b := true) rfl (by kernel_rfl) (inv.get hall 21 133 (by kernel_rfl) (by kernel_rfl)), ?_, rfl⟩)
          have h4 : A1.eval (.tmp 4) = .pointer (some ⟨w.heap.size, 0, none⟩) := (inv.base 4 (by kernel_rfl)).trans rfl
          simp only [execOp, h4, Sem.run_bind, loadFr (Xf.out.below inv.s), Result.andThen_ok, Sem.run_pure]
        · refine ostep_val (.int .i64 n) (by kernel_rfl) (fun _ A1 W1 inv hall => ⟨wanted_some (g := 21) (d := 133) (b := true) rfl (by kernel_rfl) (inv.get hall 21 133 (by kernel_rfl) (by kernel_rfl)), ?_, rfl⟩)
          have h2 : A1.eval (.tmp 2) = .int .i64 n := (inv.base 2 (by kernel_rfl)).trans rfl
          simp only [execOp, h2, Sem.run_pure]
        · refine ostep_call 12 (by kernel_rfl) _ _ (by kernel_rfl) rfl (fun _ A1 W1 inv hall => ⟨wanted_some (g := 21) (d := 133) (b := true) rfl (by kernel_rfl) (inv.get hall 21 133 (by kernel_rfl) (by kernel_rfl)), #[.agg #[.int .i64 S, .slice va L.length vc], .int .i64 n], ?_, ?_⟩)
          · have h134 : A1.eval (.tmp 134) = .agg #[.int .i64 S, .slice va L.length vc] := inv.get hall 22 134 (by kernel_rfl) (by kernel_rfl)
            have h135 : A1.eval (.tmp 135) = .int .i64 n := inv.get hall 23 135 (by kernel_rfl) (by kernel_rfl)
            simp [h134, h135]
          · refine (CI.out _ (QL.out.below inv.s).1).mono ?_
            rintro e u ⟨rfl, hb⟩
            exact ⟨_, rfl, rfl, hb⟩
        · refine ostep_val (.agg #[.int .i64 S, .slice va L.length vc]) (by kernel_rfl) (fun _ A1 W1 inv hall => ⟨wanted_some (g := 21) (d := 133) (b := true) rfl (by kernel_rfl) (inv.get hall 21 133 (by kernel_rfl) (by kernel_rfl)), ?_, rfl⟩)
          have h4 : A1.eval (.tmp 4) = .pointer (some ⟨w.heap.size, 0, none⟩) := (inv.base 4 (by kernel_rfl)).trans rfl
          simp only [execOp, h4, Sem.run_bind, loadFr (Xf.out.below inv.s), Result.andThen_ok, Sem.run_pure]
        · refine ostep_val (.int .i64 n) (by kernel_rfl) (fun _ A1 W1 inv hall => ⟨wanted_some (g := 21) (d := 133) (b := true) rfl (by kernel_rfl) (inv.get hall 21 133 (by kernel_rfl) (by kernel_rfl)), ?_, rfl⟩)
          have h2 : A1.eval (.tmp 2) = .int .i64 n := (inv.base 2 (by kernel_rfl)).trans rfl
          simp only [execOp, h2, Sem.run_pure]
        · refine ostep_call 22 (by kernel_rfl) _ _ (by kernel_rfl) rfl (fun _ A1 W1 inv hall => ⟨wanted_some (g := 21) (d := 133) (b := true) rfl (by kernel_rfl) (inv.get hall 21 133 (by kernel_rfl) (by kernel_rfl)), #[.agg #[.int .i64 S, .slice va L.length vc], .int .i64 n], ?_, ?_⟩)
          · have h137 : A1.eval (.tmp 137) = .agg #[.int .i64 S, .slice va L.length vc] := inv.get hall 25 137 (by kernel_rfl) (by kernel_rfl)
            have h138 : A1.eval (.tmp 138) = .int .i64 n := inv.get hall 26 138 (by kernel_rfl) (by kernel_rfl)
            simp [h137, h138]
          · refine (RI.out _ (QL.out.below inv.s).1).mono ?_
            rintro e u ⟨rfl, hb⟩
            exact ⟨_, rfl, rfl, hb⟩
        · refine ostep_val (.bool true) (by kernel_rfl) (fun _ A1 W1 inv hall => ⟨wanted_some (g := 21) (d := 133) (b := true) rfl (by kernel_rfl) (inv.get hall 21 133 (by kernel_rfl) (by kernel_rfl)), ?_, rfl⟩)
          have h136 : A1.eval (.tmp 136) = .bool q := inv.get hall 24 136 (by kernel_rfl) (by kernel_rfl)
          have h139 : A1.eval (.tmp 139) = .bool q := inv.get hall 27 139 (by kernel_rfl) (by kernel_rfl)
          simp only [execOp, h136, h139]
          simp [eqGuard, go_sem]
        · refine ostep_val (.bool true) (by kernel_rfl) (fun _ A1 W1 inv hall => ⟨wanted_none rfl, ?_, rfl⟩)
          have h133 : A1.eval (.tmp 133) = .bool true := inv.get hall 21 133 (by kernel_rfl) (by kernel_rfl)
          have h140 : A1.eval (.tmp 140) = .bool true := inv.get hall 28 140 (by kernel_rfl) (by kernel_rfl)
          simp only [execOp, h133, h140]
          simp [asBool]
        · refine ostep_val (.bool true) (by kernel_rfl) (fun _ A1 W1 inv hall => ⟨wanted_none rfl, ?_, rfl⟩)
          have h141 : A1.eval (.tmp 141) = .bool true := inv.get hall 29 141 (by kernel_rfl) (by kernel_rfl)
          simp only [execOp, h141, Sem.run_pure]
        · refine ostep_val (.agg #[.int .i64 S, .slice va L.length vc]) (by kernel_rfl) (fun _ A1 W1 inv hall => ⟨wanted_some (g := 30) (d := 142) (b := true) rfl (by kernel_rfl) (inv.get hall 30 142 (by kernel_rfl) (by kernel_rfl)), ?_, rfl⟩)
          have h4 : A1.eval (.tmp 4) = .pointer (some ⟨w.heap.size, 0, none⟩) := (inv.base 4 (by kernel_rfl)).trans rfl
          simp only [execOp, h4, Sem.run_bind, loadFr (Xf.out.below inv.s), Result.andThen_ok, Sem.run_pure]
        · refine ostep_val (.agg #[.int .i64 T, .slice ya M.length yc]) (by kernel_rfl) (fun _ A1 W1 inv hall => ⟨wanted_some (g := 30) (d := 142) (b := true) rfl (by kernel_rfl) (inv.get hall 30 142 (by kernel_rfl) (by kernel_rfl)), ?_, rfl⟩)
          have h5 : A1.eval (.tmp 5) = .pointer (some ⟨w.heap.size + 1, 0, none⟩) := (inv.base 5 (by kernel_rfl)).trans rfl
          simp only [execOp, h5, Sem.run_bind, loadFr (Xo.out.below inv.s), Result.andThen_ok, Sem.run_pure]
        · refine ostep_call 14 (by kernel_rfl) _ _ (by kernel_rfl) rfl (fun _ A1 W1 inv hall => ⟨wanted_some (g := 30) (d := 142) (b := true) rfl (by kernel_rfl) (inv.get hall 30 142 (by kernel_rfl) (by kernel_rfl)), #[.agg #[.int .i64 S, .slice va L.length vc], .agg #[.int .i64 T, .slice ya M.length yc]], ?_, ?_⟩)
          · have h143 : A1.eval (.tmp 143) = .agg #[.int .i64 S, .slice va L.length vc] := inv.get hall 31 143 (by kernel_rfl) (by kernel_rfl)
            have h144 : A1.eval (.tmp 144) = .agg #[.int .i64 T, .slice ya M.length yc] := inv.get hall 32 144 (by kernel_rfl) (by kernel_rfl)
            simp [h143, h144]
          · refine (CS.out _ (QL.out.below inv.s).1 (QM.out.below inv.s).1).mono ?_
            rintro e u ⟨rfl, hb⟩
            exact ⟨_, rfl, rfl, hb⟩
        · refine ostep_val (.agg #[.int .i64 S, .slice va L.length vc]) (by kernel_rfl) (fun _ A1 W1 inv hall => ⟨wanted_some (g := 30) (d := 142) (b := true) rfl (by kernel_rfl) (inv.get hall 30 142 (by kernel_rfl) (by kernel_rfl)), ?_, rfl⟩)
          have h4 : A1.eval (.tmp 4) = .pointer (some ⟨w.heap.size, 0, none⟩) := (inv.base 4 (by kernel_rfl)).trans rfl
          simp only [execOp, h4, Sem.run_bind, loadFr (Xf.out.below inv.s), Result.andThen_ok, Sem.run_pure]
        · refine ostep_val (.agg #[.int .i64 T, .slice ya M.length yc]) (by kernel_rfl) (fun _ A1 W1 inv hall => ⟨wanted_some (g := 30) (d := 142) (b := true) rfl (by kernel_rfl) (inv.get hall 30 142 (by kernel_rfl) (by kernel_rfl)), ?_, rfl⟩)
          have h5 : A1.eval (.tmp 5) = .pointer (some ⟨w.heap.size + 1, 0, none⟩) := (inv.base 5 (by kernel_rfl)).trans rfl
          simp only [execOp, h5, Sem.run_bind, loadFr (Xo.out.below inv.s), Result.andThen_ok, Sem.run_pure]
        · refine ostep_call 18 (by kernel_rfl) _ _ (by kernel_rfl) rfl (fun _ A1 W1 inv hall => ⟨wanted_some (g := 30) (d := 142) (b := true) rfl (by kernel_rfl) (inv.get hall 30 142 (by kernel_rfl) (by kernel_rfl)), #[.agg #[.int .i64 S, .slice va L.length vc], .agg #[.int .i64 T, .slice ya M.length yc]], ?_, ?_⟩)
          · have h146 : A1.eval (.tmp 146) = .agg #[.int .i64 S, .slice va L.length vc] := inv.get hall 34 146 (by kernel_rfl) (by kernel_rfl)
            have h147 : A1.eval (.tmp 147) = .agg #[.int .i64 T, .slice ya M.length yc] := inv.get hall 35 147 (by kernel_rfl) (by kernel_rfl)
            simp [h146, h147]
          · refine (RS.out _ (QL.out.below inv.s).1 (QM.out.below inv.s).1).mono ?_
            rintro e u ⟨rfl, hb⟩
            exact ⟨_, rfl, rfl, hb⟩
        · refine ostep_val (.bool true) (by kernel_rfl) (fun _ A1 W1 inv hall => ⟨wanted_some (g := 30) (d := 142) (b := true) rfl (by kernel_rfl) (inv.get hall 30 142 (by kernel_rfl) (by kernel_rfl)), ?_, rfl⟩)
          have h145 : A1.eval (.tmp 145) = .bool z := inv.get hall 33 145 (by kernel_rfl) (by kernel_rfl)
          have h148 : A1.eval (.tmp 148) = .bool z := inv.get hall 36 148 (by kernel_rfl) (by kernel_rfl)
          simp only [execOp, h145, h148]
          simp [eqGuard, go_sem]
        · refine ostep_val (.bool true) (by kernel_rfl) (fun _ A1 W1 inv hall => ⟨wanted_none rfl, ?_, rfl⟩)
          have h142 : A1.eval (.tmp 142) = .bool true := inv.get hall 30 142 (by kernel_rfl) (by kernel_rfl)
          have h149 : A1.eval (.tmp 149) = .bool true := inv.get hall 37 149 (by kernel_rfl) (by kernel_rfl)
          simp only [execOp, h142, h149]
          simp [asBool]
        · refine ostep_val (.bool true) (by kernel_rfl) (fun _ A1 W1 inv hall => ⟨wanted_none rfl, ?_, rfl⟩)
          have h150 : A1.eval (.tmp 150) = .bool true := inv.get hall 38 150 (by kernel_rfl) (by kernel_rfl)
          simp only [execOp, h150, Sem.run_pure]
      · intro listed A1 W1 inv hall
        have hlast : A1.eval (.tmp 8) = .bool true := inv.fin 39 8 (by kernel_rfl) (hall 39 (Nat.lt_of_lt_of_eq (by decide : 39 < 40) (by kernel_rfl)))
        refine (by assumption : ∀ (a : Act) (w : World), Code.wp Try.prog Code.ret _ a w → _) A1 W1 ?_
        go_wp2_with fail
        simp only [Act.eval, Array.getD_eq_getD_getElem?] at hlast
        exact bodyPost_ret (v := .bool true) (by simp [results, Try.results4, go_sem, hlast]) inv.dfr ⟨rfl, below_then B.out inv.s⟩
    · rw [hc, if_pos rfl] at he
      subst he
      have e1 : chkLE S L = 0 := by
        unfold chkLE
        rw [hc]
        rfl
      have e2 : cntL S L = L.length := by
        unfold cntL
        rw [hc]
        rfl
      rw [e1] at CC RC
      rw [e2] at CN
      clear e1 e2 hc Qa Qb Qx Qy Qu Qp QG Xx Xy Xu Xp
      obtain ⟨lf, cf0, cf1, ff0, ff1⟩ := blk2 Xf.out
      go_wp2_with fail
      refine (HPk.out _).mono ?_
      rintro e w11 ⟨rfl, hs⟩
      have hb : Below w10.heap.size w10 w11 := by
        rw [hs]
        exact Below.refl _ _
      clear hs
      clear lf cf0 cf1 ff0 ff1
      replace QL := hid_mk (QL.out.below hb)
      replace QM := hid_mk (QM.out.below hb)
      replace Xf := hid_mk (Xf.out.below hb)
      replace Xo := hid_mk (Xo.out.below hb)
      replace B := hid_mk (below_then B.out hb)
      clear hb
      go_wp2_with fail
      refine (CW.out _).mono ?_
      rintro e w12 ⟨v1, rfl, hq, _, hb⟩
      replace QL := hid_mk (QL.out.below hb)
      replace QM := hid_mk (QM.out.below hb)
      replace Xf := hid_mk (Xf.out.below hb)
      replace Xo := hid_mk (Xo.out.below hb)
      replace B := hid_mk (below_then B.out hb)
      clear hb
      obtain ⟨ka, kc, rfl⟩ := hq.len
      have Qk := hid_mk (hq.mono (Nat.zero_le w.heap.size))
      clear hq
      have hx := blk_new w12 [.int .i64 NS, .slice ka NL.length kc] 24
      have hbx := below_box w12 (.cells #[.int .i64 NS, .slice ka NL.length kc] 24)
      have Nfk := hid_mk (Nat.ne_of_lt Xf.out.lt)
      have Nok := hid_mk (Nat.ne_of_lt Xo.out.lt)
      have Gk : Hid (w.heap.size ≤ w12.heap.size) := hid_mk B.out.size
      replace QL := hid_mk (QL.out.below hbx)
      replace QM := hid_mk (QM.out.below hbx)
      replace Qk := hid_mk (Qk.out.below hbx)
      replace Xf := hid_mk (Xf.out.below hbx)
      replace Xo := hid_mk (Xo.out.below hbx)
      replace B := hid_mk (below_then B.out hbx)
      have Xk := hid_mk hx
      clear hx hbx
      go_wp2_with fail
      refine (RW.out _).mono ?_
      rintro e w13 ⟨v1, rfl, hq, hb⟩
      replace QL := hid_mk (QL.out.below hb)
      replace QM := hid_mk (QM.out.below hb)
      replace Qk := hid_mk (Qk.out.below hb)
      replace Xf := hid_mk (Xf.out.below hb)
      replace Xo := hid_mk (Xo.out.below hb)
      replace Xk := hid_mk (Xk.out.below hb)
      replace B := hid_mk (below_then B.out hb)
      clear hb
      obtain ⟨ja, jc, rfl⟩ := hq.len
      have Qj := hid_mk (IntsK.of hq)
      clear hq
      have hx := blk_new w13 [.int .i64 NS, .slice ja NL.length jc] 24
      have hbx := below_box w13 (.cells #[.int .i64 NS, .slice ja NL.length jc] 24)
      have Nfj := hid_mk (Nat.ne_of_lt Xf.out.lt)
      have Noj := hid_mk (Nat.ne_of_lt Xo.out.lt)
      have Nkj := hid_mk (Nat.ne_of_lt Xk.out.lt)
      have Gj : Hid (w.heap.size ≤ w13.heap.size) := hid_mk B.out.size
      replace QL := hid_mk (QL.out.below hbx)
      replace QM := hid_mk (QM.out.below hbx)
      replace Qk := hid_mk (Qk.out.below hbx)
      replace Qj := hid_mk (Qj.out.below hbx)
      replace Xf := hid_mk (Xf.out.below hbx)
      replace Xo := hid_mk (Xo.out.below hbx)
      replace Xk := hid_mk (Xk.out.below hbx)
      replace B := hid_mk (below_then B.out hbx)
      have Xj := hid_mk hx
      clear hx hbx
      go_wp2_with fail
      refine wp_region_outl
        [(fun v _ => v = .agg #[.int .i64 NS, .slice ka NL.length kc]),
        (fun v _ => v = .agg #[.int .i64 NS, .slice ja NL.length jc]),
        (fun v _ => v = .bool true),
        (fun v _ => v = .bool true),
        (fun v _ => v = .int .i64 NE),
        (fun v _ => v = .int .i64 NE),
        (fun v _ => v = .bool true),
        (fun v _ => v = .bool true),
        (fun v _ => v = .bool true),
        (fun v _ => v = .agg #[.int .i64 S, .slice va L.length vc]),
        (fun v _ => v = .int .i64 0),
        (fun v _ => v = .agg #[.int .i64 S, .slice va L.length vc]),
        (fun v _ => v = .int .i64 0),
        (fun v _ => v = .bool true),
        (fun v _ => v = .bool true),
        (fun v _ => v = .bool true),
        (fun v _ => v = .agg #[.int .i64 S, .slice va L.length vc]),
        (fun v _ => v = .int .i64 L.length),
        (fun v _ => v = .int .i64 L.length),
        (fun v _ => v = .bool true),
        (fun v _ => v = .bool true),
        (fun v _ => v = .bool true),
        (fun v _ => v = .agg #[.int .i64 S, .slice va L.length vc]),
        (fun v _ => v = .int .i64 n),
        (fun v _ => v = .bool q),
        (fun v _ => v = .agg #[.int .i64 S, .slice va L.length vc]),
        (fun v _ => v = .int .i64 n),
        (fun v _ => v = .bool q),
        (fun v _ => v = .bool true),
        (fun v _ => v = .bool true),
        (fun v _ => v = .bool true),
        (fun v _ => v = .agg #[.int .i64 S, .slice va L.length vc]),
        (fun v _ => v = .agg #[.int .i64 T, .slice ya M.length yc]),
        (fun v _ => v = .bool z),
        (fun v _ => v = .agg #[.int .i64 S, .slice va L.length vc]),
        (fun v _ => v = .agg #[.int .i64 T, .slice ya M.length yc]),
        (fun v _ => v = .bool z),
        (fun v _ => v = .bool true),
        (fun v _ => v = .bool true),
        (fun v _ => v = .bool true)]
        (fun u => Below (w13.alloc (.cells #[.int .i64 NS, .slice ja NL.length jc] 24)).heap.size (w13.alloc (.cells #[.int .i64 NS, .slice ja NL.length jc] 24)) u) (by kernel_rfl) (by kernel_rfl) ?_ (fun u u' hb h => h.trans (hb.mono h.size)) ((Below.refl _ _).drew) ?_ ?_
      · refine And.intro (up_eq _) ?_
        refine And.intro (up_eq _) ?_
        refine And.intro (up_eq _) ?_
        refine And.intro (up_eq _) ?_
        refine And.intro (up_eq _) ?_
        refine And.intro (up_eq _) ?_
        refine And.intro (up_eq _) ?_
        refine And.intro (up_eq _) ?_
        refine And.intro (up_eq _) ?_
        refine And.intro (up_eq _) ?_
        refine And.intro (up_eq _) ?_
        refine And.intro (up_eq _) ?_
        refine And.intro (up_eq _) ?_
        refine And.intro (up_eq _) ?_
        refine And.intro (up_eq _) ?_
        refine And.intro (up_eq _) ?_
        refine And.intro (up_eq _) ?_
        refine And.intro (up_eq _) ?_
        refine And.intro (up_eq _) ?_
        refine And.intro (up_eq _) ?_
        refine And.intro (up_eq _) ?_
        refine And.intro (up_eq _) ?_
        refine And.intro (up_eq _) ?_
        refine And.intro (up_eq _) ?_
        refine And.intro (up_eq _) ?_
        refine And.intro (up_eq _) ?_
        refine And.intro (up_eq _) ?_
        refine And.intro (up_eq _) ?_
        refine And.intro (up_eq _) ?_
        refine And.intro (up_eq _) ?_
        refine And.intro (up_eq _) ?_
        refine And.intro (up_eq _) ?_
        refine And.intro (up_eq _) ?_
        refine And.intro (up_eq _) ?_
        refine And.intro (up_eq _) ?_
        refine And.intro (up_eq _) ?_
        refine And.intro (up_eq _) ?_
        refine And.intro (up_eq _) ?_
        refine And.intro (up_eq _) ?_
        refine And.intro (up_eq _) ?_
        trivial
      · refine And.intro ?_ (And.intro ?_ (And.intro ?_ (And.intro ?_ (And.intro ?_ (And.intro ?_ (And.intro ?_ (And.intro ?_ (And.intro ?_ (And.intro ?_ (And.intro ?_ (And.intro ?_ (And.intro ?_ (And.intro ?_ (And.intro ?_ (And.intro ?_ (And.intro ?_ (And.intro ?_ (And.intro ?_ (And.intro ?_ (And.intro ?_ (And.intro ?_ (And.intro ?_ (And.intro ?_ (And.intro ?_ (And.intro ?_ (And.intro ?_ (And.intro ?_ (And.intro ?_ (And.intro ?_ (And.intro ?_ (And.intro ?_ (And.intro ?_ (And.intro ?_ (And.intro ?_ (And.intro ?_ (And.intro ?_ (And.intro ?_ (And.intro ?_ (And.intro ?_ (True.intro))))))))))))))))))))))))))))))))))))))))
        · refine ostep_val (.agg #[.int .i64 NS, .slice ka NL.length kc]) (by kernel_rfl) (fun _ A1 W1 inv hall => ⟨wanted_none rfl, ?_, rfl⟩)
          have h21 : A1.eval (.tmp 21) = .pointer (some ⟨w12.heap.size, 0, none⟩) := (inv.base 21 (by kernel_rfl)).trans rfl
          simp only [execOp, h21, Sem.run_bind, loadFr (Xk.out.below inv.s), Result.andThen_ok, Sem.run_pure]
        · refine ostep_val (.agg #[.int .i64 NS, .slice ja NL.length jc]) (by kernel_rfl) (fun _ A1 W1 inv hall => ⟨wanted_none rfl, ?_, rfl⟩)
          have h22 : A1.eval (.tmp 22) = .pointer (some ⟨w13.heap.size, 0, none⟩) := (inv.base 22 (by kernel_rfl)).trans rfl
          simp only [execOp, h22, Sem.run_bind, loadFr (Xj.out.below inv.s), Result.andThen_ok, Sem.run_pure]
        · refine ostep_call 18 (by kernel_rfl) _ _ (by kernel_rfl) rfl (fun _ A1 W1 inv hall => ⟨wanted_none rfl, #[.agg #[.int .i64 NS, .slice ka NL.length kc], .agg #[.int .i64 NS, .slice ja NL.length jc]], ?_, ?_⟩)
          · have h112 : A1.eval (.tmp 112) = .agg #[.int .i64 NS, .slice ka NL.length kc] := inv.get hall 0 112 (by kernel_rfl) (by kernel_rfl)
            have h113 : A1.eval (.tmp 113) = .agg #[.int .i64 NS, .slice ja NL.length jc] := inv.get hall 1 113 (by kernel_rfl) (by kernel_rfl)
            simp [h112, h113]
          · refine (kfree NS NS _ _ NL NL _ (Qk.out.below inv.s).1 (Qj.out.below inv.s).1 HN1.out).mono ?_
            rw [sameF_self]
            rintro e u ⟨rfl, hb⟩
            exact ⟨_, rfl, rfl, hb⟩
        · refine ostep_val (.bool true) (by kernel_rfl) (fun _ A1 W1 inv hall => ⟨wanted_none rfl, ?_, rfl⟩)
          have h114 : A1.eval (.tmp 114) = .bool true := inv.get hall 2 114 (by kernel_rfl) (by kernel_rfl)
          simp only [execOp, h114, Sem.run_pure]
        · refine ostep_val (.int .i64 NE) (by kernel_rfl) (fun _ A1 W1 inv hall => ⟨wanted_some (g := 3) (d := 115) (b := true) rfl (by kernel_rfl) (inv.get hall 3 115 (by kernel_rfl) (by kernel_rfl)), ?_, rfl⟩)
          have h11 : A1.eval (.tmp 11) = .int .i64 NE := (inv.base 11 (by kernel_rfl)).trans rfl
          simp only [execOp, h11, Sem.run_pure]
        · refine ostep_val (.int .i64 NE) (by kernel_rfl) (fun _ A1 W1 inv hall => ⟨wanted_some (g := 3) (d := 115) (b := true) rfl (by kernel_rfl) (inv.get hall 3 115 (by kernel_rfl) (by kernel_rfl)), ?_, rfl⟩)
          have h14 : A1.eval (.tmp 14) = .int .i64 NE := (inv.base 14 (by kernel_rfl)).trans rfl
          simp only [execOp, h14, Sem.run_pure]
        · refine ostep_val (.bool true) (by kernel_rfl) (fun _ A1 W1 inv hall => ⟨wanted_some (g := 3) (d := 115) (b := true) rfl (by kernel_rfl) (inv.get hall 3 115 (by kernel_rfl) (by kernel_rfl)), ?_, rfl⟩)
          have h116 : A1.eval (.tmp 116) = .int .i64 NE := inv.get hall 4 116 (by kernel_rfl) (by kernel_rfl)
          have h117 : A1.eval (.tmp 117) = .int .i64 NE := inv.get hall 5 117 (by kernel_rfl) (by kernel_rfl)
          simp only [execOp, h116, h117]
          simp [eqGuard, go_sem]
        · refine ostep_val (.bool true) (by kernel_rfl) (fun _ A1 W1 inv hall => ⟨wanted_none rfl, ?_, rfl⟩)
          have h115 : A1.eval (.tmp 115) = .bool true := inv.get hall 3 115 (by kernel_rfl) (by kernel_rfl)
          have h118 : A1.eval (.tmp 118) = .bool true := inv.get hall 6 118 (by kernel_rfl) (by kernel_rfl)
          simp only [execOp, h115, h118]
          simp [asBool]
        · refine ostep_val (.bool true) (by kernel_rfl) (fun _ A1 W1 inv hall => ⟨wanted_none rfl, ?_, rfl⟩)
          have h119 : A1.eval (.tmp 119) = .bool true := inv.get hall 7 119 (by kernel_rfl) (by kernel_rfl)
          simp only [execOp, h119, Sem.run_pure]
        · refine ostep_val (.agg #[.int .i64 S, .slice va L.length vc]) (by kernel_rfl) (fun _ A1 W1 inv hall => ⟨wanted_some (g := 8) (d := 120) (b := true) rfl (by kernel_rfl) (inv.get hall 8 120 (by kernel_rfl) (by kernel_rfl)), ?_, rfl⟩)
          have h4 : A1.eval (.tmp 4) = .pointer (some ⟨w.heap.size, 0, none⟩) := (inv.base 4 (by kernel_rfl)).trans rfl
          simp only [execOp, h4, Sem.run_bind, loadFr (Xf.out.below inv.s), Result.andThen_ok, Sem.run_pure]
        · refine ostep_call 13 (by kernel_rfl) _ _ (by kernel_rfl) rfl (fun _ A1 W1 inv hall => ⟨wanted_some (g := 8) (d := 120) (b := true) rfl (by kernel_rfl) (inv.get hall 8 120 (by kernel_rfl) (by kernel_rfl)), #[.agg #[.int .i64 S, .slice va L.length vc]], ?_, ?_⟩)
          · have h121 : A1.eval (.tmp 121) = .agg #[.int .i64 S, .slice va L.length vc] := inv.get hall 9 121 (by kernel_rfl) (by kernel_rfl)
            simp [h121]
          · refine (CC.out _ (QL.out.below inv.s).1).mono ?_
            rintro e u ⟨rfl, hb⟩
            exact ⟨_, rfl, rfl, hb⟩
        · refine ostep_val (.agg #[.int .i64 S, .slice va L.length vc]) (by kernel_rfl) (fun _ A1 W1 inv hall => ⟨wanted_some (g := 8) (d := 120) (b := true) rfl (by kernel_rfl) (inv.get hall 8 120 (by kernel_rfl) (by kernel_rfl)), ?_, rfl⟩)
          have h4 : A1.eval (.tmp 4) = .pointer (some ⟨w.heap.size, 0, none⟩) := (inv.base 4 (by kernel_rfl)).trans rfl
          simp only [execOp, h4, Sem.run_bind, loadFr (Xf.out.below inv.s), Result.andThen_ok, Sem.run_pure]
        · refine ostep_call 19 (by kernel_rfl) _ _ (by kernel_rfl) rfl (fun _ A1 W1 inv hall => ⟨wanted_some (g := 8) (d := 120) (b := true) rfl (by kernel_rfl) (inv.get hall 8 120 (by kernel_rfl) (by kernel_rfl)), #[.agg #[.int .i64 S, .slice va L.length vc]], ?_, ?_⟩)
          · have h123 : A1.eval (.tmp 123) = .agg #[.int .i64 S, .slice va L.length vc] := inv.get hall 11 123 (by kernel_rfl) (by kernel_rfl)
            simp [h123]
          · refine (RC.out _ (QL.out.below inv.s).1).mono ?_
            rintro e u ⟨rfl, hb⟩
            exact ⟨_, rfl, rfl, hb⟩
        · refine ostep_val (.bool true) (by kernel_rfl) (fun _ A1 W1 inv hall => ⟨wanted_some (g := 8) (d := 120) (b := true) rfl (by kernel_rfl) (inv.get hall 8 120 (by kernel_rfl) (by kernel_rfl)), ?_, rfl⟩)
          have h122 : A1.eval (.tmp 122) = .int .i64 0 := inv.get hall 10 122 (by kernel_rfl) (by kernel_rfl)
          have h124 : A1.eval (.tmp 124) = .int .i64 0 := inv.get hall 12 124 (by kernel_rfl) (by kernel_rfl)
          simp only [execOp, h122, h124]
          simp [eqGuard, go_sem]
        · refine ostep_val (.bool true) (by kernel_rfl) (fun _ A1 W1 inv hall => ⟨wanted_none rfl, ?_, rfl⟩)
          have h120 : A1.eval (.tmp 120) = .bool true := inv.get hall 8 120 (by kernel_rfl) (by kernel_rfl)
          have h125 : A1.eval (.tmp 125) = .bool true := inv.get hall 13 125 (by kernel_rfl) (by kernel_rfl)
          simp only [execOp, h120, h125]
          simp [asBool]
        · refine ostep_val (.bool true) (by kernel_rfl) (fun _ A1 W1 inv hall => ⟨wanted_none rfl, ?_, rfl⟩)
          have h126 : A1.eval (.tmp 126) = .bool true := inv.get hall 14 126 (by kernel_rfl) (by kernel_rfl)
          simp only [execOp, h126, Sem.run_pure]
        · refine ostep_val (.agg #[.int .i64 S, .slice va L.length vc]) (by kernel_rfl) (fun _ A1 W1 inv hall => ⟨wanted_some (g := 15) (d := 127) (b := true) rfl (by kernel_rfl) (inv.get hall 15 127 (by kernel_rfl) (by kernel_rfl)), ?_, rfl⟩)
          have h4 : A1.eval (.tmp 4) = .pointer (some ⟨w.heap.size, 0, none⟩) := (inv.base 4 (by kernel_rfl)).trans rfl
          simp only [execOp, h4, Sem.run_bind, loadFr (Xf.out.below inv.s), Result.andThen_ok, Sem.run_pure]
        · refine ostep_call 11 (by kernel_rfl) _ _ (by kernel_rfl) rfl (fun _ A1 W1 inv hall => ⟨wanted_some (g := 15) (d := 127) (b := true) rfl (by kernel_rfl) (inv.get hall 15 127 (by kernel_rfl) (by kernel_rfl)), #[.agg #[.int .i64 S, .slice va L.length vc]], ?_, ?_⟩)
          · have h128 : A1.eval (.tmp 128) = .agg #[.int .i64 S, .slice va L.length vc] := inv.get hall 16 128 (by kernel_rfl) (by kernel_rfl)
            simp [h128]
          · refine (CN.out _ (QL.out.below inv.s).1).mono ?_
            rintro e u ⟨rfl, hb⟩
            exact ⟨_, rfl, rfl, hb⟩
        · refine ostep_val (.int .i64 L.length) (by kernel_rfl) (fun _ A1 W1 inv hall => ⟨wanted_some (g := 15) (d := 127) (b := true) rfl (by kernel_rfl) (inv.get hall 15 127 (by kernel_rfl) (by kernel_rfl)), ?_, rfl⟩)
          have h19 : A1.eval (.tmp 19) = .int .i64 L.length := (inv.base 19 (by kernel_rfl)).trans rfl
          simp only [execOp, h19, Sem.run_pure]
        · refine ostep_val (.bool true) (by kernel_rfl) (fun _ A1 W1 inv hall => ⟨wanted_some (g := 15) (d := 127) (b := true) rfl (by kernel_rfl) (inv.get hall 15 127 (by kernel_rfl) (by kernel_rfl)), ?_, rfl⟩)
          have h129 : A1.eval (.tmp 129) = .int .i64 L.length := inv.get hall 17 129 (by kernel_rfl) (by kernel_rfl)
          have h130 : A1.eval (.tmp 130) = .int .i64 L.length := inv.get hall 18 130 (by kernel_rfl) (by kernel_rfl)
          simp only [execOp, h129, h130]
          simp [eqGuard, go_sem]
        · refine ostep_val (.bool true) (by kernel_rfl) (fun _ A1 W1 inv hall => ⟨wanted_none rfl, ?_, rfl⟩)
          have h127 : A1.eval (.tmp 127) = .bool true := inv.get hall 15 127 (by kernel_rfl) (by kernel_rfl)
          have h131 : A1.eval (.tmp 131) = .bool true := inv.get hall 19 131 (by kernel_rfl) (by kernel_rfl)
          simp only [execOp, h127, h131]
          simp [asBool]
        · refine ostep_val (.bool true) (by kernel_rfl) (fun _ A1 W1 inv hall => ⟨wanted_none rfl, ?_, rfl⟩)
          have h132 : A1.eval (.tmp 132) = .bool true := inv.get hall 20 132 (by kernel_rfl) (by kernel_rfl)
          simp only [execOp, h132, Sem.run_pure]
        · refine ostep_val (.agg #[.int .i64 S, .slice va L.length vc]) (by kernel_rfl) (fun _ A1 W1 inv hall => ⟨wanted_some (g := 21) (d := 133) (b := true) rfl (by kernel_rfl) (inv.get hall 21 133 (by kernel_rfl) (by kernel_rfl)), ?_, rfl⟩)
          have h4 : A1.eval (.tmp 4) = .pointer (some ⟨w.heap.size, 0, none⟩) := (inv.base 4 (by kernel_rfl)).trans rfl
          simp only [execOp, h4, Sem.run_bind, loadFr (Xf.out.below inv.s), Result.andThen_ok, Sem.run_pure]
        · refine ostep_val (.int .i64 n) (by kernel_rfl) (fun _ A1 W1 inv hall => ⟨wanted_some (g := 21) (d := 133) (b := true) rfl (by kernel_rfl) (inv.get hall 21 133 (by kernel_rfl) (by kernel_rfl)), ?_, rfl⟩)
          have h2 : A1.eval (.tmp 2) = .int .i64 n := (inv.base 2 (by kernel_rfl)).trans rfl
          simp only [execOp, h2, Sem.run_pure]
        · refine ostep_call 12 (by kernel_rfl) _ _ (by kernel_rfl) rfl (fun _ A1 W1 inv hall => ⟨wanted_some (g := 21) (d := 133) (b := true) rfl (by kernel_rfl) (inv.get hall 21 133 (by kernel_rfl) (by kernel_rfl)), #[.agg #[.int .i64 S, .slice va L.length vc], .int .i64 n], ?_, ?_⟩)
          · have h134 : A1.eval (.tmp 134) = .agg #[.int .i64 S, .slice va L.length vc] := inv.get hall 22 134 (by kernel_rfl) (by kernel_rfl)
            have h135 : A1.eval (.tmp 135) = .int .i64 n := inv.get hall 23 135 (by kernel_rfl) (by kernel_rfl)
            simp [h134, h135]
          · refine (CI.out _ (QL.out.below inv.s).1).mono ?_
            rintro e u ⟨rfl, hb⟩
            exact ⟨_, rfl, rfl, hb⟩
        · refine ostep_val (.agg #[.int .i64 S, .slice va L.length vc]) (by kernel_rfl) (fun _ A1 W1 inv hall => ⟨wanted_some (g := 21) (d := 133) (b := true) rfl (by kernel_rfl) (inv.get hall 21 133 (by kernel_rfl) (by kernel_rfl)), ?_, rfl⟩)
          have h4 : A1.eval (.tmp 4) = .pointer (some ⟨w.heap.size, 0, none⟩) := (inv.base 4 (by kernel_rfl)).trans rfl
          simp only [execOp, h4, Sem.run_bind, loadFr (Xf.out.below inv.s), Result.andThen_ok, Sem.run_pure]
        · refine ostep_val (.int .i64 n) (by kernel_rfl) (fun _ A1 W1 inv hall => ⟨wanted_some (g := 21) (d := 133) (b := true) rfl (by kernel_rfl) (inv.get hall 21 133 (by kernel_rfl) (by kernel_rfl)), ?_, rfl⟩)
          have h2 : A1.eval (.tmp 2) = .int .i64 n := (inv.base 2 (by kernel_rfl)).trans rfl
          simp only [execOp, h2, Sem.run_pure]
        · refine ostep_call 22 (by kernel_rfl) _ _ (by kernel_rfl) rfl (fun _ A1 W1 inv hall => ⟨wanted_some (g := 21) (d := 133) (b := true) rfl (by kernel_rfl) (inv.get hall 21 133 (by kernel_rfl) (by kernel_rfl)), #[.agg #[.int .i64 S, .slice va L.length vc], .int .i64 n], ?_, ?_⟩)
          · have h137 : A1.eval (.tmp 137) = .agg #[.int .i64 S, .slice va L.length vc] := inv.get hall 25 137 (by kernel_rfl) (by kernel_rfl)
            have h138 : A1.eval (.tmp 138) = .int .i64 n := inv.get hall 26 138 (by kernel_rfl) (by kernel_rfl)
            simp [h137, h138]
          · refine (RI.out _ (QL.out.below inv.s).1).mono ?_
            rintro e u ⟨rfl, hb⟩
            exact ⟨_, rfl, rfl, hb⟩
        · refine ostep_val (.bool true) (by kernel_rfl) (fun _ A1 W1 inv hall => ⟨wanted_some (g := 21) (d := 133) (b := true) rfl (by kernel_rfl) (inv.get hall 21 133 (by kernel_rfl) (by kernel_rfl)), ?_, rfl⟩)
          have h136 : A1.eval (.tmp 136) = .bool q := inv.get hall 24 136 (by kernel_rfl) (by kernel_rfl)
          have h139 : A1.eval (.tmp 139) = .bool q := inv.get hall 27 139 (by kernel_rfl) (by kernel_rfl)
          simp only [execOp, h136, h139]
          simp [eqGuard, go_sem]
        · refine ostep_val (.bool true) (by kernel_rfl) (fun _ A1 W1 inv hall => ⟨wanted_none rfl, ?_, rfl⟩)
          have h133 : A1.eval (.tmp 133) = .bool true := inv.get hall 21 133 (by kernel_rfl) (by kernel_rfl)
          have h140 : A1.eval (.tmp 140) = .bool true := inv.get hall 28 140 (by kernel_rfl) (by kernel_rfl)
          simp only [execOp, h133, h140]
          simp [asBool]
        · refine ostep_val (.bool true) (by kernel_rfl) (fun _ A1 W1 inv hall => ⟨wanted_none rfl, ?_, rfl⟩)
          have h141 : A1.eval (.tmp 141) = .bool true := inv.get hall 29 141 (by kernel_rfl) (by kernel_rfl)
          simp only [execOp, h141, Sem.run_pure]
        · refine ostep_val (.agg #[.int .i64 S, .slice va L.length vc]) (by kernel_rfl) (fun _ A1 W1 inv hall => ⟨wanted_some (g := 30) (d := 142) (b := true) rfl (by kernel_rfl) (inv.get hall 30 142 (by kernel_rfl) (by kernel_rfl)), ?_, rfl⟩)
          have h4 : A1.eval (.tmp 4) = .pointer (some ⟨w.heap.size, 0, none⟩) := (inv.base 4 (by kernel_rfl)).trans rfl
          simp only [execOp, h4, Sem.run_bind, loadFr (Xf.out.below inv.s), Result.andThen_ok, Sem.run_pure]
        · refine ostep_val (.agg #[.int .i64 T, .slice ya M.length yc]) (by kernel_rfl) (fun _ A1 W1 inv hall => ⟨wanted_some (g := 30) (d := 142) (b := true) rfl (by kernel_rfl) (inv.get hall 30 142 (by kernel_rfl) (by kernel_rfl)), ?_, rfl⟩)
          have h5 : A1.eval (.tmp 5) = .pointer (some ⟨w.heap.size + 1, 0, none⟩) := (inv.base 5 (by kernel_rfl)).trans rfl
          simp only [execOp, h5, Sem.run_bind, loadFr (Xo.out.below inv.s), Result.andThen_ok, Sem.run_pure]
        · refine ostep_call 14 (by kernel_rfl) _ _ (by kernel_rfl) rfl (fun _ A1 W1 inv hall => ⟨wanted_some (g := 30) (d := 142) (b := true) rfl (by kernel_rfl) (inv.get hall 30 142 (by kernel_rfl) (by kernel_rfl)), #[.agg #[.int .i64 S, .slice va L.length vc], .agg #[.int .i64 T, .slice ya M.length yc]], ?_, ?_⟩)
          · have h143 : A1.eval (.tmp 143) = .agg #[.int .i64 S, .slice va L.length vc] := inv.get hall 31 143 (by kernel_rfl) (by kernel_rfl)
            have h144 : A1.eval (.tmp 144) = .agg #[.int .i64 T, .slice ya M.length yc] := inv.get hall 32 144 (by kernel_rfl) (by kernel_rfl)
            simp [h143, h144]
          · refine (CS.out _ (QL.out.below inv.s).1 (QM.out.below inv.s).1).mono ?_
            rintro e u ⟨rfl, hb⟩
            exact ⟨_, rfl, rfl, hb⟩
        · refine ostep_val (.agg #[.int .i64 S, .slice va L.length vc]) (by kernel_rfl) (fun _ A1 W1 inv hall => ⟨wanted_some (g := 30) (d := 142) (b := true) rfl (by kernel_rfl) (inv.get hall 30 142 (by kernel_rfl) (by kernel_rfl)), ?_, rfl⟩)
          have h4 : A1.eval (.tmp 4) = .pointer (some ⟨w.heap.size, 0, none⟩) := (inv.base 4 (by kernel_rfl)).trans rfl
          simp only [execOp, h4, Sem.run_bind, loadFr (Xf.out.below inv.s), Result.andThen_ok, Sem.run_pure]
        · refine ostep_val (.agg #[.int .i64 T, .slice ya M.length yc]) (by kernel_rfl) (fun _ A1 W1 inv hall => ⟨wanted_some (g := 30) (d := 142) (b := true) rfl (by kernel_rfl) (inv.get hall 30 142 (by kernel_rfl) (by kernel_rfl)), ?_, rfl⟩)
          have h5 : A1.eval (.tmp 5) = .pointer (some ⟨w.heap.size + 1, 0, none⟩) := (inv.base 5 (by kernel_rfl)).trans rfl
          simp only [execOp, h5, Sem.run_bind, loadFr (Xo.out.below inv.s), Result.andThen_ok, Sem.run_pure]
        · refine ostep_call 18 (by kernel_rfl) _ _ (by kernel_rfl) rfl (fun _ A1 W1 inv hall => ⟨wanted_some (g := 30) (d := 142) (b := true) rfl (by kernel_rfl) (inv.get hall 30 142 (by kernel_rfl) (by kernel_rfl)), #[.agg #[.int .i64 S, .slice va L.length vc], .agg #[.int .i64 T, .slice ya M.length yc]], ?_, ?_⟩)
          · have h146 : A1.eval (.tmp 146) = .agg #[.int .i64 S, .slice va L.length vc] := inv.get hall 34 146 (by kernel_rfl) (by kernel_rfl)
            have h147 : A1.eval (.tmp 147) = .agg #[.int .i64 T, .slice ya M.length yc] := inv.get hall 35 147 (by kernel_rfl) (by kernel_rfl)
            simp [h146, h147]
          · refine (RS.out _ (QL.out.below inv.s).1 (QM.out.below inv.s).1).mono ?_
            rintro e u ⟨rfl, hb⟩
            exact ⟨_, rfl, rfl, hb⟩
        · refine ostep_val (.bool true) (by kernel_rfl) (fun _ A1 W1 inv hall => ⟨wanted_some (g := 30) (d := 142) (b := true) rfl (by kernel_rfl) (inv.get hall 30 142 (by kernel_rfl) (by kernel_rfl)), ?_, rfl⟩)
          have h145 : A1.eval (.tmp 145) = .bool z := inv.get hall 33 145 (by kernel_rfl) (by kernel_rfl)
          have h148 : A1.eval (.tmp 148) = .bool z := inv.get hall 36 148 (by kernel_rfl) (by kernel_rfl)
          simp only [execOp, h145, h148]
          simp [eqGuard, go_sem]
        · refine ostep_val (.bool true) (by kernel_rfl) (fun _ A1 W1 inv hall => ⟨wanted_none rfl, ?_, rfl⟩)
          have h142 : A1.eval (.tmp 142) = .bool true := inv.get hall 30 142 (by kernel_rfl) (by kernel_rfl)
          have h149 : A1.eval (.tmp 149) = .bool true := inv.get hall 37 149 (by kernel_rfl) (by kernel_rfl)
          simp only [execOp, h142, h149]
          simp [asBool]
        · refine ostep_val (.bool true) (by kernel_rfl) (fun _ A1 W1 inv hall => ⟨wanted_none rfl, ?_, rfl⟩)
          have h150 : A1.eval (.tmp 150) = .bool true := inv.get hall 38 150 (by kernel_rfl) (by kernel_rfl)
          simp only [execOp, h150, Sem.run_pure]
      · intro listed A1 W1 inv hall
        have hlast : A1.eval (.tmp 8) = .bool true := inv.fin 39 8 (by kernel_rfl) (hall 39 (Nat.lt_of_lt_of_eq (by decide : 39 < 40) (by kernel_rfl)))
        refine (by assumption : ∀ (a : Act) (w : World), Code.wp Try.prog Code.ret _ a w → _) A1 W1 ?_
        go_wp2_with fail
        simp only [Act.eval, Array.getD_eq_getD_getElem?] at hlast
        exact bodyPost_ret (v := .bool true) (by simp [results, Try.results4, go_sem, hlast]) inv.dfr ⟨rfl, below_then B.out inv.s⟩

theorem walk (w : World) (S : Int) (x : Value) (L : List Int) (hv : IntsZ w x L) (hS : I64 S) (hm : L.length ≤ maxLen) (T : Int) (y : Value) (M : List Int) (hy : IntsZ w y M) (hT : I64 T) (hm2 : M.length ≤ maxLen) (n : Int) (v : Value) (G : List Int) (hg : IntsZ w v G) (hm3 : G.length ≤ maxLen) (wn : (Lit.int .i64 n).wf = true) :
    Calls Try.prog 4 #[frV S x, frV T y, .int .i64 n, v] w fun e w' => e = .returned (.bool true) ∧ Below w.heap.size w w' := by
  obtain ⟨va, vc, rfl⟩ := hv.len
  obtain ⟨ya, yc, rfl⟩ := hy.len
  obtain ⟨ga, gc, rfl⟩ := hg.len
  have hn := bounds_i64 wn
  have hn2 : I64 n := by constructor <;> omega
  by_cases h1 : 300 < L.length
  · exact walk_L w S T n va ya ga vc yc gc L M G hv hy hg hS hT hn2 h1
  by_cases h2 : 300 < M.length
  · exact walk_M w S T n va ya ga vc yc gc L M G hv hy hg hS hT hn2 (by omega) h2
  by_cases h3 : 300 < G.length
  · exact walk_G w S T n va ya ga vc yc gc L M G hv hy hg hS hT hn2 (by omega) (by omega) h3
  exact walk_main w S T n va ya ga vc yc gc L M G hv hy hg hS hT hn2 (by omega) (by omega) (by omega)

/-! ### the row's frame -/
theorem own : ownKnob Try.prog.godebug = none := by kernel_rfl
theorem laidOut : laidOutB Try.prog = true := by kernel_rfl

set_option maxRecDepth 100000 in
theorem lifted (os : Os) (started : os.Started) (H : Type) (enc : TypeId × Value → H) :
    ReturnsInHanded {} Try.checked os 4 .any (Rows.freeCallsSpec.pre6 enc Try.prog Try.f4 Rows.freeCallsRow.domain false) (Rows.freeCallsSpec.post enc Try.prog Try.f4 false true false false) := by
  refine returnsInHanded_of_change (C := Try.checked) own started (by kernel_rfl) Try.func4
    (ChangeSpec.witness6 (enc := enc) (C := Try.checked) false ⟨#[], #[.agg #[.int .i64 0, .slice none 0 0], .agg #[.int .i64 0, .slice none 0 0], .int .i64 0, .slice none 0 0], []⟩ 8 (by kernel_rfl) (by kernel_rfl) (by kernel_rfl) (by kernel_rfl)) ?_
  intro W base args ds gs before hval0 hW hcnd _
  have hval : ∀ (j : Nat) t v, Try.f4.params[j]? = some t → args[j]? = some v → Value.okWide Try.prog W .any base t v := hval0
  have hW' := hW
  obtain ⟨p, q, hA0, hV, rfl, hfz, hnd⟩ := hW
  have hA : DataW.TrodAll enc Try.prog W 0 (fun _ => true) true Try.f4.params.toList args.toList ds p := hA0
  rw [Try.params4] at hA hval
  obtain ⟨v0, vs0, d0, ds0, p0, q0, hargs, rfl, rfl, h0, r0⟩ := trodAll_cons hA
  obtain ⟨v1, vs1, d1, ds1, p1, q1, rfl, rfl, rfl, h1, r1⟩ := trodAll_cons r0
  obtain ⟨v2, vs2, d2, ds2, p2, q2, rfl, rfl, rfl, h2, r2⟩ := trodAll_cons r1
  obtain ⟨v3, vs3, d3, ds3, p3, q3, rfl, rfl, rfl, h3, r3⟩ := trodAll_cons r2
  obtain ⟨rfl, rfl, rfl⟩ := trodAll_nil r3
  obtain rfl : args = #[v0, v1, v2, v3] := by cases args; simp_all
  obtain ⟨rfl, rfl⟩ := trodVars_none hV
  have k0 := h0
  have lt0 : ∀ x ∈ p0, x.block < W.heap.size := by
    obtain ⟨m, hm⟩ := k0
    exact DataW.trod_lt m _ _ _ hm
  have k1 := h1
  have lt1 : ∀ x ∈ p1, x.block < W.heap.size := by
    obtain ⟨m, hm⟩ := k1
    exact DataW.trod_lt m _ _ _ hm
  have k2 := h2
  have lt2 : ∀ x ∈ p2, x.block < W.heap.size := by
    obtain ⟨m, hm⟩ := k2
    exact DataW.trod_lt m _ _ _ hm
  have k3 := h3
  have lt3 : ∀ x ∈ p3, x.block < W.heap.size := by
    obtain ⟨m, hm⟩ := k3
    exact DataW.trod_lt m _ _ _ hm
  obtain ⟨s0, x0, l0, rfl, hv0, hi0, hm0⟩ := open_free (hval 0 24 v0 rfl rfl) h0
  obtain ⟨s1, x1, l1, rfl, hv1, hi1, hm1⟩ := open_free (hval 1 24 v1 rfl rfl) h1
  obtain ⟨a2, rfl, rfl, rfl, w2⟩ := open_int Try.underlying3 (hval 2 3 v2 rfl rfl) h2
  obtain ⟨l3, hv3, hm3⟩ := open_intz (hval 3 22 v3 rfl rfl) h3
  clear hA0 hval0
  refine (walk W s0 x0 l0 hv0 hi0 hm0 s1 x1 l1 hv1 hi1 hm1 a2 v3 l3 hv3 hm3 w2).mono fun e W' ⟨he, bel⟩ => ?_
  subst he
  exact ⟨_, rfl, _, _, _, [], _, [], hW', trodAll_mk1 (shut_bool Try.underlying4 _), (trodAll_cons_mk (Below.trod laidOut (by kernel_rfl) (of_decide_eq_true (by kernel_rfl)) k0 bel lt0) (trodAll_cons_mk (Below.trod laidOut (by kernel_rfl) (of_decide_eq_true (by kernel_rfl)) k1 bel lt1) (trodAll_cons_mk (Below.trod laidOut (by kernel_rfl) (of_decide_eq_true (by kernel_rfl)) k2 bel lt2) (trodAll_cons_mk (Below.trod laidOut (by kernel_rfl) (of_decide_eq_true (by kernel_rfl)) k3 bel lt3) trodAll_mk0)))), rfl, bel.frame _, fun h => by cases h⟩

theorem over : Rows.freeCallsRow.holds Try.pinned (OpenSpec.ofChange Rows.freeCallsSpec) :=
  OpenClaim.holds_of_wide 4 Try.f4 rfl rfl rfl rfl rfl rfl rfl ⟨rfl, rfl, rfl, rfl, rfl⟩ rfl rfl rfl rfl rfl (by kernel_rfl) Try.func4 (by kernel_rfl)
    (of_decide_eq_true (by kernel_rfl)) (by unfold Func.isWrapper; first | (rw [if_pos (by decide +kernel)]; kernel_rfl) | (rw [if_neg (by decide +kernel)]; exact ⟨rfl, rfl⟩))
    (fun os started H enc _ => lifted os started H enc)

/-- THE STATEMENT -/
theorem freeCalls_holds : Rows.FreeCallsSaid := over
#print axioms freeCalls_holds
end Go.Proofs.Ytfbimocgcnaogaa.freeCalls
