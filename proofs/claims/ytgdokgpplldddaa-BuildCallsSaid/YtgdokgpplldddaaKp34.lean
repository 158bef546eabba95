/- Bh3 Bh2: joined texts. Conditions: as each theorem names them. -/
import Derived.Test.YtgdokgpplldddaaKp26
import Derived.Test.YtgdokgpplldddaaKp30
/- build's first: the first check that fails. Conditions: as each theorem names them. -/
namespace Go.Proofs.Ytgdokgpplldddaa
open Go.ChangeShapes Go.WideShapes Go.ChangeAt Go.RowKit
set_option linter.unusedVariables false
set_option maxRecDepth 100000

/-- the first that is not 0 -/
def firE : List Int → Int
  | [] => 0
  | e :: l => if e = 0 then firE l else e
theorem firE_drop {E : List Int} {k : Nat} (h : k < E.length) : firE (E.drop k) = if E.getD k 0 = 0 then firE (E.drop (k + 1)) else E.getD k 0 := by
  rw [List.drop_eq_getElem_cons h]
  simp [firE, List.getD, h]
set_option maxHeartbeats 1000000 in
theorem bfirst (b n : Nat) (E : List Int) (w : World) (hn : E.length = n) (hl : n ≤ 100) (hb : b < w.heap.size) (hc : ∀ k, k < n → ∃ x, w.cell? ⟨b, k, none⟩ = some x ∧ Chk w x (E.getD k 0)) :
    Calls Try.prog 31 #[.slice (some ⟨b, 0, none⟩) n n] w fun e w' => e = .returned (.int .i64 (firE E)) ∧ Below w.heap.size w w' := by
  have HC := hid_mk hc
  have HL := hid_mk hl
  clear hc hl
  go_enter Try.func31, Try.ntmps31
  go_wp2
  go_loopw [4, 5, 8] (fun _ _ i wr => ∃ k : Nat, k ≤ n ∧ i = .int .i64 k ∧ Hid (Below w.heap.size w wr) ∧ Hid (firE E = firE (E.drop k))) (fun _ _ i _ => n - (intOf i).toNat)
  case atStart => exact ⟨0, Nat.zero_le _, rfl, hid_mk (Below.refl _ _), hid_mk rfl⟩
  case round =>
    obtain ⟨k, hk, rfl, hold, hno⟩ := hrel
    by_cases hlt : k < n
    · obtain ⟨x, hx, f, caps, rfl, ef, hf⟩ := HC.out k hlt
      have c0 := (hold.out.cell (p := ⟨b, k, none⟩) hb).trans hx
      have hki : (k : Int) < (n : Int) := by omega
      have hk6 : (k : Int) < 100 := by have := HL.out; omega
      have HF := hid_mk (hf wr hold.out)
      have HD := hid_mk (firE_drop (E := E) (k := k) (by omega))
      clear hx hf
      generalize E.getD k 0 = z at *
      by_cases hz : z = 0
      · subst hz
        have HE : Hid (firE E = firE (E.drop (k + 1))) := hid_mk (by rw [hno.out, HD.out, if_pos rfl])
        clear HD
        go_wp2_with (go_at_fn f; refine HF.out.mono ?_; rintro e w1 ⟨rfl, g⟩; have HG := hid_mk (hold.out.trans (g.mono hold.out.size)); clear g)
        go_roundw
        case rel => exact ⟨k + 1, by omega, by simp, HG, HE⟩
        case measure => simp [intOf]; omega
      · have HE : Hid (firE E = z) := hid_mk (by rw [hno.out, HD.out, if_neg hz])
        have hb2 : (z != 0) = true := by simp; exact hz
        clear HD hz
        go_wp2_with (go_at_fn f; refine HF.out.mono ?_; rintro e w1 ⟨rfl, g⟩; have HG := hid_mk (hold.out.trans (g.mono hold.out.size)); clear g)
        go_ret
        exact ⟨ret_eq (by rw [HE.out]; rfl), HG.out⟩
    · obtain rfl : k = n := by omega
      have HE : Hid (firE E = 0) := hid_mk (by rw [hno.out, List.drop_eq_nil_of_le (by omega)]; rfl)
      go_wp2_with fail
      go_ret
      exact ⟨ret_eq (by rw [HE.out]; rfl), hold.out⟩
end Go.Proofs.Ytgdokgpplldddaa

/- build's areNumbers and first. Conditions: as each theorem names them. -/
namespace Go.Proofs.Ytgdokgpplldddaa
open Go.ChangeShapes Go.WideShapes Go.ChangeAt Go.RowKit
set_option linter.unusedVariables false
set_option maxRecDepth 100000

/-- where a number stands in a list; -1 if nowhere -/
def idxI (L : List Int) (x : Int) : Int := if inB L x = true then 0 else -1
set_option maxHeartbeats 1000000 in
theorem bindex (v : Value) (L : List Int) (x : Int) (w : World) (hv : IntsZ w v L) (hl : L.length ≤ 100000) :
    Calls Try.prog 76 #[v, .int .i64 x] w fun e w' => ∃ r : Int, e = .returned (.int .i64 r) ∧ decide (0 ≤ r) = inB L x ∧ w' = w := by
  rcases hv with ⟨⟨va, vc, rfl, _⟩, rfl⟩ | ⟨b, o, c, rfl, hb1, hb2, hb3⟩
  · go_enter Try.func76, Try.ntmps76
    go_wp2
    go_loopw [5, 8] (fun _ i wr => i = .int .i64 0 ∧ wr = w) (fun _ _ _ => 0)
    case atStart => exact ⟨rfl, rfl⟩
    case round =>
      obtain ⟨rfl, rfl⟩ := hrel
      go_wp2
      go_ret
      exact ⟨_, rfl, rfl, rfl⟩
  · have HC := hid_mk hb3
    have HL := hid_mk hl
    clear hb3 hl
    go_enter Try.func76, Try.ntmps76
    go_wp2
    go_loopw [5, 8] (fun _ i wr => ∃ k : Nat, k ≤ L.length ∧ i = .int .i64 k ∧ wr = w ∧ Hid (inB (L.take k) x = false)) (fun _ i _ => L.length - (intOf i).toNat)
    case atStart => exact ⟨0, Nat.zero_le _, rfl, rfl, hid_mk (by simp [inB])⟩
    case round =>
      obtain ⟨k, hk, rfl, rfl, hno⟩ := hrel
      by_cases hlt : k < L.length
      · have c0 := HC.out k hlt
        have hki : (k : Int) < (L.length : Int) := by omega
        have hk6 : (k : Int) < 1000000 := by
          have := HL.out
          omega
        have HT := hid_mk (inB_take (n := x) hlt)
        have HIN : Hid (L.getD k 0 = x → inB L x = true) := hid_mk (fun e => by
          unfold inB
          rw [decide_eq_true_eq, ← e, List.getD_eq_getElem?_getD, List.getElem?_eq_getElem hlt]
          exact List.getElem_mem hlt)
        generalize L.getD k 0 = y at *
        have hb := beq_dec x y
        by_cases he : x = y
        · rw [decide_eq_true he] at hb
          have HE := hid_mk (HIN.out he.symm)
          clear he HT HIN hno
          go_wp2
          go_ret
          exact ⟨_, rfl, by rw [HE.out]; simp, rfl⟩
        · rw [decide_eq_false he] at hb
          have HE : Hid (inB (L.take (k + 1)) x = false) := hid_mk (by rw [HT.out, hno.out, decide_eq_false (fun e => he e.symm)]; rfl)
          clear he HT HIN hno
          go_wp2
          go_roundw
          case rel => exact ⟨k + 1, by omega, by simp, trivial, HE⟩
          case measure => simp [intOf]; omega
      · obtain rfl : k = L.length := by omega
        have HE := hno
        rw [List.take_length] at HE
        go_wp2
        go_ret
        exact ⟨_, rfl, by rw [HE.out]; rfl, rfl⟩
theorem bcontains (v : Value) (L : List Int) (x : Int) (w : World) (hv : IntsZ w v L) (hl : L.length ≤ 100000) :
    Calls Try.prog 59 #[v, .int .i64 x] w fun e w' => e = .returned (.bool (inB L x)) ∧ w' = w := by
  have HC := hid_mk (bindex v L x w hv hl)
  obtain ⟨va, vc, rfl⟩ := hv.len
  generalize inB L x = z at *
  clear hv hl
  go_enter Try.func59, Try.ntmps59
  go_wp2_with fail
  refine HC.out.mono ?_
  rintro e w2 ⟨r, rfl, hz, rfl⟩
  cases z
  · go_wp2_with fail
    go_ret
    exact ⟨rfl, rfl⟩
  · go_wp2_with fail
    go_ret
    exact ⟨rfl, rfl⟩

/-- areNumbers -/
def idsT (I : List Int) (n : Nat) : Bool := decide (I.length = n) && okT 32768 I I.length
set_option maxHeartbeats 1000000 in
theorem barenum1 (b c n : Nat) (v : Value) (I : List Int) (u : World) (hc : u.cell? ⟨b, 0, none⟩ = some v) (hd : u.cell? ⟨c, 0, none⟩ = some (.int .i64 (n : Int))) (hb : b < u.heap.size) (hv : IntsZ u v I) (hi : I.length ≤ 1000) :
    Calls Try.prog 58 #[.pointer (some ⟨b, 0, none⟩), .pointer (some ⟨c, 0, none⟩)] u fun e u' => e = .returned (.int .i64 (unlE (idsT I n))) ∧ Below u.heap.size u u' := by
  by_cases hne : I.length = n
  · have HT : Hid (idsT I n = okT 32768 I I.length) := hid_mk (by unfold idsT; rw [decide_eq_true hne, Bool.true_and])
    rw [HT.out]
    subst hne
    have hb1 : ((I.length : Int) != (I.length : Int)) = false := by simp
    rcases hv with ⟨⟨va, vc, rfl, _⟩, rfl⟩ | ⟨vb, o, vcap, rfl, hv1, hv2, hv3⟩
    · clear HT
      go_enter Try.func58, Try.ntmps58
      go_wp2
      go_loopw [3, 4, 12] (fun _ _ i wr => i = .int .i64 0 ∧ wr = u) (fun _ _ _ _ => 0)
      case atStart => exact ⟨rfl, rfl⟩
      case round =>
        obtain ⟨rfl, rfl⟩ := hrel
        go_wp2
        go_ret
        exact ⟨rfl, Below.refl _ _⟩
    · have HC := hid_mk hv3
      have HI := hid_mk hi
      have HBel := hid_mk (fun x y => bisbelX x 32768 y)
      have HBel1 := hid_mk (fun p q x y h1 h2 => bisbel1 p q x 32768 y h1 h2)
      clear hv3 hi HT
      obtain ⟨uu, huu⟩ : ∃ uu : World, uu = u := ⟨_, rfl⟩
      have HCell : Hid (u.cell? ⟨b, 0, none⟩ = some (.slice (some ⟨vb, o, none⟩) I.length vcap)) := hid_mk hc
      go_enter Try.func58, Try.ntmps58
      go_wp2
      go_loopw [3, 4, 5, 12] (fun _ _ _ i wr => ∃ k : Nat, k ≤ I.length ∧ i = .int .i64 k ∧ Hid (Below u.heap.size u wr) ∧ Hid (okT 32768 I k = true)) (fun _ _ _ i _ => I.length - (intOf i).toNat)
      case atStart => exact ⟨0, Nat.zero_le _, rfl, hid_mk (Below.refl _ _), hid_mk rfl⟩
      case round =>
        obtain ⟨k, hk, rfl, hold, hok⟩ := hrel
        by_cases hlt : k < I.length
        · have c0 := (hold.out.cell (p := ⟨vb, o + k, none⟩) hv1).trans (HC.out k hlt)
          have hvw : vb < wr.heap.size := Nat.lt_of_lt_of_le hv1 hold.out.size
          have hbw : b < wr.heap.size := Nat.lt_of_lt_of_le hb hold.out.size
          have cb := (hold.out.cell (p := ⟨b, 0, none⟩) hb).trans hc
          have hki : (k : Int) < (I.length : Int) := by omega
          have hk6 : (k : Int) < 1000 := by have := HI.out; omega
          have HST := hid_mk (okT_succ 32768 I k)
          have HN2 := hid_mk (fun h => okT_no (S := 32768) (L := I) hlt h)
          have HTk : Hid (∀ W : World, Below u.heap.size u W → IntsZ W (.slice (some ⟨vb, o, none⟩) ((I.take k).length) vcap) (I.take k)) := hid_mk (fun W hW => Or.inr ⟨vb, o, vcap, rfl, Nat.lt_of_lt_of_le hv1 hW.size, by rw [List.length_take]; omega, fun j hj => by
            rw [List.length_take] at hj
            rw [hW.cell (p := ⟨vb, o + j, none⟩) hv1, HC.out j (by omega)]
            simp [List.getD, show j < k from by omega]⟩)
          have htl : (I.take k).length = k := by rw [List.length_take]; omega
          rw [htl] at HTk
          have HCon := hid_mk (fun W x (hW : Below u.heap.size u W) => bcontains _ (I.take k) x W (HTk.out W hW) (by rw [htl]; have := HI.out; omega))
          have hk4 : (k : Int) ≤ (vcap : Int) := by omega
          have hk5 : k ≤ vcap := by omega
          generalize I.getD k 0 = x at *
          cases ho : okI 32768 x
          · have HE := hid_mk (HN2.out (by rw [ho]; rfl))
            have HB1 := hid_mk (fun p q y h1 h2 => HBel1.out p q x y h1 h2)
            rw [ho] at HB1
            clear ho HN2 HST HTk HCon htl HBel1
            go_wp2_with fail
            refine (HBel.out _ _).mono ?_
            rintro e w1 ⟨rfl, g1, g2, g3, g4⟩
            have HG := hid_mk g1
            clear g1
            go_wp2_with fail
            refine (HB1.out _ _ _ g2 g3).mono ?_
            rintro e w2 ⟨rfl, rfl⟩
            go_wp2_with fail
            go_ret
            exact ⟨ret_eq (by rw [HE.out]; rfl), hold.out.trans (HG.out.mono hold.out.size)⟩
          · have HB1 := hid_mk (fun p q y h1 h2 => HBel1.out p q x y h1 h2)
            rw [ho] at HB1 HST HN2
            clear ho HTk htl HBel1
            cases hin : inB (I.take k) x
            · rw [hin] at HST HN2 
              have HE : Hid (okT 32768 I (k + 1) = true) := hid_mk (by rw [HST.out, hok.out]; rfl)
              have HC1 := hid_mk (fun W hW => HCon.out W x hW)
              rw [hin] at HC1
              clear hin HST HN2 HCon
              go_wp2_with fail
              refine (HBel.out _ _).mono ?_
              rintro e w1 ⟨rfl, g1, g2, g3, g4⟩
              have HG := hid_mk (hold.out.trans (g1.mono hold.out.size))
              have cb1 := (g1.cell (p := ⟨b, 0, none⟩) hbw).trans cb
              have hbw1 : b < w1.heap.size := Nat.lt_of_lt_of_le hbw g1.size
              clear g1 cb
              go_wp2_with fail
              refine (HB1.out _ _ _ g2 g3).mono ?_
              rintro e w2 ⟨rfl, rfl⟩
              go_wp2_with fail
              refine (HC1.out _ HG.out).mono ?_
              rintro e w3 ⟨rfl, rfl⟩
              go_wp2_with fail
              go_roundw
              case rel => exact ⟨k + 1, by omega, by simp, HG, HE⟩
              case measure => simp [intOf]; omega
            · rw [hin] at HST HN2
              have HE := hid_mk (HN2.out rfl)
              have HC1 := hid_mk (fun W hW => HCon.out W x hW)
              rw [hin] at HC1
              clear hin HST HN2 HCon
              go_wp2_with fail
              refine (HBel.out _ _).mono ?_
              rintro e w1 ⟨rfl, g1, g2, g3, g4⟩
              have HG := hid_mk (hold.out.trans (g1.mono hold.out.size))
              have cb1 := (g1.cell (p := ⟨b, 0, none⟩) hbw).trans cb
              have hbw1 : b < w1.heap.size := Nat.lt_of_lt_of_le hbw g1.size
              clear g1 cb
              go_wp2_with fail
              refine (HB1.out _ _ _ g2 g3).mono ?_
              rintro e w2 ⟨rfl, rfl⟩
              go_wp2_with fail
              refine (HC1.out _ HG.out).mono ?_
              rintro e w3 ⟨rfl, rfl⟩
              go_wp2_with fail
              go_ret
              exact ⟨ret_eq (by rw [HE.out]; rfl), HG.out⟩
        · obtain rfl : k = I.length := by omega
          go_wp2_with fail
          go_ret
          exact ⟨ret_eq (by rw [hok.out]; rfl), hold.out⟩
  · have HE : Hid (idsT I n = false) := hid_mk (by unfold idsT; rw [decide_eq_false hne]; rfl)
    obtain ⟨va, vc, rfl⟩ := hv.len
    have hb1 : ((I.length : Int) != (n : Int)) = true := by simp; omega
    clear hv
    go_enter Try.func58, Try.ntmps58
    go_wp2
    go_ret
    exact ⟨ret_eq (by rw [HE.out]; rfl), Below.refl _ _⟩
theorem barenum (n : Nat) (v : Value) (I : List Int) (w : World) (hv : IntsZ w v I) (hi : I.length ≤ 1000) :
    Calls Try.prog 33 #[v, .int .i64 (n : Int)] w fun e w' => ∃ x, e = .returned x ∧ Chk w' x (unlE (idsT I n)) ∧ Below w.heap.size w w' := by
  have hmf : ∀ (fn : Fn) (first cap : Array Value) (w : World), (Instr.makeFunc fn first cap).run Try.prog w = .ok (.func fn first cap) w := fun _ _ _ _ => rfl
  have HV := hid_mk hv
  obtain ⟨va, vc, rfl⟩ := hv.len
  clear hv
  go_enter Try.func33, Try.ntmps33
  go_wp2
  go_ret
  have hB := (below_box w (.cells #[.slice va I.length vc] 26)).alloc (by simp) (.cells #[.int .i64 (n : Int)] 3)
  refine ⟨_, rfl, ⟨58, _, rfl, fun args u => run_callFunc_body (by kernel_rfl) args u, fun u hu => barenum1 w.heap.size (w.heap.size + 1) n _ I u ?_ ?_ ?_ ((HV.out.below hB).below hu) hi⟩, hB⟩
  · rw [hu.cell (by simp <;> omega)]
    go_simp
  · rw [hu.cell (by simp <;> omega)]
    go_simp
  · exact Nat.lt_of_lt_of_le (by simp <;> omega) hu.size
end Go.Proofs.Ytgdokgpplldddaa
