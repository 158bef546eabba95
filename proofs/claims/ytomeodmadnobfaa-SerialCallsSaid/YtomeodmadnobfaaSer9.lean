/- Contracts of serial's functions for every input, each in one piece, and of the reference's: the same plain answers. Conditions: words fit 16 bits. -/
import Derived.Test.YtomeodmadnobfaaSer8
namespace Go.Proofs.Ytomeodmadnobfaa
open Go.ChangeShapes Go.WideShapes Go.ChangeAt Go.RowKit
set_option linter.unusedVariables false

def okP (p n : Int) : Bool := decide (1 ≤ n ∧ n ≤ 32768 ∧ 0 ≤ p ∧ p < n)
def okM (d n : Int) : Bool := decide (0 ≤ d ∧ d ≤ n)
theorem okP_t {p n : Int} (h : okP p n = true) : 1 ≤ n ∧ n ≤ 32768 ∧ 0 ≤ p ∧ p < n := by simpa [okP] using h
theorem okP_f {p n : Int} (h : okP p n = false) : n < 1 ∨ 32768 < n ∨ p < 0 ∨ n ≤ p := by
  simp [okP] at h
  omega
theorem okM_t {d n : Int} (h : okM d n = true) : 0 ≤ d ∧ d ≤ n := by simpa [okM] using h
theorem okM_f {d n : Int} (h : okM d n = false) : d < 0 ∨ n < d := by
  simp [okM] at h
  omega

def chkI (p n : Int) : Int := if okP p n = true then 0 else 2
theorem check_all (p n : Int) (b : Bool) (w : World) :
    Calls Try.prog 20 #[.agg #[.int .i64 p, .bool b], .int .i64 n] w fun e w' => e = .returned (.int .i64 (chkI p n)) ∧ Below w.heap.size w w' := by
  cases h : okP p n
  · have e1 : chkI p n = 2 := by
      unfold chkI
      rw [h]
      rfl
    rw [e1]
    exact check_no p n b w (okP_f h)
  · have e1 : chkI p n = 0 := by
      unfold chkI
      rw [h]
      rfl
    rw [e1]
    obtain ⟨h1, h2, h3, h4⟩ := okP_t h
    exact check_yes p n b w h1 h2 h3 h4

theorem rcheck_all (p n : Int) (b : Bool) (w : World) :
    Calls Try.prog 21 #[.agg #[.int .i64 p, .bool b], .int .i64 n] w fun e w' => e = .returned (.int .i64 (chkI p n)) ∧ Below w.heap.size w w' := by
  cases h : okP p n
  · have e1 : chkI p n = 2 := by
      unfold chkI
      rw [h]
      rfl
    rw [e1]
    exact rcheck_no p n b w (okP_f h)
  · have e1 : chkI p n = 0 := by
      unfold chkI
      rw [h]
      rfl
    rw [e1]
    obtain ⟨h1, h2, h3, h4⟩ := okP_t h
    exact rcheck_yes p n b w h1 h2 h3 h4

theorem rgo_no (p d n : Int) (b : Bool) (w : World) (h : (n < 1 ∨ 32768 < n ∨ p < 0 ∨ n ≤ p) ∨ d < 0 ∨ n < d) :
    Calls Try.prog 25 #[.agg #[.int .i64 p, .bool b], .int .i64 d, .int .i64 n] w fun e w' => e = .returned (.tuple #[.agg #[.int .i64 0, .bool false], .int .i64 2]) ∧ Below w.heap.size w w' := by
  by_cases hc : n < 1 ∨ 32768 < n ∨ p < 0 ∨ n ≤ p
  · clear h
    go_enter Try.func25, Try.ntmps25
    go_wp2_with (go_at_call 21; refine (rcheck_no _ _ _ _ hc).mono ?_; rintro e w1 ⟨rfl, hb⟩; have c0 := hb.cell (p := ⟨w.heap.size + 1, 0, none⟩) (by simp); have c1 := hb.cell (p := ⟨w.heap.size + 1, 1, none⟩) (by simp); have f0 := hb.frozen (p := ⟨w.heap.size + 1, 0, none⟩) (by simp); have f1 := hb.frozen (p := ⟨w.heap.size + 1, 1, none⟩) (by simp); simp [go_sem] at c0 c1 f0 f1)
    exact bodyPost_ret (v := .tuple #[.agg #[.int .i64 0, .bool false], .int .i64 2]) (by simp [results, Try.results25, go_sem, c0, c1]) rfl ⟨rfl, (((((Below.refl _ _).alloc (Nat.le_refl _) _).alloc (by simp) _).trans (hb.mono (by simp; omega))).setCell (by simp) _).setCell (by simp) _⟩
  · have h1 : 1 ≤ n := by omega
    have h2 : n ≤ 32768 := by omega
    have h3 : 0 ≤ p := by omega
    have h4 : p < n := by omega
    by_cases hd : d < 0
    · clear h hc
      go_enter Try.func25, Try.ntmps25
      go_wp2
      exact bodyPost_ret (v := .tuple #[.agg #[.int .i64 0, .bool false], .int .i64 2]) (by simp [results, Try.results25, go_sem]) rfl ⟨rfl, (by repeat (first | exact Below.refl _ _ | (refine Below.alloc ?_ (by first | omega | (simp; done) | (simp; omega)) _) | (refine Below.setCell ?_ (by first | omega | (simp; done) | (simp; omega)) _)))⟩
    · have hd2 : n < d := by omega
      have hd3 : 0 ≤ d := by omega
      clear h hc hd
      go_enter Try.func25, Try.ntmps25
      go_wp2
      exact bodyPost_ret (v := .tuple #[.agg #[.int .i64 0, .bool false], .int .i64 2]) (by simp [results, Try.results25, go_sem]) rfl ⟨rfl, (by repeat (first | exact Below.refl _ _ | (refine Below.alloc ?_ (by first | omega | (simp; done) | (simp; omega)) _) | (refine Below.setCell ?_ (by first | omega | (simp; done) | (simp; omega)) _)))⟩

theorem rgo_any (p d n : Int) (b : Bool) (w : World) (h1 : 1 ≤ n) (h2 : n ≤ 32768) (h3 : 0 ≤ p) (h4 : p < n) (h5 : 0 ≤ d) (h6 : d ≤ n) :
    Calls Try.prog 25 #[.agg #[.int .i64 p, .bool b], .int .i64 d, .int .i64 n] w fun e w' => e = .returned (.tuple #[.agg #[.int .i64 (goA p d n), .bool (goW p d n b)], .int .i64 0]) ∧ Below w.heap.size w w' := by
  by_cases h : p + d < n
  · have e1 : goA p d n = p + d := by
      unfold goA
      rw [if_pos h]
    have e2 : goW p d n b = b := by
      unfold goW
      rw [if_pos h]
    rw [e1, e2]
    exact rgo_in p d n b w h1 h2 h3 h4 h5 h6 h
  · have e1 : goA p d n = p + d - n := by
      unfold goA
      rw [if_neg h]
    have e2 : goW p d n b = !b := by
      unfold goW
      rw [if_neg h]
    rw [e1, e2]
    exact rgo_over p d n b w h1 h2 h3 h4 h5 h6 (by omega)

def okG (p d n : Int) : Bool := okP p n && okM d n
def gA (p d n : Int) : Int := if okG p d n = true then goA p d n else 0
def gW (p d n : Int) (b : Bool) : Bool := if okG p d n = true then goW p d n b else false
def gE (p d n : Int) : Int := if okG p d n = true then 0 else 2
theorem go_all (p d n : Int) (b : Bool) (w : World) :
    Calls Try.prog 10 #[.agg #[.int .i64 p, .bool b], .int .i64 d, .int .i64 n] w fun e w' => e = .returned (.tuple #[.agg #[.int .i64 (gA p d n), .bool (gW p d n b)], .int .i64 (gE p d n)]) ∧ Below w.heap.size w w' := by
  unfold gA gW gE okG
  cases h : okP p n
  · exact go_no p d n b w (Or.inl (okP_f h))
  · cases hm : okM d n
    · exact go_no p d n b w (Or.inr (okM_f hm))
    · obtain ⟨h1, h2, h3, h4⟩ := okP_t h
      obtain ⟨h5, h6⟩ := okM_t hm
      exact go_any p d n b w h1 h2 h3 h4 h5 h6

theorem rgo_all (p d n : Int) (b : Bool) (w : World) :
    Calls Try.prog 25 #[.agg #[.int .i64 p, .bool b], .int .i64 d, .int .i64 n] w fun e w' => e = .returned (.tuple #[.agg #[.int .i64 (gA p d n), .bool (gW p d n b)], .int .i64 (gE p d n)]) ∧ Below w.heap.size w w' := by
  unfold gA gW gE okG
  cases h : okP p n
  · exact rgo_no p d n b w (Or.inl (okP_f h))
  · cases hm : okM d n
    · exact rgo_no p d n b w (Or.inr (okM_f hm))
    · obtain ⟨h1, h2, h3, h4⟩ := okP_t h
      obtain ⟨h5, h6⟩ := okM_t hm
      exact rgo_any p d n b w h1 h2 h3 h4 h5 h6

def okS (n : Int) : Bool := decide (1 ≤ n ∧ n ≤ 32768)
theorem okS_t {n : Int} (h : okS n = true) : 1 ≤ n ∧ n ≤ 32768 := by simpa [okS] using h
theorem okS_f {n : Int} (h : okS n = false) : n < 1 ∨ 32768 < n := by
  simp [okS] at h
  omega
def rdOk (x n : Int) : Bool := okS n && decide (x % 32768 < n)
def rdA (x n : Int) : Int := if rdOk x n = true then x % 32768 else 0
def rdW (x n : Int) : Bool := if rdOk x n = true then decide (32768 ≤ x) else false
def rdE (x n : Int) : Int := if okS n = true then (if rdOk x n = true then 0 else 4) else 2
theorem read_all (x n : Int) (w : World) (h0 : 0 ≤ x) (h1 : x < 65536) :
    Calls Try.prog 11 #[.int .u16 x, .int .i64 n] w fun e w' => e = .returned (.tuple #[.agg #[.int .i64 (rdA x n), .bool (rdW x n)], .int .i64 (rdE x n)]) ∧ Below w.heap.size w w' := by
  unfold rdA rdW rdE rdOk
  cases h : okS n
  · exact read_arg x n w (okS_f h)
  · obtain ⟨h2, h3⟩ := okS_t h
    by_cases hx : x % 32768 < n
    · simp only [hx]
      exact read_yes x n w h0 h1 h2 h3 hx
    · simp only [hx]
      exact read_bad x n w h0 h1 h2 h3 (by omega)

theorem rread_all (x n : Int) (w : World) (h0 : 0 ≤ x) (h1 : x < 65536) :
    Calls Try.prog 26 #[.int .u16 x, .int .i64 n] w fun e w' => e = .returned (.tuple #[.agg #[.int .i64 (rdA x n), .bool (rdW x n)], .int .i64 (rdE x n)]) ∧ Below w.heap.size w w' := by
  unfold rdA rdW rdE rdOk
  cases h : okS n
  · exact rread_arg x n w (okS_f h)
  · obtain ⟨h2, h3⟩ := okS_t h
    by_cases hx : x % 32768 < n
    · simp only [hx]
      exact rread_yes x n w h0 h1 h2 h3 hx
    · simp only [hx]
      exact rread_bad x n w h0 h1 h2 h3 (by omega)

def naOk (ea na d n : Int) : Bool := okP ea n && (okP na n && okM d n)
def naB (ea na d n : Int) (eb nb : Bool) : Bool := if naOk ea na d n = true then needAtB ea na d n eb nb else false
def naE (ea na d n : Int) : Int := if naOk ea na d n = true then 0 else 2
def bwOk (ea na n : Int) : Bool := okP ea n && okP na n
def bwV (ea na n : Int) (eb nb : Bool) : Int := if bwOk ea na n = true then btw ea na n eb nb else 0
def bwE (ea na n : Int) : Int := if bwOk ea na n = true then 0 else 2
theorem needAt_all (ea na d n : Int) (eb nb : Bool) (w : World) :
    Calls Try.prog 27 #[.agg #[.int .i64 ea, .bool eb], .agg #[.int .i64 na, .bool nb], .int .i64 d, .int .i64 n] w fun e w' => e = .returned (.tuple #[.bool (naB ea na d n eb nb), .int .i64 (naE ea na d n)]) ∧ Below w.heap.size w w' := by
  unfold naB naE naOk
  cases h : okP ea n
  · exact needAt_no ea na d n eb nb w (Or.inl (okP_f h))
  · cases h' : okP na n
    · exact needAt_no ea na d n eb nb w (Or.inr (Or.inl (okP_f h')))
    · cases hm : okM d n
      · exact needAt_no ea na d n eb nb w (Or.inr (Or.inr (okM_f hm)))
      · obtain ⟨h1, h2, h3, h4⟩ := okP_t h
        obtain ⟨_, _, h5, h6⟩ := okP_t h'
        obtain ⟨h7, h8⟩ := okM_t hm
        exact needAt_yes ea na d n eb nb w h1 h2 h3 h4 h5 h6 h7 h8

theorem rneedAt_all (ea na d n : Int) (eb nb : Bool) (w : World) :
    Calls Try.prog 28 #[.agg #[.int .i64 ea, .bool eb], .agg #[.int .i64 na, .bool nb], .int .i64 d, .int .i64 n] w fun e w' => e = .returned (.tuple #[.bool (naB ea na d n eb nb), .int .i64 (naE ea na d n)]) ∧ Below w.heap.size w w' := by
  unfold naB naE naOk
  cases h : okP ea n
  · exact rneedAt_no ea na d n eb nb w (Or.inl (okP_f h))
  · cases h' : okP na n
    · exact rneedAt_no ea na d n eb nb w (Or.inr (Or.inl (okP_f h')))
    · cases hm : okM d n
      · exact rneedAt_no ea na d n eb nb w (Or.inr (Or.inr (okM_f hm)))
      · obtain ⟨h1, h2, h3, h4⟩ := okP_t h
        obtain ⟨_, _, h5, h6⟩ := okP_t h'
        obtain ⟨h7, h8⟩ := okM_t hm
        exact rneedAt_yes ea na d n eb nb w h1 h2 h3 h4 h5 h6 h7 h8

theorem between_all (ea na n : Int) (eb nb : Bool) (w : World) :
    Calls Try.prog 29 #[.agg #[.int .i64 ea, .bool eb], .agg #[.int .i64 na, .bool nb], .int .i64 n] w fun e w' => e = .returned (.tuple #[.int .i64 (bwV ea na n eb nb), .int .i64 (bwE ea na n)]) ∧ Below w.heap.size w w' := by
  unfold bwV bwE bwOk
  cases h : okP ea n
  · exact between_no ea na n eb nb w (Or.inl (okP_f h))
  · cases h' : okP na n
    · exact between_no ea na n eb nb w (Or.inr (okP_f h'))
    · obtain ⟨h1, h2, h3, h4⟩ := okP_t h
      obtain ⟨_, _, h5, h6⟩ := okP_t h'
      exact between_yes ea na n eb nb w h1 h2 h3 h4 h5 h6

theorem rbetween_all (ea na n : Int) (eb nb : Bool) (w : World) :
    Calls Try.prog 30 #[.agg #[.int .i64 ea, .bool eb], .agg #[.int .i64 na, .bool nb], .int .i64 n] w fun e w' => e = .returned (.tuple #[.int .i64 (bwV ea na n eb nb), .int .i64 (bwE ea na n)]) ∧ Below w.heap.size w w' := by
  unfold bwV bwE bwOk
  cases h : okP ea n
  · exact rbetween_no ea na n eb nb w (Or.inl (okP_f h))
  · cases h' : okP na n
    · exact rbetween_no ea na n eb nb w (Or.inr (okP_f h'))
    · obtain ⟨h1, h2, h3, h4⟩ := okP_t h
      obtain ⟨_, _, h5, h6⟩ := okP_t h'
      exact rbetween_yes ea na n eb nb w h1 h2 h3 h4 h5 h6

end Go.Proofs.Ytomeodmadnobfaa
