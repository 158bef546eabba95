/- Ser8 Ser9: joined texts. Conditions: as each theorem names them. -/
import Derived.Test.YtgdokgpplldddaaKp16
/- The contract of serial.Go in one piece, for every valid move; plain facts on it. Conditions: the position and the move are valid. -/
namespace Go.Proofs.Ytgdokgpplldddaa
open Go.ChangeShapes Go.WideShapes Go.ChangeAt Go.RowKit
set_option linter.unusedVariables false

/-- where a move leads -/
def goA (p d n : Int) : Int := if p + d < n then p + d else p + d - n
def goW (p d n : Int) (b : Bool) : Bool := if p + d < n then b else !b

theorem goA_lo {p d n : Int} (h3 : 0 ≤ p) (h5 : 0 ≤ d) : 0 ≤ goA p d n := by
  unfold goA
  split <;> omega
theorem goA_hi {p d n : Int} (h4 : p < n) (h6 : d ≤ n) : goA p d n < n := by
  unfold goA
  split <;> omega

theorem go_any (p d n : Int) (b : Bool) (w : World) (h1 : 1 ≤ n) (h2 : n ≤ 32768) (h3 : 0 ≤ p) (h4 : p < n) (h5 : 0 ≤ d) (h6 : d ≤ n) :
    Calls Try.prog 67 #[.agg #[.int .i64 p, .bool b], .int .i64 d, .int .i64 n] w fun e w' => e = .returned (.tuple #[.agg #[.int .i64 (goA p d n), .bool (goW p d n b)], .int .i64 0]) ∧ Below w.heap.size w w' := by
  by_cases h : p + d < n
  · have e1 : goA p d n = p + d := by
      unfold goA
      rw [if_pos h]
    have e2 : goW p d n b = b := by
      unfold goW
      rw [if_pos h]
    rw [e1, e2]
    exact go_in p d n b w h1 h2 h3 h4 h5 h6 h
  · have e1 : goA p d n = p + d - n := by
      unfold goA
      rw [if_neg h]
    have e2 : goW p d n b = !b := by
      unfold goW
      rw [if_neg h]
    rw [e1, e2]
    exact go_over p d n b w h1 h2 h3 h4 h5 h6 (by omega)

theorem seen_is (p d k n : Int) (b : Bool) (h1 : 1 ≤ n) (h2 : n ≤ 32768) (h3 : 0 ≤ p) (h4 : p < n) (h5 : 0 ≤ d) (h6 : d ≤ n) (h7 : 0 ≤ k) (h8 : k < n) :
    needAtB (goA p k n) (goA p d n) d n (goW p k n b) (goW p d n b) = decide (k < d) := by
  unfold needAtB goA goW needB
  by_cases c1 : p + d < n
  · by_cases c2 : p + k < n
    · cases b <;> simp [c1, c2, sub16_eq, IntKind.wrap_u16] <;> omega
    · cases b <;> simp [c1, c2, sub16_eq, IntKind.wrap_u16] <;> omega
  · by_cases c2 : p + k < n
    · cases b <;> simp [c1, c2, sub16_eq, IntKind.wrap_u16] <;> omega
    · cases b <;> simp [c1, c2, sub16_eq, IntKind.wrap_u16] <;> omega

theorem pick_in (n m : Int) (w : World) (h : 1 ≤ m) (hm : m ≤ 65536) :
    Calls Try.prog 26 #[.int .i64 n, .int .i64 m] w fun e w' => ∃ x : Int, (0 ≤ x ∧ x < m ∧ x = n % m) ∧ e = .returned (.int .i64 x) ∧ w = w' :=
  (pick_any n m w h (by omega)).mono fun e w' ⟨he, hw⟩ => ⟨n % m, ⟨Int.emod_nonneg n (by omega), Int.emod_lt_of_pos n (by omega), rfl⟩, he, hw⟩

end Go.Proofs.Ytgdokgpplldddaa

/- Contracts of serial's functions for every input, each in one piece, and of the reference's: the same plain answers. Conditions: words fit 16 bits. -/
namespace Go.Proofs.Ytgdokgpplldddaa
open Go.ChangeShapes Go.WideShapes Go.ChangeAt Go.RowKit
set_option linter.unusedVariables false

def okP (p n : Int) : Bool := decide (1 ≤ n ∧ n ≤ 32768 ∧ 0 ≤ p ∧ p < n)
def okM (d n : Int) : Bool := decide (0 ≤ d ∧ d ≤ n)
theorem okP_t {p n : Int} (h : okP p n = true) : 1 ≤ n ∧ n ≤ 32768 ∧ 0 ≤ p ∧ p < n := by simpa [okP] using h
theorem okP_f {p n : Int} (h : okP p n = false) : n < 1 ∨ 32768 < n ∨ p < 0 ∨ n ≤ p := by
  simp [okP] at h
  omega
theorem okM_t {d n : Int} (h : okM d n = true) : 0 ≤ d ∧ d ≤ n := by simpa [okM] using h
theorem okM_f {d n : Int} (h : okM d n = false) : d < 0 ∨ n < d := by
  simp [okM] at h
  omega

def chkI (p n : Int) : Int := if okP p n = true then 0 else 2
theorem check_all (p n : Int) (b : Bool) (w : World) :
    Calls Try.prog 62 #[.agg #[.int .i64 p, .bool b], .int .i64 n] w fun e w' => e = .returned (.int .i64 (chkI p n)) ∧ Below w.heap.size w w' := by
  cases h : okP p n
  · have e1 : chkI p n = 2 := by
      unfold chkI
      rw [h]
      rfl
    rw [e1]
    exact check_no p n b w (okP_f h)
  · have e1 : chkI p n = 0 := by
      unfold chkI
      rw [h]
      rfl
    rw [e1]
    obtain ⟨h1, h2, h3, h4⟩ := okP_t h
    exact check_yes p n b w h1 h2 h3 h4

theorem rcheck_all (p n : Int) (b : Bool) (w : World) :
    Calls Try.prog 46 #[.agg #[.int .i64 p, .bool b], .int .i64 n] w fun e w' => e = .returned (.int .i64 (chkI p n)) ∧ Below w.heap.size w w' := by
  cases h : okP p n
  · have e1 : chkI p n = 2 := by
      unfold chkI
      rw [h]
      rfl
    rw [e1]
    exact rcheck_no p n b w (okP_f h)
  · have e1 : chkI p n = 0 := by
      unfold chkI
      rw [h]
      rfl
    rw [e1]
    obtain ⟨h1, h2, h3, h4⟩ := okP_t h
    exact rcheck_yes p n b w h1 h2 h3 h4

theorem rgo_no (p d n : Int) (b : Bool) (w : World) (h : (n < 1 ∨ 32768 < n ∨ p < 0 ∨ n ≤ p) ∨ d < 0 ∨ n < d) :
    Calls Try.prog 48 #[.agg #[.int .i64 p, .bool b], .int .i64 d, .int .i64 n] w fun e w' => e = .returned (.tuple #[.agg #[.int .i64 0, .bool false], .int .i64 2]) ∧ Below w.heap.size w w' := by
  by_cases hc : n < 1 ∨ 32768 < n ∨ p < 0 ∨ n ≤ p
  · clear h
    go_enter Try.func48, Try.ntmps48
    go_wp2_with (go_at_call 46; refine (rcheck_no _ _ _ _ hc).mono ?_; rintro e w1 ⟨rfl, hb⟩; have c0 := hb.cell (p := ⟨w.heap.size + 1, 0, none⟩) (by simp); have c1 := hb.cell (p := ⟨w.heap.size + 1, 1, none⟩) (by simp); have f0 := hb.frozen (p := ⟨w.heap.size + 1, 0, none⟩) (by simp); have f1 := hb.frozen (p := ⟨w.heap.size + 1, 1, none⟩) (by simp); simp [go_sem] at c0 c1 f0 f1)
    exact bodyPost_ret (v := .tuple #[.agg #[.int .i64 0, .bool false], .int .i64 2]) (by simp [results, Try.results48, go_sem, c0, c1]) rfl ⟨rfl, (((((Below.refl _ _).alloc (Nat.le_refl _) _).alloc (by simp) _).trans (hb.mono (by simp; omega))).setCell (by simp) _).setCell (by simp) _⟩
  · have h1 : 1 ≤ n := by omega
    have h2 : n ≤ 32768 := by omega
    have h3 : 0 ≤ p := by omega
    have h4 : p < n := by omega
    by_cases hd : d < 0
    · clear h hc
      go_enter Try.func48, Try.ntmps48
      go_wp2
      exact bodyPost_ret (v := .tuple #[.agg #[.int .i64 0, .bool false], .int .i64 2]) (by simp [results, Try.results48, go_sem]) rfl ⟨rfl, (by repeat (first | exact Below.refl _ _ | (refine Below.alloc ?_ (by first | omega | (simp; done) | (simp; omega)) _) | (refine Below.setCell ?_ (by first | omega | (simp; done) | (simp; omega)) _)))⟩
    · have hd2 : n < d := by omega
      have hd3 : 0 ≤ d := by omega
      clear h hc hd
      go_enter Try.func48, Try.ntmps48
      go_wp2
      exact bodyPost_ret (v := .tuple #[.agg #[.int .i64 0, .bool false], .int .i64 2]) (by simp [results, Try.results48, go_sem]) rfl ⟨rfl, (by repeat (first | exact Below.refl _ _ | (refine Below.alloc ?_ (by first | omega | (simp; done) | (simp; omega)) _) | (refine Below.setCell ?_ (by first | omega | (simp; done) | (simp; omega)) _)))⟩

theorem rgo_any (p d n : Int) (b : Bool) (w : World) (h1 : 1 ≤ n) (h2 : n ≤ 32768) (h3 : 0 ≤ p) (h4 : p < n) (h5 : 0 ≤ d) (h6 : d ≤ n) :
    Calls Try.prog 48 #[.agg #[.int .i64 p, .bool b], .int .i64 d, .int .i64 n] w fun e w' => e = .returned (.tuple #[.agg #[.int .i64 (goA p d n), .bool (goW p d n b)], .int .i64 0]) ∧ Below w.heap.size w w' := by
  by_cases h : p + d < n
  · have e1 : goA p d n = p + d := by
      unfold goA
      rw [if_pos h]
    have e2 : goW p d n b = b := by
      unfold goW
      rw [if_pos h]
    rw [e1, e2]
    exact rgo_in p d n b w h1 h2 h3 h4 h5 h6 h
  · have e1 : goA p d n = p + d - n := by
      unfold goA
      rw [if_neg h]
    have e2 : goW p d n b = !b := by
      unfold goW
      rw [if_neg h]
    rw [e1, e2]
    exact rgo_over p d n b w h1 h2 h3 h4 h5 h6 (by omega)

def okG (p d n : Int) : Bool := okP p n && okM d n
def gA (p d n : Int) : Int := if okG p d n = true then goA p d n else 0
def gW (p d n : Int) (b : Bool) : Bool := if okG p d n = true then goW p d n b else false
def gE (p d n : Int) : Int := if okG p d n = true then 0 else 2
theorem go_all (p d n : Int) (b : Bool) (w : World) :
    Calls Try.prog 67 #[.agg #[.int .i64 p, .bool b], .int .i64 d, .int .i64 n] w fun e w' => e = .returned (.tuple #[.agg #[.int .i64 (gA p d n), .bool (gW p d n b)], .int .i64 (gE p d n)]) ∧ Below w.heap.size w w' := by
  unfold gA gW gE okG
  cases h : okP p n
  · exact go_no p d n b w (Or.inl (okP_f h))
  · cases hm : okM d n
    · exact go_no p d n b w (Or.inr (okM_f hm))
    · obtain ⟨h1, h2, h3, h4⟩ := okP_t h
      obtain ⟨h5, h6⟩ := okM_t hm
      exact go_any p d n b w h1 h2 h3 h4 h5 h6

theorem rgo_all (p d n : Int) (b : Bool) (w : World) :
    Calls Try.prog 48 #[.agg #[.int .i64 p, .bool b], .int .i64 d, .int .i64 n] w fun e w' => e = .returned (.tuple #[.agg #[.int .i64 (gA p d n), .bool (gW p d n b)], .int .i64 (gE p d n)]) ∧ Below w.heap.size w w' := by
  unfold gA gW gE okG
  cases h : okP p n
  · exact rgo_no p d n b w (Or.inl (okP_f h))
  · cases hm : okM d n
    · exact rgo_no p d n b w (Or.inr (okM_f hm))
    · obtain ⟨h1, h2, h3, h4⟩ := okP_t h
      obtain ⟨h5, h6⟩ := okM_t hm
      exact rgo_any p d n b w h1 h2 h3 h4 h5 h6

def okSz (n : Int) : Bool := decide (1 ≤ n ∧ n ≤ 32768)
theorem okSz_t {n : Int} (h : okSz n = true) : 1 ≤ n ∧ n ≤ 32768 := by simpa [okSz] using h
theorem okSz_f {n : Int} (h : okSz n = false) : n < 1 ∨ 32768 < n := by
  simp [okSz] at h
  omega
def rdOk (x n : Int) : Bool := okSz n && decide (x % 32768 < n)
def rdA (x n : Int) : Int := if rdOk x n = true then x % 32768 else 0
def rdW (x n : Int) : Bool := if rdOk x n = true then decide (32768 ≤ x) else false
def rdpE (x n : Int) : Int := if okSz n = true then (if rdOk x n = true then 0 else 4) else 2
def naOk (ea na d n : Int) : Bool := okP ea n && (okP na n && okM d n)
def naB (ea na d n : Int) (eb nb : Bool) : Bool := if naOk ea na d n = true then needAtB ea na d n eb nb else false
def naE (ea na d n : Int) : Int := if naOk ea na d n = true then 0 else 2
def bwOk (ea na n : Int) : Bool := okP ea n && okP na n
def bwV (ea na n : Int) (eb nb : Bool) : Int := if bwOk ea na n = true then btw ea na n eb nb else 0
def bwE (ea na n : Int) : Int := if bwOk ea na n = true then 0 else 2
end Go.Proofs.Ytgdokgpplldddaa
