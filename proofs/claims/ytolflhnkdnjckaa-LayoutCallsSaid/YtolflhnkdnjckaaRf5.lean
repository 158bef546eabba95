/- The reference's Write, and append of layer 2. Conditions: as each theorem names them. -/
import Derived.Test.YtolflhnkdnjckaaRf4
namespace Go.Proofs.Ytolflhnkdnjckaa
open Go.ChangeShapes Go.WideShapes Go.ChangeAt Go.RowKit
set_option linter.unusedVariables false

/-- append([]byte{}, ..): new bytes -/
theorem append_new (w : World) (b o c : Nat) (l : List Int) (hl : l.length ≤ 2000000) (hb1 : b < w.heap.size) (hb3 : ∀ j, j < l.length → w.cell? ⟨b, o + j, none⟩ = some (.int .u8 (l.getD j 0))) :
    ∃ v' w', (∀ ty, (Builtin.append_ #[64, 64] ty #[.slice (some ⟨w.heap.size, 0, none⟩) 0 0, .slice (some ⟨b, o, none⟩) l.length c]).run Try.prog (w.alloc (.cells #[] 5)) = .ok v' w') ∧ NewBytes w.heap.size w' v' l ∧ Below w.heap.size w w' := by
  obtain ⟨i0, hi, hz0, hz1, hz2⟩ := info_parts rowU8
  have hown := World.ownsRow_made (e := 5) (size := 1) (base := w.heap.size) w #[] 0 (Nat.le_refl _) (by simp [maxLen]) rfl
  have hbase : w.heap.size ≤ (w.alloc (.cells #[] 5)).heap.size := by rw [sizeA]; omega
  have hb3' : ∀ j, j < l.length → (w.alloc (.cells #[] 5)).cell? ⟨b, o + j, none⟩ = some (.int .u8 (l.getD j 0)) := fun j hj =>
    ((Below.alloc (Below.refl _ _) (Nat.le_refl _) _ : Below w.heap.size w (w.alloc (.cells #[] 5))).cell (p := ⟨b, o + j, none⟩) hb1).trans (hb3 j hj)
  obtain ⟨v', w', h1, h2, h3, _⟩ := run_append_own (w.alloc (.cells #[] 5)) w.heap.size 64 64 5 i0 _ 1 1 Try.underlying64 hi hz0 hz1 hz2 rfl (by decide) _ 0 [] hown ⟨b, o, none⟩ l.length c (l.map (Value.int .u8)) (by simp) (news_of (c := c) hb3') one_of (by simp [maxLen]; omega) (by omega) hbase
  rw [List.nil_append] at h2
  exact ⟨v', w', fun ty => h1, newBytes_of h2, ((Below.refl _ _).alloc (Nat.le_refl _) _).trans (grown_below h3 hbase (fun k hk => by simp [Value.ownBlock] at hk; omega))⟩
end Go.Proofs.Ytolflhnkdnjckaa
