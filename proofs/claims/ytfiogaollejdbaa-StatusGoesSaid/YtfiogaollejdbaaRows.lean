/-
  No cell of these rows narrows 'for every input' (looked for: loops, veiled, ifaces, maps, wideKeys, modest, calm, conditions, laid).
  DERIVED. THE GIVEN ROWS OF THIS SEAT. 4 by the template 'for every input the law returns true; each argument reads behind the call as it read before'; 0 by the template 'total and deterministic' (their statements: YtfiogaollejdbaaTotals.lean).
  GIVEN WITH THE SEED: the statements are not yours to turn. If you find one false, say at which input.
  Laid BY PROGRAM, IN A SANDBOX (cutbox-rows.mjs): the forced cells as the released guide's own fill.sh prints them over the translation 215c0d1c05b23fe8… (all of the seat's roots in one cut). By AI agents, Wed Nov 11 2026. No macro, syntax, notation, axiom, sorry.
-/
import Derived.Test.YtfiogaollejdbaaChecked
import GoSem.Claim
import GoSem.ClaimJoined
import GoSem.ClaimMapViews
import Derived.JoinedTies
import Derived.KernelRfl
namespace Go.Proofs.Ytfiogaollejdbaa
/- THE CELL 'sum', in the pinned program and in every row, IS THE sha256 OF THE DUMP (.gsa) THAT YtfiogaollejdbaaProg.lean LOADS. Nothing in Lean hashes anything: it is a label: what it is worth is what the hold of that sum in a sandbox is worth. -/
noncomputable def Try.pinned : Pinned := { name := "ytfiogaollejdbaa", sum := "215c0d1c05b23fe83a40c61562706cc5f50ff10f5357c2f66a61499973bdbd0b", checked := Try.checked }
namespace Rows
def none {H : Type} : Left H := { results := [], args := [] }

/-- 'dumbwaiterlaw07.StatusNames': WHATEVER THE INPUT: true; the input reads as it did. -/
def statusNamesSpec : ChangeSpec := { name := "statusNames", fn := fun _ => fun
  | [] => { results := [.lit (.bool true)], args := [] }
  | _ => none }
def statusNamesRow : OpenClaim := { program := "ytfiogaollejdbaa", sum := "215c0d1c05b23fe83a40c61562706cc5f50ff10f5357c2f66a61499973bdbd0b", func := "dumbwaiter/dumbwaiterlaw07.StatusNames", spec := "statusNames", unfollowed := true, recurses := true, apart := false }
def StatusNamesSaid : Prop := statusNamesRow.holds Try.pinned (OpenSpec.ofChange statusNamesSpec)

/-- ITS FALSE NEIGHBOUR: 'it returns false'. Refute it at one input. -/
def statusNamesWrong : ChangeSpec := { name := "statusNames", fn := fun _ => fun
  | [] => { results := [.lit (.bool false)], args := [] }
  | _ => none }
def StatusNamesWrongFalsely : Prop := statusNamesRow.holds Try.pinned (OpenSpec.ofChange statusNamesWrong)

/-- 'dumbwaiterlaw07.StatusGoes': WHATEVER THE INPUT: true; the input reads as it did. -/
def statusGoesSpec : ChangeSpec := { name := "statusGoes", fn := fun _ => fun
  | [d1, d2, d3] => { results := [.lit (.bool true)], args := [d1, d2, d3] }
  | _ => none }
def statusGoesRow : OpenClaim := { program := "ytfiogaollejdbaa", sum := "215c0d1c05b23fe83a40c61562706cc5f50ff10f5357c2f66a61499973bdbd0b", func := "dumbwaiter/dumbwaiterlaw07.StatusGoes", spec := "statusGoes", unfollowed := true, recurses := true, apart := false }
def StatusGoesSaid : Prop := statusGoesRow.holds Try.pinned (OpenSpec.ofChange statusGoesSpec)

/-- ITS FALSE NEIGHBOUR: 'it returns false'. Refute it at one input. -/
def statusGoesWrong : ChangeSpec := { name := "statusGoes", fn := fun _ => fun
  | [d1, d2, d3] => { results := [.lit (.bool false)], args := [d1, d2, d3] }
  | _ => none }
def StatusGoesWrongFalsely : Prop := statusGoesRow.holds Try.pinned (OpenSpec.ofChange statusGoesWrong)

/-- 'dumbwaiterlaw07.StatusSteps': WHATEVER THE INPUT: true; the input reads as it did. -/
def statusStepsSpec : ChangeSpec := { name := "statusSteps", fn := fun _ => fun
  | [d1, d2] => { results := [.lit (.bool true)], args := [d1, d2] }
  | _ => none }
def statusStepsRow : OpenClaim := { program := "ytfiogaollejdbaa", sum := "215c0d1c05b23fe83a40c61562706cc5f50ff10f5357c2f66a61499973bdbd0b", func := "dumbwaiter/dumbwaiterlaw07.StatusSteps", spec := "statusSteps", unfollowed := true, recurses := true, apart := false }
def StatusStepsSaid : Prop := statusStepsRow.holds Try.pinned (OpenSpec.ofChange statusStepsSpec)

/-- ITS FALSE NEIGHBOUR: 'it returns false'. Refute it at one input. -/
def statusStepsWrong : ChangeSpec := { name := "statusSteps", fn := fun _ => fun
  | [d1, d2] => { results := [.lit (.bool false)], args := [d1, d2] }
  | _ => none }
def StatusStepsWrongFalsely : Prop := statusStepsRow.holds Try.pinned (OpenSpec.ofChange statusStepsWrong)

/-- 'dumbwaiterlaw07.StatusInits': WHATEVER THE INPUT: true; the input reads as it did. -/
def statusInitsSpec : ChangeSpec := { name := "statusInits", fn := fun _ => fun
  | [d1, d2] => { results := [.lit (.bool true)], args := [d1, d2] }
  | _ => none }
def statusInitsRow : OpenClaim := { program := "ytfiogaollejdbaa", sum := "215c0d1c05b23fe83a40c61562706cc5f50ff10f5357c2f66a61499973bdbd0b", func := "dumbwaiter/dumbwaiterlaw07.StatusInits", spec := "statusInits", unfollowed := true, recurses := true, apart := false }
def StatusInitsSaid : Prop := statusInitsRow.holds Try.pinned (OpenSpec.ofChange statusInitsSpec)

/-- ITS FALSE NEIGHBOUR: 'it returns false'. Refute it at one input. -/
def statusInitsWrong : ChangeSpec := { name := "statusInits", fn := fun _ => fun
  | [d1, d2] => { results := [.lit (.bool false)], args := [d1, d2] }
  | _ => none }
def StatusInitsWrongFalsely : Prop := statusInitsRow.holds Try.pinned (OpenSpec.ofChange statusInitsWrong)

/- THE SECOND FORM. 'bulk': how many values and letters a reading holds, each counted each time it is reached (what is shared counts as often as it is met; a slice's spare places count too). A statement '..UptoSaid' is the law's where the arguments, and the package variables that the reading takes, are together of bulk at most 1048576: NARROWER than '..Said'. Prove '..Said' where nothing that the law and all that it calls make is longer than what came in: it says more and counts as full. Else prove '..UptoSaid'. A law counts once. -/
mutual
def uptoBulk {H : Type} : DataW H → Nat
  | .lit (.string bytes) => bytes.length + 1
  | .lit _ => 1
  | .nil => 1
  | .ptr d => uptoBulk d + 1
  | .slice elems spare => uptoBulkAll elems + uptoBulkAll spare + 1
  | .agg parts => uptoBulkAll parts + 1
  | .iface _ d => uptoBulk d + 1
  | .map entries => uptoBulkEntries entries + 1
  | .held _ => 1
def uptoBulkAll {H : Type} : List (DataW H) → Nat
  | [] => 0
  | d :: r => uptoBulk d + uptoBulkAll r
def uptoBulkEntries {H : Type} : List (Lit × DataW H) → Nat
  | [] => 0
  | x :: r => uptoBulkEntry x + uptoBulkEntries r
def uptoBulkEntry {H : Type} : Lit × DataW H → Nat
  | (.string bytes, d) => bytes.length + uptoBulk d + 1
  | (_, d) => uptoBulk d + 1
 end
def uptoSmall : (H : Type) → List (DataW H) → Bool := fun _ ds => decide (uptoBulkAll ds ≤ 1048576)
def OpenSpec.upto (s : _root_.Go.ChangeSpec) : _root_.Go.OpenSpec := { _root_.Go.OpenSpec.ofChange s with cond := some uptoSmall }

/-- 'dumbwaiterlaw07.StatusNames', WHERE WHAT IT READS IS OF BULK AT MOST 1048576: true; the input reads as it did. -/
def statusNamesUptoRow : OpenClaim := { program := "ytfiogaollejdbaa", sum := "215c0d1c05b23fe83a40c61562706cc5f50ff10f5357c2f66a61499973bdbd0b", func := "dumbwaiter/dumbwaiterlaw07.StatusNames", spec := "statusNames", unfollowed := true, recurses := true, apart := false, narrowed := true }
def StatusNamesUptoSaid : Prop := statusNamesUptoRow.holds Try.pinned (OpenSpec.upto statusNamesSpec)

/-- 'dumbwaiterlaw07.StatusGoes', WHERE WHAT IT READS IS OF BULK AT MOST 1048576: true; the input reads as it did. -/
def statusGoesUptoRow : OpenClaim := { program := "ytfiogaollejdbaa", sum := "215c0d1c05b23fe83a40c61562706cc5f50ff10f5357c2f66a61499973bdbd0b", func := "dumbwaiter/dumbwaiterlaw07.StatusGoes", spec := "statusGoes", unfollowed := true, recurses := true, apart := false, narrowed := true }
def StatusGoesUptoSaid : Prop := statusGoesUptoRow.holds Try.pinned (OpenSpec.upto statusGoesSpec)

/-- 'dumbwaiterlaw07.StatusSteps', WHERE WHAT IT READS IS OF BULK AT MOST 1048576: true; the input reads as it did. -/
def statusStepsUptoRow : OpenClaim := { program := "ytfiogaollejdbaa", sum := "215c0d1c05b23fe83a40c61562706cc5f50ff10f5357c2f66a61499973bdbd0b", func := "dumbwaiter/dumbwaiterlaw07.StatusSteps", spec := "statusSteps", unfollowed := true, recurses := true, apart := false, narrowed := true }
def StatusStepsUptoSaid : Prop := statusStepsUptoRow.holds Try.pinned (OpenSpec.upto statusStepsSpec)

/-- 'dumbwaiterlaw07.StatusInits', WHERE WHAT IT READS IS OF BULK AT MOST 1048576: true; the input reads as it did. -/
def statusInitsUptoRow : OpenClaim := { program := "ytfiogaollejdbaa", sum := "215c0d1c05b23fe83a40c61562706cc5f50ff10f5357c2f66a61499973bdbd0b", func := "dumbwaiter/dumbwaiterlaw07.StatusInits", spec := "statusInits", unfollowed := true, recurses := true, apart := false, narrowed := true }
def StatusInitsUptoSaid : Prop := statusInitsUptoRow.holds Try.pinned (OpenSpec.upto statusInitsSpec)

end Rows
end Go.Proofs.Ytfiogaollejdbaa
