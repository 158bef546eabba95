/-
  No cell of these rows narrows 'for every input' (looked for: loops, veiled, ifaces, maps, wideKeys, modest, calm, conditions, laid).
  DERIVED. THE GIVEN ROWS OF THIS SEAT. 5 by the template 'for every input the law returns true; each argument reads behind the call as it read before'; 0 by the template 'total and deterministic' (their statements: YteolnghnlfeakaaTotals.lean).
  GIVEN WITH THE SEED: the statements are not yours to turn. If you find one false, say at which input.
  Laid BY PROGRAM, IN A SANDBOX (cutbox-rows.mjs): the forced cells as the released guide's own fill.sh prints them over the translation 52d54b68f0898f6f… (all of the seat's roots in one cut). By AI agents, Wed Nov 11 2026. No macro, syntax, notation, axiom, sorry.
-/
import Derived.Test.YteolnghnlfeakaaChecked
import GoSem.Claim
import GoSem.ClaimJoined
import GoSem.ClaimMapViews
import Derived.JoinedTies
import Derived.KernelRfl
namespace Go.Proofs.Yteolnghnlfeakaa
/- THE CELL 'sum', in the pinned program and in every row, IS THE sha256 OF THE DUMP (.gsa) THAT YteolnghnlfeakaaProg.lean LOADS. Nothing in Lean hashes anything: it is a label: what it is worth is what the hold of that sum in a sandbox is worth. -/
noncomputable def Try.pinned : Pinned := { name := "yteolnghnlfeakaa", sum := "52d54b68f0898f6f09fde1a9339e80d4a9775196f4a3116c9a74cceecb93a4f7", checked := Try.checked }
namespace Rows
def none {H : Type} : Left H := { results := [], args := [] }

/-- 'dumbwaiterlaw05.SegNames': WHATEVER THE INPUT: true; the input reads as it did. -/
def segNamesSpec : ChangeSpec := { name := "segNames", fn := fun _ => fun
  | [] => { results := [.lit (.bool true)], args := [] }
  | _ => none }
def segNamesRow : OpenClaim := { program := "yteolnghnlfeakaa", sum := "52d54b68f0898f6f09fde1a9339e80d4a9775196f4a3116c9a74cceecb93a4f7", func := "dumbwaiter/dumbwaiterlaw05.SegNames", spec := "segNames", unfollowed := true, recurses := true, apart := false }
def SegNamesSaid : Prop := segNamesRow.holds Try.pinned (OpenSpec.ofChange segNamesSpec)

/-- ITS FALSE NEIGHBOUR: 'it returns false'. Refute it at one input. -/
def segNamesWrong : ChangeSpec := { name := "segNames", fn := fun _ => fun
  | [] => { results := [.lit (.bool false)], args := [] }
  | _ => none }
def SegNamesWrongFalsely : Prop := segNamesRow.holds Try.pinned (OpenSpec.ofChange segNamesWrong)

/-- 'dumbwaiterlaw05.SegCalls': WHATEVER THE INPUT: true; the input reads as it did. -/
def segCallsSpec : ChangeSpec := { name := "segCalls", fn := fun _ => fun
  | [d1, d2, d3, d4, d5, d6, d7] => { results := [.lit (.bool true)], args := [d1, d2, d3, d4, d5, d6, d7] }
  | _ => none }
def segCallsRow : OpenClaim := { program := "yteolnghnlfeakaa", sum := "52d54b68f0898f6f09fde1a9339e80d4a9775196f4a3116c9a74cceecb93a4f7", func := "dumbwaiter/dumbwaiterlaw05.SegCalls", spec := "segCalls", unfollowed := true, recurses := true, apart := false }
def SegCallsSaid : Prop := segCallsRow.holds Try.pinned (OpenSpec.ofChange segCallsSpec)

/-- ITS FALSE NEIGHBOUR: 'it returns false'. Refute it at one input. -/
def segCallsWrong : ChangeSpec := { name := "segCalls", fn := fun _ => fun
  | [d1, d2, d3, d4, d5, d6, d7] => { results := [.lit (.bool false)], args := [d1, d2, d3, d4, d5, d6, d7] }
  | _ => none }
def SegCallsWrongFalsely : Prop := segCallsRow.holds Try.pinned (OpenSpec.ofChange segCallsWrong)

/-- 'dumbwaiterlaw05.SegScatters': WHATEVER THE INPUT: true; the input reads as it did. -/
def segScattersSpec : ChangeSpec := { name := "segScatters", fn := fun _ => fun
  | [d1, d2, d3] => { results := [.lit (.bool true)], args := [d1, d2, d3] }
  | _ => none }
def segScattersRow : OpenClaim := { program := "yteolnghnlfeakaa", sum := "52d54b68f0898f6f09fde1a9339e80d4a9775196f4a3116c9a74cceecb93a4f7", func := "dumbwaiter/dumbwaiterlaw05.SegScatters", spec := "segScatters", unfollowed := true, recurses := true, apart := false }
def SegScattersSaid : Prop := segScattersRow.holds Try.pinned (OpenSpec.ofChange segScattersSpec)

/-- ITS FALSE NEIGHBOUR: 'it returns false'. Refute it at one input. -/
def segScattersWrong : ChangeSpec := { name := "segScatters", fn := fun _ => fun
  | [d1, d2, d3] => { results := [.lit (.bool false)], args := [d1, d2, d3] }
  | _ => none }
def SegScattersWrongFalsely : Prop := segScattersRow.holds Try.pinned (OpenSpec.ofChange segScattersWrong)

/-- 'dumbwaiterlaw05.SegCuts': WHATEVER THE INPUT: true; the input reads as it did. -/
def segCutsSpec : ChangeSpec := { name := "segCuts", fn := fun _ => fun
  | [d1, d2, d3, d4] => { results := [.lit (.bool true)], args := [d1, d2, d3, d4] }
  | _ => none }
def segCutsRow : OpenClaim := { program := "yteolnghnlfeakaa", sum := "52d54b68f0898f6f09fde1a9339e80d4a9775196f4a3116c9a74cceecb93a4f7", func := "dumbwaiter/dumbwaiterlaw05.SegCuts", spec := "segCuts", apart := false }
def SegCutsSaid : Prop := segCutsRow.holds Try.pinned (OpenSpec.ofChange segCutsSpec)

/-- ITS FALSE NEIGHBOUR: 'it returns false'. Refute it at one input. -/
def segCutsWrong : ChangeSpec := { name := "segCuts", fn := fun _ => fun
  | [d1, d2, d3, d4] => { results := [.lit (.bool false)], args := [d1, d2, d3, d4] }
  | _ => none }
def SegCutsWrongFalsely : Prop := segCutsRow.holds Try.pinned (OpenSpec.ofChange segCutsWrong)

/-- 'dumbwaiterlaw05.SegBoth': WHATEVER THE INPUT: true; the input reads as it did. -/
def segBothSpec : ChangeSpec := { name := "segBoth", fn := fun _ => fun
  | [d1, d2, d3] => { results := [.lit (.bool true)], args := [d1, d2, d3] }
  | _ => none }
def segBothRow : OpenClaim := { program := "yteolnghnlfeakaa", sum := "52d54b68f0898f6f09fde1a9339e80d4a9775196f4a3116c9a74cceecb93a4f7", func := "dumbwaiter/dumbwaiterlaw05.SegBoth", spec := "segBoth", unfollowed := true, recurses := true, apart := false }
def SegBothSaid : Prop := segBothRow.holds Try.pinned (OpenSpec.ofChange segBothSpec)

/-- ITS FALSE NEIGHBOUR: 'it returns false'. Refute it at one input. -/
def segBothWrong : ChangeSpec := { name := "segBoth", fn := fun _ => fun
  | [d1, d2, d3] => { results := [.lit (.bool false)], args := [d1, d2, d3] }
  | _ => none }
def SegBothWrongFalsely : Prop := segBothRow.holds Try.pinned (OpenSpec.ofChange segBothWrong)

/- THE SECOND FORM. 'bulk': how many values and letters a reading holds, each counted each time it is reached (what is shared counts as often as it is met; a slice's spare places count too). A statement '..UptoSaid' is the law's where the arguments, and the package variables that the reading takes, are together of bulk at most 1048576: NARROWER than '..Said'. Prove '..Said' where nothing that the law and all that it calls make is longer than what came in: it says more and counts as full. Else prove '..UptoSaid'. A law counts once. -/
mutual
def uptoBulk {H : Type} : DataW H → Nat
  | .lit (.string bytes) => bytes.length + 1
  | .lit _ => 1
  | .nil => 1
  | .ptr d => uptoBulk d + 1
  | .slice elems spare => uptoBulkAll elems + uptoBulkAll spare + 1
  | .agg parts => uptoBulkAll parts + 1
  | .iface _ d => uptoBulk d + 1
  | .map entries => uptoBulkEntries entries + 1
  | .held _ => 1
def uptoBulkAll {H : Type} : List (DataW H) → Nat
  | [] => 0
  | d :: r => uptoBulk d + uptoBulkAll r
def uptoBulkEntries {H : Type} : List (Lit × DataW H) → Nat
  | [] => 0
  | x :: r => uptoBulkEntry x + uptoBulkEntries r
def uptoBulkEntry {H : Type} : Lit × DataW H → Nat
  | (.string bytes, d) => bytes.length + uptoBulk d + 1
  | (_, d) => uptoBulk d + 1
 end
def uptoSmall : (H : Type) → List (DataW H) → Bool := fun _ ds => decide (uptoBulkAll ds ≤ 1048576)
def OpenSpec.upto (s : _root_.Go.ChangeSpec) : _root_.Go.OpenSpec := { _root_.Go.OpenSpec.ofChange s with cond := some uptoSmall }

/-- 'dumbwaiterlaw05.SegNames', WHERE WHAT IT READS IS OF BULK AT MOST 1048576: true; the input reads as it did. -/
def segNamesUptoRow : OpenClaim := { program := "yteolnghnlfeakaa", sum := "52d54b68f0898f6f09fde1a9339e80d4a9775196f4a3116c9a74cceecb93a4f7", func := "dumbwaiter/dumbwaiterlaw05.SegNames", spec := "segNames", unfollowed := true, recurses := true, apart := false, narrowed := true }
def SegNamesUptoSaid : Prop := segNamesUptoRow.holds Try.pinned (OpenSpec.upto segNamesSpec)

/-- 'dumbwaiterlaw05.SegCalls', WHERE WHAT IT READS IS OF BULK AT MOST 1048576: true; the input reads as it did. -/
def segCallsUptoRow : OpenClaim := { program := "yteolnghnlfeakaa", sum := "52d54b68f0898f6f09fde1a9339e80d4a9775196f4a3116c9a74cceecb93a4f7", func := "dumbwaiter/dumbwaiterlaw05.SegCalls", spec := "segCalls", unfollowed := true, recurses := true, apart := false, narrowed := true }
def SegCallsUptoSaid : Prop := segCallsUptoRow.holds Try.pinned (OpenSpec.upto segCallsSpec)

/-- 'dumbwaiterlaw05.SegScatters', WHERE WHAT IT READS IS OF BULK AT MOST 1048576: true; the input reads as it did. -/
def segScattersUptoRow : OpenClaim := { program := "yteolnghnlfeakaa", sum := "52d54b68f0898f6f09fde1a9339e80d4a9775196f4a3116c9a74cceecb93a4f7", func := "dumbwaiter/dumbwaiterlaw05.SegScatters", spec := "segScatters", unfollowed := true, recurses := true, apart := false, narrowed := true }
def SegScattersUptoSaid : Prop := segScattersUptoRow.holds Try.pinned (OpenSpec.upto segScattersSpec)

/-- 'dumbwaiterlaw05.SegCuts', WHERE WHAT IT READS IS OF BULK AT MOST 1048576: true; the input reads as it did. -/
def segCutsUptoRow : OpenClaim := { program := "yteolnghnlfeakaa", sum := "52d54b68f0898f6f09fde1a9339e80d4a9775196f4a3116c9a74cceecb93a4f7", func := "dumbwaiter/dumbwaiterlaw05.SegCuts", spec := "segCuts", apart := false, narrowed := true }
def SegCutsUptoSaid : Prop := segCutsUptoRow.holds Try.pinned (OpenSpec.upto segCutsSpec)

/-- 'dumbwaiterlaw05.SegBoth', WHERE WHAT IT READS IS OF BULK AT MOST 1048576: true; the input reads as it did. -/
def segBothUptoRow : OpenClaim := { program := "yteolnghnlfeakaa", sum := "52d54b68f0898f6f09fde1a9339e80d4a9775196f4a3116c9a74cceecb93a4f7", func := "dumbwaiter/dumbwaiterlaw05.SegBoth", spec := "segBoth", unfollowed := true, recurses := true, apart := false, narrowed := true }
def SegBothUptoSaid : Prop := segBothUptoRow.holds Try.pinned (OpenSpec.upto segBothSpec)

end Rows
end Go.Proofs.Yteolnghnlfeakaa
