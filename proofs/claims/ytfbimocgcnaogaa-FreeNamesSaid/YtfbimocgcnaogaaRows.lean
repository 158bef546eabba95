/-
  No cell of these rows narrows 'for every input' (looked for: loops, veiled, ifaces, maps, wideKeys, modest, calm, conditions, laid).
  DERIVED. THE GIVEN ROWS OF THIS SEAT. 4 by the template 'for every input the law returns true; each argument reads behind the call as it read before'; 0 by the template 'total and deterministic' (their statements: YtfbimocgcnaogaaTotals.lean).
  GIVEN WITH THE SEED: the statements are not yours to turn. If you find one false, say at which input.
  Laid BY PROGRAM, IN A SANDBOX (cutbox-rows.mjs): the forced cells as the released guide's own fill.sh prints them over the translation e972d3ba51941aad… (all of the seat's roots in one cut). By AI agents, Wed Nov 11 2026. No macro, syntax, notation, axiom, sorry.
-/
import Derived.Test.YtfbimocgcnaogaaChecked
import GoSem.Claim
import GoSem.ClaimJoined
import GoSem.ClaimMapViews
import Derived.JoinedTies
import Derived.KernelRfl
namespace Go.Proofs.Ytfbimocgcnaogaa
/- THE CELL 'sum', in the pinned program and in every row, IS THE sha256 OF THE DUMP (.gsa) THAT YtfbimocgcnaogaaProg.lean LOADS. Nothing in Lean hashes anything: it is a label: what it is worth is what the hold of that sum in a sandbox is worth. -/
noncomputable def Try.pinned : Pinned := { name := "ytfbimocgcnaogaa", sum := "e972d3ba51941aad9de80822c3ad73295704ce085cc0534290cc78be23bdaab8", checked := Try.checked }
namespace Rows
def none {H : Type} : Left H := { results := [], args := [] }

/-- 'dumbwaiterlaw08.FreeNames': WHATEVER THE INPUT: true; the input reads as it did. -/
def freeNamesSpec : ChangeSpec := { name := "freeNames", fn := fun _ => fun
  | [] => { results := [.lit (.bool true)], args := [] }
  | _ => none }
def freeNamesRow : OpenClaim := { program := "ytfbimocgcnaogaa", sum := "e972d3ba51941aad9de80822c3ad73295704ce085cc0534290cc78be23bdaab8", func := "dumbwaiter/dumbwaiterlaw08.FreeNames", spec := "freeNames", apart := false }
def FreeNamesSaid : Prop := freeNamesRow.holds Try.pinned (OpenSpec.ofChange freeNamesSpec)

/-- ITS FALSE NEIGHBOUR: 'it returns false'. Refute it at one input. -/
def freeNamesWrong : ChangeSpec := { name := "freeNames", fn := fun _ => fun
  | [] => { results := [.lit (.bool false)], args := [] }
  | _ => none }
def FreeNamesWrongFalsely : Prop := freeNamesRow.holds Try.pinned (OpenSpec.ofChange freeNamesWrong)

/-- 'dumbwaiterlaw08.FreeCalls': WHATEVER THE INPUT: true; the input reads as it did. -/
def freeCallsSpec : ChangeSpec := { name := "freeCalls", fn := fun _ => fun
  | [d1, d2, d3, d4] => { results := [.lit (.bool true)], args := [d1, d2, d3, d4] }
  | _ => none }
def freeCallsRow : OpenClaim := { program := "ytfbimocgcnaogaa", sum := "e972d3ba51941aad9de80822c3ad73295704ce085cc0534290cc78be23bdaab8", func := "dumbwaiter/dumbwaiterlaw08.FreeCalls", spec := "freeCalls", apart := false }
def FreeCallsSaid : Prop := freeCallsRow.holds Try.pinned (OpenSpec.ofChange freeCallsSpec)

/-- ITS FALSE NEIGHBOUR: 'it returns false'. Refute it at one input. -/
def freeCallsWrong : ChangeSpec := { name := "freeCalls", fn := fun _ => fun
  | [d1, d2, d3, d4] => { results := [.lit (.bool false)], args := [d1, d2, d3, d4] }
  | _ => none }
def FreeCallsWrongFalsely : Prop := freeCallsRow.holds Try.pinned (OpenSpec.ofChange freeCallsWrong)

/-- 'dumbwaiterlaw08.FreeOnce': WHATEVER THE INPUT: true; the input reads as it did. -/
def freeOnceSpec : ChangeSpec := { name := "freeOnce", fn := fun _ => fun
  | [d1, d2] => { results := [.lit (.bool true)], args := [d1, d2] }
  | _ => none }
def freeOnceRow : OpenClaim := { program := "ytfbimocgcnaogaa", sum := "e972d3ba51941aad9de80822c3ad73295704ce085cc0534290cc78be23bdaab8", func := "dumbwaiter/dumbwaiterlaw08.FreeOnce", spec := "freeOnce", apart := false }
def FreeOnceSaid : Prop := freeOnceRow.holds Try.pinned (OpenSpec.ofChange freeOnceSpec)

/-- ITS FALSE NEIGHBOUR: 'it returns false'. Refute it at one input. -/
def freeOnceWrong : ChangeSpec := { name := "freeOnce", fn := fun _ => fun
  | [d1, d2] => { results := [.lit (.bool false)], args := [d1, d2] }
  | _ => none }
def FreeOnceWrongFalsely : Prop := freeOnceRow.holds Try.pinned (OpenSpec.ofChange freeOnceWrong)

/-- 'dumbwaiterlaw08.FreeOrders': WHATEVER THE INPUT: true; the input reads as it did. -/
def freeOrdersSpec : ChangeSpec := { name := "freeOrders", fn := fun _ => fun
  | [d1, d2, d3, d4] => { results := [.lit (.bool true)], args := [d1, d2, d3, d4] }
  | _ => none }
def freeOrdersRow : OpenClaim := { program := "ytfbimocgcnaogaa", sum := "e972d3ba51941aad9de80822c3ad73295704ce085cc0534290cc78be23bdaab8", func := "dumbwaiter/dumbwaiterlaw08.FreeOrders", spec := "freeOrders", apart := false }
def FreeOrdersSaid : Prop := freeOrdersRow.holds Try.pinned (OpenSpec.ofChange freeOrdersSpec)

/-- ITS FALSE NEIGHBOUR: 'it returns false'. Refute it at one input. -/
def freeOrdersWrong : ChangeSpec := { name := "freeOrders", fn := fun _ => fun
  | [d1, d2, d3, d4] => { results := [.lit (.bool false)], args := [d1, d2, d3, d4] }
  | _ => none }
def FreeOrdersWrongFalsely : Prop := freeOrdersRow.holds Try.pinned (OpenSpec.ofChange freeOrdersWrong)

/- THE SECOND FORM. 'bulk': how many values and letters a reading holds, each counted each time it is reached (what is shared counts as often as it is met; a slice's spare places count too). A statement '..UptoSaid' is the law's where the arguments, and the package variables that the reading takes, are together of bulk at most 1048576: NARROWER than '..Said'. Prove '..Said' where nothing that the law and all that it calls make is longer than what came in: it says more and counts as full. Else prove '..UptoSaid'. A law counts once. -/
mutual
def uptoBulk {H : Type} : DataW H → Nat
  | .lit (.string bytes) => bytes.length + 1
  | .lit _ => 1
  | .nil => 1
  | .ptr d => uptoBulk d + 1
  | .slice elems spare => uptoBulkAll elems + uptoBulkAll spare + 1
  | .agg parts => uptoBulkAll parts + 1
  | .iface _ d => uptoBulk d + 1
  | .map entries => uptoBulkEntries entries + 1
  | .held _ => 1
def uptoBulkAll {H : Type} : List (DataW H) → Nat
  | [] => 0
  | d :: r => uptoBulk d + uptoBulkAll r
def uptoBulkEntries {H : Type} : List (Lit × DataW H) → Nat
  | [] => 0
  | x :: r => uptoBulkEntry x + uptoBulkEntries r
def uptoBulkEntry {H : Type} : Lit × DataW H → Nat
  | (.string bytes, d) => bytes.length + uptoBulk d + 1
  | (_, d) => uptoBulk d + 1
 end
def uptoSmall : (H : Type) → List (DataW H) → Bool := fun _ ds => decide (uptoBulkAll ds ≤ 1048576)
def OpenSpec.upto (s : _root_.Go.ChangeSpec) : _root_.Go.OpenSpec := { _root_.Go.OpenSpec.ofChange s with cond := some uptoSmall }

/-- 'dumbwaiterlaw08.FreeNames', WHERE WHAT IT READS IS OF BULK AT MOST 1048576: true; the input reads as it did. -/
def freeNamesUptoRow : OpenClaim := { program := "ytfbimocgcnaogaa", sum := "e972d3ba51941aad9de80822c3ad73295704ce085cc0534290cc78be23bdaab8", func := "dumbwaiter/dumbwaiterlaw08.FreeNames", spec := "freeNames", apart := false, narrowed := true }
def FreeNamesUptoSaid : Prop := freeNamesUptoRow.holds Try.pinned (OpenSpec.upto freeNamesSpec)

/-- 'dumbwaiterlaw08.FreeCalls', WHERE WHAT IT READS IS OF BULK AT MOST 1048576: true; the input reads as it did. -/
def freeCallsUptoRow : OpenClaim := { program := "ytfbimocgcnaogaa", sum := "e972d3ba51941aad9de80822c3ad73295704ce085cc0534290cc78be23bdaab8", func := "dumbwaiter/dumbwaiterlaw08.FreeCalls", spec := "freeCalls", apart := false, narrowed := true }
def FreeCallsUptoSaid : Prop := freeCallsUptoRow.holds Try.pinned (OpenSpec.upto freeCallsSpec)

/-- 'dumbwaiterlaw08.FreeOnce', WHERE WHAT IT READS IS OF BULK AT MOST 1048576: true; the input reads as it did. -/
def freeOnceUptoRow : OpenClaim := { program := "ytfbimocgcnaogaa", sum := "e972d3ba51941aad9de80822c3ad73295704ce085cc0534290cc78be23bdaab8", func := "dumbwaiter/dumbwaiterlaw08.FreeOnce", spec := "freeOnce", apart := false, narrowed := true }
def FreeOnceUptoSaid : Prop := freeOnceUptoRow.holds Try.pinned (OpenSpec.upto freeOnceSpec)

/-- 'dumbwaiterlaw08.FreeOrders', WHERE WHAT IT READS IS OF BULK AT MOST 1048576: true; the input reads as it did. -/
def freeOrdersUptoRow : OpenClaim := { program := "ytfbimocgcnaogaa", sum := "e972d3ba51941aad9de80822c3ad73295704ce085cc0534290cc78be23bdaab8", func := "dumbwaiter/dumbwaiterlaw08.FreeOrders", spec := "freeOrders", apart := false, narrowed := true }
def FreeOrdersUptoSaid : Prop := freeOrdersUptoRow.holds Try.pinned (OpenSpec.upto freeOrdersSpec)

end Rows
end Go.Proofs.Ytfbimocgcnaogaa
