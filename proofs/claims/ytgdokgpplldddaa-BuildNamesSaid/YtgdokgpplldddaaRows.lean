/-
  No cell of these rows narrows 'for every input' (looked for: loops, veiled, ifaces, maps, wideKeys, modest, calm, conditions, laid).
  DERIVED. THE GIVEN ROWS OF THIS SEAT. 4 by the template 'for every input the law returns true; each argument reads behind the call as it read before'; 0 by the template 'total and deterministic' (their statements: YtgdokgpplldddaaTotals.lean).
  GIVEN WITH THE SEED: the statements are not yours to turn. If you find one false, say at which input.
  Laid BY PROGRAM, IN A SANDBOX (cutbox-rows.mjs): the forced cells as the released guide's own fill.sh prints them over the translation 1329c616f7bdf4ce… (all of the seat's roots in one cut). By AI agents, Wed Nov 11 2026. No macro, syntax, notation, axiom, sorry.
-/
import Derived.Test.YtgdokgpplldddaaChecked
import GoSem.Claim
import GoSem.ClaimJoined
import GoSem.ClaimMapViews
import Derived.JoinedTies
import Derived.KernelRfl
namespace Go.Proofs.Ytgdokgpplldddaa
/- THE CELL 'sum', in the pinned program and in every row, IS THE sha256 OF THE DUMP (.gsa) THAT YtgdokgpplldddaaProg.lean LOADS. Nothing in Lean hashes anything: it is a label: what it is worth is what the hold of that sum in a sandbox is worth. -/
noncomputable def Try.pinned : Pinned := { name := "ytgdokgpplldddaa", sum := "1329c616f7bdf4ce916de43e4e7e47b55546badd6df7dda714b699eef314de72", checked := Try.checked }
namespace Rows
def none {H : Type} : Left H := { results := [], args := [] }

/-- 'dumbwaiterlaw09.BuildNames': WHATEVER THE INPUT: true; the input reads as it did. -/
def buildNamesSpec : ChangeSpec := { name := "buildNames", fn := fun _ => fun
  | [] => { results := [.lit (.bool true)], args := [] }
  | _ => none }
def buildNamesRow : OpenClaim := { program := "ytgdokgpplldddaa", sum := "1329c616f7bdf4ce916de43e4e7e47b55546badd6df7dda714b699eef314de72", func := "dumbwaiter/dumbwaiterlaw09.BuildNames", spec := "buildNames", unfollowed := true, recurses := true, apart := false }
def BuildNamesSaid : Prop := buildNamesRow.holds Try.pinned (OpenSpec.ofChange buildNamesSpec)

/-- ITS FALSE NEIGHBOUR: 'it returns false'. Refute it at one input. -/
def buildNamesWrong : ChangeSpec := { name := "buildNames", fn := fun _ => fun
  | [] => { results := [.lit (.bool false)], args := [] }
  | _ => none }
def BuildNamesWrongFalsely : Prop := buildNamesRow.holds Try.pinned (OpenSpec.ofChange buildNamesWrong)

/-- 'dumbwaiterlaw09.BuildCalls': WHATEVER THE INPUT: true; the input reads as it did. -/
def buildCallsSpec : ChangeSpec := { name := "buildCalls", fn := fun _ => fun
  | [d1, d2, d3, d4, d5, d6, d7] => { results := [.lit (.bool true)], args := [d1, d2, d3, d4, d5, d6, d7] }
  | _ => none }
def buildCallsRow : OpenClaim := { program := "ytgdokgpplldddaa", sum := "1329c616f7bdf4ce916de43e4e7e47b55546badd6df7dda714b699eef314de72", func := "dumbwaiter/dumbwaiterlaw09.BuildCalls", spec := "buildCalls", unfollowed := true, recurses := true, apart := false }
def BuildCallsSaid : Prop := buildCallsRow.holds Try.pinned (OpenSpec.ofChange buildCallsSpec)

/-- ITS FALSE NEIGHBOUR: 'it returns false'. Refute it at one input. -/
def buildCallsWrong : ChangeSpec := { name := "buildCalls", fn := fun _ => fun
  | [d1, d2, d3, d4, d5, d6, d7] => { results := [.lit (.bool false)], args := [d1, d2, d3, d4, d5, d6, d7] }
  | _ => none }
def BuildCallsWrongFalsely : Prop := buildCallsRow.holds Try.pinned (OpenSpec.ofChange buildCallsWrong)

/-- 'dumbwaiterlaw09.BuildTells': WHATEVER THE INPUT: true; the input reads as it did. -/
def buildTellsSpec : ChangeSpec := { name := "buildTells", fn := fun _ => fun
  | [d1, d2, d3, d4, d5, d6] => { results := [.lit (.bool true)], args := [d1, d2, d3, d4, d5, d6] }
  | _ => none }
def buildTellsRow : OpenClaim := { program := "ytgdokgpplldddaa", sum := "1329c616f7bdf4ce916de43e4e7e47b55546badd6df7dda714b699eef314de72", func := "dumbwaiter/dumbwaiterlaw09.BuildTells", spec := "buildTells", unfollowed := true, recurses := true, apart := false }
def BuildTellsSaid : Prop := buildTellsRow.holds Try.pinned (OpenSpec.ofChange buildTellsSpec)

/-- ITS FALSE NEIGHBOUR: 'it returns false'. Refute it at one input. -/
def buildTellsWrong : ChangeSpec := { name := "buildTells", fn := fun _ => fun
  | [d1, d2, d3, d4, d5, d6] => { results := [.lit (.bool false)], args := [d1, d2, d3, d4, d5, d6] }
  | _ => none }
def BuildTellsWrongFalsely : Prop := buildTellsRow.holds Try.pinned (OpenSpec.ofChange buildTellsWrong)

/-- 'dumbwaiterlaw09.BuildTables': WHATEVER THE INPUT: true; the input reads as it did. -/
def buildTablesSpec : ChangeSpec := { name := "buildTables", fn := fun _ => fun
  | [d1, d2, d3, d4, d5] => { results := [.lit (.bool true)], args := [d1, d2, d3, d4, d5] }
  | _ => none }
def buildTablesRow : OpenClaim := { program := "ytgdokgpplldddaa", sum := "1329c616f7bdf4ce916de43e4e7e47b55546badd6df7dda714b699eef314de72", func := "dumbwaiter/dumbwaiterlaw09.BuildTables", spec := "buildTables", unfollowed := true, recurses := true, apart := false }
def BuildTablesSaid : Prop := buildTablesRow.holds Try.pinned (OpenSpec.ofChange buildTablesSpec)

/-- ITS FALSE NEIGHBOUR: 'it returns false'. Refute it at one input. -/
def buildTablesWrong : ChangeSpec := { name := "buildTables", fn := fun _ => fun
  | [d1, d2, d3, d4, d5] => { results := [.lit (.bool false)], args := [d1, d2, d3, d4, d5] }
  | _ => none }
def BuildTablesWrongFalsely : Prop := buildTablesRow.holds Try.pinned (OpenSpec.ofChange buildTablesWrong)

/- THE SECOND FORM. 'bulk': how many values and letters a reading holds, each counted each time it is reached (what is shared counts as often as it is met; a slice's spare places count too). A statement '..UptoSaid' is the law's where the arguments, and the package variables that the reading takes, are together of bulk at most 1048576: NARROWER than '..Said'. Prove '..Said' where nothing that the law and all that it calls make is longer than what came in: it says more and counts as full. Else prove '..UptoSaid'. A law counts once. -/
mutual
def uptoBulk {H : Type} : DataW H → Nat
  | .lit (.string bytes) => bytes.length + 1
  | .lit _ => 1
  | .nil => 1
  | .ptr d => uptoBulk d + 1
  | .slice elems spare => uptoBulkAll elems + uptoBulkAll spare + 1
  | .agg parts => uptoBulkAll parts + 1
  | .iface _ d => uptoBulk d + 1
  | .map entries => uptoBulkEntries entries + 1
  | .held _ => 1
def uptoBulkAll {H : Type} : List (DataW H) → Nat
  | [] => 0
  | d :: r => uptoBulk d + uptoBulkAll r
def uptoBulkEntries {H : Type} : List (Lit × DataW H) → Nat
  | [] => 0
  | x :: r => uptoBulkEntry x + uptoBulkEntries r
def uptoBulkEntry {H : Type} : Lit × DataW H → Nat
  | (.string bytes, d) => bytes.length + uptoBulk d + 1
  | (_, d) => uptoBulk d + 1
 end
def uptoSmall : (H : Type) → List (DataW H) → Bool := fun _ ds => decide (uptoBulkAll ds ≤ 1048576)
def OpenSpec.upto (s : _root_.Go.ChangeSpec) : _root_.Go.OpenSpec := { _root_.Go.OpenSpec.ofChange s with cond := some uptoSmall }

/-- 'dumbwaiterlaw09.BuildNames', WHERE WHAT IT READS IS OF BULK AT MOST 1048576: true; the input reads as it did. -/
def buildNamesUptoRow : OpenClaim := { program := "ytgdokgpplldddaa", sum := "1329c616f7bdf4ce916de43e4e7e47b55546badd6df7dda714b699eef314de72", func := "dumbwaiter/dumbwaiterlaw09.BuildNames", spec := "buildNames", unfollowed := true, recurses := true, apart := false, narrowed := true }
def BuildNamesUptoSaid : Prop := buildNamesUptoRow.holds Try.pinned (OpenSpec.upto buildNamesSpec)

/-- 'dumbwaiterlaw09.BuildCalls', WHERE WHAT IT READS IS OF BULK AT MOST 1048576: true; the input reads as it did. -/
def buildCallsUptoRow : OpenClaim := { program := "ytgdokgpplldddaa", sum := "1329c616f7bdf4ce916de43e4e7e47b55546badd6df7dda714b699eef314de72", func := "dumbwaiter/dumbwaiterlaw09.BuildCalls", spec := "buildCalls", unfollowed := true, recurses := true, apart := false, narrowed := true }
def BuildCallsUptoSaid : Prop := buildCallsUptoRow.holds Try.pinned (OpenSpec.upto buildCallsSpec)

/-- 'dumbwaiterlaw09.BuildTells', WHERE WHAT IT READS IS OF BULK AT MOST 1048576: true; the input reads as it did. -/
def buildTellsUptoRow : OpenClaim := { program := "ytgdokgpplldddaa", sum := "1329c616f7bdf4ce916de43e4e7e47b55546badd6df7dda714b699eef314de72", func := "dumbwaiter/dumbwaiterlaw09.BuildTells", spec := "buildTells", unfollowed := true, recurses := true, apart := false, narrowed := true }
def BuildTellsUptoSaid : Prop := buildTellsUptoRow.holds Try.pinned (OpenSpec.upto buildTellsSpec)

/-- 'dumbwaiterlaw09.BuildTables', WHERE WHAT IT READS IS OF BULK AT MOST 1048576: true; the input reads as it did. -/
def buildTablesUptoRow : OpenClaim := { program := "ytgdokgpplldddaa", sum := "1329c616f7bdf4ce916de43e4e7e47b55546badd6df7dda714b699eef314de72", func := "dumbwaiter/dumbwaiterlaw09.BuildTables", spec := "buildTables", unfollowed := true, recurses := true, apart := false, narrowed := true }
def BuildTablesUptoSaid : Prop := buildTablesUptoRow.holds Try.pinned (OpenSpec.upto buildTablesSpec)

end Rows
end Go.Proofs.Ytgdokgpplldddaa
