/-
  No cell of these rows narrows 'for every input' (looked for: loops, veiled, ifaces, maps, wideKeys, modest, calm, conditions, laid).
  DERIVED. THE GIVEN ROWS OF THIS SEAT. 6 by the template 'for every input the law returns true; each argument reads behind the call as it read before'; 0 by the template 'total and deterministic' (their statements: YtfjccpalkdmniaaTotals.lean).
  GIVEN WITH THE SEED: the statements are not yours to turn. If you find one false, say at which input.
  Laid BY PROGRAM, IN A SANDBOX (cutbox-rows.mjs): the forced cells as the released guide's own fill.sh prints them over the translation 1d1f28081b91cc12… (all of the seat's roots in one cut). By AI agents, Wed Nov 11 2026. No macro, syntax, notation, axiom, sorry.
-/
import Derived.Test.YtfjccpalkdmniaaChecked
import GoSem.Claim
import GoSem.ClaimJoined
import GoSem.ClaimMapViews
import Derived.JoinedTies
import Derived.KernelRfl
namespace Go.Proofs.Ytfjccpalkdmniaa
/- THE CELL 'sum', in the pinned program and in every row, IS THE sha256 OF THE DUMP (.gsa) THAT YtfjccpalkdmniaaProg.lean LOADS. Nothing in Lean hashes anything: it is a label: what it is worth is what the hold of that sum in a sandbox is worth. -/
noncomputable def Try.pinned : Pinned := { name := "ytfjccpalkdmniaa", sum := "1d1f28081b91cc122cb17486398b13303c258ebdae6e045a3665c7d7f043d0f5", checked := Try.checked }
namespace Rows
def none {H : Type} : Left H := { results := [], args := [] }

/-- 'dumbwaiterlaw02.GmemScript': WHATEVER THE INPUT: true; the input reads as it did. -/
def gmemScriptSpec : ChangeSpec := { name := "gmemScript", fn := fun _ => fun
  | [d1, d2] => { results := [.lit (.bool true)], args := [d1, d2] }
  | _ => none }
def gmemScriptRow : OpenClaim := { program := "ytfjccpalkdmniaa", sum := "1d1f28081b91cc122cb17486398b13303c258ebdae6e045a3665c7d7f043d0f5", func := "dumbwaiter/dumbwaiterlaw02.GmemScript", spec := "gmemScript", unfollowed := true, recurses := true, apart := false }
def GmemScriptSaid : Prop := gmemScriptRow.holds Try.pinned (OpenSpec.ofChange gmemScriptSpec)

/-- ITS FALSE NEIGHBOUR: 'it returns false'. Refute it at one input. -/
def gmemScriptWrong : ChangeSpec := { name := "gmemScript", fn := fun _ => fun
  | [d1, d2] => { results := [.lit (.bool false)], args := [d1, d2] }
  | _ => none }
def GmemScriptWrongFalsely : Prop := gmemScriptRow.holds Try.pinned (OpenSpec.ofChange gmemScriptWrong)

/-- 'dumbwaiterlaw03.DescNames': WHATEVER THE INPUT: true; the input reads as it did. -/
def descNamesSpec : ChangeSpec := { name := "descNames", fn := fun _ => fun
  | [] => { results := [.lit (.bool true)], args := [] }
  | _ => none }
def descNamesRow : OpenClaim := { program := "ytfjccpalkdmniaa", sum := "1d1f28081b91cc122cb17486398b13303c258ebdae6e045a3665c7d7f043d0f5", func := "dumbwaiter/dumbwaiterlaw03.DescNames", spec := "descNames", apart := false }
def DescNamesSaid : Prop := descNamesRow.holds Try.pinned (OpenSpec.ofChange descNamesSpec)

/-- ITS FALSE NEIGHBOUR: 'it returns false'. Refute it at one input. -/
def descNamesWrong : ChangeSpec := { name := "descNames", fn := fun _ => fun
  | [] => { results := [.lit (.bool false)], args := [] }
  | _ => none }
def DescNamesWrongFalsely : Prop := descNamesRow.holds Try.pinned (OpenSpec.ofChange descNamesWrong)

/-- 'dumbwaiterlaw03.DescCalls': WHATEVER THE INPUT: true; the input reads as it did. -/
def descCallsSpec : ChangeSpec := { name := "descCalls", fn := fun _ => fun
  | [d1, d2, d3, d4, d5, d6, d7, d8] => { results := [.lit (.bool true)], args := [d1, d2, d3, d4, d5, d6, d7, d8] }
  | _ => none }
def descCallsRow : OpenClaim := { program := "ytfjccpalkdmniaa", sum := "1d1f28081b91cc122cb17486398b13303c258ebdae6e045a3665c7d7f043d0f5", func := "dumbwaiter/dumbwaiterlaw03.DescCalls", spec := "descCalls", apart := false }
def DescCallsSaid : Prop := descCallsRow.holds Try.pinned (OpenSpec.ofChange descCallsSpec)

/-- ITS FALSE NEIGHBOUR: 'it returns false'. Refute it at one input. -/
def descCallsWrong : ChangeSpec := { name := "descCalls", fn := fun _ => fun
  | [d1, d2, d3, d4, d5, d6, d7, d8] => { results := [.lit (.bool false)], args := [d1, d2, d3, d4, d5, d6, d7, d8] }
  | _ => none }
def DescCallsWrongFalsely : Prop := descCallsRow.holds Try.pinned (OpenSpec.ofChange descCallsWrong)

/-- 'dumbwaiterlaw03.DescBack': WHATEVER THE INPUT: true; the input reads as it did. -/
def descBackSpec : ChangeSpec := { name := "descBack", fn := fun _ => fun
  | [d1, d2, d3, d4, d5, d6, d7] => { results := [.lit (.bool true)], args := [d1, d2, d3, d4, d5, d6, d7] }
  | _ => none }
def descBackRow : OpenClaim := { program := "ytfjccpalkdmniaa", sum := "1d1f28081b91cc122cb17486398b13303c258ebdae6e045a3665c7d7f043d0f5", func := "dumbwaiter/dumbwaiterlaw03.DescBack", spec := "descBack", apart := false }
def DescBackSaid : Prop := descBackRow.holds Try.pinned (OpenSpec.ofChange descBackSpec)

/-- ITS FALSE NEIGHBOUR: 'it returns false'. Refute it at one input. -/
def descBackWrong : ChangeSpec := { name := "descBack", fn := fun _ => fun
  | [d1, d2, d3, d4, d5, d6, d7] => { results := [.lit (.bool false)], args := [d1, d2, d3, d4, d5, d6, d7] }
  | _ => none }
def DescBackWrongFalsely : Prop := descBackRow.holds Try.pinned (OpenSpec.ofChange descBackWrong)

/-- 'dumbwaiterlaw03.DescRounds': WHATEVER THE INPUT: true; the input reads as it did. -/
def descRoundsSpec : ChangeSpec := { name := "descRounds", fn := fun _ => fun
  | [d1, d2] => { results := [.lit (.bool true)], args := [d1, d2] }
  | _ => none }
def descRoundsRow : OpenClaim := { program := "ytfjccpalkdmniaa", sum := "1d1f28081b91cc122cb17486398b13303c258ebdae6e045a3665c7d7f043d0f5", func := "dumbwaiter/dumbwaiterlaw03.DescRounds", spec := "descRounds", apart := false }
def DescRoundsSaid : Prop := descRoundsRow.holds Try.pinned (OpenSpec.ofChange descRoundsSpec)

/-- ITS FALSE NEIGHBOUR: 'it returns false'. Refute it at one input. -/
def descRoundsWrong : ChangeSpec := { name := "descRounds", fn := fun _ => fun
  | [d1, d2] => { results := [.lit (.bool false)], args := [d1, d2] }
  | _ => none }
def DescRoundsWrongFalsely : Prop := descRoundsRow.holds Try.pinned (OpenSpec.ofChange descRoundsWrong)

/-- 'dumbwaiterlaw03.DescFields': WHATEVER THE INPUT: true; the input reads as it did. -/
def descFieldsSpec : ChangeSpec := { name := "descFields", fn := fun _ => fun
  | [d1, d2, d3, d4, d5, d6] => { results := [.lit (.bool true)], args := [d1, d2, d3, d4, d5, d6] }
  | _ => none }
def descFieldsRow : OpenClaim := { program := "ytfjccpalkdmniaa", sum := "1d1f28081b91cc122cb17486398b13303c258ebdae6e045a3665c7d7f043d0f5", func := "dumbwaiter/dumbwaiterlaw03.DescFields", spec := "descFields", apart := false }
def DescFieldsSaid : Prop := descFieldsRow.holds Try.pinned (OpenSpec.ofChange descFieldsSpec)

/-- ITS FALSE NEIGHBOUR: 'it returns false'. Refute it at one input. -/
def descFieldsWrong : ChangeSpec := { name := "descFields", fn := fun _ => fun
  | [d1, d2, d3, d4, d5, d6] => { results := [.lit (.bool false)], args := [d1, d2, d3, d4, d5, d6] }
  | _ => none }
def DescFieldsWrongFalsely : Prop := descFieldsRow.holds Try.pinned (OpenSpec.ofChange descFieldsWrong)

/- THE SECOND FORM. 'bulk': how many values and letters a reading holds, each counted each time it is reached (what is shared counts as often as it is met; a slice's spare places count too). A statement '..UptoSaid' is the law's where the arguments, and the package variables that the reading takes, are together of bulk at most 1048576: NARROWER than '..Said'. Prove '..Said' where nothing that the law and all that it calls make is longer than what came in: it says more and counts as full. Else prove '..UptoSaid'. A law counts once. -/
mutual
def uptoBulk {H : Type} : DataW H → Nat
  | .lit (.string bytes) => bytes.length + 1
  | .lit _ => 1
  | .nil => 1
  | .ptr d => uptoBulk d + 1
  | .slice elems spare => uptoBulkAll elems + uptoBulkAll spare + 1
  | .agg parts => uptoBulkAll parts + 1
  | .iface _ d => uptoBulk d + 1
  | .map entries => uptoBulkEntries entries + 1
  | .held _ => 1
def uptoBulkAll {H : Type} : List (DataW H) → Nat
  | [] => 0
  | d :: r => uptoBulk d + uptoBulkAll r
def uptoBulkEntries {H : Type} : List (Lit × DataW H) → Nat
  | [] => 0
  | x :: r => uptoBulkEntry x + uptoBulkEntries r
def uptoBulkEntry {H : Type} : Lit × DataW H → Nat
  | (.string bytes, d) => bytes.length + uptoBulk d + 1
  | (_, d) => uptoBulk d + 1
 end
def uptoSmall : (H : Type) → List (DataW H) → Bool := fun _ ds => decide (uptoBulkAll ds ≤ 1048576)
def OpenSpec.upto (s : _root_.Go.ChangeSpec) : _root_.Go.OpenSpec := { _root_.Go.OpenSpec.ofChange s with cond := some uptoSmall }

/-- 'dumbwaiterlaw02.GmemScript', WHERE WHAT IT READS IS OF BULK AT MOST 1048576: true; the input reads as it did. -/
def gmemScriptUptoRow : OpenClaim := { program := "ytfjccpalkdmniaa", sum := "1d1f28081b91cc122cb17486398b13303c258ebdae6e045a3665c7d7f043d0f5", func := "dumbwaiter/dumbwaiterlaw02.GmemScript", spec := "gmemScript", unfollowed := true, recurses := true, apart := false, narrowed := true }
def GmemScriptUptoSaid : Prop := gmemScriptUptoRow.holds Try.pinned (OpenSpec.upto gmemScriptSpec)

/-- 'dumbwaiterlaw03.DescNames', WHERE WHAT IT READS IS OF BULK AT MOST 1048576: true; the input reads as it did. -/
def descNamesUptoRow : OpenClaim := { program := "ytfjccpalkdmniaa", sum := "1d1f28081b91cc122cb17486398b13303c258ebdae6e045a3665c7d7f043d0f5", func := "dumbwaiter/dumbwaiterlaw03.DescNames", spec := "descNames", apart := false, narrowed := true }
def DescNamesUptoSaid : Prop := descNamesUptoRow.holds Try.pinned (OpenSpec.upto descNamesSpec)

/-- 'dumbwaiterlaw03.DescCalls', WHERE WHAT IT READS IS OF BULK AT MOST 1048576: true; the input reads as it did. -/
def descCallsUptoRow : OpenClaim := { program := "ytfjccpalkdmniaa", sum := "1d1f28081b91cc122cb17486398b13303c258ebdae6e045a3665c7d7f043d0f5", func := "dumbwaiter/dumbwaiterlaw03.DescCalls", spec := "descCalls", apart := false, narrowed := true }
def DescCallsUptoSaid : Prop := descCallsUptoRow.holds Try.pinned (OpenSpec.upto descCallsSpec)

/-- 'dumbwaiterlaw03.DescBack', WHERE WHAT IT READS IS OF BULK AT MOST 1048576: true; the input reads as it did. -/
def descBackUptoRow : OpenClaim := { program := "ytfjccpalkdmniaa", sum := "1d1f28081b91cc122cb17486398b13303c258ebdae6e045a3665c7d7f043d0f5", func := "dumbwaiter/dumbwaiterlaw03.DescBack", spec := "descBack", apart := false, narrowed := true }
def DescBackUptoSaid : Prop := descBackUptoRow.holds Try.pinned (OpenSpec.upto descBackSpec)

/-- 'dumbwaiterlaw03.DescRounds', WHERE WHAT IT READS IS OF BULK AT MOST 1048576: true; the input reads as it did. -/
def descRoundsUptoRow : OpenClaim := { program := "ytfjccpalkdmniaa", sum := "1d1f28081b91cc122cb17486398b13303c258ebdae6e045a3665c7d7f043d0f5", func := "dumbwaiter/dumbwaiterlaw03.DescRounds", spec := "descRounds", apart := false, narrowed := true }
def DescRoundsUptoSaid : Prop := descRoundsUptoRow.holds Try.pinned (OpenSpec.upto descRoundsSpec)

/-- 'dumbwaiterlaw03.DescFields', WHERE WHAT IT READS IS OF BULK AT MOST 1048576: true; the input reads as it did. -/
def descFieldsUptoRow : OpenClaim := { program := "ytfjccpalkdmniaa", sum := "1d1f28081b91cc122cb17486398b13303c258ebdae6e045a3665c7d7f043d0f5", func := "dumbwaiter/dumbwaiterlaw03.DescFields", spec := "descFields", apart := false, narrowed := true }
def DescFieldsUptoSaid : Prop := descFieldsUptoRow.holds Try.pinned (OpenSpec.upto descFieldsSpec)

end Rows
end Go.Proofs.Ytfjccpalkdmniaa
