/-
  No cell of these rows narrows 'for every input' (looked for: loops, veiled, ifaces, maps, wideKeys, modest, calm, conditions, laid).
  DERIVED. THE GIVEN ROWS OF THIS SEAT. 5 by the template 'for every input the law returns true; each argument reads behind the call as it read before'; 0 by the template 'total and deterministic' (their statements: YtoacmaloiaeniabTotals.lean).
  GIVEN WITH THE SEED: the statements are not yours to turn. If you find one false, say at which input.
  Laid BY PROGRAM, IN A SANDBOX (cutbox-rows.mjs): the forced cells as the released guide's own fill.sh prints them over the translation 9dbc31e4f1d4a555… (all of the seat's roots in one cut). By AI agents, Wed Nov 11 2026. No macro, syntax, notation, axiom, sorry.
-/
import Derived.Test.YtoacmaloiaeniabChecked
import GoSem.Claim
import GoSem.ClaimJoined
import GoSem.ClaimMapViews
import Derived.JoinedTies
import Derived.KernelRfl
namespace Go.Proofs.Ytoacmaloiaeniab
/- THE CELL 'sum', in the pinned program and in every row, IS THE sha256 OF THE DUMP (.gsa) THAT YtoacmaloiaeniabProg.lean LOADS. Nothing in Lean hashes anything: it is a label: what it is worth is what the hold of that sum in a sandbox is worth. -/
noncomputable def Try.pinned : Pinned := { name := "ytoacmaloiaeniab", sum := "9dbc31e4f1d4a555377b89f895bf4ad050beaa26bfef810c0f2cf9a71c935ccb", checked := Try.checked }
namespace Rows
def none {H : Type} : Left H := { results := [], args := [] }

/-- 'redlinelaw06.MinimalDiffs': WHATEVER THE INPUT: true; the input reads as it did. -/
def minimalDiffsSpec : ChangeSpec := { name := "minimalDiffs", fn := fun _ => fun
  | [d1, d2] => { results := [.lit (.bool true)], args := [d1, d2] }
  | _ => none }
def minimalDiffsRow : OpenClaim := { program := "ytoacmaloiaeniab", sum := "9dbc31e4f1d4a555377b89f895bf4ad050beaa26bfef810c0f2cf9a71c935ccb", func := "redline/redlinelaw06.MinimalDiffs", spec := "minimalDiffs", apart := false }
def MinimalDiffsSaid : Prop := minimalDiffsRow.holds Try.pinned (OpenSpec.ofChange minimalDiffsSpec)

/-- ITS FALSE NEIGHBOUR: 'it returns false'. Refute it at one input. -/
def minimalDiffsWrong : ChangeSpec := { name := "minimalDiffs", fn := fun _ => fun
  | [d1, d2] => { results := [.lit (.bool false)], args := [d1, d2] }
  | _ => none }
def MinimalDiffsWrongFalsely : Prop := minimalDiffsRow.holds Try.pinned (OpenSpec.ofChange minimalDiffsWrong)

/-- 'redlinelaw06.MinimalMost': WHATEVER THE INPUT: true; the input reads as it did. -/
def minimalMostSpec : ChangeSpec := { name := "minimalMost", fn := fun _ => fun
  | [d1, d2, d3] => { results := [.lit (.bool true)], args := [d1, d2, d3] }
  | _ => none }
def minimalMostRow : OpenClaim := { program := "ytoacmaloiaeniab", sum := "9dbc31e4f1d4a555377b89f895bf4ad050beaa26bfef810c0f2cf9a71c935ccb", func := "redline/redlinelaw06.MinimalMost", spec := "minimalMost", unfollowed := true, recurses := true, apart := false }
def MinimalMostSaid : Prop := minimalMostRow.holds Try.pinned (OpenSpec.ofChange minimalMostSpec)

/-- ITS FALSE NEIGHBOUR: 'it returns false'. Refute it at one input. -/
def minimalMostWrong : ChangeSpec := { name := "minimalMost", fn := fun _ => fun
  | [d1, d2, d3] => { results := [.lit (.bool false)], args := [d1, d2, d3] }
  | _ => none }
def MinimalMostWrongFalsely : Prop := minimalMostRow.holds Try.pinned (OpenSpec.ofChange minimalMostWrong)

/-- 'redlinelaw06.MinimalTurns': WHATEVER THE INPUT: true; the input reads as it did. -/
def minimalTurnsSpec : ChangeSpec := { name := "minimalTurns", fn := fun _ => fun
  | [d1, d2, d3] => { results := [.lit (.bool true)], args := [d1, d2, d3] }
  | _ => none }
def minimalTurnsRow : OpenClaim := { program := "ytoacmaloiaeniab", sum := "9dbc31e4f1d4a555377b89f895bf4ad050beaa26bfef810c0f2cf9a71c935ccb", func := "redline/redlinelaw06.MinimalTurns", spec := "minimalTurns", apart := false }
def MinimalTurnsSaid : Prop := minimalTurnsRow.holds Try.pinned (OpenSpec.ofChange minimalTurnsSpec)

/-- ITS FALSE NEIGHBOUR: 'it returns false'. Refute it at one input. -/
def minimalTurnsWrong : ChangeSpec := { name := "minimalTurns", fn := fun _ => fun
  | [d1, d2, d3] => { results := [.lit (.bool false)], args := [d1, d2, d3] }
  | _ => none }
def MinimalTurnsWrongFalsely : Prop := minimalTurnsRow.holds Try.pinned (OpenSpec.ofChange minimalTurnsWrong)

/-- 'redlinelaw06.MinimalWhole': WHATEVER THE INPUT: true; the input reads as it did. -/
def minimalWholeSpec : ChangeSpec := { name := "minimalWhole", fn := fun _ => fun
  | [d1, d2] => { results := [.lit (.bool true)], args := [d1, d2] }
  | _ => none }
def minimalWholeRow : OpenClaim := { program := "ytoacmaloiaeniab", sum := "9dbc31e4f1d4a555377b89f895bf4ad050beaa26bfef810c0f2cf9a71c935ccb", func := "redline/redlinelaw06.MinimalWhole", spec := "minimalWhole", apart := false }
def MinimalWholeSaid : Prop := minimalWholeRow.holds Try.pinned (OpenSpec.ofChange minimalWholeSpec)

/-- ITS FALSE NEIGHBOUR: 'it returns false'. Refute it at one input. -/
def minimalWholeWrong : ChangeSpec := { name := "minimalWhole", fn := fun _ => fun
  | [d1, d2] => { results := [.lit (.bool false)], args := [d1, d2] }
  | _ => none }
def MinimalWholeWrongFalsely : Prop := minimalWholeRow.holds Try.pinned (OpenSpec.ofChange minimalWholeWrong)

/-- 'redlinelaw06.MinimalSteps': WHATEVER THE INPUT: true; the input reads as it did. -/
def minimalStepsSpec : ChangeSpec := { name := "minimalSteps", fn := fun _ => fun
  | [d1, d2, d3, d4, d5, d6] => { results := [.lit (.bool true)], args := [d1, d2, d3, d4, d5, d6] }
  | _ => none }
def minimalStepsRow : OpenClaim := { program := "ytoacmaloiaeniab", sum := "9dbc31e4f1d4a555377b89f895bf4ad050beaa26bfef810c0f2cf9a71c935ccb", func := "redline/redlinelaw06.MinimalSteps", spec := "minimalSteps", apart := false }
def MinimalStepsSaid : Prop := minimalStepsRow.holds Try.pinned (OpenSpec.ofChange minimalStepsSpec)

/-- ITS FALSE NEIGHBOUR: 'it returns false'. Refute it at one input. -/
def minimalStepsWrong : ChangeSpec := { name := "minimalSteps", fn := fun _ => fun
  | [d1, d2, d3, d4, d5, d6] => { results := [.lit (.bool false)], args := [d1, d2, d3, d4, d5, d6] }
  | _ => none }
def MinimalStepsWrongFalsely : Prop := minimalStepsRow.holds Try.pinned (OpenSpec.ofChange minimalStepsWrong)

/- THE SECOND FORM. 'bulk': how many values and letters a reading holds, each counted each time it is reached (what is shared counts as often as it is met; a slice's spare places count too). A statement '..UptoSaid' is the law's where the arguments, and the package variables that the reading takes, are together of bulk at most 1048576: NARROWER than '..Said'. Prove '..Said' where nothing that the law and all that it calls make is longer than what came in: it says more and counts as full. Else prove '..UptoSaid'. A law counts once. -/
mutual
def uptoBulk {H : Type} : DataW H → Nat
  | .lit (.string bytes) => bytes.length + 1
  | .lit _ => 1
  | .nil => 1
  | .ptr d => uptoBulk d + 1
  | .slice elems spare => uptoBulkAll elems + uptoBulkAll spare + 1
  | .agg parts => uptoBulkAll parts + 1
  | .iface _ d => uptoBulk d + 1
  | .map entries => uptoBulkEntries entries + 1
  | .held _ => 1
def uptoBulkAll {H : Type} : List (DataW H) → Nat
  | [] => 0
  | d :: r => uptoBulk d + uptoBulkAll r
def uptoBulkEntries {H : Type} : List (Lit × DataW H) → Nat
  | [] => 0
  | x :: r => uptoBulkEntry x + uptoBulkEntries r
def uptoBulkEntry {H : Type} : Lit × DataW H → Nat
  | (.string bytes, d) => bytes.length + uptoBulk d + 1
  | (_, d) => uptoBulk d + 1
 end
def uptoSmall : (H : Type) → List (DataW H) → Bool := fun _ ds => decide (uptoBulkAll ds ≤ 1048576)
def OpenSpec.upto (s : _root_.Go.ChangeSpec) : _root_.Go.OpenSpec := { _root_.Go.OpenSpec.ofChange s with cond := some uptoSmall }

/-- 'redlinelaw06.MinimalDiffs', WHERE WHAT IT READS IS OF BULK AT MOST 1048576: true; the input reads as it did. -/
def minimalDiffsUptoRow : OpenClaim := { program := "ytoacmaloiaeniab", sum := "9dbc31e4f1d4a555377b89f895bf4ad050beaa26bfef810c0f2cf9a71c935ccb", func := "redline/redlinelaw06.MinimalDiffs", spec := "minimalDiffs", apart := false, narrowed := true }
def MinimalDiffsUptoSaid : Prop := minimalDiffsUptoRow.holds Try.pinned (OpenSpec.upto minimalDiffsSpec)

/-- 'redlinelaw06.MinimalMost', WHERE WHAT IT READS IS OF BULK AT MOST 1048576: true; the input reads as it did. -/
def minimalMostUptoRow : OpenClaim := { program := "ytoacmaloiaeniab", sum := "9dbc31e4f1d4a555377b89f895bf4ad050beaa26bfef810c0f2cf9a71c935ccb", func := "redline/redlinelaw06.MinimalMost", spec := "minimalMost", unfollowed := true, recurses := true, apart := false, narrowed := true }
def MinimalMostUptoSaid : Prop := minimalMostUptoRow.holds Try.pinned (OpenSpec.upto minimalMostSpec)

/-- 'redlinelaw06.MinimalTurns', WHERE WHAT IT READS IS OF BULK AT MOST 1048576: true; the input reads as it did. -/
def minimalTurnsUptoRow : OpenClaim := { program := "ytoacmaloiaeniab", sum := "9dbc31e4f1d4a555377b89f895bf4ad050beaa26bfef810c0f2cf9a71c935ccb", func := "redline/redlinelaw06.MinimalTurns", spec := "minimalTurns", apart := false, narrowed := true }
def MinimalTurnsUptoSaid : Prop := minimalTurnsUptoRow.holds Try.pinned (OpenSpec.upto minimalTurnsSpec)

/-- 'redlinelaw06.MinimalWhole', WHERE WHAT IT READS IS OF BULK AT MOST 1048576: true; the input reads as it did. -/
def minimalWholeUptoRow : OpenClaim := { program := "ytoacmaloiaeniab", sum := "9dbc31e4f1d4a555377b89f895bf4ad050beaa26bfef810c0f2cf9a71c935ccb", func := "redline/redlinelaw06.MinimalWhole", spec := "minimalWhole", apart := false, narrowed := true }
def MinimalWholeUptoSaid : Prop := minimalWholeUptoRow.holds Try.pinned (OpenSpec.upto minimalWholeSpec)

/-- 'redlinelaw06.MinimalSteps', WHERE WHAT IT READS IS OF BULK AT MOST 1048576: true; the input reads as it did. -/
def minimalStepsUptoRow : OpenClaim := { program := "ytoacmaloiaeniab", sum := "9dbc31e4f1d4a555377b89f895bf4ad050beaa26bfef810c0f2cf9a71c935ccb", func := "redline/redlinelaw06.MinimalSteps", spec := "minimalSteps", apart := false, narrowed := true }
def MinimalStepsUptoSaid : Prop := minimalStepsUptoRow.holds Try.pinned (OpenSpec.upto minimalStepsSpec)

end Rows
end Go.Proofs.Ytoacmaloiaeniab
