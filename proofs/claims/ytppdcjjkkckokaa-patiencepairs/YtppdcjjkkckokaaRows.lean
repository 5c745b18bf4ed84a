/-
  No cell of these rows narrows 'for every input' (looked for: loops, veiled, ifaces, maps, wideKeys, modest, calm, conditions, laid).
  DERIVED. THE GIVEN ROWS OF THIS SEAT. 6 by the template 'for every input the law returns true; each argument reads behind the call as it read before'; 0 by the template 'total and deterministic' (their statements: YtppdcjjkkckokaaTotals.lean).
  GIVEN WITH THE SEED: the statements are not yours to turn. If you find one false, say at which input.
  Laid BY PROGRAM, IN A SANDBOX (cutbox-rows.mjs): the forced cells as the released guide's own fill.sh prints them over the translation 068e19abe9188937… (all of the seat's roots in one cut). By AI agents, Wed Nov 11 2026. No macro, syntax, notation, axiom, sorry.
-/
import Derived.Test.YtppdcjjkkckokaaChecked
import GoSem.Claim
import GoSem.ClaimJoined
import GoSem.ClaimMapViews
import Derived.JoinedTies
import Derived.KernelRfl
namespace Go.Proofs.Ytppdcjjkkckokaa
/- THE CELL 'sum', in the pinned program and in every row, IS THE sha256 OF THE DUMP (.gsa) THAT YtppdcjjkkckokaaProg.lean LOADS. Nothing in Lean hashes anything: it is a label: what it is worth is what the hold of that sum in a sandbox is worth. -/
noncomputable def Try.pinned : Pinned := { name := "ytppdcjjkkckokaa", sum := "068e19abe9188937b8c043221d06a5c5b7251eec72792d1930253eac2b4c3e84", checked := Try.checked }
namespace Rows
def none {H : Type} : Left H := { results := [], args := [] }

/-- 'redlinelaw05.EditsComposes': WHATEVER THE INPUT: true; the input reads as it did. -/
def editsComposesSpec : ChangeSpec := { name := "editsComposes", fn := fun _ => fun
  | [d1, d2, d3, d4, d5] => { results := [.lit (.bool true)], args := [d1, d2, d3, d4, d5] }
  | _ => none }
def editsComposesRow : OpenClaim := { program := "ytppdcjjkkckokaa", sum := "068e19abe9188937b8c043221d06a5c5b7251eec72792d1930253eac2b4c3e84", func := "redline/redlinelaw05.EditsComposes", spec := "editsComposes", unfollowed := true, recurses := true, apart := false }
def EditsComposesSaid : Prop := editsComposesRow.holds Try.pinned (OpenSpec.ofChange editsComposesSpec)

/-- ITS FALSE NEIGHBOUR: 'it returns false'. Refute it at one input. -/
def editsComposesWrong : ChangeSpec := { name := "editsComposes", fn := fun _ => fun
  | [d1, d2, d3, d4, d5] => { results := [.lit (.bool false)], args := [d1, d2, d3, d4, d5] }
  | _ => none }
def EditsComposesWrongFalsely : Prop := editsComposesRow.holds Try.pinned (OpenSpec.ofChange editsComposesWrong)

/-- 'redlinelaw05.EditsChain': WHATEVER THE INPUT: true; the input reads as it did. -/
def editsChainSpec : ChangeSpec := { name := "editsChain", fn := fun _ => fun
  | [d1, d2, d3, d4] => { results := [.lit (.bool true)], args := [d1, d2, d3, d4] }
  | _ => none }
def editsChainRow : OpenClaim := { program := "ytppdcjjkkckokaa", sum := "068e19abe9188937b8c043221d06a5c5b7251eec72792d1930253eac2b4c3e84", func := "redline/redlinelaw05.EditsChain", spec := "editsChain", unfollowed := true, recurses := true, apart := false }
def EditsChainSaid : Prop := editsChainRow.holds Try.pinned (OpenSpec.ofChange editsChainSpec)

/-- ITS FALSE NEIGHBOUR: 'it returns false'. Refute it at one input. -/
def editsChainWrong : ChangeSpec := { name := "editsChain", fn := fun _ => fun
  | [d1, d2, d3, d4] => { results := [.lit (.bool false)], args := [d1, d2, d3, d4] }
  | _ => none }
def EditsChainWrongFalsely : Prop := editsChainRow.holds Try.pinned (OpenSpec.ofChange editsChainWrong)

/-- 'redlinelaw06.MinimalDiffs': WHATEVER THE INPUT: true; the input reads as it did. -/
def minimalDiffsSpec : ChangeSpec := { name := "minimalDiffs", fn := fun _ => fun
  | [d1, d2] => { results := [.lit (.bool true)], args := [d1, d2] }
  | _ => none }
def minimalDiffsRow : OpenClaim := { program := "ytppdcjjkkckokaa", sum := "068e19abe9188937b8c043221d06a5c5b7251eec72792d1930253eac2b4c3e84", func := "redline/redlinelaw06.MinimalDiffs", spec := "minimalDiffs", apart := false }
def MinimalDiffsSaid : Prop := minimalDiffsRow.holds Try.pinned (OpenSpec.ofChange minimalDiffsSpec)

/-- ITS FALSE NEIGHBOUR: 'it returns false'. Refute it at one input. -/
def minimalDiffsWrong : ChangeSpec := { name := "minimalDiffs", fn := fun _ => fun
  | [d1, d2] => { results := [.lit (.bool false)], args := [d1, d2] }
  | _ => none }
def MinimalDiffsWrongFalsely : Prop := minimalDiffsRow.holds Try.pinned (OpenSpec.ofChange minimalDiffsWrong)

/-- 'redlinelaw06.MinimalSteps': WHATEVER THE INPUT: true; the input reads as it did. -/
def minimalStepsSpec : ChangeSpec := { name := "minimalSteps", fn := fun _ => fun
  | [d1, d2, d3, d4, d5, d6] => { results := [.lit (.bool true)], args := [d1, d2, d3, d4, d5, d6] }
  | _ => none }
def minimalStepsRow : OpenClaim := { program := "ytppdcjjkkckokaa", sum := "068e19abe9188937b8c043221d06a5c5b7251eec72792d1930253eac2b4c3e84", func := "redline/redlinelaw06.MinimalSteps", spec := "minimalSteps", apart := false }
def MinimalStepsSaid : Prop := minimalStepsRow.holds Try.pinned (OpenSpec.ofChange minimalStepsSpec)

/-- ITS FALSE NEIGHBOUR: 'it returns false'. Refute it at one input. -/
def minimalStepsWrong : ChangeSpec := { name := "minimalSteps", fn := fun _ => fun
  | [d1, d2, d3, d4, d5, d6] => { results := [.lit (.bool false)], args := [d1, d2, d3, d4, d5, d6] }
  | _ => none }
def MinimalStepsWrongFalsely : Prop := minimalStepsRow.holds Try.pinned (OpenSpec.ofChange minimalStepsWrong)

/-- 'redlinelaw07.PatiencePairs': WHATEVER THE INPUT: true; the input reads as it did. -/
def patiencePairsSpec : ChangeSpec := { name := "patiencePairs", fn := fun _ => fun
  | [d1, d2, d3] => { results := [.lit (.bool true)], args := [d1, d2, d3] }
  | _ => none }
def patiencePairsRow : OpenClaim := { program := "ytppdcjjkkckokaa", sum := "068e19abe9188937b8c043221d06a5c5b7251eec72792d1930253eac2b4c3e84", func := "redline/redlinelaw07.PatiencePairs", spec := "patiencePairs", inPlace := ["slices.overlaps[redline/patience.Pair]"], unfollowed := true, recurses := true, apart := false }
def PatiencePairsSaid : Prop := patiencePairsRow.holds Try.pinned (OpenSpec.ofChange patiencePairsSpec)

/-- ITS FALSE NEIGHBOUR: 'it returns false'. Refute it at one input. -/
def patiencePairsWrong : ChangeSpec := { name := "patiencePairs", fn := fun _ => fun
  | [d1, d2, d3] => { results := [.lit (.bool false)], args := [d1, d2, d3] }
  | _ => none }
def PatiencePairsWrongFalsely : Prop := patiencePairsRow.holds Try.pinned (OpenSpec.ofChange patiencePairsWrong)

/-- 'redlinelaw07.PatienceDiffs': WHATEVER THE INPUT: true; the input reads as it did. -/
def patienceDiffsSpec : ChangeSpec := { name := "patienceDiffs", fn := fun _ => fun
  | [d1, d2] => { results := [.lit (.bool true)], args := [d1, d2] }
  | _ => none }
def patienceDiffsRow : OpenClaim := { program := "ytppdcjjkkckokaa", sum := "068e19abe9188937b8c043221d06a5c5b7251eec72792d1930253eac2b4c3e84", func := "redline/redlinelaw07.PatienceDiffs", spec := "patienceDiffs", inPlace := ["slices.overlaps[redline/patience.Pair]"], unfollowed := true, recurses := true, apart := false }
def PatienceDiffsSaid : Prop := patienceDiffsRow.holds Try.pinned (OpenSpec.ofChange patienceDiffsSpec)

/-- ITS FALSE NEIGHBOUR: 'it returns false'. Refute it at one input. -/
def patienceDiffsWrong : ChangeSpec := { name := "patienceDiffs", fn := fun _ => fun
  | [d1, d2] => { results := [.lit (.bool false)], args := [d1, d2] }
  | _ => none }
def PatienceDiffsWrongFalsely : Prop := patienceDiffsRow.holds Try.pinned (OpenSpec.ofChange patienceDiffsWrong)

/- THE SECOND FORM. 'bulk': how many values and letters a reading holds, each counted each time it is reached (what is shared counts as often as it is met; a slice's spare places count too). A statement '..UptoSaid' is the law's where the arguments, and the package variables that the reading takes, are together of bulk at most 1048576: NARROWER than '..Said'. Prove '..Said' where nothing that the law and all that it calls make is longer than what came in: it says more and counts as full. Else prove '..UptoSaid'. A law counts once. -/
mutual
def uptoBulk {H : Type} : DataW H → Nat
  | .lit (.string bytes) => bytes.length + 1
  | .lit _ => 1
  | .nil => 1
  | .ptr d => uptoBulk d + 1
  | .slice elems spare => uptoBulkAll elems + uptoBulkAll spare + 1
  | .agg parts => uptoBulkAll parts + 1
  | .iface _ d => uptoBulk d + 1
  | .map entries => uptoBulkEntries entries + 1
  | .held _ => 1
def uptoBulkAll {H : Type} : List (DataW H) → Nat
  | [] => 0
  | d :: r => uptoBulk d + uptoBulkAll r
def uptoBulkEntries {H : Type} : List (Lit × DataW H) → Nat
  | [] => 0
  | x :: r => uptoBulkEntry x + uptoBulkEntries r
def uptoBulkEntry {H : Type} : Lit × DataW H → Nat
  | (.string bytes, d) => bytes.length + uptoBulk d + 1
  | (_, d) => uptoBulk d + 1
 end
def uptoSmall : (H : Type) → List (DataW H) → Bool := fun _ ds => decide (uptoBulkAll ds ≤ 1048576)
def OpenSpec.upto (s : _root_.Go.ChangeSpec) : _root_.Go.OpenSpec := { _root_.Go.OpenSpec.ofChange s with cond := some uptoSmall }

/-- 'redlinelaw05.EditsComposes', WHERE WHAT IT READS IS OF BULK AT MOST 1048576: true; the input reads as it did. -/
def editsComposesUptoRow : OpenClaim := { program := "ytppdcjjkkckokaa", sum := "068e19abe9188937b8c043221d06a5c5b7251eec72792d1930253eac2b4c3e84", func := "redline/redlinelaw05.EditsComposes", spec := "editsComposes", unfollowed := true, recurses := true, apart := false, narrowed := true }
def EditsComposesUptoSaid : Prop := editsComposesUptoRow.holds Try.pinned (OpenSpec.upto editsComposesSpec)

/-- 'redlinelaw05.EditsChain', WHERE WHAT IT READS IS OF BULK AT MOST 1048576: true; the input reads as it did. -/
def editsChainUptoRow : OpenClaim := { program := "ytppdcjjkkckokaa", sum := "068e19abe9188937b8c043221d06a5c5b7251eec72792d1930253eac2b4c3e84", func := "redline/redlinelaw05.EditsChain", spec := "editsChain", unfollowed := true, recurses := true, apart := false, narrowed := true }
def EditsChainUptoSaid : Prop := editsChainUptoRow.holds Try.pinned (OpenSpec.upto editsChainSpec)

/-- 'redlinelaw06.MinimalDiffs', WHERE WHAT IT READS IS OF BULK AT MOST 1048576: true; the input reads as it did. -/
def minimalDiffsUptoRow : OpenClaim := { program := "ytppdcjjkkckokaa", sum := "068e19abe9188937b8c043221d06a5c5b7251eec72792d1930253eac2b4c3e84", func := "redline/redlinelaw06.MinimalDiffs", spec := "minimalDiffs", apart := false, narrowed := true }
def MinimalDiffsUptoSaid : Prop := minimalDiffsUptoRow.holds Try.pinned (OpenSpec.upto minimalDiffsSpec)

/-- 'redlinelaw06.MinimalSteps', WHERE WHAT IT READS IS OF BULK AT MOST 1048576: true; the input reads as it did. -/
def minimalStepsUptoRow : OpenClaim := { program := "ytppdcjjkkckokaa", sum := "068e19abe9188937b8c043221d06a5c5b7251eec72792d1930253eac2b4c3e84", func := "redline/redlinelaw06.MinimalSteps", spec := "minimalSteps", apart := false, narrowed := true }
def MinimalStepsUptoSaid : Prop := minimalStepsUptoRow.holds Try.pinned (OpenSpec.upto minimalStepsSpec)

/-- 'redlinelaw07.PatiencePairs', WHERE WHAT IT READS IS OF BULK AT MOST 1048576: true; the input reads as it did. -/
def patiencePairsUptoRow : OpenClaim := { program := "ytppdcjjkkckokaa", sum := "068e19abe9188937b8c043221d06a5c5b7251eec72792d1930253eac2b4c3e84", func := "redline/redlinelaw07.PatiencePairs", spec := "patiencePairs", inPlace := ["slices.overlaps[redline/patience.Pair]"], unfollowed := true, recurses := true, apart := false, narrowed := true }
def PatiencePairsUptoSaid : Prop := patiencePairsUptoRow.holds Try.pinned (OpenSpec.upto patiencePairsSpec)

/-- 'redlinelaw07.PatienceDiffs', WHERE WHAT IT READS IS OF BULK AT MOST 1048576: true; the input reads as it did. -/
def patienceDiffsUptoRow : OpenClaim := { program := "ytppdcjjkkckokaa", sum := "068e19abe9188937b8c043221d06a5c5b7251eec72792d1930253eac2b4c3e84", func := "redline/redlinelaw07.PatienceDiffs", spec := "patienceDiffs", inPlace := ["slices.overlaps[redline/patience.Pair]"], unfollowed := true, recurses := true, apart := false, narrowed := true }
def PatienceDiffsUptoSaid : Prop := patienceDiffsUptoRow.holds Try.pinned (OpenSpec.upto patienceDiffsSpec)

end Rows
end Go.Proofs.Ytppdcjjkkckokaa
