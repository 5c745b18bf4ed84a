/-
  No cell of these rows narrows 'for every input' (looked for: loops, veiled, ifaces, maps, wideKeys, modest, calm, conditions, laid).
  DERIVED. THE GIVEN ROWS OF THIS SEAT. 3 by the template 'for every input the law returns true; each argument reads behind the call as it read before'; 0 by the template 'total and deterministic' (their statements: YteplejpbgajecabTotals.lean).
  GIVEN WITH THE SEED: the statements are not yours to turn. If you find one false, say at which input.
  Laid BY PROGRAM, IN A SANDBOX (cutbox-rows.mjs): the forced cells as the released guide's own fill.sh prints them over the translation fa2248a4b79ca157… (all of the seat's roots in one cut). By AI agents, Wed Nov 11 2026. No macro, syntax, notation, axiom, sorry.
-/
import Derived.Test.YteplejpbgajecabChecked
import GoSem.Claim
import GoSem.ClaimJoined
import GoSem.ClaimMapViews
import Derived.JoinedTies
import Derived.KernelRfl
namespace Go.Proofs.Yteplejpbgajecab
/- THE CELL 'sum', in the pinned program and in every row, IS THE sha256 OF THE DUMP (.gsa) THAT YteplejpbgajecabProg.lean LOADS. Nothing in Lean hashes anything: it is a label: what it is worth is what the hold of that sum in a sandbox is worth. -/
noncomputable def Try.pinned : Pinned := { name := "yteplejpbgajecab", sum := "fa2248a4b79ca157755e374e151545db94116b3365abbe71e7ed540cd029ce32", checked := Try.checked }
namespace Rows
def none {H : Type} : Left H := { results := [], args := [] }

/-- 'redlinelaw07.PatienceOnce': WHATEVER THE INPUT: true; the input reads as it did. -/
def patienceOnceSpec : ChangeSpec := { name := "patienceOnce", fn := fun _ => fun
  | [d1, d2] => { results := [.lit (.bool true)], args := [d1, d2] }
  | _ => none }
def patienceOnceRow : OpenClaim := { program := "yteplejpbgajecab", sum := "fa2248a4b79ca157755e374e151545db94116b3365abbe71e7ed540cd029ce32", func := "redline/redlinelaw07.PatienceOnce", spec := "patienceOnce", inPlace := ["slices.overlaps[redline/patience.Pair]"], unfollowed := true, recurses := true, apart := false }
def PatienceOnceSaid : Prop := patienceOnceRow.holds Try.pinned (OpenSpec.ofChange patienceOnceSpec)

/-- ITS FALSE NEIGHBOUR: 'it returns false'. Refute it at one input. -/
def patienceOnceWrong : ChangeSpec := { name := "patienceOnce", fn := fun _ => fun
  | [d1, d2] => { results := [.lit (.bool false)], args := [d1, d2] }
  | _ => none }
def PatienceOnceWrongFalsely : Prop := patienceOnceRow.holds Try.pinned (OpenSpec.ofChange patienceOnceWrong)

/-- 'redlinelaw08.HistogramDiffs': WHATEVER THE INPUT: true; the input reads as it did. -/
def histogramDiffsSpec : ChangeSpec := { name := "histogramDiffs", fn := fun _ => fun
  | [d1, d2] => { results := [.lit (.bool true)], args := [d1, d2] }
  | _ => none }
def histogramDiffsRow : OpenClaim := { program := "yteplejpbgajecab", sum := "fa2248a4b79ca157755e374e151545db94116b3365abbe71e7ed540cd029ce32", func := "redline/redlinelaw08.HistogramDiffs", spec := "histogramDiffs", unfollowed := true, recurses := true, apart := false }
def HistogramDiffsSaid : Prop := histogramDiffsRow.holds Try.pinned (OpenSpec.ofChange histogramDiffsSpec)

/-- ITS FALSE NEIGHBOUR: 'it returns false'. Refute it at one input. -/
def histogramDiffsWrong : ChangeSpec := { name := "histogramDiffs", fn := fun _ => fun
  | [d1, d2] => { results := [.lit (.bool false)], args := [d1, d2] }
  | _ => none }
def HistogramDiffsWrongFalsely : Prop := histogramDiffsRow.holds Try.pinned (OpenSpec.ofChange histogramDiffsWrong)

/-- 'redlinelaw08.HistogramHonest': WHATEVER THE INPUT: true; the input reads as it did. -/
def histogramHonestSpec : ChangeSpec := { name := "histogramHonest", fn := fun _ => fun
  | [d1, d2] => { results := [.lit (.bool true)], args := [d1, d2] }
  | _ => none }
def histogramHonestRow : OpenClaim := { program := "yteplejpbgajecab", sum := "fa2248a4b79ca157755e374e151545db94116b3365abbe71e7ed540cd029ce32", func := "redline/redlinelaw08.HistogramHonest", spec := "histogramHonest", unfollowed := true, recurses := true, apart := false }
def HistogramHonestSaid : Prop := histogramHonestRow.holds Try.pinned (OpenSpec.ofChange histogramHonestSpec)

/-- ITS FALSE NEIGHBOUR: 'it returns false'. Refute it at one input. -/
def histogramHonestWrong : ChangeSpec := { name := "histogramHonest", fn := fun _ => fun
  | [d1, d2] => { results := [.lit (.bool false)], args := [d1, d2] }
  | _ => none }
def HistogramHonestWrongFalsely : Prop := histogramHonestRow.holds Try.pinned (OpenSpec.ofChange histogramHonestWrong)

/- THE SECOND FORM. 'bulk': how many values and letters a reading holds, each counted each time it is reached (what is shared counts as often as it is met; a slice's spare places count too). A statement '..UptoSaid' is the law's where the arguments, and the package variables that the reading takes, are together of bulk at most 1048576: NARROWER than '..Said'. Prove '..Said' where nothing that the law and all that it calls make is longer than what came in: it says more and counts as full. Else prove '..UptoSaid'. A law counts once. -/
mutual
def uptoBulk {H : Type} : DataW H → Nat
  | .lit (.string bytes) => bytes.length + 1
  | .lit _ => 1
  | .nil => 1
  | .ptr d => uptoBulk d + 1
  | .slice elems spare => uptoBulkAll elems + uptoBulkAll spare + 1
  | .agg parts => uptoBulkAll parts + 1
  | .iface _ d => uptoBulk d + 1
  | .map entries => uptoBulkEntries entries + 1
  | .held _ => 1
def uptoBulkAll {H : Type} : List (DataW H) → Nat
  | [] => 0
  | d :: r => uptoBulk d + uptoBulkAll r
def uptoBulkEntries {H : Type} : List (Lit × DataW H) → Nat
  | [] => 0
  | x :: r => uptoBulkEntry x + uptoBulkEntries r
def uptoBulkEntry {H : Type} : Lit × DataW H → Nat
  | (.string bytes, d) => bytes.length + uptoBulk d + 1
  | (_, d) => uptoBulk d + 1
 end
def uptoSmall : (H : Type) → List (DataW H) → Bool := fun _ ds => decide (uptoBulkAll ds ≤ 1048576)
def OpenSpec.upto (s : _root_.Go.ChangeSpec) : _root_.Go.OpenSpec := { _root_.Go.OpenSpec.ofChange s with cond := some uptoSmall }

/-- 'redlinelaw07.PatienceOnce', WHERE WHAT IT READS IS OF BULK AT MOST 1048576: true; the input reads as it did. -/
def patienceOnceUptoRow : OpenClaim := { program := "yteplejpbgajecab", sum := "fa2248a4b79ca157755e374e151545db94116b3365abbe71e7ed540cd029ce32", func := "redline/redlinelaw07.PatienceOnce", spec := "patienceOnce", inPlace := ["slices.overlaps[redline/patience.Pair]"], unfollowed := true, recurses := true, apart := false, narrowed := true }
def PatienceOnceUptoSaid : Prop := patienceOnceUptoRow.holds Try.pinned (OpenSpec.upto patienceOnceSpec)

/-- 'redlinelaw08.HistogramDiffs', WHERE WHAT IT READS IS OF BULK AT MOST 1048576: true; the input reads as it did. -/
def histogramDiffsUptoRow : OpenClaim := { program := "yteplejpbgajecab", sum := "fa2248a4b79ca157755e374e151545db94116b3365abbe71e7ed540cd029ce32", func := "redline/redlinelaw08.HistogramDiffs", spec := "histogramDiffs", unfollowed := true, recurses := true, apart := false, narrowed := true }
def HistogramDiffsUptoSaid : Prop := histogramDiffsUptoRow.holds Try.pinned (OpenSpec.upto histogramDiffsSpec)

/-- 'redlinelaw08.HistogramHonest', WHERE WHAT IT READS IS OF BULK AT MOST 1048576: true; the input reads as it did. -/
def histogramHonestUptoRow : OpenClaim := { program := "yteplejpbgajecab", sum := "fa2248a4b79ca157755e374e151545db94116b3365abbe71e7ed540cd029ce32", func := "redline/redlinelaw08.HistogramHonest", spec := "histogramHonest", unfollowed := true, recurses := true, apart := false, narrowed := true }
def HistogramHonestUptoSaid : Prop := histogramHonestUptoRow.holds Try.pinned (OpenSpec.upto histogramHonestSpec)

end Rows
end Go.Proofs.Yteplejpbgajecab
