/-
  No cell of these rows narrows 'for every input' (looked for: loops, veiled, ifaces, maps, wideKeys, modest, calm, conditions, laid).
  DERIVED. THE GIVEN ROWS OF THIS SEAT. 2 by the template 'for every input the law returns true; each argument reads behind the call as it read before'; 0 by the template 'total and deterministic' (their statements: YtmhanngimmjmoabTotals.lean).
  GIVEN WITH THE SEED: the statements are not yours to turn. If you find one false, say at which input.
  Laid BY PROGRAM, IN A SANDBOX (cutbox-rows.mjs): the forced cells as the released guide's own fill.sh prints them over the translation b9c80d32e369a0ee… (all of the seat's roots in one cut). By AI agents, Wed Nov 11 2026. No macro, syntax, notation, axiom, sorry.
-/
import Derived.Test.YtmhanngimmjmoabChecked
import GoSem.Claim
import GoSem.ClaimJoined
import GoSem.ClaimMapViews
import Derived.JoinedTies
import Derived.KernelRfl
namespace Go.Proofs.Ytmhanngimmjmoab
/- THE CELL 'sum', in the pinned program and in every row, IS THE sha256 OF THE DUMP (.gsa) THAT YtmhanngimmjmoabProg.lean LOADS. Nothing in Lean hashes anything: it is a label: what it is worth is what the hold of that sum in a sandbox is worth. -/
noncomputable def Try.pinned : Pinned := { name := "ytmhanngimmjmoab", sum := "b9c80d32e369a0ee13e1a3ae1cfe3b753c7ca3c98a748fe740590c3f9238430c", checked := Try.checked }
namespace Rows
def none {H : Type} : Left H := { results := [], args := [] }

/-- 'redlinelaw08.HistogramHonest': WHATEVER THE INPUT: true; the input reads as it did. -/
def histogramHonestSpec : ChangeSpec := { name := "histogramHonest", fn := fun _ => fun
  | [d1, d2] => { results := [.lit (.bool true)], args := [d1, d2] }
  | _ => none }
def histogramHonestRow : OpenClaim := { program := "ytmhanngimmjmoab", sum := "b9c80d32e369a0ee13e1a3ae1cfe3b753c7ca3c98a748fe740590c3f9238430c", func := "redline/redlinelaw08.HistogramHonest", spec := "histogramHonest", unfollowed := true, recurses := true, apart := false }
def HistogramHonestSaid : Prop := histogramHonestRow.holds Try.pinned (OpenSpec.ofChange histogramHonestSpec)

/-- ITS FALSE NEIGHBOUR: 'it returns false'. Refute it at one input. -/
def histogramHonestWrong : ChangeSpec := { name := "histogramHonest", fn := fun _ => fun
  | [d1, d2] => { results := [.lit (.bool false)], args := [d1, d2] }
  | _ => none }
def HistogramHonestWrongFalsely : Prop := histogramHonestRow.holds Try.pinned (OpenSpec.ofChange histogramHonestWrong)

/-- 'redlinelaw08.HistogramRun': WHATEVER THE INPUT: true; the input reads as it did. -/
def histogramRunSpec : ChangeSpec := { name := "histogramRun", fn := fun _ => fun
  | [d1, d2] => { results := [.lit (.bool true)], args := [d1, d2] }
  | _ => none }
def histogramRunRow : OpenClaim := { program := "ytmhanngimmjmoab", sum := "b9c80d32e369a0ee13e1a3ae1cfe3b753c7ca3c98a748fe740590c3f9238430c", func := "redline/redlinelaw08.HistogramRun", spec := "histogramRun", unfollowed := true, recurses := true, apart := false }
def HistogramRunSaid : Prop := histogramRunRow.holds Try.pinned (OpenSpec.ofChange histogramRunSpec)

/-- ITS FALSE NEIGHBOUR: 'it returns false'. Refute it at one input. -/
def histogramRunWrong : ChangeSpec := { name := "histogramRun", fn := fun _ => fun
  | [d1, d2] => { results := [.lit (.bool false)], args := [d1, d2] }
  | _ => none }
def HistogramRunWrongFalsely : Prop := histogramRunRow.holds Try.pinned (OpenSpec.ofChange histogramRunWrong)

/- THE SECOND FORM. 'bulk': how many values and letters a reading holds, each counted each time it is reached (what is shared counts as often as it is met; a slice's spare places count too). A statement '..UptoSaid' is the law's where the arguments, and the package variables that the reading takes, are together of bulk at most 1048576: NARROWER than '..Said'. Prove '..Said' where nothing that the law and all that it calls make is longer than what came in: it says more and counts as full. Else prove '..UptoSaid'. A law counts once. -/
mutual
def uptoBulk {H : Type} : DataW H → Nat
  | .lit (.string bytes) => bytes.length + 1
  | .lit _ => 1
  | .nil => 1
  | .ptr d => uptoBulk d + 1
  | .slice elems spare => uptoBulkAll elems + uptoBulkAll spare + 1
  | .agg parts => uptoBulkAll parts + 1
  | .iface _ d => uptoBulk d + 1
  | .map entries => uptoBulkEntries entries + 1
  | .held _ => 1
def uptoBulkAll {H : Type} : List (DataW H) → Nat
  | [] => 0
  | d :: r => uptoBulk d + uptoBulkAll r
def uptoBulkEntries {H : Type} : List (Lit × DataW H) → Nat
  | [] => 0
  | x :: r => uptoBulkEntry x + uptoBulkEntries r
def uptoBulkEntry {H : Type} : Lit × DataW H → Nat
  | (.string bytes, d) => bytes.length + uptoBulk d + 1
  | (_, d) => uptoBulk d + 1
 end
def uptoSmall : (H : Type) → List (DataW H) → Bool := fun _ ds => decide (uptoBulkAll ds ≤ 1048576)
def OpenSpec.upto (s : _root_.Go.ChangeSpec) : _root_.Go.OpenSpec := { _root_.Go.OpenSpec.ofChange s with cond := some uptoSmall }

/-- 'redlinelaw08.HistogramHonest', WHERE WHAT IT READS IS OF BULK AT MOST 1048576: true; the input reads as it did. -/
def histogramHonestUptoRow : OpenClaim := { program := "ytmhanngimmjmoab", sum := "b9c80d32e369a0ee13e1a3ae1cfe3b753c7ca3c98a748fe740590c3f9238430c", func := "redline/redlinelaw08.HistogramHonest", spec := "histogramHonest", unfollowed := true, recurses := true, apart := false, narrowed := true }
def HistogramHonestUptoSaid : Prop := histogramHonestUptoRow.holds Try.pinned (OpenSpec.upto histogramHonestSpec)

/-- 'redlinelaw08.HistogramRun', WHERE WHAT IT READS IS OF BULK AT MOST 1048576: true; the input reads as it did. -/
def histogramRunUptoRow : OpenClaim := { program := "ytmhanngimmjmoab", sum := "b9c80d32e369a0ee13e1a3ae1cfe3b753c7ca3c98a748fe740590c3f9238430c", func := "redline/redlinelaw08.HistogramRun", spec := "histogramRun", unfollowed := true, recurses := true, apart := false, narrowed := true }
def HistogramRunUptoSaid : Prop := histogramRunUptoRow.holds Try.pinned (OpenSpec.upto histogramRunSpec)

end Rows
end Go.Proofs.Ytmhanngimmjmoab
