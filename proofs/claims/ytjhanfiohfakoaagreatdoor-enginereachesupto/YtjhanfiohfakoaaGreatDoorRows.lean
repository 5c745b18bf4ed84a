/-
  NARROWER THAN 'FOR EVERY INPUT', by the rows' own cells (each row's printed sentence says how): EngineDiffs: laid · EngineHonest: laid · EngineReaches: laid.
  DERIVED. THE GIVEN ROWS OF THIS SEAT. 3 by the template 'for every input the law returns true; each argument reads behind the call as it read before'; 0 by the template 'total and deterministic' (their statements: YtjhanfiohfakoaaGreatDoorTotals.lean).
  GIVEN WITH THE SEED: the statements are not yours to turn. If you find one false, say at which input.
  Laid BY PROGRAM, IN A SANDBOX (cutbox-rows.mjs): the forced cells as the released guide's own fill.sh prints them over the translation 8ffd3b4b99537761… (all of the seat's roots in one cut). By AI agents, Wed Nov 11 2026. No macro, syntax, notation, axiom, sorry.
-/
import Derived.Test.YtjhanfiohfakoaaGreatDoorChecked
import GoSem.PinnedTables
import GoSem.Claim
import GoSem.ClaimJoined
import GoSem.ClaimMapViews
import Derived.JoinedTies
import Derived.KernelRfl
namespace Go.Proofs.YtjhanfiohfakoaaGreatDoor
/- THE CELL 'sum', in the pinned program and in every row, IS THE sha256 OF THE DUMP (.gsa) THAT YtjhanfiohfakoaaGreatDoorProg.lean LOADS. Nothing in Lean hashes anything: it is a label: what it is worth is what the hold of that sum in a sandbox is worth. -/
noncomputable def Tryz.pinned : Pinned := { name := "ytjhanfiohfakoaagreatdoor", sum := "8ffd3b4b99537761cb4bab28617fd3700e6a6d89b5b4516b1e29ed92c073105f", checked := Tryz.checked }
namespace Rows
def none {H : Type} : Left H := { results := [], args := [] }

/- WHAT THE LISTED PACKAGE-LEVEL VARIABLES READ AS WHEN THE CALL BEGINS. Each datum BY PROGRAM (the guide's laid-datum.mjs) off the statement by which the dump's own 'gosem.cut.vars' lays the variable. In a bare row this is a premise. The card (YtjhanfiohfakoaaGreatDoorCards.lean) ties it to the program's text. -/
def laid_unicode_utf8_acceptRanges {H : Type} : DataW H := .agg [.agg [.lit (.int .u8 128), .lit (.int .u8 191)], .agg [.lit (.int .u8 160), .lit (.int .u8 191)], .agg [.lit (.int .u8 128), .lit (.int .u8 159)], .agg [.lit (.int .u8 144), .lit (.int .u8 191)], .agg [.lit (.int .u8 128), .lit (.int .u8 143)], .agg [.lit (.int .u8 0), .lit (.int .u8 0)], .agg [.lit (.int .u8 0), .lit (.int .u8 0)], .agg [.lit (.int .u8 0), .lit (.int .u8 0)], .agg [.lit (.int .u8 0), .lit (.int .u8 0)], .agg [.lit (.int .u8 0), .lit (.int .u8 0)], .agg [.lit (.int .u8 0), .lit (.int .u8 0)], .agg [.lit (.int .u8 0), .lit (.int .u8 0)], .agg [.lit (.int .u8 0), .lit (.int .u8 0)], .agg [.lit (.int .u8 0), .lit (.int .u8 0)], .agg [.lit (.int .u8 0), .lit (.int .u8 0)], .agg [.lit (.int .u8 0), .lit (.int .u8 0)]]
/-- One of Go's own tables, pinned by name: the form's constant. -/
def laid_unicode_utf8_first : DataW Unit := Go.Pinned.utf8First

/-- 'redlinelaw10.EngineDiffs': WHATEVER THE INPUT: true; the input reads as it did. -/
def engineDiffsSpec : ChangeSpec := { name := "engineDiffs", fn := fun _ => fun
  | [d1, d2, d3, d4] => { results := [.lit (.bool true)], args := [d1, d2, d3, d4] }
  | _ => none }
def engineDiffsRow : OpenClaim := { program := "ytjhanfiohfakoaagreatdoor", sum := "8ffd3b4b99537761cb4bab28617fd3700e6a6d89b5b4516b1e29ed92c073105f", func := "redline/redlinelaw10.EngineDiffs", spec := "engineDiffs", inPlace := ["slices.overlaps[redline/patience.Pair]", "internal/abi.NoEscape", "internal/bytealg.MakeNoZero", "internal/bytealg.IndexByteString", "internal/bytealg.IndexString"], unfollowed := true, recurses := true, named := ["unicode/utf8.first", "unicode/utf8.acceptRanges", "internal/bytealg.MaxLen"], apart := false, laid := [("unicode/utf8.acceptRanges", laid_unicode_utf8_acceptRanges), ("unicode/utf8.first", laid_unicode_utf8_first)] }
def EngineDiffsSaid : Prop := engineDiffsRow.holds Tryz.pinned (OpenSpec.ofChange engineDiffsSpec)

/-- ITS FALSE NEIGHBOUR: 'it returns false'. Refute it at one input. -/
def engineDiffsWrong : ChangeSpec := { name := "engineDiffs", fn := fun _ => fun
  | [d1, d2, d3, d4] => { results := [.lit (.bool false)], args := [d1, d2, d3, d4] }
  | _ => none }
def EngineDiffsWrongFalsely : Prop := engineDiffsRow.holds Tryz.pinned (OpenSpec.ofChange engineDiffsWrong)

/-- 'redlinelaw10.EngineHonest': WHATEVER THE INPUT: true; the input reads as it did. -/
def engineHonestSpec : ChangeSpec := { name := "engineHonest", fn := fun _ => fun
  | [d1, d2, d3, d4] => { results := [.lit (.bool true)], args := [d1, d2, d3, d4] }
  | _ => none }
def engineHonestRow : OpenClaim := { program := "ytjhanfiohfakoaagreatdoor", sum := "8ffd3b4b99537761cb4bab28617fd3700e6a6d89b5b4516b1e29ed92c073105f", func := "redline/redlinelaw10.EngineHonest", spec := "engineHonest", inPlace := ["slices.overlaps[redline/patience.Pair]", "internal/abi.NoEscape", "internal/bytealg.MakeNoZero", "internal/bytealg.IndexByteString", "internal/bytealg.IndexString"], unfollowed := true, recurses := true, named := ["unicode/utf8.first", "unicode/utf8.acceptRanges", "internal/bytealg.MaxLen"], apart := false, laid := [("unicode/utf8.acceptRanges", laid_unicode_utf8_acceptRanges), ("unicode/utf8.first", laid_unicode_utf8_first)] }
def EngineHonestSaid : Prop := engineHonestRow.holds Tryz.pinned (OpenSpec.ofChange engineHonestSpec)

/-- ITS FALSE NEIGHBOUR: 'it returns false'. Refute it at one input. -/
def engineHonestWrong : ChangeSpec := { name := "engineHonest", fn := fun _ => fun
  | [d1, d2, d3, d4] => { results := [.lit (.bool false)], args := [d1, d2, d3, d4] }
  | _ => none }
def EngineHonestWrongFalsely : Prop := engineHonestRow.holds Tryz.pinned (OpenSpec.ofChange engineHonestWrong)

/-- 'redlinelaw10.EngineReaches': WHATEVER THE INPUT: true; the input reads as it did. -/
def engineReachesSpec : ChangeSpec := { name := "engineReaches", fn := fun _ => fun
  | [d1, d2, d3] => { results := [.lit (.bool true)], args := [d1, d2, d3] }
  | _ => none }
def engineReachesRow : OpenClaim := { program := "ytjhanfiohfakoaagreatdoor", sum := "8ffd3b4b99537761cb4bab28617fd3700e6a6d89b5b4516b1e29ed92c073105f", func := "redline/redlinelaw10.EngineReaches", spec := "engineReaches", inPlace := ["slices.overlaps[redline/patience.Pair]", "internal/abi.NoEscape", "internal/bytealg.MakeNoZero", "internal/bytealg.IndexByteString", "internal/bytealg.IndexString"], unfollowed := true, recurses := true, named := ["unicode/utf8.first", "unicode/utf8.acceptRanges", "internal/bytealg.MaxLen"], apart := false, laid := [("unicode/utf8.acceptRanges", laid_unicode_utf8_acceptRanges), ("unicode/utf8.first", laid_unicode_utf8_first)] }
def EngineReachesSaid : Prop := engineReachesRow.holds Tryz.pinned (OpenSpec.ofChange engineReachesSpec)

/-- ITS FALSE NEIGHBOUR: 'it returns false'. Refute it at one input. -/
def engineReachesWrong : ChangeSpec := { name := "engineReaches", fn := fun _ => fun
  | [d1, d2, d3] => { results := [.lit (.bool false)], args := [d1, d2, d3] }
  | _ => none }
def EngineReachesWrongFalsely : Prop := engineReachesRow.holds Tryz.pinned (OpenSpec.ofChange engineReachesWrong)

/- THE SECOND FORM. 'bulk': how many values and letters a reading holds, each counted each time it is reached (what is shared counts as often as it is met; a slice's spare places count too). A statement '..UptoSaid' is the law's where the arguments, and the package variables that the reading takes, are together of bulk at most 1048576: NARROWER than '..Said'. Prove '..Said' where nothing that the law and all that it calls make is longer than what came in: it says more and counts as full. Else prove '..UptoSaid'. A law counts once. -/
mutual
def uptoBulk {H : Type} : DataW H → Nat
  | .lit (.string bytes) => bytes.length + 1
  | .lit _ => 1
  | .nil => 1
  | .ptr d => uptoBulk d + 1
  | .slice elems spare => uptoBulkAll elems + uptoBulkAll spare + 1
  | .agg parts => uptoBulkAll parts + 1
  | .iface _ d => uptoBulk d + 1
  | .map entries => uptoBulkEntries entries + 1
  | .held _ => 1
def uptoBulkAll {H : Type} : List (DataW H) → Nat
  | [] => 0
  | d :: r => uptoBulk d + uptoBulkAll r
def uptoBulkEntries {H : Type} : List (Lit × DataW H) → Nat
  | [] => 0
  | x :: r => uptoBulkEntry x + uptoBulkEntries r
def uptoBulkEntry {H : Type} : Lit × DataW H → Nat
  | (.string bytes, d) => bytes.length + uptoBulk d + 1
  | (_, d) => uptoBulk d + 1
 end
def uptoSmall : (H : Type) → List (DataW H) → Bool := fun _ ds => decide (uptoBulkAll ds ≤ 1048576)
def OpenSpec.upto (s : _root_.Go.ChangeSpec) : _root_.Go.OpenSpec := { _root_.Go.OpenSpec.ofChange s with cond := some uptoSmall }

/-- 'redlinelaw10.EngineDiffs', WHERE WHAT IT READS IS OF BULK AT MOST 1048576: true; the input reads as it did. -/
def engineDiffsUptoRow : OpenClaim := { program := "ytjhanfiohfakoaagreatdoor", sum := "8ffd3b4b99537761cb4bab28617fd3700e6a6d89b5b4516b1e29ed92c073105f", func := "redline/redlinelaw10.EngineDiffs", spec := "engineDiffs", inPlace := ["slices.overlaps[redline/patience.Pair]", "internal/abi.NoEscape", "internal/bytealg.MakeNoZero", "internal/bytealg.IndexByteString", "internal/bytealg.IndexString"], unfollowed := true, recurses := true, named := ["unicode/utf8.first", "unicode/utf8.acceptRanges", "internal/bytealg.MaxLen"], apart := false, laid := [("unicode/utf8.acceptRanges", laid_unicode_utf8_acceptRanges), ("unicode/utf8.first", laid_unicode_utf8_first)], narrowed := true }
def EngineDiffsUptoSaid : Prop := engineDiffsUptoRow.holds Tryz.pinned (OpenSpec.upto engineDiffsSpec)

/-- 'redlinelaw10.EngineHonest', WHERE WHAT IT READS IS OF BULK AT MOST 1048576: true; the input reads as it did. -/
def engineHonestUptoRow : OpenClaim := { program := "ytjhanfiohfakoaagreatdoor", sum := "8ffd3b4b99537761cb4bab28617fd3700e6a6d89b5b4516b1e29ed92c073105f", func := "redline/redlinelaw10.EngineHonest", spec := "engineHonest", inPlace := ["slices.overlaps[redline/patience.Pair]", "internal/abi.NoEscape", "internal/bytealg.MakeNoZero", "internal/bytealg.IndexByteString", "internal/bytealg.IndexString"], unfollowed := true, recurses := true, named := ["unicode/utf8.first", "unicode/utf8.acceptRanges", "internal/bytealg.MaxLen"], apart := false, laid := [("unicode/utf8.acceptRanges", laid_unicode_utf8_acceptRanges), ("unicode/utf8.first", laid_unicode_utf8_first)], narrowed := true }
def EngineHonestUptoSaid : Prop := engineHonestUptoRow.holds Tryz.pinned (OpenSpec.upto engineHonestSpec)

/-- 'redlinelaw10.EngineReaches', WHERE WHAT IT READS IS OF BULK AT MOST 1048576: true; the input reads as it did. -/
def engineReachesUptoRow : OpenClaim := { program := "ytjhanfiohfakoaagreatdoor", sum := "8ffd3b4b99537761cb4bab28617fd3700e6a6d89b5b4516b1e29ed92c073105f", func := "redline/redlinelaw10.EngineReaches", spec := "engineReaches", inPlace := ["slices.overlaps[redline/patience.Pair]", "internal/abi.NoEscape", "internal/bytealg.MakeNoZero", "internal/bytealg.IndexByteString", "internal/bytealg.IndexString"], unfollowed := true, recurses := true, named := ["unicode/utf8.first", "unicode/utf8.acceptRanges", "internal/bytealg.MaxLen"], apart := false, laid := [("unicode/utf8.acceptRanges", laid_unicode_utf8_acceptRanges), ("unicode/utf8.first", laid_unicode_utf8_first)], narrowed := true }
def EngineReachesUptoSaid : Prop := engineReachesUptoRow.holds Tryz.pinned (OpenSpec.upto engineReachesSpec)

end Rows
end Go.Proofs.YtjhanfiohfakoaaGreatDoor
