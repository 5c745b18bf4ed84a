/-
  NARROWER THAN 'FOR EVERY INPUT', by the rows' own cells (each row's printed sentence says how): HunksStand: laid · HunksBack: laid · HunksFewer: laid · HunksNone: laid.
  DERIVED. THE GIVEN ROWS OF THIS SEAT. 4 by the template 'for every input the law returns true; each argument reads behind the call as it read before'; 0 by the template 'total and deterministic' (their statements: YtgckcbcdmmnkoaaGreatDoorTotals.lean).
  GIVEN WITH THE SEED: the statements are not yours to turn. If you find one false, say at which input.
  Laid BY PROGRAM, IN A SANDBOX (cutbox-rows.mjs): the forced cells as the released guide's own fill.sh prints them over the translation 9616e1a321bd2f8c… (all of the seat's roots in one cut). By AI agents, Wed Nov 11 2026. No macro, syntax, notation, axiom, sorry.
-/
import Derived.Test.YtgckcbcdmmnkoaaGreatDoorChecked
import GoSem.PinnedTables
import GoSem.Claim
import GoSem.ClaimJoined
import GoSem.ClaimMapViews
import Derived.JoinedTies
import Derived.KernelRfl
namespace Go.Proofs.YtgckcbcdmmnkoaaGreatDoor
/- THE CELL 'sum', in the pinned program and in every row, IS THE sha256 OF THE DUMP (.gsa) THAT YtgckcbcdmmnkoaaGreatDoorProg.lean LOADS. Nothing in Lean hashes anything: it is a label: what it is worth is what the hold of that sum in a sandbox is worth. -/
noncomputable def Tryz.pinned : Pinned := { name := "ytgckcbcdmmnkoaagreatdoor", sum := "9616e1a321bd2f8ceedc35b7abd79e87ef7885e7f47815111cede15887b59c04", checked := Tryz.checked }
namespace Rows
def none {H : Type} : Left H := { results := [], args := [] }

/- WHAT THE LISTED PACKAGE-LEVEL VARIABLES READ AS WHEN THE CALL BEGINS. Each datum BY PROGRAM (the guide's laid-datum.mjs) off the statement by which the dump's own 'gosem.cut.vars' lays the variable. In a bare row this is a premise. The card (YtgckcbcdmmnkoaaGreatDoorCards.lean) ties it to the program's text. -/
def laid_unicode_utf8_acceptRanges {H : Type} : DataW H := .agg [.agg [.lit (.int .u8 128), .lit (.int .u8 191)], .agg [.lit (.int .u8 160), .lit (.int .u8 191)], .agg [.lit (.int .u8 128), .lit (.int .u8 159)], .agg [.lit (.int .u8 144), .lit (.int .u8 191)], .agg [.lit (.int .u8 128), .lit (.int .u8 143)], .agg [.lit (.int .u8 0), .lit (.int .u8 0)], .agg [.lit (.int .u8 0), .lit (.int .u8 0)], .agg [.lit (.int .u8 0), .lit (.int .u8 0)], .agg [.lit (.int .u8 0), .lit (.int .u8 0)], .agg [.lit (.int .u8 0), .lit (.int .u8 0)], .agg [.lit (.int .u8 0), .lit (.int .u8 0)], .agg [.lit (.int .u8 0), .lit (.int .u8 0)], .agg [.lit (.int .u8 0), .lit (.int .u8 0)], .agg [.lit (.int .u8 0), .lit (.int .u8 0)], .agg [.lit (.int .u8 0), .lit (.int .u8 0)], .agg [.lit (.int .u8 0), .lit (.int .u8 0)]]
/-- One of Go's own tables, pinned by name: the form's constant. -/
def laid_unicode_utf8_first : DataW Unit := Go.Pinned.utf8First

/-- 'redlinelaw11.HunksStand': WHATEVER THE INPUT: true; the input reads as it did. -/
def hunksStandSpec : ChangeSpec := { name := "hunksStand", fn := fun _ => fun
  | [d1, d2, d3, d4] => { results := [.lit (.bool true)], args := [d1, d2, d3, d4] }
  | _ => none }
def hunksStandRow : OpenClaim := { program := "ytgckcbcdmmnkoaagreatdoor", sum := "9616e1a321bd2f8ceedc35b7abd79e87ef7885e7f47815111cede15887b59c04", func := "redline/redlinelaw11.HunksStand", spec := "hunksStand", inPlace := ["internal/bytealg.IndexByteString", "internal/bytealg.IndexString", "slices.overlaps[redline/patience.Pair]", "internal/abi.NoEscape", "internal/bytealg.MakeNoZero"], unfollowed := true, recurses := true, named := ["internal/bytealg.MaxLen", "unicode/utf8.first", "unicode/utf8.acceptRanges"], apart := false, laid := [("unicode/utf8.acceptRanges", laid_unicode_utf8_acceptRanges), ("unicode/utf8.first", laid_unicode_utf8_first)] }
def HunksStandSaid : Prop := hunksStandRow.holds Tryz.pinned (OpenSpec.ofChange hunksStandSpec)

/-- ITS FALSE NEIGHBOUR: 'it returns false'. Refute it at one input. -/
def hunksStandWrong : ChangeSpec := { name := "hunksStand", fn := fun _ => fun
  | [d1, d2, d3, d4] => { results := [.lit (.bool false)], args := [d1, d2, d3, d4] }
  | _ => none }
def HunksStandWrongFalsely : Prop := hunksStandRow.holds Tryz.pinned (OpenSpec.ofChange hunksStandWrong)

/-- 'redlinelaw11.HunksBack': WHATEVER THE INPUT: true; the input reads as it did. -/
def hunksBackSpec : ChangeSpec := { name := "hunksBack", fn := fun _ => fun
  | [d1, d2, d3, d4] => { results := [.lit (.bool true)], args := [d1, d2, d3, d4] }
  | _ => none }
def hunksBackRow : OpenClaim := { program := "ytgckcbcdmmnkoaagreatdoor", sum := "9616e1a321bd2f8ceedc35b7abd79e87ef7885e7f47815111cede15887b59c04", func := "redline/redlinelaw11.HunksBack", spec := "hunksBack", inPlace := ["internal/bytealg.IndexByteString", "internal/bytealg.IndexString", "slices.overlaps[redline/patience.Pair]", "internal/abi.NoEscape", "internal/bytealg.MakeNoZero"], unfollowed := true, recurses := true, named := ["internal/bytealg.MaxLen", "unicode/utf8.first", "unicode/utf8.acceptRanges"], apart := false, laid := [("unicode/utf8.acceptRanges", laid_unicode_utf8_acceptRanges), ("unicode/utf8.first", laid_unicode_utf8_first)] }
def HunksBackSaid : Prop := hunksBackRow.holds Tryz.pinned (OpenSpec.ofChange hunksBackSpec)

/-- ITS FALSE NEIGHBOUR: 'it returns false'. Refute it at one input. -/
def hunksBackWrong : ChangeSpec := { name := "hunksBack", fn := fun _ => fun
  | [d1, d2, d3, d4] => { results := [.lit (.bool false)], args := [d1, d2, d3, d4] }
  | _ => none }
def HunksBackWrongFalsely : Prop := hunksBackRow.holds Tryz.pinned (OpenSpec.ofChange hunksBackWrong)

/-- 'redlinelaw11.HunksFewer': WHATEVER THE INPUT: true; the input reads as it did. -/
def hunksFewerSpec : ChangeSpec := { name := "hunksFewer", fn := fun _ => fun
  | [d1, d2, d3] => { results := [.lit (.bool true)], args := [d1, d2, d3] }
  | _ => none }
def hunksFewerRow : OpenClaim := { program := "ytgckcbcdmmnkoaagreatdoor", sum := "9616e1a321bd2f8ceedc35b7abd79e87ef7885e7f47815111cede15887b59c04", func := "redline/redlinelaw11.HunksFewer", spec := "hunksFewer", inPlace := ["internal/bytealg.IndexByteString", "internal/bytealg.IndexString", "slices.overlaps[redline/patience.Pair]", "internal/abi.NoEscape", "internal/bytealg.MakeNoZero"], unfollowed := true, recurses := true, named := ["internal/bytealg.MaxLen", "unicode/utf8.first", "unicode/utf8.acceptRanges"], apart := false, laid := [("unicode/utf8.acceptRanges", laid_unicode_utf8_acceptRanges), ("unicode/utf8.first", laid_unicode_utf8_first)] }
def HunksFewerSaid : Prop := hunksFewerRow.holds Tryz.pinned (OpenSpec.ofChange hunksFewerSpec)

/-- ITS FALSE NEIGHBOUR: 'it returns false'. Refute it at one input. -/
def hunksFewerWrong : ChangeSpec := { name := "hunksFewer", fn := fun _ => fun
  | [d1, d2, d3] => { results := [.lit (.bool false)], args := [d1, d2, d3] }
  | _ => none }
def HunksFewerWrongFalsely : Prop := hunksFewerRow.holds Tryz.pinned (OpenSpec.ofChange hunksFewerWrong)

/-- 'redlinelaw11.HunksNone': WHATEVER THE INPUT: true; the input reads as it did. -/
def hunksNoneSpec : ChangeSpec := { name := "hunksNone", fn := fun _ => fun
  | [d1, d2] => { results := [.lit (.bool true)], args := [d1, d2] }
  | _ => none }
def hunksNoneRow : OpenClaim := { program := "ytgckcbcdmmnkoaagreatdoor", sum := "9616e1a321bd2f8ceedc35b7abd79e87ef7885e7f47815111cede15887b59c04", func := "redline/redlinelaw11.HunksNone", spec := "hunksNone", inPlace := ["internal/bytealg.IndexByteString", "internal/bytealg.IndexString", "slices.overlaps[redline/patience.Pair]", "internal/abi.NoEscape", "internal/bytealg.MakeNoZero"], unfollowed := true, recurses := true, named := ["internal/bytealg.MaxLen", "unicode/utf8.first", "unicode/utf8.acceptRanges"], apart := false, laid := [("unicode/utf8.acceptRanges", laid_unicode_utf8_acceptRanges), ("unicode/utf8.first", laid_unicode_utf8_first)] }
def HunksNoneSaid : Prop := hunksNoneRow.holds Tryz.pinned (OpenSpec.ofChange hunksNoneSpec)

/-- ITS FALSE NEIGHBOUR: 'it returns false'. Refute it at one input. -/
def hunksNoneWrong : ChangeSpec := { name := "hunksNone", fn := fun _ => fun
  | [d1, d2] => { results := [.lit (.bool false)], args := [d1, d2] }
  | _ => none }
def HunksNoneWrongFalsely : Prop := hunksNoneRow.holds Tryz.pinned (OpenSpec.ofChange hunksNoneWrong)

/- THE SECOND FORM. 'bulk': how many values and letters a reading holds, each counted each time it is reached (what is shared counts as often as it is met; a slice's spare places count too). A statement '..UptoSaid' is the law's where the arguments, and the package variables that the reading takes, are together of bulk at most 1048576: NARROWER than '..Said'. Prove '..Said' where nothing that the law and all that it calls make is longer than what came in: it says more and counts as full. Else prove '..UptoSaid'. A law counts once. -/
mutual
def uptoBulk {H : Type} : DataW H → Nat
  | .lit (.string bytes) => bytes.length + 1
  | .lit _ => 1
  | .nil => 1
  | .ptr d => uptoBulk d + 1
  | .slice elems spare => uptoBulkAll elems + uptoBulkAll spare + 1
  | .agg parts => uptoBulkAll parts + 1
  | .iface _ d => uptoBulk d + 1
  | .map entries => uptoBulkEntries entries + 1
  | .held _ => 1
def uptoBulkAll {H : Type} : List (DataW H) → Nat
  | [] => 0
  | d :: r => uptoBulk d + uptoBulkAll r
def uptoBulkEntries {H : Type} : List (Lit × DataW H) → Nat
  | [] => 0
  | x :: r => uptoBulkEntry x + uptoBulkEntries r
def uptoBulkEntry {H : Type} : Lit × DataW H → Nat
  | (.string bytes, d) => bytes.length + uptoBulk d + 1
  | (_, d) => uptoBulk d + 1
 end
def uptoSmall : (H : Type) → List (DataW H) → Bool := fun _ ds => decide (uptoBulkAll ds ≤ 1048576)
def OpenSpec.upto (s : _root_.Go.ChangeSpec) : _root_.Go.OpenSpec := { _root_.Go.OpenSpec.ofChange s with cond := some uptoSmall }

/-- 'redlinelaw11.HunksStand', WHERE WHAT IT READS IS OF BULK AT MOST 1048576: true; the input reads as it did. -/
def hunksStandUptoRow : OpenClaim := { program := "ytgckcbcdmmnkoaagreatdoor", sum := "9616e1a321bd2f8ceedc35b7abd79e87ef7885e7f47815111cede15887b59c04", func := "redline/redlinelaw11.HunksStand", spec := "hunksStand", inPlace := ["internal/bytealg.IndexByteString", "internal/bytealg.IndexString", "slices.overlaps[redline/patience.Pair]", "internal/abi.NoEscape", "internal/bytealg.MakeNoZero"], unfollowed := true, recurses := true, named := ["internal/bytealg.MaxLen", "unicode/utf8.first", "unicode/utf8.acceptRanges"], apart := false, laid := [("unicode/utf8.acceptRanges", laid_unicode_utf8_acceptRanges), ("unicode/utf8.first", laid_unicode_utf8_first)], narrowed := true }
def HunksStandUptoSaid : Prop := hunksStandUptoRow.holds Tryz.pinned (OpenSpec.upto hunksStandSpec)

/-- 'redlinelaw11.HunksBack', WHERE WHAT IT READS IS OF BULK AT MOST 1048576: true; the input reads as it did. -/
def hunksBackUptoRow : OpenClaim := { program := "ytgckcbcdmmnkoaagreatdoor", sum := "9616e1a321bd2f8ceedc35b7abd79e87ef7885e7f47815111cede15887b59c04", func := "redline/redlinelaw11.HunksBack", spec := "hunksBack", inPlace := ["internal/bytealg.IndexByteString", "internal/bytealg.IndexString", "slices.overlaps[redline/patience.Pair]", "internal/abi.NoEscape", "internal/bytealg.MakeNoZero"], unfollowed := true, recurses := true, named := ["internal/bytealg.MaxLen", "unicode/utf8.first", "unicode/utf8.acceptRanges"], apart := false, laid := [("unicode/utf8.acceptRanges", laid_unicode_utf8_acceptRanges), ("unicode/utf8.first", laid_unicode_utf8_first)], narrowed := true }
def HunksBackUptoSaid : Prop := hunksBackUptoRow.holds Tryz.pinned (OpenSpec.upto hunksBackSpec)

/-- 'redlinelaw11.HunksFewer', WHERE WHAT IT READS IS OF BULK AT MOST 1048576: true; the input reads as it did. -/
def hunksFewerUptoRow : OpenClaim := { program := "ytgckcbcdmmnkoaagreatdoor", sum := "9616e1a321bd2f8ceedc35b7abd79e87ef7885e7f47815111cede15887b59c04", func := "redline/redlinelaw11.HunksFewer", spec := "hunksFewer", inPlace := ["internal/bytealg.IndexByteString", "internal/bytealg.IndexString", "slices.overlaps[redline/patience.Pair]", "internal/abi.NoEscape", "internal/bytealg.MakeNoZero"], unfollowed := true, recurses := true, named := ["internal/bytealg.MaxLen", "unicode/utf8.first", "unicode/utf8.acceptRanges"], apart := false, laid := [("unicode/utf8.acceptRanges", laid_unicode_utf8_acceptRanges), ("unicode/utf8.first", laid_unicode_utf8_first)], narrowed := true }
def HunksFewerUptoSaid : Prop := hunksFewerUptoRow.holds Tryz.pinned (OpenSpec.upto hunksFewerSpec)

/-- 'redlinelaw11.HunksNone', WHERE WHAT IT READS IS OF BULK AT MOST 1048576: true; the input reads as it did. -/
def hunksNoneUptoRow : OpenClaim := { program := "ytgckcbcdmmnkoaagreatdoor", sum := "9616e1a321bd2f8ceedc35b7abd79e87ef7885e7f47815111cede15887b59c04", func := "redline/redlinelaw11.HunksNone", spec := "hunksNone", inPlace := ["internal/bytealg.IndexByteString", "internal/bytealg.IndexString", "slices.overlaps[redline/patience.Pair]", "internal/abi.NoEscape", "internal/bytealg.MakeNoZero"], unfollowed := true, recurses := true, named := ["internal/bytealg.MaxLen", "unicode/utf8.first", "unicode/utf8.acceptRanges"], apart := false, laid := [("unicode/utf8.acceptRanges", laid_unicode_utf8_acceptRanges), ("unicode/utf8.first", laid_unicode_utf8_first)], narrowed := true }
def HunksNoneUptoSaid : Prop := hunksNoneUptoRow.holds Tryz.pinned (OpenSpec.upto hunksNoneSpec)

end Rows
end Go.Proofs.YtgckcbcdmmnkoaaGreatDoor
