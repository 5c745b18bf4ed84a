/-
  DERIVED. GIVEN WITH THE SEED: THE CARDS: each row of YtcnjephlmcnodaaGreatDoorRows.lean that lists a variable, with what it lists TIED to the program's text (the seventh form; the later family's looks); each row that meets fmt, with fmt's text TOLD by the authors' own Lean function (tested against real Go, not proved from fmt's source: count such statements apart). THE CARD IS WHAT COUNTS. Prove the row's statement (the work); the ties are given (YtcnjephlmcnodaaGreatDoorTie.lean); close each card by the builder's one call (the guide's Derived/Test/ToyasCard.lean, 'card_holds'). Laid BY PROGRAM, IN A SANDBOX (cutbox-door.mjs). By AI agents, Wed Nov 11 2026. No macro, syntax, notation, axiom, sorry.
-/
import Derived.Test.YtcnjephlmcnodaaGreatDoorRows
import GoSem.ClaimSeven
namespace Go.Proofs.YtcnjephlmcnodaaGreatDoor
namespace Rows

/-- THE TIED CARD OF 'redlinelaw17.ViewsBoth'. -/
def viewsBothCard : Claim7 := { stood := { row := viewsBothRow, standIns := [], harness := (true, "60cfb763ba9edc3d5b4c028f99563089f971f15e463251e0765690d529fb3f12"), looks := false }, kinds := [], alts := [], laidByText := true, laidKinds := [.data, .pinned], laidTests := true, laidLooks := .later }
def ViewsBothCardSaid : Prop := Claim7.holds Tryz.pinned (.plain (OpenSpec.ofChange viewsBothSpec)) viewsBothCard

/-- THE TIED CARD OF 'redlinelaw17.ViewsRows'. -/
def viewsRowsCard : Claim7 := { stood := { row := viewsRowsRow, standIns := [], harness := (true, "60cfb763ba9edc3d5b4c028f99563089f971f15e463251e0765690d529fb3f12"), looks := false }, kinds := [], alts := [], laidByText := true, laidKinds := [.data, .pinned], laidTests := true, laidLooks := .later }
def ViewsRowsCardSaid : Prop := Claim7.holds Tryz.pinned (.plain (OpenSpec.ofChange viewsRowsSpec)) viewsRowsCard

/-- THE SECOND FORM's CARD OF 'redlinelaw17.ViewsBoth'. -/
def viewsBothUptoCard : Claim7 := { stood := { row := viewsBothUptoRow, standIns := [], harness := (true, "60cfb763ba9edc3d5b4c028f99563089f971f15e463251e0765690d529fb3f12"), looks := false }, kinds := [], alts := [], laidByText := true, laidKinds := [.data, .pinned], laidTests := true, laidLooks := .later }
def ViewsBothUptoCardSaid : Prop := Claim7.holds Tryz.pinned (.plain (OpenSpec.upto viewsBothSpec)) viewsBothUptoCard

/-- THE SECOND FORM's CARD OF 'redlinelaw17.ViewsRows'. -/
def viewsRowsUptoCard : Claim7 := { stood := { row := viewsRowsUptoRow, standIns := [], harness := (true, "60cfb763ba9edc3d5b4c028f99563089f971f15e463251e0765690d529fb3f12"), looks := false }, kinds := [], alts := [], laidByText := true, laidKinds := [.data, .pinned], laidTests := true, laidLooks := .later }
def ViewsRowsUptoCardSaid : Prop := Claim7.holds Tryz.pinned (.plain (OpenSpec.upto viewsRowsSpec)) viewsRowsUptoCard
end Rows
end Go.Proofs.YtcnjephlmcnodaaGreatDoor
