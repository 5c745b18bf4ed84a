/-
  DERIVED. GIVEN WITH THE SEED: THE CARDS: each row of YtcnjephlmcnodaaDoorRows.lean that lists a variable, with what it lists TIED to the program's text (the seventh form; the later family's looks); each row that meets fmt, with fmt's text TOLD by the authors' own Lean function (tested against real Go, not proved from fmt's source: count such statements apart). THE CARD IS WHAT COUNTS. Prove the row's statement (the work); the ties are given (YtcnjephlmcnodaaDoorTie.lean); close each card by the builder's one call (the guide's Derived/Test/ToyasCard.lean, 'card_holds'). Laid BY PROGRAM, IN A SANDBOX (cutbox-door.mjs). By AI agents, Wed Nov 11 2026. No macro, syntax, notation, axiom, sorry.
-/
import Derived.Test.YtcnjephlmcnodaaDoorRows
import GoSem.ClaimSeven
namespace Go.Proofs.YtcnjephlmcnodaaDoor
namespace Rows

/-- THE TIED CARD OF 'redlinelaw17.ViewsSide'. -/
def viewsSideCard : Claim7 := { stood := { row := viewsSideRow, standIns := [], harness := (true, "07f276ca4e5aa0ff41ead70ac0f33afcb832ce2a60e176cb4ec16ab112865da1"), looks := true }, kinds := [], alts := [], laidByText := true, laidKinds := [.data, .pinned], laidTests := true, laidLooks := .later }
def ViewsSideCardSaid : Prop := Claim7.holds Tryd.pinned (.plain (OpenSpec.ofChange viewsSideSpec)) viewsSideCard

/-- THE TIED CARD OF 'redlinelaw17.ViewsResolve'. -/
def viewsResolveCard : Claim7 := { stood := { row := viewsResolveRow, standIns := [], harness := (true, "07f276ca4e5aa0ff41ead70ac0f33afcb832ce2a60e176cb4ec16ab112865da1"), looks := true }, kinds := [], alts := [], laidByText := true, laidKinds := [.handle], laidTests := true, laidLooks := .later }
def ViewsResolveCardSaid : Prop := Claim7.holds Tryd.pinned (.plain (OpenSpec.ofChange viewsResolveSpec)) viewsResolveCard

/-- THE TIED CARD OF 'redlinelaw17.ViewsSame'. -/
def viewsSameCard : Claim7 := { stood := { row := viewsSameRow, standIns := [], harness := (true, "07f276ca4e5aa0ff41ead70ac0f33afcb832ce2a60e176cb4ec16ab112865da1"), looks := true }, kinds := [], alts := [], laidByText := true, laidKinds := [.data, .pinned], laidTests := true, laidLooks := .later }
def ViewsSameCardSaid : Prop := Claim7.holds Tryd.pinned (.plain (OpenSpec.ofChange viewsSameSpec)) viewsSameCard

/-- THE SECOND FORM's CARD OF 'redlinelaw17.ViewsSide'. -/
def viewsSideUptoCard : Claim7 := { stood := { row := viewsSideUptoRow, standIns := [], harness := (true, "07f276ca4e5aa0ff41ead70ac0f33afcb832ce2a60e176cb4ec16ab112865da1"), looks := true }, kinds := [], alts := [], laidByText := true, laidKinds := [.data, .pinned], laidTests := true, laidLooks := .later }
def ViewsSideUptoCardSaid : Prop := Claim7.holds Tryd.pinned (.plain (OpenSpec.upto viewsSideSpec)) viewsSideUptoCard

/-- THE SECOND FORM's CARD OF 'redlinelaw17.ViewsResolve'. -/
def viewsResolveUptoCard : Claim7 := { stood := { row := viewsResolveUptoRow, standIns := [], harness := (true, "07f276ca4e5aa0ff41ead70ac0f33afcb832ce2a60e176cb4ec16ab112865da1"), looks := true }, kinds := [], alts := [], laidByText := true, laidKinds := [.handle], laidTests := true, laidLooks := .later }
def ViewsResolveUptoCardSaid : Prop := Claim7.holds Tryd.pinned (.plain (OpenSpec.upto viewsResolveSpec)) viewsResolveUptoCard

/-- THE SECOND FORM's CARD OF 'redlinelaw17.ViewsSame'. -/
def viewsSameUptoCard : Claim7 := { stood := { row := viewsSameUptoRow, standIns := [], harness := (true, "07f276ca4e5aa0ff41ead70ac0f33afcb832ce2a60e176cb4ec16ab112865da1"), looks := true }, kinds := [], alts := [], laidByText := true, laidKinds := [.data, .pinned], laidTests := true, laidLooks := .later }
def ViewsSameUptoCardSaid : Prop := Claim7.holds Tryd.pinned (.plain (OpenSpec.upto viewsSameSpec)) viewsSameUptoCard
end Rows
end Go.Proofs.YtcnjephlmcnodaaDoor
