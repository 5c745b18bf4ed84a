/-
  DERIVED. GIVEN WITH THE SEED: THE CARDS: each row of YtjclgflbhdbaaaaDoorRows.lean that lists a variable, with what it lists TIED to the program's text (the seventh form; the later family's looks); each row that meets fmt, with fmt's text TOLD by the authors' own Lean function (tested against real Go, not proved from fmt's source: count such statements apart). THE CARD IS WHAT COUNTS. Prove the row's statement (the work); the ties are given (YtjclgflbhdbaaaaDoorTie.lean); close each card by the builder's one call (the guide's Derived/Test/ToyasCard.lean, 'card_holds'). Laid BY PROGRAM, IN A SANDBOX (cutbox-door.mjs). By AI agents, Wed Nov 11 2026. No macro, syntax, notation, axiom, sorry.
-/
import Derived.Test.YtjclgflbhdbaaaaDoorRows
import GoSem.ClaimSeven
namespace Go.Proofs.YtjclgflbhdbaaaaDoor
namespace Rows

/-- THE TIED CARD OF 'redlinelaw13.EdfmtPrints'. -/
def edfmtPrintsCard : Claim7 := { stood := { row := edfmtPrintsRow, standIns := [], harness := (true, "af032b3690a577ca9dc51de5e93f91a9cf627b5b3e0282ae1a6ae7b2d07dd6c2"), looks := true }, kinds := [], alts := [], laidByText := true, laidKinds := [.data, .data, .data], laidTests := true, laidLooks := .later }
def EdfmtPrintsCardSaid : Prop := Claim7.holds Tryd.pinned (.plain (OpenSpec.ofChange edfmtPrintsSpec)) edfmtPrintsCard

/-- THE TIED CARD OF 'redlinelaw13.EdfmtRuns'. -/
def edfmtRunsCard : Claim7 := { stood := { row := edfmtRunsRow, standIns := [], harness := (true, "af032b3690a577ca9dc51de5e93f91a9cf627b5b3e0282ae1a6ae7b2d07dd6c2"), looks := true }, kinds := [], alts := [], laidByText := true, laidKinds := [.handle], laidTests := true, laidLooks := .later }
def EdfmtRunsCardSaid : Prop := Claim7.holds Tryd.pinned (.plain (OpenSpec.ofChange edfmtRunsSpec)) edfmtRunsCard

/-- THE SECOND FORM's CARD OF 'redlinelaw13.EdfmtPrints'. -/
def edfmtPrintsUptoCard : Claim7 := { stood := { row := edfmtPrintsUptoRow, standIns := [], harness := (true, "af032b3690a577ca9dc51de5e93f91a9cf627b5b3e0282ae1a6ae7b2d07dd6c2"), looks := true }, kinds := [], alts := [], laidByText := true, laidKinds := [.data, .data, .data], laidTests := true, laidLooks := .later }
def EdfmtPrintsUptoCardSaid : Prop := Claim7.holds Tryd.pinned (.plain (OpenSpec.upto edfmtPrintsSpec)) edfmtPrintsUptoCard

/-- THE SECOND FORM's CARD OF 'redlinelaw13.EdfmtRuns'. -/
def edfmtRunsUptoCard : Claim7 := { stood := { row := edfmtRunsUptoRow, standIns := [], harness := (true, "af032b3690a577ca9dc51de5e93f91a9cf627b5b3e0282ae1a6ae7b2d07dd6c2"), looks := true }, kinds := [], alts := [], laidByText := true, laidKinds := [.handle], laidTests := true, laidLooks := .later }
def EdfmtRunsUptoCardSaid : Prop := Claim7.holds Tryd.pinned (.plain (OpenSpec.upto edfmtRunsSpec)) edfmtRunsUptoCard
end Rows
end Go.Proofs.YtjclgflbhdbaaaaDoor
