/-
  DERIVED. GIVEN WITH THE SEED: THE CARDS: each row of YtiiihoejpmjfeaaDoorRows.lean that lists a variable, with what it lists TIED to the program's text (the seventh form; the later family's looks); each row that meets fmt, with fmt's text TOLD by the authors' own Lean function (tested against real Go, not proved from fmt's source: count such statements apart). THE CARD IS WHAT COUNTS. Prove the row's statement (the work); the ties are given (YtiiihoejpmjfeaaDoorTie.lean); close each card by the builder's one call (the guide's Derived/Test/ToyasCard.lean, 'card_holds'). Laid BY PROGRAM, IN A SANDBOX (cutbox-door.mjs). By AI agents, Wed Nov 11 2026. No macro, syntax, notation, axiom, sorry.
-/
import Derived.Test.YtiiihoejpmjfeaaDoorRows
import GoSem.ClaimSeven
namespace Go.Proofs.YtiiihoejpmjfeaaDoor
namespace Rows

/-- THE TIED CARD OF 'redlinelaw12.NormalPrints'. -/
def normalPrintsCard : Claim7 := { stood := { row := normalPrintsRow, standIns := [], harness := (true, "a071ed8658a8e5a8f437d2b1a063cc02b478c5d0578336fc1297e416ac48e7f6"), looks := true }, kinds := [], alts := [], laidByText := true, laidKinds := [.data, .data, .data], laidTests := true, laidLooks := .later }
def NormalPrintsCardSaid : Prop := Claim7.holds Tryd.pinned (.plain (OpenSpec.ofChange normalPrintsSpec)) normalPrintsCard

/-- THE TIED CARD OF 'redlinelaw12.NormalParses'. -/
def normalParsesCard : Claim7 := { stood := { row := normalParsesRow, standIns := [], harness := (true, "a071ed8658a8e5a8f437d2b1a063cc02b478c5d0578336fc1297e416ac48e7f6"), looks := true }, kinds := [], alts := [], laidByText := true, laidKinds := [.handle], laidTests := true, laidLooks := .later }
def NormalParsesCardSaid : Prop := Claim7.holds Tryd.pinned (.plain (OpenSpec.ofChange normalParsesSpec)) normalParsesCard

/-- THE SECOND FORM's CARD OF 'redlinelaw12.NormalPrints'. -/
def normalPrintsUptoCard : Claim7 := { stood := { row := normalPrintsUptoRow, standIns := [], harness := (true, "a071ed8658a8e5a8f437d2b1a063cc02b478c5d0578336fc1297e416ac48e7f6"), looks := true }, kinds := [], alts := [], laidByText := true, laidKinds := [.data, .data, .data], laidTests := true, laidLooks := .later }
def NormalPrintsUptoCardSaid : Prop := Claim7.holds Tryd.pinned (.plain (OpenSpec.upto normalPrintsSpec)) normalPrintsUptoCard

/-- THE SECOND FORM's CARD OF 'redlinelaw12.NormalParses'. -/
def normalParsesUptoCard : Claim7 := { stood := { row := normalParsesUptoRow, standIns := [], harness := (true, "a071ed8658a8e5a8f437d2b1a063cc02b478c5d0578336fc1297e416ac48e7f6"), looks := true }, kinds := [], alts := [], laidByText := true, laidKinds := [.handle], laidTests := true, laidLooks := .later }
def NormalParsesUptoCardSaid : Prop := Claim7.holds Tryd.pinned (.plain (OpenSpec.upto normalParsesSpec)) normalParsesUptoCard
end Rows
end Go.Proofs.YtiiihoejpmjfeaaDoor
