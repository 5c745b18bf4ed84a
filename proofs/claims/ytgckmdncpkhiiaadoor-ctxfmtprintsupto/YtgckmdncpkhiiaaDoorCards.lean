/-
  DERIVED. GIVEN WITH THE SEED: THE CARDS: each row of YtgckmdncpkhiiaaDoorRows.lean that lists a variable, with what it lists TIED to the program's text (the seventh form; the later family's looks); each row that meets fmt, with fmt's text TOLD by the authors' own Lean function (tested against real Go, not proved from fmt's source: count such statements apart). THE CARD IS WHAT COUNTS. Prove the row's statement (the work); the ties are given (YtgckmdncpkhiiaaDoorTie.lean); close each card by the builder's one call (the guide's Derived/Test/ToyasCard.lean, 'card_holds'). Laid BY PROGRAM, IN A SANDBOX (cutbox-door.mjs). By AI agents, Wed Nov 11 2026. No macro, syntax, notation, axiom, sorry.
-/
import Derived.Test.YtgckmdncpkhiiaaDoorRows
import GoSem.ClaimSeven
namespace Go.Proofs.YtgckmdncpkhiiaaDoor
namespace Rows

/-- THE TIED CARD OF 'redlinelaw15.CtxfmtPrints'. -/
def ctxfmtPrintsCard : Claim7 := { stood := { row := ctxfmtPrintsRow, standIns := [], harness := (true, "6ceee7ecf96b60702a219e51cf7ff7337cc355b1ec9386263c09400c7072e195"), looks := false }, kinds := [], alts := [], laidByText := true, laidKinds := [.data, .data, .data], laidTests := true, laidLooks := .later }
def CtxfmtPrintsCardSaid : Prop := Claim7.holds Tryd.pinned (.plain (OpenSpec.ofChange ctxfmtPrintsSpec)) ctxfmtPrintsCard

/-- THE SECOND FORM's CARD OF 'redlinelaw15.CtxfmtPrints'. -/
def ctxfmtPrintsUptoCard : Claim7 := { stood := { row := ctxfmtPrintsUptoRow, standIns := [], harness := (true, "6ceee7ecf96b60702a219e51cf7ff7337cc355b1ec9386263c09400c7072e195"), looks := false }, kinds := [], alts := [], laidByText := true, laidKinds := [.data, .data, .data], laidTests := true, laidLooks := .later }
def CtxfmtPrintsUptoCardSaid : Prop := Claim7.holds Tryd.pinned (.plain (OpenSpec.upto ctxfmtPrintsSpec)) ctxfmtPrintsUptoCard
end Rows
end Go.Proofs.YtgckmdncpkhiiaaDoor
