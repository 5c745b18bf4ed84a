/-
  DERIVED. GIVEN WITH THE SEED: THE CARDS: each row of YtlgipdmjannidaaGreatDoorRows.lean that lists a variable, with what it lists TIED to the program's text (the seventh form; the later family's looks); each row that meets fmt, with fmt's text TOLD by the authors' own Lean function (tested against real Go, not proved from fmt's source: count such statements apart). THE CARD IS WHAT COUNTS. Prove the row's statement (the work); the ties are given (YtlgipdmjannidaaGreatDoorTie.lean); close each card by the builder's one call (the guide's Derived/Test/ToyasCard.lean, 'card_holds'). Laid BY PROGRAM, IN A SANDBOX (cutbox-door.mjs). By AI agents, Wed Nov 11 2026. No macro, syntax, notation, axiom, sorry.
-/
import Derived.Test.YtlgipdmjannidaaGreatDoorRows
import GoSem.ClaimSeven
namespace Go.Proofs.YtlgipdmjannidaaGreatDoor
namespace Rows

/-- THE TIED CARD OF 'redlinelaw15.CtxfmtParses'. -/
def ctxfmtParsesCard : Claim7 := { stood := { row := ctxfmtParsesRow, standIns := [], harness := (true, "b3b40b4cb6f6de3f780a049ab719952108d4f223230208bb1c221b674bd1731b"), looks := true }, kinds := [], alts := [], laidByText := true, laidKinds := [.handle], laidTests := true, laidLooks := .later }
def CtxfmtParsesCardSaid : Prop := Claim7.holds Tryz.pinned (.plain (OpenSpec.ofChange ctxfmtParsesSpec)) ctxfmtParsesCard

/-- THE TIED CARD OF 'redlinelaw15.CtxfmtBack'. -/
def ctxfmtBackCard : Claim7 := { stood := { row := ctxfmtBackRow, standIns := [], harness := (true, "b3b40b4cb6f6de3f780a049ab719952108d4f223230208bb1c221b674bd1731b"), looks := true }, kinds := [], alts := [], laidByText := true, laidKinds := [.data, .data, .data, .data, .handle, .pinned], laidTests := true, laidLooks := .later }
def CtxfmtBackCardSaid : Prop := Claim7.holds Tryz.pinned (.plain (OpenSpec.ofChange ctxfmtBackSpec)) ctxfmtBackCard

/-- THE TIED CARD OF 'redlinelaw15.CtxfmtAgain'. -/
def ctxfmtAgainCard : Claim7 := { stood := { row := ctxfmtAgainRow, standIns := [], harness := (true, "b3b40b4cb6f6de3f780a049ab719952108d4f223230208bb1c221b674bd1731b"), looks := true }, kinds := [], alts := [], laidByText := true, laidKinds := [.data, .data, .data], laidTests := true, laidLooks := .later }
def CtxfmtAgainCardSaid : Prop := Claim7.holds Tryz.pinned (.plain (OpenSpec.ofChange ctxfmtAgainSpec)) ctxfmtAgainCard

/-- THE SECOND FORM's CARD OF 'redlinelaw15.CtxfmtParses'. -/
def ctxfmtParsesUptoCard : Claim7 := { stood := { row := ctxfmtParsesUptoRow, standIns := [], harness := (true, "b3b40b4cb6f6de3f780a049ab719952108d4f223230208bb1c221b674bd1731b"), looks := true }, kinds := [], alts := [], laidByText := true, laidKinds := [.handle], laidTests := true, laidLooks := .later }
def CtxfmtParsesUptoCardSaid : Prop := Claim7.holds Tryz.pinned (.plain (OpenSpec.upto ctxfmtParsesSpec)) ctxfmtParsesUptoCard

/-- THE SECOND FORM's CARD OF 'redlinelaw15.CtxfmtBack'. -/
def ctxfmtBackUptoCard : Claim7 := { stood := { row := ctxfmtBackUptoRow, standIns := [], harness := (true, "b3b40b4cb6f6de3f780a049ab719952108d4f223230208bb1c221b674bd1731b"), looks := true }, kinds := [], alts := [], laidByText := true, laidKinds := [.data, .data, .data, .data, .handle, .pinned], laidTests := true, laidLooks := .later }
def CtxfmtBackUptoCardSaid : Prop := Claim7.holds Tryz.pinned (.plain (OpenSpec.upto ctxfmtBackSpec)) ctxfmtBackUptoCard

/-- THE SECOND FORM's CARD OF 'redlinelaw15.CtxfmtAgain'. -/
def ctxfmtAgainUptoCard : Claim7 := { stood := { row := ctxfmtAgainUptoRow, standIns := [], harness := (true, "b3b40b4cb6f6de3f780a049ab719952108d4f223230208bb1c221b674bd1731b"), looks := true }, kinds := [], alts := [], laidByText := true, laidKinds := [.data, .data, .data], laidTests := true, laidLooks := .later }
def CtxfmtAgainUptoCardSaid : Prop := Claim7.holds Tryz.pinned (.plain (OpenSpec.upto ctxfmtAgainSpec)) ctxfmtAgainUptoCard
end Rows
end Go.Proofs.YtlgipdmjannidaaGreatDoor
