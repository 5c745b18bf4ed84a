/-
  DERIVED. GIVEN WITH THE SEED: THE CARDS: each row of YtgiojkhmkeocfaaGreatDoorRows.lean that lists a variable, with what it lists TIED to the program's text (the seventh form; the later family's looks); each row that meets fmt, with fmt's text TOLD by the authors' own Lean function (tested against real Go, not proved from fmt's source: count such statements apart). THE CARD IS WHAT COUNTS. Prove the row's statement (the work); the ties are given (YtgiojkhmkeocfaaGreatDoorTie.lean); close each card by the builder's one call (the guide's Derived/Test/ToyasCard.lean, 'card_holds'). Laid BY PROGRAM, IN A SANDBOX (cutbox-door.mjs). By AI agents, Wed Nov 11 2026. No macro, syntax, notation, axiom, sorry.
-/
import Derived.Test.YtgiojkhmkeocfaaGreatDoorRows
import GoSem.ClaimSeven
namespace Go.Proofs.YtgiojkhmkeocfaaGreatDoor
namespace Rows

/-- THE TIED CARD OF 'redlinelaw12.NormalBack'. -/
def normalBackCard : Claim7 := { stood := { row := normalBackRow, standIns := [], harness := (true, "abc2ba1c099778968c099cdbd2f3bafccc21daec02b99ec73d5a40b2909f2a30"), looks := true }, kinds := [], alts := [], laidByText := true, laidKinds := [.data, .data, .data, .data, .handle, .pinned], laidTests := true, laidLooks := .later }
def NormalBackCardSaid : Prop := Claim7.holds Tryz.pinned (.plain (OpenSpec.ofChange normalBackSpec)) normalBackCard

/-- THE TIED CARD OF 'redlinelaw12.NormalCut'. -/
def normalCutCard : Claim7 := { stood := { row := normalCutRow, standIns := [], harness := (true, "abc2ba1c099778968c099cdbd2f3bafccc21daec02b99ec73d5a40b2909f2a30"), looks := true }, kinds := [], alts := [], laidByText := true, laidKinds := [.data, .data, .data, .data, .pinned], laidTests := true, laidLooks := .later }
def NormalCutCardSaid : Prop := Claim7.holds Tryz.pinned (.plain (OpenSpec.ofChange normalCutSpec)) normalCutCard

/-- THE TIED CARD OF 'redlinelaw15.CtxfmtParses'. -/
def ctxfmtParsesCard : Claim7 := { stood := { row := ctxfmtParsesRow, standIns := [], harness := (true, "abc2ba1c099778968c099cdbd2f3bafccc21daec02b99ec73d5a40b2909f2a30"), looks := true }, kinds := [], alts := [], laidByText := true, laidKinds := [.handle], laidTests := true, laidLooks := .later }
def CtxfmtParsesCardSaid : Prop := Claim7.holds Tryz.pinned (.plain (OpenSpec.ofChange ctxfmtParsesSpec)) ctxfmtParsesCard

/-- THE TIED CARD OF 'redlinelaw15.CtxfmtBack'. -/
def ctxfmtBackCard : Claim7 := { stood := { row := ctxfmtBackRow, standIns := [], harness := (true, "abc2ba1c099778968c099cdbd2f3bafccc21daec02b99ec73d5a40b2909f2a30"), looks := true }, kinds := [], alts := [], laidByText := true, laidKinds := [.data, .data, .data, .data, .handle, .pinned], laidTests := true, laidLooks := .later }
def CtxfmtBackCardSaid : Prop := Claim7.holds Tryz.pinned (.plain (OpenSpec.ofChange ctxfmtBackSpec)) ctxfmtBackCard

/-- THE TIED CARD OF 'redlinelaw15.CtxfmtAgain'. -/
def ctxfmtAgainCard : Claim7 := { stood := { row := ctxfmtAgainRow, standIns := [], harness := (true, "abc2ba1c099778968c099cdbd2f3bafccc21daec02b99ec73d5a40b2909f2a30"), looks := true }, kinds := [], alts := [], laidByText := true, laidKinds := [.data, .data, .data], laidTests := true, laidLooks := .later }
def CtxfmtAgainCardSaid : Prop := Claim7.holds Tryz.pinned (.plain (OpenSpec.ofChange ctxfmtAgainSpec)) ctxfmtAgainCard

/-- THE TIED CARD OF 'redlinelaw16.UnifiedParses'. -/
def unifiedParsesCard : Claim7 := { stood := { row := unifiedParsesRow, standIns := [], harness := (true, "abc2ba1c099778968c099cdbd2f3bafccc21daec02b99ec73d5a40b2909f2a30"), looks := true }, kinds := [], alts := [], laidByText := true, laidKinds := [.handle], laidTests := true, laidLooks := .later }
def UnifiedParsesCardSaid : Prop := Claim7.holds Tryz.pinned (.plain (OpenSpec.ofChange unifiedParsesSpec)) unifiedParsesCard

/-- THE TIED CARD OF 'redlinelaw16.UnifiedBack'. -/
def unifiedBackCard : Claim7 := { stood := { row := unifiedBackRow, standIns := [], harness := (true, "abc2ba1c099778968c099cdbd2f3bafccc21daec02b99ec73d5a40b2909f2a30"), looks := true }, kinds := [], alts := [], laidByText := true, laidKinds := [.data, .data, .data, .data, .handle, .pinned], laidTests := true, laidLooks := .later }
def UnifiedBackCardSaid : Prop := Claim7.holds Tryz.pinned (.plain (OpenSpec.ofChange unifiedBackSpec)) unifiedBackCard

/-- THE TIED CARD OF 'redlinelaw16.UnifiedAgrees'. -/
def unifiedAgreesCard : Claim7 := { stood := { row := unifiedAgreesRow, standIns := [], harness := (true, "abc2ba1c099778968c099cdbd2f3bafccc21daec02b99ec73d5a40b2909f2a30"), looks := true }, kinds := [], alts := [], laidByText := true, laidKinds := [.data, .data, .data, .data, .pinned], laidTests := true, laidLooks := .later }
def UnifiedAgreesCardSaid : Prop := Claim7.holds Tryz.pinned (.plain (OpenSpec.ofChange unifiedAgreesSpec)) unifiedAgreesCard

/-- THE SECOND FORM's CARD OF 'redlinelaw12.NormalBack'. -/
def normalBackUptoCard : Claim7 := { stood := { row := normalBackUptoRow, standIns := [], harness := (true, "abc2ba1c099778968c099cdbd2f3bafccc21daec02b99ec73d5a40b2909f2a30"), looks := true }, kinds := [], alts := [], laidByText := true, laidKinds := [.data, .data, .data, .data, .handle, .pinned], laidTests := true, laidLooks := .later }
def NormalBackUptoCardSaid : Prop := Claim7.holds Tryz.pinned (.plain (OpenSpec.upto normalBackSpec)) normalBackUptoCard

/-- THE SECOND FORM's CARD OF 'redlinelaw12.NormalCut'. -/
def normalCutUptoCard : Claim7 := { stood := { row := normalCutUptoRow, standIns := [], harness := (true, "abc2ba1c099778968c099cdbd2f3bafccc21daec02b99ec73d5a40b2909f2a30"), looks := true }, kinds := [], alts := [], laidByText := true, laidKinds := [.data, .data, .data, .data, .pinned], laidTests := true, laidLooks := .later }
def NormalCutUptoCardSaid : Prop := Claim7.holds Tryz.pinned (.plain (OpenSpec.upto normalCutSpec)) normalCutUptoCard

/-- THE SECOND FORM's CARD OF 'redlinelaw15.CtxfmtParses'. -/
def ctxfmtParsesUptoCard : Claim7 := { stood := { row := ctxfmtParsesUptoRow, standIns := [], harness := (true, "abc2ba1c099778968c099cdbd2f3bafccc21daec02b99ec73d5a40b2909f2a30"), looks := true }, kinds := [], alts := [], laidByText := true, laidKinds := [.handle], laidTests := true, laidLooks := .later }
def CtxfmtParsesUptoCardSaid : Prop := Claim7.holds Tryz.pinned (.plain (OpenSpec.upto ctxfmtParsesSpec)) ctxfmtParsesUptoCard

/-- THE SECOND FORM's CARD OF 'redlinelaw15.CtxfmtBack'. -/
def ctxfmtBackUptoCard : Claim7 := { stood := { row := ctxfmtBackUptoRow, standIns := [], harness := (true, "abc2ba1c099778968c099cdbd2f3bafccc21daec02b99ec73d5a40b2909f2a30"), looks := true }, kinds := [], alts := [], laidByText := true, laidKinds := [.data, .data, .data, .data, .handle, .pinned], laidTests := true, laidLooks := .later }
def CtxfmtBackUptoCardSaid : Prop := Claim7.holds Tryz.pinned (.plain (OpenSpec.upto ctxfmtBackSpec)) ctxfmtBackUptoCard

/-- THE SECOND FORM's CARD OF 'redlinelaw15.CtxfmtAgain'. -/
def ctxfmtAgainUptoCard : Claim7 := { stood := { row := ctxfmtAgainUptoRow, standIns := [], harness := (true, "abc2ba1c099778968c099cdbd2f3bafccc21daec02b99ec73d5a40b2909f2a30"), looks := true }, kinds := [], alts := [], laidByText := true, laidKinds := [.data, .data, .data], laidTests := true, laidLooks := .later }
def CtxfmtAgainUptoCardSaid : Prop := Claim7.holds Tryz.pinned (.plain (OpenSpec.upto ctxfmtAgainSpec)) ctxfmtAgainUptoCard

/-- THE SECOND FORM's CARD OF 'redlinelaw16.UnifiedParses'. -/
def unifiedParsesUptoCard : Claim7 := { stood := { row := unifiedParsesUptoRow, standIns := [], harness := (true, "abc2ba1c099778968c099cdbd2f3bafccc21daec02b99ec73d5a40b2909f2a30"), looks := true }, kinds := [], alts := [], laidByText := true, laidKinds := [.handle], laidTests := true, laidLooks := .later }
def UnifiedParsesUptoCardSaid : Prop := Claim7.holds Tryz.pinned (.plain (OpenSpec.upto unifiedParsesSpec)) unifiedParsesUptoCard

/-- THE SECOND FORM's CARD OF 'redlinelaw16.UnifiedBack'. -/
def unifiedBackUptoCard : Claim7 := { stood := { row := unifiedBackUptoRow, standIns := [], harness := (true, "abc2ba1c099778968c099cdbd2f3bafccc21daec02b99ec73d5a40b2909f2a30"), looks := true }, kinds := [], alts := [], laidByText := true, laidKinds := [.data, .data, .data, .data, .handle, .pinned], laidTests := true, laidLooks := .later }
def UnifiedBackUptoCardSaid : Prop := Claim7.holds Tryz.pinned (.plain (OpenSpec.upto unifiedBackSpec)) unifiedBackUptoCard

/-- THE SECOND FORM's CARD OF 'redlinelaw16.UnifiedAgrees'. -/
def unifiedAgreesUptoCard : Claim7 := { stood := { row := unifiedAgreesUptoRow, standIns := [], harness := (true, "abc2ba1c099778968c099cdbd2f3bafccc21daec02b99ec73d5a40b2909f2a30"), looks := true }, kinds := [], alts := [], laidByText := true, laidKinds := [.data, .data, .data, .data, .pinned], laidTests := true, laidLooks := .later }
def UnifiedAgreesUptoCardSaid : Prop := Claim7.holds Tryz.pinned (.plain (OpenSpec.upto unifiedAgreesSpec)) unifiedAgreesUptoCard
end Rows
end Go.Proofs.YtgiojkhmkeocfaaGreatDoor
