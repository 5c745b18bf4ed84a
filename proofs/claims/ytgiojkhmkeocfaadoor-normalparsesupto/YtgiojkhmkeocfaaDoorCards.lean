/-
  DERIVED. GIVEN WITH THE SEED: THE CARDS: each row of YtgiojkhmkeocfaaDoorRows.lean that lists a variable, with what it lists TIED to the program's text (the seventh form; the later family's looks); each row that meets fmt, with fmt's text TOLD by the authors' own Lean function (tested against real Go, not proved from fmt's source: count such statements apart). THE CARD IS WHAT COUNTS. Prove the row's statement (the work); the ties are given (YtgiojkhmkeocfaaDoorTie.lean); close each card by the builder's one call (the guide's Derived/Test/ToyasCard.lean, 'card_holds'). Laid BY PROGRAM, IN A SANDBOX (cutbox-door.mjs). By AI agents, Wed Nov 11 2026. No macro, syntax, notation, axiom, sorry.
-/
import Derived.Test.YtgiojkhmkeocfaaDoorRows
import GoSem.ClaimSeven
namespace Go.Proofs.YtgiojkhmkeocfaaDoor
namespace Rows

/-- THE TIED CARD OF 'redlinelaw12.NormalPrints'. -/
def normalPrintsCard : Claim7 := { stood := { row := normalPrintsRow, standIns := [], harness := (true, "3c94f88222f5671acf4f3ae68aa82a7ba7974202ce59c2af76e531e7b029edd5"), looks := true }, kinds := [], alts := [], laidByText := true, laidKinds := [.data, .data, .data], laidTests := true, laidLooks := .later }
def NormalPrintsCardSaid : Prop := Claim7.holds Tryd.pinned (.plain (OpenSpec.ofChange normalPrintsSpec)) normalPrintsCard

/-- THE TIED CARD OF 'redlinelaw12.NormalParses'. -/
def normalParsesCard : Claim7 := { stood := { row := normalParsesRow, standIns := [], harness := (true, "3c94f88222f5671acf4f3ae68aa82a7ba7974202ce59c2af76e531e7b029edd5"), looks := true }, kinds := [], alts := [], laidByText := true, laidKinds := [.handle], laidTests := true, laidLooks := .later }
def NormalParsesCardSaid : Prop := Claim7.holds Tryd.pinned (.plain (OpenSpec.ofChange normalParsesSpec)) normalParsesCard

/-- THE TIED CARD OF 'redlinelaw15.CtxfmtPrints'. -/
def ctxfmtPrintsCard : Claim7 := { stood := { row := ctxfmtPrintsRow, standIns := [], harness := (true, "3c94f88222f5671acf4f3ae68aa82a7ba7974202ce59c2af76e531e7b029edd5"), looks := true }, kinds := [], alts := [], laidByText := true, laidKinds := [.data, .data, .data], laidTests := true, laidLooks := .later }
def CtxfmtPrintsCardSaid : Prop := Claim7.holds Tryd.pinned (.plain (OpenSpec.ofChange ctxfmtPrintsSpec)) ctxfmtPrintsCard

/-- THE TIED CARD OF 'redlinelaw16.UnifiedPrints'. -/
def unifiedPrintsCard : Claim7 := { stood := { row := unifiedPrintsRow, standIns := [], harness := (true, "3c94f88222f5671acf4f3ae68aa82a7ba7974202ce59c2af76e531e7b029edd5"), looks := true }, kinds := [], alts := [], laidByText := true, laidKinds := [.data, .data, .data], laidTests := true, laidLooks := .later }
def UnifiedPrintsCardSaid : Prop := Claim7.holds Tryd.pinned (.plain (OpenSpec.ofChange unifiedPrintsSpec)) unifiedPrintsCard

/-- THE TIED CARD OF 'redlinelaw16.UnifiedAgain'. -/
def unifiedAgainCard : Claim7 := { stood := { row := unifiedAgainRow, standIns := [], harness := (true, "3c94f88222f5671acf4f3ae68aa82a7ba7974202ce59c2af76e531e7b029edd5"), looks := true }, kinds := [], alts := [], laidByText := true, laidKinds := [.data, .data, .data], laidTests := true, laidLooks := .later }
def UnifiedAgainCardSaid : Prop := Claim7.holds Tryd.pinned (.plain (OpenSpec.ofChange unifiedAgainSpec)) unifiedAgainCard

/-- THE SECOND FORM's CARD OF 'redlinelaw12.NormalPrints'. -/
def normalPrintsUptoCard : Claim7 := { stood := { row := normalPrintsUptoRow, standIns := [], harness := (true, "3c94f88222f5671acf4f3ae68aa82a7ba7974202ce59c2af76e531e7b029edd5"), looks := true }, kinds := [], alts := [], laidByText := true, laidKinds := [.data, .data, .data], laidTests := true, laidLooks := .later }
def NormalPrintsUptoCardSaid : Prop := Claim7.holds Tryd.pinned (.plain (OpenSpec.upto normalPrintsSpec)) normalPrintsUptoCard

/-- THE SECOND FORM's CARD OF 'redlinelaw12.NormalParses'. -/
def normalParsesUptoCard : Claim7 := { stood := { row := normalParsesUptoRow, standIns := [], harness := (true, "3c94f88222f5671acf4f3ae68aa82a7ba7974202ce59c2af76e531e7b029edd5"), looks := true }, kinds := [], alts := [], laidByText := true, laidKinds := [.handle], laidTests := true, laidLooks := .later }
def NormalParsesUptoCardSaid : Prop := Claim7.holds Tryd.pinned (.plain (OpenSpec.upto normalParsesSpec)) normalParsesUptoCard

/-- THE SECOND FORM's CARD OF 'redlinelaw15.CtxfmtPrints'. -/
def ctxfmtPrintsUptoCard : Claim7 := { stood := { row := ctxfmtPrintsUptoRow, standIns := [], harness := (true, "3c94f88222f5671acf4f3ae68aa82a7ba7974202ce59c2af76e531e7b029edd5"), looks := true }, kinds := [], alts := [], laidByText := true, laidKinds := [.data, .data, .data], laidTests := true, laidLooks := .later }
def CtxfmtPrintsUptoCardSaid : Prop := Claim7.holds Tryd.pinned (.plain (OpenSpec.upto ctxfmtPrintsSpec)) ctxfmtPrintsUptoCard

/-- THE SECOND FORM's CARD OF 'redlinelaw16.UnifiedPrints'. -/
def unifiedPrintsUptoCard : Claim7 := { stood := { row := unifiedPrintsUptoRow, standIns := [], harness := (true, "3c94f88222f5671acf4f3ae68aa82a7ba7974202ce59c2af76e531e7b029edd5"), looks := true }, kinds := [], alts := [], laidByText := true, laidKinds := [.data, .data, .data], laidTests := true, laidLooks := .later }
def UnifiedPrintsUptoCardSaid : Prop := Claim7.holds Tryd.pinned (.plain (OpenSpec.upto unifiedPrintsSpec)) unifiedPrintsUptoCard

/-- THE SECOND FORM's CARD OF 'redlinelaw16.UnifiedAgain'. -/
def unifiedAgainUptoCard : Claim7 := { stood := { row := unifiedAgainUptoRow, standIns := [], harness := (true, "3c94f88222f5671acf4f3ae68aa82a7ba7974202ce59c2af76e531e7b029edd5"), looks := true }, kinds := [], alts := [], laidByText := true, laidKinds := [.data, .data, .data], laidTests := true, laidLooks := .later }
def UnifiedAgainUptoCardSaid : Prop := Claim7.holds Tryd.pinned (.plain (OpenSpec.upto unifiedAgainSpec)) unifiedAgainUptoCard
end Rows
end Go.Proofs.YtgiojkhmkeocfaaDoor
