/-
  DERIVED. GIVEN WITH THE SEED: THE CARDS: each row of YtncpkodfcifpkaaGreatDoorRows.lean that lists a variable, with what it lists TIED to the program's text (the seventh form; the later family's looks); each row that meets fmt, with fmt's text TOLD by the authors' own Lean function (tested against real Go, not proved from fmt's source: count such statements apart). THE CARD IS WHAT COUNTS. Prove the row's statement (the work); the ties are given (YtncpkodfcifpkaaGreatDoorTie.lean); close each card by the builder's one call (the guide's Derived/Test/ToyasCard.lean, 'card_holds'). Laid BY PROGRAM, IN A SANDBOX (cutbox-door.mjs). By AI agents, Wed Nov 11 2026. No macro, syntax, notation, axiom, sorry.
-/
import Derived.Test.YtncpkodfcifpkaaGreatDoorRows
import GoSem.ClaimSeven
namespace Go.Proofs.YtncpkodfcifpkaaGreatDoor
namespace Rows

/-- THE TIED CARD OF 'redlinelaw12.NormalBack'. -/
def normalBackCard : Claim7 := { stood := { row := normalBackRow, standIns := [], harness := (true, "90b1cc5847b809163dd5869c13b18d6b6718be9f8034b06745b00a4782955658"), looks := true }, kinds := [], alts := [], laidByText := true, laidKinds := [.data, .data, .data, .data, .handle, .pinned], laidTests := true, laidLooks := .later }
def NormalBackCardSaid : Prop := Claim7.holds Tryz.pinned (.plain (OpenSpec.ofChange normalBackSpec)) normalBackCard

/-- THE TIED CARD OF 'redlinelaw12.NormalCut'. -/
def normalCutCard : Claim7 := { stood := { row := normalCutRow, standIns := [], harness := (true, "90b1cc5847b809163dd5869c13b18d6b6718be9f8034b06745b00a4782955658"), looks := true }, kinds := [], alts := [], laidByText := true, laidKinds := [.data, .data, .data, .data, .pinned], laidTests := true, laidLooks := .later }
def NormalCutCardSaid : Prop := Claim7.holds Tryz.pinned (.plain (OpenSpec.ofChange normalCutSpec)) normalCutCard

/-- THE SECOND FORM's CARD OF 'redlinelaw12.NormalBack'. -/
def normalBackUptoCard : Claim7 := { stood := { row := normalBackUptoRow, standIns := [], harness := (true, "90b1cc5847b809163dd5869c13b18d6b6718be9f8034b06745b00a4782955658"), looks := true }, kinds := [], alts := [], laidByText := true, laidKinds := [.data, .data, .data, .data, .handle, .pinned], laidTests := true, laidLooks := .later }
def NormalBackUptoCardSaid : Prop := Claim7.holds Tryz.pinned (.plain (OpenSpec.upto normalBackSpec)) normalBackUptoCard

/-- THE SECOND FORM's CARD OF 'redlinelaw12.NormalCut'. -/
def normalCutUptoCard : Claim7 := { stood := { row := normalCutUptoRow, standIns := [], harness := (true, "90b1cc5847b809163dd5869c13b18d6b6718be9f8034b06745b00a4782955658"), looks := true }, kinds := [], alts := [], laidByText := true, laidKinds := [.data, .data, .data, .data, .pinned], laidTests := true, laidLooks := .later }
def NormalCutUptoCardSaid : Prop := Claim7.holds Tryz.pinned (.plain (OpenSpec.upto normalCutSpec)) normalCutUptoCard
end Rows
end Go.Proofs.YtncpkodfcifpkaaGreatDoor
