/-
  DERIVED. GIVEN WITH THE SEED: THE CARDS: each row of YtoddldblilmbjaaGreatDoorRows.lean that lists a variable, with what it lists TIED to the program's text (the seventh form; the later family's looks); each row that meets fmt, with fmt's text TOLD by the authors' own Lean function (tested against real Go, not proved from fmt's source: count such statements apart). THE CARD IS WHAT COUNTS. Prove the row's statement (the work); the ties are given (YtoddldblilmbjaaGreatDoorTie.lean); close each card by the builder's one call (the guide's Derived/Test/ToyasCard.lean, 'card_holds'). Laid BY PROGRAM, IN A SANDBOX (cutbox-door.mjs). By AI agents, Wed Nov 11 2026. No macro, syntax, notation, axiom, sorry.
-/
import Derived.Test.YtoddldblilmbjaaGreatDoorRows
import GoSem.ClaimSeven
namespace Go.Proofs.YtoddldblilmbjaaGreatDoor
namespace Rows

/-- THE TIED CARD OF 'redlinelaw13.EdfmtRaw'. -/
def edfmtRawCard : Claim7 := { stood := { row := edfmtRawRow, standIns := [], harness := (true, "bbeea052cb7100683045c38b592963fa981ee4a97d906eb47b5c5e4fcd266c0f"), looks := true }, kinds := [], alts := [], laidByText := true, laidKinds := [.data, .data, .data, .handle], laidTests := true, laidLooks := .later }
def EdfmtRawCardSaid : Prop := Claim7.holds Tryz.pinned (.plain (OpenSpec.ofChange edfmtRawSpec)) edfmtRawCard

/-- THE TIED CARD OF 'redlinelaw13.EdfmtBack'. -/
def edfmtBackCard : Claim7 := { stood := { row := edfmtBackRow, standIns := [], harness := (true, "bbeea052cb7100683045c38b592963fa981ee4a97d906eb47b5c5e4fcd266c0f"), looks := true }, kinds := [], alts := [], laidByText := true, laidKinds := [.data, .data, .data, .data, .handle, .pinned], laidTests := true, laidLooks := .later }
def EdfmtBackCardSaid : Prop := Claim7.holds Tryz.pinned (.plain (OpenSpec.ofChange edfmtBackSpec)) edfmtBackCard

/-- THE SECOND FORM's CARD OF 'redlinelaw13.EdfmtRaw'. -/
def edfmtRawUptoCard : Claim7 := { stood := { row := edfmtRawUptoRow, standIns := [], harness := (true, "bbeea052cb7100683045c38b592963fa981ee4a97d906eb47b5c5e4fcd266c0f"), looks := true }, kinds := [], alts := [], laidByText := true, laidKinds := [.data, .data, .data, .handle], laidTests := true, laidLooks := .later }
def EdfmtRawUptoCardSaid : Prop := Claim7.holds Tryz.pinned (.plain (OpenSpec.upto edfmtRawSpec)) edfmtRawUptoCard

/-- THE SECOND FORM's CARD OF 'redlinelaw13.EdfmtBack'. -/
def edfmtBackUptoCard : Claim7 := { stood := { row := edfmtBackUptoRow, standIns := [], harness := (true, "bbeea052cb7100683045c38b592963fa981ee4a97d906eb47b5c5e4fcd266c0f"), looks := true }, kinds := [], alts := [], laidByText := true, laidKinds := [.data, .data, .data, .data, .handle, .pinned], laidTests := true, laidLooks := .later }
def EdfmtBackUptoCardSaid : Prop := Claim7.holds Tryz.pinned (.plain (OpenSpec.upto edfmtBackSpec)) edfmtBackUptoCard
end Rows
end Go.Proofs.YtoddldblilmbjaaGreatDoor
