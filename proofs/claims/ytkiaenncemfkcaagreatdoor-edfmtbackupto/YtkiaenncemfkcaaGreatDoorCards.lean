/-
  DERIVED. GIVEN WITH THE SEED: THE CARDS: each row of YtkiaenncemfkcaaGreatDoorRows.lean that lists a variable, with what it lists TIED to the program's text (the seventh form; the later family's looks); each row that meets fmt, with fmt's text TOLD by the authors' own Lean function (tested against real Go, not proved from fmt's source: count such statements apart). THE CARD IS WHAT COUNTS. Prove the row's statement (the work); the ties are given (YtkiaenncemfkcaaGreatDoorTie.lean); close each card by the builder's one call (the guide's Derived/Test/ToyasCard.lean, 'card_holds'). Laid BY PROGRAM, IN A SANDBOX (cutbox-door.mjs). By AI agents, Wed Nov 11 2026. No macro, syntax, notation, axiom, sorry.
-/
import Derived.Test.YtkiaenncemfkcaaGreatDoorRows
import GoSem.ClaimSeven
namespace Go.Proofs.YtkiaenncemfkcaaGreatDoor
namespace Rows

/-- THE TIED CARD OF 'redlinelaw13.EdfmtBack'. -/
def edfmtBackCard : Claim7 := { stood := { row := edfmtBackRow, standIns := [], harness := (true, "d6e49db0559ec13a44bd3cf571f7adc571ae78d7d55245fb815b2335b44ba1de"), looks := true }, kinds := [], alts := [], laidByText := true, laidKinds := [.data, .data, .data, .data, .handle, .pinned], laidTests := true, laidLooks := .later }
def EdfmtBackCardSaid : Prop := Claim7.holds Tryz.pinned (.plain (OpenSpec.ofChange edfmtBackSpec)) edfmtBackCard

/-- THE TIED CARD OF 'redlinelaw14.RcsfmtBack'. -/
def rcsfmtBackCard : Claim7 := { stood := { row := rcsfmtBackRow, standIns := [], harness := (true, "d6e49db0559ec13a44bd3cf571f7adc571ae78d7d55245fb815b2335b44ba1de"), looks := true }, kinds := [], alts := [], laidByText := true, laidKinds := [.data, .data, .data, .data, .handle, .pinned], laidTests := true, laidLooks := .later }
def RcsfmtBackCardSaid : Prop := Claim7.holds Tryz.pinned (.plain (OpenSpec.ofChange rcsfmtBackSpec)) rcsfmtBackCard

/-- THE TIED CARD OF 'redlinelaw14.RcsfmtAgrees'. -/
def rcsfmtAgreesCard : Claim7 := { stood := { row := rcsfmtAgreesRow, standIns := [], harness := (true, "d6e49db0559ec13a44bd3cf571f7adc571ae78d7d55245fb815b2335b44ba1de"), looks := true }, kinds := [], alts := [], laidByText := true, laidKinds := [.data, .data, .data, .data, .pinned], laidTests := true, laidLooks := .later }
def RcsfmtAgreesCardSaid : Prop := Claim7.holds Tryz.pinned (.plain (OpenSpec.ofChange rcsfmtAgreesSpec)) rcsfmtAgreesCard

/-- THE SECOND FORM's CARD OF 'redlinelaw13.EdfmtBack'. -/
def edfmtBackUptoCard : Claim7 := { stood := { row := edfmtBackUptoRow, standIns := [], harness := (true, "d6e49db0559ec13a44bd3cf571f7adc571ae78d7d55245fb815b2335b44ba1de"), looks := true }, kinds := [], alts := [], laidByText := true, laidKinds := [.data, .data, .data, .data, .handle, .pinned], laidTests := true, laidLooks := .later }
def EdfmtBackUptoCardSaid : Prop := Claim7.holds Tryz.pinned (.plain (OpenSpec.upto edfmtBackSpec)) edfmtBackUptoCard

/-- THE SECOND FORM's CARD OF 'redlinelaw14.RcsfmtBack'. -/
def rcsfmtBackUptoCard : Claim7 := { stood := { row := rcsfmtBackUptoRow, standIns := [], harness := (true, "d6e49db0559ec13a44bd3cf571f7adc571ae78d7d55245fb815b2335b44ba1de"), looks := true }, kinds := [], alts := [], laidByText := true, laidKinds := [.data, .data, .data, .data, .handle, .pinned], laidTests := true, laidLooks := .later }
def RcsfmtBackUptoCardSaid : Prop := Claim7.holds Tryz.pinned (.plain (OpenSpec.upto rcsfmtBackSpec)) rcsfmtBackUptoCard

/-- THE SECOND FORM's CARD OF 'redlinelaw14.RcsfmtAgrees'. -/
def rcsfmtAgreesUptoCard : Claim7 := { stood := { row := rcsfmtAgreesUptoRow, standIns := [], harness := (true, "d6e49db0559ec13a44bd3cf571f7adc571ae78d7d55245fb815b2335b44ba1de"), looks := true }, kinds := [], alts := [], laidByText := true, laidKinds := [.data, .data, .data, .data, .pinned], laidTests := true, laidLooks := .later }
def RcsfmtAgreesUptoCardSaid : Prop := Claim7.holds Tryz.pinned (.plain (OpenSpec.upto rcsfmtAgreesSpec)) rcsfmtAgreesUptoCard
end Rows
end Go.Proofs.YtkiaenncemfkcaaGreatDoor
