/-
  DERIVED. GIVEN WITH THE SEED: THE CARDS: each row of YtoelblofdgimfaaDoorRows.lean that lists a variable, with what it lists TIED to the program's text (the seventh form; the later family's looks); each row that meets fmt, with fmt's text TOLD by the authors' own Lean function (tested against real Go, not proved from fmt's source: count such statements apart). THE CARD IS WHAT COUNTS. Prove the row's statement (the work); the ties are given (YtoelblofdgimfaaDoorTie.lean); close each card by the builder's one call (the guide's Derived/Test/ToyasCard.lean, 'card_holds'). Laid BY PROGRAM, IN A SANDBOX (cutbox-door.mjs). By AI agents, Wed Nov 11 2026. No macro, syntax, notation, axiom, sorry.
-/
import Derived.Test.YtoelblofdgimfaaDoorRows
import GoSem.ClaimSeven
namespace Go.Proofs.YtoelblofdgimfaaDoor
namespace Rows

/-- THE TIED CARD OF 'redlinelaw01.NumNumbers'. -/
def numNumbersCard : Claim7 := { stood := { row := numNumbersRow, standIns := [], harness := (true, "a2e12c15e411119e43619b602f9bec50548932abeb0fe51a0c6e2f60f5853153"), looks := false }, kinds := [], alts := [], laidByText := true, laidKinds := [.data, .data, .data], laidTests := true, laidLooks := .later }
def NumNumbersCardSaid : Prop := Claim7.holds Tryd.pinned (.plain (OpenSpec.ofChange numNumbersSpec)) numNumbersCard

/-- THE TIED CARD OF 'redlinelaw01.NumWords'. -/
def numWordsCard : Claim7 := { stood := { row := numWordsRow, standIns := [], harness := (true, "a2e12c15e411119e43619b602f9bec50548932abeb0fe51a0c6e2f60f5853153"), looks := false }, kinds := [], alts := [], laidByText := true, laidKinds := [.data, .pinned], laidTests := true, laidLooks := .later }
def NumWordsCardSaid : Prop := Claim7.holds Tryd.pinned (.plain (OpenSpec.ofChange numWordsSpec)) numWordsCard

/-- THE TIED CARD OF 'redlinelaw01.NumBack'. -/
def numBackCard : Claim7 := { stood := { row := numBackRow, standIns := [], harness := (true, "a2e12c15e411119e43619b602f9bec50548932abeb0fe51a0c6e2f60f5853153"), looks := false }, kinds := [], alts := [], laidByText := true, laidKinds := [.data, .data, .data], laidTests := true, laidLooks := .later }
def NumBackCardSaid : Prop := Claim7.holds Tryd.pinned (.plain (OpenSpec.ofChange numBackSpec)) numBackCard

/-- THE TIED CARD OF 'redlinelaw01.NumList'. -/
def numListCard : Claim7 := { stood := { row := numListRow, standIns := [], harness := (true, "a2e12c15e411119e43619b602f9bec50548932abeb0fe51a0c6e2f60f5853153"), looks := false }, kinds := [], alts := [], laidByText := true, laidKinds := [.data, .data, .data, .data, .pinned], laidTests := true, laidLooks := .later }
def NumListCardSaid : Prop := Claim7.holds Tryd.pinned (.plain (OpenSpec.ofChange numListSpec)) numListCard

/-- THE SECOND FORM's CARD OF 'redlinelaw01.NumNumbers'. -/
def numNumbersUptoCard : Claim7 := { stood := { row := numNumbersUptoRow, standIns := [], harness := (true, "a2e12c15e411119e43619b602f9bec50548932abeb0fe51a0c6e2f60f5853153"), looks := false }, kinds := [], alts := [], laidByText := true, laidKinds := [.data, .data, .data], laidTests := true, laidLooks := .later }
def NumNumbersUptoCardSaid : Prop := Claim7.holds Tryd.pinned (.plain (OpenSpec.upto numNumbersSpec)) numNumbersUptoCard

/-- THE SECOND FORM's CARD OF 'redlinelaw01.NumWords'. -/
def numWordsUptoCard : Claim7 := { stood := { row := numWordsUptoRow, standIns := [], harness := (true, "a2e12c15e411119e43619b602f9bec50548932abeb0fe51a0c6e2f60f5853153"), looks := false }, kinds := [], alts := [], laidByText := true, laidKinds := [.data, .pinned], laidTests := true, laidLooks := .later }
def NumWordsUptoCardSaid : Prop := Claim7.holds Tryd.pinned (.plain (OpenSpec.upto numWordsSpec)) numWordsUptoCard

/-- THE SECOND FORM's CARD OF 'redlinelaw01.NumBack'. -/
def numBackUptoCard : Claim7 := { stood := { row := numBackUptoRow, standIns := [], harness := (true, "a2e12c15e411119e43619b602f9bec50548932abeb0fe51a0c6e2f60f5853153"), looks := false }, kinds := [], alts := [], laidByText := true, laidKinds := [.data, .data, .data], laidTests := true, laidLooks := .later }
def NumBackUptoCardSaid : Prop := Claim7.holds Tryd.pinned (.plain (OpenSpec.upto numBackSpec)) numBackUptoCard

/-- THE SECOND FORM's CARD OF 'redlinelaw01.NumList'. -/
def numListUptoCard : Claim7 := { stood := { row := numListUptoRow, standIns := [], harness := (true, "a2e12c15e411119e43619b602f9bec50548932abeb0fe51a0c6e2f60f5853153"), looks := false }, kinds := [], alts := [], laidByText := true, laidKinds := [.data, .data, .data, .data, .pinned], laidTests := true, laidLooks := .later }
def NumListUptoCardSaid : Prop := Claim7.holds Tryd.pinned (.plain (OpenSpec.upto numListSpec)) numListUptoCard
end Rows
end Go.Proofs.YtoelblofdgimfaaDoor
