/-
  DERIVED. GIVEN WITH THE SEED: THE CARDS: each row of YtdoennggmckldaaDoorRows.lean that lists a variable, with what it lists TIED to the program's text (the seventh form; the later family's looks); each row that meets fmt, with fmt's text TOLD by the authors' own Lean function (tested against real Go, not proved from fmt's source: count such statements apart). THE CARD IS WHAT COUNTS. Prove the row's statement (the work); the ties are given (YtdoennggmckldaaDoorTie.lean); close each card by the builder's one call (the guide's Derived/Test/ToyasCard.lean, 'card_holds'). Laid BY PROGRAM, IN A SANDBOX (cutbox-door.mjs). By AI agents, Wed Nov 11 2026. No macro, syntax, notation, axiom, sorry.
-/
import Derived.Test.YtdoennggmckldaaDoorRows
import GoSem.ClaimSeven
namespace Go.Proofs.YtdoennggmckldaaDoor
namespace Rows

/-- THE TIED CARD OF 'redlinelaw03.CanonLines'. -/
def canonLinesCard : Claim7 := { stood := { row := canonLinesRow, standIns := [], harness := (true, "38caa90e70191edd3ef91ce7b024dbecee3f8f76c818ed4fa3a97698c70bea3a"), looks := false }, kinds := [], alts := [], laidByText := true, laidKinds := [.data, .pinned], laidTests := true, laidLooks := .later }
def CanonLinesCardSaid : Prop := Claim7.holds Tryd.pinned (.plain (OpenSpec.ofChange canonLinesSpec)) canonLinesCard

/-- THE TIED CARD OF 'redlinelaw03.CanonTells'. -/
def canonTellsCard : Claim7 := { stood := { row := canonTellsRow, standIns := [], harness := (true, "38caa90e70191edd3ef91ce7b024dbecee3f8f76c818ed4fa3a97698c70bea3a"), looks := false }, kinds := [], alts := [], laidByText := true, laidKinds := [.data, .pinned], laidTests := true, laidLooks := .later }
def CanonTellsCardSaid : Prop := Claim7.holds Tryd.pinned (.plain (OpenSpec.ofChange canonTellsSpec)) canonTellsCard

/-- THE TIED CARD OF 'redlinelaw03.CanonTwice'. -/
def canonTwiceCard : Claim7 := { stood := { row := canonTwiceRow, standIns := [], harness := (true, "38caa90e70191edd3ef91ce7b024dbecee3f8f76c818ed4fa3a97698c70bea3a"), looks := false }, kinds := [], alts := [], laidByText := true, laidKinds := [.data, .pinned], laidTests := true, laidLooks := .later }
def CanonTwiceCardSaid : Prop := Claim7.holds Tryd.pinned (.plain (OpenSpec.ofChange canonTwiceSpec)) canonTwiceCard

/-- THE TIED CARD OF 'redlinelaw03.CanonOrder'. -/
def canonOrderCard : Claim7 := { stood := { row := canonOrderRow, standIns := [], harness := (true, "38caa90e70191edd3ef91ce7b024dbecee3f8f76c818ed4fa3a97698c70bea3a"), looks := false }, kinds := [], alts := [], laidByText := true, laidKinds := [.data, .pinned], laidTests := true, laidLooks := .later }
def CanonOrderCardSaid : Prop := Claim7.holds Tryd.pinned (.plain (OpenSpec.ofChange canonOrderSpec)) canonOrderCard

/-- THE SECOND FORM's CARD OF 'redlinelaw03.CanonLines'. -/
def canonLinesUptoCard : Claim7 := { stood := { row := canonLinesUptoRow, standIns := [], harness := (true, "38caa90e70191edd3ef91ce7b024dbecee3f8f76c818ed4fa3a97698c70bea3a"), looks := false }, kinds := [], alts := [], laidByText := true, laidKinds := [.data, .pinned], laidTests := true, laidLooks := .later }
def CanonLinesUptoCardSaid : Prop := Claim7.holds Tryd.pinned (.plain (OpenSpec.upto canonLinesSpec)) canonLinesUptoCard

/-- THE SECOND FORM's CARD OF 'redlinelaw03.CanonTells'. -/
def canonTellsUptoCard : Claim7 := { stood := { row := canonTellsUptoRow, standIns := [], harness := (true, "38caa90e70191edd3ef91ce7b024dbecee3f8f76c818ed4fa3a97698c70bea3a"), looks := false }, kinds := [], alts := [], laidByText := true, laidKinds := [.data, .pinned], laidTests := true, laidLooks := .later }
def CanonTellsUptoCardSaid : Prop := Claim7.holds Tryd.pinned (.plain (OpenSpec.upto canonTellsSpec)) canonTellsUptoCard

/-- THE SECOND FORM's CARD OF 'redlinelaw03.CanonTwice'. -/
def canonTwiceUptoCard : Claim7 := { stood := { row := canonTwiceUptoRow, standIns := [], harness := (true, "38caa90e70191edd3ef91ce7b024dbecee3f8f76c818ed4fa3a97698c70bea3a"), looks := false }, kinds := [], alts := [], laidByText := true, laidKinds := [.data, .pinned], laidTests := true, laidLooks := .later }
def CanonTwiceUptoCardSaid : Prop := Claim7.holds Tryd.pinned (.plain (OpenSpec.upto canonTwiceSpec)) canonTwiceUptoCard

/-- THE SECOND FORM's CARD OF 'redlinelaw03.CanonOrder'. -/
def canonOrderUptoCard : Claim7 := { stood := { row := canonOrderUptoRow, standIns := [], harness := (true, "38caa90e70191edd3ef91ce7b024dbecee3f8f76c818ed4fa3a97698c70bea3a"), looks := false }, kinds := [], alts := [], laidByText := true, laidKinds := [.data, .pinned], laidTests := true, laidLooks := .later }
def CanonOrderUptoCardSaid : Prop := Claim7.holds Tryd.pinned (.plain (OpenSpec.upto canonOrderSpec)) canonOrderUptoCard
end Rows
end Go.Proofs.YtdoennggmckldaaDoor
