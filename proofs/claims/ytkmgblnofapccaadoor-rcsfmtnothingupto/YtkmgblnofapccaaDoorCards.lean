/-
  DERIVED. GIVEN WITH THE SEED: THE CARDS: each row of YtkmgblnofapccaaDoorRows.lean that lists a variable, with what it lists TIED to the program's text (the seventh form; the later family's looks); each row that meets fmt, with fmt's text TOLD by the authors' own Lean function (tested against real Go, not proved from fmt's source: count such statements apart). THE CARD IS WHAT COUNTS. Prove the row's statement (the work); the ties are given (YtkmgblnofapccaaDoorTie.lean); close each card by the builder's one call (the guide's Derived/Test/ToyasCard.lean, 'card_holds'). Laid BY PROGRAM, IN A SANDBOX (cutbox-door.mjs). By AI agents, Wed Nov 11 2026. No macro, syntax, notation, axiom, sorry.
-/
import Derived.Test.YtkmgblnofapccaaDoorRows
import GoSem.ClaimSeven
namespace Go.Proofs.YtkmgblnofapccaaDoor
namespace Rows

/-- THE TIED CARD OF 'redlinelaw14.RcsfmtPrints'. -/
def rcsfmtPrintsCard : Claim7 := { stood := { row := rcsfmtPrintsRow, standIns := [], harness := (true, "d6921d836ca20d043eadf153f4c77cc2c69da208271af263c1a47fbdfc19a03b"), looks := true }, kinds := [], alts := [], laidByText := true, laidKinds := [.data, .data, .data], laidTests := true, laidLooks := .later }
def RcsfmtPrintsCardSaid : Prop := Claim7.holds Tryd.pinned (.plain (OpenSpec.ofChange rcsfmtPrintsSpec)) rcsfmtPrintsCard

/-- THE TIED CARD OF 'redlinelaw14.RcsfmtRuns'. -/
def rcsfmtRunsCard : Claim7 := { stood := { row := rcsfmtRunsRow, standIns := [], harness := (true, "d6921d836ca20d043eadf153f4c77cc2c69da208271af263c1a47fbdfc19a03b"), looks := true }, kinds := [], alts := [], laidByText := true, laidKinds := [.handle], laidTests := true, laidLooks := .later }
def RcsfmtRunsCardSaid : Prop := Claim7.holds Tryd.pinned (.plain (OpenSpec.ofChange rcsfmtRunsSpec)) rcsfmtRunsCard

/-- THE TIED CARD OF 'redlinelaw14.RcsfmtNothing'. -/
def rcsfmtNothingCard : Claim7 := { stood := { row := rcsfmtNothingRow, standIns := [], harness := (true, "d6921d836ca20d043eadf153f4c77cc2c69da208271af263c1a47fbdfc19a03b"), looks := true }, kinds := [], alts := [], laidByText := true, laidKinds := [.data, .data, .data], laidTests := true, laidLooks := .later }
def RcsfmtNothingCardSaid : Prop := Claim7.holds Tryd.pinned (.plain (OpenSpec.ofChange rcsfmtNothingSpec)) rcsfmtNothingCard

/-- THE SECOND FORM's CARD OF 'redlinelaw14.RcsfmtPrints'. -/
def rcsfmtPrintsUptoCard : Claim7 := { stood := { row := rcsfmtPrintsUptoRow, standIns := [], harness := (true, "d6921d836ca20d043eadf153f4c77cc2c69da208271af263c1a47fbdfc19a03b"), looks := true }, kinds := [], alts := [], laidByText := true, laidKinds := [.data, .data, .data], laidTests := true, laidLooks := .later }
def RcsfmtPrintsUptoCardSaid : Prop := Claim7.holds Tryd.pinned (.plain (OpenSpec.upto rcsfmtPrintsSpec)) rcsfmtPrintsUptoCard

/-- THE SECOND FORM's CARD OF 'redlinelaw14.RcsfmtRuns'. -/
def rcsfmtRunsUptoCard : Claim7 := { stood := { row := rcsfmtRunsUptoRow, standIns := [], harness := (true, "d6921d836ca20d043eadf153f4c77cc2c69da208271af263c1a47fbdfc19a03b"), looks := true }, kinds := [], alts := [], laidByText := true, laidKinds := [.handle], laidTests := true, laidLooks := .later }
def RcsfmtRunsUptoCardSaid : Prop := Claim7.holds Tryd.pinned (.plain (OpenSpec.upto rcsfmtRunsSpec)) rcsfmtRunsUptoCard

/-- THE SECOND FORM's CARD OF 'redlinelaw14.RcsfmtNothing'. -/
def rcsfmtNothingUptoCard : Claim7 := { stood := { row := rcsfmtNothingUptoRow, standIns := [], harness := (true, "d6921d836ca20d043eadf153f4c77cc2c69da208271af263c1a47fbdfc19a03b"), looks := true }, kinds := [], alts := [], laidByText := true, laidKinds := [.data, .data, .data], laidTests := true, laidLooks := .later }
def RcsfmtNothingUptoCardSaid : Prop := Claim7.holds Tryd.pinned (.plain (OpenSpec.upto rcsfmtNothingSpec)) rcsfmtNothingUptoCard
end Rows
end Go.Proofs.YtkmgblnofapccaaDoor
