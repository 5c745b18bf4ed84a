/-
  DERIVED. GIVEN WITH THE SEED: THE CARDS: each row of YtkaadahcefdiiaaDoorRows.lean that lists a variable, with what it lists TIED to the program's text (the seventh form; the later family's looks); each row that meets fmt, with fmt's text TOLD by the authors' own Lean function (tested against real Go, not proved from fmt's source: count such statements apart). THE CARD IS WHAT COUNTS. Prove the row's statement (the work); the ties are given (YtkaadahcefdiiaaDoorTie.lean); close each card by the builder's one call (the guide's Derived/Test/ToyasCard.lean, 'card_holds'). Laid BY PROGRAM, IN A SANDBOX (cutbox-door.mjs). By AI agents, Wed Nov 11 2026. No macro, syntax, notation, axiom, sorry.
-/
import Derived.Test.YtkaadahcefdiiaaDoorRows
import GoSem.ClaimSeven
namespace Go.Proofs.YtkaadahcefdiiaaDoor
namespace Rows

/-- THE TIED CARD OF 'redlinelaw04.InternClasses'. -/
def internClassesCard : Claim7 := { stood := { row := internClassesRow, standIns := [], harness := (true, "8d033c098df52542713cd1cb1a56e6140057c04f5193b9a764a39bd310520ce0"), looks := false }, kinds := [], alts := [], laidByText := true, laidKinds := [.data, .pinned], laidTests := true, laidLooks := .later }
def InternClassesCardSaid : Prop := Claim7.holds Tryd.pinned (.plain (OpenSpec.ofChange internClassesSpec)) internClassesCard

/-- THE TIED CARD OF 'redlinelaw04.InternTables'. -/
def internTablesCard : Claim7 := { stood := { row := internTablesRow, standIns := [], harness := (true, "8d033c098df52542713cd1cb1a56e6140057c04f5193b9a764a39bd310520ce0"), looks := false }, kinds := [], alts := [], laidByText := true, laidKinds := [.data, .pinned], laidTests := true, laidLooks := .later }
def InternTablesCardSaid : Prop := Claim7.holds Tryd.pinned (.plain (OpenSpec.ofChange internTablesSpec)) internTablesCard

/-- THE TIED CARD OF 'redlinelaw04.InternParts'. -/
def internPartsCard : Claim7 := { stood := { row := internPartsRow, standIns := [], harness := (true, "8d033c098df52542713cd1cb1a56e6140057c04f5193b9a764a39bd310520ce0"), looks := false }, kinds := [], alts := [], laidByText := true, laidKinds := [.data, .pinned], laidTests := true, laidLooks := .later }
def InternPartsCardSaid : Prop := Claim7.holds Tryd.pinned (.plain (OpenSpec.ofChange internPartsSpec)) internPartsCard

/-- THE TIED CARD OF 'redlinelaw04.InternGrows'. -/
def internGrowsCard : Claim7 := { stood := { row := internGrowsRow, standIns := [], harness := (true, "8d033c098df52542713cd1cb1a56e6140057c04f5193b9a764a39bd310520ce0"), looks := false }, kinds := [], alts := [], laidByText := true, laidKinds := [.data, .pinned], laidTests := true, laidLooks := .later }
def InternGrowsCardSaid : Prop := Claim7.holds Tryd.pinned (.plain (OpenSpec.ofChange internGrowsSpec)) internGrowsCard

/-- THE SECOND FORM's CARD OF 'redlinelaw04.InternClasses'. -/
def internClassesUptoCard : Claim7 := { stood := { row := internClassesUptoRow, standIns := [], harness := (true, "8d033c098df52542713cd1cb1a56e6140057c04f5193b9a764a39bd310520ce0"), looks := false }, kinds := [], alts := [], laidByText := true, laidKinds := [.data, .pinned], laidTests := true, laidLooks := .later }
def InternClassesUptoCardSaid : Prop := Claim7.holds Tryd.pinned (.plain (OpenSpec.upto internClassesSpec)) internClassesUptoCard

/-- THE SECOND FORM's CARD OF 'redlinelaw04.InternTables'. -/
def internTablesUptoCard : Claim7 := { stood := { row := internTablesUptoRow, standIns := [], harness := (true, "8d033c098df52542713cd1cb1a56e6140057c04f5193b9a764a39bd310520ce0"), looks := false }, kinds := [], alts := [], laidByText := true, laidKinds := [.data, .pinned], laidTests := true, laidLooks := .later }
def InternTablesUptoCardSaid : Prop := Claim7.holds Tryd.pinned (.plain (OpenSpec.upto internTablesSpec)) internTablesUptoCard

/-- THE SECOND FORM's CARD OF 'redlinelaw04.InternParts'. -/
def internPartsUptoCard : Claim7 := { stood := { row := internPartsUptoRow, standIns := [], harness := (true, "8d033c098df52542713cd1cb1a56e6140057c04f5193b9a764a39bd310520ce0"), looks := false }, kinds := [], alts := [], laidByText := true, laidKinds := [.data, .pinned], laidTests := true, laidLooks := .later }
def InternPartsUptoCardSaid : Prop := Claim7.holds Tryd.pinned (.plain (OpenSpec.upto internPartsSpec)) internPartsUptoCard

/-- THE SECOND FORM's CARD OF 'redlinelaw04.InternGrows'. -/
def internGrowsUptoCard : Claim7 := { stood := { row := internGrowsUptoRow, standIns := [], harness := (true, "8d033c098df52542713cd1cb1a56e6140057c04f5193b9a764a39bd310520ce0"), looks := false }, kinds := [], alts := [], laidByText := true, laidKinds := [.data, .pinned], laidTests := true, laidLooks := .later }
def InternGrowsUptoCardSaid : Prop := Claim7.holds Tryd.pinned (.plain (OpenSpec.upto internGrowsSpec)) internGrowsUptoCard
end Rows
end Go.Proofs.YtkaadahcefdiiaaDoor
