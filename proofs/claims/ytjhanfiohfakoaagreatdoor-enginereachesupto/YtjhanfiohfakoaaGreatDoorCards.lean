/-
  DERIVED. GIVEN WITH THE SEED: THE CARDS: each row of YtjhanfiohfakoaaGreatDoorRows.lean that lists a variable, with what it lists TIED to the program's text (the seventh form; the later family's looks); each row that meets fmt, with fmt's text TOLD by the authors' own Lean function (tested against real Go, not proved from fmt's source: count such statements apart). THE CARD IS WHAT COUNTS. Prove the row's statement (the work); the ties are given (YtjhanfiohfakoaaGreatDoorTie.lean); close each card by the builder's one call (the guide's Derived/Test/ToyasCard.lean, 'card_holds'). Laid BY PROGRAM, IN A SANDBOX (cutbox-door.mjs). By AI agents, Wed Nov 11 2026. No macro, syntax, notation, axiom, sorry.
-/
import Derived.Test.YtjhanfiohfakoaaGreatDoorRows
import GoSem.ClaimSeven
namespace Go.Proofs.YtjhanfiohfakoaaGreatDoor
namespace Rows

/-- THE TIED CARD OF 'redlinelaw10.EngineDiffs'. -/
def engineDiffsCard : Claim7 := { stood := { row := engineDiffsRow, standIns := [], harness := (true, "66acc73a152c6864cce070d001177ac249867d1e49dc7f14a1aa522c6f44af76"), looks := false }, kinds := [], alts := [], laidByText := true, laidKinds := [.data, .pinned], laidTests := true, laidLooks := .later }
def EngineDiffsCardSaid : Prop := Claim7.holds Tryz.pinned (.plain (OpenSpec.ofChange engineDiffsSpec)) engineDiffsCard

/-- THE TIED CARD OF 'redlinelaw10.EngineHonest'. -/
def engineHonestCard : Claim7 := { stood := { row := engineHonestRow, standIns := [], harness := (true, "66acc73a152c6864cce070d001177ac249867d1e49dc7f14a1aa522c6f44af76"), looks := false }, kinds := [], alts := [], laidByText := true, laidKinds := [.data, .pinned], laidTests := true, laidLooks := .later }
def EngineHonestCardSaid : Prop := Claim7.holds Tryz.pinned (.plain (OpenSpec.ofChange engineHonestSpec)) engineHonestCard

/-- THE TIED CARD OF 'redlinelaw10.EngineReaches'. -/
def engineReachesCard : Claim7 := { stood := { row := engineReachesRow, standIns := [], harness := (true, "66acc73a152c6864cce070d001177ac249867d1e49dc7f14a1aa522c6f44af76"), looks := false }, kinds := [], alts := [], laidByText := true, laidKinds := [.data, .pinned], laidTests := true, laidLooks := .later }
def EngineReachesCardSaid : Prop := Claim7.holds Tryz.pinned (.plain (OpenSpec.ofChange engineReachesSpec)) engineReachesCard

/-- THE SECOND FORM's CARD OF 'redlinelaw10.EngineDiffs'. -/
def engineDiffsUptoCard : Claim7 := { stood := { row := engineDiffsUptoRow, standIns := [], harness := (true, "66acc73a152c6864cce070d001177ac249867d1e49dc7f14a1aa522c6f44af76"), looks := false }, kinds := [], alts := [], laidByText := true, laidKinds := [.data, .pinned], laidTests := true, laidLooks := .later }
def EngineDiffsUptoCardSaid : Prop := Claim7.holds Tryz.pinned (.plain (OpenSpec.upto engineDiffsSpec)) engineDiffsUptoCard

/-- THE SECOND FORM's CARD OF 'redlinelaw10.EngineHonest'. -/
def engineHonestUptoCard : Claim7 := { stood := { row := engineHonestUptoRow, standIns := [], harness := (true, "66acc73a152c6864cce070d001177ac249867d1e49dc7f14a1aa522c6f44af76"), looks := false }, kinds := [], alts := [], laidByText := true, laidKinds := [.data, .pinned], laidTests := true, laidLooks := .later }
def EngineHonestUptoCardSaid : Prop := Claim7.holds Tryz.pinned (.plain (OpenSpec.upto engineHonestSpec)) engineHonestUptoCard

/-- THE SECOND FORM's CARD OF 'redlinelaw10.EngineReaches'. -/
def engineReachesUptoCard : Claim7 := { stood := { row := engineReachesUptoRow, standIns := [], harness := (true, "66acc73a152c6864cce070d001177ac249867d1e49dc7f14a1aa522c6f44af76"), looks := false }, kinds := [], alts := [], laidByText := true, laidKinds := [.data, .pinned], laidTests := true, laidLooks := .later }
def EngineReachesUptoCardSaid : Prop := Claim7.holds Tryz.pinned (.plain (OpenSpec.upto engineReachesSpec)) engineReachesUptoCard
end Rows
end Go.Proofs.YtjhanfiohfakoaaGreatDoor
