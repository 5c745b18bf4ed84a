/-
  DERIVED. GIVEN WITH THE SEED: THE CARDS: each row of YtgckcbcdmmnkoaaGreatDoorRows.lean that lists a variable, with what it lists TIED to the program's text (the seventh form; the later family's looks); each row that meets fmt, with fmt's text TOLD by the authors' own Lean function (tested against real Go, not proved from fmt's source: count such statements apart). THE CARD IS WHAT COUNTS. Prove the row's statement (the work); the ties are given (YtgckcbcdmmnkoaaGreatDoorTie.lean); close each card by the builder's one call (the guide's Derived/Test/ToyasCard.lean, 'card_holds'). Laid BY PROGRAM, IN A SANDBOX (cutbox-door.mjs). By AI agents, Wed Nov 11 2026. No macro, syntax, notation, axiom, sorry.
-/
import Derived.Test.YtgckcbcdmmnkoaaGreatDoorRows
import GoSem.ClaimSeven
namespace Go.Proofs.YtgckcbcdmmnkoaaGreatDoor
namespace Rows

/-- THE TIED CARD OF 'redlinelaw11.HunksStand'. -/
def hunksStandCard : Claim7 := { stood := { row := hunksStandRow, standIns := [], harness := (true, "f347b337268eacfd3d7cc98c3c518627fb36fc78d2f054f18c97598154cf5f44"), looks := false }, kinds := [], alts := [], laidByText := true, laidKinds := [.data, .pinned], laidTests := true, laidLooks := .later }
def HunksStandCardSaid : Prop := Claim7.holds Tryz.pinned (.plain (OpenSpec.ofChange hunksStandSpec)) hunksStandCard

/-- THE TIED CARD OF 'redlinelaw11.HunksBack'. -/
def hunksBackCard : Claim7 := { stood := { row := hunksBackRow, standIns := [], harness := (true, "f347b337268eacfd3d7cc98c3c518627fb36fc78d2f054f18c97598154cf5f44"), looks := false }, kinds := [], alts := [], laidByText := true, laidKinds := [.data, .pinned], laidTests := true, laidLooks := .later }
def HunksBackCardSaid : Prop := Claim7.holds Tryz.pinned (.plain (OpenSpec.ofChange hunksBackSpec)) hunksBackCard

/-- THE TIED CARD OF 'redlinelaw11.HunksFewer'. -/
def hunksFewerCard : Claim7 := { stood := { row := hunksFewerRow, standIns := [], harness := (true, "f347b337268eacfd3d7cc98c3c518627fb36fc78d2f054f18c97598154cf5f44"), looks := false }, kinds := [], alts := [], laidByText := true, laidKinds := [.data, .pinned], laidTests := true, laidLooks := .later }
def HunksFewerCardSaid : Prop := Claim7.holds Tryz.pinned (.plain (OpenSpec.ofChange hunksFewerSpec)) hunksFewerCard

/-- THE TIED CARD OF 'redlinelaw11.HunksNone'. -/
def hunksNoneCard : Claim7 := { stood := { row := hunksNoneRow, standIns := [], harness := (true, "f347b337268eacfd3d7cc98c3c518627fb36fc78d2f054f18c97598154cf5f44"), looks := false }, kinds := [], alts := [], laidByText := true, laidKinds := [.data, .pinned], laidTests := true, laidLooks := .later }
def HunksNoneCardSaid : Prop := Claim7.holds Tryz.pinned (.plain (OpenSpec.ofChange hunksNoneSpec)) hunksNoneCard

/-- THE SECOND FORM's CARD OF 'redlinelaw11.HunksStand'. -/
def hunksStandUptoCard : Claim7 := { stood := { row := hunksStandUptoRow, standIns := [], harness := (true, "f347b337268eacfd3d7cc98c3c518627fb36fc78d2f054f18c97598154cf5f44"), looks := false }, kinds := [], alts := [], laidByText := true, laidKinds := [.data, .pinned], laidTests := true, laidLooks := .later }
def HunksStandUptoCardSaid : Prop := Claim7.holds Tryz.pinned (.plain (OpenSpec.upto hunksStandSpec)) hunksStandUptoCard

/-- THE SECOND FORM's CARD OF 'redlinelaw11.HunksBack'. -/
def hunksBackUptoCard : Claim7 := { stood := { row := hunksBackUptoRow, standIns := [], harness := (true, "f347b337268eacfd3d7cc98c3c518627fb36fc78d2f054f18c97598154cf5f44"), looks := false }, kinds := [], alts := [], laidByText := true, laidKinds := [.data, .pinned], laidTests := true, laidLooks := .later }
def HunksBackUptoCardSaid : Prop := Claim7.holds Tryz.pinned (.plain (OpenSpec.upto hunksBackSpec)) hunksBackUptoCard

/-- THE SECOND FORM's CARD OF 'redlinelaw11.HunksFewer'. -/
def hunksFewerUptoCard : Claim7 := { stood := { row := hunksFewerUptoRow, standIns := [], harness := (true, "f347b337268eacfd3d7cc98c3c518627fb36fc78d2f054f18c97598154cf5f44"), looks := false }, kinds := [], alts := [], laidByText := true, laidKinds := [.data, .pinned], laidTests := true, laidLooks := .later }
def HunksFewerUptoCardSaid : Prop := Claim7.holds Tryz.pinned (.plain (OpenSpec.upto hunksFewerSpec)) hunksFewerUptoCard

/-- THE SECOND FORM's CARD OF 'redlinelaw11.HunksNone'. -/
def hunksNoneUptoCard : Claim7 := { stood := { row := hunksNoneUptoRow, standIns := [], harness := (true, "f347b337268eacfd3d7cc98c3c518627fb36fc78d2f054f18c97598154cf5f44"), looks := false }, kinds := [], alts := [], laidByText := true, laidKinds := [.data, .pinned], laidTests := true, laidLooks := .later }
def HunksNoneUptoCardSaid : Prop := Claim7.holds Tryz.pinned (.plain (OpenSpec.upto hunksNoneSpec)) hunksNoneUptoCard
end Rows
end Go.Proofs.YtgckcbcdmmnkoaaGreatDoor
