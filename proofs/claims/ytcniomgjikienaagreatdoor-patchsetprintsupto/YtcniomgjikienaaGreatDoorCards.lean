/-
  DERIVED. GIVEN WITH THE SEED: THE CARDS: each row of YtcniomgjikienaaGreatDoorRows.lean that lists a variable, with what it lists TIED to the program's text (the seventh form; the later family's looks); each row that meets fmt, with fmt's text TOLD by the authors' own Lean function (tested against real Go, not proved from fmt's source: count such statements apart). THE CARD IS WHAT COUNTS. Prove the row's statement (the work); the ties are given (YtcniomgjikienaaGreatDoorTie.lean); close each card by the builder's one call (the guide's Derived/Test/ToyasCard.lean, 'card_holds'). Laid BY PROGRAM, IN A SANDBOX (cutbox-door.mjs). By AI agents, Wed Nov 11 2026. No macro, syntax, notation, axiom, sorry.
-/
import Derived.Test.YtcniomgjikienaaGreatDoorRows
import GoSem.ClaimSeven
namespace Go.Proofs.YtcniomgjikienaaGreatDoor
namespace Rows

/-- THE TIED CARD OF 'redlinelaw18.PatchsetReads'. -/
def patchsetReadsCard : Claim7 := { stood := { row := patchsetReadsRow, standIns := [], harness := (true, "5eb8adf32b197070c80449eae882b6b2557a682a3bd89c5f85507250bbb1b61f"), looks := true }, kinds := [], alts := [], laidByText := true, laidKinds := [.data, .data, .data, .handle], laidTests := true, laidLooks := .later }
def PatchsetReadsCardSaid : Prop := Claim7.holds Tryz.pinned (.plain (OpenSpec.ofChange patchsetReadsSpec)) patchsetReadsCard

/-- THE TIED CARD OF 'redlinelaw18.PatchsetPrints'. -/
def patchsetPrintsCard : Claim7 := { stood := { row := patchsetPrintsRow, standIns := [], harness := (true, "5eb8adf32b197070c80449eae882b6b2557a682a3bd89c5f85507250bbb1b61f"), looks := true }, kinds := [], alts := [], laidByText := true, laidKinds := [.data, .data, .data], laidTests := true, laidLooks := .later }
def PatchsetPrintsCardSaid : Prop := Claim7.holds Tryz.pinned (.plain (OpenSpec.ofChange patchsetPrintsSpec)) patchsetPrintsCard

/-- THE TIED CARD OF 'redlinelaw18.PatchsetBack'. -/
def patchsetBackCard : Claim7 := { stood := { row := patchsetBackRow, standIns := [], harness := (true, "5eb8adf32b197070c80449eae882b6b2557a682a3bd89c5f85507250bbb1b61f"), looks := true }, kinds := [], alts := [], laidByText := true, laidKinds := [.data, .data, .data, .data, .handle, .pinned], laidTests := true, laidLooks := .later }
def PatchsetBackCardSaid : Prop := Claim7.holds Tryz.pinned (.plain (OpenSpec.ofChange patchsetBackSpec)) patchsetBackCard

/-- THE TIED CARD OF 'redlinelaw18.PatchsetRemarks'. -/
def patchsetRemarksCard : Claim7 := { stood := { row := patchsetRemarksRow, standIns := [], harness := (true, "5eb8adf32b197070c80449eae882b6b2557a682a3bd89c5f85507250bbb1b61f"), looks := true }, kinds := [], alts := [], laidByText := true, laidKinds := [.data, .data, .data, .handle], laidTests := true, laidLooks := .later }
def PatchsetRemarksCardSaid : Prop := Claim7.holds Tryz.pinned (.plain (OpenSpec.ofChange patchsetRemarksSpec)) patchsetRemarksCard

/-- THE TIED CARD OF 'redlinelaw18.PatchsetStrips'. -/
def patchsetStripsCard : Claim7 := { stood := { row := patchsetStripsRow, standIns := [], harness := (true, "5eb8adf32b197070c80449eae882b6b2557a682a3bd89c5f85507250bbb1b61f"), looks := true }, kinds := [], alts := [], laidByText := true, laidKinds := [.data, .data, .data, .handle], laidTests := true, laidLooks := .later }
def PatchsetStripsCardSaid : Prop := Claim7.holds Tryz.pinned (.plain (OpenSpec.ofChange patchsetStripsSpec)) patchsetStripsCard

/-- THE SECOND FORM's CARD OF 'redlinelaw18.PatchsetReads'. -/
def patchsetReadsUptoCard : Claim7 := { stood := { row := patchsetReadsUptoRow, standIns := [], harness := (true, "5eb8adf32b197070c80449eae882b6b2557a682a3bd89c5f85507250bbb1b61f"), looks := true }, kinds := [], alts := [], laidByText := true, laidKinds := [.data, .data, .data, .handle], laidTests := true, laidLooks := .later }
def PatchsetReadsUptoCardSaid : Prop := Claim7.holds Tryz.pinned (.plain (OpenSpec.upto patchsetReadsSpec)) patchsetReadsUptoCard

/-- THE SECOND FORM's CARD OF 'redlinelaw18.PatchsetPrints'. -/
def patchsetPrintsUptoCard : Claim7 := { stood := { row := patchsetPrintsUptoRow, standIns := [], harness := (true, "5eb8adf32b197070c80449eae882b6b2557a682a3bd89c5f85507250bbb1b61f"), looks := true }, kinds := [], alts := [], laidByText := true, laidKinds := [.data, .data, .data], laidTests := true, laidLooks := .later }
def PatchsetPrintsUptoCardSaid : Prop := Claim7.holds Tryz.pinned (.plain (OpenSpec.upto patchsetPrintsSpec)) patchsetPrintsUptoCard

/-- THE SECOND FORM's CARD OF 'redlinelaw18.PatchsetBack'. -/
def patchsetBackUptoCard : Claim7 := { stood := { row := patchsetBackUptoRow, standIns := [], harness := (true, "5eb8adf32b197070c80449eae882b6b2557a682a3bd89c5f85507250bbb1b61f"), looks := true }, kinds := [], alts := [], laidByText := true, laidKinds := [.data, .data, .data, .data, .handle, .pinned], laidTests := true, laidLooks := .later }
def PatchsetBackUptoCardSaid : Prop := Claim7.holds Tryz.pinned (.plain (OpenSpec.upto patchsetBackSpec)) patchsetBackUptoCard

/-- THE SECOND FORM's CARD OF 'redlinelaw18.PatchsetRemarks'. -/
def patchsetRemarksUptoCard : Claim7 := { stood := { row := patchsetRemarksUptoRow, standIns := [], harness := (true, "5eb8adf32b197070c80449eae882b6b2557a682a3bd89c5f85507250bbb1b61f"), looks := true }, kinds := [], alts := [], laidByText := true, laidKinds := [.data, .data, .data, .handle], laidTests := true, laidLooks := .later }
def PatchsetRemarksUptoCardSaid : Prop := Claim7.holds Tryz.pinned (.plain (OpenSpec.upto patchsetRemarksSpec)) patchsetRemarksUptoCard

/-- THE SECOND FORM's CARD OF 'redlinelaw18.PatchsetStrips'. -/
def patchsetStripsUptoCard : Claim7 := { stood := { row := patchsetStripsUptoRow, standIns := [], harness := (true, "5eb8adf32b197070c80449eae882b6b2557a682a3bd89c5f85507250bbb1b61f"), looks := true }, kinds := [], alts := [], laidByText := true, laidKinds := [.data, .data, .data, .handle], laidTests := true, laidLooks := .later }
def PatchsetStripsUptoCardSaid : Prop := Claim7.holds Tryz.pinned (.plain (OpenSpec.upto patchsetStripsSpec)) patchsetStripsUptoCard
end Rows
end Go.Proofs.YtcniomgjikienaaGreatDoor
