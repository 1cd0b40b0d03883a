/-
  DERIVED. GIVEN WITH THE SEED: THE CARDS: each row of YtenmheenieifpaeGreatDoorRows.lean that lists a variable, with what it lists TIED to the program's text (the seventh form; the later family's looks); each row that meets fmt, with fmt's text TOLD by the authors' own Lean function (tested against real Go, not proved from fmt's source: count such statements apart). THE CARD IS WHAT COUNTS. Prove the row's statement (the work); the ties are given (YtenmheenieifpaeGreatDoorTie.lean); close each card by the builder's one call (the guide's Derived/Test/ToyasCard.lean, 'card_holds'). Laid BY PROGRAM, IN A SANDBOX (cutbox-door.mjs). By AI agents, Wed Nov 11 2026. No macro, syntax, notation, axiom, sorry.
-/
import Derived.Test.YtenmheenieifpaeGreatDoorRows
import GoSem.ClaimSeven
namespace Go.Proofs.YtenmheenieifpaeGreatDoor
namespace Rows

/-- THE TIED CARD OF 'vennlaw1.ModelTells'. -/
def modelTellsCard : Claim7 := { stood := { row := modelTellsRow, standIns := [], harness := (true, "ba9b5057ac6cfcd6b1cd16816470c41e0e558d2f1b95f7e8bf0b840d13164799"), looks := true }, kinds := [], alts := [], laidByText := true, laidKinds := [.handle, .wider, .data], laidTests := true, laidLooks := .later }
def ModelTellsCardSaid : Prop := Claim7.holds Tryz.pinned (.plain (OpenSpec.ofChange modelTellsSpec)) modelTellsCard

/-- THE TIED CARD OF 'vennlaw1.ModelHolds'. -/
def modelHoldsCard : Claim7 := { stood := { row := modelHoldsRow, standIns := [], harness := (true, "ba9b5057ac6cfcd6b1cd16816470c41e0e558d2f1b95f7e8bf0b840d13164799"), looks := true }, kinds := [], alts := [], laidByText := true, laidKinds := [.handle, .wider, .data], laidTests := true, laidLooks := .later }
def ModelHoldsCardSaid : Prop := Claim7.holds Tryz.pinned (.plain (OpenSpec.ofChange modelHoldsSpec)) modelHoldsCard

/-- THE TIED CARD OF 'vennlaw4.ModelMany'. -/
def modelManyCard : Claim7 := { stood := { row := modelManyRow, standIns := [], harness := (true, "ba9b5057ac6cfcd6b1cd16816470c41e0e558d2f1b95f7e8bf0b840d13164799"), looks := true }, kinds := [], alts := [], laidByText := true, laidKinds := [.handle, .wider, .data], laidTests := true, laidLooks := .later }
def ModelManyCardSaid : Prop := Claim7.holds Tryz.pinned (.plain (OpenSpec.ofChange modelManySpec)) modelManyCard

/-- THE SECOND FORM's CARD OF 'vennlaw1.ModelTells'. -/
def modelTellsUptoCard : Claim7 := { stood := { row := modelTellsUptoRow, standIns := [], harness := (true, "ba9b5057ac6cfcd6b1cd16816470c41e0e558d2f1b95f7e8bf0b840d13164799"), looks := true }, kinds := [], alts := [], laidByText := true, laidKinds := [.handle, .wider, .data], laidTests := true, laidLooks := .later }
def ModelTellsUptoCardSaid : Prop := Claim7.holds Tryz.pinned (.plain (OpenSpec.upto modelTellsSpec)) modelTellsUptoCard

/-- THE SECOND FORM's CARD OF 'vennlaw1.ModelHolds'. -/
def modelHoldsUptoCard : Claim7 := { stood := { row := modelHoldsUptoRow, standIns := [], harness := (true, "ba9b5057ac6cfcd6b1cd16816470c41e0e558d2f1b95f7e8bf0b840d13164799"), looks := true }, kinds := [], alts := [], laidByText := true, laidKinds := [.handle, .wider, .data], laidTests := true, laidLooks := .later }
def ModelHoldsUptoCardSaid : Prop := Claim7.holds Tryz.pinned (.plain (OpenSpec.upto modelHoldsSpec)) modelHoldsUptoCard

/-- THE SECOND FORM's CARD OF 'vennlaw4.ModelMany'. -/
def modelManyUptoCard : Claim7 := { stood := { row := modelManyUptoRow, standIns := [], harness := (true, "ba9b5057ac6cfcd6b1cd16816470c41e0e558d2f1b95f7e8bf0b840d13164799"), looks := true }, kinds := [], alts := [], laidByText := true, laidKinds := [.handle, .wider, .data], laidTests := true, laidLooks := .later }
def ModelManyUptoCardSaid : Prop := Claim7.holds Tryz.pinned (.plain (OpenSpec.upto modelManySpec)) modelManyUptoCard
end Rows
end Go.Proofs.YtenmheenieifpaeGreatDoor
