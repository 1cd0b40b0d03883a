/-
  DERIVED. GIVEN WITH THE SEED: THE CARDS: each row of YtenmheenieifpacGreatDoorRows.lean that lists a variable, with what it lists TIED to the program's text (the seventh form; the later family's looks); each row that meets fmt, with fmt's text TOLD by the authors' own Lean function (tested against real Go, not proved from fmt's source: count such statements apart). THE CARD IS WHAT COUNTS. Prove the row's statement (the work); the ties are given (YtenmheenieifpacGreatDoorTie.lean); close each card by the builder's one call (the guide's Derived/Test/ToyasCard.lean, 'card_holds'). Laid BY PROGRAM, IN A SANDBOX (cutbox-door.mjs). By AI agents, Wed Nov 11 2026. No macro, syntax, notation, axiom, sorry.
-/
import Derived.Test.YtenmheenieifpacGreatDoorRows
import GoSem.ClaimSeven
namespace Go.Proofs.YtenmheenieifpacGreatDoor
namespace Rows

/-- THE TIED CARD OF 'vennlaw1.CubesTell'. -/
def cubesTellCard : Claim7 := { stood := { row := cubesTellRow, standIns := [], harness := (true, "6864143fe1e17f2780cbb185236ea8b2663dc77b6ce3cd8e55eb80a46f61d6f1"), looks := true }, kinds := [], alts := [], laidByText := true, laidKinds := [.handle, .wider], laidTests := true, laidLooks := .later }
def CubesTellCardSaid : Prop := Claim7.holds Tryz.pinned (.plain (OpenSpec.ofChange cubesTellSpec)) cubesTellCard

/-- THE SECOND FORM's CARD OF 'vennlaw1.CubesTell'. -/
def cubesTellUptoCard : Claim7 := { stood := { row := cubesTellUptoRow, standIns := [], harness := (true, "6864143fe1e17f2780cbb185236ea8b2663dc77b6ce3cd8e55eb80a46f61d6f1"), looks := true }, kinds := [], alts := [], laidByText := true, laidKinds := [.handle, .wider], laidTests := true, laidLooks := .later }
def CubesTellUptoCardSaid : Prop := Claim7.holds Tryz.pinned (.plain (OpenSpec.upto cubesTellSpec)) cubesTellUptoCard
end Rows
end Go.Proofs.YtenmheenieifpacGreatDoor
