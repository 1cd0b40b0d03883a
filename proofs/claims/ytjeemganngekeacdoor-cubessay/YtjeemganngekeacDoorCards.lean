/-
  DERIVED. GIVEN WITH THE SEED: THE CARDS: each row of YtjeemganngekeacDoorRows.lean that lists a variable, with what it lists TIED to the program's text (the seventh form; the later family's looks); each row that meets fmt, with fmt's text TOLD by the authors' own Lean function (tested against real Go, not proved from fmt's source: count such statements apart). THE CARD IS WHAT COUNTS. Prove the row's statement (the work); the ties are given (YtjeemganngekeacDoorTie.lean); close each card by the builder's one call (the guide's Derived/Test/ToyasCard.lean, 'card_holds'). Laid BY PROGRAM, IN A SANDBOX (cutbox-door.mjs). By AI agents, Wed Nov 11 2026. No macro, syntax, notation, axiom, sorry.
-/
import Derived.Test.YtjeemganngekeacDoorRows
import GoSem.ClaimSeven
namespace Go.Proofs.YtjeemganngekeacDoor
namespace Rows

/-- THE TIED CARD OF 'vennlaw4.FormTwice'. -/
def formTwiceCard : Claim7 := { stood := { row := formTwiceRow, standIns := [], harness := (true, "6ec57759d10a0aef5dd0c036fd41c2be1db184bc0b2f59cff73916f02ca98bd0"), looks := true }, kinds := [], alts := [], laidByText := true, laidKinds := [.handle, .wider], laidTests := true, laidLooks := .later }
def FormTwiceCardSaid : Prop := Claim7.holds Tryd.pinned (.plain (OpenSpec.ofChange formTwiceSpec)) formTwiceCard

/-- THE TIED CARD OF 'vennlaw1.CubesSay'. -/
def cubesSayCard : Claim7 := { stood := { row := cubesSayRow, standIns := [], harness := (true, "6ec57759d10a0aef5dd0c036fd41c2be1db184bc0b2f59cff73916f02ca98bd0"), looks := true }, kinds := [], alts := [], laidByText := true, laidKinds := [.wider], laidTests := true, laidLooks := .later }
def CubesSayCardSaid : Prop := Claim7.holds Tryd.pinned (.plain (OpenSpec.ofChange cubesSaySpec)) cubesSayCard

/-- THE TIED CARD OF 'vennlaw4.CubesOne'. -/
def cubesOneCard : Claim7 := { stood := { row := cubesOneRow, standIns := [], harness := (true, "6ec57759d10a0aef5dd0c036fd41c2be1db184bc0b2f59cff73916f02ca98bd0"), looks := true }, kinds := [], alts := [], laidByText := true, laidKinds := [.wider], laidTests := true, laidLooks := .later }
def CubesOneCardSaid : Prop := Claim7.holds Tryd.pinned (.plain (OpenSpec.ofChange cubesOneSpec)) cubesOneCard

/-- THE SECOND FORM's CARD OF 'vennlaw4.FormTwice'. -/
def formTwiceUptoCard : Claim7 := { stood := { row := formTwiceUptoRow, standIns := [], harness := (true, "6ec57759d10a0aef5dd0c036fd41c2be1db184bc0b2f59cff73916f02ca98bd0"), looks := true }, kinds := [], alts := [], laidByText := true, laidKinds := [.handle, .wider], laidTests := true, laidLooks := .later }
def FormTwiceUptoCardSaid : Prop := Claim7.holds Tryd.pinned (.plain (OpenSpec.upto formTwiceSpec)) formTwiceUptoCard

/-- THE SECOND FORM's CARD OF 'vennlaw1.CubesSay'. -/
def cubesSayUptoCard : Claim7 := { stood := { row := cubesSayUptoRow, standIns := [], harness := (true, "6ec57759d10a0aef5dd0c036fd41c2be1db184bc0b2f59cff73916f02ca98bd0"), looks := true }, kinds := [], alts := [], laidByText := true, laidKinds := [.wider], laidTests := true, laidLooks := .later }
def CubesSayUptoCardSaid : Prop := Claim7.holds Tryd.pinned (.plain (OpenSpec.upto cubesSaySpec)) cubesSayUptoCard

/-- THE SECOND FORM's CARD OF 'vennlaw4.CubesOne'. -/
def cubesOneUptoCard : Claim7 := { stood := { row := cubesOneUptoRow, standIns := [], harness := (true, "6ec57759d10a0aef5dd0c036fd41c2be1db184bc0b2f59cff73916f02ca98bd0"), looks := true }, kinds := [], alts := [], laidByText := true, laidKinds := [.wider], laidTests := true, laidLooks := .later }
def CubesOneUptoCardSaid : Prop := Claim7.holds Tryd.pinned (.plain (OpenSpec.upto cubesOneSpec)) cubesOneUptoCard
end Rows
end Go.Proofs.YtjeemganngekeacDoor
