/-
  DERIVED. GIVEN WITH THE SEED: THE CARDS: each row of YtenmheenieifpacDoorRows.lean that lists a variable, with what it lists TIED to the program's text (the seventh form; the later family's looks); each row that meets fmt, with fmt's text TOLD by the authors' own Lean function (tested against real Go, not proved from fmt's source: count such statements apart). THE CARD IS WHAT COUNTS. Prove the row's statement (the work); the ties are given (YtenmheenieifpacDoorTie.lean); close each card by the builder's one call (the guide's Derived/Test/ToyasCard.lean, 'card_holds'). Laid BY PROGRAM, IN A SANDBOX (cutbox-door.mjs). By AI agents, Wed Nov 11 2026. No macro, syntax, notation, axiom, sorry.
-/
import Derived.Test.YtenmheenieifpacDoorRows
import GoSem.ClaimSeven
namespace Go.Proofs.YtenmheenieifpacDoor
namespace Rows

/-- THE TIED CARD OF 'vennlaw4.FormTwice'. -/
def formTwiceCard : Claim7 := { stood := { row := formTwiceRow, standIns := [], harness := (true, "64eafd2b2d79081117bbde5df21a3425e59e6cf8030ae83011346442ae2a08e4"), looks := true }, kinds := [], alts := [], laidByText := true, laidKinds := [.handle, .wider], laidTests := true, laidLooks := .later }
def FormTwiceCardSaid : Prop := Claim7.holds Tryd.pinned (.plain (OpenSpec.ofChange formTwiceSpec)) formTwiceCard

/-- THE TIED CARD OF 'vennlaw1.CubesSay'. -/
def cubesSayCard : Claim7 := { stood := { row := cubesSayRow, standIns := [], harness := (true, "64eafd2b2d79081117bbde5df21a3425e59e6cf8030ae83011346442ae2a08e4"), looks := true }, kinds := [], alts := [], laidByText := true, laidKinds := [.wider], laidTests := true, laidLooks := .later }
def CubesSayCardSaid : Prop := Claim7.holds Tryd.pinned (.plain (OpenSpec.ofChange cubesSaySpec)) cubesSayCard

/-- THE TIED CARD OF 'vennlaw4.CubesOne'. -/
def cubesOneCard : Claim7 := { stood := { row := cubesOneRow, standIns := [], harness := (true, "64eafd2b2d79081117bbde5df21a3425e59e6cf8030ae83011346442ae2a08e4"), looks := true }, kinds := [], alts := [], laidByText := true, laidKinds := [.wider], laidTests := true, laidLooks := .later }
def CubesOneCardSaid : Prop := Claim7.holds Tryd.pinned (.plain (OpenSpec.ofChange cubesOneSpec)) cubesOneCard

/-- THE TIED CARD OF 'vennlaw1.FieldsTell'. -/
def fieldsTellCard : Claim7 := { stood := { row := fieldsTellRow, standIns := [], harness := (true, "64eafd2b2d79081117bbde5df21a3425e59e6cf8030ae83011346442ae2a08e4"), looks := true }, kinds := [], alts := [], laidByText := true, laidKinds := [.handle], laidTests := true, laidLooks := .later }
def FieldsTellCardSaid : Prop := Claim7.holds Tryd.pinned (.plain (OpenSpec.ofChange fieldsTellSpec)) fieldsTellCard

/-- THE TIED CARD OF 'vennlaw1.FieldsAll'. -/
def fieldsAllCard : Claim7 := { stood := { row := fieldsAllRow, standIns := [], harness := (true, "64eafd2b2d79081117bbde5df21a3425e59e6cf8030ae83011346442ae2a08e4"), looks := true }, kinds := [], alts := [], laidByText := true, laidKinds := [.wider], laidTests := true, laidLooks := .later }
def FieldsAllCardSaid : Prop := Claim7.holds Tryd.pinned (.plain (OpenSpec.ofChange fieldsAllSpec)) fieldsAllCard

/-- THE SECOND FORM's CARD OF 'vennlaw4.FormTwice'. -/
def formTwiceUptoCard : Claim7 := { stood := { row := formTwiceUptoRow, standIns := [], harness := (true, "64eafd2b2d79081117bbde5df21a3425e59e6cf8030ae83011346442ae2a08e4"), looks := true }, kinds := [], alts := [], laidByText := true, laidKinds := [.handle, .wider], laidTests := true, laidLooks := .later }
def FormTwiceUptoCardSaid : Prop := Claim7.holds Tryd.pinned (.plain (OpenSpec.upto formTwiceSpec)) formTwiceUptoCard

/-- THE SECOND FORM's CARD OF 'vennlaw1.CubesSay'. -/
def cubesSayUptoCard : Claim7 := { stood := { row := cubesSayUptoRow, standIns := [], harness := (true, "64eafd2b2d79081117bbde5df21a3425e59e6cf8030ae83011346442ae2a08e4"), looks := true }, kinds := [], alts := [], laidByText := true, laidKinds := [.wider], laidTests := true, laidLooks := .later }
def CubesSayUptoCardSaid : Prop := Claim7.holds Tryd.pinned (.plain (OpenSpec.upto cubesSaySpec)) cubesSayUptoCard

/-- THE SECOND FORM's CARD OF 'vennlaw4.CubesOne'. -/
def cubesOneUptoCard : Claim7 := { stood := { row := cubesOneUptoRow, standIns := [], harness := (true, "64eafd2b2d79081117bbde5df21a3425e59e6cf8030ae83011346442ae2a08e4"), looks := true }, kinds := [], alts := [], laidByText := true, laidKinds := [.wider], laidTests := true, laidLooks := .later }
def CubesOneUptoCardSaid : Prop := Claim7.holds Tryd.pinned (.plain (OpenSpec.upto cubesOneSpec)) cubesOneUptoCard

/-- THE SECOND FORM's CARD OF 'vennlaw1.FieldsTell'. -/
def fieldsTellUptoCard : Claim7 := { stood := { row := fieldsTellUptoRow, standIns := [], harness := (true, "64eafd2b2d79081117bbde5df21a3425e59e6cf8030ae83011346442ae2a08e4"), looks := true }, kinds := [], alts := [], laidByText := true, laidKinds := [.handle], laidTests := true, laidLooks := .later }
def FieldsTellUptoCardSaid : Prop := Claim7.holds Tryd.pinned (.plain (OpenSpec.upto fieldsTellSpec)) fieldsTellUptoCard

/-- THE SECOND FORM's CARD OF 'vennlaw1.FieldsAll'. -/
def fieldsAllUptoCard : Claim7 := { stood := { row := fieldsAllUptoRow, standIns := [], harness := (true, "64eafd2b2d79081117bbde5df21a3425e59e6cf8030ae83011346442ae2a08e4"), looks := true }, kinds := [], alts := [], laidByText := true, laidKinds := [.wider], laidTests := true, laidLooks := .later }
def FieldsAllUptoCardSaid : Prop := Claim7.holds Tryd.pinned (.plain (OpenSpec.upto fieldsAllSpec)) fieldsAllUptoCard
end Rows
end Go.Proofs.YtenmheenieifpacDoor
