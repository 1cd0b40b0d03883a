/-
  DERIVED. GIVEN WITH THE SEED: THE CARDS: each row of YtgkgbpbohgklhafDoorRows.lean that lists a variable, with what it lists TIED to the program's text (the seventh form; the later family's looks); each row that meets fmt, with fmt's text TOLD by the authors' own Lean function (tested against real Go, not proved from fmt's source: count such statements apart). THE CARD IS WHAT COUNTS. Prove the row's statement (the work); the ties are given (YtgkgbpbohgklhafDoorTie.lean); close each card by the builder's one call (the guide's Derived/Test/ToyasCard.lean, 'card_holds'). Laid BY PROGRAM, IN A SANDBOX (cutbox-door.mjs). By AI agents, Wed Nov 11 2026. No macro, syntax, notation, axiom, sorry.
-/
import Derived.Test.YtgkgbpbohgklhafDoorRows
import GoSem.ClaimSeven
namespace Go.Proofs.YtgkgbpbohgklhafDoor
namespace Rows

/-- THE TIED CARD OF 'vennlaw2.WorldsTell'. -/
def worldsTellCard : Claim7 := { stood := { row := worldsTellRow, standIns := [], harness := (true, "4a6202bcbbe8e8a72eb34d1d0943aef909b18203dacb6b96d42202c19d8012ee"), looks := true }, kinds := [], alts := [], laidByText := true, laidKinds := [.handle, .wider], laidTests := true, laidLooks := .later }
def WorldsTellCardSaid : Prop := Claim7.holds Tryd.pinned (.plain (OpenSpec.ofChange worldsTellSpec)) worldsTellCard

/-- THE TIED CARD OF 'vennlaw4.WorldsHalf'. -/
def worldsHalfCard : Claim7 := { stood := { row := worldsHalfRow, standIns := [], harness := (true, "4a6202bcbbe8e8a72eb34d1d0943aef909b18203dacb6b96d42202c19d8012ee"), looks := true }, kinds := [], alts := [], laidByText := true, laidKinds := [.wider], laidTests := true, laidLooks := .later }
def WorldsHalfCardSaid : Prop := Claim7.holds Tryd.pinned (.plain (OpenSpec.ofChange worldsHalfSpec)) worldsHalfCard

/-- THE TIED CARD OF 'vennlaw2.AlikeTells'. -/
def alikeTellsCard : Claim7 := { stood := { row := alikeTellsRow, standIns := [], harness := (true, "4a6202bcbbe8e8a72eb34d1d0943aef909b18203dacb6b96d42202c19d8012ee"), looks := true }, kinds := [], alts := [], laidByText := true, laidKinds := [.handle], laidTests := true, laidLooks := .later }
def AlikeTellsCardSaid : Prop := Claim7.holds Tryd.pinned (.plain (OpenSpec.ofChange alikeTellsSpec)) alikeTellsCard

/-- THE SECOND FORM's CARD OF 'vennlaw2.WorldsTell'. -/
def worldsTellUptoCard : Claim7 := { stood := { row := worldsTellUptoRow, standIns := [], harness := (true, "4a6202bcbbe8e8a72eb34d1d0943aef909b18203dacb6b96d42202c19d8012ee"), looks := true }, kinds := [], alts := [], laidByText := true, laidKinds := [.handle, .wider], laidTests := true, laidLooks := .later }
def WorldsTellUptoCardSaid : Prop := Claim7.holds Tryd.pinned (.plain (OpenSpec.upto worldsTellSpec)) worldsTellUptoCard

/-- THE SECOND FORM's CARD OF 'vennlaw4.WorldsHalf'. -/
def worldsHalfUptoCard : Claim7 := { stood := { row := worldsHalfUptoRow, standIns := [], harness := (true, "4a6202bcbbe8e8a72eb34d1d0943aef909b18203dacb6b96d42202c19d8012ee"), looks := true }, kinds := [], alts := [], laidByText := true, laidKinds := [.wider], laidTests := true, laidLooks := .later }
def WorldsHalfUptoCardSaid : Prop := Claim7.holds Tryd.pinned (.plain (OpenSpec.upto worldsHalfSpec)) worldsHalfUptoCard

/-- THE SECOND FORM's CARD OF 'vennlaw2.AlikeTells'. -/
def alikeTellsUptoCard : Claim7 := { stood := { row := alikeTellsUptoRow, standIns := [], harness := (true, "4a6202bcbbe8e8a72eb34d1d0943aef909b18203dacb6b96d42202c19d8012ee"), looks := true }, kinds := [], alts := [], laidByText := true, laidKinds := [.handle], laidTests := true, laidLooks := .later }
def AlikeTellsUptoCardSaid : Prop := Claim7.holds Tryd.pinned (.plain (OpenSpec.upto alikeTellsSpec)) alikeTellsUptoCard
end Rows
end Go.Proofs.YtgkgbpbohgklhafDoor
