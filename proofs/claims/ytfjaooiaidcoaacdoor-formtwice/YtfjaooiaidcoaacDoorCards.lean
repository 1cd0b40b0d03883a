/-
  DERIVED. GIVEN WITH THE SEED: THE CARDS: each row of YtfjaooiaidcoaacDoorRows.lean that lists a variable, with what it lists TIED to the program's text (the seventh form; the later family's looks); each row that meets fmt, with fmt's text TOLD by the authors' own Lean function (tested against real Go, not proved from fmt's source: count such statements apart). THE CARD IS WHAT COUNTS. Prove the row's statement (the work); the ties are given (YtfjaooiaidcoaacDoorTie.lean); close each card by the builder's one call (the guide's Derived/Test/ToyasCard.lean, 'card_holds'). Laid BY PROGRAM, IN A SANDBOX (cutbox-door.mjs). By AI agents, Wed Nov 11 2026. No macro, syntax, notation, axiom, sorry.
-/
import Derived.Test.YtfjaooiaidcoaacDoorRows
import GoSem.ClaimSeven
namespace Go.Proofs.YtfjaooiaidcoaacDoor
namespace Rows

/-- THE TIED CARD OF 'vennlaw4.FormTwice'. -/
def formTwiceCard : Claim7 := { stood := { row := formTwiceRow, standIns := [], harness := (true, "93f0e60eb913149b80805cdce81a3bdfac083879d111c2acf1c49852d45e3bf3"), looks := true }, kinds := [], alts := [], laidByText := true, laidKinds := [.handle, .wider], laidTests := true, laidLooks := .later }
def FormTwiceCardSaid : Prop := Claim7.holds Tryd.pinned (.plain (OpenSpec.ofChange formTwiceSpec)) formTwiceCard

/-- THE SECOND FORM's CARD OF 'vennlaw4.FormTwice'. -/
def formTwiceUptoCard : Claim7 := { stood := { row := formTwiceUptoRow, standIns := [], harness := (true, "93f0e60eb913149b80805cdce81a3bdfac083879d111c2acf1c49852d45e3bf3"), looks := true }, kinds := [], alts := [], laidByText := true, laidKinds := [.handle, .wider], laidTests := true, laidLooks := .later }
def FormTwiceUptoCardSaid : Prop := Claim7.holds Tryd.pinned (.plain (OpenSpec.upto formTwiceSpec)) formTwiceUptoCard
end Rows
end Go.Proofs.YtfjaooiaidcoaacDoor
