/-
  DERIVED. GIVEN WITH THE SEED: THE CARDS: each row of YtjaedfjfcghgcabDoorRows.lean that lists a variable, with what it lists TIED to the program's text (the seventh form; the later family's looks); each row that meets fmt, with fmt's text TOLD by the authors' own Lean function (tested against real Go, not proved from fmt's source: count such statements apart). THE CARD IS WHAT COUNTS. Prove the row's statement (the work); the ties are given (YtjaedfjfcghgcabDoorTie.lean); close each card by the builder's one call (the guide's Derived/Test/ToyasCard.lean, 'card_holds'). Laid BY PROGRAM, IN A SANDBOX (cutbox-door.mjs). By AI agents, Wed Nov 11 2026. No macro, syntax, notation, axiom, sorry.
-/
import Derived.Test.YtjaedfjfcghgcabDoorRows
import GoSem.ClaimSeven
namespace Go.Proofs.YtjaedfjfcghgcabDoor
namespace Rows

/-- THE TIED CARD OF 'venntop.TopSome'. -/
def topSomeCard : Claim7 := { stood := { row := topSomeRow, standIns := [], harness := (true, "c3c830b84ca182b2685701e7a9b735507ee5038b2bf94bdf62d0faea0743952f"), looks := false }, kinds := [], alts := [], laidByText := true, laidKinds := [.wider], laidTests := true, laidLooks := .later }
def TopSomeCardSaid : Prop := Claim7.holds Tryd.pinned (.plain (OpenSpec.ofChange topSomeSpec)) topSomeCard

/-- THE SECOND FORM's CARD OF 'venntop.TopSome'. -/
def topSomeUptoCard : Claim7 := { stood := { row := topSomeUptoRow, standIns := [], harness := (true, "c3c830b84ca182b2685701e7a9b735507ee5038b2bf94bdf62d0faea0743952f"), looks := false }, kinds := [], alts := [], laidByText := true, laidKinds := [.wider], laidTests := true, laidLooks := .later }
def TopSomeUptoCardSaid : Prop := Claim7.holds Tryd.pinned (.plain (OpenSpec.upto topSomeSpec)) topSomeUptoCard
end Rows
end Go.Proofs.YtjaedfjfcghgcabDoor
