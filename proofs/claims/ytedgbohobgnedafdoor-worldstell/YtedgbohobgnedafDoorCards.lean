/-
  DERIVED. GIVEN WITH THE SEED: THE CARDS: each row of YtedgbohobgnedafDoorRows.lean that lists a variable, with what it lists TIED to the program's text (the seventh form; the later family's looks); each row that meets fmt, with fmt's text TOLD by the authors' own Lean function (tested against real Go, not proved from fmt's source: count such statements apart). THE CARD IS WHAT COUNTS. Prove the row's statement (the work); the ties are given (YtedgbohobgnedafDoorTie.lean); close each card by the builder's one call (the guide's Derived/Test/ToyasCard.lean, 'card_holds'). Laid BY PROGRAM, IN A SANDBOX (cutbox-door.mjs). By AI agents, Wed Nov 11 2026. No macro, syntax, notation, axiom, sorry.
-/
import Derived.Test.YtedgbohobgnedafDoorRows
import GoSem.ClaimSeven
namespace Go.Proofs.YtedgbohobgnedafDoor
namespace Rows

/-- THE TIED CARD OF 'vennlaw2.WorldsTell'. -/
def worldsTellCard : Claim7 := { stood := { row := worldsTellRow, standIns := [], harness := (true, "c261247f91530260241bfdd106d440dbcf4d44b3423d949052e35aabfdb2a9d3"), looks := true }, kinds := [], alts := [], laidByText := true, laidKinds := [.handle, .wider], laidTests := true, laidLooks := .later }
def WorldsTellCardSaid : Prop := Claim7.holds Tryd.pinned (.plain (OpenSpec.ofChange worldsTellSpec)) worldsTellCard

/-- THE TIED CARD OF 'vennlaw4.WorldsHalf'. -/
def worldsHalfCard : Claim7 := { stood := { row := worldsHalfRow, standIns := [], harness := (true, "c261247f91530260241bfdd106d440dbcf4d44b3423d949052e35aabfdb2a9d3"), looks := true }, kinds := [], alts := [], laidByText := true, laidKinds := [.wider], laidTests := true, laidLooks := .later }
def WorldsHalfCardSaid : Prop := Claim7.holds Tryd.pinned (.plain (OpenSpec.ofChange worldsHalfSpec)) worldsHalfCard

/-- THE SECOND FORM's CARD OF 'vennlaw2.WorldsTell'. -/
def worldsTellUptoCard : Claim7 := { stood := { row := worldsTellUptoRow, standIns := [], harness := (true, "c261247f91530260241bfdd106d440dbcf4d44b3423d949052e35aabfdb2a9d3"), looks := true }, kinds := [], alts := [], laidByText := true, laidKinds := [.handle, .wider], laidTests := true, laidLooks := .later }
def WorldsTellUptoCardSaid : Prop := Claim7.holds Tryd.pinned (.plain (OpenSpec.upto worldsTellSpec)) worldsTellUptoCard

/-- THE SECOND FORM's CARD OF 'vennlaw4.WorldsHalf'. -/
def worldsHalfUptoCard : Claim7 := { stood := { row := worldsHalfUptoRow, standIns := [], harness := (true, "c261247f91530260241bfdd106d440dbcf4d44b3423d949052e35aabfdb2a9d3"), looks := true }, kinds := [], alts := [], laidByText := true, laidKinds := [.wider], laidTests := true, laidLooks := .later }
def WorldsHalfUptoCardSaid : Prop := Claim7.holds Tryd.pinned (.plain (OpenSpec.upto worldsHalfSpec)) worldsHalfUptoCard
end Rows
end Go.Proofs.YtedgbohobgnedafDoor
