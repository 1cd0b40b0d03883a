/-
  DERIVED. GIVEN WITH THE SEED: THE CARDS: each row of YtljkablijhjaaafGreatDoorRows.lean that lists a variable, with what it lists TIED to the program's text (the seventh form; the later family's looks); each row that meets fmt, with fmt's text TOLD by the authors' own Lean function (tested against real Go, not proved from fmt's source: count such statements apart). THE CARD IS WHAT COUNTS. Prove the row's statement (the work); the ties are given (YtljkablijhjaaafGreatDoorTie.lean); close each card by the builder's one call (the guide's Derived/Test/ToyasCard.lean, 'card_holds'). Laid BY PROGRAM, IN A SANDBOX (cutbox-door.mjs). By AI agents, Wed Nov 11 2026. No macro, syntax, notation, axiom, sorry.
-/
import Derived.Test.YtljkablijhjaaafGreatDoorRows
import GoSem.ClaimSeven
namespace Go.Proofs.YtljkablijhjaaafGreatDoor
namespace Rows

/-- THE TIED CARD OF 'vennlaw4.LeastMany'. -/
def leastManyCard : Claim7 := { stood := { row := leastManyRow, standIns := [], harness := (true, "e73e1a05797418c9efdcb998247c7add8a92b212a48151dd3be312aa9f65dd2e"), looks := true }, kinds := [], alts := [], laidByText := true, laidKinds := [.handle, .wider, .data], laidTests := true, laidLooks := .later }
def LeastManyCardSaid : Prop := Claim7.holds Tryz.pinned (.plain (OpenSpec.ofChange leastManySpec)) leastManyCard

/-- THE SECOND FORM's CARD OF 'vennlaw4.LeastMany'. -/
def leastManyUptoCard : Claim7 := { stood := { row := leastManyUptoRow, standIns := [], harness := (true, "e73e1a05797418c9efdcb998247c7add8a92b212a48151dd3be312aa9f65dd2e"), looks := true }, kinds := [], alts := [], laidByText := true, laidKinds := [.handle, .wider, .data], laidTests := true, laidLooks := .later }
def LeastManyUptoCardSaid : Prop := Claim7.holds Tryz.pinned (.plain (OpenSpec.upto leastManySpec)) leastManyUptoCard
end Rows
end Go.Proofs.YtljkablijhjaaafGreatDoor
