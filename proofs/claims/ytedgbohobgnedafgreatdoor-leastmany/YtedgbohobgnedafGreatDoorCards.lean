/-
  DERIVED. GIVEN WITH THE SEED: THE CARDS: each row of YtedgbohobgnedafGreatDoorRows.lean that lists a variable, with what it lists TIED to the program's text (the seventh form; the later family's looks); each row that meets fmt, with fmt's text TOLD by the authors' own Lean function (tested against real Go, not proved from fmt's source: count such statements apart). THE CARD IS WHAT COUNTS. Prove the row's statement (the work); the ties are given (YtedgbohobgnedafGreatDoorTie.lean); close each card by the builder's one call (the guide's Derived/Test/ToyasCard.lean, 'card_holds'). Laid BY PROGRAM, IN A SANDBOX (cutbox-door.mjs). By AI agents, Wed Nov 11 2026. No macro, syntax, notation, axiom, sorry.
-/
import Derived.Test.YtedgbohobgnedafGreatDoorRows
import GoSem.ClaimSeven
namespace Go.Proofs.YtedgbohobgnedafGreatDoor
namespace Rows

/-- THE TIED CARD OF 'vennlaw4.LeastMany'. -/
def leastManyCard : Claim7 := { stood := { row := leastManyRow, standIns := [], harness := (true, "6b6be23ff93a725aa2826b7ce800a2723762fb98425b1df665e2451705edb6ed"), looks := true }, kinds := [], alts := [], laidByText := true, laidKinds := [.handle, .wider, .data], laidTests := true, laidLooks := .later }
def LeastManyCardSaid : Prop := Claim7.holds Tryz.pinned (.plain (OpenSpec.ofChange leastManySpec)) leastManyCard

/-- THE TIED CARD OF 'vennlaw2.WorldsAll'. -/
def worldsAllCard : Claim7 := { stood := { row := worldsAllRow, standIns := [], harness := (true, "6b6be23ff93a725aa2826b7ce800a2723762fb98425b1df665e2451705edb6ed"), looks := true }, kinds := [], alts := [], laidByText := true, laidKinds := [.handle, .wider, .data], laidTests := true, laidLooks := .later }
def WorldsAllCardSaid : Prop := Claim7.holds Tryz.pinned (.plain (OpenSpec.ofChange worldsAllSpec)) worldsAllCard

/-- THE SECOND FORM's CARD OF 'vennlaw4.LeastMany'. -/
def leastManyUptoCard : Claim7 := { stood := { row := leastManyUptoRow, standIns := [], harness := (true, "6b6be23ff93a725aa2826b7ce800a2723762fb98425b1df665e2451705edb6ed"), looks := true }, kinds := [], alts := [], laidByText := true, laidKinds := [.handle, .wider, .data], laidTests := true, laidLooks := .later }
def LeastManyUptoCardSaid : Prop := Claim7.holds Tryz.pinned (.plain (OpenSpec.upto leastManySpec)) leastManyUptoCard

/-- THE SECOND FORM's CARD OF 'vennlaw2.WorldsAll'. -/
def worldsAllUptoCard : Claim7 := { stood := { row := worldsAllUptoRow, standIns := [], harness := (true, "6b6be23ff93a725aa2826b7ce800a2723762fb98425b1df665e2451705edb6ed"), looks := true }, kinds := [], alts := [], laidByText := true, laidKinds := [.handle, .wider, .data], laidTests := true, laidLooks := .later }
def WorldsAllUptoCardSaid : Prop := Claim7.holds Tryz.pinned (.plain (OpenSpec.upto worldsAllSpec)) worldsAllUptoCard
end Rows
end Go.Proofs.YtedgbohobgnedafGreatDoor
