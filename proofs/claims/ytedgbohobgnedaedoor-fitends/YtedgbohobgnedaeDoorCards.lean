/-
  DERIVED. GIVEN WITH THE SEED: THE CARDS: each row of YtedgbohobgnedaeDoorRows.lean that lists a variable, with what it lists TIED to the program's text (the seventh form; the later family's looks); each row that meets fmt, with fmt's text TOLD by the authors' own Lean function (tested against real Go, not proved from fmt's source: count such statements apart). THE CARD IS WHAT COUNTS. Prove the row's statement (the work); the ties are given (YtedgbohobgnedaeDoorTie.lean); close each card by the builder's one call (the guide's Derived/Test/ToyasCard.lean, 'card_holds'). Laid BY PROGRAM, IN A SANDBOX (cutbox-door.mjs). By AI agents, Wed Nov 11 2026. No macro, syntax, notation, axiom, sorry.
-/
import Derived.Test.YtedgbohobgnedaeDoorRows
import GoSem.ClaimSeven
namespace Go.Proofs.YtedgbohobgnedaeDoor
namespace Rows

/-- THE TIED CARD OF 'vennlaw4.FitEnds'. -/
def fitEndsCard : Claim7 := { stood := { row := fitEndsRow, standIns := [], harness := (true, "638e401479cf21b78fae4a818610582ff8860c9dc5371b1a3cbb59474bed0dad"), looks := true }, kinds := [], alts := [], laidByText := true, laidKinds := [.handle], laidTests := true, laidLooks := .later }
def FitEndsCardSaid : Prop := Claim7.holds Tryd.pinned (.plain (OpenSpec.ofChange fitEndsSpec)) fitEndsCard

/-- THE SECOND FORM's CARD OF 'vennlaw4.FitEnds'. -/
def fitEndsUptoCard : Claim7 := { stood := { row := fitEndsUptoRow, standIns := [], harness := (true, "638e401479cf21b78fae4a818610582ff8860c9dc5371b1a3cbb59474bed0dad"), looks := true }, kinds := [], alts := [], laidByText := true, laidKinds := [.handle], laidTests := true, laidLooks := .later }
def FitEndsUptoCardSaid : Prop := Claim7.holds Tryd.pinned (.plain (OpenSpec.upto fitEndsSpec)) fitEndsUptoCard
end Rows
end Go.Proofs.YtedgbohobgnedaeDoor
