/-
  DERIVED. GIVEN WITH THE SEED: THE CARDS: each row of YtjmeakkmfeoigaaGreatDoorRows.lean that lists a variable, with what it lists TIED to the program's text (the seventh form; the later family's looks); each row that meets fmt, with fmt's text TOLD by the authors' own Lean function (tested against real Go, not proved from fmt's source: count such statements apart). THE CARD IS WHAT COUNTS. Prove the row's statement (the work); the ties are given (YtjmeakkmfeoigaaGreatDoorTie.lean); close each card by the builder's one call (the guide's Derived/Test/ToyasCard.lean, 'card_holds'). Laid BY PROGRAM, IN A SANDBOX (cutbox-door.mjs). By AI agents, Wed Nov 11 2026. No macro, syntax, notation, axiom, sorry.
-/
import Derived.Test.YtjmeakkmfeoigaaGreatDoorRows
import GoSem.ClaimSeven
namespace Go.Proofs.YtjmeakkmfeoigaaGreatDoor
namespace Rows

/-- THE TIED CARD OF 'vennlaw3.LogStops'. -/
def logStopsCard : Claim7 := { stood := { row := logStopsRow, standIns := [], harness := (true, "28c4b64e86558bea5bbee51fd5de81da5299209317ed2e011e1bb4d28d9465c7"), looks := true }, kinds := [], alts := [], laidByText := true, laidKinds := [.data, .data, .data, .data, .handle, .sentinel, .sentinel, .wider, .pinned], laidTests := true, laidLooks := .later }
def LogStopsCardSaid : Prop := Claim7.holds Tryz.pinned (.plain (OpenSpec.ofChange logStopsSpec)) logStopsCard

/-- THE TIED CARD OF 'vennlaw4.LogClash'. -/
def logClashCard : Claim7 := { stood := { row := logClashRow, standIns := [], harness := (true, "28c4b64e86558bea5bbee51fd5de81da5299209317ed2e011e1bb4d28d9465c7"), looks := true }, kinds := [], alts := [], laidByText := true, laidKinds := [.data, .data, .data, .data, .handle, .sentinel, .sentinel, .wider, .pinned], laidTests := true, laidLooks := .later }
def LogClashCardSaid : Prop := Claim7.holds Tryz.pinned (.plain (OpenSpec.ofChange logClashSpec)) logClashCard

/-- THE TIED CARD OF 'vennlaw3.LogKeeps'. -/
def logKeepsCard : Claim7 := { stood := { row := logKeepsRow, standIns := [], harness := (true, "28c4b64e86558bea5bbee51fd5de81da5299209317ed2e011e1bb4d28d9465c7"), looks := true }, kinds := [], alts := [], laidByText := true, laidKinds := [.data, .data, .data, .data, .handle, .sentinel, .sentinel, .wider, .pinned], laidTests := true, laidLooks := .later }
def LogKeepsCardSaid : Prop := Claim7.holds Tryz.pinned (.plain (OpenSpec.ofChange logKeepsSpec)) logKeepsCard

/-- THE TIED CARD OF 'venntop.TopSaid'. -/
def topSaidCard : Claim7 := { stood := { row := topSaidRow, standIns := [], harness := (true, "28c4b64e86558bea5bbee51fd5de81da5299209317ed2e011e1bb4d28d9465c7"), looks := true }, kinds := [], alts := [], laidByText := true, laidKinds := [.data, .data, .data, .data, .handle, .sentinel, .sentinel, .wider, .data, .pinned], laidTests := true, laidLooks := .later }
def TopSaidCardSaid : Prop := Claim7.holds Tryz.pinned (.plain (OpenSpec.ofChange topSaidSpec)) topSaidCard

/-- THE SECOND FORM's CARD OF 'vennlaw3.LogStops'. -/
def logStopsUptoCard : Claim7 := { stood := { row := logStopsUptoRow, standIns := [], harness := (true, "28c4b64e86558bea5bbee51fd5de81da5299209317ed2e011e1bb4d28d9465c7"), looks := true }, kinds := [], alts := [], laidByText := true, laidKinds := [.data, .data, .data, .data, .handle, .sentinel, .sentinel, .wider, .pinned], laidTests := true, laidLooks := .later }
def LogStopsUptoCardSaid : Prop := Claim7.holds Tryz.pinned (.plain (OpenSpec.upto logStopsSpec)) logStopsUptoCard

/-- THE SECOND FORM's CARD OF 'vennlaw4.LogClash'. -/
def logClashUptoCard : Claim7 := { stood := { row := logClashUptoRow, standIns := [], harness := (true, "28c4b64e86558bea5bbee51fd5de81da5299209317ed2e011e1bb4d28d9465c7"), looks := true }, kinds := [], alts := [], laidByText := true, laidKinds := [.data, .data, .data, .data, .handle, .sentinel, .sentinel, .wider, .pinned], laidTests := true, laidLooks := .later }
def LogClashUptoCardSaid : Prop := Claim7.holds Tryz.pinned (.plain (OpenSpec.upto logClashSpec)) logClashUptoCard

/-- THE SECOND FORM's CARD OF 'vennlaw3.LogKeeps'. -/
def logKeepsUptoCard : Claim7 := { stood := { row := logKeepsUptoRow, standIns := [], harness := (true, "28c4b64e86558bea5bbee51fd5de81da5299209317ed2e011e1bb4d28d9465c7"), looks := true }, kinds := [], alts := [], laidByText := true, laidKinds := [.data, .data, .data, .data, .handle, .sentinel, .sentinel, .wider, .pinned], laidTests := true, laidLooks := .later }
def LogKeepsUptoCardSaid : Prop := Claim7.holds Tryz.pinned (.plain (OpenSpec.upto logKeepsSpec)) logKeepsUptoCard

/-- THE SECOND FORM's CARD OF 'venntop.TopSaid'. -/
def topSaidUptoCard : Claim7 := { stood := { row := topSaidUptoRow, standIns := [], harness := (true, "28c4b64e86558bea5bbee51fd5de81da5299209317ed2e011e1bb4d28d9465c7"), looks := true }, kinds := [], alts := [], laidByText := true, laidKinds := [.data, .data, .data, .data, .handle, .sentinel, .sentinel, .wider, .data, .pinned], laidTests := true, laidLooks := .later }
def TopSaidUptoCardSaid : Prop := Claim7.holds Tryz.pinned (.plain (OpenSpec.upto topSaidSpec)) topSaidUptoCard
end Rows
end Go.Proofs.YtjmeakkmfeoigaaGreatDoor
