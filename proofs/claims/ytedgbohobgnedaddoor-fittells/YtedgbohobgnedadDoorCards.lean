/-
  DERIVED. GIVEN WITH THE SEED: THE CARDS: each row of YtedgbohobgnedadDoorRows.lean that lists a variable, with what it lists TIED to the program's text (the seventh form; the later family's looks); each row that meets fmt, with fmt's text TOLD by the authors' own Lean function (tested against real Go, not proved from fmt's source: count such statements apart). THE CARD IS WHAT COUNTS. Prove the row's statement (the work); the ties are given (YtedgbohobgnedadDoorTie.lean); close each card by the builder's one call (the guide's Derived/Test/ToyasCard.lean, 'card_holds'). Laid BY PROGRAM, IN A SANDBOX (cutbox-door.mjs). By AI agents, Wed Nov 11 2026. No macro, syntax, notation, axiom, sorry.
-/
import Derived.Test.YtedgbohobgnedadDoorRows
import GoSem.ClaimSeven
namespace Go.Proofs.YtedgbohobgnedadDoor
namespace Rows

/-- THE TIED CARD OF 'vennlaw1.RowsTell'. -/
def rowsTellCard : Claim7 := { stood := { row := rowsTellRow, standIns := [], harness := (true, "b6e1a903ca72a86c08c0af4b9af4da17e727b704d44483584859c7d0b8c47aa5"), looks := true }, kinds := [], alts := [], laidByText := true, laidKinds := [.handle, .wider, .data], laidTests := true, laidLooks := .later }
def RowsTellCardSaid : Prop := Claim7.holds Tryd.pinned (.plain (OpenSpec.ofChange rowsTellSpec)) rowsTellCard

/-- THE TIED CARD OF 'vennlaw1.RowsSay'. -/
def rowsSayCard : Claim7 := { stood := { row := rowsSayRow, standIns := [], harness := (true, "b6e1a903ca72a86c08c0af4b9af4da17e727b704d44483584859c7d0b8c47aa5"), looks := true }, kinds := [], alts := [], laidByText := true, laidKinds := [.wider, .data], laidTests := true, laidLooks := .later }
def RowsSayCardSaid : Prop := Claim7.holds Tryd.pinned (.plain (OpenSpec.ofChange rowsSaySpec)) rowsSayCard

/-- THE TIED CARD OF 'vennlaw4.RowsNot'. -/
def rowsNotCard : Claim7 := { stood := { row := rowsNotRow, standIns := [], harness := (true, "b6e1a903ca72a86c08c0af4b9af4da17e727b704d44483584859c7d0b8c47aa5"), looks := true }, kinds := [], alts := [], laidByText := true, laidKinds := [.wider, .data], laidTests := true, laidLooks := .later }
def RowsNotCardSaid : Prop := Claim7.holds Tryd.pinned (.plain (OpenSpec.ofChange rowsNotSpec)) rowsNotCard

/-- THE TIED CARD OF 'vennlaw1.FitTells'. -/
def fitTellsCard : Claim7 := { stood := { row := fitTellsRow, standIns := [], harness := (true, "b6e1a903ca72a86c08c0af4b9af4da17e727b704d44483584859c7d0b8c47aa5"), looks := true }, kinds := [], alts := [], laidByText := true, laidKinds := [.handle], laidTests := true, laidLooks := .later }
def FitTellsCardSaid : Prop := Claim7.holds Tryd.pinned (.plain (OpenSpec.ofChange fitTellsSpec)) fitTellsCard

/-- THE TIED CARD OF 'vennlaw1.FitLeast'. -/
def fitLeastCard : Claim7 := { stood := { row := fitLeastRow, standIns := [], harness := (true, "b6e1a903ca72a86c08c0af4b9af4da17e727b704d44483584859c7d0b8c47aa5"), looks := true }, kinds := [], alts := [], laidByText := true, laidKinds := [.handle], laidTests := true, laidLooks := .later }
def FitLeastCardSaid : Prop := Claim7.holds Tryd.pinned (.plain (OpenSpec.ofChange fitLeastSpec)) fitLeastCard

/-- THE SECOND FORM's CARD OF 'vennlaw1.RowsTell'. -/
def rowsTellUptoCard : Claim7 := { stood := { row := rowsTellUptoRow, standIns := [], harness := (true, "b6e1a903ca72a86c08c0af4b9af4da17e727b704d44483584859c7d0b8c47aa5"), looks := true }, kinds := [], alts := [], laidByText := true, laidKinds := [.handle, .wider, .data], laidTests := true, laidLooks := .later }
def RowsTellUptoCardSaid : Prop := Claim7.holds Tryd.pinned (.plain (OpenSpec.upto rowsTellSpec)) rowsTellUptoCard

/-- THE SECOND FORM's CARD OF 'vennlaw1.RowsSay'. -/
def rowsSayUptoCard : Claim7 := { stood := { row := rowsSayUptoRow, standIns := [], harness := (true, "b6e1a903ca72a86c08c0af4b9af4da17e727b704d44483584859c7d0b8c47aa5"), looks := true }, kinds := [], alts := [], laidByText := true, laidKinds := [.wider, .data], laidTests := true, laidLooks := .later }
def RowsSayUptoCardSaid : Prop := Claim7.holds Tryd.pinned (.plain (OpenSpec.upto rowsSaySpec)) rowsSayUptoCard

/-- THE SECOND FORM's CARD OF 'vennlaw4.RowsNot'. -/
def rowsNotUptoCard : Claim7 := { stood := { row := rowsNotUptoRow, standIns := [], harness := (true, "b6e1a903ca72a86c08c0af4b9af4da17e727b704d44483584859c7d0b8c47aa5"), looks := true }, kinds := [], alts := [], laidByText := true, laidKinds := [.wider, .data], laidTests := true, laidLooks := .later }
def RowsNotUptoCardSaid : Prop := Claim7.holds Tryd.pinned (.plain (OpenSpec.upto rowsNotSpec)) rowsNotUptoCard

/-- THE SECOND FORM's CARD OF 'vennlaw1.FitTells'. -/
def fitTellsUptoCard : Claim7 := { stood := { row := fitTellsUptoRow, standIns := [], harness := (true, "b6e1a903ca72a86c08c0af4b9af4da17e727b704d44483584859c7d0b8c47aa5"), looks := true }, kinds := [], alts := [], laidByText := true, laidKinds := [.handle], laidTests := true, laidLooks := .later }
def FitTellsUptoCardSaid : Prop := Claim7.holds Tryd.pinned (.plain (OpenSpec.upto fitTellsSpec)) fitTellsUptoCard

/-- THE SECOND FORM's CARD OF 'vennlaw1.FitLeast'. -/
def fitLeastUptoCard : Claim7 := { stood := { row := fitLeastUptoRow, standIns := [], harness := (true, "b6e1a903ca72a86c08c0af4b9af4da17e727b704d44483584859c7d0b8c47aa5"), looks := true }, kinds := [], alts := [], laidByText := true, laidKinds := [.handle], laidTests := true, laidLooks := .later }
def FitLeastUptoCardSaid : Prop := Claim7.holds Tryd.pinned (.plain (OpenSpec.upto fitLeastSpec)) fitLeastUptoCard
end Rows
end Go.Proofs.YtedgbohobgnedadDoor
