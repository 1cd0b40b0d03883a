/-
  DERIVED. GIVEN WITH THE SEED: THE CARDS: each row of YtffinkgfdmheeadDoorRows.lean that lists a variable, with what it lists TIED to the program's text (the seventh form; the later family's looks); each row that meets fmt, with fmt's text TOLD by the authors' own Lean function (tested against real Go, not proved from fmt's source: count such statements apart). THE CARD IS WHAT COUNTS. Prove the row's statement (the work); the ties are given (YtffinkgfdmheeadDoorTie.lean); close each card by the builder's one call (the guide's Derived/Test/ToyasCard.lean, 'card_holds'). Laid BY PROGRAM, IN A SANDBOX (cutbox-door.mjs). By AI agents, Wed Nov 11 2026. No macro, syntax, notation, axiom, sorry.
-/
import Derived.Test.YtffinkgfdmheeadDoorRows
import GoSem.ClaimSeven
namespace Go.Proofs.YtffinkgfdmheeadDoor
namespace Rows

/-- THE TIED CARD OF 'vennlaw1.RowsTell'. -/
def rowsTellCard : Claim7 := { stood := { row := rowsTellRow, standIns := [], harness := (true, "cbaff8f5af2e8d27a540475dfbd799e1f6e7b851456ac52930d12f3f006a35e8"), looks := true }, kinds := [], alts := [], laidByText := true, laidKinds := [.handle, .wider, .data], laidTests := true, laidLooks := .later }
def RowsTellCardSaid : Prop := Claim7.holds Tryd.pinned (.plain (OpenSpec.ofChange rowsTellSpec)) rowsTellCard

/-- THE TIED CARD OF 'vennlaw1.RowsSay'. -/
def rowsSayCard : Claim7 := { stood := { row := rowsSayRow, standIns := [], harness := (true, "cbaff8f5af2e8d27a540475dfbd799e1f6e7b851456ac52930d12f3f006a35e8"), looks := true }, kinds := [], alts := [], laidByText := true, laidKinds := [.wider, .data], laidTests := true, laidLooks := .later }
def RowsSayCardSaid : Prop := Claim7.holds Tryd.pinned (.plain (OpenSpec.ofChange rowsSaySpec)) rowsSayCard

/-- THE TIED CARD OF 'vennlaw4.RowsNot'. -/
def rowsNotCard : Claim7 := { stood := { row := rowsNotRow, standIns := [], harness := (true, "cbaff8f5af2e8d27a540475dfbd799e1f6e7b851456ac52930d12f3f006a35e8"), looks := true }, kinds := [], alts := [], laidByText := true, laidKinds := [.wider, .data], laidTests := true, laidLooks := .later }
def RowsNotCardSaid : Prop := Claim7.holds Tryd.pinned (.plain (OpenSpec.ofChange rowsNotSpec)) rowsNotCard

/-- THE SECOND FORM's CARD OF 'vennlaw1.RowsTell'. -/
def rowsTellUptoCard : Claim7 := { stood := { row := rowsTellUptoRow, standIns := [], harness := (true, "cbaff8f5af2e8d27a540475dfbd799e1f6e7b851456ac52930d12f3f006a35e8"), looks := true }, kinds := [], alts := [], laidByText := true, laidKinds := [.handle, .wider, .data], laidTests := true, laidLooks := .later }
def RowsTellUptoCardSaid : Prop := Claim7.holds Tryd.pinned (.plain (OpenSpec.upto rowsTellSpec)) rowsTellUptoCard

/-- THE SECOND FORM's CARD OF 'vennlaw1.RowsSay'. -/
def rowsSayUptoCard : Claim7 := { stood := { row := rowsSayUptoRow, standIns := [], harness := (true, "cbaff8f5af2e8d27a540475dfbd799e1f6e7b851456ac52930d12f3f006a35e8"), looks := true }, kinds := [], alts := [], laidByText := true, laidKinds := [.wider, .data], laidTests := true, laidLooks := .later }
def RowsSayUptoCardSaid : Prop := Claim7.holds Tryd.pinned (.plain (OpenSpec.upto rowsSaySpec)) rowsSayUptoCard

/-- THE SECOND FORM's CARD OF 'vennlaw4.RowsNot'. -/
def rowsNotUptoCard : Claim7 := { stood := { row := rowsNotUptoRow, standIns := [], harness := (true, "cbaff8f5af2e8d27a540475dfbd799e1f6e7b851456ac52930d12f3f006a35e8"), looks := true }, kinds := [], alts := [], laidByText := true, laidKinds := [.wider, .data], laidTests := true, laidLooks := .later }
def RowsNotUptoCardSaid : Prop := Claim7.holds Tryd.pinned (.plain (OpenSpec.upto rowsNotSpec)) rowsNotUptoCard
end Rows
end Go.Proofs.YtffinkgfdmheeadDoor
