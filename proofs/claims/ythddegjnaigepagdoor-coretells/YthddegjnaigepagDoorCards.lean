/-
  DERIVED. GIVEN WITH THE SEED: THE CARDS: each row of YthddegjnaigepagDoorRows.lean that lists a variable, with what it lists TIED to the program's text (the seventh form; the later family's looks); each row that meets fmt, with fmt's text TOLD by the authors' own Lean function (tested against real Go, not proved from fmt's source: count such statements apart). THE CARD IS WHAT COUNTS. Prove the row's statement (the work); the ties are given (YthddegjnaigepagDoorTie.lean); close each card by the builder's one call (the guide's Derived/Test/ToyasCard.lean, 'card_holds'). Laid BY PROGRAM, IN A SANDBOX (cutbox-door.mjs). By AI agents, Wed Nov 11 2026. No macro, syntax, notation, axiom, sorry.
-/
import Derived.Test.YthddegjnaigepagDoorRows
import GoSem.ClaimSeven
namespace Go.Proofs.YthddegjnaigepagDoor
namespace Rows

/-- THE TIED CARD OF 'vennlaw2.CoreTells'. -/
def coreTellsCard : Claim7 := { stood := { row := coreTellsRow, standIns := [], harness := (true, "1a5227ab9eda0eaac7374bb8d43405de42067514bb221004570a476b4c6af4d6"), looks := true }, kinds := [], alts := [], laidByText := true, laidKinds := [.handle, .wider], laidTests := true, laidLooks := .later }
def CoreTellsCardSaid : Prop := Claim7.holds Tryd.pinned (.plain (OpenSpec.ofChange coreTellsSpec)) coreTellsCard

/-- THE TIED CARD OF 'vennlaw2.CoreEnough'. -/
def coreEnoughCard : Claim7 := { stood := { row := coreEnoughRow, standIns := [], harness := (true, "1a5227ab9eda0eaac7374bb8d43405de42067514bb221004570a476b4c6af4d6"), looks := true }, kinds := [], alts := [], laidByText := true, laidKinds := [.handle, .wider], laidTests := true, laidLooks := .later }
def CoreEnoughCardSaid : Prop := Claim7.holds Tryd.pinned (.plain (OpenSpec.ofChange coreEnoughSpec)) coreEnoughCard

/-- THE TIED CARD OF 'vennlaw4.CoreAlone'. -/
def coreAloneCard : Claim7 := { stood := { row := coreAloneRow, standIns := [], harness := (true, "1a5227ab9eda0eaac7374bb8d43405de42067514bb221004570a476b4c6af4d6"), looks := true }, kinds := [], alts := [], laidByText := true, laidKinds := [.wider], laidTests := true, laidLooks := .later }
def CoreAloneCardSaid : Prop := Claim7.holds Tryd.pinned (.plain (OpenSpec.ofChange coreAloneSpec)) coreAloneCard

/-- THE SECOND FORM's CARD OF 'vennlaw2.CoreTells'. -/
def coreTellsUptoCard : Claim7 := { stood := { row := coreTellsUptoRow, standIns := [], harness := (true, "1a5227ab9eda0eaac7374bb8d43405de42067514bb221004570a476b4c6af4d6"), looks := true }, kinds := [], alts := [], laidByText := true, laidKinds := [.handle, .wider], laidTests := true, laidLooks := .later }
def CoreTellsUptoCardSaid : Prop := Claim7.holds Tryd.pinned (.plain (OpenSpec.upto coreTellsSpec)) coreTellsUptoCard

/-- THE SECOND FORM's CARD OF 'vennlaw2.CoreEnough'. -/
def coreEnoughUptoCard : Claim7 := { stood := { row := coreEnoughUptoRow, standIns := [], harness := (true, "1a5227ab9eda0eaac7374bb8d43405de42067514bb221004570a476b4c6af4d6"), looks := true }, kinds := [], alts := [], laidByText := true, laidKinds := [.handle, .wider], laidTests := true, laidLooks := .later }
def CoreEnoughUptoCardSaid : Prop := Claim7.holds Tryd.pinned (.plain (OpenSpec.upto coreEnoughSpec)) coreEnoughUptoCard

/-- THE SECOND FORM's CARD OF 'vennlaw4.CoreAlone'. -/
def coreAloneUptoCard : Claim7 := { stood := { row := coreAloneUptoRow, standIns := [], harness := (true, "1a5227ab9eda0eaac7374bb8d43405de42067514bb221004570a476b4c6af4d6"), looks := true }, kinds := [], alts := [], laidByText := true, laidKinds := [.wider], laidTests := true, laidLooks := .later }
def CoreAloneUptoCardSaid : Prop := Claim7.holds Tryd.pinned (.plain (OpenSpec.upto coreAloneSpec)) coreAloneUptoCard
end Rows
end Go.Proofs.YthddegjnaigepagDoor
