/-
  DERIVED. GIVEN WITH THE SEED: THE CARDS: each row of YtjaedfjfcghgcaaDoorRows.lean that lists a variable, with what it lists TIED to the program's text (the seventh form; the later family's looks); each row that meets fmt, with fmt's text TOLD by the authors' own Lean function (tested against real Go, not proved from fmt's source: count such statements apart). THE CARD IS WHAT COUNTS. Prove the row's statement (the work); the ties are given (YtjaedfjfcghgcaaDoorTie.lean); close each card by the builder's one call (the guide's Derived/Test/ToyasCard.lean, 'card_holds'). Laid BY PROGRAM, IN A SANDBOX (cutbox-door.mjs). By AI agents, Wed Nov 11 2026. No macro, syntax, notation, axiom, sorry.
-/
import Derived.Test.YtjaedfjfcghgcaaDoorRows
import GoSem.ClaimSeven
namespace Go.Proofs.YtjaedfjfcghgcaaDoor
namespace Rows

/-- THE TIED CARD OF 'vennlaw2.CoreTells'. -/
def coreTellsCard : Claim7 := { stood := { row := coreTellsRow, standIns := [], harness := (true, "ec0a75ebcf278557431836aadf4bf28fe3f164eb4ad39dd903a295ea89489b04"), looks := true }, kinds := [], alts := [], laidByText := true, laidKinds := [.handle, .wider], laidTests := true, laidLooks := .later }
def CoreTellsCardSaid : Prop := Claim7.holds Tryd.pinned (.plain (OpenSpec.ofChange coreTellsSpec)) coreTellsCard

/-- THE TIED CARD OF 'vennlaw2.CoreEnough'. -/
def coreEnoughCard : Claim7 := { stood := { row := coreEnoughRow, standIns := [], harness := (true, "ec0a75ebcf278557431836aadf4bf28fe3f164eb4ad39dd903a295ea89489b04"), looks := true }, kinds := [], alts := [], laidByText := true, laidKinds := [.handle, .wider], laidTests := true, laidLooks := .later }
def CoreEnoughCardSaid : Prop := Claim7.holds Tryd.pinned (.plain (OpenSpec.ofChange coreEnoughSpec)) coreEnoughCard

/-- THE TIED CARD OF 'vennlaw4.CoreAlone'. -/
def coreAloneCard : Claim7 := { stood := { row := coreAloneRow, standIns := [], harness := (true, "ec0a75ebcf278557431836aadf4bf28fe3f164eb4ad39dd903a295ea89489b04"), looks := true }, kinds := [], alts := [], laidByText := true, laidKinds := [.wider], laidTests := true, laidLooks := .later }
def CoreAloneCardSaid : Prop := Claim7.holds Tryd.pinned (.plain (OpenSpec.ofChange coreAloneSpec)) coreAloneCard

/-- THE TIED CARD OF 'vennlaw2.AskTells'. -/
def askTellsCard : Claim7 := { stood := { row := askTellsRow, standIns := [], harness := (true, "ec0a75ebcf278557431836aadf4bf28fe3f164eb4ad39dd903a295ea89489b04"), looks := true }, kinds := [], alts := [], laidByText := true, laidKinds := [.handle, .wider], laidTests := true, laidLooks := .later }
def AskTellsCardSaid : Prop := Claim7.holds Tryd.pinned (.plain (OpenSpec.ofChange askTellsSpec)) askTellsCard

/-- THE TIED CARD OF 'vennlaw2.AskFollows'. -/
def askFollowsCard : Claim7 := { stood := { row := askFollowsRow, standIns := [], harness := (true, "ec0a75ebcf278557431836aadf4bf28fe3f164eb4ad39dd903a295ea89489b04"), looks := true }, kinds := [], alts := [], laidByText := true, laidKinds := [.wider], laidTests := true, laidLooks := .later }
def AskFollowsCardSaid : Prop := Claim7.holds Tryd.pinned (.plain (OpenSpec.ofChange askFollowsSpec)) askFollowsCard

/-- THE TIED CARD OF 'vennlaw4.AskMany'. -/
def askManyCard : Claim7 := { stood := { row := askManyRow, standIns := [], harness := (true, "ec0a75ebcf278557431836aadf4bf28fe3f164eb4ad39dd903a295ea89489b04"), looks := true }, kinds := [], alts := [], laidByText := true, laidKinds := [.wider], laidTests := true, laidLooks := .later }
def AskManyCardSaid : Prop := Claim7.holds Tryd.pinned (.plain (OpenSpec.ofChange askManySpec)) askManyCard

/-- THE SECOND FORM's CARD OF 'vennlaw2.CoreTells'. -/
def coreTellsUptoCard : Claim7 := { stood := { row := coreTellsUptoRow, standIns := [], harness := (true, "ec0a75ebcf278557431836aadf4bf28fe3f164eb4ad39dd903a295ea89489b04"), looks := true }, kinds := [], alts := [], laidByText := true, laidKinds := [.handle, .wider], laidTests := true, laidLooks := .later }
def CoreTellsUptoCardSaid : Prop := Claim7.holds Tryd.pinned (.plain (OpenSpec.upto coreTellsSpec)) coreTellsUptoCard

/-- THE SECOND FORM's CARD OF 'vennlaw2.CoreEnough'. -/
def coreEnoughUptoCard : Claim7 := { stood := { row := coreEnoughUptoRow, standIns := [], harness := (true, "ec0a75ebcf278557431836aadf4bf28fe3f164eb4ad39dd903a295ea89489b04"), looks := true }, kinds := [], alts := [], laidByText := true, laidKinds := [.handle, .wider], laidTests := true, laidLooks := .later }
def CoreEnoughUptoCardSaid : Prop := Claim7.holds Tryd.pinned (.plain (OpenSpec.upto coreEnoughSpec)) coreEnoughUptoCard

/-- THE SECOND FORM's CARD OF 'vennlaw4.CoreAlone'. -/
def coreAloneUptoCard : Claim7 := { stood := { row := coreAloneUptoRow, standIns := [], harness := (true, "ec0a75ebcf278557431836aadf4bf28fe3f164eb4ad39dd903a295ea89489b04"), looks := true }, kinds := [], alts := [], laidByText := true, laidKinds := [.wider], laidTests := true, laidLooks := .later }
def CoreAloneUptoCardSaid : Prop := Claim7.holds Tryd.pinned (.plain (OpenSpec.upto coreAloneSpec)) coreAloneUptoCard

/-- THE SECOND FORM's CARD OF 'vennlaw2.AskTells'. -/
def askTellsUptoCard : Claim7 := { stood := { row := askTellsUptoRow, standIns := [], harness := (true, "ec0a75ebcf278557431836aadf4bf28fe3f164eb4ad39dd903a295ea89489b04"), looks := true }, kinds := [], alts := [], laidByText := true, laidKinds := [.handle, .wider], laidTests := true, laidLooks := .later }
def AskTellsUptoCardSaid : Prop := Claim7.holds Tryd.pinned (.plain (OpenSpec.upto askTellsSpec)) askTellsUptoCard

/-- THE SECOND FORM's CARD OF 'vennlaw2.AskFollows'. -/
def askFollowsUptoCard : Claim7 := { stood := { row := askFollowsUptoRow, standIns := [], harness := (true, "ec0a75ebcf278557431836aadf4bf28fe3f164eb4ad39dd903a295ea89489b04"), looks := true }, kinds := [], alts := [], laidByText := true, laidKinds := [.wider], laidTests := true, laidLooks := .later }
def AskFollowsUptoCardSaid : Prop := Claim7.holds Tryd.pinned (.plain (OpenSpec.upto askFollowsSpec)) askFollowsUptoCard

/-- THE SECOND FORM's CARD OF 'vennlaw4.AskMany'. -/
def askManyUptoCard : Claim7 := { stood := { row := askManyUptoRow, standIns := [], harness := (true, "ec0a75ebcf278557431836aadf4bf28fe3f164eb4ad39dd903a295ea89489b04"), looks := true }, kinds := [], alts := [], laidByText := true, laidKinds := [.wider], laidTests := true, laidLooks := .later }
def AskManyUptoCardSaid : Prop := Claim7.holds Tryd.pinned (.plain (OpenSpec.upto askManySpec)) askManyUptoCard
end Rows
end Go.Proofs.YtjaedfjfcghgcaaDoor
