/-
  DERIVED. GIVEN WITH THE SEED: THE CARDS: each row of YtenmheenieifpabDoorRows.lean that lists a variable, with what it lists TIED to the program's text (the seventh form; the later family's looks); each row that meets fmt, with fmt's text TOLD by the authors' own Lean function (tested against real Go, not proved from fmt's source: count such statements apart). THE CARD IS WHAT COUNTS. Prove the row's statement (the work); the ties are given (YtenmheenieifpabDoorTie.lean); close each card by the builder's one call (the guide's Derived/Test/ToyasCard.lean, 'card_holds'). Laid BY PROGRAM, IN A SANDBOX (cutbox-door.mjs). By AI agents, Wed Nov 11 2026. No macro, syntax, notation, axiom, sorry.
-/
import Derived.Test.YtenmheenieifpabDoorRows
import GoSem.ClaimSeven
namespace Go.Proofs.YtenmheenieifpabDoor
namespace Rows

/-- THE TIED CARD OF 'vennlaw4.TermTwice'. -/
def termTwiceCard : Claim7 := { stood := { row := termTwiceRow, standIns := [], harness := (true, "fef9bdd494bb0f7dc92fb45878785d60ef28a3c0ef1a70a95099f9ea73ae2f95"), looks := true }, kinds := [], alts := [], laidByText := true, laidKinds := [.handle], laidTests := true, laidLooks := .later }
def TermTwiceCardSaid : Prop := Claim7.holds Tryd.pinned (.plain (OpenSpec.ofChange termTwiceSpec)) termTwiceCard

/-- THE TIED CARD OF 'vennlaw4.AtomNone'. -/
def atomNoneCard : Claim7 := { stood := { row := atomNoneRow, standIns := [], harness := (true, "fef9bdd494bb0f7dc92fb45878785d60ef28a3c0ef1a70a95099f9ea73ae2f95"), looks := true }, kinds := [], alts := [], laidByText := true, laidKinds := [.wider], laidTests := true, laidLooks := .later }
def AtomNoneCardSaid : Prop := Claim7.holds Tryd.pinned (.plain (OpenSpec.ofChange atomNoneSpec)) atomNoneCard

/-- THE TIED CARD OF 'vennlaw1.FormTells'. -/
def formTellsCard : Claim7 := { stood := { row := formTellsRow, standIns := [], harness := (true, "fef9bdd494bb0f7dc92fb45878785d60ef28a3c0ef1a70a95099f9ea73ae2f95"), looks := true }, kinds := [], alts := [], laidByText := true, laidKinds := [.handle, .wider], laidTests := true, laidLooks := .later }
def FormTellsCardSaid : Prop := Claim7.holds Tryd.pinned (.plain (OpenSpec.ofChange formTellsSpec)) formTellsCard

/-- THE TIED CARD OF 'vennlaw1.FormTurns'. -/
def formTurnsCard : Claim7 := { stood := { row := formTurnsRow, standIns := [], harness := (true, "fef9bdd494bb0f7dc92fb45878785d60ef28a3c0ef1a70a95099f9ea73ae2f95"), looks := true }, kinds := [], alts := [], laidByText := true, laidKinds := [.wider], laidTests := true, laidLooks := .later }
def FormTurnsCardSaid : Prop := Claim7.holds Tryd.pinned (.plain (OpenSpec.ofChange formTurnsSpec)) formTurnsCard

/-- THE SECOND FORM's CARD OF 'vennlaw4.TermTwice'. -/
def termTwiceUptoCard : Claim7 := { stood := { row := termTwiceUptoRow, standIns := [], harness := (true, "fef9bdd494bb0f7dc92fb45878785d60ef28a3c0ef1a70a95099f9ea73ae2f95"), looks := true }, kinds := [], alts := [], laidByText := true, laidKinds := [.handle], laidTests := true, laidLooks := .later }
def TermTwiceUptoCardSaid : Prop := Claim7.holds Tryd.pinned (.plain (OpenSpec.upto termTwiceSpec)) termTwiceUptoCard

/-- THE SECOND FORM's CARD OF 'vennlaw4.AtomNone'. -/
def atomNoneUptoCard : Claim7 := { stood := { row := atomNoneUptoRow, standIns := [], harness := (true, "fef9bdd494bb0f7dc92fb45878785d60ef28a3c0ef1a70a95099f9ea73ae2f95"), looks := true }, kinds := [], alts := [], laidByText := true, laidKinds := [.wider], laidTests := true, laidLooks := .later }
def AtomNoneUptoCardSaid : Prop := Claim7.holds Tryd.pinned (.plain (OpenSpec.upto atomNoneSpec)) atomNoneUptoCard

/-- THE SECOND FORM's CARD OF 'vennlaw1.FormTells'. -/
def formTellsUptoCard : Claim7 := { stood := { row := formTellsUptoRow, standIns := [], harness := (true, "fef9bdd494bb0f7dc92fb45878785d60ef28a3c0ef1a70a95099f9ea73ae2f95"), looks := true }, kinds := [], alts := [], laidByText := true, laidKinds := [.handle, .wider], laidTests := true, laidLooks := .later }
def FormTellsUptoCardSaid : Prop := Claim7.holds Tryd.pinned (.plain (OpenSpec.upto formTellsSpec)) formTellsUptoCard

/-- THE SECOND FORM's CARD OF 'vennlaw1.FormTurns'. -/
def formTurnsUptoCard : Claim7 := { stood := { row := formTurnsUptoRow, standIns := [], harness := (true, "fef9bdd494bb0f7dc92fb45878785d60ef28a3c0ef1a70a95099f9ea73ae2f95"), looks := true }, kinds := [], alts := [], laidByText := true, laidKinds := [.wider], laidTests := true, laidLooks := .later }
def FormTurnsUptoCardSaid : Prop := Claim7.holds Tryd.pinned (.plain (OpenSpec.upto formTurnsSpec)) formTurnsUptoCard
end Rows
end Go.Proofs.YtenmheenieifpabDoor
