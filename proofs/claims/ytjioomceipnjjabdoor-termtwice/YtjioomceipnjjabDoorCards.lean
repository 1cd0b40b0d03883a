/-
  DERIVED. GIVEN WITH THE SEED: THE CARDS: each row of YtjioomceipnjjabDoorRows.lean that lists a variable, with what it lists TIED to the program's text (the seventh form; the later family's looks); each row that meets fmt, with fmt's text TOLD by the authors' own Lean function (tested against real Go, not proved from fmt's source: count such statements apart). THE CARD IS WHAT COUNTS. Prove the row's statement (the work); the ties are given (YtjioomceipnjjabDoorTie.lean); close each card by the builder's one call (the guide's Derived/Test/ToyasCard.lean, 'card_holds'). Laid BY PROGRAM, IN A SANDBOX (cutbox-door.mjs). By AI agents, Wed Nov 11 2026. No macro, syntax, notation, axiom, sorry.
-/
import Derived.Test.YtjioomceipnjjabDoorRows
import GoSem.ClaimSeven
namespace Go.Proofs.YtjioomceipnjjabDoor
namespace Rows

/-- THE TIED CARD OF 'vennlaw4.TermTwice'. -/
def termTwiceCard : Claim7 := { stood := { row := termTwiceRow, standIns := [], harness := (true, "dbd18fc877e57aef868cdf146312ab34efb95ce44d6a2924e47ce5ee84ef4d5c"), looks := true }, kinds := [], alts := [], laidByText := true, laidKinds := [.handle], laidTests := true, laidLooks := .later }
def TermTwiceCardSaid : Prop := Claim7.holds Tryd.pinned (.plain (OpenSpec.ofChange termTwiceSpec)) termTwiceCard

/-- THE TIED CARD OF 'vennlaw4.AtomNone'. -/
def atomNoneCard : Claim7 := { stood := { row := atomNoneRow, standIns := [], harness := (true, "dbd18fc877e57aef868cdf146312ab34efb95ce44d6a2924e47ce5ee84ef4d5c"), looks := true }, kinds := [], alts := [], laidByText := true, laidKinds := [.wider], laidTests := true, laidLooks := .later }
def AtomNoneCardSaid : Prop := Claim7.holds Tryd.pinned (.plain (OpenSpec.ofChange atomNoneSpec)) atomNoneCard

/-- THE SECOND FORM's CARD OF 'vennlaw4.TermTwice'. -/
def termTwiceUptoCard : Claim7 := { stood := { row := termTwiceUptoRow, standIns := [], harness := (true, "dbd18fc877e57aef868cdf146312ab34efb95ce44d6a2924e47ce5ee84ef4d5c"), looks := true }, kinds := [], alts := [], laidByText := true, laidKinds := [.handle], laidTests := true, laidLooks := .later }
def TermTwiceUptoCardSaid : Prop := Claim7.holds Tryd.pinned (.plain (OpenSpec.upto termTwiceSpec)) termTwiceUptoCard

/-- THE SECOND FORM's CARD OF 'vennlaw4.AtomNone'. -/
def atomNoneUptoCard : Claim7 := { stood := { row := atomNoneUptoRow, standIns := [], harness := (true, "dbd18fc877e57aef868cdf146312ab34efb95ce44d6a2924e47ce5ee84ef4d5c"), looks := true }, kinds := [], alts := [], laidByText := true, laidKinds := [.wider], laidTests := true, laidLooks := .later }
def AtomNoneUptoCardSaid : Prop := Claim7.holds Tryd.pinned (.plain (OpenSpec.upto atomNoneSpec)) atomNoneUptoCard
end Rows
end Go.Proofs.YtjioomceipnjjabDoor
