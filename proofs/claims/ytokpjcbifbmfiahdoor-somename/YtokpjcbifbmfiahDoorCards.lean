/-
  DERIVED. GIVEN WITH THE SEED: THE CARDS: each row of YtokpjcbifbmfiahDoorRows.lean that lists a variable, with what it lists TIED to the program's text (the seventh form; the later family's looks); each row that meets fmt, with fmt's text TOLD by the authors' own Lean function (tested against real Go, not proved from fmt's source: count such statements apart). THE CARD IS WHAT COUNTS. Prove the row's statement (the work); the ties are given (YtokpjcbifbmfiahDoorTie.lean); close each card by the builder's one call (the guide's Derived/Test/ToyasCard.lean, 'card_holds'). Laid BY PROGRAM, IN A SANDBOX (cutbox-door.mjs). By AI agents, Wed Nov 11 2026. No macro, syntax, notation, axiom, sorry.
-/
import Derived.Test.YtokpjcbifbmfiahDoorRows
import GoSem.ClaimSeven
namespace Go.Proofs.YtokpjcbifbmfiahDoor
namespace Rows

/-- THE TIED CARD OF 'vennlaw4.SpanAll'. -/
def spanAllCard : Claim7 := { stood := { row := spanAllRow, standIns := [], harness := (true, "0cf87966f2d3cf5104a062723d8b8225c8c1c9294b17bb3b138af177171ad2fa"), looks := true }, kinds := [], alts := [], laidByText := true, laidKinds := [.wider], laidTests := true, laidLooks := .later }
def SpanAllCardSaid : Prop := Claim7.holds Tryd.pinned (.plain (OpenSpec.ofChange spanAllSpec)) spanAllCard

/-- THE TIED CARD OF 'vennlaw2.SomeTells'. -/
def someTellsCard : Claim7 := { stood := { row := someTellsRow, standIns := [], harness := (true, "0cf87966f2d3cf5104a062723d8b8225c8c1c9294b17bb3b138af177171ad2fa"), looks := true }, kinds := [], alts := [], laidByText := true, laidKinds := [.handle, .wider], laidTests := true, laidLooks := .later }
def SomeTellsCardSaid : Prop := Claim7.holds Tryd.pinned (.plain (OpenSpec.ofChange someTellsSpec)) someTellsCard

/-- THE TIED CARD OF 'vennlaw2.SomeEach'. -/
def someEachCard : Claim7 := { stood := { row := someEachRow, standIns := [], harness := (true, "0cf87966f2d3cf5104a062723d8b8225c8c1c9294b17bb3b138af177171ad2fa"), looks := true }, kinds := [], alts := [], laidByText := true, laidKinds := [.handle, .wider], laidTests := true, laidLooks := .later }
def SomeEachCardSaid : Prop := Claim7.holds Tryd.pinned (.plain (OpenSpec.ofChange someEachSpec)) someEachCard

/-- THE TIED CARD OF 'vennlaw4.SomeName'. -/
def someNameCard : Claim7 := { stood := { row := someNameRow, standIns := [], harness := (true, "0cf87966f2d3cf5104a062723d8b8225c8c1c9294b17bb3b138af177171ad2fa"), looks := true }, kinds := [], alts := [], laidByText := true, laidKinds := [.wider], laidTests := true, laidLooks := .later }
def SomeNameCardSaid : Prop := Claim7.holds Tryd.pinned (.plain (OpenSpec.ofChange someNameSpec)) someNameCard

/-- THE SECOND FORM's CARD OF 'vennlaw4.SpanAll'. -/
def spanAllUptoCard : Claim7 := { stood := { row := spanAllUptoRow, standIns := [], harness := (true, "0cf87966f2d3cf5104a062723d8b8225c8c1c9294b17bb3b138af177171ad2fa"), looks := true }, kinds := [], alts := [], laidByText := true, laidKinds := [.wider], laidTests := true, laidLooks := .later }
def SpanAllUptoCardSaid : Prop := Claim7.holds Tryd.pinned (.plain (OpenSpec.upto spanAllSpec)) spanAllUptoCard

/-- THE SECOND FORM's CARD OF 'vennlaw2.SomeTells'. -/
def someTellsUptoCard : Claim7 := { stood := { row := someTellsUptoRow, standIns := [], harness := (true, "0cf87966f2d3cf5104a062723d8b8225c8c1c9294b17bb3b138af177171ad2fa"), looks := true }, kinds := [], alts := [], laidByText := true, laidKinds := [.handle, .wider], laidTests := true, laidLooks := .later }
def SomeTellsUptoCardSaid : Prop := Claim7.holds Tryd.pinned (.plain (OpenSpec.upto someTellsSpec)) someTellsUptoCard

/-- THE SECOND FORM's CARD OF 'vennlaw2.SomeEach'. -/
def someEachUptoCard : Claim7 := { stood := { row := someEachUptoRow, standIns := [], harness := (true, "0cf87966f2d3cf5104a062723d8b8225c8c1c9294b17bb3b138af177171ad2fa"), looks := true }, kinds := [], alts := [], laidByText := true, laidKinds := [.handle, .wider], laidTests := true, laidLooks := .later }
def SomeEachUptoCardSaid : Prop := Claim7.holds Tryd.pinned (.plain (OpenSpec.upto someEachSpec)) someEachUptoCard

/-- THE SECOND FORM's CARD OF 'vennlaw4.SomeName'. -/
def someNameUptoCard : Claim7 := { stood := { row := someNameUptoRow, standIns := [], harness := (true, "0cf87966f2d3cf5104a062723d8b8225c8c1c9294b17bb3b138af177171ad2fa"), looks := true }, kinds := [], alts := [], laidByText := true, laidKinds := [.wider], laidTests := true, laidLooks := .later }
def SomeNameUptoCardSaid : Prop := Claim7.holds Tryd.pinned (.plain (OpenSpec.upto someNameSpec)) someNameUptoCard
end Rows
end Go.Proofs.YtokpjcbifbmfiahDoor
