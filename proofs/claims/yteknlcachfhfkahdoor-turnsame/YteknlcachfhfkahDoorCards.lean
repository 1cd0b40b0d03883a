/-
  DERIVED. GIVEN WITH THE SEED: THE CARDS: each row of YteknlcachfhfkahDoorRows.lean that lists a variable, with what it lists TIED to the program's text (the seventh form; the later family's looks); each row that meets fmt, with fmt's text TOLD by the authors' own Lean function (tested against real Go, not proved from fmt's source: count such statements apart). THE CARD IS WHAT COUNTS. Prove the row's statement (the work); the ties are given (YteknlcachfhfkahDoorTie.lean); close each card by the builder's one call (the guide's Derived/Test/ToyasCard.lean, 'card_holds'). Laid BY PROGRAM, IN A SANDBOX (cutbox-door.mjs). By AI agents, Wed Nov 11 2026. No macro, syntax, notation, axiom, sorry.
-/
import Derived.Test.YteknlcachfhfkahDoorRows
import GoSem.ClaimSeven
namespace Go.Proofs.YteknlcachfhfkahDoor
namespace Rows

/-- THE TIED CARD OF 'vennlaw4.SpanAll'. -/
def spanAllCard : Claim7 := { stood := { row := spanAllRow, standIns := [], harness := (true, "1789123feb7e15bea2a2146dad2a1e7c9ae56e0124c721041ca0801b044bd36b"), looks := true }, kinds := [], alts := [], laidByText := true, laidKinds := [.wider], laidTests := true, laidLooks := .later }
def SpanAllCardSaid : Prop := Claim7.holds Tryd.pinned (.plain (OpenSpec.ofChange spanAllSpec)) spanAllCard

/-- THE TIED CARD OF 'vennlaw2.SomeTells'. -/
def someTellsCard : Claim7 := { stood := { row := someTellsRow, standIns := [], harness := (true, "1789123feb7e15bea2a2146dad2a1e7c9ae56e0124c721041ca0801b044bd36b"), looks := true }, kinds := [], alts := [], laidByText := true, laidKinds := [.handle, .wider], laidTests := true, laidLooks := .later }
def SomeTellsCardSaid : Prop := Claim7.holds Tryd.pinned (.plain (OpenSpec.ofChange someTellsSpec)) someTellsCard

/-- THE TIED CARD OF 'vennlaw2.SomeEach'. -/
def someEachCard : Claim7 := { stood := { row := someEachRow, standIns := [], harness := (true, "1789123feb7e15bea2a2146dad2a1e7c9ae56e0124c721041ca0801b044bd36b"), looks := true }, kinds := [], alts := [], laidByText := true, laidKinds := [.handle, .wider], laidTests := true, laidLooks := .later }
def SomeEachCardSaid : Prop := Claim7.holds Tryd.pinned (.plain (OpenSpec.ofChange someEachSpec)) someEachCard

/-- THE TIED CARD OF 'vennlaw4.SomeName'. -/
def someNameCard : Claim7 := { stood := { row := someNameRow, standIns := [], harness := (true, "1789123feb7e15bea2a2146dad2a1e7c9ae56e0124c721041ca0801b044bd36b"), looks := true }, kinds := [], alts := [], laidByText := true, laidKinds := [.wider], laidTests := true, laidLooks := .later }
def SomeNameCardSaid : Prop := Claim7.holds Tryd.pinned (.plain (OpenSpec.ofChange someNameSpec)) someNameCard

/-- THE TIED CARD OF 'vennlaw2.TurnTells'. -/
def turnTellsCard : Claim7 := { stood := { row := turnTellsRow, standIns := [], harness := (true, "1789123feb7e15bea2a2146dad2a1e7c9ae56e0124c721041ca0801b044bd36b"), looks := true }, kinds := [], alts := [], laidByText := true, laidKinds := [.handle, .wider], laidTests := true, laidLooks := .later }
def TurnTellsCardSaid : Prop := Claim7.holds Tryd.pinned (.plain (OpenSpec.ofChange turnTellsSpec)) turnTellsCard

/-- THE TIED CARD OF 'vennlaw2.TurnSame'. -/
def turnSameCard : Claim7 := { stood := { row := turnSameRow, standIns := [], harness := (true, "1789123feb7e15bea2a2146dad2a1e7c9ae56e0124c721041ca0801b044bd36b"), looks := true }, kinds := [], alts := [], laidByText := true, laidKinds := [.wider], laidTests := true, laidLooks := .later }
def TurnSameCardSaid : Prop := Claim7.holds Tryd.pinned (.plain (OpenSpec.ofChange turnSameSpec)) turnSameCard

/-- THE SECOND FORM's CARD OF 'vennlaw4.SpanAll'. -/
def spanAllUptoCard : Claim7 := { stood := { row := spanAllUptoRow, standIns := [], harness := (true, "1789123feb7e15bea2a2146dad2a1e7c9ae56e0124c721041ca0801b044bd36b"), looks := true }, kinds := [], alts := [], laidByText := true, laidKinds := [.wider], laidTests := true, laidLooks := .later }
def SpanAllUptoCardSaid : Prop := Claim7.holds Tryd.pinned (.plain (OpenSpec.upto spanAllSpec)) spanAllUptoCard

/-- THE SECOND FORM's CARD OF 'vennlaw2.SomeTells'. -/
def someTellsUptoCard : Claim7 := { stood := { row := someTellsUptoRow, standIns := [], harness := (true, "1789123feb7e15bea2a2146dad2a1e7c9ae56e0124c721041ca0801b044bd36b"), looks := true }, kinds := [], alts := [], laidByText := true, laidKinds := [.handle, .wider], laidTests := true, laidLooks := .later }
def SomeTellsUptoCardSaid : Prop := Claim7.holds Tryd.pinned (.plain (OpenSpec.upto someTellsSpec)) someTellsUptoCard

/-- THE SECOND FORM's CARD OF 'vennlaw2.SomeEach'. -/
def someEachUptoCard : Claim7 := { stood := { row := someEachUptoRow, standIns := [], harness := (true, "1789123feb7e15bea2a2146dad2a1e7c9ae56e0124c721041ca0801b044bd36b"), looks := true }, kinds := [], alts := [], laidByText := true, laidKinds := [.handle, .wider], laidTests := true, laidLooks := .later }
def SomeEachUptoCardSaid : Prop := Claim7.holds Tryd.pinned (.plain (OpenSpec.upto someEachSpec)) someEachUptoCard

/-- THE SECOND FORM's CARD OF 'vennlaw4.SomeName'. -/
def someNameUptoCard : Claim7 := { stood := { row := someNameUptoRow, standIns := [], harness := (true, "1789123feb7e15bea2a2146dad2a1e7c9ae56e0124c721041ca0801b044bd36b"), looks := true }, kinds := [], alts := [], laidByText := true, laidKinds := [.wider], laidTests := true, laidLooks := .later }
def SomeNameUptoCardSaid : Prop := Claim7.holds Tryd.pinned (.plain (OpenSpec.upto someNameSpec)) someNameUptoCard

/-- THE SECOND FORM's CARD OF 'vennlaw2.TurnTells'. -/
def turnTellsUptoCard : Claim7 := { stood := { row := turnTellsUptoRow, standIns := [], harness := (true, "1789123feb7e15bea2a2146dad2a1e7c9ae56e0124c721041ca0801b044bd36b"), looks := true }, kinds := [], alts := [], laidByText := true, laidKinds := [.handle, .wider], laidTests := true, laidLooks := .later }
def TurnTellsUptoCardSaid : Prop := Claim7.holds Tryd.pinned (.plain (OpenSpec.upto turnTellsSpec)) turnTellsUptoCard

/-- THE SECOND FORM's CARD OF 'vennlaw2.TurnSame'. -/
def turnSameUptoCard : Claim7 := { stood := { row := turnSameUptoRow, standIns := [], harness := (true, "1789123feb7e15bea2a2146dad2a1e7c9ae56e0124c721041ca0801b044bd36b"), looks := true }, kinds := [], alts := [], laidByText := true, laidKinds := [.wider], laidTests := true, laidLooks := .later }
def TurnSameUptoCardSaid : Prop := Claim7.holds Tryd.pinned (.plain (OpenSpec.upto turnSameSpec)) turnSameUptoCard
end Rows
end Go.Proofs.YteknlcachfhfkahDoor
