/-
  DERIVED. GIVEN WITH THE SEED: THE CARDS: each row of YtgkgbpbohgklhagDoorRows.lean that lists a variable, with what it lists TIED to the program's text (the seventh form; the later family's looks); each row that meets fmt, with fmt's text TOLD by the authors' own Lean function (tested against real Go, not proved from fmt's source: count such statements apart). THE CARD IS WHAT COUNTS. Prove the row's statement (the work); the ties are given (YtgkgbpbohgklhagDoorTie.lean); close each card by the builder's one call (the guide's Derived/Test/ToyasCard.lean, 'card_holds'). Laid BY PROGRAM, IN A SANDBOX (cutbox-door.mjs). By AI agents, Wed Nov 11 2026. No macro, syntax, notation, axiom, sorry.
-/
import Derived.Test.YtgkgbpbohgklhagDoorRows
import GoSem.ClaimSeven
namespace Go.Proofs.YtgkgbpbohgklhagDoor
namespace Rows

/-- THE TIED CARD OF 'vennlaw2.CoreTells'. -/
def coreTellsCard : Claim7 := { stood := { row := coreTellsRow, standIns := [], harness := (true, "ff8ba731cd4f55682b9e8710307f0030d1146930e3250c5187d74d7d177a4f32"), looks := true }, kinds := [], alts := [], laidByText := true, laidKinds := [.handle, .wider], laidTests := true, laidLooks := .later }
def CoreTellsCardSaid : Prop := Claim7.holds Tryd.pinned (.plain (OpenSpec.ofChange coreTellsSpec)) coreTellsCard

/-- THE TIED CARD OF 'vennlaw2.CoreEnough'. -/
def coreEnoughCard : Claim7 := { stood := { row := coreEnoughRow, standIns := [], harness := (true, "ff8ba731cd4f55682b9e8710307f0030d1146930e3250c5187d74d7d177a4f32"), looks := true }, kinds := [], alts := [], laidByText := true, laidKinds := [.handle, .wider], laidTests := true, laidLooks := .later }
def CoreEnoughCardSaid : Prop := Claim7.holds Tryd.pinned (.plain (OpenSpec.ofChange coreEnoughSpec)) coreEnoughCard

/-- THE TIED CARD OF 'vennlaw4.CoreAlone'. -/
def coreAloneCard : Claim7 := { stood := { row := coreAloneRow, standIns := [], harness := (true, "ff8ba731cd4f55682b9e8710307f0030d1146930e3250c5187d74d7d177a4f32"), looks := true }, kinds := [], alts := [], laidByText := true, laidKinds := [.wider], laidTests := true, laidLooks := .later }
def CoreAloneCardSaid : Prop := Claim7.holds Tryd.pinned (.plain (OpenSpec.ofChange coreAloneSpec)) coreAloneCard

/-- THE TIED CARD OF 'vennlaw2.SpanTells'. -/
def spanTellsCard : Claim7 := { stood := { row := spanTellsRow, standIns := [], harness := (true, "ff8ba731cd4f55682b9e8710307f0030d1146930e3250c5187d74d7d177a4f32"), looks := true }, kinds := [], alts := [], laidByText := true, laidKinds := [.handle, .wider], laidTests := true, laidLooks := .later }
def SpanTellsCardSaid : Prop := Claim7.holds Tryd.pinned (.plain (OpenSpec.ofChange spanTellsSpec)) spanTellsCard

/-- THE TIED CARD OF 'vennlaw2.SpanReached'. -/
def spanReachedCard : Claim7 := { stood := { row := spanReachedRow, standIns := [], harness := (true, "ff8ba731cd4f55682b9e8710307f0030d1146930e3250c5187d74d7d177a4f32"), looks := true }, kinds := [], alts := [], laidByText := true, laidKinds := [.wider], laidTests := true, laidLooks := .later }
def SpanReachedCardSaid : Prop := Claim7.holds Tryd.pinned (.plain (OpenSpec.ofChange spanReachedSpec)) spanReachedCard

/-- THE SECOND FORM's CARD OF 'vennlaw2.CoreTells'. -/
def coreTellsUptoCard : Claim7 := { stood := { row := coreTellsUptoRow, standIns := [], harness := (true, "ff8ba731cd4f55682b9e8710307f0030d1146930e3250c5187d74d7d177a4f32"), looks := true }, kinds := [], alts := [], laidByText := true, laidKinds := [.handle, .wider], laidTests := true, laidLooks := .later }
def CoreTellsUptoCardSaid : Prop := Claim7.holds Tryd.pinned (.plain (OpenSpec.upto coreTellsSpec)) coreTellsUptoCard

/-- THE SECOND FORM's CARD OF 'vennlaw2.CoreEnough'. -/
def coreEnoughUptoCard : Claim7 := { stood := { row := coreEnoughUptoRow, standIns := [], harness := (true, "ff8ba731cd4f55682b9e8710307f0030d1146930e3250c5187d74d7d177a4f32"), looks := true }, kinds := [], alts := [], laidByText := true, laidKinds := [.handle, .wider], laidTests := true, laidLooks := .later }
def CoreEnoughUptoCardSaid : Prop := Claim7.holds Tryd.pinned (.plain (OpenSpec.upto coreEnoughSpec)) coreEnoughUptoCard

/-- THE SECOND FORM's CARD OF 'vennlaw4.CoreAlone'. -/
def coreAloneUptoCard : Claim7 := { stood := { row := coreAloneUptoRow, standIns := [], harness := (true, "ff8ba731cd4f55682b9e8710307f0030d1146930e3250c5187d74d7d177a4f32"), looks := true }, kinds := [], alts := [], laidByText := true, laidKinds := [.wider], laidTests := true, laidLooks := .later }
def CoreAloneUptoCardSaid : Prop := Claim7.holds Tryd.pinned (.plain (OpenSpec.upto coreAloneSpec)) coreAloneUptoCard

/-- THE SECOND FORM's CARD OF 'vennlaw2.SpanTells'. -/
def spanTellsUptoCard : Claim7 := { stood := { row := spanTellsUptoRow, standIns := [], harness := (true, "ff8ba731cd4f55682b9e8710307f0030d1146930e3250c5187d74d7d177a4f32"), looks := true }, kinds := [], alts := [], laidByText := true, laidKinds := [.handle, .wider], laidTests := true, laidLooks := .later }
def SpanTellsUptoCardSaid : Prop := Claim7.holds Tryd.pinned (.plain (OpenSpec.upto spanTellsSpec)) spanTellsUptoCard

/-- THE SECOND FORM's CARD OF 'vennlaw2.SpanReached'. -/
def spanReachedUptoCard : Claim7 := { stood := { row := spanReachedUptoRow, standIns := [], harness := (true, "ff8ba731cd4f55682b9e8710307f0030d1146930e3250c5187d74d7d177a4f32"), looks := true }, kinds := [], alts := [], laidByText := true, laidKinds := [.wider], laidTests := true, laidLooks := .later }
def SpanReachedUptoCardSaid : Prop := Claim7.holds Tryd.pinned (.plain (OpenSpec.upto spanReachedSpec)) spanReachedUptoCard
end Rows
end Go.Proofs.YtgkgbpbohgklhagDoor
