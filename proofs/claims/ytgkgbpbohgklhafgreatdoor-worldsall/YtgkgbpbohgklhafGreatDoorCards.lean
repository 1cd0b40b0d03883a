/-
  DERIVED. GIVEN WITH THE SEED: THE CARDS: each row of YtgkgbpbohgklhafGreatDoorRows.lean that lists a variable, with what it lists TIED to the program's text (the seventh form; the later family's looks); each row that meets fmt, with fmt's text TOLD by the authors' own Lean function (tested against real Go, not proved from fmt's source: count such statements apart). THE CARD IS WHAT COUNTS. Prove the row's statement (the work); the ties are given (YtgkgbpbohgklhafGreatDoorTie.lean); close each card by the builder's one call (the guide's Derived/Test/ToyasCard.lean, 'card_holds'). Laid BY PROGRAM, IN A SANDBOX (cutbox-door.mjs). By AI agents, Wed Nov 11 2026. No macro, syntax, notation, axiom, sorry.
-/
import Derived.Test.YtgkgbpbohgklhafGreatDoorRows
import GoSem.ClaimSeven
namespace Go.Proofs.YtgkgbpbohgklhafGreatDoor
namespace Rows

/-- THE TIED CARD OF 'vennlaw4.LeastMany'. -/
def leastManyCard : Claim7 := { stood := { row := leastManyRow, standIns := [], harness := (true, "39e4220806e767c7c6547294ddc82cd1190c8b6feba0e289fc34f7392bfc2205"), looks := true }, kinds := [], alts := [], laidByText := true, laidKinds := [.handle, .wider, .data], laidTests := true, laidLooks := .later }
def LeastManyCardSaid : Prop := Claim7.holds Tryz.pinned (.plain (OpenSpec.ofChange leastManySpec)) leastManyCard

/-- THE TIED CARD OF 'vennlaw2.WorldsAll'. -/
def worldsAllCard : Claim7 := { stood := { row := worldsAllRow, standIns := [], harness := (true, "39e4220806e767c7c6547294ddc82cd1190c8b6feba0e289fc34f7392bfc2205"), looks := true }, kinds := [], alts := [], laidByText := true, laidKinds := [.handle, .wider, .data], laidTests := true, laidLooks := .later }
def WorldsAllCardSaid : Prop := Claim7.holds Tryz.pinned (.plain (OpenSpec.ofChange worldsAllSpec)) worldsAllCard

/-- THE TIED CARD OF 'vennlaw2.AlikeWorlds'. -/
def alikeWorldsCard : Claim7 := { stood := { row := alikeWorldsRow, standIns := [], harness := (true, "39e4220806e767c7c6547294ddc82cd1190c8b6feba0e289fc34f7392bfc2205"), looks := true }, kinds := [], alts := [], laidByText := true, laidKinds := [.handle, .wider, .data], laidTests := true, laidLooks := .later }
def AlikeWorldsCardSaid : Prop := Claim7.holds Tryz.pinned (.plain (OpenSpec.ofChange alikeWorldsSpec)) alikeWorldsCard

/-- THE SECOND FORM's CARD OF 'vennlaw4.LeastMany'. -/
def leastManyUptoCard : Claim7 := { stood := { row := leastManyUptoRow, standIns := [], harness := (true, "39e4220806e767c7c6547294ddc82cd1190c8b6feba0e289fc34f7392bfc2205"), looks := true }, kinds := [], alts := [], laidByText := true, laidKinds := [.handle, .wider, .data], laidTests := true, laidLooks := .later }
def LeastManyUptoCardSaid : Prop := Claim7.holds Tryz.pinned (.plain (OpenSpec.upto leastManySpec)) leastManyUptoCard

/-- THE SECOND FORM's CARD OF 'vennlaw2.WorldsAll'. -/
def worldsAllUptoCard : Claim7 := { stood := { row := worldsAllUptoRow, standIns := [], harness := (true, "39e4220806e767c7c6547294ddc82cd1190c8b6feba0e289fc34f7392bfc2205"), looks := true }, kinds := [], alts := [], laidByText := true, laidKinds := [.handle, .wider, .data], laidTests := true, laidLooks := .later }
def WorldsAllUptoCardSaid : Prop := Claim7.holds Tryz.pinned (.plain (OpenSpec.upto worldsAllSpec)) worldsAllUptoCard

/-- THE SECOND FORM's CARD OF 'vennlaw2.AlikeWorlds'. -/
def alikeWorldsUptoCard : Claim7 := { stood := { row := alikeWorldsUptoRow, standIns := [], harness := (true, "39e4220806e767c7c6547294ddc82cd1190c8b6feba0e289fc34f7392bfc2205"), looks := true }, kinds := [], alts := [], laidByText := true, laidKinds := [.handle, .wider, .data], laidTests := true, laidLooks := .later }
def AlikeWorldsUptoCardSaid : Prop := Claim7.holds Tryz.pinned (.plain (OpenSpec.upto alikeWorldsSpec)) alikeWorldsUptoCard
end Rows
end Go.Proofs.YtgkgbpbohgklhafGreatDoor
