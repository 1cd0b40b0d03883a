/-
  DERIVED. GIVEN WITH THE SEED: THE PROGRAM's TIES (one call each: nine closed facts by the kernel) AND EACH ROW's TIE, after the 31st guide's Derived/Test/Toyas{Tie, Card}.lean. No idea stands in it: it is a product of the set-up. Laid BY PROGRAM, IN A SANDBOX (cutbox-door.mjs). By AI agents, Wed Nov 11 2026. No macro, syntax, notation, axiom, sorry.
-/
import Derived.Test.YtgkgbpbohgklhafGreatDoorRows
import Derived.LaidByTextLater
import Derived.SevenTiedAt
import Derived.LaidSub
import Derived.LaidOnce
namespace Go.Proofs.YtgkgbpbohgklhafGreatDoor
open Go
set_option maxRecDepth 100000
theorem seatTie1 : Tryz.prog.laidByTextLater [("errors.errorType", Rows.laid_errors_errorType), ("vennhouse/atom.kinds", Rows.laid_vennhouse_atom_kinds), ("vennhouse/rows.kinds", Rows.laid_vennhouse_rows_kinds)] [.handle, .wider, .data] true :=
  Program.laidByTextLater_by_one 46 8 25 (by kernel_rfl) (by kernel_rfl) (by kernel_rfl) (by kernel_rfl) (by kernel_rfl) (by kernel_rfl) (fun _ _ => by kernel_rfl)
theorem noOwnUnsafe : Tryz.pinned.checked.prog.headLifts.contains "ownunsafe" = false := by kernel_rfl
theorem tie : Tryz.prog.laidByTextLater [("errors.errorType", Rows.laid_errors_errorType), ("vennhouse/atom.kinds", Rows.laid_vennhouse_atom_kinds), ("vennhouse/rows.kinds", Rows.laid_vennhouse_rows_kinds)] [.handle, .wider, .data] true :=
  Program.laidByTextLater.sub seatTie1 ["errors.errorType", "vennhouse/atom.kinds", "vennhouse/rows.kinds"] (by kernel_rfl) (by kernel_rfl)
theorem leastMany_row_tie : Rows.leastManyRow.laidByTextAt .later Tryz.pinned [.handle, .wider, .data] true :=
  OpenClaim.laidByTextAt_later rfl rfl tie noOwnUnsafe
theorem worldsAll_row_tie : Rows.worldsAllRow.laidByTextAt .later Tryz.pinned [.handle, .wider, .data] true :=
  OpenClaim.laidByTextAt_later rfl rfl tie noOwnUnsafe
theorem alikeWorlds_row_tie : Rows.alikeWorldsRow.laidByTextAt .later Tryz.pinned [.handle, .wider, .data] true :=
  OpenClaim.laidByTextAt_later rfl rfl tie noOwnUnsafe
theorem leastManyUpto_row_tie : Rows.leastManyUptoRow.laidByTextAt .later Tryz.pinned [.handle, .wider, .data] true :=
  OpenClaim.laidByTextAt_later rfl rfl tie noOwnUnsafe
theorem worldsAllUpto_row_tie : Rows.worldsAllUptoRow.laidByTextAt .later Tryz.pinned [.handle, .wider, .data] true :=
  OpenClaim.laidByTextAt_later rfl rfl tie noOwnUnsafe
theorem alikeWorldsUpto_row_tie : Rows.alikeWorldsUptoRow.laidByTextAt .later Tryz.pinned [.handle, .wider, .data] true :=
  OpenClaim.laidByTextAt_later rfl rfl tie noOwnUnsafe
end Go.Proofs.YtgkgbpbohgklhafGreatDoor
