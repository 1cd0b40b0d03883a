/-
  Proved: what term.work returns, of a right term and a right world: the set that the pile comes to; what was in memory is as it was (a contract that the statements lean on).
-/
import Derived.Test.YteknlcachfhfkaiDoorTermWork
namespace Go.Proofs.YteknlcachfhfkaiDoor
open Go.ChangeShapes Go.WideShapes Go.ChangeAt Go.RowKit

/-- behind a draw or some. -/
theorem below_of_drew {w wm : World} (h : Below w.drew.heap.size w.drew wm) : Below w.heap.size w wm := ((Below.refl _ w).drew).trans h

end Go.Proofs.YteknlcachfhfkaiDoor
