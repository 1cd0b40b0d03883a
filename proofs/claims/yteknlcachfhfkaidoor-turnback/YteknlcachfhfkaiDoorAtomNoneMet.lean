/-
  Proved: the row's condition on atom.kinds gives the walk its table, and the heap that the program's own initialisers leave meets the condition. (What the tied statement's frame leans on.)
-/
import Derived.Test.YteknlcachfhfkaiDoorAtomLaid
import Derived.LaidMore
import Derived.LaidHandle
import Derived.Stop.Joined
namespace Go.Proofs.YteknlcachfhfkaiDoor
open Go.ChangeShapes Go.WideShapes Go.ChangeAt Go.RowKit
set_option maxRecDepth 100000

theorem ownN : ownKnob Tryd.prog.godebug = none := by kernel_rfl
def laidN : List (String × DataW Unit) := [("vennhouse/atom.kinds", Rows.laid_vennhouse_atom_kinds)]
theorem kinds_of_met {W : World} (h : laidMetH Tryd.prog laidN W) : KindsLaid W := by
  have h' : laidMet Tryd.prog laidN W := h
  exact kinds_of_head h'
theorem doorN_met (os : Os) (args : Array Value) : laidMetH Tryd.prog laidN ((World.doorLaid Tryd.prog 400 os).forCall (fun _ _ => 0) ⟨#[], args, []⟩).memory := by
  show laidMet Tryd.prog laidN _
  exact laidMet_of_run' 8 (by kernel_rfl) (by kernel_rfl)
end Go.Proofs.YteknlcachfhfkaiDoor
