/-
  Proved: the row's condition on errors.errorType and atom.kinds gives the walk the error's handle and the table of kinds, and the heap that the program's own initialisers leave meets the condition. (What the tied statements' frames lean on.)
-/
import Derived.Test.YtenmheenieifpacGreatDoorAtomLaid
import Derived.Test.YtenmheenieifpacGreatDoorHandle
namespace Go.Proofs.YtenmheenieifpacGreatDoor
open Go.ChangeShapes Go.WideShapes Go.ChangeAt Go.RowKit
set_option maxRecDepth 100000

def laidT : List (String × DataW Unit) := [("errors.errorType", Rows.laid_errors_errorType), ("vennhouse/atom.kinds", Rows.laid_vennhouse_atom_kinds)]
theorem form_of_met {W : World} (h : laidMetH Tryz.prog laidT W) : Laid W ∧ KindsLaid W := by
  have h' : laidMet Tryz.prog [("vennhouse/atom.kinds", Rows.laid_vennhouse_atom_kinds)] W ∧ handlesMet Tryz.prog laidE W := h
  refine ⟨?_, kinds_of_head h'.1⟩
  obtain ⟨name, u, ty, e1, e2, e3, e4, e5⟩ := h'.2 _ (List.mem_singleton.2 rfl)
  have en : name = [101, 114, 114, 111, 114] := (Option.some.inj e1).symm
  subst en
  obtain rfl := Option.some.inj (rtT.symm.trans e2)
  have hm : ty ∈ (List.range 183).filter fun t => Tryz.prog.rowNamed t [101, 114, 114, 111, 114] := List.mem_filter.2 ⟨List.mem_range.2 (by rw [← sizeT]; exact e3), e4⟩
  rw [oneRow] at hm
  obtain rfl := List.mem_singleton.1 hm
  rw [handleE] at e5
  simpa [Laid] using World.var?_cell etG e5 0
theorem doorT_met (os : Os) (args : Array Value) : laidMetH Tryz.prog laidT ((World.doorLaid Tryz.prog 400 os).forCall (fun _ _ => 0) ⟨#[], args, []⟩).memory :=
  laidMetH_of_parts3 (fuel := 8) (laidMet_of_run' 8 (by kernel_rfl) (by kernel_rfl)) (by kernel_rfl) (by kernel_rfl)
end Go.Proofs.YtenmheenieifpacGreatDoor
