/-
  Proved: the row's condition on the nine variables that it lists gives the walk the error's handle, the table of kinds, the powers of ten, and the library's error; and a start that meets the condition: the heap that the program's own initialisers leave, with the tables laid over it. (What the tied statement's frame leans on.)
-/
import Derived.Test.YtenmheenieifpabGreatDoorAtomBackMet
import Derived.Test.YtenmheenieifpabGreatDoorHandle
namespace Go.Proofs.YtenmheenieifpabGreatDoor
open Go.ChangeShapes Go.WideShapes Go.ChangeAt Go.RowKit
set_option maxRecDepth 100000

def laidN : List (String × DataW Unit) := [("math/bits.deBruijn32tab", Rows.laid_math_bits_deBruijn32tab), ("math/bits.deBruijn64tab", Rows.laid_math_bits_deBruijn64tab), ("internal/strconv.uint64pow10", Rows.laid_internal_strconv_uint64pow10), ("unicode/utf8.acceptRanges", Rows.laid_unicode_utf8_acceptRanges), ("errors.errorType", Rows.laid_errors_errorType), ("strconv.ErrRange", Rows.laid_strconv_ErrRange), ("strconv.ErrSyntax", Rows.laid_strconv_ErrSyntax), ("vennhouse/atom.kinds", Rows.laid_vennhouse_atom_kinds), ("unicode/utf8.first", Rows.laid_unicode_utf8_first)]
theorem tells_of_met {W : World} (h : laidMetH Tryz.prog laidN W) : Laid W ∧ KindsLaid W ∧ LibLaid W := by
  have h' : laidMet Tryz.prog laidB W ∧ handlesMet Tryz.prog laidE W := h
  have h1 : laidMetH Tryz.prog laidE W := (show laidMet Tryz.prog [] W ∧ handlesMet Tryz.prog laidE W from ⟨laidMet_nil _ _, h'.2⟩)
  have h2 : laidMetH Tryz.prog laidB W := (show laidMet Tryz.prog laidB W from h'.1)
  exact ⟨laid_of_met h1, back_of_met h2⟩
/-- all listed ones laid over a world. -/
theorem laidMet_over {P : Program} {w0 : World} {laid : List (String × DataW Unit)} (args : Array Value) (hf : w0.layFits P laid [] = true) (hi : w0.layIfaces P laid (w0.layVars P laid) = true) :
    laidMet P laid ((w0.layVars P laid).forCall (fun _ _ => 0) ⟨#[], args, []⟩).memory := by
  have all : ∀ x, x ∈ laid → (laid.map (·.1)).contains x.1 = true := fun x hx => List.contains_iff_mem.2 (List.mem_map.2 ⟨x, hx, rfl⟩)
  have yes : (laid.filter fun x => (laid.map (·.1)).contains x.1) = laid := List.filter_eq_self.2 all
  have no : (laid.filter fun x => !(laid.map (·.1)).contains x.1) = [] := List.filter_eq_nil_iff.2 fun x hx => by rw [all x hx]; simp
  have h := laidMet_layVars (P := P) (w0 := w0) (w' := w0.layVars P laid) (laid := laid) (laid.map (·.1)) [] (by rw [yes]) (by rw [yes]; exact hf) (by rw [yes]; exact hi) (by rw [no]; exact LaidIn.none)
  exact h.of_heap (by simp [World.memory, World.forCall, Input.heap])
noncomputable def startN (os : Os) : World := (World.doorLaid Tryz.prog 400 os).layVars Tryz.prog laidB
theorem startN_os (os : Os) : (startN os).os = os := World.layVars_os _ _ _
theorem doorN_met (os : Os) (args : Array Value) : laidMetH Tryz.prog laidN ((startN os).forCall (fun _ _ => 0) ⟨#[], args, []⟩).memory :=
  laidMetH_of_parts3 (fuel := 8) (laidMet_over (laid := laidB) args (by kernel_rfl) (by kernel_rfl)) (by kernel_rfl) (by kernel_rfl)
theorem startN_shaped (os : Os) : (startN os).Shaped Tryz.prog := World.shaped_of_ZipB (by kernel_rfl) (by kernel_rfl)
end Go.Proofs.YtenmheenieifpabGreatDoor
