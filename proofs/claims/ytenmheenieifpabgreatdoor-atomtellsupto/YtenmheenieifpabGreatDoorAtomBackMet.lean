/-
  Proved: the row's condition on the variables that it lists gives the walk the table of kinds, the powers of ten, and the library's error; and a start that meets the condition. (What the tied statement's frame leans on.)
-/
import Derived.Test.YtenmheenieifpabGreatDoorAtomLaid
import Derived.Test.YtenmheenieifpabGreatDoorAtomNum
import Derived.Lib.LaidTab
import Derived.LaidMore
import Derived.Lay
import Derived.LaidHandle
import Derived.Stop.Joined
import Derived.Stop.LaidErr
namespace Go.Proofs.YtenmheenieifpabGreatDoor
open Go.ChangeShapes Go.WideShapes Go.ChangeAt Go.RowKit
set_option maxRecDepth 100000

theorem ownB : ownKnob Tryz.prog.godebug = none := by kernel_rfl
theorem p10G : Tryz.prog.globalNamed "internal/strconv.uint64pow10" = some 2 := by kernel_rfl
theorem p10T : (Tryz.prog.globals[2]?).map (·.type) = some 161 := by kernel_rfl
theorem p10C : Tryz.prog.cellsOf 103 = 1 := by kernel_rfl
theorem p10A : Tryz.prog.cellsOf 161 = 20 := by kernel_rfl
theorem p10D : (Rows.laid_internal_strconv_uint64pow10 : DataW Unit) = Lib.tabData .u64 Lib.pow10Tab := by kernel_rfl
theorem esG : Tryz.prog.globalNamed "strconv.ErrSyntax" = some 4 := by kernel_rfl
theorem esT : (Tryz.prog.globals[4]?).map (·.type) = some 31 := by kernel_rfl
theorem esC : Tryz.prog.cellsOf 180 = 1 := by kernel_rfl
theorem esS : Tryz.prog.cellsOf 9 = 1 := by kernel_rfl
theorem starE : "*" ++ "errors.errorString" = "*errors.errorString" := by decide
theorem rowE (u : TypeId) (h : Tryz.prog.typeName? 3 u = some "*errors.errorString") : u = 178 :=
  typeName_ptr_named (nm := "errors.errorString") (by rw [starE]; kernel_rfl) (by kernel_rfl) (by decide) u (by rw [starE]; exact h)

def laidB : List (String × DataW Unit) := [("math/bits.deBruijn32tab", Rows.laid_math_bits_deBruijn32tab), ("math/bits.deBruijn64tab", Rows.laid_math_bits_deBruijn64tab), ("internal/strconv.uint64pow10", Rows.laid_internal_strconv_uint64pow10), ("unicode/utf8.acceptRanges", Rows.laid_unicode_utf8_acceptRanges), ("strconv.ErrRange", Rows.laid_strconv_ErrRange), ("strconv.ErrSyntax", Rows.laid_strconv_ErrSyntax), ("vennhouse/atom.kinds", Rows.laid_vennhouse_atom_kinds), ("unicode/utf8.first", Rows.laid_unicode_utf8_first)]
theorem back_of_met {W : World} (h : laidMetH Tryz.prog laidB W) : KindsLaid W ∧ LibLaid W := by
  have h' : laidMet Tryz.prog laidB W := h
  unfold laidB at h'
  refine ⟨kinds_of_head h'.tail.tail.tail.tail.tail.tail, ?_, ?_⟩
  · have h2 := h'.tail.tail
    rw [p10D] at h2
    exact Lib.tabIs_of_head p10G p10T Tryz.underlying161 Tryz.underlying103 p10C p10A h2
  · obtain ⟨a, s, hv, _⟩ := laid_sentinel h'.tail.tail.tail.tail.tail esG esT Tryz.underlying31 rowE Tryz.underlying178 Tryz.underlying180 rfl rfl Tryz.underlying9 esC esS
    exact ⟨_, _, hv⟩
theorem doorB_met (os : Os) (args : Array Value) : laidMetH Tryz.prog laidB ((World.laidAll Tryz.prog os laidB).forCall (fun _ _ => 0) ⟨#[], args, []⟩).memory := by
  rw [MakeChecks.laidMetH_plain _ _ _ (by kernel_rfl)]
  exact laidMet_laidAll _ (by kernel_rfl) (by kernel_rfl)
theorem startB_shaped (os : Os) (args : Array Value) : ((World.laidAll Tryz.prog os laidB).forCall (fun _ _ => 0) ⟨#[], args, []⟩).Shaped Tryz.prog := World.shaped_of_ZipB (by kernel_rfl) (by kernel_rfl)
end Go.Proofs.YtenmheenieifpabGreatDoor
