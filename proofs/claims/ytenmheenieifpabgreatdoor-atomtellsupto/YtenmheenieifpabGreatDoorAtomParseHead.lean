/-
  Proved: between which numbers faults lie, and how an atom's place is read. (What the walk of atom.Parse leans on.)
-/
import Derived.Test.YtenmheenieifpabGreatDoorAtomState
import Derived.Test.YtenmheenieifpabGreatDoorAtomTold
import Derived.Test.YtenmheenieifpabGreatDoorAtomNum
import Derived.Laws.ResultCell
namespace Go.Proofs.YtenmheenieifpabGreatDoor
open Go.ChangeShapes Go.WideShapes Go.ChangeAt Go.RowKit
set_option maxRecDepth 100000

theorem faultN_range (t : List Int) : 0 ≤ faultN t ∧ faultN t ≤ 5 := by unfold faultN; repeat' split <;> omega
theorem textFault_range (l : List UInt8) : 0 ≤ textFault l ∧ textFault l ≤ 5 := by
  unfold textFault
  split
  · exact faultN_range _
  · omega
theorem load_atom {W : World} {R : Nat} {c0 c1 c2 c3 : Value} (h0 : W.cell? ⟨R, 0, none⟩ = some c0) (h1 : W.cell? ⟨R, 1, none⟩ = some c1) (h2 : W.cell? ⟨R, 2, none⟩ = some c2) (h3 : W.cell? ⟨R, 3, none⟩ = some c3) : (loadVar 24 ⟨R, 0, none⟩).run Tryz.prog W = .ok (.agg #[c0, c1, c2, c3]) W := by
  have hl := run_loadCells_list (P := Tryz.prog) W ⟨R, 0, none⟩ [c0, c1, c2, c3] (fun j v hj => by
    match j, hj with
    | 0, hj => simp at hj; subst hj; simpa [Addr.add] using h0
    | 1, hj => simp at hj; subst hj; simpa [Addr.add] using h1
    | 2, hj => simp at hj; subst hj; simpa [Addr.add] using h2
    | 3, hj => simp at hj; subst hj; simpa [Addr.add] using h3)
  simp [loadVar, Tryz.isAgg24, Tryz.sizeOf24, Result.andThen] at hl ⊢
  simp [hl]
theorem numFault_range (l : List UInt8) : 0 ≤ numFault l ∧ numFault l ≤ 5 := by unfold numFault; split <;> omega
end Go.Proofs.YtenmheenieifpabGreatDoor
