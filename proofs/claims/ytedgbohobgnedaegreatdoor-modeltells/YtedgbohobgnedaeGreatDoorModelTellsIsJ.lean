/-
  Proved: vennlaw1.ModelTells returns true, of any formula and any number of things; what was in memory is as it was (the walk that the statement leans on).
-/
import Derived.Test.YtedgbohobgnedaeGreatDoorModelTellsAllJ
import Derived.Test.YtedgbohobgnedaeGreatDoorLibMA1
namespace Go.Proofs.YtedgbohobgnedaeGreatDoor
open Go.ChangeShapes Go.WideShapes Go.ChangeAt Go.RowKit

theorem modelTells_walk (va vc : Value) (ats : List At) (c : List Int) (u : Int) (w : World) (hA : ReadsA w va ats) (hC : Reads w vc c) (hg : Laid w ∧ KindsLaid w ∧ TimesLaid w) :
    Calls Tryz.prog 3 #[.agg #[va, vc], .int .i64 u] w fun e w' => e = .returned (.bool true) ∧ Below w.heap.size w w' := by
  obtain ⟨hL, hK, hT⟩ := hg
  exact modelTells_of va vc ats c u w hA hC hL
    (fun W hW => modelOf_any va vc ats c u W (hA.below hW) (hC.below hW) (hK.below hW) (hT.below hW) (hL.below hW))
    (fun W hW => against_any va vc ats c u W (hA.below hW) (hC.below hW) (hK.below hW) (hT.below hW) (hL.below hW))
    (fun W hW => sure_any va vc ats c u W (hA.below hW) (hC.below hW) (hK.below hW) (hT.below hW) (hL.below hW))
end Go.Proofs.YtedgbohobgnedaeGreatDoor
