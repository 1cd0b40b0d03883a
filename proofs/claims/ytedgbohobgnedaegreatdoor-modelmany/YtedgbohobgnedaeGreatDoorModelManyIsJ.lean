/-
  Proved: vennlaw4.ModelMany returns true, of any name and any number; what was in memory is as it was (the walk that the statement leans on).
-/
import Derived.Test.YtedgbohobgnedaeGreatDoorModelManyAllJ
import Derived.Test.YtedgbohobgnedaeGreatDoorLibMA1
namespace Go.Proofs.YtedgbohobgnedaeGreatDoor
open Go.ChangeShapes Go.WideShapes Go.ChangeAt Go.RowKit

theorem modelMany_walk (name n : Int) (w : World) (hg : Laid w ∧ KindsLaid w ∧ TimesLaid w) :
    Calls Tryz.prog 5 #[.int .i64 name, .int .i64 n] w fun e w' => e = .returned (.bool true) ∧ Below w.heap.size w w' := by
  obtain ⟨hL, hK, hT⟩ := hg
  exact modelMany_of name n w hL
    (fun va vc ats c u W hW hA hC => modelOf_any va vc ats c u W hA hC (hK.below hW) (hT.below hW) (hL.below hW))
    (fun va vc ats c u W hW hA hC => sure_any va vc ats c u W hA hC (hK.below hW) (hT.below hW) (hL.below hW))
end Go.Proofs.YtedgbohobgnedaeGreatDoor
