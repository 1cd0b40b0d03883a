/-
  Proved: vennlaw4.LeastMany returns true, of any name and any number; what was in memory is as it was (the walk that the statement leans on).
-/
import Derived.Test.YtedgbohobgnedafGreatDoorLeastManyWalkJ
import Derived.Test.YtedgbohobgnedafGreatDoorLibLB1
namespace Go.Proofs.YtedgbohobgnedafGreatDoor
open Go.ChangeShapes Go.WideShapes Go.ChangeAt Go.RowKit

theorem leastMany_walk (name n : Int) (w : World) (hg : Laid w ∧ KindsLaid w ∧ TimesLaid w) :
    Calls Tryz.prog 3 #[.int .i64 name, .int .i64 n] w fun e w' => e = .returned (.bool true) ∧ Below w.heap.size w w' := by
  obtain ⟨hL, hK, hT⟩ := hg
  exact leastMany_of name n w hL
    (fun va vc ats c W hW hA hC => leastOf_any va vc ats c W hA hC (hK.below hW) (hT.below hW) (hL.below hW))
    (fun va vc ats c W hW hA hC => firm_any va vc ats c W hA hC (hK.below hW) (hT.below hW) (hL.below hW))
end Go.Proofs.YtedgbohobgnedafGreatDoor
