/-
  Proved: vennlaw4.WorldsHalf returns true, of any name and any number of things; what was in memory is as it was (the walk that the statement leans on).
-/
import Derived.Test.YtgkgbpbohgklhafDoorWorldsHalfWalkJ
import Derived.Test.YtgkgbpbohgklhafDoorLibPC14
namespace Go.Proofs.YtgkgbpbohgklhafDoor
open Go.ChangeShapes Go.WideShapes Go.ChangeAt Go.RowKit

theorem worldsHalf_walk (name u : Int) (w : World) (hK : KindsLaid w) :
    Calls Tryd.prog 4 #[.int .i64 name, .int .i64 u] w fun e w' => e = .returned (.bool true) ∧ Below w.heap.size w w' :=
  worldsHalf_of name u w fun va vc ats c u W hW hA hC => worldsOf_any va vc ats c u W hA hC (hK.below hW)
end Go.Proofs.YtgkgbpbohgklhafDoor
