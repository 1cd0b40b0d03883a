/-
  Proved: vennlaw4.SpanAll returns true, of any name and any number of things; what was in memory is as it was (the walk that the statement leans on).
-/
import Derived.Test.YtgkgbpbohgklhahDoorSpanAllWalkJ
import Derived.Test.YtgkgbpbohgklhahDoorLibSA14
namespace Go.Proofs.YtgkgbpbohgklhahDoor
open Go.ChangeShapes Go.WideShapes Go.ChangeAt Go.RowKit

theorem spanAll_walk (name u : Int) (w : World) (hK : KindsLaid w) :
    Calls Tryd.prog 3 #[.int .i64 name, .int .i64 u] w fun e w' => e = .returned (.bool true) ∧ Below w.heap.size w w' :=
  spanAll_of name u w
    (fun va vc vt ats c t u W hW h1 h2 h3 => spanOf_any va vc vt ats c t u W h1 h2 h3 (hK.below hW))
    (fun va vc vt ats c t u W hW h1 h2 h3 => exact_any va vc vt ats c t u W h1 h2 h3 (hK.below hW))
end Go.Proofs.YtgkgbpbohgklhahDoor
