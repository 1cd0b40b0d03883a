/-
  Proved: vennlaw4.SomeName returns true, of any name, any number and any world; what was in memory is as it was (the walk that the statement leans on).
-/
import Derived.Test.YtokpjcbifbmfiahDoorSomeNameAllJ
import Derived.Test.YtokpjcbifbmfiahDoorLibSM15
namespace Go.Proofs.YtokpjcbifbmfiahDoor
open Go.ChangeShapes Go.WideShapes Go.ChangeAt Go.RowKit

theorem someName_walk (name n wu wa wb wc : Int) (w : World) (hK : KindsLaid w) :
    Calls Tryd.prog 6 #[.int .i64 name, .int .i64 n, .agg #[.int .i64 wu, .int .i64 wa, .int .i64 wb, .int .i64 wc]] w fun e w' => e = .returned (.bool true) ∧ Below w.heap.size w w' :=
  someName_of name n wu wa wb wc w
    (fun va vc ats c n D W hW h1 h2 => someIs_any va vc ats c n D W h1 h2 (hK.below hW))
    (fun va vc ats c n D W hW h1 h2 => someEach_any va vc ats c n D W h1 h2 (hK.below hW))
end Go.Proofs.YtokpjcbifbmfiahDoor
