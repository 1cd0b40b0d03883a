/-
  Proved: vennlaw3.LogStops returns true, of any three numbers; what was in memory is as it was (the walk that the statement leans on).
-/
import Derived.Test.YtjmeakkmfeoigaaGreatDoorLogStopsWalkJ
import Derived.Test.YtjmeakkmfeoigaaGreatDoorLibL2
import Derived.Test.YtjmeakkmfeoigaaGreatDoorLibA9
namespace Go.Proofs.YtjmeakkmfeoigaaGreatDoor
open Go.ChangeShapes Go.WideShapes Go.ChangeAt Go.RowKit

theorem logStops_walk (after many keep : Int) (w : World) (hg : Laid w ∧ KindsLaid w ∧ LibLaid w) :
    Calls Tryz.prog 3 #[.int .i64 after, .int .i64 many, .int .i64 keep] w fun e w' => e = .returned (.bool true) ∧ Below w.heap.size w w' :=
  logStops_of after many keep w hg.1 LogRep (logOk_is w hg.2.1 hg.2.2) fun va vc ats c W hW h0 h1 => fcheck_any va vc ats c W h0 h1 (hg.2.1.below hW)
end Go.Proofs.YtjmeakkmfeoigaaGreatDoor
