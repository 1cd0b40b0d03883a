/-
  Proved: venntop.TopSaid returns true, of any two numbers and any atoms; what was in memory is as it was (the walk that the statement leans on).
-/
import Derived.Test.YtjmeakkmfeoigaaGreatDoorTopSaidIsJ
import Derived.Test.YtjmeakkmfeoigaaGreatDoorLibT32
namespace Go.Proofs.YtjmeakkmfeoigaaGreatDoor
open Go.ChangeShapes Go.WideShapes Go.ChangeAt Go.RowKit

theorem topSaid_walk (u : Int) (ats : List At) (v : Value) (keep : Int) (w : World) (hA : ReadsA w v ats) (hg : (Laid w ∧ KindsLaid w ∧ TimesLaid w) ∧ LibLaid w) :
    Calls Tryz.prog 6 #[.int .i64 u, v, .int .i64 keep] w fun e w' => e = .returned (.bool true) ∧ Below w.heap.size w w' :=
  topSaid_over u keep v ats w hA hg.1 LogRep (logOk_is w hg.1.2.1 hg.2)
end Go.Proofs.YtjmeakkmfeoigaaGreatDoor
