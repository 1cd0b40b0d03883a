/-
  Proved: vennlaw3.RunCounts returns true, of any two numbers; what was in memory is as it was (the walk that the statement leans on).
-/
import Derived.Test.YtnoohlibgaeklaaGreatDoorRunCountsAllJ
import Derived.Test.YtnoohlibgaeklaaGreatDoorLibB2
namespace Go.Proofs.YtnoohlibgaeklaaGreatDoor
open Go.ChangeShapes Go.WideShapes Go.ChangeAt Go.RowKit

theorem runCounts_walk (a b : Int) (w : World) (hg : Laid w ∧ KindsLaid w ∧ LibLaid w) :
    Calls Tryz.prog 5 #[.int .i64 a, .int .i64 b] w fun e w' => e = .returned (.bool true) ∧ Below w.heap.size w w' :=
  runCounts_of a b w fun x W hW => run_done x W (hg.2.1.below hW) (hg.2.2.below hW) (Laid.below hg.1 hW)
end Go.Proofs.YtnoohlibgaeklaaGreatDoor
