/-
  Proved: vennlaw3.RunBegins returns true, of any text and any number; what was in memory is as it was (the walk that the statement leans on).
-/
import Derived.Test.YtnoohlibgaeklaaGreatDoorRunBeginsAllJ
import Derived.Test.YtnoohlibgaeklaaGreatDoorLibB2
namespace Go.Proofs.YtnoohlibgaeklaaGreatDoor
open Go.ChangeShapes Go.WideShapes Go.ChangeAt Go.RowKit

theorem runBegins_walk (s : ByteArray) (many : Int) (w : World) (hg : Laid w ∧ KindsLaid w ∧ LibLaid w) :
    Calls Tryz.prog 4 #[.string s, .int .i64 many] w fun e w' => e = .returned (.bool true) ∧ Below w.heap.size w w' :=
  runBegins_of s many w fun x W hW => run_done x W (hg.2.1.below hW) (hg.2.2.below hW) (Laid.below hg.1 hW)
end Go.Proofs.YtnoohlibgaeklaaGreatDoor
