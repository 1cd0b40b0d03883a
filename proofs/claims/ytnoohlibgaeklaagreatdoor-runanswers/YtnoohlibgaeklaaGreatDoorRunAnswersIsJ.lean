/-
  Proved: vennlaw3.RunAnswers returns true, of any text; what was in memory is as it was (the walk that the statement leans on).
-/
import Derived.Test.YtnoohlibgaeklaaGreatDoorRunAnswersAllJ
import Derived.Test.YtnoohlibgaeklaaGreatDoorLibQ31
namespace Go.Proofs.YtnoohlibgaeklaaGreatDoor
open Go.ChangeShapes Go.WideShapes Go.ChangeAt Go.RowKit
set_option maxRecDepth 100000
set_option maxHeartbeats 16000000
theorem runAnswers_walk (s : ByteArray) (w : World) (hg : Laid w ∧ KindsLaid w ∧ LibLaid w) :
    Calls Tryz.prog 3 #[.string s] w (Bk w (.bool true)) :=
 runAnswers_of s w (run_done s w hg.2.1 hg.2.2 hg.1)
end Go.Proofs.YtnoohlibgaeklaaGreatDoor