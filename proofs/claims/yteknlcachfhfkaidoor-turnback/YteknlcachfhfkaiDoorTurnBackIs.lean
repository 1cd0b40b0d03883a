/-
  Proved: vennlaw4.TurnBack returns true, of any formula, any world and any two numbers; what was in memory is as it was (the walk that the statement leans on).
-/
import Derived.Test.YteknlcachfhfkaiDoorTurnBackAll
import Derived.Test.YteknlcachfhfkaiDoorTurnNames
namespace Go.Proofs.YteknlcachfhfkaiDoor
open Go.ChangeShapes Go.WideShapes Go.ChangeAt Go.RowKit

theorem turnBack_walk (va vc : Value) (ats : List At) (c : List Int) (wu wa wb wc i k : Int) (w : World) (hA : ReadsA w va ats) (hC : Reads w vc c) (hK : KindsLaid w) :
    Calls Tryd.prog 3 #[.agg #[va, vc], .agg #[.int .i64 wu, .int .i64 wa, .int .i64 wb, .int .i64 wc], .int .i64 i, .int .i64 k] w fun e w' => e = .returned (.bool true) ∧ Below w.heap.size w w' :=
  turnBack_of va vc ats c wu wa wb wc i k w hA hC hK
    (fun D v q W _ h => turnThings_any D v q W h)
    (fun va vc ats c p W hW h1 h2 => turnNames_any va vc ats c p W h1 h2 (hK.below hW))
end Go.Proofs.YteknlcachfhfkaiDoor
