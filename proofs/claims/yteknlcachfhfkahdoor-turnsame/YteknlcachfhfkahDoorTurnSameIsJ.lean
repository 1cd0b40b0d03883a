/-
  Proved: vennlaw2.TurnSame returns true, of any formula, any other names, any world and any numbers; what was in memory is as it was (the walk that the statement leans on).
-/
import Derived.Test.YteknlcachfhfkahDoorTurnSameAllJ
import Derived.Test.YteknlcachfhfkahDoorLibTU15
import Derived.Test.YteknlcachfhfkahDoorLibTU22
namespace Go.Proofs.YteknlcachfhfkahDoor
open Go.ChangeShapes Go.WideShapes Go.ChangeAt Go.RowKit

theorem turnSame_walk (va vc : Value) (ats : List At) (c : List Int) (p : Nat → Int) (wu wa wb wc : Int) (q : List Int) (vq : Value) (w : World) (hA : ReadsA w va ats) (hC : Reads w vc c) (hQ : Reads w vq q) (hK : KindsLaid w) :
    Calls Tryd.prog 8 #[.agg #[va, vc], .agg #[.int .i64 (p 0), .int .i64 (p 1), .int .i64 (p 2)], .agg #[.int .i64 wu, .int .i64 wa, .int .i64 wb, .int .i64 wc], vq] w fun e w' => e = .returned (.bool true) ∧ Below w.heap.size w w' :=
  turnSame_of va vc vq ats c q p wu wa wb wc w hA hC hQ hK
    (fun va vc ats c u W hW h1 h2 => worldsOf_any va vc ats c u W h1 h2 (hK.below hW))
    (fun D p W _ => turnWorld_any D p W)
    (fun D v q W _ h => turnThings_any D v q W h)
    (fun va vc ats c p W hW h1 h2 => turnNames_any va vc ats c p W h1 h2 (hK.below hW))
end Go.Proofs.YteknlcachfhfkahDoor
