/-
  Proved: venntop.TopSome returns true, of any formula and any world; what was in memory is as it was (the walk that the statement leans on).
-/
import Derived.Test.YtjaedfjfcghgcabDoorTopSomeIsJ
import Derived.Test.YtjaedfjfcghgcabDoorLibS16
namespace Go.Proofs.YtjaedfjfcghgcabDoor
open Go.ChangeShapes Go.WideShapes Go.ChangeAt Go.RowKit

theorem topSome_walk (va vc : Value) (ats : List At) (c : List Int) (wu wa wb wc : Int) (w : World) (hA : ReadsA w va ats) (hC : Reads w vc c) (hK : KindsLaid w) :
    Calls Tryd.prog 3 #[.agg #[va, vc], .agg #[.int .i64 wu, .int .i64 wa, .int .i64 wb, .int .i64 wc]] w fun e w' => e = .returned (.bool true) ∧ Below w.heap.size w w' :=
  topSome_over va vc ats c wu wa wb wc w hA hC hK
    (fun v va vc fs ats c u W hW h0 h1 h2 => askOf_any v va vc fs ats c u W h0 h1 h2 (hK.below hW))
end Go.Proofs.YtjaedfjfcghgcabDoor
