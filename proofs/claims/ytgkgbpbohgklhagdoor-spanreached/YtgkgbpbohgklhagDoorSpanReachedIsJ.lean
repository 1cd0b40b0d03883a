/-
  Proved: vennlaw2.SpanReached returns true, of any formula, any row of signs, any number of things and any world; what was in memory is as it was (the walk that the statement leans on).
-/
import Derived.Test.YtgkgbpbohgklhagDoorSpanReachedAllJ
import Derived.Test.YtgkgbpbohgklhagDoorLibS21
import Derived.Test.YtgkgbpbohgklhagDoorLibS25
namespace Go.Proofs.YtgkgbpbohgklhagDoor
open Go.ChangeShapes Go.WideShapes Go.ChangeAt Go.RowKit

theorem spanReached_walk (va vc : Value) (ats : List At) (c t : List Int) (vt : Value) (u wu wa wb wc : Int) (w : World) (hA : ReadsA w va ats) (hC : Reads w vc c) (hT : Reads w vt t) (hK : KindsLaid w) :
    Calls Tryd.prog 7 #[.agg #[va, vc], vt, .int .i64 u, .agg #[.int .i64 wu, .int .i64 wa, .int .i64 wb, .int .i64 wc]] w fun e w' => e = .returned (.bool true) ∧ Below w.heap.size w w' :=
  spanReached_of va vc vt ats c t u wu wa wb wc w hA hC hT hK
    (fun va vc vt ats c t u W hW h1 h2 h3 => spanOf_any va vc vt ats c t u W h1 h2 h3 (hK.below hW))
    (fun v fs u W hW h => coreOpen_any v fs u W h (hK.below hW))
end Go.Proofs.YtgkgbpbohgklhagDoor
