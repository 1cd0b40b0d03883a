/-
  Proved: vennlaw2.AskFollows returns true, of any formulas, any other one, any number of things and any world; what was in memory is as it was (the walk that the statement leans on).
-/
import Derived.Test.YtjaedfjfcghgcaaDoorAskFollowsAllJ
import Derived.Test.YtjaedfjfcghgcaaDoorLibA24
import Derived.Test.YtjaedfjfcghgcaaDoorLibA21
namespace Go.Proofs.YtjaedfjfcghgcaaDoor
open Go.ChangeShapes Go.WideShapes Go.ChangeAt Go.RowKit

theorem askFollows_walk (fs : List Fm) (v : Value) (va vc : Value) (ats : List At) (c : List Int) (u wu wa wb wc : Int) (w : World) (hF : ReadsF w v fs) (hA : ReadsA w va ats) (hC : Reads w vc c) (hK : KindsLaid w) :
    Calls Tryd.prog 7 #[v, .agg #[va, vc], .int .i64 u, .agg #[.int .i64 wu, .int .i64 wa, .int .i64 wb, .int .i64 wc]] w fun e w' => e = .returned (.bool true) ∧ Below w.heap.size w w' :=
  askFollows_of v va vc fs ats c u wu wa wb wc w hF hA hC hK
    (fun v va vc fs ats c u W hW h0 h1 h2 => askOf_any v va vc fs ats c u W h0 h1 h2 (hK.below hW))
    (fun v fs u W hW h => coreOpen_any v fs u W h (hK.below hW))
end Go.Proofs.YtjaedfjfcghgcaaDoor
