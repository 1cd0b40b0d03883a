/-
  Proved: vennlaw4.AskMany returns true, of any name and any numbers; what was in memory is as it was (the walk that the statement leans on).
-/
import Derived.Test.YtjaedfjfcghgcaaDoorAskManyAllJ
import Derived.Test.YtjaedfjfcghgcaaDoorLibA24
namespace Go.Proofs.YtjaedfjfcghgcaaDoor
open Go.ChangeShapes Go.WideShapes Go.ChangeAt Go.RowKit

theorem askMany_walk (name n m u : Int) (w : World) (hK : KindsLaid w) :
    Calls Tryd.prog 8 #[.int .i64 name, .int .i64 n, .int .i64 m, .int .i64 u] w fun e w' => e = .returned (.bool true) ∧ Below w.heap.size w w' :=
  askMany_of name n m u w
    (fun v va vc fs ats c u W hW h0 h1 h2 => askOf_any v va vc fs ats c u W h0 h1 h2 (hK.below hW))
end Go.Proofs.YtjaedfjfcghgcaaDoor
