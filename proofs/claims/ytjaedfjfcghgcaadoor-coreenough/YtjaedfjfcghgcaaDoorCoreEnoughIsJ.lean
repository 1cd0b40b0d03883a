/-
  Proved: vennlaw2.CoreEnough returns true, of any formulas, any number of things and any world; what was in memory is as it was (the walk that the statement leans on).
-/
import Derived.Test.YtjaedfjfcghgcaaDoorCoreEnoughAllJ
import Derived.Test.YtjaedfjfcghgcaaDoorLibA21
namespace Go.Proofs.YtjaedfjfcghgcaaDoor
open Go.ChangeShapes Go.WideShapes Go.ChangeAt Go.RowKit

theorem coreEnough_walk (fs : List Fm) (v : Value) (u wu wa wb wc : Int) (w : World) (hF : ReadsF w v fs) (hg : Laid w ∧ KindsLaid w) :
    Calls Tryd.prog 4 #[v, .int .i64 u, .agg #[.int .i64 wu, .int .i64 wa, .int .i64 wb, .int .i64 wc]] w fun e w' => e = .returned (.bool true) ∧ Below w.heap.size w w' := by
  obtain ⟨hL, hK⟩ := hg
  exact coreEnough_of v fs u wu wa wb wc w hF hL hK
    (fun v fs u W hW h => coreOpen_any v fs u W h (hK.below hW))
    (fun v fs u W hW h => coreOf_any v fs u W h (hK.below hW))
end Go.Proofs.YtjaedfjfcghgcaaDoor
