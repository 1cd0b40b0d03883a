/-
  Proved: vennlaw2.WorldsTell returns true, of any formula, any number of things and any world; what was in memory is as it was (the walk that the statement leans on).
-/
import Derived.Test.YtgkgbpbohgklhafDoorWorldsTellAllJ
import Derived.Test.YtgkgbpbohgklhafDoorLibPC14
namespace Go.Proofs.YtgkgbpbohgklhafDoor
open Go.ChangeShapes Go.WideShapes Go.ChangeAt Go.RowKit

theorem worldsTell_walk (va vc : Value) (ats : List At) (c : List Int) (u wu wa wb wc : Int) (w : World) (hA : ReadsA w va ats) (hC : Reads w vc c) (hg : Laid w ∧ KindsLaid w) :
    Calls Tryd.prog 3 #[.agg #[va, vc], .int .i64 u, .agg #[.int .i64 wu, .int .i64 wa, .int .i64 wb, .int .i64 wc]] w fun e w' => e = .returned (.bool true) ∧ Below w.heap.size w w' := by
  obtain ⟨hL, hK⟩ := hg
  exact worldsTell_of va vc ats c u wu wa wb wc w hA hC hL
    (fun u W _ => worldsAll_any u W)
    (fun D W _ => worldsAlike_any D W)
    (fun va vc ats c u W hW hA hC => worldsOf_any va vc ats c u W hA hC (hK.below hW))
end Go.Proofs.YtgkgbpbohgklhafDoor
