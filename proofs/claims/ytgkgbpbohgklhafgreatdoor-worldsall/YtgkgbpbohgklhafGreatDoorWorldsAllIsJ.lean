/-
  Proved: vennlaw2.WorldsAll returns true, of any formula, any number of things and any world; what was in memory is as it was (the walk that the statement leans on).
-/
import Derived.Test.YtgkgbpbohgklhafGreatDoorWorldsAllAllJ
import Derived.Test.YtgkgbpbohgklhafGreatDoorLibWB4
import Derived.Test.YtgkgbpbohgklhafGreatDoorLibMB2
namespace Go.Proofs.YtgkgbpbohgklhafGreatDoor
open Go.ChangeShapes Go.WideShapes Go.ChangeAt Go.RowKit

theorem worldsAll_walk (va vc : Value) (ats : List At) (c : List Int) (u wu wa wb wc : Int) (w : World) (hA : ReadsA w va ats) (hC : Reads w vc c) (hg : Laid w ∧ KindsLaid w ∧ TimesLaid w) :
    Calls Tryz.prog 4 #[.agg #[va, vc], .int .i64 u, .agg #[.int .i64 wu, .int .i64 wa, .int .i64 wb, .int .i64 wc]] w fun e w' => e = .returned (.bool true) ∧ Below w.heap.size w w' := by
  obtain ⟨hL, hK, hT⟩ := hg
  exact worldsAll_of va vc ats c u wu wa wb wc w hA hC hL hK
    (fun u W _ => worldsAll_any u W)
    (fun D W _ => worldsAlike_any D W)
    (fun va vc ats c u W hW hA hC => worldsOf_any va vc ats c u W hA hC (hK.below hW))
    (fun va vc ats c u W hW hA hC => modelOf_any va vc ats c u W hA hC (hK.below hW) (hT.below hW) (hL.below hW))
end Go.Proofs.YtgkgbpbohgklhafGreatDoor
