/-
  Proved: vennlaw2.LeastFew returns true, of any formula and any world; what was in memory is as it was (the walk that the statement leans on).
-/
import Derived.Test.YtedgbohobgnedaeGreatDoorLeastFewAllJ
import Derived.Test.YtedgbohobgnedaeGreatDoorLibLA1
namespace Go.Proofs.YtedgbohobgnedaeGreatDoor
open Go.ChangeShapes Go.WideShapes Go.ChangeAt Go.RowKit

theorem leastFew_walk (va vc : Value) (ats : List At) (c : List Int) (wu wa wb wc : Int) (w : World) (hA : ReadsA w va ats) (hC : Reads w vc c) (hg : Laid w ∧ KindsLaid w ∧ TimesLaid w) :
    Calls Tryz.prog 6 #[.agg #[va, vc], .agg #[.int .i64 wu, .int .i64 wa, .int .i64 wb, .int .i64 wc]] w fun e w' => e = .returned (.bool true) ∧ Below w.heap.size w w' := by
  obtain ⟨hL, hK, hT⟩ := hg
  exact leastFew_of va vc ats c wu wa wb wc w hA hC hL hK
    (fun va vc ats c W hW hA hC => leastOf_any va vc ats c W hA hC (hK.below hW) (hT.below hW) (hL.below hW))
    (fun va vc ats c W hW hA hC => list_any va vc ats c W hA hC (hK.below hW) (hT.below hW) (hL.below hW))
    (fun va vc ats c W hW hA hC => firm_any va vc ats c W hA hC (hK.below hW) (hT.below hW) (hL.below hW))
    (fun va vc ats c u W hW hA hC => modelOf_any va vc ats c u W hA hC (hK.below hW) (hT.below hW) (hL.below hW))
end Go.Proofs.YtedgbohobgnedaeGreatDoor
