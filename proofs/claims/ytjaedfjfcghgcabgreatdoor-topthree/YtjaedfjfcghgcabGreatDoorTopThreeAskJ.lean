/-
  Proved: venntop.TopThree returns true, of any formula and any number of things; what was in memory is as it was (the walk that the statement leans on).
-/
import Derived.Test.YtjaedfjfcghgcabGreatDoorTopThreeIsJ
import Derived.Test.YtjaedfjfcghgcabGreatDoorLibT31
namespace Go.Proofs.YtjaedfjfcghgcabGreatDoor
open Go.ChangeShapes Go.WideShapes Go.ChangeAt Go.RowKit

theorem topThree_walk (va vc : Value) (ats : List At) (c : List Int) (u : Int) (w : World) (hA : ReadsA w va ats) (hC : Reads w vc c) (hg : Laid w ∧ KindsLaid w ∧ TimesLaid w) :
    Calls Tryz.prog 3 #[.agg #[va, vc], .int .i64 u] w fun e w' => e = .returned (.bool true) ∧ Below w.heap.size w w' :=
  topThree_over va vc ats c u w hA hC hg
    (fun v va vc fs ats c u W hW h0 h1 h2 => askOf_any v va vc fs ats c u W h0 h1 h2 (hg.2.1.below hW))
end Go.Proofs.YtjaedfjfcghgcabGreatDoor
