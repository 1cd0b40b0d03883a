/-
  Proved: venntop.TopNames returns true, of any formula, any term and any numbers; what was in memory is as it was (the walk that the statement leans on).
-/
import Derived.Test.YtjaedfjfcghgcabGreatDoorTopNamesTextJ
import Derived.Test.YtjaedfjfcghgcabGreatDoorLibX27
namespace Go.Proofs.YtjaedfjfcghgcabGreatDoor
open Go.ChangeShapes Go.WideShapes Go.ChangeAt Go.RowKit
theorem topNames_walk (va vc : Value) (ats : List At) (c : List Int) (t : List Int) (vt : Value) (x y u : Int) (w : World) (hA : ReadsA w va ats) (hC : Reads w vc c) (hT : Reads w vt t) (hg : (Laid w ∧ KindsLaid w ∧ TimesLaid w) ∧ LibLaid w ∧ WordsLaid w) :
    Calls Tryz.prog 4 #[.agg #[va, vc], vt, .int .i64 x, .int .i64 y, .int .i64 u] w (Bk w (.bool true)) :=
 topNames_text va vc ats c t vt x y u w hA hC hT hg.1 hg.2.1 hg.2.2
  (fun v va vc fs ats c u W hW h0 h1 h2 => askOf_any v va vc fs ats c u W h0 h1 h2 (hg.1.2.1.below hW))
end Go.Proofs.YtjaedfjfcghgcabGreatDoor