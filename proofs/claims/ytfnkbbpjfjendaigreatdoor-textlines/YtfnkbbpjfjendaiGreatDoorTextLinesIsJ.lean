/-
  Proved: vennlaw4.TextLines returns true, of any formula, over the program's own text.Print and text.Parse; what was in memory is as it was (the walk that the statement leans on).
-/
import Derived.Test.YtfnkbbpjfjendaiGreatDoorTextLinesWalkJ
import Derived.Test.YtfnkbbpjfjendaiGreatDoorLibTX34
import Derived.Test.YtfnkbbpjfjendaiGreatDoorLibTX33
namespace Go.Proofs.YtfnkbbpjfjendaiGreatDoor
open Go.ChangeShapes Go.WideShapes Go.ChangeAt Go.RowKit

theorem textLines_walk (va vc : Value) (ats : List At) (c : List Int) (w : World) (hA : ReadsA w va ats) (hC : Reads w vc c) (hg : Laid w ∧ KindsLaid w ∧ LibLaid w ∧ WordsLaid w) :
    Calls Tryz.prog 5 #[.agg #[va, vc]] w fun e w' => e = .returned (.bool true) ∧ Below w.heap.size w w' :=
  textLines_of va vc ats c w hA hC hg.1 (fun va vc ats c W hb h1 h2 => tprint_any va vc ats c W h1 h2 (hg.2.1.below hb) (hg.2.2.1.below hb) (hg.2.2.2.below hb))
    fun s W hs hb => tparse_any s (by omega) W (hg.2.1.below hb) (hg.2.2.1.below hb) (hg.2.2.2.below hb)
end Go.Proofs.YtfnkbbpjfjendaiGreatDoor
