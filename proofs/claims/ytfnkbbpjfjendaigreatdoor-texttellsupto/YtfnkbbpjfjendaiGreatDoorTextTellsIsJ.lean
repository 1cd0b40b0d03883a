/-
  Proved: vennlaw2.TextTells returns true, of any formula and any text of at most 1048576 bytes, over the program's own text.Print and text.Parse; what was in memory is as it was (the walk that the statement leans on).
-/
import Derived.Test.YtfnkbbpjfjendaiGreatDoorTextTellsAllJ
import Derived.Test.YtfnkbbpjfjendaiGreatDoorLibTX34
import Derived.Test.YtfnkbbpjfjendaiGreatDoorLibTX33
namespace Go.Proofs.YtfnkbbpjfjendaiGreatDoor
open Go.ChangeShapes Go.WideShapes Go.ChangeAt Go.RowKit

theorem textTells_walk (va vc : Value) (ats : List At) (c : List Int) (s : ByteArray) (w : World) (hA : ReadsA w va ats) (hC : Reads w vc c) (hz : s.size ≤ 1048576) (hg : Laid w ∧ KindsLaid w ∧ LibLaid w ∧ WordsLaid w) :
    Calls Tryz.prog 3 #[.agg #[va, vc], .string s] w fun e w' => e = .returned (.bool true) ∧ Below w.heap.size w w' :=
  textTells_of va vc ats c s hz w hA hC hg.1 (fun va vc ats c W hb h1 h2 => tprint_any va vc ats c W h1 h2 (hg.2.1.below hb) (hg.2.2.1.below hb) (hg.2.2.2.below hb))
    fun s W hs hb => tparse_any s (by omega) W (hg.2.1.below hb) (hg.2.2.1.below hb) (hg.2.2.2.below hb)
end Go.Proofs.YtfnkbbpjfjendaiGreatDoor
