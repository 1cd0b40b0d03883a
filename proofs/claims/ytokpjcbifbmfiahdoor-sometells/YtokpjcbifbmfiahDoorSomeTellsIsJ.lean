/-
  Proved: vennlaw2.SomeTells returns true, of any formula, any name and any world; what was in memory is as it was (the walk that the statement leans on).
-/
import Derived.Test.YtokpjcbifbmfiahDoorSomeTellsAllJ
import Derived.Test.YtokpjcbifbmfiahDoorLibSM15
namespace Go.Proofs.YtokpjcbifbmfiahDoor
open Go.ChangeShapes Go.WideShapes Go.ChangeAt Go.RowKit

theorem someTells_walk (va vc : Value) (ats : List At) (c : List Int) (name wu wa wb wc : Int) (w : World) (hA : ReadsA w va ats) (hC : Reads w vc c) (hg : Laid w ∧ KindsLaid w) :
    Calls Tryd.prog 4 #[.agg #[va, vc], .int .i64 name, .agg #[.int .i64 wu, .int .i64 wa, .int .i64 wb, .int .i64 wc]] w fun e w' => e = .returned (.bool true) ∧ Below w.heap.size w w' := by
  obtain ⟨hL, hK⟩ := hg
  exact someTells_of va vc ats c name wu wa wb wc w hA hC hL
    (fun va vc ats c n D W hW h1 h2 => someIs_any va vc ats c n D W h1 h2 (hK.below hW))
    (fun va vc ats c n D W hW h1 h2 => someEach_any va vc ats c n D W h1 h2 (hK.below hW))
    (fun va vc ats c n D W hW h1 h2 => someFirst_any va vc ats c n D W h1 h2 (hK.below hW))
end Go.Proofs.YtokpjcbifbmfiahDoor
