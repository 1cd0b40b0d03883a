/-
  Proved: vennlaw2.SomeEach returns true, of any formula, any name, any world and any set; what was in memory is as it was (the walk that the statement leans on).
-/
import Derived.Test.YtokpjcbifbmfiahDoorSomeEachAllJ
import Derived.Test.YtokpjcbifbmfiahDoorLibSM15
namespace Go.Proofs.YtokpjcbifbmfiahDoor
open Go.ChangeShapes Go.WideShapes Go.ChangeAt Go.RowKit

theorem someEach_walk (va vc : Value) (ats : List At) (c : List Int) (name wu wa wb wc s : Int) (w : World) (hA : ReadsA w va ats) (hC : Reads w vc c) (hg : Laid w ∧ KindsLaid w) :
    Calls Tryd.prog 5 #[.agg #[va, vc], .int .i64 name, .agg #[.int .i64 wu, .int .i64 wa, .int .i64 wb, .int .i64 wc], .int .i64 s] w fun e w' => e = .returned (.bool true) ∧ Below w.heap.size w w' := by
  obtain ⟨hL, hK⟩ := hg
  exact someEach_of va vc ats c name wu wa wb wc s w hA hC hL hK
    (fun va vc ats c n D W hW h1 h2 => someIs_any va vc ats c n D W h1 h2 (hK.below hW))
    (fun va vc ats c n D W hW h1 h2 => someEach_any va vc ats c n D W h1 h2 (hK.below hW))
    (fun va vc ats c n D W hW h1 h2 => someFirst_any va vc ats c n D W h1 h2 (hK.below hW))
end Go.Proofs.YtokpjcbifbmfiahDoor
