/-
  Proved: vennlaw2.SpanTells returns true, of any formula, any row of signs and any number of things; what was in memory is as it was (the walk that the statement leans on).
-/
import Derived.Test.YtgkgbpbohgklhagDoorSpanTellsAllJ
import Derived.Test.YtgkgbpbohgklhagDoorLibS21
namespace Go.Proofs.YtgkgbpbohgklhagDoor
open Go.ChangeShapes Go.WideShapes Go.ChangeAt Go.RowKit

theorem spanTells_walk (va vc : Value) (ats : List At) (c t : List Int) (vt : Value) (u : Int) (w : World) (hA : ReadsA w va ats) (hC : Reads w vc c) (hT : Reads w vt t) (hg : Laid w ∧ KindsLaid w) :
    Calls Tryd.prog 6 #[.agg #[va, vc], vt, .int .i64 u] w fun e w' => e = .returned (.bool true) ∧ Below w.heap.size w w' := by
  obtain ⟨hL, hK⟩ := hg
  exact spanTells_of va vc vt ats c t u w hA hC hT hL
    (fun va vc vt ats c t u W hW h1 h2 h3 => spanOf_any va vc vt ats c t u W h1 h2 h3 (hK.below hW))
    (fun va vc vt ats c t u W hW h1 h2 h3 => exact_any va vc vt ats c t u W h1 h2 h3 (hK.below hW))
end Go.Proofs.YtgkgbpbohgklhagDoor
