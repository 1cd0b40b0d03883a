/-
  Proved: vennlaw2.AskTells returns true, of any formulas, any other one and any number of things; what was in memory is as it was (the walk that the statement leans on).
-/
import Derived.Test.YtjaedfjfcghgcaaDoorAskTellsAllJ
import Derived.Test.YtjaedfjfcghgcaaDoorLibA24
namespace Go.Proofs.YtjaedfjfcghgcaaDoor
open Go.ChangeShapes Go.WideShapes Go.ChangeAt Go.RowKit

theorem askTells_walk (fs : List Fm) (v : Value) (va vc : Value) (ats : List At) (c : List Int) (u : Int) (w : World) (hF : ReadsF w v fs) (hA : ReadsA w va ats) (hC : Reads w vc c) (hg : Laid w ∧ KindsLaid w) :
    Calls Tryd.prog 6 #[v, .agg #[va, vc], .int .i64 u] w fun e w' => e = .returned (.bool true) ∧ Below w.heap.size w w' := by
  obtain ⟨hL, hK⟩ := hg
  exact askTells_of v va vc fs ats c u w hF hA hC hL
    (fun v va vc fs ats c u W hW h0 h1 h2 => askOf_any v va vc fs ats c u W h0 h1 h2 (hK.below hW))
    (fun v va vc fs ats c W hW h0 h1 h2 => askAlways_any v va vc fs ats c W h0 h1 h2 (hK.below hW))
end Go.Proofs.YtjaedfjfcghgcaaDoor
