/-
  Proved: vennlaw2.CoreTells returns true, of any formulas and any number of things; what was in memory is as it was (the walk that the statement leans on).
-/
import Derived.Test.YtjaedfjfcghgcaaDoorCoreTellsAllJ
import Derived.Test.YtjaedfjfcghgcaaDoorLibA21
namespace Go.Proofs.YtjaedfjfcghgcaaDoor
open Go.ChangeShapes Go.WideShapes Go.ChangeAt Go.RowKit

theorem coreTells_walk (fs : List Fm) (v : Value) (u : Int) (w : World) (hF : ReadsF w v fs) (hg : Laid w ∧ KindsLaid w) :
    Calls Tryd.prog 3 #[v, .int .i64 u] w fun e w' => e = .returned (.bool true) ∧ Below w.heap.size w w' := by
  obtain ⟨hL, hK⟩ := hg
  exact coreTells_of v fs u w hF hL
    (fun v fs u W hW h => coreOpen_any v fs u W h (hK.below hW))
    (fun v fs u W hW h => coreOf_any v fs u W h (hK.below hW))
end Go.Proofs.YtjaedfjfcghgcaaDoor
