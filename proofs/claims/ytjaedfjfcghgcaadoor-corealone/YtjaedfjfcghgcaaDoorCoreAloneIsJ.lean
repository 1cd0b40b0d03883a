/-
  Proved: vennlaw4.CoreAlone returns true, of any row of signs and any number of things; what was in memory is as it was (the walk that the statement leans on).
-/
import Derived.Test.YtjaedfjfcghgcaaDoorCoreAloneWalkJ
import Derived.Test.YtjaedfjfcghgcaaDoorLibA21
namespace Go.Proofs.YtjaedfjfcghgcaaDoor
open Go.ChangeShapes Go.WideShapes Go.ChangeAt Go.RowKit

theorem coreAlone_walk (t : List Int) (vt : Value) (u : Int) (w : World) (hT : Reads w vt t) (hK : KindsLaid w) :
    Calls Tryd.prog 5 #[vt, .int .i64 u] w fun e w' => e = .returned (.bool true) ∧ Below w.heap.size w w' :=
  coreAlone_of vt t u w hT
    (fun vt t W h => (tcheck_any t vt W h).mono fun e w' ⟨h1, h2⟩ => ⟨h1, by rw [← h2]; exact Below.refl _ _⟩)
    (fun v fs u W hW h => coreOpen_any v fs u W h (hK.below hW))
    (fun v fs u W hW h => coreOf_any v fs u W h (hK.below hW))
end Go.Proofs.YtjaedfjfcghgcaaDoor
