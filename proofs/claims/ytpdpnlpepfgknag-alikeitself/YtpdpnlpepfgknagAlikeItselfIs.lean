/-
  Proved: vennlaw4.AlikeItself returns true, of any row; what was in memory is as it was (the walk that the statement leans on).
-/
import Derived.Test.YtpdpnlpepfgknagAlikeItselfWalk
import Derived.Test.YtpdpnlpepfgknagAlikeDo
namespace Go.Proofs.Ytpdpnlpepfgknag
open Go.ChangeShapes Go.WideShapes Go.ChangeAt Go.RowKit

theorem alikeItself_walk (t : List Int) (vt : Value) (w : World) (hT : Reads w vt t) :
    Calls Try.prog 3 #[vt] w fun e w' => e = .returned (.bool true) ∧ Below w.heap.size w w' :=
  alikeItself_of vt t w hT
    (fun vt t W h => (tcheck_any t vt W h).mono fun _ _ g => ⟨g.1, by rw [← g.2]; exact Below.refl _ _⟩)
    (fun vs vt s t W _ h1 h2 => alikeSame_any vs vt s t W h1 h2)
    (fun vs vt s t W _ h1 h2 => alikePart_any vs vt s t W h1 h2)
    (fun vs vt s t W _ h1 h2 => alikeApart_any vs vt s t W h1 h2)
end Go.Proofs.Ytpdpnlpepfgknag
