/-
  Proved: vennlaw2.AlikeTells returns true, of any two rows and any two numbers; what was in memory is as it was (the walk that the statement leans on).
-/
import Derived.Test.YtpdpnlpepfgknafDoorAlikeTellsAll
import Derived.Test.YtpdpnlpepfgknafDoorAlikeDo
import Derived.Test.YtpdpnlpepfgknafDoorAlikeSwap
namespace Go.Proofs.YtpdpnlpepfgknafDoor
open Go.ChangeShapes Go.WideShapes Go.ChangeAt Go.RowKit

theorem alikeTells_walk (s : List Int) (vs : Value) (t : List Int) (vt : Value) (x y : Int) (w : World) (hS : Reads w vs s) (hT : Reads w vt t) (hg : Laid w) :
    Calls Tryd.prog 5 #[vs, vt, .int .i64 x, .int .i64 y] w fun e w' => e = .returned (.bool true) ∧ Below w.heap.size w w' :=
  alikeTells_of vs vt s t x y w hS hT hg
    (fun vs vt s t W _ h1 h2 => alikeSame_any vs vt s t W h1 h2)
    (fun vs vt s t W _ h1 h2 => alikePart_any vs vt s t W h1 h2)
    (fun vs vt s t W _ h1 h2 => alikeApart_any vs vt s t W h1 h2)
    (fun vs s x y W _ h1 => alikeSwap_any vs s x y W h1)
end Go.Proofs.YtpdpnlpepfgknafDoor
