/-
  Proved: vennlaw2.AlikeWorlds returns true, of any two rows, any world and any two numbers; what was in memory is as it was (the walk that the statement leans on).
-/
import Derived.Test.YtpdpnlpepfgknafGreatDoorAlikeWorldsAllJ
import Derived.Test.YtpdpnlpepfgknafGreatDoorLibAB1
import Derived.Test.YtpdpnlpepfgknafGreatDoorLibMB1
namespace Go.Proofs.YtpdpnlpepfgknafGreatDoor
open Go.ChangeShapes Go.WideShapes Go.ChangeAt Go.RowKit

theorem alikeWorlds_walk (s : List Int) (vs : Value) (t : List Int) (vt : Value) (wu wa wb wc x y : Int) (w : World) (hS : Reads w vs s) (hT : Reads w vt t) (hg : Laid w ∧ KindsLaid w ∧ TimesLaid w) :
    Calls Tryz.prog 5 #[vs, vt, .agg #[.int .i64 wu, .int .i64 wa, .int .i64 wb, .int .i64 wc], .int .i64 x, .int .i64 y] w fun e w' => e = .returned (.bool true) ∧ Below w.heap.size w w' := by
  obtain ⟨hL, hK, hTi⟩ := hg
  exact alikeWorlds_of vs vt s t wu wa wb wc x y w hS hT
    (fun vs vt s t W _ h1 h2 => alikeSame_any vs vt s t W h1 h2)
    (fun vs vt s t W _ h1 h2 => alikePart_any vs vt s t W h1 h2)
    (fun vs vt s t W _ h1 h2 => alikeApart_any vs vt s t W h1 h2)
    (fun vs s x y W _ h1 => alikeSwap_any vs s x y W h1)
    (fun va vc ats c u W hW hA hC => sure_any va vc ats c u W hA hC (hK.below hW) (hTi.below hW) (hL.below hW))
end Go.Proofs.YtpdpnlpepfgknafGreatDoor
