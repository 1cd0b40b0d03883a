/-
  Proved: vennlaw1.FieldsTell returns true, whatever its arguments; what was in memory is as it was. Written by program.
-/
import Derived.Test.YtenmheenieifpacDoorFieldsTellWalkGG
import Derived.Test.YtenmheenieifpacDoorFieldsTellWalkGB
import Derived.Test.YtenmheenieifpacDoorFieldsTellWalkBG
import Derived.Test.YtenmheenieifpacDoorFieldsTellWalkBB
namespace Go.Proofs.YtenmheenieifpacDoor
open Go.ChangeShapes Go.WideShapes Go.ChangeAt Go.RowKit
set_option maxRecDepth 100000

theorem fieldsTell_walk (u a b c : Int) (N : Nat → Int) (t : List Int) (v : Value) (w : World) (h : Reads w v t) (hG : Laid w) :
    Calls Tryd.prog 6 #[.agg #[.int .i64 u, .int .i64 a, .int .i64 b, .int .i64 c], .agg #[.int .i64 (N 0), .int .i64 (N 1), .int .i64 (N 2), .int .i64 (N 3), .int .i64 (N 4), .int .i64 (N 5), .int .i64 (N 6), .int .i64 (N 7)], v] w fun e w' => e = .returned (.bool true) ∧ Below w.heap.size w w' := by
  rcases (Bool.eq_false_or_eq_true (Wd.mk u a b c).ok) with ho | ho <;> by_cases hc : countsFault N = 0 <;> by_cases hf : faultN t = 0
  · exact fieldsTell_GGG t v u a b c N w h hG ho hc hf
  · exact fieldsTell_GGB t v u a b c N w h hG ho hc hf
  · exact fieldsTell_GBG t v u a b c N w h hG ho hc hf
  · exact fieldsTell_GBB t v u a b c N w h hG ho hc hf
  · exact fieldsTell_BGG t v u a b c N w h hG ho hc hf
  · exact fieldsTell_BGB t v u a b c N w h hG ho hc hf
  · exact fieldsTell_BBG t v u a b c N w h hG ho hc hf
  · exact fieldsTell_BBB t v u a b c N w h hG ho hc hf
end Go.Proofs.YtenmheenieifpacDoor
