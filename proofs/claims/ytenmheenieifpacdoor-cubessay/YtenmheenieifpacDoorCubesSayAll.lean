/-
  Proved: whatever the formula and the world, vennlaw1.CubesSay returns true, and what was in memory is as it was: the cases put together.
-/
import Derived.Test.YtenmheenieifpacDoorCubesSayWalkE
import Derived.Test.YtenmheenieifpacDoorCubesSayWalkF
import Derived.Test.YtenmheenieifpacDoorCubesSayWalkW
import Derived.Test.YtenmheenieifpacDoorCubesSayWalkG
namespace Go.Proofs.YtenmheenieifpacDoor
open Go.ChangeShapes Go.WideShapes Go.ChangeAt Go.RowKit
set_option maxRecDepth 100000

theorem cubesSay_walk (va vc : Value) (ats : List At) (c : List Int) (u a b d : Int) (w : World) (hA : ReadsA w va ats) (hC : Reads w vc c) (hK : KindsLaid w) :
    Calls Tryd.prog 4 #[.agg #[va, vc], .agg #[.int .i64 u, .int .i64 a, .int .i64 b, .int .i64 d]] w fun e w' => e = .returned (.bool true) ∧ Below w.heap.size w w' := by
  obtain ⟨ao, acap, rfl, _⟩ := hA.slice
  obtain ⟨co, ccap, rfl, _⟩ := hC.slice
  by_cases hf : formFault ats c = 0
  · cases hcu : cubesC c with
    | none => exact cubesSay_F ao co acap ccap ats c _ _ u a b d w hA hC hK hf hcu
    | some L =>
      cases hok : (Wd.mk u a b d).ok with
      | false => exact cubesSay_W ao co acap ccap ats c _ _ rfl rfl u a b d w hA hC hK L hf hcu hok
      | true => exact cubesSay_G ao co acap ccap ats c _ _ rfl rfl u a b d w hA hC hK L hf hcu hok
  · exact cubesSay_E ao co acap ccap ats c _ _ u a b d w hA hC hK hf
end Go.Proofs.YtenmheenieifpacDoor
