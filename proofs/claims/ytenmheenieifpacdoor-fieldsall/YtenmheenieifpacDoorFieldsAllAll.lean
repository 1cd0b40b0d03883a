/-
  Proved: vennlaw1.FieldsAll returns true, whatever its arguments; what was in memory is as it was. Written by program.
-/
import Derived.Test.YtenmheenieifpacDoorFieldsAllWalkG
import Derived.Test.YtenmheenieifpacDoorFieldsAllWalkB
namespace Go.Proofs.YtenmheenieifpacDoor
open Go.ChangeShapes Go.WideShapes Go.ChangeAt Go.RowKit
set_option maxRecDepth 100000

theorem fieldsAll_walk (u a b c : Int) (N : Nat → Int) (t : List Int) (v : Value) (va vc : Value) (ats : List At) (cd : List Int) (w : World) (h : Reads w v t) (hA : ReadsA w va ats) (hC : Reads w vc cd) (hK : KindsLaid w) :
    Calls Tryd.prog 7 #[.agg #[.int .i64 u, .int .i64 a, .int .i64 b, .int .i64 c], .agg #[.int .i64 (N 0), .int .i64 (N 1), .int .i64 (N 2), .int .i64 (N 3), .int .i64 (N 4), .int .i64 (N 5), .int .i64 (N 6), .int .i64 (N 7)], v, .agg #[va, vc]] w fun e w' => e = .returned (.bool true) ∧ Below w.heap.size w w' := by
  obtain ⟨ao, acap, rfl, _⟩ := hA.slice
  obtain ⟨co, ccap, rfl, _⟩ := hC.slice
  by_cases hc : countsFault N = 0 <;> rcases (Bool.eq_false_or_eq_true (Wd.mk u a b c).ok).symm with ho | ho
  · exact fieldsAll_GX u a b c N t v ao co _ _ acap ccap ats cd w h hA hC hK ho hc
  · by_cases hf : faultN t = 0
    · exact fieldsAll_GG u a b c N t v ao co _ _ acap ccap ats cd w h hA hC hK ho hc hf
    · exact fieldsAll_GB u a b c N t v ao co _ _ acap ccap ats cd w h hA hC hK ho hc hf
  · exact fieldsAll_BX u a b c N t v ao co _ _ acap ccap ats cd w h hA hC hK ho hc
  · by_cases hf : faultN t = 0
    · exact fieldsAll_BG u a b c N t v ao co _ _ acap ccap ats cd w h hA hC hK ho hc hf
    · exact fieldsAll_BB u a b c N t v ao co _ _ acap ccap ats cd w h hA hC hK ho hc hf
end Go.Proofs.YtenmheenieifpacDoor
