/-
  Proved: whatever the formulas and the world, vennlaw1.FormTurns returns true, and what was in memory is as it was: the cases put together.
-/
import Derived.Test.YtenmheenieifpabDoorFormTurnsWalkE
import Derived.Test.YtenmheenieifpabDoorFormTurnsWalkN
import Derived.Test.YtenmheenieifpabDoorFormTurnsWalkF
namespace Go.Proofs.YtenmheenieifpabDoor
open Go.ChangeShapes Go.WideShapes Go.ChangeAt Go.RowKit
set_option maxRecDepth 100000

theorem formTurns_walk (va vc : Value) (ats : List At) (c : List Int) (u a b e1 : Int) (vb vd : Value) (bts : List At) (d : List Int) (w : World) (hA : ReadsA w va ats) (hC : Reads w vc c) (hA2 : ReadsA w vb bts) (hC2 : Reads w vd d) (hK : KindsLaid w) :
    Calls Tryd.prog 6 #[.agg #[va, vc], .agg #[.int .i64 u, .int .i64 a, .int .i64 b, .int .i64 e1], .agg #[vb, vd]] w fun e w' => e = .returned (.bool true) ∧ Below w.heap.size w w' := by
  obtain ⟨ao, acap, rfl, _⟩ := hA.slice
  obtain ⟨co, ccap, rfl, _⟩ := hC.slice
  obtain ⟨bo, bcap, rfl, _⟩ := hA2.slice
  obtain ⟨eo, ecap, rfl, _⟩ := hC2.slice
  by_cases hf : (Wd.mk u a b e1).formFault ats c = 0
  · by_cases hn : c.length ≤ 19
    · by_cases hg : (Wd.mk u a b e1).formFault bts d = 0
      · by_cases hq : 6 < ats.length + bts.length ∨ 19 < c.length + d.length
        · exact formTurns_N4 ao co bo eo acap ccap bcap ecap ats bts c d _ _ _ _ rfl rfl rfl rfl u a b e1 w hA hC hA2 hC2 hK hf hn hg hq
        · exact formTurns_N0 ao co bo eo acap ccap bcap ecap ats bts c d _ _ _ _ rfl rfl rfl rfl u a b e1 w hA hC hA2 hC2 hK hf hn hg hq
      · exact formTurns_NE ao co bo eo acap ccap bcap ecap ats bts c d _ _ _ _ rfl rfl rfl rfl u a b e1 w hA hC hA2 hC2 hK hf hn hg
    · have hn : c.length = 20 := by have := (formFault_zero.1 (wdForm_zero.1 hf).1).2.1; omega
      by_cases hg : (Wd.mk u a b e1).formFault bts d = 0
      · by_cases hq : 6 < ats.length + bts.length ∨ 19 < c.length + d.length
        · exact formTurns_F4 ao co bo eo acap ccap bcap ecap ats bts c d _ _ _ _ rfl rfl rfl rfl u a b e1 w hA hC hA2 hC2 hK hf hn hg hq
        · exact formTurns_F0 ao co bo eo acap ccap bcap ecap ats bts c d _ _ _ _ rfl rfl rfl rfl u a b e1 w hA hC hA2 hC2 hK hf hn hg hq
      · exact formTurns_FE ao co bo eo acap ccap bcap ecap ats bts c d _ _ _ _ rfl rfl rfl rfl u a b e1 w hA hC hA2 hC2 hK hf hn hg
  · exact formTurns_E ao co bo eo acap ccap bcap ecap ats bts c d _ _ _ _ rfl rfl rfl rfl u a b e1 w hA hC hA2 hC2 hK hf
end Go.Proofs.YtenmheenieifpabDoor
