/-
  Proved: whatever the arguments (the text of at most 1048576 bytes), vennlaw1.AtomTells returns true, and what was in memory is as it was: the cases put together.
-/
import Derived.Test.YtfjaooiaidcoaabGreatDoorAtomTellsWalkB
import Derived.Test.YtfjaooiaidcoaabGreatDoorAtomTellsWalkW
import Derived.Test.YtfjaooiaidcoaabGreatDoorAtomTellsWalkG
namespace Go.Proofs.YtfjaooiaidcoaabGreatDoor
open Go.ChangeShapes Go.WideShapes Go.ChangeAt Go.RowKit
set_option maxRecDepth 100000

theorem atomTells_walk (k n : Int) (vs vt : Value) (s t : List Int) (u a b c : Int) (st : ByteArray) (w : World) (hS : Reads w vs s) (hT : Reads w vt t) (hz : st.size ≤ 1048576) (hL : Laid w ∧ KindsLaid w ∧ LibLaid w) :
    Calls Tryz.prog 3 #[.agg #[.int .i64 k, vs, vt, .int .i64 n], .agg #[.int .i64 u, .int .i64 a, .int .i64 b, .int .i64 c], .string st] w fun e w' => e = .returned (.bool true) ∧ Below w.heap.size w w' := by
  obtain ⟨sao, scap, rfl, _⟩ := hS.slice
  obtain ⟨tao, tcap, rfl, _⟩ := hT.slice
  by_cases hs : wordsFault (cutL st.data.toList) = 0
  · by_cases ha : atomFault k s t n = 0
    · by_cases hok : (Wd.mk u a b c).ok = true
      · exact atomTells_Gg k n sao tao _ _ scap tcap s t st u a b c w hS hT hz hL.2.1 hL.2.2 hL.1 ha hok hs
      · exact atomTells_Wg k n sao tao _ _ scap tcap s t st u a b c w hS hT hz hL.2.1 hL.2.2 hL.1 ha hok hs
    · exact atomTells_Bg k n sao tao _ _ scap tcap s t st u a b c w hS hT hz hL.2.1 hL.2.2 hL.1 ha hs
  · by_cases ha : atomFault k s t n = 0
    · by_cases hok : (Wd.mk u a b c).ok = true
      · exact atomTells_Gb k n sao tao _ _ scap tcap s t st u a b c w hS hT hz hL.2.1 hL.2.2 hL.1 ha hok hs
      · exact atomTells_Wb k n sao tao _ _ scap tcap s t st u a b c w hS hT hz hL.2.1 hL.2.2 hL.1 ha hok hs
    · exact atomTells_Bb k n sao tao _ _ scap tcap s t st u a b c w hS hT hz hL.2.1 hL.2.2 hL.1 ha hs
end Go.Proofs.YtfjaooiaidcoaabGreatDoor
