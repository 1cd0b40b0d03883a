/-
  Proved: whatever the arguments, vennlaw1.AtomBack returns true, and what was in memory is as it was: the cases put together.
-/
import Derived.Test.YtenmheenieifpabGreatDoorAtomBackWalkGG
import Derived.Test.YtenmheenieifpabGreatDoorAtomBackWalkGB
import Derived.Test.YtenmheenieifpabGreatDoorAtomBackWalkBG
import Derived.Test.YtenmheenieifpabGreatDoorAtomBackWalkBB
namespace Go.Proofs.YtenmheenieifpabGreatDoor
open Go.ChangeShapes Go.WideShapes Go.ChangeAt Go.RowKit
set_option maxRecDepth 100000

theorem atomBack_walk (k n : Int) (vs vt : Value) (s t : List Int) (st : ByteArray) (u a b c : Int) (p : List Int) (vp : Value) (q : List Int) (vq : Value) (w : World) (hS : Reads w vs s) (hT : Reads w vt t) (hz : st.data.toList.length ≤ reachBytes) (hP : Reads w vp p) (hQ : Reads w vq q) (hL : KindsLaid w ∧ LibLaid w) :
    Calls Tryz.prog 4 #[.agg #[.int .i64 k, vs, vt, .int .i64 n], .string st, .agg #[.int .i64 u, .int .i64 a, .int .i64 b, .int .i64 c], vp, vq] w fun e w' => e = .returned (.bool true) ∧ Below w.heap.size w w' := by
  have hz' : st.size ≤ 9223372036854775806 := by
    have h1 : st.data.toList.length = st.size := Array.length_toList
    have h2 : reachBytes ≤ 9223372036854775806 := by decide
    omega
  obtain ⟨sao, scap, rfl, _⟩ := hS.slice
  obtain ⟨tao, tcap, rfl, _⟩ := hT.slice
  obtain ⟨pao, pcap, rfl, _⟩ := hP.slice
  obtain ⟨qao, qcap, rfl, _⟩ := hQ.slice
  by_cases hs : wordsFault (seen st) = 0
  · by_cases ha : atomFault k s t n = 0
    · by_cases ht : (Wd.mk u a b c).holdsFault 2 p q 0 = 0
      · exact atomBack_GGh k n sao tao pao qao _ _ _ _ scap tcap pcap qcap s t p q st u a b c w hS hT hz' hP hQ hL.1 hL.2 hs ha ht
      · exact atomBack_GGe k n sao tao pao qao _ _ _ _ scap tcap pcap qcap s t p q st u a b c w hS hT hz' hP hQ hL.1 hL.2 hs ha ht
    · by_cases ht : (Wd.mk u a b c).holdsFault 2 p q 0 = 0
      · exact atomBack_GBh k n sao tao pao qao _ _ _ _ scap tcap pcap qcap s t p q st u a b c w hS hT hz' hP hQ hL.1 hL.2 hs ha ht
      · exact atomBack_GBe k n sao tao pao qao _ _ _ _ scap tcap pcap qcap s t p q st u a b c w hS hT hz' hP hQ hL.1 hL.2 hs ha ht
  · by_cases ha : atomFault k s t n = 0
    · by_cases ht : (Wd.mk u a b c).holdsFault 2 p q 0 = 0
      · exact atomBack_BGh k n sao tao pao qao _ _ _ _ scap tcap pcap qcap s t p q st u a b c w hS hT hz' hP hQ hL.1 hL.2 hs ha ht
      · exact atomBack_BGe k n sao tao pao qao _ _ _ _ scap tcap pcap qcap s t p q st u a b c w hS hT hz' hP hQ hL.1 hL.2 hs ha ht
    · by_cases ht : (Wd.mk u a b c).holdsFault 2 p q 0 = 0
      · exact atomBack_BBh k n sao tao pao qao _ _ _ _ scap tcap pcap qcap s t p q st u a b c w hS hT hz' hP hQ hL.1 hL.2 hs ha ht
      · exact atomBack_BBe k n sao tao pao qao _ _ _ _ scap tcap pcap qcap s t p q st u a b c w hS hT hz' hP hQ hL.1 hL.2 hs ha ht
end Go.Proofs.YtenmheenieifpabGreatDoor
