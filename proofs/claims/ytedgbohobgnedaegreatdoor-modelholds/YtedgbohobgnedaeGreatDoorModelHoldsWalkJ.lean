/-
  Proved: vennlaw1.ModelHolds returns true where what it calls answers as chapter 9 says; what was in memory is as it was (the walk that the statement leans on). Written by program.
-/
import Derived.Test.YtedgbohobgnedaeGreatDoorModelManyWalkJ
import Derived.Deep.CutRange
namespace Go.Proofs.YtedgbohobgnedaeGreatDoor
open Go.ChangeShapes Go.WideShapes Go.ChangeAt Go.RowKit
set_option maxRecDepth 100000

theorem six_at (w : World) (o0 o1 o2 o3 o4 o5 : Obj) :
    ((((((w.alloc o0).alloc o1).alloc o2).alloc o3).alloc o4).alloc o5).heap[w.heap.size]? = some o0 ∧
    ((((((w.alloc o0).alloc o1).alloc o2).alloc o3).alloc o4).alloc o5).heap[w.heap.size + 1]? = some o1 ∧
    ((((((w.alloc o0).alloc o1).alloc o2).alloc o3).alloc o4).alloc o5).heap[w.heap.size + 1 + 1]? = some o2 ∧
    ((((((w.alloc o0).alloc o1).alloc o2).alloc o3).alloc o4).alloc o5).heap[w.heap.size + 1 + 1 + 1]? = some o3 ∧
    ((((((w.alloc o0).alloc o1).alloc o2).alloc o3).alloc o4).alloc o5).heap[w.heap.size + 1 + 1 + 1 + 1]? = some o4 ∧
    ((((((w.alloc o0).alloc o1).alloc o2).alloc o3).alloc o4).alloc o5).heap[w.heap.size + 1 + 1 + 1 + 1 + 1]? = some o5 ∧
    Below w.heap.size w ((((((w.alloc o0).alloc o1).alloc o2).alloc o3).alloc o4).alloc o5) := by
  have s1 : (w.alloc o0).heap.size = w.heap.size + 1 := World.size_alloc _ _
  have s2 : ((w.alloc o0).alloc o1).heap.size = w.heap.size + 1 + 1 := by rw [World.size_alloc, s1]
  obtain ⟨h0, h1, h2, h3, hb⟩ := four_at ((w.alloc o0).alloc o1) o2 o3 o4 o5
  have hb2 : Below w.heap.size w ((w.alloc o0).alloc o1) := (below_alloc1 _ _).alloc (by omega) _
  rw [s2] at h0 h1 h2 h3
  refine ⟨?_, ?_, h0, h1, h2, h3, hb2.trans (hb.mono (by omega))⟩
  · rw [hb.block _ (by omega), Below.heap_alloc _ _ _ (by omega)]; exact heap_alloc_new _ _
  · rw [hb.block _ (by omega), ← s1]; exact heap_alloc_new _ _

set_option maxHeartbeats 4000000 in
theorem modelHolds_in (ao : Option Addr) (M acap : Nat) (co : Option Addr) (nc ccap : Nat) (u wu wa wb wc : Int) (h mi : Bool) (EH E1 : Value) (xu xa xb xc : Int) (w : World)
    (HOne : Hid (∀ W b1 b2, Below w.heap.size w W → ReadsA W (.slice (some ⟨b1, 0, none⟩) 1 1) (manyA 0 2) → Reads W (.slice (some ⟨b2, 0, none⟩) 1 1) [0] → Calls Tryz.prog 8 #[.agg #[.slice (some ⟨b1, 0, none⟩) 1 1, .slice (some ⟨b2, 0, none⟩) 1 1], .int .i64 2] W fun e w' => e = .returned (.tuple #[.agg #[.int .i64 2, .int .i64 3, .int .i64 3, .int .i64 3], .nilIface]) ∧ Below W.heap.size W w'))
    (HTwo : Hid (∀ W b1 b2, Below w.heap.size w W → ReadsA W (.slice (some ⟨b1, 0, none⟩) 1 1) (manyA 0 2) → Reads W (.slice (some ⟨b2, 0, none⟩) 1 1) [0] → Calls Tryz.prog 8 #[.agg #[.slice (some ⟨b1, 0, none⟩) 1 1, .slice (some ⟨b2, 0, none⟩) 1 1], .int .i64 1] W fun e w' => e = .returned (.tuple #[.agg #[.int .i64 0, .int .i64 0, .int .i64 0, .int .i64 0], .iface 74 (.int .i64 5)]) ∧ Below W.heap.size W w'))
    (HE5 : Hid (∀ W, Below w.heap.size w W → Calls Tryz.prog 9 #[.iface 74 (.int .i64 5), .int .i64 5] W fun e w' => e = .returned (.bool true) ∧ Below W.heap.size W w'))
    (HOf : Hid (∀ W, Below w.heap.size w W → Calls Tryz.prog 8 #[.agg #[.slice ao M acap, .slice co nc ccap], .int .i64 u] W fun e w' => e = .returned (.tuple #[.agg #[.int .i64 xu, .int .i64 xa, .int .i64 xb, .int .i64 xc], E1]) ∧ Below W.heap.size W w'))
    (HHo : Hid (∀ W, Below w.heap.size w W → Calls Tryz.prog 14 #[.agg #[.slice ao M acap, .slice co nc ccap], .agg #[.int .i64 wu, .int .i64 wa, .int .i64 wb, .int .i64 wc]] W fun e w' => e = .returned (.tuple #[.bool h, EH]) ∧ Below W.heap.size W w'))
    (HP : (∃ n, EH = .iface 74 (.int .i64 n) ∧ mi = false) ∨ (EH = .nilIface ∧ mi = (wu == u)))
    (HA : (E1 = .nilIface ∧ u = xu ∧ Hid (∀ W, Below w.heap.size w W → Calls Tryz.prog 14 #[.agg #[.slice ao M acap, .slice co nc ccap], .agg #[.int .i64 u, .int .i64 xa, .int .i64 xb, .int .i64 xc]] W fun e w' => e = .returned (.tuple #[.bool true, .nilIface]) ∧ Below W.heap.size W w')) ∨ (E1 = .iface 74 (.int .i64 5) ∧ Hid (∀ W, Below w.heap.size w W → Calls Tryz.prog 15 #[.agg #[.slice ao M acap, .slice co nc ccap]] W fun e w' => e = .returned (.nilIface) ∧ Below W.heap.size W w') ∧ (mi = false ∨ h = false)) ∨ (E1 = .iface 74 (.int .i64 5) ∧ ∃ n, Hid (∀ W, Below w.heap.size w W → Calls Tryz.prog 15 #[.agg #[.slice ao M acap, .slice co nc ccap]] W fun e w' => e = .returned (.iface 74 (.int .i64 n)) ∧ Below W.heap.size W w')) ∨ (∃ n, E1 = .iface 74 (.int .i64 n) ∧ Hid (∀ W, Below w.heap.size w W → Calls Tryz.prog 9 #[.iface 74 (.int .i64 n), .int .i64 5] W fun e w' => e = .returned (.bool false) ∧ Below W.heap.size W w')))
    (HB : (∃ s n, Hid (∀ W, Below w.heap.size w W → Calls Tryz.prog 13 #[.agg #[.slice ao M acap, .slice co nc ccap], .int .i64 u] W fun e w' => e = .returned (.tuple #[.bool s, .iface 74 (.int .i64 n)]) ∧ Below W.heap.size W w')) ∨ (∃ yu ya yb yc : Int, Hid (∀ W, Below w.heap.size w W → Calls Tryz.prog 13 #[.agg #[.slice ao M acap, .slice co nc ccap], .int .i64 u] W fun e w' => e = .returned (.tuple #[.bool true, .nilIface]) ∧ Below W.heap.size W w') ∧ Hid (∀ W, Below w.heap.size w W → Calls Tryz.prog 11 #[.agg #[.slice ao M acap, .slice co nc ccap], .int .i64 u] W fun e w' => e = .returned (.tuple #[.agg #[.int .i64 yu, .int .i64 ya, .int .i64 yb, .int .i64 yc], .iface 74 (.int .i64 5)]) ∧ Below W.heap.size W w') ∧ (mi = false ∨ h = true)) ∨ (∃ ya yb yc : Int, Hid (∀ W, Below w.heap.size w W → Calls Tryz.prog 13 #[.agg #[.slice ao M acap, .slice co nc ccap], .int .i64 u] W fun e w' => e = .returned (.tuple #[.bool false, .nilIface]) ∧ Below W.heap.size W w') ∧ Hid (∀ W, Below w.heap.size w W → Calls Tryz.prog 11 #[.agg #[.slice ao M acap, .slice co nc ccap], .int .i64 u] W fun e w' => e = .returned (.tuple #[.agg #[.int .i64 u, .int .i64 ya, .int .i64 yb, .int .i64 yc], .nilIface]) ∧ Below W.heap.size W w') ∧ Hid (∀ W, Below w.heap.size w W → Calls Tryz.prog 9 #[.nilIface, .int .i64 5] W fun e w' => e = .returned (.bool false) ∧ Below W.heap.size W w') ∧ Hid (∀ W, Below w.heap.size w W → Calls Tryz.prog 14 #[.agg #[.slice ao M acap, .slice co nc ccap], .agg #[.int .i64 u, .int .i64 ya, .int .i64 yb, .int .i64 yc]] W fun e w' => e = .returned (.tuple #[.bool false, .nilIface]) ∧ Below W.heap.size W w'))) :
    Calls Tryz.prog 4 #[.agg #[.slice ao M acap, .slice co nc ccap], .int .i64 u, .agg #[.int .i64 wu, .int .i64 wa, .int .i64 wb, .int .i64 wc]] w fun e w' => e = .returned (.bool true) ∧ Below w.heap.size w w' := by
  have HAH : Hid _ := HA
  have HBH : Hid _ := HB
  have HPH : Hid _ := HP
  clear HA HB HP
  obtain ⟨b0, b1, b2, b3, b4, b5, hB0⟩ := six_at w (.cells #[.slice ao M acap, .slice co nc ccap] 25) (.cells #[.int .i64 wu, .int .i64 wa, .int .i64 wb, .int .i64 wc] 28) (.cells #[.int .i64 0] 3) (.cells #[.int .i64 3, .slice (some ⟨w.heap.size + 1 + 1, 0, none⟩) 1 1, .slice none 0 0, .int .i64 2] 43) (.cells #[.int .i64 0] 3) (.cells #[.slice (some ⟨w.heap.size + 1 + 1 + 1, 0, none⟩) 1 1, .slice (some ⟨w.heap.size + 1 + 1 + 1 + 1, 0, none⟩) 1 1] 25)
  obtain ⟨w1, hw1⟩ : ∃ x, x = ((((((w.alloc (.cells #[.slice ao M acap, .slice co nc ccap] 25)).alloc (.cells #[.int .i64 wu, .int .i64 wa, .int .i64 wb, .int .i64 wc] 28)).alloc (.cells #[.int .i64 0] 3)).alloc (.cells #[.int .i64 3, .slice (some ⟨w.heap.size + 1 + 1, 0, none⟩) 1 1, .slice none 0 0, .int .i64 2] 43)).alloc (.cells #[.int .i64 0] 3)).alloc (.cells #[.slice (some ⟨w.heap.size + 1 + 1 + 1, 0, none⟩) 1 1, .slice (some ⟨w.heap.size + 1 + 1 + 1 + 1, 0, none⟩) 1 1] 25)) := ⟨_, rfl⟩
  rw [← hw1] at b0 b1 b2 b3 b4 b5 hB0
  have B1 : Hid (Below w.heap.size w w1) := hB0
  have k0w1 : Hid (Blk w1 w.heap.size 25 #[.slice ao M acap, .slice co nc ccap]) := b0
  have k1w1 : Hid (Blk w1 (w.heap.size + 1) 28 #[.int .i64 wu, .int .i64 wa, .int .i64 wb, .int .i64 wc]) := b1
  have k2 : Blk w1 (w.heap.size + 1 + 1) 3 #[.int .i64 0] := b2
  have k3 : Blk w1 (w.heap.size + 1 + 1 + 1) 43 #[.int .i64 3, .slice (some ⟨w.heap.size + 1 + 1, 0, none⟩) 1 1, .slice none 0 0, .int .i64 2] := b3
  have k4 : Blk w1 (w.heap.size + 1 + 1 + 1 + 1) 3 #[.int .i64 0] := b4
  have k5w1 : Hid (Blk w1 (w.heap.size + 1 + 1 + 1 + 1 + 1) 25 #[.slice (some ⟨w.heap.size + 1 + 1 + 1, 0, none⟩) 1 1, .slice (some ⟨w.heap.size + 1 + 1 + 1 + 1, 0, none⟩) 1 1]) := b5
  have hRA : ReadsA w1 (.slice (some ⟨w.heap.size + 1 + 1 + 1, 0, none⟩) 1 1) (manyA 0 2) := by
    refine Or.inr ⟨w.heap.size + 1 + 1 + 1, 0, 1, rfl, k3.lt, by simp [manyA], ⟨by simp [manyA], by simp [manyA]⟩, fun i a ha => ?_⟩
    cases i with
    | zero =>
      obtain rfl : (⟨3, [0], [], 2⟩ : At) = a := by simpa [manyA] using ha
      refine ⟨_, _, k3.cell 0, k3.cell 1, k3.cell 2, k3.cell 3, Or.inr ⟨w.heap.size + 1 + 1, 0, 1, rfl, k2.lt, by simp, ⟨by simp, by simp⟩, fun j hj => ?_⟩, Or.inl ⟨none, 0, rfl, rfl⟩⟩
      obtain rfl : j = 0 := by simp at hj; exact hj
      exact k2.cell 0
    | succ i => simp [manyA] at ha
  have hRC : Reads w1 (.slice (some ⟨w.heap.size + 1 + 1 + 1 + 1, 0, none⟩) 1 1) [0] := by
    refine Or.inr ⟨w.heap.size + 1 + 1 + 1 + 1, 0, 1, rfl, k4.lt, by simp, ⟨by simp, by simp⟩, fun j hj => ?_⟩
    obtain rfl : j = 0 := by simp at hj; exact hj
    exact k4.cell 0
  have HRA : Hid (ReadsA w1 (.slice (some ⟨w.heap.size + 1 + 1 + 1, 0, none⟩) 1 1) (manyA 0 2)) := hRA
  have HRC : Hid (Reads w1 (.slice (some ⟨w.heap.size + 1 + 1 + 1 + 1, 0, none⟩) 1 1) [0]) := hRC
  clear hRA hRC k2 k3 k4 b0 b1 b2 b3 b4 b5 hB0
  go_enter Tryz.func4, Tryz.ntmps4
  go_upto_region 2 with fail
  rw [← hw1]
  clear hw1
  have x0 : w1.cell? ⟨w.heap.size + 1 + 1 + 1 + 1 + 1, 0, none⟩ = some (.slice (some ⟨w.heap.size + 1 + 1 + 1, 0, none⟩) 1 1) := k5w1.out.cell 0
  have x1 : w1.cell? ⟨w.heap.size + 1 + 1 + 1 + 1 + 1, 1, none⟩ = some (.slice (some ⟨w.heap.size + 1 + 1 + 1 + 1, 0, none⟩) 1 1) := k5w1.out.cell 1
  have BR1 : Hid (Below w1.heap.size w1 w1) := Below.refl _ _
  go_wp2_with fail
  go_at_call 8
  refine (HOne.out _ _ _ B1.out HRA.out HRC.out).mono ?_
  rintro e w2 ⟨rfl, hb⟩
  have B2 : Hid (Below w.heap.size w w2) := B1.out.trans (hb.mono B1.out.size)
  have k0w2 : Hid (Blk w2 w.heap.size 25 #[.slice ao M acap, .slice co nc ccap]) := k0w1.out.below hb
  have k1w2 : Hid (Blk w2 (w.heap.size + 1) 28 #[.int .i64 wu, .int .i64 wa, .int .i64 wb, .int .i64 wc]) := k1w1.out.below hb
  have k5w2 : Hid (Blk w2 (w.heap.size + 1 + 1 + 1 + 1 + 1) 25 #[.slice (some ⟨w.heap.size + 1 + 1 + 1, 0, none⟩) 1 1, .slice (some ⟨w.heap.size + 1 + 1 + 1 + 1, 0, none⟩) 1 1]) := k5w1.out.below hb
  have BR2 : Hid (Below w1.heap.size w1 w2) := hb
  clear hb BR1 x0 x1
  obtain ⟨w3, hw3⟩ : ∃ x, x = w2.alloc (.cells #[.int .i64 2, .int .i64 3, .int .i64 3, .int .i64 3] 28) := ⟨_, rfl⟩
  obtain ⟨G8, hG8⟩ : ∃ x, x = w2.heap.size := ⟨_, rfl⟩
  have B3 : Hid (Below w.heap.size w w3) := by unfold Hid; rw [hw3]; exact B2.out.alloc B2.out.size _
  have k0w3 : Hid (Blk w3 w.heap.size 25 #[.slice ao M acap, .slice co nc ccap]) := by unfold Hid; rw [hw3]; exact k0w2.out.old _
  have k1w3 : Hid (Blk w3 (w.heap.size + 1) 28 #[.int .i64 wu, .int .i64 wa, .int .i64 wb, .int .i64 wc]) := by unfold Hid; rw [hw3]; exact k1w2.out.old _
  have k5w3 : Hid (Blk w3 (w.heap.size + 1 + 1 + 1 + 1 + 1) 25 #[.slice (some ⟨w.heap.size + 1 + 1 + 1, 0, none⟩) 1 1, .slice (some ⟨w.heap.size + 1 + 1 + 1 + 1, 0, none⟩) 1 1]) := by unfold Hid; rw [hw3]; exact k5w2.out.old _
  have k8w3 : Hid (Blk w3 G8 28 #[.int .i64 2, .int .i64 3, .int .i64 3, .int .i64 3]) := by unfold Hid; rw [hw3, hG8]; exact Blk.new _ _ _
  have BR3x : Hid (Below w1.heap.size w1 w3) := by unfold Hid; rw [hw3]; exact BR2.out.alloc BR2.out.size _
  go_upto_region 3 with fail
  rw [← hw3, ← hG8]
  clear hw3 hG8
  have BR3 : Hid (Below w1.heap.size w1 w3) := BR3x.out
  have x0 : w3.cell? ⟨w.heap.size + 1 + 1 + 1 + 1 + 1, 0, none⟩ = some (.slice (some ⟨w.heap.size + 1 + 1 + 1, 0, none⟩) 1 1) := k5w3.out.cell 0
  have x1 : w3.cell? ⟨w.heap.size + 1 + 1 + 1 + 1 + 1, 1, none⟩ = some (.slice (some ⟨w.heap.size + 1 + 1 + 1 + 1, 0, none⟩) 1 1) := k5w3.out.cell 1
  go_wp2_with fail
  go_at_call 8
  refine (HTwo.out _ _ _ B3.out (HRA.out.below BR3.out) (HRC.out.below BR3.out)).mono ?_
  rintro e w4 ⟨rfl, hb⟩
  have B4 : Hid (Below w.heap.size w w4) := B3.out.trans (hb.mono B3.out.size)
  have k0w4 : Hid (Blk w4 w.heap.size 25 #[.slice ao M acap, .slice co nc ccap]) := k0w3.out.below hb
  have k1w4 : Hid (Blk w4 (w.heap.size + 1) 28 #[.int .i64 wu, .int .i64 wa, .int .i64 wb, .int .i64 wc]) := k1w3.out.below hb
  have k5w4 : Hid (Blk w4 (w.heap.size + 1 + 1 + 1 + 1 + 1) 25 #[.slice (some ⟨w.heap.size + 1 + 1 + 1, 0, none⟩) 1 1, .slice (some ⟨w.heap.size + 1 + 1 + 1 + 1, 0, none⟩) 1 1]) := k5w3.out.below hb
  have k8w4 : Hid (Blk w4 G8 28 #[.int .i64 2, .int .i64 3, .int .i64 3, .int .i64 3]) := k8w3.out.below hb
  clear hb x0 x1
  obtain ⟨w5, hw5⟩ : ∃ x, x = w4.alloc (.cells #[.int .i64 0, .int .i64 0, .int .i64 0, .int .i64 0] 28) := ⟨_, rfl⟩
  obtain ⟨G10, hG10⟩ : ∃ x, x = w4.heap.size := ⟨_, rfl⟩
  have B5 : Hid (Below w.heap.size w w5) := by unfold Hid; rw [hw5]; exact B4.out.alloc B4.out.size _
  have k0w5 : Hid (Blk w5 w.heap.size 25 #[.slice ao M acap, .slice co nc ccap]) := by unfold Hid; rw [hw5]; exact k0w4.out.old _
  have k1w5 : Hid (Blk w5 (w.heap.size + 1) 28 #[.int .i64 wu, .int .i64 wa, .int .i64 wb, .int .i64 wc]) := by unfold Hid; rw [hw5]; exact k1w4.out.old _
  have k5w5 : Hid (Blk w5 (w.heap.size + 1 + 1 + 1 + 1 + 1) 25 #[.slice (some ⟨w.heap.size + 1 + 1 + 1, 0, none⟩) 1 1, .slice (some ⟨w.heap.size + 1 + 1 + 1 + 1, 0, none⟩) 1 1]) := by unfold Hid; rw [hw5]; exact k5w4.out.old _
  have k8w5 : Hid (Blk w5 G8 28 #[.int .i64 2, .int .i64 3, .int .i64 3, .int .i64 3]) := by unfold Hid; rw [hw5]; exact k8w4.out.old _
  have k10w5 : Hid (Blk w5 G10 28 #[.int .i64 0, .int .i64 0, .int .i64 0, .int .i64 0]) := by unfold Hid; rw [hw5, hG10]; exact Blk.new _ _ _
  go_upto_region 4 with fail
  rw [← hw5, ← hG10]
  clear hw5 hG10
  go_wp2_with fail
  go_at_call 9
  refine (HE5.out _ B5.out).mono ?_
  rintro e w6 ⟨rfl, hb⟩
  have B6 : Hid (Below w.heap.size w w6) := B5.out.trans (hb.mono B5.out.size)
  have k0w6 : Hid (Blk w6 w.heap.size 25 #[.slice ao M acap, .slice co nc ccap]) := k0w5.out.below hb
  have k1w6 : Hid (Blk w6 (w.heap.size + 1) 28 #[.int .i64 wu, .int .i64 wa, .int .i64 wb, .int .i64 wc]) := k1w5.out.below hb
  have k8w6 : Hid (Blk w6 G8 28 #[.int .i64 2, .int .i64 3, .int .i64 3, .int .i64 3]) := k8w5.out.below hb
  have k10w6 : Hid (Blk w6 G10 28 #[.int .i64 0, .int .i64 0, .int .i64 0, .int .i64 0]) := k10w5.out.below hb
  clear hb 
  have y0 : w6.cell? ⟨G8, 0, none⟩ = some (.int .i64 2) := k8w6.out.cell 0
  have y1 : w6.cell? ⟨G8, 1, none⟩ = some (.int .i64 3) := k8w6.out.cell 1
  have y2 : w6.cell? ⟨G8, 2, none⟩ = some (.int .i64 3) := k8w6.out.cell 2
  have y3 : w6.cell? ⟨G8, 3, none⟩ = some (.int .i64 3) := k8w6.out.cell 3
  go_upto_region 6 with fail
  clear y0 y1 y2 y3
  have x0 : w6.cell? ⟨w.heap.size, 0, none⟩ = some (.slice ao M acap) := k0w6.out.cell 0
  have x1 : w6.cell? ⟨w.heap.size, 1, none⟩ = some (.slice co nc ccap) := k0w6.out.cell 1
  go_wp2_with fail
  go_at_call 8
  refine (HOf.out _ B6.out).mono ?_
  rintro e w7 ⟨rfl, hb⟩
  have B7 : Hid (Below w.heap.size w w7) := B6.out.trans (hb.mono B6.out.size)
  have k0w7 : Hid (Blk w7 w.heap.size 25 #[.slice ao M acap, .slice co nc ccap]) := k0w6.out.below hb
  have k1w7 : Hid (Blk w7 (w.heap.size + 1) 28 #[.int .i64 wu, .int .i64 wa, .int .i64 wb, .int .i64 wc]) := k1w6.out.below hb
  clear hb x0 x1
  obtain ⟨w8, hw8⟩ : ∃ x, x = w7.alloc (.cells #[.int .i64 xu, .int .i64 xa, .int .i64 xb, .int .i64 xc] 28) := ⟨_, rfl⟩
  obtain ⟨G12, hG12⟩ : ∃ x, x = w7.heap.size := ⟨_, rfl⟩
  have B8 : Hid (Below w.heap.size w w8) := by unfold Hid; rw [hw8]; exact B7.out.alloc B7.out.size _
  have k0w8 : Hid (Blk w8 w.heap.size 25 #[.slice ao M acap, .slice co nc ccap]) := by unfold Hid; rw [hw8]; exact k0w7.out.old _
  have k1w8 : Hid (Blk w8 (w.heap.size + 1) 28 #[.int .i64 wu, .int .i64 wa, .int .i64 wb, .int .i64 wc]) := by unfold Hid; rw [hw8]; exact k1w7.out.old _
  have k12w8 : Hid (Blk w8 G12 28 #[.int .i64 xu, .int .i64 xa, .int .i64 xb, .int .i64 xc]) := by unfold Hid; rw [hw8, hG12]; exact Blk.new _ _ _
  go_upto_region 7 with fail
  rw [← hw8, ← hG12]
  clear hw8 hG12
  have x0 : w8.cell? ⟨w.heap.size, 0, none⟩ = some (.slice ao M acap) := k0w8.out.cell 0
  have x1 : w8.cell? ⟨w.heap.size, 1, none⟩ = some (.slice co nc ccap) := k0w8.out.cell 1
  have z0 : w8.cell? ⟨w.heap.size + 1, 0, none⟩ = some (.int .i64 wu) := k1w8.out.cell 0
  have z1 : w8.cell? ⟨w.heap.size + 1, 1, none⟩ = some (.int .i64 wa) := k1w8.out.cell 1
  have z2 : w8.cell? ⟨w.heap.size + 1, 2, none⟩ = some (.int .i64 wb) := k1w8.out.cell 2
  have z3 : w8.cell? ⟨w.heap.size + 1, 3, none⟩ = some (.int .i64 wc) := k1w8.out.cell 3
  go_wp2_with fail
  go_at_call 14
  refine (HHo.out _ B8.out).mono ?_
  rintro e w9 ⟨rfl, hb⟩
  have B9 : Hid (Below w.heap.size w w9) := B8.out.trans (hb.mono B8.out.size)
  have k0w9 : Hid (Blk w9 w.heap.size 25 #[.slice ao M acap, .slice co nc ccap]) := k0w8.out.below hb
  have k1w9 : Hid (Blk w9 (w.heap.size + 1) 28 #[.int .i64 wu, .int .i64 wa, .int .i64 wb, .int .i64 wc]) := k1w8.out.below hb
  have k12w9 : Hid (Blk w9 G12 28 #[.int .i64 xu, .int .i64 xa, .int .i64 xb, .int .i64 xc]) := k12w8.out.below hb
  clear hb x0 x1 z0 z1 z2 z3
  have z0 : w9.cell? ⟨w.heap.size + 1, 0, none⟩ = some (.int .i64 wu) := k1w9.out.cell 0
  go_upto_region 8 with fail
  go_cut [16] from 73 to 80 (fun r wx => r = .bool mi ∧ w9 = wx)
  case first =>
    rcases HPH.out with ⟨n, rfl, rfl⟩ | ⟨rfl, rfl⟩
    · clear HAH HBH HPH
      go_wp2_with fail
      go_meet
      exact ⟨rfl, rfl⟩
    · clear HAH HBH HPH
      go_wp2_with fail
      go_meet
      exact ⟨rfl, rfl⟩
  case rest =>
    obtain ⟨rfl, hwc⟩ := hcut
    subst hwc
    clear z0 HPH
    rcases HAH.out with ⟨rfl, hD, H1⟩ | ⟨rfl, H1, hmh⟩ | ⟨rfl, n, H1⟩ | ⟨n, rfl, H1⟩
    · clear HAH
      have HBI : Hid _ := HBH.out
      clear HBH
      subst hD
      have x0 : w9.cell? ⟨w.heap.size, 0, none⟩ = some (.slice ao M acap) := k0w9.out.cell 0
      have x1 : w9.cell? ⟨w.heap.size, 1, none⟩ = some (.slice co nc ccap) := k0w9.out.cell 1
      have z0 : w9.cell? ⟨G12, 0, none⟩ = some (.int .i64 u) := k12w9.out.cell 0
      have z1 : w9.cell? ⟨G12, 1, none⟩ = some (.int .i64 xa) := k12w9.out.cell 1
      have z2 : w9.cell? ⟨G12, 2, none⟩ = some (.int .i64 xb) := k12w9.out.cell 2
      have z3 : w9.cell? ⟨G12, 3, none⟩ = some (.int .i64 xc) := k12w9.out.cell 3
      go_wp2_with fail
      go_at_call 14
      refine (H1.out _ B9.out).mono ?_
      rintro e wT ⟨rfl, hb⟩
      have BT : Hid (Below w.heap.size w wT) := B9.out.trans (hb.mono B9.out.size)
      have k0wT : Hid (Blk wT w.heap.size 25 #[.slice ao M acap, .slice co nc ccap]) := k0w9.out.below hb
      have k1wT : Hid (Blk wT (w.heap.size + 1) 28 #[.int .i64 wu, .int .i64 wa, .int .i64 wb, .int .i64 wc]) := k1w9.out.below hb
      have k12wT : Hid (Blk wT G12 28 #[.int .i64 u, .int .i64 xa, .int .i64 xb, .int .i64 xc]) := k12w9.out.below hb
      clear hb x0 x1 z0 z1 z2 z3
      have z0 : wT.cell? ⟨G12, 0, none⟩ = some (.int .i64 u) := k12wT.out.cell 0
      clear H1
      go_upto_region 15 with fail
      clear z0
      have HBH : Hid _ := HBI.out
      clear HBI
      rcases HBH.out with ⟨s, n2, H2⟩ | ⟨yu, ya, yb, yc, H2, H3, hms⟩ | ⟨ya, yb, yc, H2, H3, H4, H5⟩
      · clear HBH
        have x0 : wT.cell? ⟨w.heap.size, 0, none⟩ = some (.slice ao M acap) := k0wT.out.cell 0
        have x1 : wT.cell? ⟨w.heap.size, 1, none⟩ = some (.slice co nc ccap) := k0wT.out.cell 1
        go_wp2_with fail
        go_at_call 13
        refine (H2.out _ BT.out).mono ?_
        rintro e wU ⟨rfl, hb⟩
        have BU : Hid (Below w.heap.size w wU) := BT.out.trans (hb.mono BT.out.size)
        have k0wU : Hid (Blk wU w.heap.size 25 #[.slice ao M acap, .slice co nc ccap]) := k0wT.out.below hb
        clear hb x0 x1
        go_wp2
        go_ret
        exact ⟨rfl, BU.out⟩
      · clear HBH
        have HMS : Hid _ := hms
        clear hms
        have x0 : wT.cell? ⟨w.heap.size, 0, none⟩ = some (.slice ao M acap) := k0wT.out.cell 0
        have x1 : wT.cell? ⟨w.heap.size, 1, none⟩ = some (.slice co nc ccap) := k0wT.out.cell 1
        go_wp2_with fail
        go_at_call 13
        refine (H2.out _ BT.out).mono ?_
        rintro e wU ⟨rfl, hb⟩
        have BU : Hid (Below w.heap.size w wU) := BT.out.trans (hb.mono BT.out.size)
        have k0wU : Hid (Blk wU w.heap.size 25 #[.slice ao M acap, .slice co nc ccap]) := k0wT.out.below hb
        clear hb x0 x1
        have x0 : wU.cell? ⟨w.heap.size, 0, none⟩ = some (.slice ao M acap) := k0wU.out.cell 0
        have x1 : wU.cell? ⟨w.heap.size, 1, none⟩ = some (.slice co nc ccap) := k0wU.out.cell 1
        go_wp2_with fail
        go_at_call 11
        refine (H3.out _ BU.out).mono ?_
        rintro e wV ⟨rfl, hb⟩
        have BV : Hid (Below w.heap.size w wV) := BU.out.trans (hb.mono BU.out.size)
        have k0wV : Hid (Blk wV w.heap.size 25 #[.slice ao M acap, .slice co nc ccap]) := k0wU.out.below hb
        clear hb x0 x1
        obtain ⟨wX, hwX⟩ : ∃ x, x = wV.alloc (.cells #[.int .i64 yu, .int .i64 ya, .int .i64 yb, .int .i64 yc] 28) := ⟨_, rfl⟩
        obtain ⟨G20, hG20⟩ : ∃ x, x = wV.heap.size := ⟨_, rfl⟩
        have BX : Hid (Below w.heap.size w wX) := by unfold Hid; rw [hwX]; exact BV.out.alloc BV.out.size _
        have k0wX : Hid (Blk wX w.heap.size 25 #[.slice ao M acap, .slice co nc ccap]) := by unfold Hid; rw [hwX]; exact k0wV.out.old _
        have k20wX : Hid (Blk wX G20 28 #[.int .i64 yu, .int .i64 ya, .int .i64 yb, .int .i64 yc]) := by unfold Hid; rw [hwX, hG20]; exact Blk.new _ _ _
        go_upto_region 19 with fail
        rw [← hwX, ← hG20]
        clear hwX hG20
        go_wp2_with fail
        go_at_call 9
        refine (HE5.out _ BX.out).mono ?_
        rintro e wY ⟨rfl, hb⟩
        have BY : Hid (Below w.heap.size w wY) := BX.out.trans (hb.mono BX.out.size)
        have k0wY : Hid (Blk wY w.heap.size 25 #[.slice ao M acap, .slice co nc ccap]) := k0wX.out.below hb
        have k20wY : Hid (Blk wY G20 28 #[.int .i64 yu, .int .i64 ya, .int .i64 yb, .int .i64 yc]) := k20wX.out.below hb
        clear hb 
        first | (rcases HMS.out with e | e) | skip
        all_goals (try (exact False.elim HMS.out))
        all_goals (try (exact absurd e (by decide)))
        all_goals (try subst e)
        all_goals (try cases mi)
        all_goals (try clear HMS)
        all_goals go_wp2
        all_goals go_ret
        all_goals exact ⟨rfl, BY.out⟩
      · clear HBH
        have x0 : wT.cell? ⟨w.heap.size, 0, none⟩ = some (.slice ao M acap) := k0wT.out.cell 0
        have x1 : wT.cell? ⟨w.heap.size, 1, none⟩ = some (.slice co nc ccap) := k0wT.out.cell 1
        go_wp2_with fail
        go_at_call 13
        refine (H2.out _ BT.out).mono ?_
        rintro e wU ⟨rfl, hb⟩
        have BU : Hid (Below w.heap.size w wU) := BT.out.trans (hb.mono BT.out.size)
        have k0wU : Hid (Blk wU w.heap.size 25 #[.slice ao M acap, .slice co nc ccap]) := k0wT.out.below hb
        clear hb x0 x1
        have x0 : wU.cell? ⟨w.heap.size, 0, none⟩ = some (.slice ao M acap) := k0wU.out.cell 0
        have x1 : wU.cell? ⟨w.heap.size, 1, none⟩ = some (.slice co nc ccap) := k0wU.out.cell 1
        go_wp2_with fail
        go_at_call 11
        refine (H3.out _ BU.out).mono ?_
        rintro e wV ⟨rfl, hb⟩
        have BV : Hid (Below w.heap.size w wV) := BU.out.trans (hb.mono BU.out.size)
        have k0wV : Hid (Blk wV w.heap.size 25 #[.slice ao M acap, .slice co nc ccap]) := k0wU.out.below hb
        clear hb x0 x1
        obtain ⟨wX, hwX⟩ : ∃ x, x = wV.alloc (.cells #[.int .i64 u, .int .i64 ya, .int .i64 yb, .int .i64 yc] 28) := ⟨_, rfl⟩
        obtain ⟨G20, hG20⟩ : ∃ x, x = wV.heap.size := ⟨_, rfl⟩
        have BX : Hid (Below w.heap.size w wX) := by unfold Hid; rw [hwX]; exact BV.out.alloc BV.out.size _
        have k0wX : Hid (Blk wX w.heap.size 25 #[.slice ao M acap, .slice co nc ccap]) := by unfold Hid; rw [hwX]; exact k0wV.out.old _
        have k20wX : Hid (Blk wX G20 28 #[.int .i64 u, .int .i64 ya, .int .i64 yb, .int .i64 yc]) := by unfold Hid; rw [hwX, hG20]; exact Blk.new _ _ _
        go_upto_region 19 with fail
        rw [← hwX, ← hG20]
        clear hwX hG20
        go_wp2_with fail
        go_at_call 9
        refine (H4.out _ BX.out).mono ?_
        rintro e wY ⟨rfl, hb⟩
        have BY : Hid (Below w.heap.size w wY) := BX.out.trans (hb.mono BX.out.size)
        have k0wY : Hid (Blk wY w.heap.size 25 #[.slice ao M acap, .slice co nc ccap]) := k0wX.out.below hb
        have k20wY : Hid (Blk wY G20 28 #[.int .i64 u, .int .i64 ya, .int .i64 yb, .int .i64 yc]) := k20wX.out.below hb
        clear hb 
        have x0 : wY.cell? ⟨w.heap.size, 0, none⟩ = some (.slice ao M acap) := k0wY.out.cell 0
        have x1 : wY.cell? ⟨w.heap.size, 1, none⟩ = some (.slice co nc ccap) := k0wY.out.cell 1
        have z0 : wY.cell? ⟨G20, 0, none⟩ = some (.int .i64 u) := k20wY.out.cell 0
        have z1 : wY.cell? ⟨G20, 1, none⟩ = some (.int .i64 ya) := k20wY.out.cell 1
        have z2 : wY.cell? ⟨G20, 2, none⟩ = some (.int .i64 yb) := k20wY.out.cell 2
        have z3 : wY.cell? ⟨G20, 3, none⟩ = some (.int .i64 yc) := k20wY.out.cell 3
        go_wp2_with fail
        go_at_call 14
        refine (H5.out _ BY.out).mono ?_
        rintro e wZ ⟨rfl, hb⟩
        have BZ : Hid (Below w.heap.size w wZ) := BY.out.trans (hb.mono BY.out.size)
        have k0wZ : Hid (Blk wZ w.heap.size 25 #[.slice ao M acap, .slice co nc ccap]) := k0wY.out.below hb
        have k20wZ : Hid (Blk wZ G20 28 #[.int .i64 u, .int .i64 ya, .int .i64 yb, .int .i64 yc]) := k20wY.out.below hb
        clear hb x0 x1 z0 z1 z2 z3
        have z0 : wZ.cell? ⟨G20, 0, none⟩ = some (.int .i64 u) := k20wZ.out.cell 0
        go_wp2
        go_ret
        exact ⟨rfl, BZ.out⟩
    · clear HAH
      have HMH : Hid (mi = false ∨ h = false) := hmh
      clear hmh
      have HBI : Hid _ := HBH.out
      clear HBH
      have x0 : w9.cell? ⟨w.heap.size, 0, none⟩ = some (.slice ao M acap) := k0w9.out.cell 0
      have x1 : w9.cell? ⟨w.heap.size, 1, none⟩ = some (.slice co nc ccap) := k0w9.out.cell 1
      go_wp2_with fail
      go_at_call 9
      refine (HE5.out _ B9.out).mono ?_
      rintro e wR ⟨rfl, hb⟩
      have BR : Hid (Below w.heap.size w wR) := B9.out.trans (hb.mono B9.out.size)
      have k0wR : Hid (Blk wR w.heap.size 25 #[.slice ao M acap, .slice co nc ccap]) := k0w9.out.below hb
      have k1wR : Hid (Blk wR (w.heap.size + 1) 28 #[.int .i64 wu, .int .i64 wa, .int .i64 wb, .int .i64 wc]) := k1w9.out.below hb
      have k12wR : Hid (Blk wR G12 28 #[.int .i64 xu, .int .i64 xa, .int .i64 xb, .int .i64 xc]) := k12w9.out.below hb
      clear hb x0 x1
      have x0 : wR.cell? ⟨w.heap.size, 0, none⟩ = some (.slice ao M acap) := k0wR.out.cell 0
      have x1 : wR.cell? ⟨w.heap.size, 1, none⟩ = some (.slice co nc ccap) := k0wR.out.cell 1
      go_wp2_with fail
      go_at_call 15
      refine (H1.out _ BR.out).mono ?_
      rintro e wT ⟨rfl, hb⟩
      have BT : Hid (Below w.heap.size w wT) := BR.out.trans (hb.mono BR.out.size)
      have k0wT : Hid (Blk wT w.heap.size 25 #[.slice ao M acap, .slice co nc ccap]) := k0wR.out.below hb
      have k1wT : Hid (Blk wT (w.heap.size + 1) 28 #[.int .i64 wu, .int .i64 wa, .int .i64 wb, .int .i64 wc]) := k1wR.out.below hb
      have k12wT : Hid (Blk wT G12 28 #[.int .i64 xu, .int .i64 xa, .int .i64 xb, .int .i64 xc]) := k12wR.out.below hb
      clear hb x0 x1
      clear H1
      have hd : mi = false ∨ (mi = true ∧ h = false) := HMH.out.elim Or.inl fun e => (Bool.eq_false_or_eq_true mi).elim (fun e2 => Or.inr ⟨e2, e⟩) Or.inl
      clear HMH
      rcases hd with rfl | ⟨rfl, rfl⟩
      · go_upto_region 15 with fail
        have HBH : Hid _ := HBI.out
        clear HBI
        rcases HBH.out with ⟨s, n2, H2⟩ | ⟨yu, ya, yb, yc, H2, H3, hms⟩ | ⟨ya, yb, yc, H2, H3, H4, H5⟩
        · clear HBH
          have x0 : wT.cell? ⟨w.heap.size, 0, none⟩ = some (.slice ao M acap) := k0wT.out.cell 0
          have x1 : wT.cell? ⟨w.heap.size, 1, none⟩ = some (.slice co nc ccap) := k0wT.out.cell 1
          go_wp2_with fail
          go_at_call 13
          refine (H2.out _ BT.out).mono ?_
          rintro e wU ⟨rfl, hb⟩
          have BU : Hid (Below w.heap.size w wU) := BT.out.trans (hb.mono BT.out.size)
          have k0wU : Hid (Blk wU w.heap.size 25 #[.slice ao M acap, .slice co nc ccap]) := k0wT.out.below hb
          clear hb x0 x1
          go_wp2
          go_ret
          exact ⟨rfl, BU.out⟩
        · clear HBH
          have HMS : Hid _ := hms
          clear hms
          have x0 : wT.cell? ⟨w.heap.size, 0, none⟩ = some (.slice ao M acap) := k0wT.out.cell 0
          have x1 : wT.cell? ⟨w.heap.size, 1, none⟩ = some (.slice co nc ccap) := k0wT.out.cell 1
          go_wp2_with fail
          go_at_call 13
          refine (H2.out _ BT.out).mono ?_
          rintro e wU ⟨rfl, hb⟩
          have BU : Hid (Below w.heap.size w wU) := BT.out.trans (hb.mono BT.out.size)
          have k0wU : Hid (Blk wU w.heap.size 25 #[.slice ao M acap, .slice co nc ccap]) := k0wT.out.below hb
          clear hb x0 x1
          have x0 : wU.cell? ⟨w.heap.size, 0, none⟩ = some (.slice ao M acap) := k0wU.out.cell 0
          have x1 : wU.cell? ⟨w.heap.size, 1, none⟩ = some (.slice co nc ccap) := k0wU.out.cell 1
          go_wp2_with fail
          go_at_call 11
          refine (H3.out _ BU.out).mono ?_
          rintro e wV ⟨rfl, hb⟩
          have BV : Hid (Below w.heap.size w wV) := BU.out.trans (hb.mono BU.out.size)
          have k0wV : Hid (Blk wV w.heap.size 25 #[.slice ao M acap, .slice co nc ccap]) := k0wU.out.below hb
          clear hb x0 x1
          obtain ⟨wX, hwX⟩ : ∃ x, x = wV.alloc (.cells #[.int .i64 yu, .int .i64 ya, .int .i64 yb, .int .i64 yc] 28) := ⟨_, rfl⟩
          obtain ⟨G20, hG20⟩ : ∃ x, x = wV.heap.size := ⟨_, rfl⟩
          have BX : Hid (Below w.heap.size w wX) := by unfold Hid; rw [hwX]; exact BV.out.alloc BV.out.size _
          have k0wX : Hid (Blk wX w.heap.size 25 #[.slice ao M acap, .slice co nc ccap]) := by unfold Hid; rw [hwX]; exact k0wV.out.old _
          have k20wX : Hid (Blk wX G20 28 #[.int .i64 yu, .int .i64 ya, .int .i64 yb, .int .i64 yc]) := by unfold Hid; rw [hwX, hG20]; exact Blk.new _ _ _
          go_upto_region 19 with fail
          rw [← hwX, ← hG20]
          clear hwX hG20
          go_wp2_with fail
          go_at_call 9
          refine (HE5.out _ BX.out).mono ?_
          rintro e wY ⟨rfl, hb⟩
          have BY : Hid (Below w.heap.size w wY) := BX.out.trans (hb.mono BX.out.size)
          have k0wY : Hid (Blk wY w.heap.size 25 #[.slice ao M acap, .slice co nc ccap]) := k0wX.out.below hb
          have k20wY : Hid (Blk wY G20 28 #[.int .i64 yu, .int .i64 ya, .int .i64 yb, .int .i64 yc]) := k20wX.out.below hb
          clear hb 
          first | (rcases HMS.out with e | e) | skip
          all_goals (try (exact False.elim HMS.out))
          all_goals (try (exact absurd e (by decide)))
          all_goals (try subst e)
          all_goals (try cases mi)
          all_goals (try clear HMS)
          all_goals go_wp2
          all_goals go_ret
          all_goals exact ⟨rfl, BY.out⟩
        · clear HBH
          have x0 : wT.cell? ⟨w.heap.size, 0, none⟩ = some (.slice ao M acap) := k0wT.out.cell 0
          have x1 : wT.cell? ⟨w.heap.size, 1, none⟩ = some (.slice co nc ccap) := k0wT.out.cell 1
          go_wp2_with fail
          go_at_call 13
          refine (H2.out _ BT.out).mono ?_
          rintro e wU ⟨rfl, hb⟩
          have BU : Hid (Below w.heap.size w wU) := BT.out.trans (hb.mono BT.out.size)
          have k0wU : Hid (Blk wU w.heap.size 25 #[.slice ao M acap, .slice co nc ccap]) := k0wT.out.below hb
          clear hb x0 x1
          have x0 : wU.cell? ⟨w.heap.size, 0, none⟩ = some (.slice ao M acap) := k0wU.out.cell 0
          have x1 : wU.cell? ⟨w.heap.size, 1, none⟩ = some (.slice co nc ccap) := k0wU.out.cell 1
          go_wp2_with fail
          go_at_call 11
          refine (H3.out _ BU.out).mono ?_
          rintro e wV ⟨rfl, hb⟩
          have BV : Hid (Below w.heap.size w wV) := BU.out.trans (hb.mono BU.out.size)
          have k0wV : Hid (Blk wV w.heap.size 25 #[.slice ao M acap, .slice co nc ccap]) := k0wU.out.below hb
          clear hb x0 x1
          obtain ⟨wX, hwX⟩ : ∃ x, x = wV.alloc (.cells #[.int .i64 u, .int .i64 ya, .int .i64 yb, .int .i64 yc] 28) := ⟨_, rfl⟩
          obtain ⟨G20, hG20⟩ : ∃ x, x = wV.heap.size := ⟨_, rfl⟩
          have BX : Hid (Below w.heap.size w wX) := by unfold Hid; rw [hwX]; exact BV.out.alloc BV.out.size _
          have k0wX : Hid (Blk wX w.heap.size 25 #[.slice ao M acap, .slice co nc ccap]) := by unfold Hid; rw [hwX]; exact k0wV.out.old _
          have k20wX : Hid (Blk wX G20 28 #[.int .i64 u, .int .i64 ya, .int .i64 yb, .int .i64 yc]) := by unfold Hid; rw [hwX, hG20]; exact Blk.new _ _ _
          go_upto_region 19 with fail
          rw [← hwX, ← hG20]
          clear hwX hG20
          go_wp2_with fail
          go_at_call 9
          refine (H4.out _ BX.out).mono ?_
          rintro e wY ⟨rfl, hb⟩
          have BY : Hid (Below w.heap.size w wY) := BX.out.trans (hb.mono BX.out.size)
          have k0wY : Hid (Blk wY w.heap.size 25 #[.slice ao M acap, .slice co nc ccap]) := k0wX.out.below hb
          have k20wY : Hid (Blk wY G20 28 #[.int .i64 u, .int .i64 ya, .int .i64 yb, .int .i64 yc]) := k20wX.out.below hb
          clear hb 
          have x0 : wY.cell? ⟨w.heap.size, 0, none⟩ = some (.slice ao M acap) := k0wY.out.cell 0
          have x1 : wY.cell? ⟨w.heap.size, 1, none⟩ = some (.slice co nc ccap) := k0wY.out.cell 1
          have z0 : wY.cell? ⟨G20, 0, none⟩ = some (.int .i64 u) := k20wY.out.cell 0
          have z1 : wY.cell? ⟨G20, 1, none⟩ = some (.int .i64 ya) := k20wY.out.cell 1
          have z2 : wY.cell? ⟨G20, 2, none⟩ = some (.int .i64 yb) := k20wY.out.cell 2
          have z3 : wY.cell? ⟨G20, 3, none⟩ = some (.int .i64 yc) := k20wY.out.cell 3
          go_wp2_with fail
          go_at_call 14
          refine (H5.out _ BY.out).mono ?_
          rintro e wZ ⟨rfl, hb⟩
          have BZ : Hid (Below w.heap.size w wZ) := BY.out.trans (hb.mono BY.out.size)
          have k0wZ : Hid (Blk wZ w.heap.size 25 #[.slice ao M acap, .slice co nc ccap]) := k0wY.out.below hb
          have k20wZ : Hid (Blk wZ G20 28 #[.int .i64 u, .int .i64 ya, .int .i64 yb, .int .i64 yc]) := k20wY.out.below hb
          clear hb x0 x1 z0 z1 z2 z3
          have z0 : wZ.cell? ⟨G20, 0, none⟩ = some (.int .i64 u) := k20wZ.out.cell 0
          go_wp2
          go_ret
          exact ⟨rfl, BZ.out⟩
      · go_upto_region 15 with fail
        have HBH : Hid _ := HBI.out
        clear HBI
        rcases HBH.out with ⟨s, n2, H2⟩ | ⟨yu, ya, yb, yc, H2, H3, hms⟩ | ⟨ya, yb, yc, H2, H3, H4, H5⟩
        · clear HBH
          have x0 : wT.cell? ⟨w.heap.size, 0, none⟩ = some (.slice ao M acap) := k0wT.out.cell 0
          have x1 : wT.cell? ⟨w.heap.size, 1, none⟩ = some (.slice co nc ccap) := k0wT.out.cell 1
          go_wp2_with fail
          go_at_call 13
          refine (H2.out _ BT.out).mono ?_
          rintro e wU ⟨rfl, hb⟩
          have BU : Hid (Below w.heap.size w wU) := BT.out.trans (hb.mono BT.out.size)
          have k0wU : Hid (Blk wU w.heap.size 25 #[.slice ao M acap, .slice co nc ccap]) := k0wT.out.below hb
          clear hb x0 x1
          go_wp2
          go_ret
          exact ⟨rfl, BU.out⟩
        · clear HBH
          have HMS : Hid _ := hms
          clear hms
          have x0 : wT.cell? ⟨w.heap.size, 0, none⟩ = some (.slice ao M acap) := k0wT.out.cell 0
          have x1 : wT.cell? ⟨w.heap.size, 1, none⟩ = some (.slice co nc ccap) := k0wT.out.cell 1
          go_wp2_with fail
          go_at_call 13
          refine (H2.out _ BT.out).mono ?_
          rintro e wU ⟨rfl, hb⟩
          have BU : Hid (Below w.heap.size w wU) := BT.out.trans (hb.mono BT.out.size)
          have k0wU : Hid (Blk wU w.heap.size 25 #[.slice ao M acap, .slice co nc ccap]) := k0wT.out.below hb
          clear hb x0 x1
          have x0 : wU.cell? ⟨w.heap.size, 0, none⟩ = some (.slice ao M acap) := k0wU.out.cell 0
          have x1 : wU.cell? ⟨w.heap.size, 1, none⟩ = some (.slice co nc ccap) := k0wU.out.cell 1
          go_wp2_with fail
          go_at_call 11
          refine (H3.out _ BU.out).mono ?_
          rintro e wV ⟨rfl, hb⟩
          have BV : Hid (Below w.heap.size w wV) := BU.out.trans (hb.mono BU.out.size)
          have k0wV : Hid (Blk wV w.heap.size 25 #[.slice ao M acap, .slice co nc ccap]) := k0wU.out.below hb
          clear hb x0 x1
          obtain ⟨wX, hwX⟩ : ∃ x, x = wV.alloc (.cells #[.int .i64 yu, .int .i64 ya, .int .i64 yb, .int .i64 yc] 28) := ⟨_, rfl⟩
          obtain ⟨G20, hG20⟩ : ∃ x, x = wV.heap.size := ⟨_, rfl⟩
          have BX : Hid (Below w.heap.size w wX) := by unfold Hid; rw [hwX]; exact BV.out.alloc BV.out.size _
          have k0wX : Hid (Blk wX w.heap.size 25 #[.slice ao M acap, .slice co nc ccap]) := by unfold Hid; rw [hwX]; exact k0wV.out.old _
          have k20wX : Hid (Blk wX G20 28 #[.int .i64 yu, .int .i64 ya, .int .i64 yb, .int .i64 yc]) := by unfold Hid; rw [hwX, hG20]; exact Blk.new _ _ _
          go_upto_region 19 with fail
          rw [← hwX, ← hG20]
          clear hwX hG20
          go_wp2_with fail
          go_at_call 9
          refine (HE5.out _ BX.out).mono ?_
          rintro e wY ⟨rfl, hb⟩
          have BY : Hid (Below w.heap.size w wY) := BX.out.trans (hb.mono BX.out.size)
          have k0wY : Hid (Blk wY w.heap.size 25 #[.slice ao M acap, .slice co nc ccap]) := k0wX.out.below hb
          have k20wY : Hid (Blk wY G20 28 #[.int .i64 yu, .int .i64 ya, .int .i64 yb, .int .i64 yc]) := k20wX.out.below hb
          clear hb 
          first | (rcases HMS.out with e | e) | skip
          all_goals (try (exact False.elim HMS.out))
          all_goals (try (exact absurd e (by decide)))
          all_goals (try subst e)
          all_goals (try cases mi)
          all_goals (try clear HMS)
          all_goals go_wp2
          all_goals go_ret
          all_goals exact ⟨rfl, BY.out⟩
        · clear HBH
          have x0 : wT.cell? ⟨w.heap.size, 0, none⟩ = some (.slice ao M acap) := k0wT.out.cell 0
          have x1 : wT.cell? ⟨w.heap.size, 1, none⟩ = some (.slice co nc ccap) := k0wT.out.cell 1
          go_wp2_with fail
          go_at_call 13
          refine (H2.out _ BT.out).mono ?_
          rintro e wU ⟨rfl, hb⟩
          have BU : Hid (Below w.heap.size w wU) := BT.out.trans (hb.mono BT.out.size)
          have k0wU : Hid (Blk wU w.heap.size 25 #[.slice ao M acap, .slice co nc ccap]) := k0wT.out.below hb
          clear hb x0 x1
          have x0 : wU.cell? ⟨w.heap.size, 0, none⟩ = some (.slice ao M acap) := k0wU.out.cell 0
          have x1 : wU.cell? ⟨w.heap.size, 1, none⟩ = some (.slice co nc ccap) := k0wU.out.cell 1
          go_wp2_with fail
          go_at_call 11
          refine (H3.out _ BU.out).mono ?_
          rintro e wV ⟨rfl, hb⟩
          have BV : Hid (Below w.heap.size w wV) := BU.out.trans (hb.mono BU.out.size)
          have k0wV : Hid (Blk wV w.heap.size 25 #[.slice ao M acap, .slice co nc ccap]) := k0wU.out.below hb
          clear hb x0 x1
          obtain ⟨wX, hwX⟩ : ∃ x, x = wV.alloc (.cells #[.int .i64 u, .int .i64 ya, .int .i64 yb, .int .i64 yc] 28) := ⟨_, rfl⟩
          obtain ⟨G20, hG20⟩ : ∃ x, x = wV.heap.size := ⟨_, rfl⟩
          have BX : Hid (Below w.heap.size w wX) := by unfold Hid; rw [hwX]; exact BV.out.alloc BV.out.size _
          have k0wX : Hid (Blk wX w.heap.size 25 #[.slice ao M acap, .slice co nc ccap]) := by unfold Hid; rw [hwX]; exact k0wV.out.old _
          have k20wX : Hid (Blk wX G20 28 #[.int .i64 u, .int .i64 ya, .int .i64 yb, .int .i64 yc]) := by unfold Hid; rw [hwX, hG20]; exact Blk.new _ _ _
          go_upto_region 19 with fail
          rw [← hwX, ← hG20]
          clear hwX hG20
          go_wp2_with fail
          go_at_call 9
          refine (H4.out _ BX.out).mono ?_
          rintro e wY ⟨rfl, hb⟩
          have BY : Hid (Below w.heap.size w wY) := BX.out.trans (hb.mono BX.out.size)
          have k0wY : Hid (Blk wY w.heap.size 25 #[.slice ao M acap, .slice co nc ccap]) := k0wX.out.below hb
          have k20wY : Hid (Blk wY G20 28 #[.int .i64 u, .int .i64 ya, .int .i64 yb, .int .i64 yc]) := k20wX.out.below hb
          clear hb 
          have x0 : wY.cell? ⟨w.heap.size, 0, none⟩ = some (.slice ao M acap) := k0wY.out.cell 0
          have x1 : wY.cell? ⟨w.heap.size, 1, none⟩ = some (.slice co nc ccap) := k0wY.out.cell 1
          have z0 : wY.cell? ⟨G20, 0, none⟩ = some (.int .i64 u) := k20wY.out.cell 0
          have z1 : wY.cell? ⟨G20, 1, none⟩ = some (.int .i64 ya) := k20wY.out.cell 1
          have z2 : wY.cell? ⟨G20, 2, none⟩ = some (.int .i64 yb) := k20wY.out.cell 2
          have z3 : wY.cell? ⟨G20, 3, none⟩ = some (.int .i64 yc) := k20wY.out.cell 3
          go_wp2_with fail
          go_at_call 14
          refine (H5.out _ BY.out).mono ?_
          rintro e wZ ⟨rfl, hb⟩
          have BZ : Hid (Below w.heap.size w wZ) := BY.out.trans (hb.mono BY.out.size)
          have k0wZ : Hid (Blk wZ w.heap.size 25 #[.slice ao M acap, .slice co nc ccap]) := k0wY.out.below hb
          have k20wZ : Hid (Blk wZ G20 28 #[.int .i64 u, .int .i64 ya, .int .i64 yb, .int .i64 yc]) := k20wY.out.below hb
          clear hb x0 x1 z0 z1 z2 z3
          have z0 : wZ.cell? ⟨G20, 0, none⟩ = some (.int .i64 u) := k20wZ.out.cell 0
          go_wp2
          go_ret
          exact ⟨rfl, BZ.out⟩
    · clear HAH
      have HBI : Hid _ := HBH.out
      clear HBH
      have x0 : w9.cell? ⟨w.heap.size, 0, none⟩ = some (.slice ao M acap) := k0w9.out.cell 0
      have x1 : w9.cell? ⟨w.heap.size, 1, none⟩ = some (.slice co nc ccap) := k0w9.out.cell 1
      go_wp2_with fail
      go_at_call 9
      refine (HE5.out _ B9.out).mono ?_
      rintro e wR ⟨rfl, hb⟩
      have BR : Hid (Below w.heap.size w wR) := B9.out.trans (hb.mono B9.out.size)
      have k0wR : Hid (Blk wR w.heap.size 25 #[.slice ao M acap, .slice co nc ccap]) := k0w9.out.below hb
      have k1wR : Hid (Blk wR (w.heap.size + 1) 28 #[.int .i64 wu, .int .i64 wa, .int .i64 wb, .int .i64 wc]) := k1w9.out.below hb
      have k12wR : Hid (Blk wR G12 28 #[.int .i64 xu, .int .i64 xa, .int .i64 xb, .int .i64 xc]) := k12w9.out.below hb
      clear hb x0 x1
      have x0 : wR.cell? ⟨w.heap.size, 0, none⟩ = some (.slice ao M acap) := k0wR.out.cell 0
      have x1 : wR.cell? ⟨w.heap.size, 1, none⟩ = some (.slice co nc ccap) := k0wR.out.cell 1
      go_wp2_with fail
      go_at_call 15
      refine (H1.out _ BR.out).mono ?_
      rintro e wT ⟨rfl, hb⟩
      have BT : Hid (Below w.heap.size w wT) := BR.out.trans (hb.mono BR.out.size)
      have k0wT : Hid (Blk wT w.heap.size 25 #[.slice ao M acap, .slice co nc ccap]) := k0wR.out.below hb
      have k1wT : Hid (Blk wT (w.heap.size + 1) 28 #[.int .i64 wu, .int .i64 wa, .int .i64 wb, .int .i64 wc]) := k1wR.out.below hb
      have k12wT : Hid (Blk wT G12 28 #[.int .i64 xu, .int .i64 xa, .int .i64 xb, .int .i64 xc]) := k12wR.out.below hb
      clear hb x0 x1
      clear H1
      go_upto_region 15 with fail
      have HBH : Hid _ := HBI.out
      clear HBI
      rcases HBH.out with ⟨s, n2, H2⟩ | ⟨yu, ya, yb, yc, H2, H3, hms⟩ | ⟨ya, yb, yc, H2, H3, H4, H5⟩
      · clear HBH
        have x0 : wT.cell? ⟨w.heap.size, 0, none⟩ = some (.slice ao M acap) := k0wT.out.cell 0
        have x1 : wT.cell? ⟨w.heap.size, 1, none⟩ = some (.slice co nc ccap) := k0wT.out.cell 1
        go_wp2_with fail
        go_at_call 13
        refine (H2.out _ BT.out).mono ?_
        rintro e wU ⟨rfl, hb⟩
        have BU : Hid (Below w.heap.size w wU) := BT.out.trans (hb.mono BT.out.size)
        have k0wU : Hid (Blk wU w.heap.size 25 #[.slice ao M acap, .slice co nc ccap]) := k0wT.out.below hb
        clear hb x0 x1
        go_wp2
        go_ret
        exact ⟨rfl, BU.out⟩
      · clear HBH
        have HMS : Hid _ := hms
        clear hms
        have x0 : wT.cell? ⟨w.heap.size, 0, none⟩ = some (.slice ao M acap) := k0wT.out.cell 0
        have x1 : wT.cell? ⟨w.heap.size, 1, none⟩ = some (.slice co nc ccap) := k0wT.out.cell 1
        go_wp2_with fail
        go_at_call 13
        refine (H2.out _ BT.out).mono ?_
        rintro e wU ⟨rfl, hb⟩
        have BU : Hid (Below w.heap.size w wU) := BT.out.trans (hb.mono BT.out.size)
        have k0wU : Hid (Blk wU w.heap.size 25 #[.slice ao M acap, .slice co nc ccap]) := k0wT.out.below hb
        clear hb x0 x1
        have x0 : wU.cell? ⟨w.heap.size, 0, none⟩ = some (.slice ao M acap) := k0wU.out.cell 0
        have x1 : wU.cell? ⟨w.heap.size, 1, none⟩ = some (.slice co nc ccap) := k0wU.out.cell 1
        go_wp2_with fail
        go_at_call 11
        refine (H3.out _ BU.out).mono ?_
        rintro e wV ⟨rfl, hb⟩
        have BV : Hid (Below w.heap.size w wV) := BU.out.trans (hb.mono BU.out.size)
        have k0wV : Hid (Blk wV w.heap.size 25 #[.slice ao M acap, .slice co nc ccap]) := k0wU.out.below hb
        clear hb x0 x1
        obtain ⟨wX, hwX⟩ : ∃ x, x = wV.alloc (.cells #[.int .i64 yu, .int .i64 ya, .int .i64 yb, .int .i64 yc] 28) := ⟨_, rfl⟩
        obtain ⟨G20, hG20⟩ : ∃ x, x = wV.heap.size := ⟨_, rfl⟩
        have BX : Hid (Below w.heap.size w wX) := by unfold Hid; rw [hwX]; exact BV.out.alloc BV.out.size _
        have k0wX : Hid (Blk wX w.heap.size 25 #[.slice ao M acap, .slice co nc ccap]) := by unfold Hid; rw [hwX]; exact k0wV.out.old _
        have k20wX : Hid (Blk wX G20 28 #[.int .i64 yu, .int .i64 ya, .int .i64 yb, .int .i64 yc]) := by unfold Hid; rw [hwX, hG20]; exact Blk.new _ _ _
        go_upto_region 19 with fail
        rw [← hwX, ← hG20]
        clear hwX hG20
        go_wp2_with fail
        go_at_call 9
        refine (HE5.out _ BX.out).mono ?_
        rintro e wY ⟨rfl, hb⟩
        have BY : Hid (Below w.heap.size w wY) := BX.out.trans (hb.mono BX.out.size)
        have k0wY : Hid (Blk wY w.heap.size 25 #[.slice ao M acap, .slice co nc ccap]) := k0wX.out.below hb
        have k20wY : Hid (Blk wY G20 28 #[.int .i64 yu, .int .i64 ya, .int .i64 yb, .int .i64 yc]) := k20wX.out.below hb
        clear hb 
        first | (rcases HMS.out with e | e) | skip
        all_goals (try (exact False.elim HMS.out))
        all_goals (try (exact absurd e (by decide)))
        all_goals (try subst e)
        all_goals (try cases mi)
        all_goals (try clear HMS)
        all_goals go_wp2
        all_goals go_ret
        all_goals exact ⟨rfl, BY.out⟩
      · clear HBH
        have x0 : wT.cell? ⟨w.heap.size, 0, none⟩ = some (.slice ao M acap) := k0wT.out.cell 0
        have x1 : wT.cell? ⟨w.heap.size, 1, none⟩ = some (.slice co nc ccap) := k0wT.out.cell 1
        go_wp2_with fail
        go_at_call 13
        refine (H2.out _ BT.out).mono ?_
        rintro e wU ⟨rfl, hb⟩
        have BU : Hid (Below w.heap.size w wU) := BT.out.trans (hb.mono BT.out.size)
        have k0wU : Hid (Blk wU w.heap.size 25 #[.slice ao M acap, .slice co nc ccap]) := k0wT.out.below hb
        clear hb x0 x1
        have x0 : wU.cell? ⟨w.heap.size, 0, none⟩ = some (.slice ao M acap) := k0wU.out.cell 0
        have x1 : wU.cell? ⟨w.heap.size, 1, none⟩ = some (.slice co nc ccap) := k0wU.out.cell 1
        go_wp2_with fail
        go_at_call 11
        refine (H3.out _ BU.out).mono ?_
        rintro e wV ⟨rfl, hb⟩
        have BV : Hid (Below w.heap.size w wV) := BU.out.trans (hb.mono BU.out.size)
        have k0wV : Hid (Blk wV w.heap.size 25 #[.slice ao M acap, .slice co nc ccap]) := k0wU.out.below hb
        clear hb x0 x1
        obtain ⟨wX, hwX⟩ : ∃ x, x = wV.alloc (.cells #[.int .i64 u, .int .i64 ya, .int .i64 yb, .int .i64 yc] 28) := ⟨_, rfl⟩
        obtain ⟨G20, hG20⟩ : ∃ x, x = wV.heap.size := ⟨_, rfl⟩
        have BX : Hid (Below w.heap.size w wX) := by unfold Hid; rw [hwX]; exact BV.out.alloc BV.out.size _
        have k0wX : Hid (Blk wX w.heap.size 25 #[.slice ao M acap, .slice co nc ccap]) := by unfold Hid; rw [hwX]; exact k0wV.out.old _
        have k20wX : Hid (Blk wX G20 28 #[.int .i64 u, .int .i64 ya, .int .i64 yb, .int .i64 yc]) := by unfold Hid; rw [hwX, hG20]; exact Blk.new _ _ _
        go_upto_region 19 with fail
        rw [← hwX, ← hG20]
        clear hwX hG20
        go_wp2_with fail
        go_at_call 9
        refine (H4.out _ BX.out).mono ?_
        rintro e wY ⟨rfl, hb⟩
        have BY : Hid (Below w.heap.size w wY) := BX.out.trans (hb.mono BX.out.size)
        have k0wY : Hid (Blk wY w.heap.size 25 #[.slice ao M acap, .slice co nc ccap]) := k0wX.out.below hb
        have k20wY : Hid (Blk wY G20 28 #[.int .i64 u, .int .i64 ya, .int .i64 yb, .int .i64 yc]) := k20wX.out.below hb
        clear hb 
        have x0 : wY.cell? ⟨w.heap.size, 0, none⟩ = some (.slice ao M acap) := k0wY.out.cell 0
        have x1 : wY.cell? ⟨w.heap.size, 1, none⟩ = some (.slice co nc ccap) := k0wY.out.cell 1
        have z0 : wY.cell? ⟨G20, 0, none⟩ = some (.int .i64 u) := k20wY.out.cell 0
        have z1 : wY.cell? ⟨G20, 1, none⟩ = some (.int .i64 ya) := k20wY.out.cell 1
        have z2 : wY.cell? ⟨G20, 2, none⟩ = some (.int .i64 yb) := k20wY.out.cell 2
        have z3 : wY.cell? ⟨G20, 3, none⟩ = some (.int .i64 yc) := k20wY.out.cell 3
        go_wp2_with fail
        go_at_call 14
        refine (H5.out _ BY.out).mono ?_
        rintro e wZ ⟨rfl, hb⟩
        have BZ : Hid (Below w.heap.size w wZ) := BY.out.trans (hb.mono BY.out.size)
        have k0wZ : Hid (Blk wZ w.heap.size 25 #[.slice ao M acap, .slice co nc ccap]) := k0wY.out.below hb
        have k20wZ : Hid (Blk wZ G20 28 #[.int .i64 u, .int .i64 ya, .int .i64 yb, .int .i64 yc]) := k20wY.out.below hb
        clear hb x0 x1 z0 z1 z2 z3
        have z0 : wZ.cell? ⟨G20, 0, none⟩ = some (.int .i64 u) := k20wZ.out.cell 0
        go_wp2
        go_ret
        exact ⟨rfl, BZ.out⟩
    · clear HAH
      have HBI : Hid _ := HBH.out
      clear HBH
      go_wp2_with fail
      go_at_call 9
      refine (H1.out _ B9.out).mono ?_
      rintro e wT ⟨rfl, hb⟩
      have BT : Hid (Below w.heap.size w wT) := B9.out.trans (hb.mono B9.out.size)
      have k0wT : Hid (Blk wT w.heap.size 25 #[.slice ao M acap, .slice co nc ccap]) := k0w9.out.below hb
      have k1wT : Hid (Blk wT (w.heap.size + 1) 28 #[.int .i64 wu, .int .i64 wa, .int .i64 wb, .int .i64 wc]) := k1w9.out.below hb
      have k12wT : Hid (Blk wT G12 28 #[.int .i64 xu, .int .i64 xa, .int .i64 xb, .int .i64 xc]) := k12w9.out.below hb
      clear hb 
      clear H1
      go_upto_region 15 with fail
      have HBH : Hid _ := HBI.out
      clear HBI
      rcases HBH.out with ⟨s, n2, H2⟩ | ⟨yu, ya, yb, yc, H2, H3, hms⟩ | ⟨ya, yb, yc, H2, H3, H4, H5⟩
      · clear HBH
        have x0 : wT.cell? ⟨w.heap.size, 0, none⟩ = some (.slice ao M acap) := k0wT.out.cell 0
        have x1 : wT.cell? ⟨w.heap.size, 1, none⟩ = some (.slice co nc ccap) := k0wT.out.cell 1
        go_wp2_with fail
        go_at_call 13
        refine (H2.out _ BT.out).mono ?_
        rintro e wU ⟨rfl, hb⟩
        have BU : Hid (Below w.heap.size w wU) := BT.out.trans (hb.mono BT.out.size)
        have k0wU : Hid (Blk wU w.heap.size 25 #[.slice ao M acap, .slice co nc ccap]) := k0wT.out.below hb
        clear hb x0 x1
        go_wp2
        go_ret
        exact ⟨rfl, BU.out⟩
      · clear HBH
        have HMS : Hid _ := hms
        clear hms
        have x0 : wT.cell? ⟨w.heap.size, 0, none⟩ = some (.slice ao M acap) := k0wT.out.cell 0
        have x1 : wT.cell? ⟨w.heap.size, 1, none⟩ = some (.slice co nc ccap) := k0wT.out.cell 1
        go_wp2_with fail
        go_at_call 13
        refine (H2.out _ BT.out).mono ?_
        rintro e wU ⟨rfl, hb⟩
        have BU : Hid (Below w.heap.size w wU) := BT.out.trans (hb.mono BT.out.size)
        have k0wU : Hid (Blk wU w.heap.size 25 #[.slice ao M acap, .slice co nc ccap]) := k0wT.out.below hb
        clear hb x0 x1
        have x0 : wU.cell? ⟨w.heap.size, 0, none⟩ = some (.slice ao M acap) := k0wU.out.cell 0
        have x1 : wU.cell? ⟨w.heap.size, 1, none⟩ = some (.slice co nc ccap) := k0wU.out.cell 1
        go_wp2_with fail
        go_at_call 11
        refine (H3.out _ BU.out).mono ?_
        rintro e wV ⟨rfl, hb⟩
        have BV : Hid (Below w.heap.size w wV) := BU.out.trans (hb.mono BU.out.size)
        have k0wV : Hid (Blk wV w.heap.size 25 #[.slice ao M acap, .slice co nc ccap]) := k0wU.out.below hb
        clear hb x0 x1
        obtain ⟨wX, hwX⟩ : ∃ x, x = wV.alloc (.cells #[.int .i64 yu, .int .i64 ya, .int .i64 yb, .int .i64 yc] 28) := ⟨_, rfl⟩
        obtain ⟨G20, hG20⟩ : ∃ x, x = wV.heap.size := ⟨_, rfl⟩
        have BX : Hid (Below w.heap.size w wX) := by unfold Hid; rw [hwX]; exact BV.out.alloc BV.out.size _
        have k0wX : Hid (Blk wX w.heap.size 25 #[.slice ao M acap, .slice co nc ccap]) := by unfold Hid; rw [hwX]; exact k0wV.out.old _
        have k20wX : Hid (Blk wX G20 28 #[.int .i64 yu, .int .i64 ya, .int .i64 yb, .int .i64 yc]) := by unfold Hid; rw [hwX, hG20]; exact Blk.new _ _ _
        go_upto_region 19 with fail
        rw [← hwX, ← hG20]
        clear hwX hG20
        go_wp2_with fail
        go_at_call 9
        refine (HE5.out _ BX.out).mono ?_
        rintro e wY ⟨rfl, hb⟩
        have BY : Hid (Below w.heap.size w wY) := BX.out.trans (hb.mono BX.out.size)
        have k0wY : Hid (Blk wY w.heap.size 25 #[.slice ao M acap, .slice co nc ccap]) := k0wX.out.below hb
        have k20wY : Hid (Blk wY G20 28 #[.int .i64 yu, .int .i64 ya, .int .i64 yb, .int .i64 yc]) := k20wX.out.below hb
        clear hb 
        first | (rcases HMS.out with e | e) | skip
        all_goals (try (exact False.elim HMS.out))
        all_goals (try (exact absurd e (by decide)))
        all_goals (try subst e)
        all_goals (try cases mi)
        all_goals (try clear HMS)
        all_goals go_wp2
        all_goals go_ret
        all_goals exact ⟨rfl, BY.out⟩
      · clear HBH
        have x0 : wT.cell? ⟨w.heap.size, 0, none⟩ = some (.slice ao M acap) := k0wT.out.cell 0
        have x1 : wT.cell? ⟨w.heap.size, 1, none⟩ = some (.slice co nc ccap) := k0wT.out.cell 1
        go_wp2_with fail
        go_at_call 13
        refine (H2.out _ BT.out).mono ?_
        rintro e wU ⟨rfl, hb⟩
        have BU : Hid (Below w.heap.size w wU) := BT.out.trans (hb.mono BT.out.size)
        have k0wU : Hid (Blk wU w.heap.size 25 #[.slice ao M acap, .slice co nc ccap]) := k0wT.out.below hb
        clear hb x0 x1
        have x0 : wU.cell? ⟨w.heap.size, 0, none⟩ = some (.slice ao M acap) := k0wU.out.cell 0
        have x1 : wU.cell? ⟨w.heap.size, 1, none⟩ = some (.slice co nc ccap) := k0wU.out.cell 1
        go_wp2_with fail
        go_at_call 11
        refine (H3.out _ BU.out).mono ?_
        rintro e wV ⟨rfl, hb⟩
        have BV : Hid (Below w.heap.size w wV) := BU.out.trans (hb.mono BU.out.size)
        have k0wV : Hid (Blk wV w.heap.size 25 #[.slice ao M acap, .slice co nc ccap]) := k0wU.out.below hb
        clear hb x0 x1
        obtain ⟨wX, hwX⟩ : ∃ x, x = wV.alloc (.cells #[.int .i64 u, .int .i64 ya, .int .i64 yb, .int .i64 yc] 28) := ⟨_, rfl⟩
        obtain ⟨G20, hG20⟩ : ∃ x, x = wV.heap.size := ⟨_, rfl⟩
        have BX : Hid (Below w.heap.size w wX) := by unfold Hid; rw [hwX]; exact BV.out.alloc BV.out.size _
        have k0wX : Hid (Blk wX w.heap.size 25 #[.slice ao M acap, .slice co nc ccap]) := by unfold Hid; rw [hwX]; exact k0wV.out.old _
        have k20wX : Hid (Blk wX G20 28 #[.int .i64 u, .int .i64 ya, .int .i64 yb, .int .i64 yc]) := by unfold Hid; rw [hwX, hG20]; exact Blk.new _ _ _
        go_upto_region 19 with fail
        rw [← hwX, ← hG20]
        clear hwX hG20
        go_wp2_with fail
        go_at_call 9
        refine (H4.out _ BX.out).mono ?_
        rintro e wY ⟨rfl, hb⟩
        have BY : Hid (Below w.heap.size w wY) := BX.out.trans (hb.mono BX.out.size)
        have k0wY : Hid (Blk wY w.heap.size 25 #[.slice ao M acap, .slice co nc ccap]) := k0wX.out.below hb
        have k20wY : Hid (Blk wY G20 28 #[.int .i64 u, .int .i64 ya, .int .i64 yb, .int .i64 yc]) := k20wX.out.below hb
        clear hb 
        have x0 : wY.cell? ⟨w.heap.size, 0, none⟩ = some (.slice ao M acap) := k0wY.out.cell 0
        have x1 : wY.cell? ⟨w.heap.size, 1, none⟩ = some (.slice co nc ccap) := k0wY.out.cell 1
        have z0 : wY.cell? ⟨G20, 0, none⟩ = some (.int .i64 u) := k20wY.out.cell 0
        have z1 : wY.cell? ⟨G20, 1, none⟩ = some (.int .i64 ya) := k20wY.out.cell 1
        have z2 : wY.cell? ⟨G20, 2, none⟩ = some (.int .i64 yb) := k20wY.out.cell 2
        have z3 : wY.cell? ⟨G20, 3, none⟩ = some (.int .i64 yc) := k20wY.out.cell 3
        go_wp2_with fail
        go_at_call 14
        refine (H5.out _ BY.out).mono ?_
        rintro e wZ ⟨rfl, hb⟩
        have BZ : Hid (Below w.heap.size w wZ) := BY.out.trans (hb.mono BY.out.size)
        have k0wZ : Hid (Blk wZ w.heap.size 25 #[.slice ao M acap, .slice co nc ccap]) := k0wY.out.below hb
        have k20wZ : Hid (Blk wZ G20 28 #[.int .i64 u, .int .i64 ya, .int .i64 yb, .int .i64 yc]) := k20wY.out.below hb
        clear hb x0 x1 z0 z1 z2 z3
        have z0 : wZ.cell? ⟨G20, 0, none⟩ = some (.int .i64 u) := k20wZ.out.cell 0
        go_wp2
        go_ret
        exact ⟨rfl, BZ.out⟩
end Go.Proofs.YtedgbohobgnedaeGreatDoor
