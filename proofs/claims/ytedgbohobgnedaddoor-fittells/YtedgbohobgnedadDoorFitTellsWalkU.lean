/-
  Proved: vennlaw1.FitTells returns true where its calls answer as their contracts say, where u is out of range; what was in memory is as it was (walks that the statement leans on). Written by program.
-/
import Derived.Test.YtedgbohobgnedadDoorFitTellsHead
import Derived.Test.YtedgbohobgnedadDoorFieldsEq
import Derived.Deep.Cut
namespace Go.Proofs.YtedgbohobgnedadDoor
open Go.ChangeShapes Go.WideShapes Go.ChangeAt Go.RowKit
set_option maxRecDepth 100000

set_option linter.unusedVariables false in
set_option maxHeartbeats 16000000 in
theorem fitTells_L (u : Int) (hu : u < 0) (N : Nat → Int) (Z : Nat → Int) (hZ : Z = fun _ => 0) (lao : Option Addr) (ll lcap : Nat) (w : World)
    (HMa : Hid (∀ W, Below w.heap.size w W → Calls Tryd.prog 20 #[.int .i64 u, .slice lao ll lcap] W fun e w' => e = .returned (.tuple #[.int .i64 0, .iface 66 (.int .i64 1)]) ∧ Below W.heap.size W w'))
    (HLe : Hid (∀ W, Below w.heap.size w W → Calls Tryd.prog 21 #[.int .i64 u, .slice lao ll lcap] W fun e w' => e = .returned (.tuple #[.agg #[.int .i64 (Z 0), .int .i64 (Z 1), .int .i64 (Z 2), .int .i64 (Z 3), .int .i64 (Z 4), .int .i64 (Z 5), .int .i64 (Z 6), .int .i64 (Z 7)], .iface 66 (.int .i64 1)]) ∧ Below W.heap.size W w'))
    (HNx : Hid (∀ W, Below w.heap.size w W → Calls Tryd.prog 22 #[.int .i64 u, .agg #[.int .i64 (N 0), .int .i64 (N 1), .int .i64 (N 2), .int .i64 (N 3), .int .i64 (N 4), .int .i64 (N 5), .int .i64 (N 6), .int .i64 (N 7)]] W fun e w' => e = .returned (.tuple #[.agg #[.int .i64 (Z 0), .int .i64 (Z 1), .int .i64 (Z 2), .int .i64 (Z 3), .int .i64 (Z 4), .int .i64 (Z 5), .int .i64 (Z 6), .int .i64 (Z 7)], .iface 66 (.int .i64 1)]) ∧ Below W.heap.size W w'))
    (HEn : Hid (∀ W, Below w.heap.size w W → Calls Tryd.prog 11 #[.nilIface, .int .i64 0] W fun e w' => e = .returned (.bool true) ∧ Below W.heap.size W w'))
    (HEr : Hid (∀ (n : Int) W, Below w.heap.size w W → Calls Tryd.prog 11 #[.iface 66 (.int .i64 n), .int .i64 n] W fun e w' => e = .returned (.bool true) ∧ Below W.heap.size W w')) :
    Calls Tryd.prog 6 #[.int .i64 u, .slice lao ll lcap, .agg #[.int .i64 (N 0), .int .i64 (N 1), .int .i64 (N 2), .int .i64 (N 3), .int .i64 (N 4), .int .i64 (N 5), .int .i64 (N 6), .int .i64 (N 7)]] w fun e w' => e = .returned (.bool true) ∧ Below w.heap.size w w' := by
  obtain ⟨w1, hw1⟩ : ∃ w1, w1 = w.alloc (.cells #[.int .i64 (N 0), .int .i64 (N 1), .int .i64 (N 2), .int .i64 (N 3), .int .i64 (N 4), .int .i64 (N 5), .int .i64 (N 6), .int .i64 (N 7)] 26) := ⟨_, rfl⟩
  have HB1 : Hid (Below w.heap.size w w1) := by unfold Hid; rw [hw1]; exact below_alloc1 _ _
  have HN1 : Hid (Blk w1 w.heap.size 26 (arr8 N)) := by unfold Hid; rw [hw1]; exact Blk.new _ _ _
  have HZ : Hid (Z = fun _ => 0) := hZ
  clear hZ
  go_enter Tryd.func6, Tryd.ntmps6
  go_upto_region 1 with fail
  rw [← hw1]
  clear hw1
  obtain ⟨w2, hw2⟩ : ∃ x, x = w1.alloc (.cells #[.int .i64 0, .int .i64 0, .int .i64 0, .int .i64 0, .int .i64 0, .int .i64 0, .int .i64 0, .int .i64 0] 26) := ⟨_, rfl⟩
  have HB2 : Hid (Below w.heap.size w w2) := by unfold Hid; rw [hw2]; exact HB1.out.alloc HB1.out.size _
  have HN2 : Hid (Blk w2 w.heap.size 26 (arr8 N)) := by unfold Hid; rw [hw2]; exact HN1.out.old _
  have HP2 : Hid (Blk w2 w1.heap.size 26 (arr8 Z)) := by unfold Hid; rw [hw2, HZ.out]; exact Blk.new _ _ _
  have HGP : Hid (w.heap.size < w1.heap.size) := HN1.out.lt
  obtain ⟨P, hP⟩ : ∃ P, P = w1.heap.size := ⟨_, rfl⟩
  rw [← hP] at HP2 HGP
  go_upto_region 7 with fail
  rw [← hw2, ← hP]
  clear hw2 hP
  go_wp2_with fail
  go_at_call 20
  refine (HMa.out _ HB2.out).mono ?_
  rintro e w3 ⟨rfl, hb⟩
  have HB3 : Hid (Below w.heap.size w w3) := HB2.out.trans (hb.mono HB2.out.size)
  have HN3 : Hid (Blk w3 w.heap.size 26 (arr8 N)) := HN2.out.below hb
  have HP3 : Hid (Blk w3 P 26 (arr8 Z)) := HP2.out.below hb
  clear hb
  go_wp2_with fail
  go_at_call 11
  refine (HEr.out 1 _ HB3.out).mono ?_
  rintro e w4 ⟨rfl, hb⟩
  have HB4 : Hid (Below w.heap.size w w4) := HB3.out.trans (hb.mono HB3.out.size)
  have HN4 : Hid (Blk w4 w.heap.size 26 (arr8 N)) := HN3.out.below hb
  have HP4 : Hid (Blk w4 P 26 (arr8 Z)) := HP3.out.below hb
  clear hb
  go_wp2_with fail
  go_at_call 21
  refine (HLe.out _ HB4.out).mono ?_
  rintro e w5 ⟨rfl, hb⟩
  have HB5 : Hid (Below w.heap.size w w5) := HB4.out.trans (hb.mono HB4.out.size)
  have HN5 : Hid (Blk w5 w.heap.size 26 (arr8 N)) := HN4.out.below hb
  have HP5 : Hid (Blk w5 P 26 (arr8 Z)) := HP4.out.below hb
  clear hb
  obtain ⟨w6, hw6⟩ : ∃ x, x = w5.alloc (.cells #[.int .i64 (Z 0), .int .i64 (Z 1), .int .i64 (Z 2), .int .i64 (Z 3), .int .i64 (Z 4), .int .i64 (Z 5), .int .i64 (Z 6), .int .i64 (Z 7)] 26) := ⟨_, rfl⟩
  have HB6 : Hid (Below w.heap.size w w6) := by unfold Hid; rw [hw6]; exact HB5.out.alloc HB5.out.size _
  have HN6 : Hid (Blk w6 w.heap.size 26 (arr8 N)) := by unfold Hid; rw [hw6]; exact HN5.out.old _
  have HP6 : Hid (Blk w6 P 26 (arr8 Z)) := by unfold Hid; rw [hw6]; exact HP5.out.old _
  have HX16 : Hid (Blk w6 w5.heap.size 26 (arr8 Z)) := by unfold Hid; rw [hw6]; exact Blk.new _ _ _
  have HGX1 : Hid (w.heap.size < w5.heap.size) := HN5.out.lt
  obtain ⟨X1, hX1⟩ : ∃ P, P = w5.heap.size := ⟨_, rfl⟩
  rw [← hX1] at HX16 HGX1
  go_upto_region 21 with fail
  rw [← hw6, ← hX1]
  clear hw6 hX1
  go_wp2_with fail
  go_at_call 11
  refine (HEr.out 1 _ HB6.out).mono ?_
  rintro e w7 ⟨rfl, hb⟩
  have HB7 : Hid (Below w.heap.size w w7) := HB6.out.trans (hb.mono HB6.out.size)
  have HN7 : Hid (Blk w7 w.heap.size 26 (arr8 N)) := HN6.out.below hb
  have HP7 : Hid (Blk w7 P 26 (arr8 Z)) := HP6.out.below hb
  have HX17 : Hid (Blk w7 X1 26 (arr8 Z)) := HX16.out.below hb
  clear hb
  obtain ⟨x10, x11, x12, x13, x14, x15, x16, x17⟩ := HX17.out.cells8
  obtain ⟨p0, p1, p2, p3, p4, p5, p6, p7⟩ := HP7.out.cells8
  have hq := same8 Z
  have hgd := guard8
  go_upto_region 22 with fail
  clear x10 x11 x12 x13 x14 x15 x16 x17 p0 p1 p2 p3 p4 p5 p6 p7
  clear hq hgd
  go_wp2
  go_loop [18, 19] (fun s i => s = .int .i64 0 ∧ i = .int .i64 0) (fun _ _ => 0)
  case atStart => exact ⟨rfl, rfl⟩
  case round =>
    obtain ⟨rfl, rfl⟩ := hrel
    obtain ⟨w8, hw8⟩ : ∃ x, x = w7.alloc (.cells #[.int .i64 0, .int .i64 0, .int .i64 0, .int .i64 0, .int .i64 0, .int .i64 0, .int .i64 0, .int .i64 0] 26) := ⟨_, rfl⟩
    have HB8 : Hid (Below w.heap.size w w8) := by unfold Hid; rw [hw8]; exact HB7.out.alloc HB7.out.size _
    have HN8 : Hid (Blk w8 w.heap.size 26 (arr8 N)) := by unfold Hid; rw [hw8]; exact HN7.out.old _
    have HY8 : Hid (Blk w8 w7.heap.size 26 (arr8 Z)) := by unfold Hid; rw [hw8, HZ.out]; exact Blk.new _ _ _
    have HGY : Hid (w.heap.size < w7.heap.size) := HN7.out.lt
    obtain ⟨Y, hY⟩ : ∃ P, P = w7.heap.size := ⟨_, rfl⟩
    rw [← hY] at HY8 HGY
    go_upto_region 34 with fail
    rw [← hw8, ← hY]
    clear hw8 hY
    obtain ⟨n0, n1, n2, n3, n4, n5, n6, n7⟩ := HN8.out.cells8
    go_wp2_with fail
    go_at_call 22
    refine (HNx.out _ HB8.out).mono ?_
    rintro e w9 ⟨rfl, hb⟩
    have HB9 : Hid (Below w.heap.size w w9) := HB8.out.trans (hb.mono HB8.out.size)
    have HN9 : Hid (Blk w9 w.heap.size 26 (arr8 N)) := HN8.out.below hb
    have HY9 : Hid (Blk w9 Y 26 (arr8 Z)) := HY8.out.below hb
    clear hb
    clear n0 n1 n2 n3 n4 n5 n6 n7
    obtain ⟨w10, hw10⟩ : ∃ x, x = w9.alloc (.cells #[.int .i64 (Z 0), .int .i64 (Z 1), .int .i64 (Z 2), .int .i64 (Z 3), .int .i64 (Z 4), .int .i64 (Z 5), .int .i64 (Z 6), .int .i64 (Z 7)] 26) := ⟨_, rfl⟩
    have HB10 : Hid (Below w.heap.size w w10) := by unfold Hid; rw [hw10]; exact HB9.out.alloc HB9.out.size _
    have HN10 : Hid (Blk w10 w.heap.size 26 (arr8 N)) := by unfold Hid; rw [hw10]; exact HN9.out.old _
    have HY10 : Hid (Blk w10 Y 26 (arr8 Z)) := by unfold Hid; rw [hw10]; exact HY9.out.old _
    have HX210 : Hid (Blk w10 w9.heap.size 26 (arr8 Z)) := by unfold Hid; rw [hw10]; exact Blk.new _ _ _
    have HGX2 : Hid (w.heap.size < w9.heap.size) := HN9.out.lt
    obtain ⟨X2, hX2⟩ : ∃ P, P = w9.heap.size := ⟨_, rfl⟩
    rw [← hX2] at HX210 HGX2
    go_upto_region 44 with fail
    rw [← hw10, ← hX2]
    clear hw10 hX2
    go_wp2_with fail
    go_at_call 11
    refine (HEr.out 1 _ HB10.out).mono ?_
    rintro e w11 ⟨rfl, hb⟩
    have HB11 : Hid (Below w.heap.size w w11) := HB10.out.trans (hb.mono HB10.out.size)
    have HN11 : Hid (Blk w11 w.heap.size 26 (arr8 N)) := HN10.out.below hb
    have HY11 : Hid (Blk w11 Y 26 (arr8 Z)) := HY10.out.below hb
    have HX211 : Hid (Blk w11 X2 26 (arr8 Z)) := HX210.out.below hb
    clear hb
    obtain ⟨x20, x21, x22, x23, x24, x25, x26, x27⟩ := HX211.out.cells8
    obtain ⟨y0, y1, y2, y3, y4, y5, y6, y7⟩ := HY11.out.cells8
    have hq := same8 Z
    have hgd := guard8
    go_wp2
    go_ret
    exact ⟨rfl, HB11.out⟩

set_option linter.unusedVariables false in
set_option maxHeartbeats 16000000 in
theorem fitTells_H (u : Int) (hu : 6 < u) (N : Nat → Int) (Z : Nat → Int) (hZ : Z = fun _ => 0) (lao : Option Addr) (ll lcap : Nat) (w : World)
    (HMa : Hid (∀ W, Below w.heap.size w W → Calls Tryd.prog 20 #[.int .i64 u, .slice lao ll lcap] W fun e w' => e = .returned (.tuple #[.int .i64 0, .iface 66 (.int .i64 1)]) ∧ Below W.heap.size W w'))
    (HLe : Hid (∀ W, Below w.heap.size w W → Calls Tryd.prog 21 #[.int .i64 u, .slice lao ll lcap] W fun e w' => e = .returned (.tuple #[.agg #[.int .i64 (Z 0), .int .i64 (Z 1), .int .i64 (Z 2), .int .i64 (Z 3), .int .i64 (Z 4), .int .i64 (Z 5), .int .i64 (Z 6), .int .i64 (Z 7)], .iface 66 (.int .i64 1)]) ∧ Below W.heap.size W w'))
    (HNx : Hid (∀ W, Below w.heap.size w W → Calls Tryd.prog 22 #[.int .i64 u, .agg #[.int .i64 (N 0), .int .i64 (N 1), .int .i64 (N 2), .int .i64 (N 3), .int .i64 (N 4), .int .i64 (N 5), .int .i64 (N 6), .int .i64 (N 7)]] W fun e w' => e = .returned (.tuple #[.agg #[.int .i64 (Z 0), .int .i64 (Z 1), .int .i64 (Z 2), .int .i64 (Z 3), .int .i64 (Z 4), .int .i64 (Z 5), .int .i64 (Z 6), .int .i64 (Z 7)], .iface 66 (.int .i64 1)]) ∧ Below W.heap.size W w'))
    (HEn : Hid (∀ W, Below w.heap.size w W → Calls Tryd.prog 11 #[.nilIface, .int .i64 0] W fun e w' => e = .returned (.bool true) ∧ Below W.heap.size W w'))
    (HEr : Hid (∀ (n : Int) W, Below w.heap.size w W → Calls Tryd.prog 11 #[.iface 66 (.int .i64 n), .int .i64 n] W fun e w' => e = .returned (.bool true) ∧ Below W.heap.size W w')) :
    Calls Tryd.prog 6 #[.int .i64 u, .slice lao ll lcap, .agg #[.int .i64 (N 0), .int .i64 (N 1), .int .i64 (N 2), .int .i64 (N 3), .int .i64 (N 4), .int .i64 (N 5), .int .i64 (N 6), .int .i64 (N 7)]] w fun e w' => e = .returned (.bool true) ∧ Below w.heap.size w w' := by
  obtain ⟨w1, hw1⟩ : ∃ w1, w1 = w.alloc (.cells #[.int .i64 (N 0), .int .i64 (N 1), .int .i64 (N 2), .int .i64 (N 3), .int .i64 (N 4), .int .i64 (N 5), .int .i64 (N 6), .int .i64 (N 7)] 26) := ⟨_, rfl⟩
  have HB1 : Hid (Below w.heap.size w w1) := by unfold Hid; rw [hw1]; exact below_alloc1 _ _
  have HN1 : Hid (Blk w1 w.heap.size 26 (arr8 N)) := by unfold Hid; rw [hw1]; exact Blk.new _ _ _
  have HZ : Hid (Z = fun _ => 0) := hZ
  clear hZ
  go_enter Tryd.func6, Tryd.ntmps6
  go_upto_region 1 with fail
  rw [← hw1]
  clear hw1
  obtain ⟨w2, hw2⟩ : ∃ x, x = w1.alloc (.cells #[.int .i64 0, .int .i64 0, .int .i64 0, .int .i64 0, .int .i64 0, .int .i64 0, .int .i64 0, .int .i64 0] 26) := ⟨_, rfl⟩
  have HB2 : Hid (Below w.heap.size w w2) := by unfold Hid; rw [hw2]; exact HB1.out.alloc HB1.out.size _
  have HN2 : Hid (Blk w2 w.heap.size 26 (arr8 N)) := by unfold Hid; rw [hw2]; exact HN1.out.old _
  have HP2 : Hid (Blk w2 w1.heap.size 26 (arr8 Z)) := by unfold Hid; rw [hw2, HZ.out]; exact Blk.new _ _ _
  have HGP : Hid (w.heap.size < w1.heap.size) := HN1.out.lt
  obtain ⟨P, hP⟩ : ∃ P, P = w1.heap.size := ⟨_, rfl⟩
  rw [← hP] at HP2 HGP
  go_upto_region 7 with fail
  rw [← hw2, ← hP]
  clear hw2 hP
  go_wp2_with fail
  go_at_call 20
  refine (HMa.out _ HB2.out).mono ?_
  rintro e w3 ⟨rfl, hb⟩
  have HB3 : Hid (Below w.heap.size w w3) := HB2.out.trans (hb.mono HB2.out.size)
  have HN3 : Hid (Blk w3 w.heap.size 26 (arr8 N)) := HN2.out.below hb
  have HP3 : Hid (Blk w3 P 26 (arr8 Z)) := HP2.out.below hb
  clear hb
  go_wp2_with fail
  go_at_call 11
  refine (HEr.out 1 _ HB3.out).mono ?_
  rintro e w4 ⟨rfl, hb⟩
  have HB4 : Hid (Below w.heap.size w w4) := HB3.out.trans (hb.mono HB3.out.size)
  have HN4 : Hid (Blk w4 w.heap.size 26 (arr8 N)) := HN3.out.below hb
  have HP4 : Hid (Blk w4 P 26 (arr8 Z)) := HP3.out.below hb
  clear hb
  go_wp2_with fail
  go_at_call 21
  refine (HLe.out _ HB4.out).mono ?_
  rintro e w5 ⟨rfl, hb⟩
  have HB5 : Hid (Below w.heap.size w w5) := HB4.out.trans (hb.mono HB4.out.size)
  have HN5 : Hid (Blk w5 w.heap.size 26 (arr8 N)) := HN4.out.below hb
  have HP5 : Hid (Blk w5 P 26 (arr8 Z)) := HP4.out.below hb
  clear hb
  obtain ⟨w6, hw6⟩ : ∃ x, x = w5.alloc (.cells #[.int .i64 (Z 0), .int .i64 (Z 1), .int .i64 (Z 2), .int .i64 (Z 3), .int .i64 (Z 4), .int .i64 (Z 5), .int .i64 (Z 6), .int .i64 (Z 7)] 26) := ⟨_, rfl⟩
  have HB6 : Hid (Below w.heap.size w w6) := by unfold Hid; rw [hw6]; exact HB5.out.alloc HB5.out.size _
  have HN6 : Hid (Blk w6 w.heap.size 26 (arr8 N)) := by unfold Hid; rw [hw6]; exact HN5.out.old _
  have HP6 : Hid (Blk w6 P 26 (arr8 Z)) := by unfold Hid; rw [hw6]; exact HP5.out.old _
  have HX16 : Hid (Blk w6 w5.heap.size 26 (arr8 Z)) := by unfold Hid; rw [hw6]; exact Blk.new _ _ _
  have HGX1 : Hid (w.heap.size < w5.heap.size) := HN5.out.lt
  obtain ⟨X1, hX1⟩ : ∃ P, P = w5.heap.size := ⟨_, rfl⟩
  rw [← hX1] at HX16 HGX1
  go_upto_region 21 with fail
  rw [← hw6, ← hX1]
  clear hw6 hX1
  go_wp2_with fail
  go_at_call 11
  refine (HEr.out 1 _ HB6.out).mono ?_
  rintro e w7 ⟨rfl, hb⟩
  have HB7 : Hid (Below w.heap.size w w7) := HB6.out.trans (hb.mono HB6.out.size)
  have HN7 : Hid (Blk w7 w.heap.size 26 (arr8 N)) := HN6.out.below hb
  have HP7 : Hid (Blk w7 P 26 (arr8 Z)) := HP6.out.below hb
  have HX17 : Hid (Blk w7 X1 26 (arr8 Z)) := HX16.out.below hb
  clear hb
  obtain ⟨x10, x11, x12, x13, x14, x15, x16, x17⟩ := HX17.out.cells8
  obtain ⟨p0, p1, p2, p3, p4, p5, p6, p7⟩ := HP7.out.cells8
  have hq := same8 Z
  have hgd := guard8
  go_upto_region 22 with fail
  clear x10 x11 x12 x13 x14 x15 x16 x17 p0 p1 p2 p3 p4 p5 p6 p7
  clear hq hgd
  go_wp2
  go_loop [18, 19] (fun s i => s = .int .i64 0 ∧ i = .int .i64 0) (fun _ _ => 0)
  case atStart => exact ⟨rfl, rfl⟩
  case round =>
    obtain ⟨rfl, rfl⟩ := hrel
    obtain ⟨w8, hw8⟩ : ∃ x, x = w7.alloc (.cells #[.int .i64 0, .int .i64 0, .int .i64 0, .int .i64 0, .int .i64 0, .int .i64 0, .int .i64 0, .int .i64 0] 26) := ⟨_, rfl⟩
    have HB8 : Hid (Below w.heap.size w w8) := by unfold Hid; rw [hw8]; exact HB7.out.alloc HB7.out.size _
    have HN8 : Hid (Blk w8 w.heap.size 26 (arr8 N)) := by unfold Hid; rw [hw8]; exact HN7.out.old _
    have HY8 : Hid (Blk w8 w7.heap.size 26 (arr8 Z)) := by unfold Hid; rw [hw8, HZ.out]; exact Blk.new _ _ _
    have HGY : Hid (w.heap.size < w7.heap.size) := HN7.out.lt
    obtain ⟨Y, hY⟩ : ∃ P, P = w7.heap.size := ⟨_, rfl⟩
    rw [← hY] at HY8 HGY
    go_upto_region 34 with fail
    rw [← hw8, ← hY]
    clear hw8 hY
    obtain ⟨n0, n1, n2, n3, n4, n5, n6, n7⟩ := HN8.out.cells8
    go_wp2_with fail
    go_at_call 22
    refine (HNx.out _ HB8.out).mono ?_
    rintro e w9 ⟨rfl, hb⟩
    have HB9 : Hid (Below w.heap.size w w9) := HB8.out.trans (hb.mono HB8.out.size)
    have HN9 : Hid (Blk w9 w.heap.size 26 (arr8 N)) := HN8.out.below hb
    have HY9 : Hid (Blk w9 Y 26 (arr8 Z)) := HY8.out.below hb
    clear hb
    clear n0 n1 n2 n3 n4 n5 n6 n7
    obtain ⟨w10, hw10⟩ : ∃ x, x = w9.alloc (.cells #[.int .i64 (Z 0), .int .i64 (Z 1), .int .i64 (Z 2), .int .i64 (Z 3), .int .i64 (Z 4), .int .i64 (Z 5), .int .i64 (Z 6), .int .i64 (Z 7)] 26) := ⟨_, rfl⟩
    have HB10 : Hid (Below w.heap.size w w10) := by unfold Hid; rw [hw10]; exact HB9.out.alloc HB9.out.size _
    have HN10 : Hid (Blk w10 w.heap.size 26 (arr8 N)) := by unfold Hid; rw [hw10]; exact HN9.out.old _
    have HY10 : Hid (Blk w10 Y 26 (arr8 Z)) := by unfold Hid; rw [hw10]; exact HY9.out.old _
    have HX210 : Hid (Blk w10 w9.heap.size 26 (arr8 Z)) := by unfold Hid; rw [hw10]; exact Blk.new _ _ _
    have HGX2 : Hid (w.heap.size < w9.heap.size) := HN9.out.lt
    obtain ⟨X2, hX2⟩ : ∃ P, P = w9.heap.size := ⟨_, rfl⟩
    rw [← hX2] at HX210 HGX2
    go_upto_region 44 with fail
    rw [← hw10, ← hX2]
    clear hw10 hX2
    go_wp2_with fail
    go_at_call 11
    refine (HEr.out 1 _ HB10.out).mono ?_
    rintro e w11 ⟨rfl, hb⟩
    have HB11 : Hid (Below w.heap.size w w11) := HB10.out.trans (hb.mono HB10.out.size)
    have HN11 : Hid (Blk w11 w.heap.size 26 (arr8 N)) := HN10.out.below hb
    have HY11 : Hid (Blk w11 Y 26 (arr8 Z)) := HY10.out.below hb
    have HX211 : Hid (Blk w11 X2 26 (arr8 Z)) := HX210.out.below hb
    clear hb
    obtain ⟨x20, x21, x22, x23, x24, x25, x26, x27⟩ := HX211.out.cells8
    obtain ⟨y0, y1, y2, y3, y4, y5, y6, y7⟩ := HY11.out.cells8
    have hq := same8 Z
    have hgd := guard8
    go_wp2
    go_ret
    exact ⟨rfl, HB11.out⟩

end Go.Proofs.YtedgbohobgnedadDoor
