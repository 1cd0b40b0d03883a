/-
  Proved: vennlaw1.FitTells returns true where its calls answer as their contracts say, where rows are wrong; what was in memory is as it was (walks that the statement leans on). Written by program.
-/
import Derived.Test.YtedgbohobgnedadDoorFitTellsHead
import Derived.Test.YtedgbohobgnedadDoorFieldsEq
import Derived.Deep.Cut
namespace Go.Proofs.YtedgbohobgnedadDoor
open Go.ChangeShapes Go.WideShapes Go.ChangeAt Go.RowKit
set_option maxRecDepth 100000

set_option linter.unusedVariables false in
set_option maxHeartbeats 16000000 in
theorem fitTells_RC (u : Nat) (hu : u ≤ 6) (N : Nat → Int) (F : Int) (hF : ¬ F = 0) (G : Int) (hG : ¬ G = 0) (Z : Nat → Int) (hZ : Z = fun _ => 0) (lao : Option Addr) (ll lcap : Nat) (w : World)
    (HRs : Hid (∀ W, Below w.heap.size w W → Calls Tryd.prog 12 #[.slice lao ll lcap] W fun e w' => e = .returned (.int .i64 F) ∧ Below W.heap.size W w'))
    (HMa : Hid (∀ W, Below w.heap.size w W → Calls Tryd.prog 20 #[.int .i64 (u : Int), .slice lao ll lcap] W fun e w' => e = .returned (.tuple #[.int .i64 0, .iface 66 (.int .i64 F)]) ∧ Below W.heap.size W w'))
    (HLe : Hid (∀ W, Below w.heap.size w W → Calls Tryd.prog 21 #[.int .i64 (u : Int), .slice lao ll lcap] W fun e w' => e = .returned (.tuple #[.agg #[.int .i64 (Z 0), .int .i64 (Z 1), .int .i64 (Z 2), .int .i64 (Z 3), .int .i64 (Z 4), .int .i64 (Z 5), .int .i64 (Z 6), .int .i64 (Z 7)], .iface 66 (.int .i64 F)]) ∧ Below W.heap.size W w'))
    (HNx : Hid (∀ W, Below w.heap.size w W → Calls Tryd.prog 22 #[.int .i64 (u : Int), .agg #[.int .i64 (N 0), .int .i64 (N 1), .int .i64 (N 2), .int .i64 (N 3), .int .i64 (N 4), .int .i64 (N 5), .int .i64 (N 6), .int .i64 (N 7)]] W fun e w' => e = .returned (.tuple #[.agg #[.int .i64 (Z 0), .int .i64 (Z 1), .int .i64 (Z 2), .int .i64 (Z 3), .int .i64 (Z 4), .int .i64 (Z 5), .int .i64 (Z 6), .int .i64 (Z 7)], .iface 66 (.int .i64 G)]) ∧ Below W.heap.size W w'))
    (HCo : Hid (∀ W, Below w.heap.size w W → Calls Tryd.prog 13 #[.agg #[.int .i64 (N 0), .int .i64 (N 1), .int .i64 (N 2), .int .i64 (N 3), .int .i64 (N 4), .int .i64 (N 5), .int .i64 (N 6), .int .i64 (N 7)]] W fun e w' => e = .returned (.int .i64 G) ∧ Below W.heap.size W w'))
    (HEn : Hid (∀ W, Below w.heap.size w W → Calls Tryd.prog 11 #[.nilIface, .int .i64 0] W fun e w' => e = .returned (.bool true) ∧ Below W.heap.size W w'))
    (HEr : Hid (∀ (n : Int) W, Below w.heap.size w W → Calls Tryd.prog 11 #[.iface 66 (.int .i64 n), .int .i64 n] W fun e w' => e = .returned (.bool true) ∧ Below W.heap.size W w')) :
    Calls Tryd.prog 6 #[.int .i64 (u : Int), .slice lao ll lcap, .agg #[.int .i64 (N 0), .int .i64 (N 1), .int .i64 (N 2), .int .i64 (N 3), .int .i64 (N 4), .int .i64 (N 5), .int .i64 (N 6), .int .i64 (N 7)]] w fun e w' => e = .returned (.bool true) ∧ Below w.heap.size w w' := by
  obtain ⟨w1, hw1⟩ : ∃ w1, w1 = w.alloc (.cells #[.int .i64 (N 0), .int .i64 (N 1), .int .i64 (N 2), .int .i64 (N 3), .int .i64 (N 4), .int .i64 (N 5), .int .i64 (N 6), .int .i64 (N 7)] 26) := ⟨_, rfl⟩
  have HB1 : Hid (Below w.heap.size w w1) := by unfold Hid; rw [hw1]; exact below_alloc1 _ _
  have HN1 : Hid (Blk w1 w.heap.size 26 (arr8 N)) := by unfold Hid; rw [hw1]; exact Blk.new _ _ _
  have HZ : Hid (Z = fun _ => 0) := hZ
  clear hZ
  have hu0 : ¬ ((u : Int) < 0) := by omega
  have hu6 : ¬ (6 < (u : Int)) := by omega
  go_enter Tryd.func6, Tryd.ntmps6
  go_upto_region 1 with fail
  rw [← hw1]
  clear hw1
  go_wp2_with fail
  go_at_call 12
  refine (HRs.out _ HB1.out).mono ?_
  rintro e w2 ⟨rfl, hb⟩
  have HB2 : Hid (Below w.heap.size w w2) := HB1.out.trans (hb.mono HB1.out.size)
  have HN2 : Hid (Blk w2 w.heap.size 26 (arr8 N)) := HN1.out.below hb
  clear hb
  obtain ⟨w3, hw3⟩ : ∃ x, x = w2.alloc (.cells #[.int .i64 0, .int .i64 0, .int .i64 0, .int .i64 0, .int .i64 0, .int .i64 0, .int .i64 0, .int .i64 0] 26) := ⟨_, rfl⟩
  have HB3 : Hid (Below w.heap.size w w3) := by unfold Hid; rw [hw3]; exact HB2.out.alloc HB2.out.size _
  have HN3 : Hid (Blk w3 w.heap.size 26 (arr8 N)) := by unfold Hid; rw [hw3]; exact HN2.out.old _
  have HP3 : Hid (Blk w3 w2.heap.size 26 (arr8 Z)) := by unfold Hid; rw [hw3, HZ.out]; exact Blk.new _ _ _
  have HGP : Hid (w.heap.size < w2.heap.size) := HN2.out.lt
  obtain ⟨P, hP⟩ : ∃ P, P = w2.heap.size := ⟨_, rfl⟩
  rw [← hP] at HP3 HGP
  go_upto_region 7 with fail
  rw [← hw3, ← hP]
  clear hw3 hP
  go_wp2_with fail
  go_at_call 20
  refine (HMa.out _ HB3.out).mono ?_
  rintro e w4 ⟨rfl, hb⟩
  have HB4 : Hid (Below w.heap.size w w4) := HB3.out.trans (hb.mono HB3.out.size)
  have HN4 : Hid (Blk w4 w.heap.size 26 (arr8 N)) := HN3.out.below hb
  have HP4 : Hid (Blk w4 P 26 (arr8 Z)) := HP3.out.below hb
  clear hb
  go_wp2_with fail
  go_at_call 11
  refine (HEr.out F _ HB4.out).mono ?_
  rintro e w5 ⟨rfl, hb⟩
  have HB5 : Hid (Below w.heap.size w w5) := HB4.out.trans (hb.mono HB4.out.size)
  have HN5 : Hid (Blk w5 w.heap.size 26 (arr8 N)) := HN4.out.below hb
  have HP5 : Hid (Blk w5 P 26 (arr8 Z)) := HP4.out.below hb
  clear hb
  go_wp2_with fail
  go_at_call 21
  refine (HLe.out _ HB5.out).mono ?_
  rintro e w6 ⟨rfl, hb⟩
  have HB6 : Hid (Below w.heap.size w w6) := HB5.out.trans (hb.mono HB5.out.size)
  have HN6 : Hid (Blk w6 w.heap.size 26 (arr8 N)) := HN5.out.below hb
  have HP6 : Hid (Blk w6 P 26 (arr8 Z)) := HP5.out.below hb
  clear hb
  obtain ⟨w7, hw7⟩ : ∃ x, x = w6.alloc (.cells #[.int .i64 (Z 0), .int .i64 (Z 1), .int .i64 (Z 2), .int .i64 (Z 3), .int .i64 (Z 4), .int .i64 (Z 5), .int .i64 (Z 6), .int .i64 (Z 7)] 26) := ⟨_, rfl⟩
  have HB7 : Hid (Below w.heap.size w w7) := by unfold Hid; rw [hw7]; exact HB6.out.alloc HB6.out.size _
  have HN7 : Hid (Blk w7 w.heap.size 26 (arr8 N)) := by unfold Hid; rw [hw7]; exact HN6.out.old _
  have HP7 : Hid (Blk w7 P 26 (arr8 Z)) := by unfold Hid; rw [hw7]; exact HP6.out.old _
  have HX17 : Hid (Blk w7 w6.heap.size 26 (arr8 Z)) := by unfold Hid; rw [hw7]; exact Blk.new _ _ _
  have HGX1 : Hid (w.heap.size < w6.heap.size) := HN6.out.lt
  obtain ⟨X1, hX1⟩ : ∃ P, P = w6.heap.size := ⟨_, rfl⟩
  rw [← hX1] at HX17 HGX1
  go_upto_region 21 with fail
  rw [← hw7, ← hX1]
  clear hw7 hX1
  go_wp2_with fail
  go_at_call 11
  refine (HEr.out F _ HB7.out).mono ?_
  rintro e w8 ⟨rfl, hb⟩
  have HB8 : Hid (Below w.heap.size w w8) := HB7.out.trans (hb.mono HB7.out.size)
  have HN8 : Hid (Blk w8 w.heap.size 26 (arr8 N)) := HN7.out.below hb
  have HP8 : Hid (Blk w8 P 26 (arr8 Z)) := HP7.out.below hb
  have HX18 : Hid (Blk w8 X1 26 (arr8 Z)) := HX17.out.below hb
  clear hb
  obtain ⟨x10, x11, x12, x13, x14, x15, x16, x17⟩ := HX18.out.cells8
  obtain ⟨p0, p1, p2, p3, p4, p5, p6, p7⟩ := HP8.out.cells8
  have hq := same8 Z
  have hgd := guard8
  go_upto_region 22 with fail
  clear x10 x11 x12 x13 x14 x15 x16 x17 p0 p1 p2 p3 p4 p5 p6 p7
  clear hq hgd
  obtain ⟨n0, n1, n2, n3, n4, n5, n6, n7⟩ := HN8.out.cells8
  go_wp2_with fail
  go_at_call 13
  refine (HCo.out _ HB8.out).mono ?_
  rintro e w9 ⟨rfl, hb⟩
  have HB9 : Hid (Below w.heap.size w w9) := HB8.out.trans (hb.mono HB8.out.size)
  have HN9 : Hid (Blk w9 w.heap.size 26 (arr8 N)) := HN8.out.below hb
  clear hb
  clear n0 n1 n2 n3 n4 n5 n6 n7
  go_wp2
  go_loop [18, 19] (fun s i => s = .int .i64 0 ∧ i = .int .i64 0) (fun _ _ => 0)
  case atStart => exact ⟨rfl, rfl⟩
  case round =>
    obtain ⟨rfl, rfl⟩ := hrel
    obtain ⟨w10, hw10⟩ : ∃ x, x = w9.alloc (.cells #[.int .i64 0, .int .i64 0, .int .i64 0, .int .i64 0, .int .i64 0, .int .i64 0, .int .i64 0, .int .i64 0] 26) := ⟨_, rfl⟩
    have HB10 : Hid (Below w.heap.size w w10) := by unfold Hid; rw [hw10]; exact HB9.out.alloc HB9.out.size _
    have HN10 : Hid (Blk w10 w.heap.size 26 (arr8 N)) := by unfold Hid; rw [hw10]; exact HN9.out.old _
    have HY10 : Hid (Blk w10 w9.heap.size 26 (arr8 Z)) := by unfold Hid; rw [hw10, HZ.out]; exact Blk.new _ _ _
    have HGY : Hid (w.heap.size < w9.heap.size) := HN9.out.lt
    obtain ⟨Y, hY⟩ : ∃ P, P = w9.heap.size := ⟨_, rfl⟩
    rw [← hY] at HY10 HGY
    go_upto_region 34 with fail
    rw [← hw10, ← hY]
    clear hw10 hY
    obtain ⟨n0, n1, n2, n3, n4, n5, n6, n7⟩ := HN10.out.cells8
    go_wp2_with fail
    go_at_call 22
    refine (HNx.out _ HB10.out).mono ?_
    rintro e w11 ⟨rfl, hb⟩
    have HB11 : Hid (Below w.heap.size w w11) := HB10.out.trans (hb.mono HB10.out.size)
    have HN11 : Hid (Blk w11 w.heap.size 26 (arr8 N)) := HN10.out.below hb
    have HY11 : Hid (Blk w11 Y 26 (arr8 Z)) := HY10.out.below hb
    clear hb
    clear n0 n1 n2 n3 n4 n5 n6 n7
    obtain ⟨w12, hw12⟩ : ∃ x, x = w11.alloc (.cells #[.int .i64 (Z 0), .int .i64 (Z 1), .int .i64 (Z 2), .int .i64 (Z 3), .int .i64 (Z 4), .int .i64 (Z 5), .int .i64 (Z 6), .int .i64 (Z 7)] 26) := ⟨_, rfl⟩
    have HB12 : Hid (Below w.heap.size w w12) := by unfold Hid; rw [hw12]; exact HB11.out.alloc HB11.out.size _
    have HN12 : Hid (Blk w12 w.heap.size 26 (arr8 N)) := by unfold Hid; rw [hw12]; exact HN11.out.old _
    have HY12 : Hid (Blk w12 Y 26 (arr8 Z)) := by unfold Hid; rw [hw12]; exact HY11.out.old _
    have HX212 : Hid (Blk w12 w11.heap.size 26 (arr8 Z)) := by unfold Hid; rw [hw12]; exact Blk.new _ _ _
    have HGX2 : Hid (w.heap.size < w11.heap.size) := HN11.out.lt
    obtain ⟨X2, hX2⟩ : ∃ P, P = w11.heap.size := ⟨_, rfl⟩
    rw [← hX2] at HX212 HGX2
    go_upto_region 44 with fail
    rw [← hw12, ← hX2]
    clear hw12 hX2
    go_wp2_with fail
    go_at_call 11
    refine (HEr.out G _ HB12.out).mono ?_
    rintro e w13 ⟨rfl, hb⟩
    have HB13 : Hid (Below w.heap.size w w13) := HB12.out.trans (hb.mono HB12.out.size)
    have HN13 : Hid (Blk w13 w.heap.size 26 (arr8 N)) := HN12.out.below hb
    have HY13 : Hid (Blk w13 Y 26 (arr8 Z)) := HY12.out.below hb
    have HX213 : Hid (Blk w13 X2 26 (arr8 Z)) := HX212.out.below hb
    clear hb
    obtain ⟨x20, x21, x22, x23, x24, x25, x26, x27⟩ := HX213.out.cells8
    obtain ⟨y0, y1, y2, y3, y4, y5, y6, y7⟩ := HY13.out.cells8
    have hq := same8 Z
    have hgd := guard8
    go_wp2
    go_ret
    exact ⟨rfl, HB13.out⟩

set_option linter.unusedVariables false in
set_option maxHeartbeats 16000000 in
theorem fitTells_RS (u : Nat) (hu : u ≤ 6) (N : Nat → Int) (F : Int) (hF : ¬ F = 0) (hc : ∀ f, f < 8 → 0 ≤ N f ∧ N f ≤ 6) (hsum : ¬ sumN N 8 = u) (Z : Nat → Int) (hZ : Z = fun _ => 0) (lao : Option Addr) (ll lcap : Nat) (w : World)
    (HRs : Hid (∀ W, Below w.heap.size w W → Calls Tryd.prog 12 #[.slice lao ll lcap] W fun e w' => e = .returned (.int .i64 F) ∧ Below W.heap.size W w'))
    (HMa : Hid (∀ W, Below w.heap.size w W → Calls Tryd.prog 20 #[.int .i64 (u : Int), .slice lao ll lcap] W fun e w' => e = .returned (.tuple #[.int .i64 0, .iface 66 (.int .i64 F)]) ∧ Below W.heap.size W w'))
    (HLe : Hid (∀ W, Below w.heap.size w W → Calls Tryd.prog 21 #[.int .i64 (u : Int), .slice lao ll lcap] W fun e w' => e = .returned (.tuple #[.agg #[.int .i64 (Z 0), .int .i64 (Z 1), .int .i64 (Z 2), .int .i64 (Z 3), .int .i64 (Z 4), .int .i64 (Z 5), .int .i64 (Z 6), .int .i64 (Z 7)], .iface 66 (.int .i64 F)]) ∧ Below W.heap.size W w'))
    (HNx : Hid (∀ W, Below w.heap.size w W → Calls Tryd.prog 22 #[.int .i64 (u : Int), .agg #[.int .i64 (N 0), .int .i64 (N 1), .int .i64 (N 2), .int .i64 (N 3), .int .i64 (N 4), .int .i64 (N 5), .int .i64 (N 6), .int .i64 (N 7)]] W fun e w' => e = .returned (.tuple #[.agg #[.int .i64 (Z 0), .int .i64 (Z 1), .int .i64 (Z 2), .int .i64 (Z 3), .int .i64 (Z 4), .int .i64 (Z 5), .int .i64 (Z 6), .int .i64 (Z 7)], .iface 66 (.int .i64 3)]) ∧ Below W.heap.size W w'))
    (HCo : Hid (∀ W, Below w.heap.size w W → Calls Tryd.prog 13 #[.agg #[.int .i64 (N 0), .int .i64 (N 1), .int .i64 (N 2), .int .i64 (N 3), .int .i64 (N 4), .int .i64 (N 5), .int .i64 (N 6), .int .i64 (N 7)]] W fun e w' => e = .returned (.int .i64 0) ∧ Below W.heap.size W w'))
    (HEn : Hid (∀ W, Below w.heap.size w W → Calls Tryd.prog 11 #[.nilIface, .int .i64 0] W fun e w' => e = .returned (.bool true) ∧ Below W.heap.size W w'))
    (HEr : Hid (∀ (n : Int) W, Below w.heap.size w W → Calls Tryd.prog 11 #[.iface 66 (.int .i64 n), .int .i64 n] W fun e w' => e = .returned (.bool true) ∧ Below W.heap.size W w')) :
    Calls Tryd.prog 6 #[.int .i64 (u : Int), .slice lao ll lcap, .agg #[.int .i64 (N 0), .int .i64 (N 1), .int .i64 (N 2), .int .i64 (N 3), .int .i64 (N 4), .int .i64 (N 5), .int .i64 (N 6), .int .i64 (N 7)]] w fun e w' => e = .returned (.bool true) ∧ Below w.heap.size w w' := by
  obtain ⟨w1, hw1⟩ : ∃ w1, w1 = w.alloc (.cells #[.int .i64 (N 0), .int .i64 (N 1), .int .i64 (N 2), .int .i64 (N 3), .int .i64 (N 4), .int .i64 (N 5), .int .i64 (N 6), .int .i64 (N 7)] 26) := ⟨_, rfl⟩
  have HB1 : Hid (Below w.heap.size w w1) := by unfold Hid; rw [hw1]; exact below_alloc1 _ _
  have HN1 : Hid (Blk w1 w.heap.size 26 (arr8 N)) := by unfold Hid; rw [hw1]; exact Blk.new _ _ _
  have HZ : Hid (Z = fun _ => 0) := hZ
  clear hZ
  have HCt : Hid (∀ f, f < 8 → 0 ≤ N f ∧ N f ≤ 6) := hc
  clear hc
  have hu0 : ¬ ((u : Int) < 0) := by omega
  have hu6 : ¬ (6 < (u : Int)) := by omega
  go_enter Tryd.func6, Tryd.ntmps6
  go_upto_region 1 with fail
  rw [← hw1]
  clear hw1
  go_wp2_with fail
  go_at_call 12
  refine (HRs.out _ HB1.out).mono ?_
  rintro e w2 ⟨rfl, hb⟩
  have HB2 : Hid (Below w.heap.size w w2) := HB1.out.trans (hb.mono HB1.out.size)
  have HN2 : Hid (Blk w2 w.heap.size 26 (arr8 N)) := HN1.out.below hb
  clear hb
  obtain ⟨w3, hw3⟩ : ∃ x, x = w2.alloc (.cells #[.int .i64 0, .int .i64 0, .int .i64 0, .int .i64 0, .int .i64 0, .int .i64 0, .int .i64 0, .int .i64 0] 26) := ⟨_, rfl⟩
  have HB3 : Hid (Below w.heap.size w w3) := by unfold Hid; rw [hw3]; exact HB2.out.alloc HB2.out.size _
  have HN3 : Hid (Blk w3 w.heap.size 26 (arr8 N)) := by unfold Hid; rw [hw3]; exact HN2.out.old _
  have HP3 : Hid (Blk w3 w2.heap.size 26 (arr8 Z)) := by unfold Hid; rw [hw3, HZ.out]; exact Blk.new _ _ _
  have HGP : Hid (w.heap.size < w2.heap.size) := HN2.out.lt
  obtain ⟨P, hP⟩ : ∃ P, P = w2.heap.size := ⟨_, rfl⟩
  rw [← hP] at HP3 HGP
  go_upto_region 7 with fail
  rw [← hw3, ← hP]
  clear hw3 hP
  go_wp2_with fail
  go_at_call 20
  refine (HMa.out _ HB3.out).mono ?_
  rintro e w4 ⟨rfl, hb⟩
  have HB4 : Hid (Below w.heap.size w w4) := HB3.out.trans (hb.mono HB3.out.size)
  have HN4 : Hid (Blk w4 w.heap.size 26 (arr8 N)) := HN3.out.below hb
  have HP4 : Hid (Blk w4 P 26 (arr8 Z)) := HP3.out.below hb
  clear hb
  go_wp2_with fail
  go_at_call 11
  refine (HEr.out F _ HB4.out).mono ?_
  rintro e w5 ⟨rfl, hb⟩
  have HB5 : Hid (Below w.heap.size w w5) := HB4.out.trans (hb.mono HB4.out.size)
  have HN5 : Hid (Blk w5 w.heap.size 26 (arr8 N)) := HN4.out.below hb
  have HP5 : Hid (Blk w5 P 26 (arr8 Z)) := HP4.out.below hb
  clear hb
  go_wp2_with fail
  go_at_call 21
  refine (HLe.out _ HB5.out).mono ?_
  rintro e w6 ⟨rfl, hb⟩
  have HB6 : Hid (Below w.heap.size w w6) := HB5.out.trans (hb.mono HB5.out.size)
  have HN6 : Hid (Blk w6 w.heap.size 26 (arr8 N)) := HN5.out.below hb
  have HP6 : Hid (Blk w6 P 26 (arr8 Z)) := HP5.out.below hb
  clear hb
  obtain ⟨w7, hw7⟩ : ∃ x, x = w6.alloc (.cells #[.int .i64 (Z 0), .int .i64 (Z 1), .int .i64 (Z 2), .int .i64 (Z 3), .int .i64 (Z 4), .int .i64 (Z 5), .int .i64 (Z 6), .int .i64 (Z 7)] 26) := ⟨_, rfl⟩
  have HB7 : Hid (Below w.heap.size w w7) := by unfold Hid; rw [hw7]; exact HB6.out.alloc HB6.out.size _
  have HN7 : Hid (Blk w7 w.heap.size 26 (arr8 N)) := by unfold Hid; rw [hw7]; exact HN6.out.old _
  have HP7 : Hid (Blk w7 P 26 (arr8 Z)) := by unfold Hid; rw [hw7]; exact HP6.out.old _
  have HX17 : Hid (Blk w7 w6.heap.size 26 (arr8 Z)) := by unfold Hid; rw [hw7]; exact Blk.new _ _ _
  have HGX1 : Hid (w.heap.size < w6.heap.size) := HN6.out.lt
  obtain ⟨X1, hX1⟩ : ∃ P, P = w6.heap.size := ⟨_, rfl⟩
  rw [← hX1] at HX17 HGX1
  go_upto_region 21 with fail
  rw [← hw7, ← hX1]
  clear hw7 hX1
  go_wp2_with fail
  go_at_call 11
  refine (HEr.out F _ HB7.out).mono ?_
  rintro e w8 ⟨rfl, hb⟩
  have HB8 : Hid (Below w.heap.size w w8) := HB7.out.trans (hb.mono HB7.out.size)
  have HN8 : Hid (Blk w8 w.heap.size 26 (arr8 N)) := HN7.out.below hb
  have HP8 : Hid (Blk w8 P 26 (arr8 Z)) := HP7.out.below hb
  have HX18 : Hid (Blk w8 X1 26 (arr8 Z)) := HX17.out.below hb
  clear hb
  obtain ⟨x10, x11, x12, x13, x14, x15, x16, x17⟩ := HX18.out.cells8
  obtain ⟨p0, p1, p2, p3, p4, p5, p6, p7⟩ := HP8.out.cells8
  have hq := same8 Z
  have hgd := guard8
  go_upto_region 22 with fail
  clear x10 x11 x12 x13 x14 x15 x16 x17 p0 p1 p2 p3 p4 p5 p6 p7
  clear hq hgd
  obtain ⟨n0, n1, n2, n3, n4, n5, n6, n7⟩ := HN8.out.cells8
  go_wp2_with fail
  go_at_call 13
  refine (HCo.out _ HB8.out).mono ?_
  rintro e w9 ⟨rfl, hb⟩
  have HB9 : Hid (Below w.heap.size w w9) := HB8.out.trans (hb.mono HB8.out.size)
  have HN9 : Hid (Blk w9 w.heap.size 26 (arr8 N)) := HN8.out.below hb
  clear hb
  clear n0 n1 n2 n3 n4 n5 n6 n7
  go_wp2
  go_loop [18, 19] (fun s i => ∃ f : Nat, f ≤ 8 ∧ i = .int .i64 f ∧ s = .int .i64 (sumN N f)) (fun _ i => 8 - (intOf i).toNat)
  case atStart => exact ⟨0, Nat.zero_le _, rfl, rfl⟩
  case round =>
    obtain ⟨f, hf, rfl, rfl⟩ := hrel
    by_cases hlt8 : f < 8
    · have c := HN9.out.cell f
      rw [arr8_get _ hlt8] at c
      have p1 := sumN_le (N := N) (k := f) fun g hg => HCt.out g (by omega)
      have p2 := HCt.out f hlt8
      have HS : Hid (sumN N (f + 1) = sumN N f + N f) := rfl
      go_wp2
      go_round
      case rel => exact ⟨f + 1, by omega, by go_num, by rw [HS.out]⟩
      case measure => simp [intOf]; omega
    · obtain rfl : f = 8 := by omega
      clear hlt8 hf
      obtain ⟨sm, hsm⟩ : ∃ x, x = sumN N 8 := ⟨_, rfl⟩
      rw [← hsm] at hsum ⊢
      clear hsm
      obtain ⟨w10, hw10⟩ : ∃ x, x = w9.alloc (.cells #[.int .i64 0, .int .i64 0, .int .i64 0, .int .i64 0, .int .i64 0, .int .i64 0, .int .i64 0, .int .i64 0] 26) := ⟨_, rfl⟩
      have HB10 : Hid (Below w.heap.size w w10) := by unfold Hid; rw [hw10]; exact HB9.out.alloc HB9.out.size _
      have HN10 : Hid (Blk w10 w.heap.size 26 (arr8 N)) := by unfold Hid; rw [hw10]; exact HN9.out.old _
      have HY10 : Hid (Blk w10 w9.heap.size 26 (arr8 Z)) := by unfold Hid; rw [hw10, HZ.out]; exact Blk.new _ _ _
      have HGY : Hid (w.heap.size < w9.heap.size) := HN9.out.lt
      obtain ⟨Y, hY⟩ : ∃ P, P = w9.heap.size := ⟨_, rfl⟩
      rw [← hY] at HY10 HGY
      go_upto_region 34 with fail
      rw [← hw10, ← hY]
      clear hw10 hY
      obtain ⟨n0, n1, n2, n3, n4, n5, n6, n7⟩ := HN10.out.cells8
      go_wp2_with fail
      go_at_call 22
      refine (HNx.out _ HB10.out).mono ?_
      rintro e w11 ⟨rfl, hb⟩
      have HB11 : Hid (Below w.heap.size w w11) := HB10.out.trans (hb.mono HB10.out.size)
      have HN11 : Hid (Blk w11 w.heap.size 26 (arr8 N)) := HN10.out.below hb
      have HY11 : Hid (Blk w11 Y 26 (arr8 Z)) := HY10.out.below hb
      clear hb
      clear n0 n1 n2 n3 n4 n5 n6 n7
      obtain ⟨w12, hw12⟩ : ∃ x, x = w11.alloc (.cells #[.int .i64 (Z 0), .int .i64 (Z 1), .int .i64 (Z 2), .int .i64 (Z 3), .int .i64 (Z 4), .int .i64 (Z 5), .int .i64 (Z 6), .int .i64 (Z 7)] 26) := ⟨_, rfl⟩
      have HB12 : Hid (Below w.heap.size w w12) := by unfold Hid; rw [hw12]; exact HB11.out.alloc HB11.out.size _
      have HN12 : Hid (Blk w12 w.heap.size 26 (arr8 N)) := by unfold Hid; rw [hw12]; exact HN11.out.old _
      have HY12 : Hid (Blk w12 Y 26 (arr8 Z)) := by unfold Hid; rw [hw12]; exact HY11.out.old _
      have HX212 : Hid (Blk w12 w11.heap.size 26 (arr8 Z)) := by unfold Hid; rw [hw12]; exact Blk.new _ _ _
      have HGX2 : Hid (w.heap.size < w11.heap.size) := HN11.out.lt
      obtain ⟨X2, hX2⟩ : ∃ P, P = w11.heap.size := ⟨_, rfl⟩
      rw [← hX2] at HX212 HGX2
      go_upto_region 44 with fail
      rw [← hw12, ← hX2]
      clear hw12 hX2
      go_wp2_with fail
      go_at_call 11
      refine (HEr.out 3 _ HB12.out).mono ?_
      rintro e w13 ⟨rfl, hb⟩
      have HB13 : Hid (Below w.heap.size w w13) := HB12.out.trans (hb.mono HB12.out.size)
      have HN13 : Hid (Blk w13 w.heap.size 26 (arr8 N)) := HN12.out.below hb
      have HY13 : Hid (Blk w13 Y 26 (arr8 Z)) := HY12.out.below hb
      have HX213 : Hid (Blk w13 X2 26 (arr8 Z)) := HX212.out.below hb
      clear hb
      obtain ⟨x20, x21, x22, x23, x24, x25, x26, x27⟩ := HX213.out.cells8
      obtain ⟨y0, y1, y2, y3, y4, y5, y6, y7⟩ := HY13.out.cells8
      have hq := same8 Z
      have hgd := guard8
      go_wp2
      go_ret
      exact ⟨rfl, HB13.out⟩

set_option linter.unusedVariables false in
set_option maxHeartbeats 16000000 in
theorem fitTells_RN (u : Nat) (hu : u ≤ 6) (N : Nat → Int) (F : Int) (hF : ¬ F = 0) (A : List (Nat → Int)) (hA : A.length ≤ 1716) (hA0 : 0 < A.length) (ho : nextTo A (fun M => eqB M N) (A.length - 1) = none) (hc : ∀ f, f < 8 → 0 ≤ N f ∧ N f ≤ 6) (hsum : sumN N 8 = u) (Z : Nat → Int) (hZ : Z = fun _ => 0) (lao : Option Addr) (ll lcap : Nat) (w : World)
    (HAl : Hid (∀ W, Below w.heap.size w W → Calls Tryd.prog 19 #[.int .i64 (u : Int)] W fun e w' => ∃ v, e = .returned v ∧ Reads8 w' v A ∧ (∀ g, v.ownBlock = some g → W.heap.size ≤ g) ∧ Below W.heap.size W w'))
    (HRs : Hid (∀ W, Below w.heap.size w W → Calls Tryd.prog 12 #[.slice lao ll lcap] W fun e w' => e = .returned (.int .i64 F) ∧ Below W.heap.size W w'))
    (HMa : Hid (∀ W, Below w.heap.size w W → Calls Tryd.prog 20 #[.int .i64 (u : Int), .slice lao ll lcap] W fun e w' => e = .returned (.tuple #[.int .i64 0, .iface 66 (.int .i64 F)]) ∧ Below W.heap.size W w'))
    (HLe : Hid (∀ W, Below w.heap.size w W → Calls Tryd.prog 21 #[.int .i64 (u : Int), .slice lao ll lcap] W fun e w' => e = .returned (.tuple #[.agg #[.int .i64 (Z 0), .int .i64 (Z 1), .int .i64 (Z 2), .int .i64 (Z 3), .int .i64 (Z 4), .int .i64 (Z 5), .int .i64 (Z 6), .int .i64 (Z 7)], .iface 66 (.int .i64 F)]) ∧ Below W.heap.size W w'))
    (HNx : Hid (∀ W, Below w.heap.size w W → Calls Tryd.prog 22 #[.int .i64 (u : Int), .agg #[.int .i64 (N 0), .int .i64 (N 1), .int .i64 (N 2), .int .i64 (N 3), .int .i64 (N 4), .int .i64 (N 5), .int .i64 (N 6), .int .i64 (N 7)]] W fun e w' => e = .returned (.tuple #[.agg #[.int .i64 (Z 0), .int .i64 (Z 1), .int .i64 (Z 2), .int .i64 (Z 3), .int .i64 (Z 4), .int .i64 (Z 5), .int .i64 (Z 6), .int .i64 (Z 7)], .iface 66 (.int .i64 5)]) ∧ Below W.heap.size W w'))
    (HCo : Hid (∀ W, Below w.heap.size w W → Calls Tryd.prog 13 #[.agg #[.int .i64 (N 0), .int .i64 (N 1), .int .i64 (N 2), .int .i64 (N 3), .int .i64 (N 4), .int .i64 (N 5), .int .i64 (N 6), .int .i64 (N 7)]] W fun e w' => e = .returned (.int .i64 0) ∧ Below W.heap.size W w'))
    (HEn : Hid (∀ W, Below w.heap.size w W → Calls Tryd.prog 11 #[.nilIface, .int .i64 0] W fun e w' => e = .returned (.bool true) ∧ Below W.heap.size W w'))
    (HEr : Hid (∀ (n : Int) W, Below w.heap.size w W → Calls Tryd.prog 11 #[.iface 66 (.int .i64 n), .int .i64 n] W fun e w' => e = .returned (.bool true) ∧ Below W.heap.size W w')) :
    Calls Tryd.prog 6 #[.int .i64 (u : Int), .slice lao ll lcap, .agg #[.int .i64 (N 0), .int .i64 (N 1), .int .i64 (N 2), .int .i64 (N 3), .int .i64 (N 4), .int .i64 (N 5), .int .i64 (N 6), .int .i64 (N 7)]] w fun e w' => e = .returned (.bool true) ∧ Below w.heap.size w w' := by
  obtain ⟨w1, hw1⟩ : ∃ w1, w1 = w.alloc (.cells #[.int .i64 (N 0), .int .i64 (N 1), .int .i64 (N 2), .int .i64 (N 3), .int .i64 (N 4), .int .i64 (N 5), .int .i64 (N 6), .int .i64 (N 7)] 26) := ⟨_, rfl⟩
  have HB1 : Hid (Below w.heap.size w w1) := by unfold Hid; rw [hw1]; exact below_alloc1 _ _
  have HN1 : Hid (Blk w1 w.heap.size 26 (arr8 N)) := by unfold Hid; rw [hw1]; exact Blk.new _ _ _
  have HZ : Hid (Z = fun _ => 0) := hZ
  clear hZ
  have HO : Hid (nextTo A (fun M => eqB M N) (A.length - 1) = none) := ho
  clear ho
  have HCt : Hid (∀ f, f < 8 → 0 ≤ N f ∧ N f ≤ 6) := hc
  clear hc
  have hu0 : ¬ ((u : Int) < 0) := by omega
  have hu6 : ¬ (6 < (u : Int)) := by omega
  obtain ⟨nA, hnA⟩ : ∃ n, n = A.length := ⟨_, rfl⟩
  have HNA : Hid (A.length = nA) := hnA.symm
  rw [← hnA] at hA hA0
  clear hnA
  go_enter Tryd.func6, Tryd.ntmps6
  go_upto_region 1 with fail
  rw [← hw1]
  clear hw1
  go_wp2_with fail
  go_at_call 12
  refine (HRs.out _ HB1.out).mono ?_
  rintro e w2 ⟨rfl, hb⟩
  have HB2 : Hid (Below w.heap.size w w2) := HB1.out.trans (hb.mono HB1.out.size)
  have HN2 : Hid (Blk w2 w.heap.size 26 (arr8 N)) := HN1.out.below hb
  clear hb
  obtain ⟨w3, hw3⟩ : ∃ x, x = w2.alloc (.cells #[.int .i64 0, .int .i64 0, .int .i64 0, .int .i64 0, .int .i64 0, .int .i64 0, .int .i64 0, .int .i64 0] 26) := ⟨_, rfl⟩
  have HB3 : Hid (Below w.heap.size w w3) := by unfold Hid; rw [hw3]; exact HB2.out.alloc HB2.out.size _
  have HN3 : Hid (Blk w3 w.heap.size 26 (arr8 N)) := by unfold Hid; rw [hw3]; exact HN2.out.old _
  have HP3 : Hid (Blk w3 w2.heap.size 26 (arr8 Z)) := by unfold Hid; rw [hw3, HZ.out]; exact Blk.new _ _ _
  have HGP : Hid (w.heap.size < w2.heap.size) := HN2.out.lt
  obtain ⟨P, hP⟩ : ∃ P, P = w2.heap.size := ⟨_, rfl⟩
  rw [← hP] at HP3 HGP
  go_upto_region 7 with fail
  rw [← hw3, ← hP]
  clear hw3 hP
  go_wp2_with fail
  go_at_call 20
  refine (HMa.out _ HB3.out).mono ?_
  rintro e w4 ⟨rfl, hb⟩
  have HB4 : Hid (Below w.heap.size w w4) := HB3.out.trans (hb.mono HB3.out.size)
  have HN4 : Hid (Blk w4 w.heap.size 26 (arr8 N)) := HN3.out.below hb
  have HP4 : Hid (Blk w4 P 26 (arr8 Z)) := HP3.out.below hb
  clear hb
  go_wp2_with fail
  go_at_call 11
  refine (HEr.out F _ HB4.out).mono ?_
  rintro e w5 ⟨rfl, hb⟩
  have HB5 : Hid (Below w.heap.size w w5) := HB4.out.trans (hb.mono HB4.out.size)
  have HN5 : Hid (Blk w5 w.heap.size 26 (arr8 N)) := HN4.out.below hb
  have HP5 : Hid (Blk w5 P 26 (arr8 Z)) := HP4.out.below hb
  clear hb
  go_wp2_with fail
  go_at_call 21
  refine (HLe.out _ HB5.out).mono ?_
  rintro e w6 ⟨rfl, hb⟩
  have HB6 : Hid (Below w.heap.size w w6) := HB5.out.trans (hb.mono HB5.out.size)
  have HN6 : Hid (Blk w6 w.heap.size 26 (arr8 N)) := HN5.out.below hb
  have HP6 : Hid (Blk w6 P 26 (arr8 Z)) := HP5.out.below hb
  clear hb
  obtain ⟨w7, hw7⟩ : ∃ x, x = w6.alloc (.cells #[.int .i64 (Z 0), .int .i64 (Z 1), .int .i64 (Z 2), .int .i64 (Z 3), .int .i64 (Z 4), .int .i64 (Z 5), .int .i64 (Z 6), .int .i64 (Z 7)] 26) := ⟨_, rfl⟩
  have HB7 : Hid (Below w.heap.size w w7) := by unfold Hid; rw [hw7]; exact HB6.out.alloc HB6.out.size _
  have HN7 : Hid (Blk w7 w.heap.size 26 (arr8 N)) := by unfold Hid; rw [hw7]; exact HN6.out.old _
  have HP7 : Hid (Blk w7 P 26 (arr8 Z)) := by unfold Hid; rw [hw7]; exact HP6.out.old _
  have HX17 : Hid (Blk w7 w6.heap.size 26 (arr8 Z)) := by unfold Hid; rw [hw7]; exact Blk.new _ _ _
  have HGX1 : Hid (w.heap.size < w6.heap.size) := HN6.out.lt
  obtain ⟨X1, hX1⟩ : ∃ P, P = w6.heap.size := ⟨_, rfl⟩
  rw [← hX1] at HX17 HGX1
  go_upto_region 21 with fail
  rw [← hw7, ← hX1]
  clear hw7 hX1
  go_wp2_with fail
  go_at_call 11
  refine (HEr.out F _ HB7.out).mono ?_
  rintro e w8 ⟨rfl, hb⟩
  have HB8 : Hid (Below w.heap.size w w8) := HB7.out.trans (hb.mono HB7.out.size)
  have HN8 : Hid (Blk w8 w.heap.size 26 (arr8 N)) := HN7.out.below hb
  have HP8 : Hid (Blk w8 P 26 (arr8 Z)) := HP7.out.below hb
  have HX18 : Hid (Blk w8 X1 26 (arr8 Z)) := HX17.out.below hb
  clear hb
  obtain ⟨x10, x11, x12, x13, x14, x15, x16, x17⟩ := HX18.out.cells8
  obtain ⟨p0, p1, p2, p3, p4, p5, p6, p7⟩ := HP8.out.cells8
  have hq := same8 Z
  have hgd := guard8
  go_upto_region 22 with fail
  clear x10 x11 x12 x13 x14 x15 x16 x17 p0 p1 p2 p3 p4 p5 p6 p7
  clear hq hgd
  obtain ⟨n0, n1, n2, n3, n4, n5, n6, n7⟩ := HN8.out.cells8
  go_wp2_with fail
  go_at_call 13
  refine (HCo.out _ HB8.out).mono ?_
  rintro e w9 ⟨rfl, hb⟩
  have HB9 : Hid (Below w.heap.size w w9) := HB8.out.trans (hb.mono HB8.out.size)
  have HN9 : Hid (Blk w9 w.heap.size 26 (arr8 N)) := HN8.out.below hb
  clear hb
  clear n0 n1 n2 n3 n4 n5 n6 n7
  go_wp2
  go_loop [18, 19] (fun s i => ∃ f : Nat, f ≤ 8 ∧ i = .int .i64 f ∧ s = .int .i64 (sumN N f)) (fun _ i => 8 - (intOf i).toNat)
  case atStart => exact ⟨0, Nat.zero_le _, rfl, rfl⟩
  case round =>
    obtain ⟨f, hf, rfl, rfl⟩ := hrel
    by_cases hlt8 : f < 8
    · have c := HN9.out.cell f
      rw [arr8_get _ hlt8] at c
      have p1 := sumN_le (N := N) (k := f) fun g hg => HCt.out g (by omega)
      have p2 := HCt.out f hlt8
      have HS : Hid (sumN N (f + 1) = sumN N f + N f) := rfl
      go_wp2
      go_round
      case rel => exact ⟨f + 1, by omega, by go_num, by rw [HS.out]⟩
      case measure => simp [intOf]; omega
    · obtain rfl : f = 8 := by omega
      clear hlt8 hf
      rw [hsum]
      obtain ⟨w10, hw10⟩ : ∃ x, x = w9.alloc (.cells #[.int .i64 0, .int .i64 0, .int .i64 0, .int .i64 0, .int .i64 0, .int .i64 0, .int .i64 0, .int .i64 0] 26) := ⟨_, rfl⟩
      have HB10 : Hid (Below w.heap.size w w10) := by unfold Hid; rw [hw10]; exact HB9.out.alloc HB9.out.size _
      have HN10 : Hid (Blk w10 w.heap.size 26 (arr8 N)) := by unfold Hid; rw [hw10]; exact HN9.out.old _
      have HY10 : Hid (Blk w10 w9.heap.size 26 (arr8 Z)) := by unfold Hid; rw [hw10, HZ.out]; exact Blk.new _ _ _
      have HGY : Hid (w.heap.size < w9.heap.size) := HN9.out.lt
      obtain ⟨Y, hY⟩ : ∃ P, P = w9.heap.size := ⟨_, rfl⟩
      rw [← hY] at HY10 HGY
      go_upto_region 34 with fail
      rw [← hw10, ← hY]
      clear hw10 hY
      go_wp2_with fail
      go_at_call 19
      refine (HAl.out _ HB10.out).mono ?_
      rintro e w11 ⟨vA, rfl, hr, hg, hb⟩
      have HB11 : Hid (Below w.heap.size w w11) := HB10.out.trans (hb.mono HB10.out.size)
      have HN11 : Hid (Blk w11 w.heap.size 26 (arr8 N)) := HN10.out.below hb
      have HY11 : Hid (Blk w11 Y 26 (arr8 Z)) := HY10.out.below hb
      obtain ⟨bC, oC, cC, rfl, hcap2, _⟩ := hr.place (by rw [HNA.out]; exact hA0)
      rw [HNA.out] at hr hg hcap2 ⊢
      have HRC : Hid (Reads8 w11 (.slice (some ⟨bC, oC, none⟩) nA cC) A) := hr
      have HhP : Hid (bC ≠ Y) := by have h1 := hg bC rfl; have h2 := HY10.out.lt; unfold Hid; omega
      clear hr hg hb
      go_wp2
      go_loopw [7, 22] (fun ee i wr => ∃ j : Nat, j ≤ nA - 1 ∧ i = .int .i64 j ∧ ee = .int .i64 (nextE (nextTo A (fun M => eqB M N) j)) ∧ Below w.heap.size w wr ∧ Blk wr w.heap.size 26 (arr8 N) ∧ Blk wr Y 26 (arr8 ((nextTo A (fun M => eqB M N) j).getD zeroC)) ∧ Reads8 wr (.slice (some ⟨bC, oC, none⟩) nA cC) A) (fun _ i _ => nA - 1 - (intOf i).toNat)
      case atStart => exact ⟨0, Nat.zero_le _, rfl, rfl, HB11.out, HN11.out, by have := HY11.out; rw [HZ.out] at this; exact this, HRC.out⟩
      case round =>
        obtain ⟨j, hj, rfl, rfl, hb, h1, h2, h3⟩ := hrel
        have HBr : Hid (Below w.heap.size w wr) := hb
        have HNr : Hid (Blk wr w.heap.size 26 (arr8 N)) := h1
        have HYr : Hid (Blk wr Y 26 (arr8 ((nextTo A (fun M => eqB M N) j).getD zeroC))) := h2
        have HRr : Hid (Reads8 wr (.slice (some ⟨bC, oC, none⟩) nA cC) A) := h3
        clear hb h1 h2 h3
        by_cases hlt9 : j < nA - 1
        · have hltz : (j : Int) < (nA : Int) - 1 := by omega
          have hAt := getD_at (A := A) (i := j) (by rw [HNA.out]; omega)
          have hAt' := getD_at (A := A) (i := j + 1) (by rw [HNA.out]; omega)
          have HCk : Hid (∀ W, Reads8 W (.slice (some ⟨bC, oC, none⟩) nA cC) A → CntAt W bC (oC + j * 8) (A.getD j zeroC)) := fun W h => h.at HNA.out hAt
          have HCk' : Hid (∀ W, Reads8 W (.slice (some ⟨bC, oC, none⟩) nA cC) A → CntAt W bC (oC + (j + 1) * 8) (A.getD (j + 1) zeroC)) := fun W h => h.at HNA.out hAt'
          have HStep : Hid (nextTo A (fun M => eqB M N) (j + 1) = if eqB (A.getD j zeroC) N = true then some (A.getD (j + 1) zeroC) else nextTo A (fun M => eqB M N) j) := nextTo_step A _ j
          obtain ⟨M, hM⟩ : ∃ M, M = A.getD j zeroC := ⟨_, rfl⟩
          obtain ⟨M', hM'⟩ : ∃ M, M = A.getD (j + 1) zeroC := ⟨_, rfl⟩
          rw [← hM] at HCk HStep
          rw [← hM'] at HCk' HStep
          clear hM hM' hAt hAt'
          obtain ⟨a0, a1, a2, a3, a4, a5, a6, a7⟩ := (HCk.out _ HRr.out).cells
          obtain ⟨d0, d1, d2, d3, d4, d5, d6, d7⟩ := HNr.out.cells8
          have hq := eql8 M N
          have hgd := guard8
          obtain ⟨E, hE⟩ : ∃ E, E = nextE (nextTo A (fun M => eqB M N) j) := ⟨_, rfl⟩
          rw [← hE]
          have HE : Hid (E = nextE (nextTo A (fun M => eqB M N) j)) := hE
          clear hE
          rcases (Bool.eq_false_or_eq_true (eqB M N)).symm with hp | hp
          · rw [hp] at hq HStep
            have HS' : Hid (nextTo A (fun M => eqB M N) (j + 1) = nextTo A (fun M => eqB M N) j) := by unfold Hid; rw [HStep.out]; simp
            clear hp HStep
            go_wp2
            go_region
            go_wp2
            go_roundw
            case rel => exact ⟨j + 1, by omega, by go_num, by rw [HS'.out, ← HE.out], HBr.out.drew, HNr.out.drew, by rw [HS'.out]; exact HYr.out.drew, HRr.out.below (Below.refl _ _).drew⟩
            case measure => simp [intOf]; omega
          · rw [hp] at hq HStep
            have HS' : Hid (nextTo A (fun M => eqB M N) (j + 1) = some M') := by unfold Hid; rw [HStep.out]; simp
            clear hp HStep
            go_upto_region 40 with fail
            go_region
            obtain ⟨w9, hw9⟩ : ∃ x, x = wr.drew := ⟨_, rfl⟩
            have HBs : Hid (Below w.heap.size w w9) := by unfold Hid; rw [hw9]; exact HBr.out.drew
            have HNs : Hid (Blk w9 w.heap.size 26 (arr8 N)) := by unfold Hid; rw [hw9]; exact HNr.out.drew
            have HYs : Hid (Blk w9 Y 26 (arr8 ((nextTo A (fun M => eqB M N) j).getD zeroC))) := by unfold Hid; rw [hw9]; exact HYr.out.drew
            have HRs' : Hid (Reads8 w9 (.slice (some ⟨bC, oC, none⟩) nA cC) A) := by unfold Hid; rw [hw9]; exact HRr.out.below (Below.refl _ _).drew
            rw [← hw9]
            clear hw9 a0 a1 a2 a3 a4 a5 a6 a7 d0 d1 d2 d3 d4 d5 d6 d7 hq hgd
            obtain ⟨Q, hQ⟩ : ∃ Q, Q = (nextTo A (fun M => eqB M N) j).getD zeroC := ⟨_, rfl⟩
            rw [← hQ] at HYs
            clear hQ
            obtain ⟨a0, a1, a2, a3, a4, a5, a6, a7⟩ := (HCk'.out _ HRs'.out).cells
            obtain ⟨p0, p1, p2, p3, p4, p5, p6, p7⟩ := HYs.out.cells8
            obtain ⟨f0, f1, f2, f3, f4, f5, f6, f7⟩ := HYs.out.frozen8
            have HE1 : Hid (Blk (put8 w9 Y M') Y 26 (arr8 M')) := put8_blk HYs.out M'
            have HE2 : Hid (Blk (put8 w9 Y M') w.heap.size 26 (arr8 N)) := put8_far HNs.out (by have := HGY.out; omega) M'
            have HE3 : Hid (Reads8 (put8 w9 Y M') (.slice (some ⟨bC, oC, none⟩) nA cC) A) := HRs'.out.put8 (by intro e; exact HhP.out (Option.some.inj e)) M'
            have HE4 : Hid (Below w.heap.size w (put8 w9 Y M')) := put8_below HBs.out (by have := HGY.out; omega) M'
            go_wp2
            go_roundw
            case rel => exact ⟨j + 1, by omega, by go_num, by rw [HS'.out]; rfl, HE4.out, HE2.out, by rw [HS'.out]; exact HE1.out, HE3.out⟩
            case measure => simp [intOf]; omega
        · obtain rfl : j = nA - 1 := by omega
          have hltz : ¬ (((nA - 1 : Nat) : Int) < (nA : Int) - 1) := by omega
          have HOo : Hid (nextTo A (fun M => eqB M N) (nA - 1) = none) := by unfold Hid; rw [← HNA.out]; exact HO.out
          have HYq : Hid (Blk wr Y 26 (arr8 Z)) := by
            have := HYr.out
            rw [HOo.out] at this
            unfold Hid
            rw [HZ.out]; exact this
          have hee : nextE (nextTo A (fun M => eqB M N) (nA - 1)) = 5 := by rw [HOo.out]; rfl
          rw [hee]
          clear hee HRr HYr hlt9 hj
          obtain ⟨w12, hw12⟩ : ∃ x, x = wr := ⟨_, rfl⟩
          rw [← hw12] at HBr HNr HYq ⊢
          have HB12 : Hid (Below w.heap.size w w12) := HBr.out
          have HN12 : Hid (Blk w12 w.heap.size 26 (arr8 N)) := HNr.out
          have HY12 : Hid (Blk w12 Y 26 (arr8 Z)) := HYq.out
          clear hw12 HBr HNr HYq
          obtain ⟨n0, n1, n2, n3, n4, n5, n6, n7⟩ := HN12.out.cells8
          go_wp2_with fail
          go_at_call 22
          refine (HNx.out _ HB12.out).mono ?_
          rintro e w13 ⟨rfl, hb⟩
          have HB13 : Hid (Below w.heap.size w w13) := HB12.out.trans (hb.mono HB12.out.size)
          have HN13 : Hid (Blk w13 w.heap.size 26 (arr8 N)) := HN12.out.below hb
          have HY13 : Hid (Blk w13 Y 26 (arr8 Z)) := HY12.out.below hb
          clear hb
          clear n0 n1 n2 n3 n4 n5 n6 n7
          obtain ⟨w14, hw14⟩ : ∃ x, x = w13.alloc (.cells #[.int .i64 (Z 0), .int .i64 (Z 1), .int .i64 (Z 2), .int .i64 (Z 3), .int .i64 (Z 4), .int .i64 (Z 5), .int .i64 (Z 6), .int .i64 (Z 7)] 26) := ⟨_, rfl⟩
          have HB14 : Hid (Below w.heap.size w w14) := by unfold Hid; rw [hw14]; exact HB13.out.alloc HB13.out.size _
          have HN14 : Hid (Blk w14 w.heap.size 26 (arr8 N)) := by unfold Hid; rw [hw14]; exact HN13.out.old _
          have HY14 : Hid (Blk w14 Y 26 (arr8 Z)) := by unfold Hid; rw [hw14]; exact HY13.out.old _
          have HX214 : Hid (Blk w14 w13.heap.size 26 (arr8 Z)) := by unfold Hid; rw [hw14]; exact Blk.new _ _ _
          have HGX2 : Hid (w.heap.size < w13.heap.size) := HN13.out.lt
          obtain ⟨X2, hX2⟩ : ∃ P, P = w13.heap.size := ⟨_, rfl⟩
          rw [← hX2] at HX214 HGX2
          go_upto_region 44 with fail
          rw [← hw14, ← hX2]
          clear hw14 hX2
          go_wp2_with fail
          go_at_call 11
          refine (HEr.out 5 _ HB14.out).mono ?_
          rintro e w15 ⟨rfl, hb⟩
          have HB15 : Hid (Below w.heap.size w w15) := HB14.out.trans (hb.mono HB14.out.size)
          have HN15 : Hid (Blk w15 w.heap.size 26 (arr8 N)) := HN14.out.below hb
          have HY15 : Hid (Blk w15 Y 26 (arr8 Z)) := HY14.out.below hb
          have HX215 : Hid (Blk w15 X2 26 (arr8 Z)) := HX214.out.below hb
          clear hb
          obtain ⟨x20, x21, x22, x23, x24, x25, x26, x27⟩ := HX215.out.cells8
          obtain ⟨y0, y1, y2, y3, y4, y5, y6, y7⟩ := HY15.out.cells8
          have hq := same8 Z
          have hgd := guard8
          go_wp2
          go_ret
          exact ⟨rfl, HB15.out⟩

set_option linter.unusedVariables false in
set_option maxHeartbeats 16000000 in
theorem fitTells_RX (u : Nat) (hu : u ≤ 6) (N : Nat → Int) (F : Int) (hF : ¬ F = 0) (A : List (Nat → Int)) (hA : A.length ≤ 1716) (hA0 : 0 < A.length) (X : Nat → Int) (ho : nextTo A (fun M => eqB M N) (A.length - 1) = some X) (hc : ∀ f, f < 8 → 0 ≤ N f ∧ N f ≤ 6) (hsum : sumN N 8 = u) (Z : Nat → Int) (hZ : Z = fun _ => 0) (lao : Option Addr) (ll lcap : Nat) (w : World)
    (HAl : Hid (∀ W, Below w.heap.size w W → Calls Tryd.prog 19 #[.int .i64 (u : Int)] W fun e w' => ∃ v, e = .returned v ∧ Reads8 w' v A ∧ (∀ g, v.ownBlock = some g → W.heap.size ≤ g) ∧ Below W.heap.size W w'))
    (HRs : Hid (∀ W, Below w.heap.size w W → Calls Tryd.prog 12 #[.slice lao ll lcap] W fun e w' => e = .returned (.int .i64 F) ∧ Below W.heap.size W w'))
    (HMa : Hid (∀ W, Below w.heap.size w W → Calls Tryd.prog 20 #[.int .i64 (u : Int), .slice lao ll lcap] W fun e w' => e = .returned (.tuple #[.int .i64 0, .iface 66 (.int .i64 F)]) ∧ Below W.heap.size W w'))
    (HLe : Hid (∀ W, Below w.heap.size w W → Calls Tryd.prog 21 #[.int .i64 (u : Int), .slice lao ll lcap] W fun e w' => e = .returned (.tuple #[.agg #[.int .i64 (Z 0), .int .i64 (Z 1), .int .i64 (Z 2), .int .i64 (Z 3), .int .i64 (Z 4), .int .i64 (Z 5), .int .i64 (Z 6), .int .i64 (Z 7)], .iface 66 (.int .i64 F)]) ∧ Below W.heap.size W w'))
    (HNx : Hid (∀ W, Below w.heap.size w W → Calls Tryd.prog 22 #[.int .i64 (u : Int), .agg #[.int .i64 (N 0), .int .i64 (N 1), .int .i64 (N 2), .int .i64 (N 3), .int .i64 (N 4), .int .i64 (N 5), .int .i64 (N 6), .int .i64 (N 7)]] W fun e w' => e = .returned (.tuple #[.agg #[.int .i64 (X 0), .int .i64 (X 1), .int .i64 (X 2), .int .i64 (X 3), .int .i64 (X 4), .int .i64 (X 5), .int .i64 (X 6), .int .i64 (X 7)], .nilIface]) ∧ Below W.heap.size W w'))
    (HCo : Hid (∀ W, Below w.heap.size w W → Calls Tryd.prog 13 #[.agg #[.int .i64 (N 0), .int .i64 (N 1), .int .i64 (N 2), .int .i64 (N 3), .int .i64 (N 4), .int .i64 (N 5), .int .i64 (N 6), .int .i64 (N 7)]] W fun e w' => e = .returned (.int .i64 0) ∧ Below W.heap.size W w'))
    (HEn : Hid (∀ W, Below w.heap.size w W → Calls Tryd.prog 11 #[.nilIface, .int .i64 0] W fun e w' => e = .returned (.bool true) ∧ Below W.heap.size W w'))
    (HEr : Hid (∀ (n : Int) W, Below w.heap.size w W → Calls Tryd.prog 11 #[.iface 66 (.int .i64 n), .int .i64 n] W fun e w' => e = .returned (.bool true) ∧ Below W.heap.size W w')) :
    Calls Tryd.prog 6 #[.int .i64 (u : Int), .slice lao ll lcap, .agg #[.int .i64 (N 0), .int .i64 (N 1), .int .i64 (N 2), .int .i64 (N 3), .int .i64 (N 4), .int .i64 (N 5), .int .i64 (N 6), .int .i64 (N 7)]] w fun e w' => e = .returned (.bool true) ∧ Below w.heap.size w w' := by
  obtain ⟨w1, hw1⟩ : ∃ w1, w1 = w.alloc (.cells #[.int .i64 (N 0), .int .i64 (N 1), .int .i64 (N 2), .int .i64 (N 3), .int .i64 (N 4), .int .i64 (N 5), .int .i64 (N 6), .int .i64 (N 7)] 26) := ⟨_, rfl⟩
  have HB1 : Hid (Below w.heap.size w w1) := by unfold Hid; rw [hw1]; exact below_alloc1 _ _
  have HN1 : Hid (Blk w1 w.heap.size 26 (arr8 N)) := by unfold Hid; rw [hw1]; exact Blk.new _ _ _
  have HZ : Hid (Z = fun _ => 0) := hZ
  clear hZ
  have HO : Hid (nextTo A (fun M => eqB M N) (A.length - 1) = some X) := ho
  clear ho
  have HCt : Hid (∀ f, f < 8 → 0 ≤ N f ∧ N f ≤ 6) := hc
  clear hc
  have hu0 : ¬ ((u : Int) < 0) := by omega
  have hu6 : ¬ (6 < (u : Int)) := by omega
  obtain ⟨nA, hnA⟩ : ∃ n, n = A.length := ⟨_, rfl⟩
  have HNA : Hid (A.length = nA) := hnA.symm
  rw [← hnA] at hA hA0
  clear hnA
  go_enter Tryd.func6, Tryd.ntmps6
  go_upto_region 1 with fail
  rw [← hw1]
  clear hw1
  go_wp2_with fail
  go_at_call 12
  refine (HRs.out _ HB1.out).mono ?_
  rintro e w2 ⟨rfl, hb⟩
  have HB2 : Hid (Below w.heap.size w w2) := HB1.out.trans (hb.mono HB1.out.size)
  have HN2 : Hid (Blk w2 w.heap.size 26 (arr8 N)) := HN1.out.below hb
  clear hb
  obtain ⟨w3, hw3⟩ : ∃ x, x = w2.alloc (.cells #[.int .i64 0, .int .i64 0, .int .i64 0, .int .i64 0, .int .i64 0, .int .i64 0, .int .i64 0, .int .i64 0] 26) := ⟨_, rfl⟩
  have HB3 : Hid (Below w.heap.size w w3) := by unfold Hid; rw [hw3]; exact HB2.out.alloc HB2.out.size _
  have HN3 : Hid (Blk w3 w.heap.size 26 (arr8 N)) := by unfold Hid; rw [hw3]; exact HN2.out.old _
  have HP3 : Hid (Blk w3 w2.heap.size 26 (arr8 Z)) := by unfold Hid; rw [hw3, HZ.out]; exact Blk.new _ _ _
  have HGP : Hid (w.heap.size < w2.heap.size) := HN2.out.lt
  obtain ⟨P, hP⟩ : ∃ P, P = w2.heap.size := ⟨_, rfl⟩
  rw [← hP] at HP3 HGP
  go_upto_region 7 with fail
  rw [← hw3, ← hP]
  clear hw3 hP
  go_wp2_with fail
  go_at_call 20
  refine (HMa.out _ HB3.out).mono ?_
  rintro e w4 ⟨rfl, hb⟩
  have HB4 : Hid (Below w.heap.size w w4) := HB3.out.trans (hb.mono HB3.out.size)
  have HN4 : Hid (Blk w4 w.heap.size 26 (arr8 N)) := HN3.out.below hb
  have HP4 : Hid (Blk w4 P 26 (arr8 Z)) := HP3.out.below hb
  clear hb
  go_wp2_with fail
  go_at_call 11
  refine (HEr.out F _ HB4.out).mono ?_
  rintro e w5 ⟨rfl, hb⟩
  have HB5 : Hid (Below w.heap.size w w5) := HB4.out.trans (hb.mono HB4.out.size)
  have HN5 : Hid (Blk w5 w.heap.size 26 (arr8 N)) := HN4.out.below hb
  have HP5 : Hid (Blk w5 P 26 (arr8 Z)) := HP4.out.below hb
  clear hb
  go_wp2_with fail
  go_at_call 21
  refine (HLe.out _ HB5.out).mono ?_
  rintro e w6 ⟨rfl, hb⟩
  have HB6 : Hid (Below w.heap.size w w6) := HB5.out.trans (hb.mono HB5.out.size)
  have HN6 : Hid (Blk w6 w.heap.size 26 (arr8 N)) := HN5.out.below hb
  have HP6 : Hid (Blk w6 P 26 (arr8 Z)) := HP5.out.below hb
  clear hb
  obtain ⟨w7, hw7⟩ : ∃ x, x = w6.alloc (.cells #[.int .i64 (Z 0), .int .i64 (Z 1), .int .i64 (Z 2), .int .i64 (Z 3), .int .i64 (Z 4), .int .i64 (Z 5), .int .i64 (Z 6), .int .i64 (Z 7)] 26) := ⟨_, rfl⟩
  have HB7 : Hid (Below w.heap.size w w7) := by unfold Hid; rw [hw7]; exact HB6.out.alloc HB6.out.size _
  have HN7 : Hid (Blk w7 w.heap.size 26 (arr8 N)) := by unfold Hid; rw [hw7]; exact HN6.out.old _
  have HP7 : Hid (Blk w7 P 26 (arr8 Z)) := by unfold Hid; rw [hw7]; exact HP6.out.old _
  have HX17 : Hid (Blk w7 w6.heap.size 26 (arr8 Z)) := by unfold Hid; rw [hw7]; exact Blk.new _ _ _
  have HGX1 : Hid (w.heap.size < w6.heap.size) := HN6.out.lt
  obtain ⟨X1, hX1⟩ : ∃ P, P = w6.heap.size := ⟨_, rfl⟩
  rw [← hX1] at HX17 HGX1
  go_upto_region 21 with fail
  rw [← hw7, ← hX1]
  clear hw7 hX1
  go_wp2_with fail
  go_at_call 11
  refine (HEr.out F _ HB7.out).mono ?_
  rintro e w8 ⟨rfl, hb⟩
  have HB8 : Hid (Below w.heap.size w w8) := HB7.out.trans (hb.mono HB7.out.size)
  have HN8 : Hid (Blk w8 w.heap.size 26 (arr8 N)) := HN7.out.below hb
  have HP8 : Hid (Blk w8 P 26 (arr8 Z)) := HP7.out.below hb
  have HX18 : Hid (Blk w8 X1 26 (arr8 Z)) := HX17.out.below hb
  clear hb
  obtain ⟨x10, x11, x12, x13, x14, x15, x16, x17⟩ := HX18.out.cells8
  obtain ⟨p0, p1, p2, p3, p4, p5, p6, p7⟩ := HP8.out.cells8
  have hq := same8 Z
  have hgd := guard8
  go_upto_region 22 with fail
  clear x10 x11 x12 x13 x14 x15 x16 x17 p0 p1 p2 p3 p4 p5 p6 p7
  clear hq hgd
  obtain ⟨n0, n1, n2, n3, n4, n5, n6, n7⟩ := HN8.out.cells8
  go_wp2_with fail
  go_at_call 13
  refine (HCo.out _ HB8.out).mono ?_
  rintro e w9 ⟨rfl, hb⟩
  have HB9 : Hid (Below w.heap.size w w9) := HB8.out.trans (hb.mono HB8.out.size)
  have HN9 : Hid (Blk w9 w.heap.size 26 (arr8 N)) := HN8.out.below hb
  clear hb
  clear n0 n1 n2 n3 n4 n5 n6 n7
  go_wp2
  go_loop [18, 19] (fun s i => ∃ f : Nat, f ≤ 8 ∧ i = .int .i64 f ∧ s = .int .i64 (sumN N f)) (fun _ i => 8 - (intOf i).toNat)
  case atStart => exact ⟨0, Nat.zero_le _, rfl, rfl⟩
  case round =>
    obtain ⟨f, hf, rfl, rfl⟩ := hrel
    by_cases hlt8 : f < 8
    · have c := HN9.out.cell f
      rw [arr8_get _ hlt8] at c
      have p1 := sumN_le (N := N) (k := f) fun g hg => HCt.out g (by omega)
      have p2 := HCt.out f hlt8
      have HS : Hid (sumN N (f + 1) = sumN N f + N f) := rfl
      go_wp2
      go_round
      case rel => exact ⟨f + 1, by omega, by go_num, by rw [HS.out]⟩
      case measure => simp [intOf]; omega
    · obtain rfl : f = 8 := by omega
      clear hlt8 hf
      rw [hsum]
      obtain ⟨w10, hw10⟩ : ∃ x, x = w9.alloc (.cells #[.int .i64 0, .int .i64 0, .int .i64 0, .int .i64 0, .int .i64 0, .int .i64 0, .int .i64 0, .int .i64 0] 26) := ⟨_, rfl⟩
      have HB10 : Hid (Below w.heap.size w w10) := by unfold Hid; rw [hw10]; exact HB9.out.alloc HB9.out.size _
      have HN10 : Hid (Blk w10 w.heap.size 26 (arr8 N)) := by unfold Hid; rw [hw10]; exact HN9.out.old _
      have HY10 : Hid (Blk w10 w9.heap.size 26 (arr8 Z)) := by unfold Hid; rw [hw10, HZ.out]; exact Blk.new _ _ _
      have HGY : Hid (w.heap.size < w9.heap.size) := HN9.out.lt
      obtain ⟨Y, hY⟩ : ∃ P, P = w9.heap.size := ⟨_, rfl⟩
      rw [← hY] at HY10 HGY
      go_upto_region 34 with fail
      rw [← hw10, ← hY]
      clear hw10 hY
      go_wp2_with fail
      go_at_call 19
      refine (HAl.out _ HB10.out).mono ?_
      rintro e w11 ⟨vA, rfl, hr, hg, hb⟩
      have HB11 : Hid (Below w.heap.size w w11) := HB10.out.trans (hb.mono HB10.out.size)
      have HN11 : Hid (Blk w11 w.heap.size 26 (arr8 N)) := HN10.out.below hb
      have HY11 : Hid (Blk w11 Y 26 (arr8 Z)) := HY10.out.below hb
      obtain ⟨bC, oC, cC, rfl, hcap2, _⟩ := hr.place (by rw [HNA.out]; exact hA0)
      rw [HNA.out] at hr hg hcap2 ⊢
      have HRC : Hid (Reads8 w11 (.slice (some ⟨bC, oC, none⟩) nA cC) A) := hr
      have HhP : Hid (bC ≠ Y) := by have h1 := hg bC rfl; have h2 := HY10.out.lt; unfold Hid; omega
      clear hr hg hb
      go_wp2
      go_loopw [7, 22] (fun ee i wr => ∃ j : Nat, j ≤ nA - 1 ∧ i = .int .i64 j ∧ ee = .int .i64 (nextE (nextTo A (fun M => eqB M N) j)) ∧ Below w.heap.size w wr ∧ Blk wr w.heap.size 26 (arr8 N) ∧ Blk wr Y 26 (arr8 ((nextTo A (fun M => eqB M N) j).getD zeroC)) ∧ Reads8 wr (.slice (some ⟨bC, oC, none⟩) nA cC) A) (fun _ i _ => nA - 1 - (intOf i).toNat)
      case atStart => exact ⟨0, Nat.zero_le _, rfl, rfl, HB11.out, HN11.out, by have := HY11.out; rw [HZ.out] at this; exact this, HRC.out⟩
      case round =>
        obtain ⟨j, hj, rfl, rfl, hb, h1, h2, h3⟩ := hrel
        have HBr : Hid (Below w.heap.size w wr) := hb
        have HNr : Hid (Blk wr w.heap.size 26 (arr8 N)) := h1
        have HYr : Hid (Blk wr Y 26 (arr8 ((nextTo A (fun M => eqB M N) j).getD zeroC))) := h2
        have HRr : Hid (Reads8 wr (.slice (some ⟨bC, oC, none⟩) nA cC) A) := h3
        clear hb h1 h2 h3
        by_cases hlt9 : j < nA - 1
        · have hltz : (j : Int) < (nA : Int) - 1 := by omega
          have hAt := getD_at (A := A) (i := j) (by rw [HNA.out]; omega)
          have hAt' := getD_at (A := A) (i := j + 1) (by rw [HNA.out]; omega)
          have HCk : Hid (∀ W, Reads8 W (.slice (some ⟨bC, oC, none⟩) nA cC) A → CntAt W bC (oC + j * 8) (A.getD j zeroC)) := fun W h => h.at HNA.out hAt
          have HCk' : Hid (∀ W, Reads8 W (.slice (some ⟨bC, oC, none⟩) nA cC) A → CntAt W bC (oC + (j + 1) * 8) (A.getD (j + 1) zeroC)) := fun W h => h.at HNA.out hAt'
          have HStep : Hid (nextTo A (fun M => eqB M N) (j + 1) = if eqB (A.getD j zeroC) N = true then some (A.getD (j + 1) zeroC) else nextTo A (fun M => eqB M N) j) := nextTo_step A _ j
          obtain ⟨M, hM⟩ : ∃ M, M = A.getD j zeroC := ⟨_, rfl⟩
          obtain ⟨M', hM'⟩ : ∃ M, M = A.getD (j + 1) zeroC := ⟨_, rfl⟩
          rw [← hM] at HCk HStep
          rw [← hM'] at HCk' HStep
          clear hM hM' hAt hAt'
          obtain ⟨a0, a1, a2, a3, a4, a5, a6, a7⟩ := (HCk.out _ HRr.out).cells
          obtain ⟨d0, d1, d2, d3, d4, d5, d6, d7⟩ := HNr.out.cells8
          have hq := eql8 M N
          have hgd := guard8
          obtain ⟨E, hE⟩ : ∃ E, E = nextE (nextTo A (fun M => eqB M N) j) := ⟨_, rfl⟩
          rw [← hE]
          have HE : Hid (E = nextE (nextTo A (fun M => eqB M N) j)) := hE
          clear hE
          rcases (Bool.eq_false_or_eq_true (eqB M N)).symm with hp | hp
          · rw [hp] at hq HStep
            have HS' : Hid (nextTo A (fun M => eqB M N) (j + 1) = nextTo A (fun M => eqB M N) j) := by unfold Hid; rw [HStep.out]; simp
            clear hp HStep
            go_wp2
            go_region
            go_wp2
            go_roundw
            case rel => exact ⟨j + 1, by omega, by go_num, by rw [HS'.out, ← HE.out], HBr.out.drew, HNr.out.drew, by rw [HS'.out]; exact HYr.out.drew, HRr.out.below (Below.refl _ _).drew⟩
            case measure => simp [intOf]; omega
          · rw [hp] at hq HStep
            have HS' : Hid (nextTo A (fun M => eqB M N) (j + 1) = some M') := by unfold Hid; rw [HStep.out]; simp
            clear hp HStep
            go_upto_region 40 with fail
            go_region
            obtain ⟨w9, hw9⟩ : ∃ x, x = wr.drew := ⟨_, rfl⟩
            have HBs : Hid (Below w.heap.size w w9) := by unfold Hid; rw [hw9]; exact HBr.out.drew
            have HNs : Hid (Blk w9 w.heap.size 26 (arr8 N)) := by unfold Hid; rw [hw9]; exact HNr.out.drew
            have HYs : Hid (Blk w9 Y 26 (arr8 ((nextTo A (fun M => eqB M N) j).getD zeroC))) := by unfold Hid; rw [hw9]; exact HYr.out.drew
            have HRs' : Hid (Reads8 w9 (.slice (some ⟨bC, oC, none⟩) nA cC) A) := by unfold Hid; rw [hw9]; exact HRr.out.below (Below.refl _ _).drew
            rw [← hw9]
            clear hw9 a0 a1 a2 a3 a4 a5 a6 a7 d0 d1 d2 d3 d4 d5 d6 d7 hq hgd
            obtain ⟨Q, hQ⟩ : ∃ Q, Q = (nextTo A (fun M => eqB M N) j).getD zeroC := ⟨_, rfl⟩
            rw [← hQ] at HYs
            clear hQ
            obtain ⟨a0, a1, a2, a3, a4, a5, a6, a7⟩ := (HCk'.out _ HRs'.out).cells
            obtain ⟨p0, p1, p2, p3, p4, p5, p6, p7⟩ := HYs.out.cells8
            obtain ⟨f0, f1, f2, f3, f4, f5, f6, f7⟩ := HYs.out.frozen8
            have HE1 : Hid (Blk (put8 w9 Y M') Y 26 (arr8 M')) := put8_blk HYs.out M'
            have HE2 : Hid (Blk (put8 w9 Y M') w.heap.size 26 (arr8 N)) := put8_far HNs.out (by have := HGY.out; omega) M'
            have HE3 : Hid (Reads8 (put8 w9 Y M') (.slice (some ⟨bC, oC, none⟩) nA cC) A) := HRs'.out.put8 (by intro e; exact HhP.out (Option.some.inj e)) M'
            have HE4 : Hid (Below w.heap.size w (put8 w9 Y M')) := put8_below HBs.out (by have := HGY.out; omega) M'
            go_wp2
            go_roundw
            case rel => exact ⟨j + 1, by omega, by go_num, by rw [HS'.out]; rfl, HE4.out, HE2.out, by rw [HS'.out]; exact HE1.out, HE3.out⟩
            case measure => simp [intOf]; omega
        · obtain rfl : j = nA - 1 := by omega
          have hltz : ¬ (((nA - 1 : Nat) : Int) < (nA : Int) - 1) := by omega
          have HOo : Hid (nextTo A (fun M => eqB M N) (nA - 1) = some X) := by unfold Hid; rw [← HNA.out]; exact HO.out
          have HYq : Hid (Blk wr Y 26 (arr8 X)) := by
            have := HYr.out
            rw [HOo.out] at this
            unfold Hid
            exact this
          have hee : nextE (nextTo A (fun M => eqB M N) (nA - 1)) = 0 := by rw [HOo.out]; rfl
          rw [hee]
          clear hee HRr HYr hlt9 hj
          obtain ⟨w12, hw12⟩ : ∃ x, x = wr := ⟨_, rfl⟩
          rw [← hw12] at HBr HNr HYq ⊢
          have HB12 : Hid (Below w.heap.size w w12) := HBr.out
          have HN12 : Hid (Blk w12 w.heap.size 26 (arr8 N)) := HNr.out
          have HY12 : Hid (Blk w12 Y 26 (arr8 X)) := HYq.out
          clear hw12 HBr HNr HYq
          obtain ⟨n0, n1, n2, n3, n4, n5, n6, n7⟩ := HN12.out.cells8
          go_wp2_with fail
          go_at_call 22
          refine (HNx.out _ HB12.out).mono ?_
          rintro e w13 ⟨rfl, hb⟩
          have HB13 : Hid (Below w.heap.size w w13) := HB12.out.trans (hb.mono HB12.out.size)
          have HN13 : Hid (Blk w13 w.heap.size 26 (arr8 N)) := HN12.out.below hb
          have HY13 : Hid (Blk w13 Y 26 (arr8 X)) := HY12.out.below hb
          clear hb
          clear n0 n1 n2 n3 n4 n5 n6 n7
          obtain ⟨w14, hw14⟩ : ∃ x, x = w13.alloc (.cells #[.int .i64 (X 0), .int .i64 (X 1), .int .i64 (X 2), .int .i64 (X 3), .int .i64 (X 4), .int .i64 (X 5), .int .i64 (X 6), .int .i64 (X 7)] 26) := ⟨_, rfl⟩
          have HB14 : Hid (Below w.heap.size w w14) := by unfold Hid; rw [hw14]; exact HB13.out.alloc HB13.out.size _
          have HN14 : Hid (Blk w14 w.heap.size 26 (arr8 N)) := by unfold Hid; rw [hw14]; exact HN13.out.old _
          have HY14 : Hid (Blk w14 Y 26 (arr8 X)) := by unfold Hid; rw [hw14]; exact HY13.out.old _
          have HX214 : Hid (Blk w14 w13.heap.size 26 (arr8 X)) := by unfold Hid; rw [hw14]; exact Blk.new _ _ _
          have HGX2 : Hid (w.heap.size < w13.heap.size) := HN13.out.lt
          obtain ⟨X2, hX2⟩ : ∃ P, P = w13.heap.size := ⟨_, rfl⟩
          rw [← hX2] at HX214 HGX2
          go_upto_region 44 with fail
          rw [← hw14, ← hX2]
          clear hw14 hX2
          go_wp2_with fail
          go_at_call 11
          refine (HEn.out _ HB14.out).mono ?_
          rintro e w15 ⟨rfl, hb⟩
          have HB15 : Hid (Below w.heap.size w w15) := HB14.out.trans (hb.mono HB14.out.size)
          have HN15 : Hid (Blk w15 w.heap.size 26 (arr8 N)) := HN14.out.below hb
          have HY15 : Hid (Blk w15 Y 26 (arr8 X)) := HY14.out.below hb
          have HX215 : Hid (Blk w15 X2 26 (arr8 X)) := HX214.out.below hb
          clear hb
          obtain ⟨x20, x21, x22, x23, x24, x25, x26, x27⟩ := HX215.out.cells8
          obtain ⟨y0, y1, y2, y3, y4, y5, y6, y7⟩ := HY15.out.cells8
          have hq := same8 X
          have hgd := guard8
          go_wp2
          go_ret
          exact ⟨rfl, HB15.out⟩

end Go.Proofs.YtedgbohobgnedadDoor
