/-
  Proved: vennlaw1.ModelTells returns true where what it calls answers as chapter 9 says; what was in memory is as it was (the walk that the statement leans on). Written by program.
-/
import Derived.Test.YtedgbohobgnedaeGreatDoorLibPA5
import Derived.Deep.Cut
namespace Go.Proofs.YtedgbohobgnedaeGreatDoor
open Go.ChangeShapes Go.WideShapes Go.ChangeAt Go.RowKit
set_option maxRecDepth 100000

set_option maxHeartbeats 4000000 in
theorem modelTells_GN (ao : Option Addr) (M acap : Nat) (co : Option Addr) (nc ccap : Nat) (u F1 : Int) (F2 : Int) (h5 : ¬ F2 = 5) (D1 D2 : Wd) (E1 E2 E3 : Value) (w : World)
    (H1 : Hid (∀ W, Below w.heap.size w W → Calls Tryz.prog 7 #[.agg #[.slice ao M acap, .slice co nc ccap], .int .i64 u] W fun e w' => e = .returned (.tuple #[.agg #[.int .i64 D1.u, .int .i64 D1.a, .int .i64 D1.b, .int .i64 D1.c], .int .i64 F1]) ∧ Below W.heap.size W w'))
    (H2 : Hid (∀ W, Below w.heap.size w W → Calls Tryz.prog 8 #[.agg #[.slice ao M acap, .slice co nc ccap], .int .i64 u] W fun e w' => e = .returned (.tuple #[.agg #[.int .i64 D1.u, .int .i64 D1.a, .int .i64 D1.b, .int .i64 D1.c], E1]) ∧ Below W.heap.size W w'))
    (HE1 : Hid (∀ W, Below w.heap.size w W → Calls Tryz.prog 9 #[E1, .int .i64 F1] W fun e w' => e = .returned (.bool true) ∧ Below W.heap.size W w'))
    (H3 : Hid (∀ W, Below w.heap.size w W → Calls Tryz.prog 10 #[.agg #[.slice ao M acap, .slice co nc ccap]] W fun e w' => ∃ o1 l1 q1 o2 l2 q2, e = .returned (.tuple #[.agg #[.slice o1 l1 q1, .slice o2 l2 q2], .int .i64 0]) ∧ Hid (∀ W', Below w'.heap.size w' W' → Calls Tryz.prog 7 #[.agg #[.slice o1 l1 q1, .slice o2 l2 q2], .int .i64 u] W' fun e' w'' => e' = .returned (.tuple #[.agg #[.int .i64 D2.u, .int .i64 D2.a, .int .i64 D2.b, .int .i64 D2.c], .int .i64 F2]) ∧ Below W'.heap.size W' w'') ∧ Below W.heap.size W w'))
    (H5 : Hid (∀ W, Below w.heap.size w W → Calls Tryz.prog 11 #[.agg #[.slice ao M acap, .slice co nc ccap], .int .i64 u] W fun e w' => e = .returned (.tuple #[.agg #[.int .i64 D2.u, .int .i64 D2.a, .int .i64 D2.b, .int .i64 D2.c], E2]) ∧ Below W.heap.size W w'))
    (HE2 : Hid (∀ W, Below w.heap.size w W → Calls Tryz.prog 9 #[E2, .int .i64 F2] W fun e w' => e = .returned (.bool true) ∧ Below W.heap.size W w'))
    (H7 : Hid (∀ W, Below w.heap.size w W → Calls Tryz.prog 13 #[.agg #[.slice ao M acap, .slice co nc ccap], .int .i64 u] W fun e w' => e = .returned (.tuple #[.bool false, E3]) ∧ Below W.heap.size W w'))
    (HE3 : Hid (∀ W, Below w.heap.size w W → Calls Tryz.prog 9 #[E3, .int .i64 F2] W fun e w' => e = .returned (.bool true) ∧ Below W.heap.size W w'))
    : Calls Tryz.prog 3 #[.agg #[.slice ao M acap, .slice co nc ccap], .int .i64 u] w fun e w' => e = .returned (.bool true) ∧ Below w.heap.size w w' := by
  obtain ⟨w1, hw1⟩ : ∃ x, x = w.alloc (.cells #[.slice ao M acap, .slice co nc ccap] 25) := ⟨_, rfl⟩
  have Bw1 : Hid (Below w.heap.size w w1) := by unfold Hid; rw [hw1]; exact below_alloc1 _ _
  have k0w1 : Hid (Blk w1 w.heap.size 25 #[.slice ao M acap, .slice co nc ccap]) := by unfold Hid; rw [hw1]; exact Blk.new _ _ _
  have x0 : w1.cell? ⟨w.heap.size, 0, none⟩ = some (.slice ao M acap) := k0w1.out.cell 0
  have x1 : w1.cell? ⟨w.heap.size, 1, none⟩ = some (.slice co nc ccap) := k0w1.out.cell 1
  go_enter Tryz.func3, Tryz.ntmps3
  go_wp2_with fail
  rw [← hw1]
  clear hw1
  go_wp2_with fail
  go_at_call 7
  refine (H1.out _ Bw1.out).mono ?_
  rintro e w2 ⟨rfl, hb⟩
  have Bw2 : Hid (Below w.heap.size w w2) := Bw1.out.trans (hb.mono Bw1.out.size)
  have k0w2 : Hid (Blk w2 w.heap.size 25 #[.slice ao M acap, .slice co nc ccap]) := k0w1.out.below hb
  clear hb x0 x1
  obtain ⟨w3, hw3⟩ : ∃ x, x = w2.alloc (.cells #[.int .i64 D1.u, .int .i64 D1.a, .int .i64 D1.b, .int .i64 D1.c] 28) := ⟨_, rfl⟩
  obtain ⟨G5, hG5⟩ : ∃ x, x = w2.heap.size := ⟨_, rfl⟩
  have Bw3 : Hid (Below w.heap.size w w3) := by unfold Hid; rw [hw3]; exact Bw2.out.alloc Bw2.out.size _
  have LG5 : Hid (w.heap.size < G5) := by unfold Hid; rw [hG5]; exact Nat.lt_of_lt_of_le (k0w2.out.lt) (Nat.le_refl _)
  have k0w3 : Hid (Blk w3 w.heap.size 25 #[.slice ao M acap, .slice co nc ccap]) := by unfold Hid; rw [hw3]; exact k0w2.out.old _
  have k5w3 : Hid (Blk w3 G5 28 #[.int .i64 D1.u, .int .i64 D1.a, .int .i64 D1.b, .int .i64 D1.c]) := by unfold Hid; rw [hw3, hG5]; exact Blk.new _ _ _
  go_upto_region 2 with fail
  rw [← hw3, ← hG5]
  clear hw3 hG5
  have x0 : w3.cell? ⟨w.heap.size, 0, none⟩ = some (.slice ao M acap) := k0w3.out.cell 0
  have x1 : w3.cell? ⟨w.heap.size, 1, none⟩ = some (.slice co nc ccap) := k0w3.out.cell 1
  go_wp2_with fail
  go_at_call 8
  refine (H2.out _ Bw3.out).mono ?_
  rintro e w4 ⟨rfl, hb⟩
  have Bw4 : Hid (Below w.heap.size w w4) := Bw3.out.trans (hb.mono Bw3.out.size)
  have k0w4 : Hid (Blk w4 w.heap.size 25 #[.slice ao M acap, .slice co nc ccap]) := k0w3.out.below hb
  have k5w4 : Hid (Blk w4 G5 28 #[.int .i64 D1.u, .int .i64 D1.a, .int .i64 D1.b, .int .i64 D1.c]) := k5w3.out.below hb
  clear hb x0 x1
  obtain ⟨w5, hw5⟩ : ∃ x, x = w4.alloc (.cells #[.int .i64 D1.u, .int .i64 D1.a, .int .i64 D1.b, .int .i64 D1.c] 28) := ⟨_, rfl⟩
  obtain ⟨G7, hG7⟩ : ∃ x, x = w4.heap.size := ⟨_, rfl⟩
  have Bw5 : Hid (Below w.heap.size w w5) := by unfold Hid; rw [hw5]; exact Bw4.out.alloc Bw4.out.size _
  have LG7 : Hid (w.heap.size < G7) := by unfold Hid; rw [hG7]; exact Nat.lt_of_lt_of_le (k0w4.out.lt) (Nat.le_refl _)
  have k0w5 : Hid (Blk w5 w.heap.size 25 #[.slice ao M acap, .slice co nc ccap]) := by unfold Hid; rw [hw5]; exact k0w4.out.old _
  have k5w5 : Hid (Blk w5 G5 28 #[.int .i64 D1.u, .int .i64 D1.a, .int .i64 D1.b, .int .i64 D1.c]) := by unfold Hid; rw [hw5]; exact k5w4.out.old _
  have NG7G5 : Hid (G5 ≠ G7) := by have := k5w4.out.lt; unfold Hid; rw [hG7]; omega
  have k7w5 : Hid (Blk w5 G7 28 #[.int .i64 D1.u, .int .i64 D1.a, .int .i64 D1.b, .int .i64 D1.c]) := by unfold Hid; rw [hw5, hG7]; exact Blk.new _ _ _
  go_upto_region 3 with fail
  rw [← hw5, ← hG7]
  clear hw5 hG7
  go_wp2_with fail
  go_at_call 9
  refine (HE1.out _ Bw5.out).mono ?_
  rintro e w6 ⟨rfl, hb⟩
  have Bw6 : Hid (Below w.heap.size w w6) := Bw5.out.trans (hb.mono Bw5.out.size)
  have k0w6 : Hid (Blk w6 w.heap.size 25 #[.slice ao M acap, .slice co nc ccap]) := k0w5.out.below hb
  have k5w6 : Hid (Blk w6 G5 28 #[.int .i64 D1.u, .int .i64 D1.a, .int .i64 D1.b, .int .i64 D1.c]) := k5w5.out.below hb
  have k7w6 : Hid (Blk w6 G7 28 #[.int .i64 D1.u, .int .i64 D1.a, .int .i64 D1.b, .int .i64 D1.c]) := k7w5.out.below hb
  clear hb 
  have y0 : w6.cell? ⟨G5, 0, none⟩ = some (.int .i64 D1.u) := k5w6.out.cell 0
  have y1 : w6.cell? ⟨G5, 1, none⟩ = some (.int .i64 D1.a) := k5w6.out.cell 1
  have y2 : w6.cell? ⟨G5, 2, none⟩ = some (.int .i64 D1.b) := k5w6.out.cell 2
  have y3 : w6.cell? ⟨G5, 3, none⟩ = some (.int .i64 D1.c) := k5w6.out.cell 3
  have z0 : w6.cell? ⟨G7, 0, none⟩ = some (.int .i64 D1.u) := k7w6.out.cell 0
  have z1 : w6.cell? ⟨G7, 1, none⟩ = some (.int .i64 D1.a) := k7w6.out.cell 1
  have z2 : w6.cell? ⟨G7, 2, none⟩ = some (.int .i64 D1.b) := k7w6.out.cell 2
  have z3 : w6.cell? ⟨G7, 3, none⟩ = some (.int .i64 D1.c) := k7w6.out.cell 3
  have hq := sameW D1.u D1.a D1.b D1.c
  have hgd := guardW
  go_upto_region 4 with fail
  clear y0 y1 y2 y3 z0 z1 z2 z3 hq
  have x0 : w6.cell? ⟨w.heap.size, 0, none⟩ = some (.slice ao M acap) := k0w6.out.cell 0
  have x1 : w6.cell? ⟨w.heap.size, 1, none⟩ = some (.slice co nc ccap) := k0w6.out.cell 1
  go_wp2_with fail
  go_at_call 10
  refine (H3.out _ Bw6.out).mono ?_
  rintro e w7 ⟨o1, l1, q1, o2, l2, q2, rfl, H4, hb⟩
  have Bw7 : Hid (Below w.heap.size w w7) := Bw6.out.trans (hb.mono Bw6.out.size)
  have k0w7 : Hid (Blk w7 w.heap.size 25 #[.slice ao M acap, .slice co nc ccap]) := k0w6.out.below hb
  have k5w7 : Hid (Blk w7 G5 28 #[.int .i64 D1.u, .int .i64 D1.a, .int .i64 D1.b, .int .i64 D1.c]) := k5w6.out.below hb
  have k7w7 : Hid (Blk w7 G7 28 #[.int .i64 D1.u, .int .i64 D1.a, .int .i64 D1.b, .int .i64 D1.c]) := k7w6.out.below hb
  clear hb x0 x1
  obtain ⟨w8, hw8⟩ : ∃ x, x = w7.alloc (.cells #[.slice o1 l1 q1, .slice o2 l2 q2] 25) := ⟨_, rfl⟩
  obtain ⟨G10, hG10⟩ : ∃ x, x = w7.heap.size := ⟨_, rfl⟩
  have Bw8 : Hid (Below w.heap.size w w8) := by unfold Hid; rw [hw8]; exact Bw7.out.alloc Bw7.out.size _
  have LG10 : Hid (w.heap.size < G10) := by unfold Hid; rw [hG10]; exact Nat.lt_of_lt_of_le (k0w7.out.lt) (Nat.le_refl _)
  have k0w8 : Hid (Blk w8 w.heap.size 25 #[.slice ao M acap, .slice co nc ccap]) := by unfold Hid; rw [hw8]; exact k0w7.out.old _
  have k5w8 : Hid (Blk w8 G5 28 #[.int .i64 D1.u, .int .i64 D1.a, .int .i64 D1.b, .int .i64 D1.c]) := by unfold Hid; rw [hw8]; exact k5w7.out.old _
  have NG10G5 : Hid (G5 ≠ G10) := by have := k5w7.out.lt; unfold Hid; rw [hG10]; omega
  have k7w8 : Hid (Blk w8 G7 28 #[.int .i64 D1.u, .int .i64 D1.a, .int .i64 D1.b, .int .i64 D1.c]) := by unfold Hid; rw [hw8]; exact k7w7.out.old _
  have NG10G7 : Hid (G7 ≠ G10) := by have := k7w7.out.lt; unfold Hid; rw [hG10]; omega
  have k10w8 : Hid (Blk w8 G10 25 #[.slice o1 l1 q1, .slice o2 l2 q2]) := by unfold Hid; rw [hw8, hG10]; exact Blk.new _ _ _
  have HMw8 : Hid (Below w7.heap.size w7 w8) := by unfold Hid; rw [hw8]; exact below_alloc1 _ _
  go_upto_region 5 with fail
  rw [← hw8, ← hG10]
  clear hw8 hG10
  have g0 : w8.cell? ⟨G10, 0, none⟩ = some (.slice o1 l1 q1) := k10w8.out.cell 0
  have g1 : w8.cell? ⟨G10, 1, none⟩ = some (.slice o2 l2 q2) := k10w8.out.cell 1
  go_wp2_with fail
  go_at_call 7
  refine (H4.out _ HMw8.out).mono ?_
  rintro e w9 ⟨rfl, hb⟩
  have Bw9 : Hid (Below w.heap.size w w9) := Bw8.out.trans (hb.mono Bw8.out.size)
  have k0w9 : Hid (Blk w9 w.heap.size 25 #[.slice ao M acap, .slice co nc ccap]) := k0w8.out.below hb
  have k5w9 : Hid (Blk w9 G5 28 #[.int .i64 D1.u, .int .i64 D1.a, .int .i64 D1.b, .int .i64 D1.c]) := k5w8.out.below hb
  have k7w9 : Hid (Blk w9 G7 28 #[.int .i64 D1.u, .int .i64 D1.a, .int .i64 D1.b, .int .i64 D1.c]) := k7w8.out.below hb
  have k10w9 : Hid (Blk w9 G10 25 #[.slice o1 l1 q1, .slice o2 l2 q2]) := k10w8.out.below hb
  clear hb g0 g1
  have y0 : w9.cell? ⟨G5, 0, none⟩ = some (.int .i64 D1.u) := k5w9.out.cell 0
  have y1 : w9.cell? ⟨G5, 1, none⟩ = some (.int .i64 D1.a) := k5w9.out.cell 1
  have y2 : w9.cell? ⟨G5, 2, none⟩ = some (.int .i64 D1.b) := k5w9.out.cell 2
  have y3 : w9.cell? ⟨G5, 3, none⟩ = some (.int .i64 D1.c) := k5w9.out.cell 3
  obtain ⟨f0, f1, f2, f3⟩ := k5w9.out.frozen4
  obtain ⟨w10, hw10⟩ : ∃ x, x = putW w9 G5 D2 := ⟨_, rfl⟩
  have Bw10 : Hid (Below w.heap.size w w10) := by unfold Hid; rw [hw10]; exact putW_below Bw9.out (Nat.le_of_lt LG5.out) _
  have k0w10 : Hid (Blk w10 w.heap.size 25 #[.slice ao M acap, .slice co nc ccap]) := by unfold Hid; rw [hw10]; exact putW_far k0w9.out (Nat.ne_of_lt LG5.out) _
  have k5w10 : Hid (Blk w10 G5 28 #[.int .i64 D2.u, .int .i64 D2.a, .int .i64 D2.b, .int .i64 D2.c]) := by unfold Hid; rw [hw10]; exact putW_blk (N := D1) k5w9.out D2
  have k7w10 : Hid (Blk w10 G7 28 #[.int .i64 D1.u, .int .i64 D1.a, .int .i64 D1.b, .int .i64 D1.c]) := by unfold Hid; rw [hw10]; exact putW_far k7w9.out NG7G5.out.symm _
  have k10w10 : Hid (Blk w10 G10 25 #[.slice o1 l1 q1, .slice o2 l2 q2]) := by unfold Hid; rw [hw10]; exact putW_far k10w9.out NG10G5.out.symm _
  unfold putW at hw10
  go_upto_region 8 with fail
  rw [← hw10]
  clear hw10 y0 y1 y2 y3 f0 f1 f2 f3
  have x0 : w10.cell? ⟨w.heap.size, 0, none⟩ = some (.slice ao M acap) := k0w10.out.cell 0
  have x1 : w10.cell? ⟨w.heap.size, 1, none⟩ = some (.slice co nc ccap) := k0w10.out.cell 1
  go_wp2_with fail
  go_at_call 11
  refine (H5.out _ Bw10.out).mono ?_
  rintro e w11 ⟨rfl, hb⟩
  have Bw11 : Hid (Below w.heap.size w w11) := Bw10.out.trans (hb.mono Bw10.out.size)
  have k0w11 : Hid (Blk w11 w.heap.size 25 #[.slice ao M acap, .slice co nc ccap]) := k0w10.out.below hb
  have k5w11 : Hid (Blk w11 G5 28 #[.int .i64 D2.u, .int .i64 D2.a, .int .i64 D2.b, .int .i64 D2.c]) := k5w10.out.below hb
  have k7w11 : Hid (Blk w11 G7 28 #[.int .i64 D1.u, .int .i64 D1.a, .int .i64 D1.b, .int .i64 D1.c]) := k7w10.out.below hb
  have k10w11 : Hid (Blk w11 G10 25 #[.slice o1 l1 q1, .slice o2 l2 q2]) := k10w10.out.below hb
  clear hb x0 x1
  obtain ⟨w12, hw12⟩ : ∃ x, x = w11.alloc (.cells #[.int .i64 D2.u, .int .i64 D2.a, .int .i64 D2.b, .int .i64 D2.c] 28) := ⟨_, rfl⟩
  obtain ⟨G11, hG11⟩ : ∃ x, x = w11.heap.size := ⟨_, rfl⟩
  have Bw12 : Hid (Below w.heap.size w w12) := by unfold Hid; rw [hw12]; exact Bw11.out.alloc Bw11.out.size _
  have LG11 : Hid (w.heap.size < G11) := by unfold Hid; rw [hG11]; exact Nat.lt_of_lt_of_le (k0w11.out.lt) (Nat.le_refl _)
  have k0w12 : Hid (Blk w12 w.heap.size 25 #[.slice ao M acap, .slice co nc ccap]) := by unfold Hid; rw [hw12]; exact k0w11.out.old _
  have k5w12 : Hid (Blk w12 G5 28 #[.int .i64 D2.u, .int .i64 D2.a, .int .i64 D2.b, .int .i64 D2.c]) := by unfold Hid; rw [hw12]; exact k5w11.out.old _
  have NG11G5 : Hid (G5 ≠ G11) := by have := k5w11.out.lt; unfold Hid; rw [hG11]; omega
  have k7w12 : Hid (Blk w12 G7 28 #[.int .i64 D1.u, .int .i64 D1.a, .int .i64 D1.b, .int .i64 D1.c]) := by unfold Hid; rw [hw12]; exact k7w11.out.old _
  have NG11G7 : Hid (G7 ≠ G11) := by have := k7w11.out.lt; unfold Hid; rw [hG11]; omega
  have k10w12 : Hid (Blk w12 G10 25 #[.slice o1 l1 q1, .slice o2 l2 q2]) := by unfold Hid; rw [hw12]; exact k10w11.out.old _
  have NG11G10 : Hid (G10 ≠ G11) := by have := k10w11.out.lt; unfold Hid; rw [hG11]; omega
  have k11w12 : Hid (Blk w12 G11 28 #[.int .i64 D2.u, .int .i64 D2.a, .int .i64 D2.b, .int .i64 D2.c]) := by unfold Hid; rw [hw12, hG11]; exact Blk.new _ _ _
  go_upto_region 9 with fail
  rw [← hw12, ← hG11]
  clear hw12 hG11
  go_wp2_with fail
  go_at_call 9
  refine (HE2.out _ Bw12.out).mono ?_
  rintro e w13 ⟨rfl, hb⟩
  have Bw13 : Hid (Below w.heap.size w w13) := Bw12.out.trans (hb.mono Bw12.out.size)
  have k0w13 : Hid (Blk w13 w.heap.size 25 #[.slice ao M acap, .slice co nc ccap]) := k0w12.out.below hb
  have k5w13 : Hid (Blk w13 G5 28 #[.int .i64 D2.u, .int .i64 D2.a, .int .i64 D2.b, .int .i64 D2.c]) := k5w12.out.below hb
  have k7w13 : Hid (Blk w13 G7 28 #[.int .i64 D1.u, .int .i64 D1.a, .int .i64 D1.b, .int .i64 D1.c]) := k7w12.out.below hb
  have k10w13 : Hid (Blk w13 G10 25 #[.slice o1 l1 q1, .slice o2 l2 q2]) := k10w12.out.below hb
  have k11w13 : Hid (Blk w13 G11 28 #[.int .i64 D2.u, .int .i64 D2.a, .int .i64 D2.b, .int .i64 D2.c]) := k11w12.out.below hb
  clear hb 
  have y0 : w13.cell? ⟨G5, 0, none⟩ = some (.int .i64 D2.u) := k5w13.out.cell 0
  have y1 : w13.cell? ⟨G5, 1, none⟩ = some (.int .i64 D2.a) := k5w13.out.cell 1
  have y2 : w13.cell? ⟨G5, 2, none⟩ = some (.int .i64 D2.b) := k5w13.out.cell 2
  have y3 : w13.cell? ⟨G5, 3, none⟩ = some (.int .i64 D2.c) := k5w13.out.cell 3
  have z0 : w13.cell? ⟨G11, 0, none⟩ = some (.int .i64 D2.u) := k11w13.out.cell 0
  have z1 : w13.cell? ⟨G11, 1, none⟩ = some (.int .i64 D2.a) := k11w13.out.cell 1
  have z2 : w13.cell? ⟨G11, 2, none⟩ = some (.int .i64 D2.b) := k11w13.out.cell 2
  have z3 : w13.cell? ⟨G11, 3, none⟩ = some (.int .i64 D2.c) := k11w13.out.cell 3
  have hq := sameW D2.u D2.a D2.b D2.c
  go_upto_region 10 with fail
  clear y0 y1 y2 y3 z0 z1 z2 z3 hq
  have x0 : w13.cell? ⟨w.heap.size, 0, none⟩ = some (.slice ao M acap) := k0w13.out.cell 0
  have x1 : w13.cell? ⟨w.heap.size, 1, none⟩ = some (.slice co nc ccap) := k0w13.out.cell 1
  go_wp2_with fail
  go_at_call 13
  refine (H7.out _ Bw13.out).mono ?_
  rintro e w14 ⟨rfl, hb⟩
  have Bw14 : Hid (Below w.heap.size w w14) := Bw13.out.trans (hb.mono Bw13.out.size)
  have k0w14 : Hid (Blk w14 w.heap.size 25 #[.slice ao M acap, .slice co nc ccap]) := k0w13.out.below hb
  have k5w14 : Hid (Blk w14 G5 28 #[.int .i64 D2.u, .int .i64 D2.a, .int .i64 D2.b, .int .i64 D2.c]) := k5w13.out.below hb
  have k7w14 : Hid (Blk w14 G7 28 #[.int .i64 D1.u, .int .i64 D1.a, .int .i64 D1.b, .int .i64 D1.c]) := k7w13.out.below hb
  have k10w14 : Hid (Blk w14 G10 25 #[.slice o1 l1 q1, .slice o2 l2 q2]) := k10w13.out.below hb
  have k11w14 : Hid (Blk w14 G11 28 #[.int .i64 D2.u, .int .i64 D2.a, .int .i64 D2.b, .int .i64 D2.c]) := k11w13.out.below hb
  clear hb x0 x1
  go_wp2_with fail
  go_at_call 9
  refine (HE3.out _ Bw14.out).mono ?_
  rintro e w15 ⟨rfl, hb⟩
  have Bw15 : Hid (Below w.heap.size w w15) := Bw14.out.trans (hb.mono Bw14.out.size)
  have k0w15 : Hid (Blk w15 w.heap.size 25 #[.slice ao M acap, .slice co nc ccap]) := k0w14.out.below hb
  have k5w15 : Hid (Blk w15 G5 28 #[.int .i64 D2.u, .int .i64 D2.a, .int .i64 D2.b, .int .i64 D2.c]) := k5w14.out.below hb
  have k7w15 : Hid (Blk w15 G7 28 #[.int .i64 D1.u, .int .i64 D1.a, .int .i64 D1.b, .int .i64 D1.c]) := k7w14.out.below hb
  have k10w15 : Hid (Blk w15 G10 25 #[.slice o1 l1 q1, .slice o2 l2 q2]) := k10w14.out.below hb
  have k11w15 : Hid (Blk w15 G11 28 #[.int .i64 D2.u, .int .i64 D2.a, .int .i64 D2.b, .int .i64 D2.c]) := k11w14.out.below hb
  clear hb 
  go_wp2
  go_ret
  exact ⟨rfl, Bw15.out⟩

set_option maxHeartbeats 4000000 in
theorem modelTells_G5 (ao : Option Addr) (M acap : Nat) (co : Option Addr) (nc ccap : Nat) (u F1 : Int) (D1 D2 : Wd) (E1 E2 E3 : Value) (w : World)
    (H1 : Hid (∀ W, Below w.heap.size w W → Calls Tryz.prog 7 #[.agg #[.slice ao M acap, .slice co nc ccap], .int .i64 u] W fun e w' => e = .returned (.tuple #[.agg #[.int .i64 D1.u, .int .i64 D1.a, .int .i64 D1.b, .int .i64 D1.c], .int .i64 F1]) ∧ Below W.heap.size W w'))
    (H2 : Hid (∀ W, Below w.heap.size w W → Calls Tryz.prog 8 #[.agg #[.slice ao M acap, .slice co nc ccap], .int .i64 u] W fun e w' => e = .returned (.tuple #[.agg #[.int .i64 D1.u, .int .i64 D1.a, .int .i64 D1.b, .int .i64 D1.c], E1]) ∧ Below W.heap.size W w'))
    (HE1 : Hid (∀ W, Below w.heap.size w W → Calls Tryz.prog 9 #[E1, .int .i64 F1] W fun e w' => e = .returned (.bool true) ∧ Below W.heap.size W w'))
    (H3 : Hid (∀ W, Below w.heap.size w W → Calls Tryz.prog 10 #[.agg #[.slice ao M acap, .slice co nc ccap]] W fun e w' => ∃ o1 l1 q1 o2 l2 q2, e = .returned (.tuple #[.agg #[.slice o1 l1 q1, .slice o2 l2 q2], .int .i64 0]) ∧ Hid (∀ W', Below w'.heap.size w' W' → Calls Tryz.prog 7 #[.agg #[.slice o1 l1 q1, .slice o2 l2 q2], .int .i64 u] W' fun e' w'' => e' = .returned (.tuple #[.agg #[.int .i64 D2.u, .int .i64 D2.a, .int .i64 D2.b, .int .i64 D2.c], .int .i64 5]) ∧ Below W'.heap.size W' w'') ∧ Below W.heap.size W w'))
    (H5 : Hid (∀ W, Below w.heap.size w W → Calls Tryz.prog 11 #[.agg #[.slice ao M acap, .slice co nc ccap], .int .i64 u] W fun e w' => e = .returned (.tuple #[.agg #[.int .i64 D2.u, .int .i64 D2.a, .int .i64 D2.b, .int .i64 D2.c], E2]) ∧ Below W.heap.size W w'))
    (HE2 : Hid (∀ W, Below w.heap.size w W → Calls Tryz.prog 9 #[E2, .int .i64 5] W fun e w' => e = .returned (.bool true) ∧ Below W.heap.size W w'))
    (H6 : Hid (∀ W, Below w.heap.size w W → Calls Tryz.prog 12 #[.agg #[.slice ao M acap, .slice co nc ccap]] W fun e w' => e = .returned (.int .i64 0) ∧ Below W.heap.size W w'))
    (H7 : Hid (∀ W, Below w.heap.size w W → Calls Tryz.prog 13 #[.agg #[.slice ao M acap, .slice co nc ccap], .int .i64 u] W fun e w' => e = .returned (.tuple #[.bool true, E3]) ∧ Below W.heap.size W w'))
    (HE3 : Hid (∀ W, Below w.heap.size w W → Calls Tryz.prog 9 #[E3, .int .i64 0] W fun e w' => e = .returned (.bool true) ∧ Below W.heap.size W w'))
    : Calls Tryz.prog 3 #[.agg #[.slice ao M acap, .slice co nc ccap], .int .i64 u] w fun e w' => e = .returned (.bool true) ∧ Below w.heap.size w w' := by
  obtain ⟨w1, hw1⟩ : ∃ x, x = w.alloc (.cells #[.slice ao M acap, .slice co nc ccap] 25) := ⟨_, rfl⟩
  have Bw1 : Hid (Below w.heap.size w w1) := by unfold Hid; rw [hw1]; exact below_alloc1 _ _
  have k0w1 : Hid (Blk w1 w.heap.size 25 #[.slice ao M acap, .slice co nc ccap]) := by unfold Hid; rw [hw1]; exact Blk.new _ _ _
  have x0 : w1.cell? ⟨w.heap.size, 0, none⟩ = some (.slice ao M acap) := k0w1.out.cell 0
  have x1 : w1.cell? ⟨w.heap.size, 1, none⟩ = some (.slice co nc ccap) := k0w1.out.cell 1
  go_enter Tryz.func3, Tryz.ntmps3
  go_wp2_with fail
  rw [← hw1]
  clear hw1
  go_wp2_with fail
  go_at_call 7
  refine (H1.out _ Bw1.out).mono ?_
  rintro e w2 ⟨rfl, hb⟩
  have Bw2 : Hid (Below w.heap.size w w2) := Bw1.out.trans (hb.mono Bw1.out.size)
  have k0w2 : Hid (Blk w2 w.heap.size 25 #[.slice ao M acap, .slice co nc ccap]) := k0w1.out.below hb
  clear hb x0 x1
  obtain ⟨w3, hw3⟩ : ∃ x, x = w2.alloc (.cells #[.int .i64 D1.u, .int .i64 D1.a, .int .i64 D1.b, .int .i64 D1.c] 28) := ⟨_, rfl⟩
  obtain ⟨G5, hG5⟩ : ∃ x, x = w2.heap.size := ⟨_, rfl⟩
  have Bw3 : Hid (Below w.heap.size w w3) := by unfold Hid; rw [hw3]; exact Bw2.out.alloc Bw2.out.size _
  have LG5 : Hid (w.heap.size < G5) := by unfold Hid; rw [hG5]; exact Nat.lt_of_lt_of_le (k0w2.out.lt) (Nat.le_refl _)
  have k0w3 : Hid (Blk w3 w.heap.size 25 #[.slice ao M acap, .slice co nc ccap]) := by unfold Hid; rw [hw3]; exact k0w2.out.old _
  have k5w3 : Hid (Blk w3 G5 28 #[.int .i64 D1.u, .int .i64 D1.a, .int .i64 D1.b, .int .i64 D1.c]) := by unfold Hid; rw [hw3, hG5]; exact Blk.new _ _ _
  go_upto_region 2 with fail
  rw [← hw3, ← hG5]
  clear hw3 hG5
  have x0 : w3.cell? ⟨w.heap.size, 0, none⟩ = some (.slice ao M acap) := k0w3.out.cell 0
  have x1 : w3.cell? ⟨w.heap.size, 1, none⟩ = some (.slice co nc ccap) := k0w3.out.cell 1
  go_wp2_with fail
  go_at_call 8
  refine (H2.out _ Bw3.out).mono ?_
  rintro e w4 ⟨rfl, hb⟩
  have Bw4 : Hid (Below w.heap.size w w4) := Bw3.out.trans (hb.mono Bw3.out.size)
  have k0w4 : Hid (Blk w4 w.heap.size 25 #[.slice ao M acap, .slice co nc ccap]) := k0w3.out.below hb
  have k5w4 : Hid (Blk w4 G5 28 #[.int .i64 D1.u, .int .i64 D1.a, .int .i64 D1.b, .int .i64 D1.c]) := k5w3.out.below hb
  clear hb x0 x1
  obtain ⟨w5, hw5⟩ : ∃ x, x = w4.alloc (.cells #[.int .i64 D1.u, .int .i64 D1.a, .int .i64 D1.b, .int .i64 D1.c] 28) := ⟨_, rfl⟩
  obtain ⟨G7, hG7⟩ : ∃ x, x = w4.heap.size := ⟨_, rfl⟩
  have Bw5 : Hid (Below w.heap.size w w5) := by unfold Hid; rw [hw5]; exact Bw4.out.alloc Bw4.out.size _
  have LG7 : Hid (w.heap.size < G7) := by unfold Hid; rw [hG7]; exact Nat.lt_of_lt_of_le (k0w4.out.lt) (Nat.le_refl _)
  have k0w5 : Hid (Blk w5 w.heap.size 25 #[.slice ao M acap, .slice co nc ccap]) := by unfold Hid; rw [hw5]; exact k0w4.out.old _
  have k5w5 : Hid (Blk w5 G5 28 #[.int .i64 D1.u, .int .i64 D1.a, .int .i64 D1.b, .int .i64 D1.c]) := by unfold Hid; rw [hw5]; exact k5w4.out.old _
  have NG7G5 : Hid (G5 ≠ G7) := by have := k5w4.out.lt; unfold Hid; rw [hG7]; omega
  have k7w5 : Hid (Blk w5 G7 28 #[.int .i64 D1.u, .int .i64 D1.a, .int .i64 D1.b, .int .i64 D1.c]) := by unfold Hid; rw [hw5, hG7]; exact Blk.new _ _ _
  go_upto_region 3 with fail
  rw [← hw5, ← hG7]
  clear hw5 hG7
  go_wp2_with fail
  go_at_call 9
  refine (HE1.out _ Bw5.out).mono ?_
  rintro e w6 ⟨rfl, hb⟩
  have Bw6 : Hid (Below w.heap.size w w6) := Bw5.out.trans (hb.mono Bw5.out.size)
  have k0w6 : Hid (Blk w6 w.heap.size 25 #[.slice ao M acap, .slice co nc ccap]) := k0w5.out.below hb
  have k5w6 : Hid (Blk w6 G5 28 #[.int .i64 D1.u, .int .i64 D1.a, .int .i64 D1.b, .int .i64 D1.c]) := k5w5.out.below hb
  have k7w6 : Hid (Blk w6 G7 28 #[.int .i64 D1.u, .int .i64 D1.a, .int .i64 D1.b, .int .i64 D1.c]) := k7w5.out.below hb
  clear hb 
  have y0 : w6.cell? ⟨G5, 0, none⟩ = some (.int .i64 D1.u) := k5w6.out.cell 0
  have y1 : w6.cell? ⟨G5, 1, none⟩ = some (.int .i64 D1.a) := k5w6.out.cell 1
  have y2 : w6.cell? ⟨G5, 2, none⟩ = some (.int .i64 D1.b) := k5w6.out.cell 2
  have y3 : w6.cell? ⟨G5, 3, none⟩ = some (.int .i64 D1.c) := k5w6.out.cell 3
  have z0 : w6.cell? ⟨G7, 0, none⟩ = some (.int .i64 D1.u) := k7w6.out.cell 0
  have z1 : w6.cell? ⟨G7, 1, none⟩ = some (.int .i64 D1.a) := k7w6.out.cell 1
  have z2 : w6.cell? ⟨G7, 2, none⟩ = some (.int .i64 D1.b) := k7w6.out.cell 2
  have z3 : w6.cell? ⟨G7, 3, none⟩ = some (.int .i64 D1.c) := k7w6.out.cell 3
  have hq := sameW D1.u D1.a D1.b D1.c
  have hgd := guardW
  go_upto_region 4 with fail
  clear y0 y1 y2 y3 z0 z1 z2 z3 hq
  have x0 : w6.cell? ⟨w.heap.size, 0, none⟩ = some (.slice ao M acap) := k0w6.out.cell 0
  have x1 : w6.cell? ⟨w.heap.size, 1, none⟩ = some (.slice co nc ccap) := k0w6.out.cell 1
  go_wp2_with fail
  go_at_call 10
  refine (H3.out _ Bw6.out).mono ?_
  rintro e w7 ⟨o1, l1, q1, o2, l2, q2, rfl, H4, hb⟩
  have Bw7 : Hid (Below w.heap.size w w7) := Bw6.out.trans (hb.mono Bw6.out.size)
  have k0w7 : Hid (Blk w7 w.heap.size 25 #[.slice ao M acap, .slice co nc ccap]) := k0w6.out.below hb
  have k5w7 : Hid (Blk w7 G5 28 #[.int .i64 D1.u, .int .i64 D1.a, .int .i64 D1.b, .int .i64 D1.c]) := k5w6.out.below hb
  have k7w7 : Hid (Blk w7 G7 28 #[.int .i64 D1.u, .int .i64 D1.a, .int .i64 D1.b, .int .i64 D1.c]) := k7w6.out.below hb
  clear hb x0 x1
  obtain ⟨w8, hw8⟩ : ∃ x, x = w7.alloc (.cells #[.slice o1 l1 q1, .slice o2 l2 q2] 25) := ⟨_, rfl⟩
  obtain ⟨G10, hG10⟩ : ∃ x, x = w7.heap.size := ⟨_, rfl⟩
  have Bw8 : Hid (Below w.heap.size w w8) := by unfold Hid; rw [hw8]; exact Bw7.out.alloc Bw7.out.size _
  have LG10 : Hid (w.heap.size < G10) := by unfold Hid; rw [hG10]; exact Nat.lt_of_lt_of_le (k0w7.out.lt) (Nat.le_refl _)
  have k0w8 : Hid (Blk w8 w.heap.size 25 #[.slice ao M acap, .slice co nc ccap]) := by unfold Hid; rw [hw8]; exact k0w7.out.old _
  have k5w8 : Hid (Blk w8 G5 28 #[.int .i64 D1.u, .int .i64 D1.a, .int .i64 D1.b, .int .i64 D1.c]) := by unfold Hid; rw [hw8]; exact k5w7.out.old _
  have NG10G5 : Hid (G5 ≠ G10) := by have := k5w7.out.lt; unfold Hid; rw [hG10]; omega
  have k7w8 : Hid (Blk w8 G7 28 #[.int .i64 D1.u, .int .i64 D1.a, .int .i64 D1.b, .int .i64 D1.c]) := by unfold Hid; rw [hw8]; exact k7w7.out.old _
  have NG10G7 : Hid (G7 ≠ G10) := by have := k7w7.out.lt; unfold Hid; rw [hG10]; omega
  have k10w8 : Hid (Blk w8 G10 25 #[.slice o1 l1 q1, .slice o2 l2 q2]) := by unfold Hid; rw [hw8, hG10]; exact Blk.new _ _ _
  have HMw8 : Hid (Below w7.heap.size w7 w8) := by unfold Hid; rw [hw8]; exact below_alloc1 _ _
  go_upto_region 5 with fail
  rw [← hw8, ← hG10]
  clear hw8 hG10
  have g0 : w8.cell? ⟨G10, 0, none⟩ = some (.slice o1 l1 q1) := k10w8.out.cell 0
  have g1 : w8.cell? ⟨G10, 1, none⟩ = some (.slice o2 l2 q2) := k10w8.out.cell 1
  go_wp2_with fail
  go_at_call 7
  refine (H4.out _ HMw8.out).mono ?_
  rintro e w9 ⟨rfl, hb⟩
  have Bw9 : Hid (Below w.heap.size w w9) := Bw8.out.trans (hb.mono Bw8.out.size)
  have k0w9 : Hid (Blk w9 w.heap.size 25 #[.slice ao M acap, .slice co nc ccap]) := k0w8.out.below hb
  have k5w9 : Hid (Blk w9 G5 28 #[.int .i64 D1.u, .int .i64 D1.a, .int .i64 D1.b, .int .i64 D1.c]) := k5w8.out.below hb
  have k7w9 : Hid (Blk w9 G7 28 #[.int .i64 D1.u, .int .i64 D1.a, .int .i64 D1.b, .int .i64 D1.c]) := k7w8.out.below hb
  have k10w9 : Hid (Blk w9 G10 25 #[.slice o1 l1 q1, .slice o2 l2 q2]) := k10w8.out.below hb
  clear hb g0 g1
  have y0 : w9.cell? ⟨G5, 0, none⟩ = some (.int .i64 D1.u) := k5w9.out.cell 0
  have y1 : w9.cell? ⟨G5, 1, none⟩ = some (.int .i64 D1.a) := k5w9.out.cell 1
  have y2 : w9.cell? ⟨G5, 2, none⟩ = some (.int .i64 D1.b) := k5w9.out.cell 2
  have y3 : w9.cell? ⟨G5, 3, none⟩ = some (.int .i64 D1.c) := k5w9.out.cell 3
  obtain ⟨f0, f1, f2, f3⟩ := k5w9.out.frozen4
  obtain ⟨w10, hw10⟩ : ∃ x, x = putW w9 G5 D2 := ⟨_, rfl⟩
  have Bw10 : Hid (Below w.heap.size w w10) := by unfold Hid; rw [hw10]; exact putW_below Bw9.out (Nat.le_of_lt LG5.out) _
  have k0w10 : Hid (Blk w10 w.heap.size 25 #[.slice ao M acap, .slice co nc ccap]) := by unfold Hid; rw [hw10]; exact putW_far k0w9.out (Nat.ne_of_lt LG5.out) _
  have k5w10 : Hid (Blk w10 G5 28 #[.int .i64 D2.u, .int .i64 D2.a, .int .i64 D2.b, .int .i64 D2.c]) := by unfold Hid; rw [hw10]; exact putW_blk (N := D1) k5w9.out D2
  have k7w10 : Hid (Blk w10 G7 28 #[.int .i64 D1.u, .int .i64 D1.a, .int .i64 D1.b, .int .i64 D1.c]) := by unfold Hid; rw [hw10]; exact putW_far k7w9.out NG7G5.out.symm _
  have k10w10 : Hid (Blk w10 G10 25 #[.slice o1 l1 q1, .slice o2 l2 q2]) := by unfold Hid; rw [hw10]; exact putW_far k10w9.out NG10G5.out.symm _
  unfold putW at hw10
  go_upto_region 8 with fail
  rw [← hw10]
  clear hw10 y0 y1 y2 y3 f0 f1 f2 f3
  have x0 : w10.cell? ⟨w.heap.size, 0, none⟩ = some (.slice ao M acap) := k0w10.out.cell 0
  have x1 : w10.cell? ⟨w.heap.size, 1, none⟩ = some (.slice co nc ccap) := k0w10.out.cell 1
  go_wp2_with fail
  go_at_call 11
  refine (H5.out _ Bw10.out).mono ?_
  rintro e w11 ⟨rfl, hb⟩
  have Bw11 : Hid (Below w.heap.size w w11) := Bw10.out.trans (hb.mono Bw10.out.size)
  have k0w11 : Hid (Blk w11 w.heap.size 25 #[.slice ao M acap, .slice co nc ccap]) := k0w10.out.below hb
  have k5w11 : Hid (Blk w11 G5 28 #[.int .i64 D2.u, .int .i64 D2.a, .int .i64 D2.b, .int .i64 D2.c]) := k5w10.out.below hb
  have k7w11 : Hid (Blk w11 G7 28 #[.int .i64 D1.u, .int .i64 D1.a, .int .i64 D1.b, .int .i64 D1.c]) := k7w10.out.below hb
  have k10w11 : Hid (Blk w11 G10 25 #[.slice o1 l1 q1, .slice o2 l2 q2]) := k10w10.out.below hb
  clear hb x0 x1
  obtain ⟨w12, hw12⟩ : ∃ x, x = w11.alloc (.cells #[.int .i64 D2.u, .int .i64 D2.a, .int .i64 D2.b, .int .i64 D2.c] 28) := ⟨_, rfl⟩
  obtain ⟨G11, hG11⟩ : ∃ x, x = w11.heap.size := ⟨_, rfl⟩
  have Bw12 : Hid (Below w.heap.size w w12) := by unfold Hid; rw [hw12]; exact Bw11.out.alloc Bw11.out.size _
  have LG11 : Hid (w.heap.size < G11) := by unfold Hid; rw [hG11]; exact Nat.lt_of_lt_of_le (k0w11.out.lt) (Nat.le_refl _)
  have k0w12 : Hid (Blk w12 w.heap.size 25 #[.slice ao M acap, .slice co nc ccap]) := by unfold Hid; rw [hw12]; exact k0w11.out.old _
  have k5w12 : Hid (Blk w12 G5 28 #[.int .i64 D2.u, .int .i64 D2.a, .int .i64 D2.b, .int .i64 D2.c]) := by unfold Hid; rw [hw12]; exact k5w11.out.old _
  have NG11G5 : Hid (G5 ≠ G11) := by have := k5w11.out.lt; unfold Hid; rw [hG11]; omega
  have k7w12 : Hid (Blk w12 G7 28 #[.int .i64 D1.u, .int .i64 D1.a, .int .i64 D1.b, .int .i64 D1.c]) := by unfold Hid; rw [hw12]; exact k7w11.out.old _
  have NG11G7 : Hid (G7 ≠ G11) := by have := k7w11.out.lt; unfold Hid; rw [hG11]; omega
  have k10w12 : Hid (Blk w12 G10 25 #[.slice o1 l1 q1, .slice o2 l2 q2]) := by unfold Hid; rw [hw12]; exact k10w11.out.old _
  have NG11G10 : Hid (G10 ≠ G11) := by have := k10w11.out.lt; unfold Hid; rw [hG11]; omega
  have k11w12 : Hid (Blk w12 G11 28 #[.int .i64 D2.u, .int .i64 D2.a, .int .i64 D2.b, .int .i64 D2.c]) := by unfold Hid; rw [hw12, hG11]; exact Blk.new _ _ _
  go_upto_region 9 with fail
  rw [← hw12, ← hG11]
  clear hw12 hG11
  go_wp2_with fail
  go_at_call 9
  refine (HE2.out _ Bw12.out).mono ?_
  rintro e w13 ⟨rfl, hb⟩
  have Bw13 : Hid (Below w.heap.size w w13) := Bw12.out.trans (hb.mono Bw12.out.size)
  have k0w13 : Hid (Blk w13 w.heap.size 25 #[.slice ao M acap, .slice co nc ccap]) := k0w12.out.below hb
  have k5w13 : Hid (Blk w13 G5 28 #[.int .i64 D2.u, .int .i64 D2.a, .int .i64 D2.b, .int .i64 D2.c]) := k5w12.out.below hb
  have k7w13 : Hid (Blk w13 G7 28 #[.int .i64 D1.u, .int .i64 D1.a, .int .i64 D1.b, .int .i64 D1.c]) := k7w12.out.below hb
  have k10w13 : Hid (Blk w13 G10 25 #[.slice o1 l1 q1, .slice o2 l2 q2]) := k10w12.out.below hb
  have k11w13 : Hid (Blk w13 G11 28 #[.int .i64 D2.u, .int .i64 D2.a, .int .i64 D2.b, .int .i64 D2.c]) := k11w12.out.below hb
  clear hb 
  have y0 : w13.cell? ⟨G5, 0, none⟩ = some (.int .i64 D2.u) := k5w13.out.cell 0
  have y1 : w13.cell? ⟨G5, 1, none⟩ = some (.int .i64 D2.a) := k5w13.out.cell 1
  have y2 : w13.cell? ⟨G5, 2, none⟩ = some (.int .i64 D2.b) := k5w13.out.cell 2
  have y3 : w13.cell? ⟨G5, 3, none⟩ = some (.int .i64 D2.c) := k5w13.out.cell 3
  have z0 : w13.cell? ⟨G11, 0, none⟩ = some (.int .i64 D2.u) := k11w13.out.cell 0
  have z1 : w13.cell? ⟨G11, 1, none⟩ = some (.int .i64 D2.a) := k11w13.out.cell 1
  have z2 : w13.cell? ⟨G11, 2, none⟩ = some (.int .i64 D2.b) := k11w13.out.cell 2
  have z3 : w13.cell? ⟨G11, 3, none⟩ = some (.int .i64 D2.c) := k11w13.out.cell 3
  have hq := sameW D2.u D2.a D2.b D2.c
  go_upto_region 10 with fail
  clear y0 y1 y2 y3 z0 z1 z2 z3 hq
  have x0 : w13.cell? ⟨w.heap.size, 0, none⟩ = some (.slice ao M acap) := k0w13.out.cell 0
  have x1 : w13.cell? ⟨w.heap.size, 1, none⟩ = some (.slice co nc ccap) := k0w13.out.cell 1
  go_wp2_with fail
  go_at_call 12
  refine (H6.out _ Bw13.out).mono ?_
  rintro e w14 ⟨rfl, hb⟩
  have Bw14 : Hid (Below w.heap.size w w14) := Bw13.out.trans (hb.mono Bw13.out.size)
  have k0w14 : Hid (Blk w14 w.heap.size 25 #[.slice ao M acap, .slice co nc ccap]) := k0w13.out.below hb
  have k5w14 : Hid (Blk w14 G5 28 #[.int .i64 D2.u, .int .i64 D2.a, .int .i64 D2.b, .int .i64 D2.c]) := k5w13.out.below hb
  have k7w14 : Hid (Blk w14 G7 28 #[.int .i64 D1.u, .int .i64 D1.a, .int .i64 D1.b, .int .i64 D1.c]) := k7w13.out.below hb
  have k10w14 : Hid (Blk w14 G10 25 #[.slice o1 l1 q1, .slice o2 l2 q2]) := k10w13.out.below hb
  have k11w14 : Hid (Blk w14 G11 28 #[.int .i64 D2.u, .int .i64 D2.a, .int .i64 D2.b, .int .i64 D2.c]) := k11w13.out.below hb
  clear hb x0 x1
  have x0 : w14.cell? ⟨w.heap.size, 0, none⟩ = some (.slice ao M acap) := k0w14.out.cell 0
  have x1 : w14.cell? ⟨w.heap.size, 1, none⟩ = some (.slice co nc ccap) := k0w14.out.cell 1
  go_wp2_with fail
  go_at_call 13
  refine (H7.out _ Bw14.out).mono ?_
  rintro e w15 ⟨rfl, hb⟩
  have Bw15 : Hid (Below w.heap.size w w15) := Bw14.out.trans (hb.mono Bw14.out.size)
  have k0w15 : Hid (Blk w15 w.heap.size 25 #[.slice ao M acap, .slice co nc ccap]) := k0w14.out.below hb
  have k5w15 : Hid (Blk w15 G5 28 #[.int .i64 D2.u, .int .i64 D2.a, .int .i64 D2.b, .int .i64 D2.c]) := k5w14.out.below hb
  have k7w15 : Hid (Blk w15 G7 28 #[.int .i64 D1.u, .int .i64 D1.a, .int .i64 D1.b, .int .i64 D1.c]) := k7w14.out.below hb
  have k10w15 : Hid (Blk w15 G10 25 #[.slice o1 l1 q1, .slice o2 l2 q2]) := k10w14.out.below hb
  have k11w15 : Hid (Blk w15 G11 28 #[.int .i64 D2.u, .int .i64 D2.a, .int .i64 D2.b, .int .i64 D2.c]) := k11w14.out.below hb
  clear hb x0 x1
  go_wp2_with fail
  go_at_call 9
  refine (HE3.out _ Bw15.out).mono ?_
  rintro e w16 ⟨rfl, hb⟩
  have Bw16 : Hid (Below w.heap.size w w16) := Bw15.out.trans (hb.mono Bw15.out.size)
  have k0w16 : Hid (Blk w16 w.heap.size 25 #[.slice ao M acap, .slice co nc ccap]) := k0w15.out.below hb
  have k5w16 : Hid (Blk w16 G5 28 #[.int .i64 D2.u, .int .i64 D2.a, .int .i64 D2.b, .int .i64 D2.c]) := k5w15.out.below hb
  have k7w16 : Hid (Blk w16 G7 28 #[.int .i64 D1.u, .int .i64 D1.a, .int .i64 D1.b, .int .i64 D1.c]) := k7w15.out.below hb
  have k10w16 : Hid (Blk w16 G10 25 #[.slice o1 l1 q1, .slice o2 l2 q2]) := k10w15.out.below hb
  have k11w16 : Hid (Blk w16 G11 28 #[.int .i64 D2.u, .int .i64 D2.a, .int .i64 D2.b, .int .i64 D2.c]) := k11w15.out.below hb
  clear hb 
  go_wp2
  go_ret
  exact ⟨rfl, Bw16.out⟩

set_option maxHeartbeats 4000000 in
theorem modelTells_BN (ao : Option Addr) (M acap : Nat) (co : Option Addr) (nc ccap : Nat) (u F1 : Int) (F2 : Int) (h5 : ¬ F2 = 5) (h0 : ¬ F2 = 0) (D1 : Wd) (E1 E2 E3 : Value) (w : World)
    (H1 : Hid (∀ W, Below w.heap.size w W → Calls Tryz.prog 7 #[.agg #[.slice ao M acap, .slice co nc ccap], .int .i64 u] W fun e w' => e = .returned (.tuple #[.agg #[.int .i64 D1.u, .int .i64 D1.a, .int .i64 D1.b, .int .i64 D1.c], .int .i64 F1]) ∧ Below W.heap.size W w'))
    (H2 : Hid (∀ W, Below w.heap.size w W → Calls Tryz.prog 8 #[.agg #[.slice ao M acap, .slice co nc ccap], .int .i64 u] W fun e w' => e = .returned (.tuple #[.agg #[.int .i64 D1.u, .int .i64 D1.a, .int .i64 D1.b, .int .i64 D1.c], E1]) ∧ Below W.heap.size W w'))
    (HE1 : Hid (∀ W, Below w.heap.size w W → Calls Tryz.prog 9 #[E1, .int .i64 F1] W fun e w' => e = .returned (.bool true) ∧ Below W.heap.size W w'))
    (H3 : Hid (∀ W, Below w.heap.size w W → Calls Tryz.prog 10 #[.agg #[.slice ao M acap, .slice co nc ccap]] W fun e w' => e = .returned (.tuple #[.agg #[.slice none 0 0, .slice none 0 0], .int .i64 F2]) ∧ Below W.heap.size W w'))
    (H5 : Hid (∀ W, Below w.heap.size w W → Calls Tryz.prog 11 #[.agg #[.slice ao M acap, .slice co nc ccap], .int .i64 u] W fun e w' => e = .returned (.tuple #[.agg #[.int .i64 0, .int .i64 0, .int .i64 0, .int .i64 0], E2]) ∧ Below W.heap.size W w'))
    (HE2 : Hid (∀ W, Below w.heap.size w W → Calls Tryz.prog 9 #[E2, .int .i64 F2] W fun e w' => e = .returned (.bool true) ∧ Below W.heap.size W w'))
    (H7 : Hid (∀ W, Below w.heap.size w W → Calls Tryz.prog 13 #[.agg #[.slice ao M acap, .slice co nc ccap], .int .i64 u] W fun e w' => e = .returned (.tuple #[.bool false, E3]) ∧ Below W.heap.size W w'))
    (HE3 : Hid (∀ W, Below w.heap.size w W → Calls Tryz.prog 9 #[E3, .int .i64 F2] W fun e w' => e = .returned (.bool true) ∧ Below W.heap.size W w'))
    : Calls Tryz.prog 3 #[.agg #[.slice ao M acap, .slice co nc ccap], .int .i64 u] w fun e w' => e = .returned (.bool true) ∧ Below w.heap.size w w' := by
  obtain ⟨w1, hw1⟩ : ∃ x, x = w.alloc (.cells #[.slice ao M acap, .slice co nc ccap] 25) := ⟨_, rfl⟩
  have Bw1 : Hid (Below w.heap.size w w1) := by unfold Hid; rw [hw1]; exact below_alloc1 _ _
  have k0w1 : Hid (Blk w1 w.heap.size 25 #[.slice ao M acap, .slice co nc ccap]) := by unfold Hid; rw [hw1]; exact Blk.new _ _ _
  have x0 : w1.cell? ⟨w.heap.size, 0, none⟩ = some (.slice ao M acap) := k0w1.out.cell 0
  have x1 : w1.cell? ⟨w.heap.size, 1, none⟩ = some (.slice co nc ccap) := k0w1.out.cell 1
  go_enter Tryz.func3, Tryz.ntmps3
  go_wp2_with fail
  rw [← hw1]
  clear hw1
  go_wp2_with fail
  go_at_call 7
  refine (H1.out _ Bw1.out).mono ?_
  rintro e w2 ⟨rfl, hb⟩
  have Bw2 : Hid (Below w.heap.size w w2) := Bw1.out.trans (hb.mono Bw1.out.size)
  have k0w2 : Hid (Blk w2 w.heap.size 25 #[.slice ao M acap, .slice co nc ccap]) := k0w1.out.below hb
  clear hb x0 x1
  obtain ⟨w3, hw3⟩ : ∃ x, x = w2.alloc (.cells #[.int .i64 D1.u, .int .i64 D1.a, .int .i64 D1.b, .int .i64 D1.c] 28) := ⟨_, rfl⟩
  obtain ⟨G5, hG5⟩ : ∃ x, x = w2.heap.size := ⟨_, rfl⟩
  have Bw3 : Hid (Below w.heap.size w w3) := by unfold Hid; rw [hw3]; exact Bw2.out.alloc Bw2.out.size _
  have LG5 : Hid (w.heap.size < G5) := by unfold Hid; rw [hG5]; exact Nat.lt_of_lt_of_le (k0w2.out.lt) (Nat.le_refl _)
  have k0w3 : Hid (Blk w3 w.heap.size 25 #[.slice ao M acap, .slice co nc ccap]) := by unfold Hid; rw [hw3]; exact k0w2.out.old _
  have k5w3 : Hid (Blk w3 G5 28 #[.int .i64 D1.u, .int .i64 D1.a, .int .i64 D1.b, .int .i64 D1.c]) := by unfold Hid; rw [hw3, hG5]; exact Blk.new _ _ _
  go_upto_region 2 with fail
  rw [← hw3, ← hG5]
  clear hw3 hG5
  have x0 : w3.cell? ⟨w.heap.size, 0, none⟩ = some (.slice ao M acap) := k0w3.out.cell 0
  have x1 : w3.cell? ⟨w.heap.size, 1, none⟩ = some (.slice co nc ccap) := k0w3.out.cell 1
  go_wp2_with fail
  go_at_call 8
  refine (H2.out _ Bw3.out).mono ?_
  rintro e w4 ⟨rfl, hb⟩
  have Bw4 : Hid (Below w.heap.size w w4) := Bw3.out.trans (hb.mono Bw3.out.size)
  have k0w4 : Hid (Blk w4 w.heap.size 25 #[.slice ao M acap, .slice co nc ccap]) := k0w3.out.below hb
  have k5w4 : Hid (Blk w4 G5 28 #[.int .i64 D1.u, .int .i64 D1.a, .int .i64 D1.b, .int .i64 D1.c]) := k5w3.out.below hb
  clear hb x0 x1
  obtain ⟨w5, hw5⟩ : ∃ x, x = w4.alloc (.cells #[.int .i64 D1.u, .int .i64 D1.a, .int .i64 D1.b, .int .i64 D1.c] 28) := ⟨_, rfl⟩
  obtain ⟨G7, hG7⟩ : ∃ x, x = w4.heap.size := ⟨_, rfl⟩
  have Bw5 : Hid (Below w.heap.size w w5) := by unfold Hid; rw [hw5]; exact Bw4.out.alloc Bw4.out.size _
  have LG7 : Hid (w.heap.size < G7) := by unfold Hid; rw [hG7]; exact Nat.lt_of_lt_of_le (k0w4.out.lt) (Nat.le_refl _)
  have k0w5 : Hid (Blk w5 w.heap.size 25 #[.slice ao M acap, .slice co nc ccap]) := by unfold Hid; rw [hw5]; exact k0w4.out.old _
  have k5w5 : Hid (Blk w5 G5 28 #[.int .i64 D1.u, .int .i64 D1.a, .int .i64 D1.b, .int .i64 D1.c]) := by unfold Hid; rw [hw5]; exact k5w4.out.old _
  have NG7G5 : Hid (G5 ≠ G7) := by have := k5w4.out.lt; unfold Hid; rw [hG7]; omega
  have k7w5 : Hid (Blk w5 G7 28 #[.int .i64 D1.u, .int .i64 D1.a, .int .i64 D1.b, .int .i64 D1.c]) := by unfold Hid; rw [hw5, hG7]; exact Blk.new _ _ _
  go_upto_region 3 with fail
  rw [← hw5, ← hG7]
  clear hw5 hG7
  go_wp2_with fail
  go_at_call 9
  refine (HE1.out _ Bw5.out).mono ?_
  rintro e w6 ⟨rfl, hb⟩
  have Bw6 : Hid (Below w.heap.size w w6) := Bw5.out.trans (hb.mono Bw5.out.size)
  have k0w6 : Hid (Blk w6 w.heap.size 25 #[.slice ao M acap, .slice co nc ccap]) := k0w5.out.below hb
  have k5w6 : Hid (Blk w6 G5 28 #[.int .i64 D1.u, .int .i64 D1.a, .int .i64 D1.b, .int .i64 D1.c]) := k5w5.out.below hb
  have k7w6 : Hid (Blk w6 G7 28 #[.int .i64 D1.u, .int .i64 D1.a, .int .i64 D1.b, .int .i64 D1.c]) := k7w5.out.below hb
  clear hb 
  have y0 : w6.cell? ⟨G5, 0, none⟩ = some (.int .i64 D1.u) := k5w6.out.cell 0
  have y1 : w6.cell? ⟨G5, 1, none⟩ = some (.int .i64 D1.a) := k5w6.out.cell 1
  have y2 : w6.cell? ⟨G5, 2, none⟩ = some (.int .i64 D1.b) := k5w6.out.cell 2
  have y3 : w6.cell? ⟨G5, 3, none⟩ = some (.int .i64 D1.c) := k5w6.out.cell 3
  have z0 : w6.cell? ⟨G7, 0, none⟩ = some (.int .i64 D1.u) := k7w6.out.cell 0
  have z1 : w6.cell? ⟨G7, 1, none⟩ = some (.int .i64 D1.a) := k7w6.out.cell 1
  have z2 : w6.cell? ⟨G7, 2, none⟩ = some (.int .i64 D1.b) := k7w6.out.cell 2
  have z3 : w6.cell? ⟨G7, 3, none⟩ = some (.int .i64 D1.c) := k7w6.out.cell 3
  have hq := sameW D1.u D1.a D1.b D1.c
  have hgd := guardW
  go_upto_region 4 with fail
  clear y0 y1 y2 y3 z0 z1 z2 z3 hq
  have x0 : w6.cell? ⟨w.heap.size, 0, none⟩ = some (.slice ao M acap) := k0w6.out.cell 0
  have x1 : w6.cell? ⟨w.heap.size, 1, none⟩ = some (.slice co nc ccap) := k0w6.out.cell 1
  go_wp2_with fail
  go_at_call 10
  refine (H3.out _ Bw6.out).mono ?_
  rintro e w7 ⟨rfl, hb⟩
  have Bw7 : Hid (Below w.heap.size w w7) := Bw6.out.trans (hb.mono Bw6.out.size)
  have k0w7 : Hid (Blk w7 w.heap.size 25 #[.slice ao M acap, .slice co nc ccap]) := k0w6.out.below hb
  have k5w7 : Hid (Blk w7 G5 28 #[.int .i64 D1.u, .int .i64 D1.a, .int .i64 D1.b, .int .i64 D1.c]) := k5w6.out.below hb
  have k7w7 : Hid (Blk w7 G7 28 #[.int .i64 D1.u, .int .i64 D1.a, .int .i64 D1.b, .int .i64 D1.c]) := k7w6.out.below hb
  clear hb x0 x1
  obtain ⟨w8, hw8⟩ : ∃ x, x = w7.alloc (.cells #[.slice none 0 0, .slice none 0 0] 25) := ⟨_, rfl⟩
  obtain ⟨G10, hG10⟩ : ∃ x, x = w7.heap.size := ⟨_, rfl⟩
  have Bw8 : Hid (Below w.heap.size w w8) := by unfold Hid; rw [hw8]; exact Bw7.out.alloc Bw7.out.size _
  have LG10 : Hid (w.heap.size < G10) := by unfold Hid; rw [hG10]; exact Nat.lt_of_lt_of_le (k0w7.out.lt) (Nat.le_refl _)
  have k0w8 : Hid (Blk w8 w.heap.size 25 #[.slice ao M acap, .slice co nc ccap]) := by unfold Hid; rw [hw8]; exact k0w7.out.old _
  have k5w8 : Hid (Blk w8 G5 28 #[.int .i64 D1.u, .int .i64 D1.a, .int .i64 D1.b, .int .i64 D1.c]) := by unfold Hid; rw [hw8]; exact k5w7.out.old _
  have NG10G5 : Hid (G5 ≠ G10) := by have := k5w7.out.lt; unfold Hid; rw [hG10]; omega
  have k7w8 : Hid (Blk w8 G7 28 #[.int .i64 D1.u, .int .i64 D1.a, .int .i64 D1.b, .int .i64 D1.c]) := by unfold Hid; rw [hw8]; exact k7w7.out.old _
  have NG10G7 : Hid (G7 ≠ G10) := by have := k7w7.out.lt; unfold Hid; rw [hG10]; omega
  have k10w8 : Hid (Blk w8 G10 25 #[.slice none 0 0, .slice none 0 0]) := by unfold Hid; rw [hw8, hG10]; exact Blk.new _ _ _
  go_upto_region 5 with fail
  rw [← hw8, ← hG10]
  clear hw8 hG10
  have y0 : w8.cell? ⟨G5, 0, none⟩ = some (.int .i64 D1.u) := k5w8.out.cell 0
  have y1 : w8.cell? ⟨G5, 1, none⟩ = some (.int .i64 D1.a) := k5w8.out.cell 1
  have y2 : w8.cell? ⟨G5, 2, none⟩ = some (.int .i64 D1.b) := k5w8.out.cell 2
  have y3 : w8.cell? ⟨G5, 3, none⟩ = some (.int .i64 D1.c) := k5w8.out.cell 3
  obtain ⟨f0, f1, f2, f3⟩ := k5w8.out.frozen4
  obtain ⟨w9, hw9⟩ : ∃ x, x = putW w8 G5 ⟨0, 0, 0, 0⟩ := ⟨_, rfl⟩
  have Bw9 : Hid (Below w.heap.size w w9) := by unfold Hid; rw [hw9]; exact putW_below Bw8.out (Nat.le_of_lt LG5.out) _
  have k0w9 : Hid (Blk w9 w.heap.size 25 #[.slice ao M acap, .slice co nc ccap]) := by unfold Hid; rw [hw9]; exact putW_far k0w8.out (Nat.ne_of_lt LG5.out) _
  have k5w9 : Hid (Blk w9 G5 28 #[.int .i64 0, .int .i64 0, .int .i64 0, .int .i64 0]) := by unfold Hid; rw [hw9]; exact putW_blk (N := D1) k5w8.out ⟨0, 0, 0, 0⟩
  have k7w9 : Hid (Blk w9 G7 28 #[.int .i64 D1.u, .int .i64 D1.a, .int .i64 D1.b, .int .i64 D1.c]) := by unfold Hid; rw [hw9]; exact putW_far k7w8.out NG7G5.out.symm _
  have k10w9 : Hid (Blk w9 G10 25 #[.slice none 0 0, .slice none 0 0]) := by unfold Hid; rw [hw9]; exact putW_far k10w8.out NG10G5.out.symm _
  unfold putW at hw9
  simp only at hw9
  go_upto_region 8 with fail
  rw [← hw9]
  clear hw9 y0 y1 y2 y3 f0 f1 f2 f3
  have x0 : w9.cell? ⟨w.heap.size, 0, none⟩ = some (.slice ao M acap) := k0w9.out.cell 0
  have x1 : w9.cell? ⟨w.heap.size, 1, none⟩ = some (.slice co nc ccap) := k0w9.out.cell 1
  go_wp2_with fail
  go_at_call 11
  refine (H5.out _ Bw9.out).mono ?_
  rintro e w10 ⟨rfl, hb⟩
  have Bw10 : Hid (Below w.heap.size w w10) := Bw9.out.trans (hb.mono Bw9.out.size)
  have k0w10 : Hid (Blk w10 w.heap.size 25 #[.slice ao M acap, .slice co nc ccap]) := k0w9.out.below hb
  have k5w10 : Hid (Blk w10 G5 28 #[.int .i64 0, .int .i64 0, .int .i64 0, .int .i64 0]) := k5w9.out.below hb
  have k7w10 : Hid (Blk w10 G7 28 #[.int .i64 D1.u, .int .i64 D1.a, .int .i64 D1.b, .int .i64 D1.c]) := k7w9.out.below hb
  have k10w10 : Hid (Blk w10 G10 25 #[.slice none 0 0, .slice none 0 0]) := k10w9.out.below hb
  clear hb x0 x1
  obtain ⟨w11, hw11⟩ : ∃ x, x = w10.alloc (.cells #[.int .i64 0, .int .i64 0, .int .i64 0, .int .i64 0] 28) := ⟨_, rfl⟩
  obtain ⟨G11, hG11⟩ : ∃ x, x = w10.heap.size := ⟨_, rfl⟩
  have Bw11 : Hid (Below w.heap.size w w11) := by unfold Hid; rw [hw11]; exact Bw10.out.alloc Bw10.out.size _
  have LG11 : Hid (w.heap.size < G11) := by unfold Hid; rw [hG11]; exact Nat.lt_of_lt_of_le (k0w10.out.lt) (Nat.le_refl _)
  have k0w11 : Hid (Blk w11 w.heap.size 25 #[.slice ao M acap, .slice co nc ccap]) := by unfold Hid; rw [hw11]; exact k0w10.out.old _
  have k5w11 : Hid (Blk w11 G5 28 #[.int .i64 0, .int .i64 0, .int .i64 0, .int .i64 0]) := by unfold Hid; rw [hw11]; exact k5w10.out.old _
  have NG11G5 : Hid (G5 ≠ G11) := by have := k5w10.out.lt; unfold Hid; rw [hG11]; omega
  have k7w11 : Hid (Blk w11 G7 28 #[.int .i64 D1.u, .int .i64 D1.a, .int .i64 D1.b, .int .i64 D1.c]) := by unfold Hid; rw [hw11]; exact k7w10.out.old _
  have NG11G7 : Hid (G7 ≠ G11) := by have := k7w10.out.lt; unfold Hid; rw [hG11]; omega
  have k10w11 : Hid (Blk w11 G10 25 #[.slice none 0 0, .slice none 0 0]) := by unfold Hid; rw [hw11]; exact k10w10.out.old _
  have NG11G10 : Hid (G10 ≠ G11) := by have := k10w10.out.lt; unfold Hid; rw [hG11]; omega
  have k11w11 : Hid (Blk w11 G11 28 #[.int .i64 0, .int .i64 0, .int .i64 0, .int .i64 0]) := by unfold Hid; rw [hw11, hG11]; exact Blk.new _ _ _
  go_upto_region 9 with fail
  rw [← hw11, ← hG11]
  clear hw11 hG11
  go_wp2_with fail
  go_at_call 9
  refine (HE2.out _ Bw11.out).mono ?_
  rintro e w12 ⟨rfl, hb⟩
  have Bw12 : Hid (Below w.heap.size w w12) := Bw11.out.trans (hb.mono Bw11.out.size)
  have k0w12 : Hid (Blk w12 w.heap.size 25 #[.slice ao M acap, .slice co nc ccap]) := k0w11.out.below hb
  have k5w12 : Hid (Blk w12 G5 28 #[.int .i64 0, .int .i64 0, .int .i64 0, .int .i64 0]) := k5w11.out.below hb
  have k7w12 : Hid (Blk w12 G7 28 #[.int .i64 D1.u, .int .i64 D1.a, .int .i64 D1.b, .int .i64 D1.c]) := k7w11.out.below hb
  have k10w12 : Hid (Blk w12 G10 25 #[.slice none 0 0, .slice none 0 0]) := k10w11.out.below hb
  have k11w12 : Hid (Blk w12 G11 28 #[.int .i64 0, .int .i64 0, .int .i64 0, .int .i64 0]) := k11w11.out.below hb
  clear hb 
  have y0 : w12.cell? ⟨G5, 0, none⟩ = some (.int .i64 0) := k5w12.out.cell 0
  have y1 : w12.cell? ⟨G5, 1, none⟩ = some (.int .i64 0) := k5w12.out.cell 1
  have y2 : w12.cell? ⟨G5, 2, none⟩ = some (.int .i64 0) := k5w12.out.cell 2
  have y3 : w12.cell? ⟨G5, 3, none⟩ = some (.int .i64 0) := k5w12.out.cell 3
  have z0 : w12.cell? ⟨G11, 0, none⟩ = some (.int .i64 0) := k11w12.out.cell 0
  have z1 : w12.cell? ⟨G11, 1, none⟩ = some (.int .i64 0) := k11w12.out.cell 1
  have z2 : w12.cell? ⟨G11, 2, none⟩ = some (.int .i64 0) := k11w12.out.cell 2
  have z3 : w12.cell? ⟨G11, 3, none⟩ = some (.int .i64 0) := k11w12.out.cell 3
  have hq := sameW 0 0 0 0
  go_upto_region 10 with fail
  clear y0 y1 y2 y3 z0 z1 z2 z3 hq
  have x0 : w12.cell? ⟨w.heap.size, 0, none⟩ = some (.slice ao M acap) := k0w12.out.cell 0
  have x1 : w12.cell? ⟨w.heap.size, 1, none⟩ = some (.slice co nc ccap) := k0w12.out.cell 1
  go_wp2_with fail
  go_at_call 13
  refine (H7.out _ Bw12.out).mono ?_
  rintro e w13 ⟨rfl, hb⟩
  have Bw13 : Hid (Below w.heap.size w w13) := Bw12.out.trans (hb.mono Bw12.out.size)
  have k0w13 : Hid (Blk w13 w.heap.size 25 #[.slice ao M acap, .slice co nc ccap]) := k0w12.out.below hb
  have k5w13 : Hid (Blk w13 G5 28 #[.int .i64 0, .int .i64 0, .int .i64 0, .int .i64 0]) := k5w12.out.below hb
  have k7w13 : Hid (Blk w13 G7 28 #[.int .i64 D1.u, .int .i64 D1.a, .int .i64 D1.b, .int .i64 D1.c]) := k7w12.out.below hb
  have k10w13 : Hid (Blk w13 G10 25 #[.slice none 0 0, .slice none 0 0]) := k10w12.out.below hb
  have k11w13 : Hid (Blk w13 G11 28 #[.int .i64 0, .int .i64 0, .int .i64 0, .int .i64 0]) := k11w12.out.below hb
  clear hb x0 x1
  go_wp2_with fail
  go_at_call 9
  refine (HE3.out _ Bw13.out).mono ?_
  rintro e w14 ⟨rfl, hb⟩
  have Bw14 : Hid (Below w.heap.size w w14) := Bw13.out.trans (hb.mono Bw13.out.size)
  have k0w14 : Hid (Blk w14 w.heap.size 25 #[.slice ao M acap, .slice co nc ccap]) := k0w13.out.below hb
  have k5w14 : Hid (Blk w14 G5 28 #[.int .i64 0, .int .i64 0, .int .i64 0, .int .i64 0]) := k5w13.out.below hb
  have k7w14 : Hid (Blk w14 G7 28 #[.int .i64 D1.u, .int .i64 D1.a, .int .i64 D1.b, .int .i64 D1.c]) := k7w13.out.below hb
  have k10w14 : Hid (Blk w14 G10 25 #[.slice none 0 0, .slice none 0 0]) := k10w13.out.below hb
  have k11w14 : Hid (Blk w14 G11 28 #[.int .i64 0, .int .i64 0, .int .i64 0, .int .i64 0]) := k11w13.out.below hb
  clear hb 
  go_wp2
  go_ret
  exact ⟨rfl, Bw14.out⟩

set_option maxHeartbeats 4000000 in
theorem modelTells_B5 (ao : Option Addr) (M acap : Nat) (co : Option Addr) (nc ccap : Nat) (u F1 : Int) (D1 : Wd) (E1 E2 E3 : Value) (w : World)
    (H1 : Hid (∀ W, Below w.heap.size w W → Calls Tryz.prog 7 #[.agg #[.slice ao M acap, .slice co nc ccap], .int .i64 u] W fun e w' => e = .returned (.tuple #[.agg #[.int .i64 D1.u, .int .i64 D1.a, .int .i64 D1.b, .int .i64 D1.c], .int .i64 F1]) ∧ Below W.heap.size W w'))
    (H2 : Hid (∀ W, Below w.heap.size w W → Calls Tryz.prog 8 #[.agg #[.slice ao M acap, .slice co nc ccap], .int .i64 u] W fun e w' => e = .returned (.tuple #[.agg #[.int .i64 D1.u, .int .i64 D1.a, .int .i64 D1.b, .int .i64 D1.c], E1]) ∧ Below W.heap.size W w'))
    (HE1 : Hid (∀ W, Below w.heap.size w W → Calls Tryz.prog 9 #[E1, .int .i64 F1] W fun e w' => e = .returned (.bool true) ∧ Below W.heap.size W w'))
    (H3 : Hid (∀ W, Below w.heap.size w W → Calls Tryz.prog 10 #[.agg #[.slice ao M acap, .slice co nc ccap]] W fun e w' => e = .returned (.tuple #[.agg #[.slice none 0 0, .slice none 0 0], .int .i64 5]) ∧ Below W.heap.size W w'))
    (H5 : Hid (∀ W, Below w.heap.size w W → Calls Tryz.prog 11 #[.agg #[.slice ao M acap, .slice co nc ccap], .int .i64 u] W fun e w' => e = .returned (.tuple #[.agg #[.int .i64 0, .int .i64 0, .int .i64 0, .int .i64 0], E2]) ∧ Below W.heap.size W w'))
    (HE2 : Hid (∀ W, Below w.heap.size w W → Calls Tryz.prog 9 #[E2, .int .i64 5] W fun e w' => e = .returned (.bool true) ∧ Below W.heap.size W w'))
    (H6 : Hid (∀ W, Below w.heap.size w W → Calls Tryz.prog 12 #[.agg #[.slice ao M acap, .slice co nc ccap]] W fun e w' => e = .returned (.int .i64 5) ∧ Below W.heap.size W w'))
    (H7 : Hid (∀ W, Below w.heap.size w W → Calls Tryz.prog 13 #[.agg #[.slice ao M acap, .slice co nc ccap], .int .i64 u] W fun e w' => e = .returned (.tuple #[.bool false, E3]) ∧ Below W.heap.size W w'))
    (HE3 : Hid (∀ W, Below w.heap.size w W → Calls Tryz.prog 9 #[E3, .int .i64 5] W fun e w' => e = .returned (.bool true) ∧ Below W.heap.size W w'))
    : Calls Tryz.prog 3 #[.agg #[.slice ao M acap, .slice co nc ccap], .int .i64 u] w fun e w' => e = .returned (.bool true) ∧ Below w.heap.size w w' := by
  obtain ⟨w1, hw1⟩ : ∃ x, x = w.alloc (.cells #[.slice ao M acap, .slice co nc ccap] 25) := ⟨_, rfl⟩
  have Bw1 : Hid (Below w.heap.size w w1) := by unfold Hid; rw [hw1]; exact below_alloc1 _ _
  have k0w1 : Hid (Blk w1 w.heap.size 25 #[.slice ao M acap, .slice co nc ccap]) := by unfold Hid; rw [hw1]; exact Blk.new _ _ _
  have x0 : w1.cell? ⟨w.heap.size, 0, none⟩ = some (.slice ao M acap) := k0w1.out.cell 0
  have x1 : w1.cell? ⟨w.heap.size, 1, none⟩ = some (.slice co nc ccap) := k0w1.out.cell 1
  go_enter Tryz.func3, Tryz.ntmps3
  go_wp2_with fail
  rw [← hw1]
  clear hw1
  go_wp2_with fail
  go_at_call 7
  refine (H1.out _ Bw1.out).mono ?_
  rintro e w2 ⟨rfl, hb⟩
  have Bw2 : Hid (Below w.heap.size w w2) := Bw1.out.trans (hb.mono Bw1.out.size)
  have k0w2 : Hid (Blk w2 w.heap.size 25 #[.slice ao M acap, .slice co nc ccap]) := k0w1.out.below hb
  clear hb x0 x1
  obtain ⟨w3, hw3⟩ : ∃ x, x = w2.alloc (.cells #[.int .i64 D1.u, .int .i64 D1.a, .int .i64 D1.b, .int .i64 D1.c] 28) := ⟨_, rfl⟩
  obtain ⟨G5, hG5⟩ : ∃ x, x = w2.heap.size := ⟨_, rfl⟩
  have Bw3 : Hid (Below w.heap.size w w3) := by unfold Hid; rw [hw3]; exact Bw2.out.alloc Bw2.out.size _
  have LG5 : Hid (w.heap.size < G5) := by unfold Hid; rw [hG5]; exact Nat.lt_of_lt_of_le (k0w2.out.lt) (Nat.le_refl _)
  have k0w3 : Hid (Blk w3 w.heap.size 25 #[.slice ao M acap, .slice co nc ccap]) := by unfold Hid; rw [hw3]; exact k0w2.out.old _
  have k5w3 : Hid (Blk w3 G5 28 #[.int .i64 D1.u, .int .i64 D1.a, .int .i64 D1.b, .int .i64 D1.c]) := by unfold Hid; rw [hw3, hG5]; exact Blk.new _ _ _
  go_upto_region 2 with fail
  rw [← hw3, ← hG5]
  clear hw3 hG5
  have x0 : w3.cell? ⟨w.heap.size, 0, none⟩ = some (.slice ao M acap) := k0w3.out.cell 0
  have x1 : w3.cell? ⟨w.heap.size, 1, none⟩ = some (.slice co nc ccap) := k0w3.out.cell 1
  go_wp2_with fail
  go_at_call 8
  refine (H2.out _ Bw3.out).mono ?_
  rintro e w4 ⟨rfl, hb⟩
  have Bw4 : Hid (Below w.heap.size w w4) := Bw3.out.trans (hb.mono Bw3.out.size)
  have k0w4 : Hid (Blk w4 w.heap.size 25 #[.slice ao M acap, .slice co nc ccap]) := k0w3.out.below hb
  have k5w4 : Hid (Blk w4 G5 28 #[.int .i64 D1.u, .int .i64 D1.a, .int .i64 D1.b, .int .i64 D1.c]) := k5w3.out.below hb
  clear hb x0 x1
  obtain ⟨w5, hw5⟩ : ∃ x, x = w4.alloc (.cells #[.int .i64 D1.u, .int .i64 D1.a, .int .i64 D1.b, .int .i64 D1.c] 28) := ⟨_, rfl⟩
  obtain ⟨G7, hG7⟩ : ∃ x, x = w4.heap.size := ⟨_, rfl⟩
  have Bw5 : Hid (Below w.heap.size w w5) := by unfold Hid; rw [hw5]; exact Bw4.out.alloc Bw4.out.size _
  have LG7 : Hid (w.heap.size < G7) := by unfold Hid; rw [hG7]; exact Nat.lt_of_lt_of_le (k0w4.out.lt) (Nat.le_refl _)
  have k0w5 : Hid (Blk w5 w.heap.size 25 #[.slice ao M acap, .slice co nc ccap]) := by unfold Hid; rw [hw5]; exact k0w4.out.old _
  have k5w5 : Hid (Blk w5 G5 28 #[.int .i64 D1.u, .int .i64 D1.a, .int .i64 D1.b, .int .i64 D1.c]) := by unfold Hid; rw [hw5]; exact k5w4.out.old _
  have NG7G5 : Hid (G5 ≠ G7) := by have := k5w4.out.lt; unfold Hid; rw [hG7]; omega
  have k7w5 : Hid (Blk w5 G7 28 #[.int .i64 D1.u, .int .i64 D1.a, .int .i64 D1.b, .int .i64 D1.c]) := by unfold Hid; rw [hw5, hG7]; exact Blk.new _ _ _
  go_upto_region 3 with fail
  rw [← hw5, ← hG7]
  clear hw5 hG7
  go_wp2_with fail
  go_at_call 9
  refine (HE1.out _ Bw5.out).mono ?_
  rintro e w6 ⟨rfl, hb⟩
  have Bw6 : Hid (Below w.heap.size w w6) := Bw5.out.trans (hb.mono Bw5.out.size)
  have k0w6 : Hid (Blk w6 w.heap.size 25 #[.slice ao M acap, .slice co nc ccap]) := k0w5.out.below hb
  have k5w6 : Hid (Blk w6 G5 28 #[.int .i64 D1.u, .int .i64 D1.a, .int .i64 D1.b, .int .i64 D1.c]) := k5w5.out.below hb
  have k7w6 : Hid (Blk w6 G7 28 #[.int .i64 D1.u, .int .i64 D1.a, .int .i64 D1.b, .int .i64 D1.c]) := k7w5.out.below hb
  clear hb 
  have y0 : w6.cell? ⟨G5, 0, none⟩ = some (.int .i64 D1.u) := k5w6.out.cell 0
  have y1 : w6.cell? ⟨G5, 1, none⟩ = some (.int .i64 D1.a) := k5w6.out.cell 1
  have y2 : w6.cell? ⟨G5, 2, none⟩ = some (.int .i64 D1.b) := k5w6.out.cell 2
  have y3 : w6.cell? ⟨G5, 3, none⟩ = some (.int .i64 D1.c) := k5w6.out.cell 3
  have z0 : w6.cell? ⟨G7, 0, none⟩ = some (.int .i64 D1.u) := k7w6.out.cell 0
  have z1 : w6.cell? ⟨G7, 1, none⟩ = some (.int .i64 D1.a) := k7w6.out.cell 1
  have z2 : w6.cell? ⟨G7, 2, none⟩ = some (.int .i64 D1.b) := k7w6.out.cell 2
  have z3 : w6.cell? ⟨G7, 3, none⟩ = some (.int .i64 D1.c) := k7w6.out.cell 3
  have hq := sameW D1.u D1.a D1.b D1.c
  have hgd := guardW
  go_upto_region 4 with fail
  clear y0 y1 y2 y3 z0 z1 z2 z3 hq
  have x0 : w6.cell? ⟨w.heap.size, 0, none⟩ = some (.slice ao M acap) := k0w6.out.cell 0
  have x1 : w6.cell? ⟨w.heap.size, 1, none⟩ = some (.slice co nc ccap) := k0w6.out.cell 1
  go_wp2_with fail
  go_at_call 10
  refine (H3.out _ Bw6.out).mono ?_
  rintro e w7 ⟨rfl, hb⟩
  have Bw7 : Hid (Below w.heap.size w w7) := Bw6.out.trans (hb.mono Bw6.out.size)
  have k0w7 : Hid (Blk w7 w.heap.size 25 #[.slice ao M acap, .slice co nc ccap]) := k0w6.out.below hb
  have k5w7 : Hid (Blk w7 G5 28 #[.int .i64 D1.u, .int .i64 D1.a, .int .i64 D1.b, .int .i64 D1.c]) := k5w6.out.below hb
  have k7w7 : Hid (Blk w7 G7 28 #[.int .i64 D1.u, .int .i64 D1.a, .int .i64 D1.b, .int .i64 D1.c]) := k7w6.out.below hb
  clear hb x0 x1
  obtain ⟨w8, hw8⟩ : ∃ x, x = w7.alloc (.cells #[.slice none 0 0, .slice none 0 0] 25) := ⟨_, rfl⟩
  obtain ⟨G10, hG10⟩ : ∃ x, x = w7.heap.size := ⟨_, rfl⟩
  have Bw8 : Hid (Below w.heap.size w w8) := by unfold Hid; rw [hw8]; exact Bw7.out.alloc Bw7.out.size _
  have LG10 : Hid (w.heap.size < G10) := by unfold Hid; rw [hG10]; exact Nat.lt_of_lt_of_le (k0w7.out.lt) (Nat.le_refl _)
  have k0w8 : Hid (Blk w8 w.heap.size 25 #[.slice ao M acap, .slice co nc ccap]) := by unfold Hid; rw [hw8]; exact k0w7.out.old _
  have k5w8 : Hid (Blk w8 G5 28 #[.int .i64 D1.u, .int .i64 D1.a, .int .i64 D1.b, .int .i64 D1.c]) := by unfold Hid; rw [hw8]; exact k5w7.out.old _
  have NG10G5 : Hid (G5 ≠ G10) := by have := k5w7.out.lt; unfold Hid; rw [hG10]; omega
  have k7w8 : Hid (Blk w8 G7 28 #[.int .i64 D1.u, .int .i64 D1.a, .int .i64 D1.b, .int .i64 D1.c]) := by unfold Hid; rw [hw8]; exact k7w7.out.old _
  have NG10G7 : Hid (G7 ≠ G10) := by have := k7w7.out.lt; unfold Hid; rw [hG10]; omega
  have k10w8 : Hid (Blk w8 G10 25 #[.slice none 0 0, .slice none 0 0]) := by unfold Hid; rw [hw8, hG10]; exact Blk.new _ _ _
  go_upto_region 5 with fail
  rw [← hw8, ← hG10]
  clear hw8 hG10
  have y0 : w8.cell? ⟨G5, 0, none⟩ = some (.int .i64 D1.u) := k5w8.out.cell 0
  have y1 : w8.cell? ⟨G5, 1, none⟩ = some (.int .i64 D1.a) := k5w8.out.cell 1
  have y2 : w8.cell? ⟨G5, 2, none⟩ = some (.int .i64 D1.b) := k5w8.out.cell 2
  have y3 : w8.cell? ⟨G5, 3, none⟩ = some (.int .i64 D1.c) := k5w8.out.cell 3
  obtain ⟨f0, f1, f2, f3⟩ := k5w8.out.frozen4
  obtain ⟨w9, hw9⟩ : ∃ x, x = putW w8 G5 ⟨0, 0, 0, 0⟩ := ⟨_, rfl⟩
  have Bw9 : Hid (Below w.heap.size w w9) := by unfold Hid; rw [hw9]; exact putW_below Bw8.out (Nat.le_of_lt LG5.out) _
  have k0w9 : Hid (Blk w9 w.heap.size 25 #[.slice ao M acap, .slice co nc ccap]) := by unfold Hid; rw [hw9]; exact putW_far k0w8.out (Nat.ne_of_lt LG5.out) _
  have k5w9 : Hid (Blk w9 G5 28 #[.int .i64 0, .int .i64 0, .int .i64 0, .int .i64 0]) := by unfold Hid; rw [hw9]; exact putW_blk (N := D1) k5w8.out ⟨0, 0, 0, 0⟩
  have k7w9 : Hid (Blk w9 G7 28 #[.int .i64 D1.u, .int .i64 D1.a, .int .i64 D1.b, .int .i64 D1.c]) := by unfold Hid; rw [hw9]; exact putW_far k7w8.out NG7G5.out.symm _
  have k10w9 : Hid (Blk w9 G10 25 #[.slice none 0 0, .slice none 0 0]) := by unfold Hid; rw [hw9]; exact putW_far k10w8.out NG10G5.out.symm _
  unfold putW at hw9
  simp only at hw9
  go_upto_region 8 with fail
  rw [← hw9]
  clear hw9 y0 y1 y2 y3 f0 f1 f2 f3
  have x0 : w9.cell? ⟨w.heap.size, 0, none⟩ = some (.slice ao M acap) := k0w9.out.cell 0
  have x1 : w9.cell? ⟨w.heap.size, 1, none⟩ = some (.slice co nc ccap) := k0w9.out.cell 1
  go_wp2_with fail
  go_at_call 11
  refine (H5.out _ Bw9.out).mono ?_
  rintro e w10 ⟨rfl, hb⟩
  have Bw10 : Hid (Below w.heap.size w w10) := Bw9.out.trans (hb.mono Bw9.out.size)
  have k0w10 : Hid (Blk w10 w.heap.size 25 #[.slice ao M acap, .slice co nc ccap]) := k0w9.out.below hb
  have k5w10 : Hid (Blk w10 G5 28 #[.int .i64 0, .int .i64 0, .int .i64 0, .int .i64 0]) := k5w9.out.below hb
  have k7w10 : Hid (Blk w10 G7 28 #[.int .i64 D1.u, .int .i64 D1.a, .int .i64 D1.b, .int .i64 D1.c]) := k7w9.out.below hb
  have k10w10 : Hid (Blk w10 G10 25 #[.slice none 0 0, .slice none 0 0]) := k10w9.out.below hb
  clear hb x0 x1
  obtain ⟨w11, hw11⟩ : ∃ x, x = w10.alloc (.cells #[.int .i64 0, .int .i64 0, .int .i64 0, .int .i64 0] 28) := ⟨_, rfl⟩
  obtain ⟨G11, hG11⟩ : ∃ x, x = w10.heap.size := ⟨_, rfl⟩
  have Bw11 : Hid (Below w.heap.size w w11) := by unfold Hid; rw [hw11]; exact Bw10.out.alloc Bw10.out.size _
  have LG11 : Hid (w.heap.size < G11) := by unfold Hid; rw [hG11]; exact Nat.lt_of_lt_of_le (k0w10.out.lt) (Nat.le_refl _)
  have k0w11 : Hid (Blk w11 w.heap.size 25 #[.slice ao M acap, .slice co nc ccap]) := by unfold Hid; rw [hw11]; exact k0w10.out.old _
  have k5w11 : Hid (Blk w11 G5 28 #[.int .i64 0, .int .i64 0, .int .i64 0, .int .i64 0]) := by unfold Hid; rw [hw11]; exact k5w10.out.old _
  have NG11G5 : Hid (G5 ≠ G11) := by have := k5w10.out.lt; unfold Hid; rw [hG11]; omega
  have k7w11 : Hid (Blk w11 G7 28 #[.int .i64 D1.u, .int .i64 D1.a, .int .i64 D1.b, .int .i64 D1.c]) := by unfold Hid; rw [hw11]; exact k7w10.out.old _
  have NG11G7 : Hid (G7 ≠ G11) := by have := k7w10.out.lt; unfold Hid; rw [hG11]; omega
  have k10w11 : Hid (Blk w11 G10 25 #[.slice none 0 0, .slice none 0 0]) := by unfold Hid; rw [hw11]; exact k10w10.out.old _
  have NG11G10 : Hid (G10 ≠ G11) := by have := k10w10.out.lt; unfold Hid; rw [hG11]; omega
  have k11w11 : Hid (Blk w11 G11 28 #[.int .i64 0, .int .i64 0, .int .i64 0, .int .i64 0]) := by unfold Hid; rw [hw11, hG11]; exact Blk.new _ _ _
  go_upto_region 9 with fail
  rw [← hw11, ← hG11]
  clear hw11 hG11
  go_wp2_with fail
  go_at_call 9
  refine (HE2.out _ Bw11.out).mono ?_
  rintro e w12 ⟨rfl, hb⟩
  have Bw12 : Hid (Below w.heap.size w w12) := Bw11.out.trans (hb.mono Bw11.out.size)
  have k0w12 : Hid (Blk w12 w.heap.size 25 #[.slice ao M acap, .slice co nc ccap]) := k0w11.out.below hb
  have k5w12 : Hid (Blk w12 G5 28 #[.int .i64 0, .int .i64 0, .int .i64 0, .int .i64 0]) := k5w11.out.below hb
  have k7w12 : Hid (Blk w12 G7 28 #[.int .i64 D1.u, .int .i64 D1.a, .int .i64 D1.b, .int .i64 D1.c]) := k7w11.out.below hb
  have k10w12 : Hid (Blk w12 G10 25 #[.slice none 0 0, .slice none 0 0]) := k10w11.out.below hb
  have k11w12 : Hid (Blk w12 G11 28 #[.int .i64 0, .int .i64 0, .int .i64 0, .int .i64 0]) := k11w11.out.below hb
  clear hb 
  have y0 : w12.cell? ⟨G5, 0, none⟩ = some (.int .i64 0) := k5w12.out.cell 0
  have y1 : w12.cell? ⟨G5, 1, none⟩ = some (.int .i64 0) := k5w12.out.cell 1
  have y2 : w12.cell? ⟨G5, 2, none⟩ = some (.int .i64 0) := k5w12.out.cell 2
  have y3 : w12.cell? ⟨G5, 3, none⟩ = some (.int .i64 0) := k5w12.out.cell 3
  have z0 : w12.cell? ⟨G11, 0, none⟩ = some (.int .i64 0) := k11w12.out.cell 0
  have z1 : w12.cell? ⟨G11, 1, none⟩ = some (.int .i64 0) := k11w12.out.cell 1
  have z2 : w12.cell? ⟨G11, 2, none⟩ = some (.int .i64 0) := k11w12.out.cell 2
  have z3 : w12.cell? ⟨G11, 3, none⟩ = some (.int .i64 0) := k11w12.out.cell 3
  have hq := sameW 0 0 0 0
  go_upto_region 10 with fail
  clear y0 y1 y2 y3 z0 z1 z2 z3 hq
  have x0 : w12.cell? ⟨w.heap.size, 0, none⟩ = some (.slice ao M acap) := k0w12.out.cell 0
  have x1 : w12.cell? ⟨w.heap.size, 1, none⟩ = some (.slice co nc ccap) := k0w12.out.cell 1
  go_wp2_with fail
  go_at_call 12
  refine (H6.out _ Bw12.out).mono ?_
  rintro e w13 ⟨rfl, hb⟩
  have Bw13 : Hid (Below w.heap.size w w13) := Bw12.out.trans (hb.mono Bw12.out.size)
  have k0w13 : Hid (Blk w13 w.heap.size 25 #[.slice ao M acap, .slice co nc ccap]) := k0w12.out.below hb
  have k5w13 : Hid (Blk w13 G5 28 #[.int .i64 0, .int .i64 0, .int .i64 0, .int .i64 0]) := k5w12.out.below hb
  have k7w13 : Hid (Blk w13 G7 28 #[.int .i64 D1.u, .int .i64 D1.a, .int .i64 D1.b, .int .i64 D1.c]) := k7w12.out.below hb
  have k10w13 : Hid (Blk w13 G10 25 #[.slice none 0 0, .slice none 0 0]) := k10w12.out.below hb
  have k11w13 : Hid (Blk w13 G11 28 #[.int .i64 0, .int .i64 0, .int .i64 0, .int .i64 0]) := k11w12.out.below hb
  clear hb x0 x1
  have x0 : w13.cell? ⟨w.heap.size, 0, none⟩ = some (.slice ao M acap) := k0w13.out.cell 0
  have x1 : w13.cell? ⟨w.heap.size, 1, none⟩ = some (.slice co nc ccap) := k0w13.out.cell 1
  go_wp2_with fail
  go_at_call 13
  refine (H7.out _ Bw13.out).mono ?_
  rintro e w14 ⟨rfl, hb⟩
  have Bw14 : Hid (Below w.heap.size w w14) := Bw13.out.trans (hb.mono Bw13.out.size)
  have k0w14 : Hid (Blk w14 w.heap.size 25 #[.slice ao M acap, .slice co nc ccap]) := k0w13.out.below hb
  have k5w14 : Hid (Blk w14 G5 28 #[.int .i64 0, .int .i64 0, .int .i64 0, .int .i64 0]) := k5w13.out.below hb
  have k7w14 : Hid (Blk w14 G7 28 #[.int .i64 D1.u, .int .i64 D1.a, .int .i64 D1.b, .int .i64 D1.c]) := k7w13.out.below hb
  have k10w14 : Hid (Blk w14 G10 25 #[.slice none 0 0, .slice none 0 0]) := k10w13.out.below hb
  have k11w14 : Hid (Blk w14 G11 28 #[.int .i64 0, .int .i64 0, .int .i64 0, .int .i64 0]) := k11w13.out.below hb
  clear hb x0 x1
  go_wp2_with fail
  go_at_call 9
  refine (HE3.out _ Bw14.out).mono ?_
  rintro e w15 ⟨rfl, hb⟩
  have Bw15 : Hid (Below w.heap.size w w15) := Bw14.out.trans (hb.mono Bw14.out.size)
  have k0w15 : Hid (Blk w15 w.heap.size 25 #[.slice ao M acap, .slice co nc ccap]) := k0w14.out.below hb
  have k5w15 : Hid (Blk w15 G5 28 #[.int .i64 0, .int .i64 0, .int .i64 0, .int .i64 0]) := k5w14.out.below hb
  have k7w15 : Hid (Blk w15 G7 28 #[.int .i64 D1.u, .int .i64 D1.a, .int .i64 D1.b, .int .i64 D1.c]) := k7w14.out.below hb
  have k10w15 : Hid (Blk w15 G10 25 #[.slice none 0 0, .slice none 0 0]) := k10w14.out.below hb
  have k11w15 : Hid (Blk w15 G11 28 #[.int .i64 0, .int .i64 0, .int .i64 0, .int .i64 0]) := k11w14.out.below hb
  clear hb 
  go_wp2
  go_ret
  exact ⟨rfl, Bw15.out⟩

end Go.Proofs.YtedgbohobgnedaeGreatDoor
