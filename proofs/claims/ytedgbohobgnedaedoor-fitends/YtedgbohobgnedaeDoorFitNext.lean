/-
  Proved: what fit.Next returns, of any number of things and any counts; what was in memory is as it was (a contract that the statements lean on).
-/
import Derived.Test.YtedgbohobgnedaeDoorFitSeq
import Derived.Test.YtedgbohobgnedaeDoorFieldsWorld
namespace Go.Proofs.YtedgbohobgnedaeDoor
open Go.ChangeShapes Go.WideShapes Go.ChangeAt Go.RowKit
set_option maxRecDepth 100000

set_option maxHeartbeats 4000000 in
theorem next_range (u : Int) (N : Nat → Int) (w : World) (hu : ¬ (0 ≤ u ∧ u ≤ 6)) :
    Calls Tryd.prog 5 #[.int .i64 u, .agg #[.int .i64 (N 0), .int .i64 (N 1), .int .i64 (N 2), .int .i64 (N 3), .int .i64 (N 4), .int .i64 (N 5), .int .i64 (N 6), .int .i64 (N 7)]] w fun e w' => e = .returned (.tuple #[.agg (arr8 zeroC), .iface 37 (.int .i64 1)]) ∧ Below w.heap.size w w' := by
  obtain ⟨Z, hZ⟩ : ∃ Z : Nat → Int, Z = zeroC := ⟨_, rfl⟩
  have HCk : Hid (∀ W, Calls Tryd.prog 7 #[.int .i64 u] W fun e w' => e = .returned (.iface 37 (.int .i64 1)) ∧ W = w') := fun W => fitCheck_no u hu W
  clear hu
  obtain ⟨w1, hw1⟩ : ∃ w1, w1 = (w.alloc (.cells #[.int .i64 (N 0), .int .i64 (N 1), .int .i64 (N 2), .int .i64 (N 3), .int .i64 (N 4), .int .i64 (N 5), .int .i64 (N 6), .int .i64 (N 7)] 22)).alloc (.cells #[.int .i64 0, .int .i64 0, .int .i64 0, .int .i64 0, .int .i64 0, .int .i64 0, .int .i64 0, .int .i64 0] 22) := ⟨_, rfl⟩
  have HW : Hid (Below w.heap.size w w1) := by unfold Hid; rw [hw1]; exact (below_alloc1 _ _).alloc (by simp) _
  have HK0 : Hid (Blk w1 w.heap.size 22 (arr8 N)) := by unfold Hid; rw [hw1]; exact (Blk.new _ _ _).old _
  have HK1 : Hid (Blk w1 (w.heap.size + 1) 22 (arr8 Z)) := by
    unfold Hid; rw [hw1, hZ]
    have := Blk.new (w.alloc (.cells (arr8 N) 22)) 22 (arr8 zeroC)
    simp only [World.size_alloc] at this
    exact this
  clear hZ
  go_enter Tryd.func5, Tryd.ntmps5
  go_wp2_with fail
  rw [← hw1]
  clear hw1
  go_at_call 7
  refine (HCk.out _).mono ?_
  rintro e w2 ⟨rfl, rfl⟩
  obtain ⟨r0, r1, r2, r3, r4, r5, r6, r7⟩ := HK1.out.cells8
  obtain ⟨f0, f1, f2, f3, f4, f5, f6, f7⟩ := HK1.out.frozen8
  go_wp2
  have hld := load8 (put8_blk HK1.out zeroC)
  refine bodyPost_ret (v := .tuple #[.agg (arr8 zeroC), .iface 37 (.int .i64 1)]) ?_ rfl ⟨rfl, ?_⟩
  · rw [results_cell_tmp rfl]
    unfold put8 at hld
    simp [asAddr, Result.andThen, hld, zeroC] at hld ⊢
  · exact put8_below HW.out (by omega) zeroC

set_option maxHeartbeats 4000000 in
theorem next_wrong (n : Nat) (N : Nat → Int) (w : World) (hn : n ≤ 6) (hf : ¬ countsFault N = 0) :
    Calls Tryd.prog 5 #[.int .i64 n, .agg #[.int .i64 (N 0), .int .i64 (N 1), .int .i64 (N 2), .int .i64 (N 3), .int .i64 (N 4), .int .i64 (N 5), .int .i64 (N 6), .int .i64 (N 7)]] w fun e w' => e = .returned (.tuple #[.agg (arr8 zeroC), .iface 37 (.int .i64 (countsFault N))]) ∧ Below w.heap.size w w' := by
  obtain ⟨Z, hZ⟩ : ∃ Z : Nat → Int, Z = zeroC := ⟨_, rfl⟩
  have HCk : Hid (∀ W, Calls Tryd.prog 7 #[.int .i64 n] W fun e w' => e = .returned .nilIface ∧ W = w') := fun W => fitCheck_ok n hn W
  obtain ⟨F, hF⟩ : ∃ F, F = countsFault N := ⟨_, rfl⟩
  have HC : Hid (∀ W, Calls Tryd.prog 10 #[.agg #[.int .i64 (N 0), .int .i64 (N 1), .int .i64 (N 2), .int .i64 (N 3), .int .i64 (N 4), .int .i64 (N 5), .int .i64 (N 6), .int .i64 (N 7)]] W fun e w' => e = .returned (.tuple #[.agg #[.int .i64 0, .int .i64 0, .int .i64 0, .int .i64 0], .iface 37 (.int .i64 F)]) ∧ Below W.heap.size W w') := fun W => by rw [hF]; exact fworld_wrong N W hf
  rw [← hF]
  clear hF hf hn
  obtain ⟨w1, hw1⟩ : ∃ w1, w1 = (w.alloc (.cells #[.int .i64 (N 0), .int .i64 (N 1), .int .i64 (N 2), .int .i64 (N 3), .int .i64 (N 4), .int .i64 (N 5), .int .i64 (N 6), .int .i64 (N 7)] 22)).alloc (.cells #[.int .i64 0, .int .i64 0, .int .i64 0, .int .i64 0, .int .i64 0, .int .i64 0, .int .i64 0, .int .i64 0] 22) := ⟨_, rfl⟩
  have HW : Hid (Below w.heap.size w w1) := by unfold Hid; rw [hw1]; exact (below_alloc1 _ _).alloc (by simp) _
  have HK0 : Hid (Blk w1 w.heap.size 22 (arr8 N)) := by unfold Hid; rw [hw1]; exact (Blk.new _ _ _).old _
  have HK1 : Hid (Blk w1 (w.heap.size + 1) 22 (arr8 Z)) := by
    unfold Hid; rw [hw1, hZ]
    have := Blk.new (w.alloc (.cells (arr8 N) 22)) 22 (arr8 zeroC)
    simp only [World.size_alloc] at this
    exact this
  clear hZ
  go_enter Tryd.func5, Tryd.ntmps5
  go_wp2_with fail
  rw [← hw1]
  clear hw1
  go_at_call 7
  refine (HCk.out _).mono ?_
  rintro e w2 ⟨rfl, rfl⟩
  obtain ⟨x0, x1, x2, x3, x4, x5, x6, x7⟩ := HK0.out.cells8
  go_wp2_with fail
  go_at_call 10
  refine (HC.out _).mono ?_
  rintro e w3 ⟨rfl, hb⟩
  have HB3 : Hid (Below w.heap.size w w3) := HW.out.trans (hb.mono HW.out.size)
  have HN3 : Hid (Blk w3 w.heap.size 22 (arr8 N)) := HK0.out.below hb
  have HR3 : Hid (Blk w3 (w.heap.size + 1) 22 (arr8 Z)) := HK1.out.below hb
  clear hb x0 x1 x2 x3 x4 x5 x6 x7
  obtain ⟨w4, hw4⟩ : ∃ x, x = w3.alloc (.cells #[.int .i64 0, .int .i64 0, .int .i64 0, .int .i64 0] 40) := ⟨_, rfl⟩
  obtain ⟨G, hG⟩ : ∃ G, G = w3.heap.size := ⟨_, rfl⟩
  have HB4 : Hid (Below w.heap.size w w4) := by unfold Hid; rw [hw4]; exact HB3.out.alloc HB3.out.size _
  have HN4 : Hid (Blk w4 w.heap.size 22 (arr8 N)) := by unfold Hid; rw [hw4]; exact HN3.out.old _
  have HR4 : Hid (Blk w4 (w.heap.size + 1) 22 (arr8 Z)) := by unfold Hid; rw [hw4]; exact HR3.out.old _
  have HG4 : Hid (Blk w4 G 40 #[.int .i64 0, .int .i64 0, .int .i64 0, .int .i64 0]) := by unfold Hid; rw [hw4, hG]; exact Blk.new _ _ _
  go_upto_region 5 with fail
  rw [← hw4, ← hG]
  clear hw4 hG
  obtain ⟨r0, r1, r2, r3, r4, r5, r6, r7⟩ := HR4.out.cells8
  obtain ⟨f0, f1, f2, f3, f4, f5, f6, f7⟩ := HR4.out.frozen8
  go_wp2
  have hld := load8 (put8_blk HR4.out zeroC)
  refine bodyPost_ret (v := .tuple #[.agg (arr8 zeroC), .iface 37 (.int .i64 F)]) ?_ rfl ⟨rfl, ?_⟩
  · rw [results_cell_tmp rfl]
    unfold put8 at hld
    simp [asAddr, Result.andThen, hld, zeroC] at hld ⊢
  · exact put8_below HB4.out (by omega) zeroC

set_option maxHeartbeats 4000000 in
theorem next_shape (n : Nat) (N : Nat → Int) (w : World) (hn : n ≤ 6) (hf : countsFault N = 0) (hs : ¬ sumN N 8 = n) :
    Calls Tryd.prog 5 #[.int .i64 n, .agg #[.int .i64 (N 0), .int .i64 (N 1), .int .i64 (N 2), .int .i64 (N 3), .int .i64 (N 4), .int .i64 (N 5), .int .i64 (N 6), .int .i64 (N 7)]] w fun e w' => e = .returned (.tuple #[.agg (arr8 zeroC), .iface 37 (.int .i64 3)]) ∧ Below w.heap.size w w' := by
  obtain ⟨Z, hZ⟩ : ∃ Z : Nat → Int, Z = zeroC := ⟨_, rfl⟩
  have HCk : Hid (∀ W, Calls Tryd.prog 7 #[.int .i64 n] W fun e w' => e = .returned .nilIface ∧ W = w') := fun W => fitCheck_ok n hn W
  obtain ⟨mu, hmu⟩ : ∃ x, x = sumN N 8 := ⟨_, rfl⟩
  obtain ⟨ma, hma⟩ : ∃ x, x = (madeN N 8).a := ⟨_, rfl⟩
  obtain ⟨mb, hmb⟩ : ∃ x, x = (madeN N 8).b := ⟨_, rfl⟩
  obtain ⟨mc, hmc⟩ : ∃ x, x = (madeN N 8).c := ⟨_, rfl⟩
  have HC : Hid (∀ W, Calls Tryd.prog 10 #[.agg #[.int .i64 (N 0), .int .i64 (N 1), .int .i64 (N 2), .int .i64 (N 3), .int .i64 (N 4), .int .i64 (N 5), .int .i64 (N 6), .int .i64 (N 7)]] W fun e w' => e = .returned (.tuple #[.agg #[.int .i64 mu, .int .i64 ma, .int .i64 mb, .int .i64 mc], .nilIface]) ∧ Below W.heap.size W w') := fun W => by
    have hu8 : (madeN N 8).u = sumN N 8 := (made_all (counts_zero.1 hf).1 (counts_zero.1 hf).2 (k := 8) (Nat.le_refl _)).2.1
    rw [hma, hmb, hmc, hmu, ← hu8]; exact fworld_right N W hf
  have hne : ¬ mu = n := by rw [hmu]; exact hs
  clear hmu hma hmb hmc hf hn hs
  obtain ⟨w1, hw1⟩ : ∃ w1, w1 = (w.alloc (.cells #[.int .i64 (N 0), .int .i64 (N 1), .int .i64 (N 2), .int .i64 (N 3), .int .i64 (N 4), .int .i64 (N 5), .int .i64 (N 6), .int .i64 (N 7)] 22)).alloc (.cells #[.int .i64 0, .int .i64 0, .int .i64 0, .int .i64 0, .int .i64 0, .int .i64 0, .int .i64 0, .int .i64 0] 22) := ⟨_, rfl⟩
  have HW : Hid (Below w.heap.size w w1) := by unfold Hid; rw [hw1]; exact (below_alloc1 _ _).alloc (by simp) _
  have HK0 : Hid (Blk w1 w.heap.size 22 (arr8 N)) := by unfold Hid; rw [hw1]; exact (Blk.new _ _ _).old _
  have HK1 : Hid (Blk w1 (w.heap.size + 1) 22 (arr8 Z)) := by
    unfold Hid; rw [hw1, hZ]
    have := Blk.new (w.alloc (.cells (arr8 N) 22)) 22 (arr8 zeroC)
    simp only [World.size_alloc] at this
    exact this
  clear hZ
  go_enter Tryd.func5, Tryd.ntmps5
  go_wp2_with fail
  rw [← hw1]
  clear hw1
  go_at_call 7
  refine (HCk.out _).mono ?_
  rintro e w2 ⟨rfl, rfl⟩
  obtain ⟨x0, x1, x2, x3, x4, x5, x6, x7⟩ := HK0.out.cells8
  go_wp2_with fail
  go_at_call 10
  refine (HC.out _).mono ?_
  rintro e w3 ⟨rfl, hb⟩
  have HB3 : Hid (Below w.heap.size w w3) := HW.out.trans (hb.mono HW.out.size)
  have HN3 : Hid (Blk w3 w.heap.size 22 (arr8 N)) := HK0.out.below hb
  have HR3 : Hid (Blk w3 (w.heap.size + 1) 22 (arr8 Z)) := HK1.out.below hb
  clear hb x0 x1 x2 x3 x4 x5 x6 x7
  obtain ⟨w4, hw4⟩ : ∃ x, x = w3.alloc (.cells #[.int .i64 mu, .int .i64 ma, .int .i64 mb, .int .i64 mc] 40) := ⟨_, rfl⟩
  obtain ⟨G, hG⟩ : ∃ G, G = w3.heap.size := ⟨_, rfl⟩
  have HB4 : Hid (Below w.heap.size w w4) := by unfold Hid; rw [hw4]; exact HB3.out.alloc HB3.out.size _
  have HN4 : Hid (Blk w4 w.heap.size 22 (arr8 N)) := by unfold Hid; rw [hw4]; exact HN3.out.old _
  have HR4 : Hid (Blk w4 (w.heap.size + 1) 22 (arr8 Z)) := by unfold Hid; rw [hw4]; exact HR3.out.old _
  have HG4 : Hid (Blk w4 G 40 #[.int .i64 mu, .int .i64 ma, .int .i64 mb, .int .i64 mc]) := by unfold Hid; rw [hw4, hG]; exact Blk.new _ _ _
  go_upto_region 5 with fail
  rw [← hw4, ← hG]
  clear hw4 hG
  have g0 : w4.cell? ⟨G, 0, none⟩ = some (.int .i64 mu) := HG4.out.cell 0
  obtain ⟨r0, r1, r2, r3, r4, r5, r6, r7⟩ := HR4.out.cells8
  obtain ⟨f0, f1, f2, f3, f4, f5, f6, f7⟩ := HR4.out.frozen8
  go_wp2
  have hld := load8 (put8_blk HR4.out zeroC)
  refine bodyPost_ret (v := .tuple #[.agg (arr8 zeroC), .iface 37 (.int .i64 3)]) ?_ rfl ⟨rfl, ?_⟩
  · rw [results_cell_tmp rfl]
    unfold put8 at hld
    simp [asAddr, Result.andThen, hld, zeroC] at hld ⊢
  · exact put8_below HB4.out (by omega) zeroC

set_option maxHeartbeats 4000000 in
theorem next_none (n : Nat) (N : Nat → Int) (w : World) (hn : n ≤ 6) (hf : countsFault N = 0) (hs : sumN N 8 = n) (hl : lastTo N 8 = 0) :
    Calls Tryd.prog 5 #[.int .i64 n, .agg #[.int .i64 (N 0), .int .i64 (N 1), .int .i64 (N 2), .int .i64 (N 3), .int .i64 (N 4), .int .i64 (N 5), .int .i64 (N 6), .int .i64 (N 7)]] w fun e w' => e = .returned (.tuple #[.agg (arr8 zeroC), .iface 37 (.int .i64 5)]) ∧ Below w.heap.size w w' := by
  obtain ⟨Z, hZ⟩ : ∃ Z : Nat → Int, Z = zeroC := ⟨_, rfl⟩
  have HCk : Hid (∀ W, Calls Tryd.prog 7 #[.int .i64 n] W fun e w' => e = .returned .nilIface ∧ W = w') := fun W => fitCheck_ok n hn W
  obtain ⟨mu, hmu⟩ : ∃ x, x = sumN N 8 := ⟨_, rfl⟩
  obtain ⟨ma, hma⟩ : ∃ x, x = (madeN N 8).a := ⟨_, rfl⟩
  obtain ⟨mb, hmb⟩ : ∃ x, x = (madeN N 8).b := ⟨_, rfl⟩
  obtain ⟨mc, hmc⟩ : ∃ x, x = (madeN N 8).c := ⟨_, rfl⟩
  have HC : Hid (∀ W, Calls Tryd.prog 10 #[.agg #[.int .i64 (N 0), .int .i64 (N 1), .int .i64 (N 2), .int .i64 (N 3), .int .i64 (N 4), .int .i64 (N 5), .int .i64 (N 6), .int .i64 (N 7)]] W fun e w' => e = .returned (.tuple #[.agg #[.int .i64 mu, .int .i64 ma, .int .i64 mb, .int .i64 mc], .nilIface]) ∧ Below W.heap.size W w') := fun W => by
    have hu8 : (madeN N 8).u = sumN N 8 := (made_all (counts_zero.1 hf).1 (counts_zero.1 hf).2 (k := 8) (Nat.le_refl _)).2.1
    rw [hma, hmb, hmc, hmu, ← hu8]; exact fworld_right N W hf
  obtain ⟨M, hM⟩ : ∃ M, M = afterO N := ⟨_, rfl⟩
  have HAf : Hid (∀ W, Calls Tryd.prog 11 #[.agg #[.int .i64 (N 0), .int .i64 (N 1), .int .i64 (N 2), .int .i64 (N 3), .int .i64 (N 4), .int .i64 (N 5), .int .i64 (N 6), .int .i64 (N 7)]] W fun e w' => e = .returned (.tuple #[.agg #[.int .i64 (M 0), .int .i64 (M 1), .int .i64 (M 2), .int .i64 (M 3), .int .i64 (M 4), .int .i64 (M 5), .int .i64 (M 6), .int .i64 (M 7)], .bool false]) ∧ Below W.heap.size W w') := fun W => by
    have h := after_any N W (counts_zero.1 hf).1
    rw [show (!(lastTo N 8 == 0)) = false by simp [hl], ← hM] at h
    exact h
  have hne : mu = n := by rw [hmu]; exact hs
  rw [hne] at HC
  clear hmu hma hmb hmc hf hn hs hl hne hM mu
  obtain ⟨w1, hw1⟩ : ∃ w1, w1 = (w.alloc (.cells #[.int .i64 (N 0), .int .i64 (N 1), .int .i64 (N 2), .int .i64 (N 3), .int .i64 (N 4), .int .i64 (N 5), .int .i64 (N 6), .int .i64 (N 7)] 22)).alloc (.cells #[.int .i64 0, .int .i64 0, .int .i64 0, .int .i64 0, .int .i64 0, .int .i64 0, .int .i64 0, .int .i64 0] 22) := ⟨_, rfl⟩
  have HW : Hid (Below w.heap.size w w1) := by unfold Hid; rw [hw1]; exact (below_alloc1 _ _).alloc (by simp) _
  have HK0 : Hid (Blk w1 w.heap.size 22 (arr8 N)) := by unfold Hid; rw [hw1]; exact (Blk.new _ _ _).old _
  have HK1 : Hid (Blk w1 (w.heap.size + 1) 22 (arr8 Z)) := by
    unfold Hid; rw [hw1, hZ]
    have := Blk.new (w.alloc (.cells (arr8 N) 22)) 22 (arr8 zeroC)
    simp only [World.size_alloc] at this
    exact this
  clear hZ
  go_enter Tryd.func5, Tryd.ntmps5
  go_wp2_with fail
  rw [← hw1]
  clear hw1
  go_at_call 7
  refine (HCk.out _).mono ?_
  rintro e w2 ⟨rfl, rfl⟩
  obtain ⟨x0, x1, x2, x3, x4, x5, x6, x7⟩ := HK0.out.cells8
  go_wp2_with fail
  go_at_call 10
  refine (HC.out _).mono ?_
  rintro e w3 ⟨rfl, hb⟩
  have HB3 : Hid (Below w.heap.size w w3) := HW.out.trans (hb.mono HW.out.size)
  have HN3 : Hid (Blk w3 w.heap.size 22 (arr8 N)) := HK0.out.below hb
  have HR3 : Hid (Blk w3 (w.heap.size + 1) 22 (arr8 Z)) := HK1.out.below hb
  clear hb x0 x1 x2 x3 x4 x5 x6 x7
  obtain ⟨w4, hw4⟩ : ∃ x, x = w3.alloc (.cells #[.int .i64 n, .int .i64 ma, .int .i64 mb, .int .i64 mc] 40) := ⟨_, rfl⟩
  obtain ⟨G, hG⟩ : ∃ G, G = w3.heap.size := ⟨_, rfl⟩
  have HB4 : Hid (Below w.heap.size w w4) := by unfold Hid; rw [hw4]; exact HB3.out.alloc HB3.out.size _
  have HN4 : Hid (Blk w4 w.heap.size 22 (arr8 N)) := by unfold Hid; rw [hw4]; exact HN3.out.old _
  have HR4 : Hid (Blk w4 (w.heap.size + 1) 22 (arr8 Z)) := by unfold Hid; rw [hw4]; exact HR3.out.old _
  have HG4 : Hid (Blk w4 G 40 #[.int .i64 n, .int .i64 ma, .int .i64 mb, .int .i64 mc]) := by unfold Hid; rw [hw4, hG]; exact Blk.new _ _ _
  go_upto_region 5 with fail
  rw [← hw4, ← hG]
  clear hw4 hG
  have g0 : w4.cell? ⟨G, 0, none⟩ = some (.int .i64 n) := HG4.out.cell 0
  obtain ⟨x0, x1, x2, x3, x4, x5, x6, x7⟩ := HN4.out.cells8
  go_wp2_with fail
  go_at_call 11
  refine (HAf.out _).mono ?_
  rintro e w5 ⟨rfl, hb⟩
  have HB5 : Hid (Below w.heap.size w w5) := HB4.out.trans (hb.mono HB4.out.size)
  have HR5 : Hid (Blk w5 (w.heap.size + 1) 22 (arr8 Z)) := HR4.out.below hb
  clear hb g0 x0 x1 x2 x3 x4 x5 x6 x7
  obtain ⟨w6, hw6⟩ : ∃ x, x = w5.alloc (.cells #[.int .i64 (M 0), .int .i64 (M 1), .int .i64 (M 2), .int .i64 (M 3), .int .i64 (M 4), .int .i64 (M 5), .int .i64 (M 6), .int .i64 (M 7)] 22) := ⟨_, rfl⟩
  obtain ⟨G2, hG2⟩ : ∃ G, G = w5.heap.size := ⟨_, rfl⟩
  have HB6 : Hid (Below w.heap.size w w6) := by unfold Hid; rw [hw6]; exact HB5.out.alloc HB5.out.size _
  have HR6 : Hid (Blk w6 (w.heap.size + 1) 22 (arr8 Z)) := by unfold Hid; rw [hw6]; exact HR5.out.old _
  have HG6 : Hid (Blk w6 G2 22 (arr8 M)) := by unfold Hid; rw [hw6, hG2]; exact Blk.new _ _ _
  go_upto_region 10 with fail
  rw [← hw6, ← hG2]
  clear hw6 hG2
  obtain ⟨r0, r1, r2, r3, r4, r5, r6, r7⟩ := HR6.out.cells8
  obtain ⟨f0, f1, f2, f3, f4, f5, f6, f7⟩ := HR6.out.frozen8
  go_wp2
  have hld := load8 (put8_blk HR6.out zeroC)
  refine bodyPost_ret (v := .tuple #[.agg (arr8 zeroC), .iface 37 (.int .i64 5)]) ?_ rfl ⟨rfl, ?_⟩
  · rw [results_cell_tmp rfl]
    unfold put8 at hld
    simp [asAddr, Result.andThen, hld, zeroC] at hld ⊢
  · exact put8_below HB6.out (by omega) zeroC

set_option maxHeartbeats 4000000 in
theorem next_some (n : Nat) (N : Nat → Int) (w : World) (hn : n ≤ 6) (hf : countsFault N = 0) (hs : sumN N 8 = n) (hl : ¬ lastTo N 8 = 0) :
    Calls Tryd.prog 5 #[.int .i64 n, .agg #[.int .i64 (N 0), .int .i64 (N 1), .int .i64 (N 2), .int .i64 (N 3), .int .i64 (N 4), .int .i64 (N 5), .int .i64 (N 6), .int .i64 (N 7)]] w fun e w' => e = .returned (.tuple #[.agg (arr8 (afterO N)), .nilIface]) ∧ Below w.heap.size w w' := by
  obtain ⟨Z, hZ⟩ : ∃ Z : Nat → Int, Z = zeroC := ⟨_, rfl⟩
  have HCk : Hid (∀ W, Calls Tryd.prog 7 #[.int .i64 n] W fun e w' => e = .returned .nilIface ∧ W = w') := fun W => fitCheck_ok n hn W
  obtain ⟨mu, hmu⟩ : ∃ x, x = sumN N 8 := ⟨_, rfl⟩
  obtain ⟨ma, hma⟩ : ∃ x, x = (madeN N 8).a := ⟨_, rfl⟩
  obtain ⟨mb, hmb⟩ : ∃ x, x = (madeN N 8).b := ⟨_, rfl⟩
  obtain ⟨mc, hmc⟩ : ∃ x, x = (madeN N 8).c := ⟨_, rfl⟩
  have HC : Hid (∀ W, Calls Tryd.prog 10 #[.agg #[.int .i64 (N 0), .int .i64 (N 1), .int .i64 (N 2), .int .i64 (N 3), .int .i64 (N 4), .int .i64 (N 5), .int .i64 (N 6), .int .i64 (N 7)]] W fun e w' => e = .returned (.tuple #[.agg #[.int .i64 mu, .int .i64 ma, .int .i64 mb, .int .i64 mc], .nilIface]) ∧ Below W.heap.size W w') := fun W => by
    have hu8 : (madeN N 8).u = sumN N 8 := (made_all (counts_zero.1 hf).1 (counts_zero.1 hf).2 (k := 8) (Nat.le_refl _)).2.1
    rw [hma, hmb, hmc, hmu, ← hu8]; exact fworld_right N W hf
  obtain ⟨M, hM⟩ : ∃ M, M = afterO N := ⟨_, rfl⟩
  have HAf : Hid (∀ W, Calls Tryd.prog 11 #[.agg #[.int .i64 (N 0), .int .i64 (N 1), .int .i64 (N 2), .int .i64 (N 3), .int .i64 (N 4), .int .i64 (N 5), .int .i64 (N 6), .int .i64 (N 7)]] W fun e w' => e = .returned (.tuple #[.agg #[.int .i64 (M 0), .int .i64 (M 1), .int .i64 (M 2), .int .i64 (M 3), .int .i64 (M 4), .int .i64 (M 5), .int .i64 (M 6), .int .i64 (M 7)], .bool true]) ∧ Below W.heap.size W w') := fun W => by
    have h := after_any N W (counts_zero.1 hf).1
    rw [show (!(lastTo N 8 == 0)) = true by simp [hl], ← hM] at h
    exact h
  have hne : mu = n := by rw [hmu]; exact hs
  rw [hne] at HC
  rw [← hM]
  clear hmu hma hmb hmc hf hn hs hl hne hM mu
  obtain ⟨w1, hw1⟩ : ∃ w1, w1 = (w.alloc (.cells #[.int .i64 (N 0), .int .i64 (N 1), .int .i64 (N 2), .int .i64 (N 3), .int .i64 (N 4), .int .i64 (N 5), .int .i64 (N 6), .int .i64 (N 7)] 22)).alloc (.cells #[.int .i64 0, .int .i64 0, .int .i64 0, .int .i64 0, .int .i64 0, .int .i64 0, .int .i64 0, .int .i64 0] 22) := ⟨_, rfl⟩
  have HW : Hid (Below w.heap.size w w1) := by unfold Hid; rw [hw1]; exact (below_alloc1 _ _).alloc (by simp) _
  have HK0 : Hid (Blk w1 w.heap.size 22 (arr8 N)) := by unfold Hid; rw [hw1]; exact (Blk.new _ _ _).old _
  have HK1 : Hid (Blk w1 (w.heap.size + 1) 22 (arr8 Z)) := by
    unfold Hid; rw [hw1, hZ]
    have := Blk.new (w.alloc (.cells (arr8 N) 22)) 22 (arr8 zeroC)
    simp only [World.size_alloc] at this
    exact this
  clear hZ
  go_enter Tryd.func5, Tryd.ntmps5
  go_wp2_with fail
  rw [← hw1]
  clear hw1
  go_at_call 7
  refine (HCk.out _).mono ?_
  rintro e w2 ⟨rfl, rfl⟩
  obtain ⟨x0, x1, x2, x3, x4, x5, x6, x7⟩ := HK0.out.cells8
  go_wp2_with fail
  go_at_call 10
  refine (HC.out _).mono ?_
  rintro e w3 ⟨rfl, hb⟩
  have HB3 : Hid (Below w.heap.size w w3) := HW.out.trans (hb.mono HW.out.size)
  have HN3 : Hid (Blk w3 w.heap.size 22 (arr8 N)) := HK0.out.below hb
  have HR3 : Hid (Blk w3 (w.heap.size + 1) 22 (arr8 Z)) := HK1.out.below hb
  clear hb x0 x1 x2 x3 x4 x5 x6 x7
  obtain ⟨w4, hw4⟩ : ∃ x, x = w3.alloc (.cells #[.int .i64 n, .int .i64 ma, .int .i64 mb, .int .i64 mc] 40) := ⟨_, rfl⟩
  obtain ⟨G, hG⟩ : ∃ G, G = w3.heap.size := ⟨_, rfl⟩
  have HB4 : Hid (Below w.heap.size w w4) := by unfold Hid; rw [hw4]; exact HB3.out.alloc HB3.out.size _
  have HN4 : Hid (Blk w4 w.heap.size 22 (arr8 N)) := by unfold Hid; rw [hw4]; exact HN3.out.old _
  have HR4 : Hid (Blk w4 (w.heap.size + 1) 22 (arr8 Z)) := by unfold Hid; rw [hw4]; exact HR3.out.old _
  have HG4 : Hid (Blk w4 G 40 #[.int .i64 n, .int .i64 ma, .int .i64 mb, .int .i64 mc]) := by unfold Hid; rw [hw4, hG]; exact Blk.new _ _ _
  go_upto_region 5 with fail
  rw [← hw4, ← hG]
  clear hw4 hG
  have g0 : w4.cell? ⟨G, 0, none⟩ = some (.int .i64 n) := HG4.out.cell 0
  obtain ⟨x0, x1, x2, x3, x4, x5, x6, x7⟩ := HN4.out.cells8
  go_wp2_with fail
  go_at_call 11
  refine (HAf.out _).mono ?_
  rintro e w5 ⟨rfl, hb⟩
  have HB5 : Hid (Below w.heap.size w w5) := HB4.out.trans (hb.mono HB4.out.size)
  have HR5 : Hid (Blk w5 (w.heap.size + 1) 22 (arr8 Z)) := HR4.out.below hb
  clear hb g0 x0 x1 x2 x3 x4 x5 x6 x7
  obtain ⟨w6, hw6⟩ : ∃ x, x = w5.alloc (.cells #[.int .i64 (M 0), .int .i64 (M 1), .int .i64 (M 2), .int .i64 (M 3), .int .i64 (M 4), .int .i64 (M 5), .int .i64 (M 6), .int .i64 (M 7)] 22) := ⟨_, rfl⟩
  obtain ⟨G2, hG2⟩ : ∃ G, G = w5.heap.size := ⟨_, rfl⟩
  have HB6 : Hid (Below w.heap.size w w6) := by unfold Hid; rw [hw6]; exact HB5.out.alloc HB5.out.size _
  have HR6 : Hid (Blk w6 (w.heap.size + 1) 22 (arr8 Z)) := by unfold Hid; rw [hw6]; exact HR5.out.old _
  have HG6 : Hid (Blk w6 G2 22 (arr8 M)) := by unfold Hid; rw [hw6, hG2]; exact Blk.new _ _ _
  go_upto_region 10 with fail
  rw [← hw6, ← hG2]
  clear hw6 hG2
  obtain ⟨x0, x1, x2, x3, x4, x5, x6, x7⟩ := HG6.out.cells8
  obtain ⟨r0, r1, r2, r3, r4, r5, r6, r7⟩ := HR6.out.cells8
  obtain ⟨f0, f1, f2, f3, f4, f5, f6, f7⟩ := HR6.out.frozen8
  go_wp2
  have hld := load8 (put8_blk HR6.out M)
  refine bodyPost_ret (v := .tuple #[.agg (arr8 M), .nilIface]) ?_ rfl ⟨rfl, ?_⟩
  · rw [results_cell_tmp rfl]
    unfold put8 at hld
    simp [asAddr, Result.andThen, hld]
  · exact put8_below HB6.out (by omega) M

theorem nerr_no {n : Int} (h : ¬ n = 0) : errV n = .iface 37 (.int .i64 n) := by unfold errV; rw [if_neg h]
/-- Next, whatever the number of things and the counts. -/
theorem next_any (u : Int) (N : Nat → Int) (w : World) :
    Calls Tryd.prog 5 #[.int .i64 u, .agg #[.int .i64 (N 0), .int .i64 (N 1), .int .i64 (N 2), .int .i64 (N 3), .int .i64 (N 4), .int .i64 (N 5), .int .i64 (N 6), .int .i64 (N 7)]] w fun e w' => e = .returned (.tuple #[.agg (arr8 (nextN u N)), errV (nextFault u N)]) ∧ Below w.heap.size w w' := by
  by_cases hu : 0 ≤ u ∧ u ≤ 6
  · obtain ⟨n, rfl⟩ := Int.eq_ofNat_of_zero_le hu.1
    have hn : n ≤ 6 := by omega
    by_cases hf : countsFault N = 0
    · by_cases hs : sumN N 8 = n
      · obtain ⟨h1, h2⟩ := next_after hn hf hs
        rw [arr8_same h2, h1]
        by_cases hl : lastTo N 8 = 0
        · rw [if_pos hl, show afterO N = zeroC by unfold afterO; rw [if_pos hl]]
          exact next_none n N w hn hf hs hl
        · rw [if_neg hl]
          exact next_some n N w hn hf hs hl
      · have e : nextFault (n : Int) N = 3 := by unfold nextFault; rw [if_pos hu, if_pos hf, if_neg hs]
        have e' : nextN (n : Int) N = zeroC := by unfold nextN; rw [if_neg (by rw [e]; decide)]
        rw [e, e']
        exact next_shape n N w hn hf hs
    · have e : nextFault (n : Int) N = countsFault N := by unfold nextFault; rw [if_pos hu, if_neg hf]
      have e' : nextN (n : Int) N = zeroC := by unfold nextN; rw [if_neg (by rw [e]; exact hf)]
      rw [e, e', nerr_no hf]
      exact next_wrong n N w hn hf
  · have e : nextFault u N = 1 := by unfold nextFault; rw [if_neg hu]
    have e' : nextN u N = zeroC := by unfold nextN; rw [if_neg (by rw [e]; decide)]
    rw [e, e']
    exact next_range u N w hu
end Go.Proofs.YtedgbohobgnedaeDoor
