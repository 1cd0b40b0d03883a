/-
  Proved: vennlaw4.ModelMany returns true where what it calls answers as chapter 9 says; what was in memory is as it was (the walk that the statement leans on).
-/
import Derived.Test.YtedgbohobgnedaeGreatDoorLibPA5
import Derived.Deep.Cut
import Derived.Deep.RegionHeld3
namespace Go.Proofs.YtedgbohobgnedaeGreatDoor
open Go.ChangeShapes Go.WideShapes Go.ChangeAt Go.RowKit
set_option maxRecDepth 100000

theorem has_at (w : Wd) {k : Nat} (hk : k < 3) : (arrW w)[1 + k]? = some (.int .i64 (w.has k)) := by
  rcases (by omega : k = 0 ∨ k = 1 ∨ k = 2) with rfl | rfl | rfl <;> rfl

set_option maxHeartbeats 4000000 in
theorem modelMany_0 (n : Nat) (hn : n < 6) (mu ma mb mc : Int) (hx : -1 ≤ ma ∧ ma ≤ 63) (w : World)
    (HAo : Hid (∀ W, Below w.heap.size w W → Calls Tryz.prog 16 #[.int .i64 0, .int .i64 ((n : Int) + 1)] W fun e w' => ∃ b1 b2, e = .returned (.agg #[.slice (some ⟨b1, 0, none⟩) 1 1, .slice (some ⟨b2, 0, none⟩) 1 1]) ∧ Hid (∀ W', Below w'.heap.size w' W' → Calls Tryz.prog 8 #[.agg #[.slice (some ⟨b1, 0, none⟩) 1 1, .slice (some ⟨b2, 0, none⟩) 1 1], .int .i64 ((n : Int) + 1)] W' fun e' w'' => e' = .returned (.tuple #[.agg #[.int .i64 mu, .int .i64 ma, .int .i64 mb, .int .i64 mc], .nilIface]) ∧ Below W'.heap.size W' w'') ∧ Hid (∀ W', Below w'.heap.size w' W' → Calls Tryz.prog 8 #[.agg #[.slice (some ⟨b1, 0, none⟩) 1 1, .slice (some ⟨b2, 0, none⟩) 1 1], .int .i64 n] W' fun e' w'' => e' = .returned (.tuple #[.agg #[.int .i64 0, .int .i64 0, .int .i64 0, .int .i64 0], .iface 74 (.int .i64 5)]) ∧ Below W'.heap.size W' w'') ∧ Hid (∀ W', Below w'.heap.size w' W' → Calls Tryz.prog 13 #[.agg #[.slice (some ⟨b1, 0, none⟩) 1 1, .slice (some ⟨b2, 0, none⟩) 1 1], .int .i64 n] W' fun e' w'' => e' = .returned (.tuple #[.bool false, .nilIface]) ∧ Below W'.heap.size W' w'') ∧ Below W.heap.size W w'))
    (HPw : Hid (∀ W, Calls Tryz.prog 17 #[.int .i64 ((n : Int) + 1)] W fun e w' => e = .returned (.int .i64 (ma + 1)) ∧ w' = W))
    (HEr : Hid (∀ W, Below w.heap.size w W → Calls Tryz.prog 9 #[.iface 74 (.int .i64 5), .int .i64 5] W fun e w' => e = .returned (.bool true) ∧ Below W.heap.size W w')) :
    Calls Tryz.prog 5 #[.int .i64 0, .int .i64 ((n : Int) + 1)] w fun e w' => e = .returned (.bool true) ∧ Below w.heap.size w w' := by
  have n0 : (0 : Int) ≤ (n : Int) := by omega
  have n6 : (n : Int) < 6 := by omega
  have wn : IntKind.i64.wrap ((n : Int) + 1 - 1) = (n : Int) := by rw [IntKind.wrap_i64]; omega
  have wx : IntKind.i64.wrap (ma + 1) = ma + 1 := by rw [IntKind.wrap_i64]; omega
  go_enter Tryz.func5, Tryz.ntmps5
  go_wp2_with fail
  go_at_call 16
  refine (HAo.out _ (Below.refl _ _)).mono ?_
  rintro e w1 ⟨b1, b2, rfl, H1, H2, H3, hb⟩
  have B1 : Hid (Below w.heap.size w w1) := hb
  clear hb
  obtain ⟨w2, hw2⟩ : ∃ x, x = w1.alloc (.cells #[.slice (some ⟨b1, 0, none⟩) 1 1, .slice (some ⟨b2, 0, none⟩) 1 1] 25) := ⟨_, rfl⟩
  obtain ⟨G7, hG7⟩ : ∃ x, x = w1.heap.size := ⟨_, rfl⟩
  have B2 : Hid (Below w.heap.size w w2) := by unfold Hid; rw [hw2]; exact B1.out.alloc B1.out.size _
  have C2 : Hid (Below w1.heap.size w1 w2) := by unfold Hid; rw [hw2]; exact below_alloc1 _ _
  have K2 : Hid (Blk w2 G7 25 #[.slice (some ⟨b1, 0, none⟩) 1 1, .slice (some ⟨b2, 0, none⟩) 1 1]) := by unfold Hid; rw [hw2, hG7]; exact Blk.new _ _ _
  go_upto_region 5 with fail
  rw [← hw2, ← hG7]
  clear hw2 hG7
  have x0 : w2.cell? ⟨G7, 0, none⟩ = some (.slice (some ⟨b1, 0, none⟩) 1 1) := K2.out.cell 0
  have x1 : w2.cell? ⟨G7, 1, none⟩ = some (.slice (some ⟨b2, 0, none⟩) 1 1) := K2.out.cell 1
  go_wp2_with fail
  go_at_call 8
  refine (H1.out _ C2.out).mono ?_
  rintro e w3 ⟨rfl, hb⟩
  have B3 : Hid (Below w.heap.size w w3) := B2.out.trans (hb.mono B2.out.size)
  have C3 : Hid (Below w1.heap.size w1 w3) := C2.out.trans (hb.mono C2.out.size)
  have K3 : Hid (Blk w3 G7 25 #[.slice (some ⟨b1, 0, none⟩) 1 1, .slice (some ⟨b2, 0, none⟩) 1 1]) := K2.out.below hb
  clear hb x0 x1
  obtain ⟨w4, hw4⟩ : ∃ x, x = w3.alloc (.cells #[.int .i64 mu, .int .i64 ma, .int .i64 mb, .int .i64 mc] 28) := ⟨_, rfl⟩
  obtain ⟨G8, hG8⟩ : ∃ x, x = w3.heap.size := ⟨_, rfl⟩
  have B4 : Hid (Below w.heap.size w w4) := by unfold Hid; rw [hw4]; exact B3.out.alloc B3.out.size _
  have C4 : Hid (Below w1.heap.size w1 w4) := by unfold Hid; rw [hw4]; exact C3.out.alloc C3.out.size _
  have K4 : Hid (Blk w4 G7 25 #[.slice (some ⟨b1, 0, none⟩) 1 1, .slice (some ⟨b2, 0, none⟩) 1 1]) := by unfold Hid; rw [hw4]; exact K3.out.old _
  have J4 : Hid (Blk w4 G8 28 #[.int .i64 mu, .int .i64 ma, .int .i64 mb, .int .i64 mc]) := by unfold Hid; rw [hw4, hG8]; exact Blk.new _ _ _
  go_upto_region 6 with fail
  rw [← hw4, ← hG8]
  clear hw4 hG8
  have x0 : w4.cell? ⟨G7, 0, none⟩ = some (.slice (some ⟨b1, 0, none⟩) 1 1) := K4.out.cell 0
  have x1 : w4.cell? ⟨G7, 1, none⟩ = some (.slice (some ⟨b2, 0, none⟩) 1 1) := K4.out.cell 1
  go_wp2_with fail
  go_at_call 8
  refine (H2.out _ C4.out).mono ?_
  rintro e w5 ⟨rfl, hb⟩
  have B5 : Hid (Below w.heap.size w w5) := B4.out.trans (hb.mono B4.out.size)
  have C5 : Hid (Below w1.heap.size w1 w5) := C4.out.trans (hb.mono C4.out.size)
  have K5 : Hid (Blk w5 G7 25 #[.slice (some ⟨b1, 0, none⟩) 1 1, .slice (some ⟨b2, 0, none⟩) 1 1]) := K4.out.below hb
  have J5 : Hid (Blk w5 G8 28 #[.int .i64 mu, .int .i64 ma, .int .i64 mb, .int .i64 mc]) := J4.out.below hb
  clear hb x0 x1
  obtain ⟨w6, hw6⟩ : ∃ x, x = w5.alloc (.cells #[.int .i64 0, .int .i64 0, .int .i64 0, .int .i64 0] 28) := ⟨_, rfl⟩
  have B6 : Hid (Below w.heap.size w w6) := by unfold Hid; rw [hw6]; exact B5.out.alloc B5.out.size _
  have C6 : Hid (Below w1.heap.size w1 w6) := by unfold Hid; rw [hw6]; exact C5.out.alloc C5.out.size _
  have K6 : Hid (Blk w6 G7 25 #[.slice (some ⟨b1, 0, none⟩) 1 1, .slice (some ⟨b2, 0, none⟩) 1 1]) := by unfold Hid; rw [hw6]; exact K5.out.old _
  have J6 : Hid (Blk w6 G8 28 #[.int .i64 mu, .int .i64 ma, .int .i64 mb, .int .i64 mc]) := by unfold Hid; rw [hw6]; exact J5.out.old _
  go_upto_region 7 with fail
  rw [← hw6]
  clear hw6
  have x0 : w6.cell? ⟨G7, 0, none⟩ = some (.slice (some ⟨b1, 0, none⟩) 1 1) := K6.out.cell 0
  have x1 : w6.cell? ⟨G7, 1, none⟩ = some (.slice (some ⟨b2, 0, none⟩) 1 1) := K6.out.cell 1
  go_wp2_with fail
  go_at_call 13
  refine (H3.out _ C6.out).mono ?_
  rintro e w7 ⟨rfl, hb⟩
  have B7 : Hid (Below w.heap.size w w7) := B6.out.trans (hb.mono B6.out.size)
  have J7 : Hid (Blk w7 G8 28 #[.int .i64 mu, .int .i64 ma, .int .i64 mb, .int .i64 mc]) := J6.out.below hb
  clear hb x0 x1
  have y : w7.cell? ⟨G8, 1, none⟩ = some (.int .i64 ma) := J7.out.cell 1
  have HEk : Hid (∀ W, Below w7.heap.size w7 W → Calls Tryz.prog 9 #[.iface 74 (.int .i64 5), .int .i64 5] W fun e w' => e = .returned (.bool true) ∧ Below w.heap.size w w' ∧ (w'.cell? ⟨G8, 1, none⟩ = some (.int .i64 ma))) := fun W hW => by
    have hB := B7.out.trans (hW.mono B7.out.size)
    refine (HEr.out W hB).mono ?_
    rintro e w' ⟨rfl, hb⟩
    exact ⟨rfl, hB.trans (hb.mono hB.size), ((J7.out.below hW).below hb).cell 1⟩
  have HpA : Hid (Below w7.heap.size w7 w7.drew) := (Below.refl _ _).drew
  go_upto_region 8 with fail
  go_region_held3 (fun w' => w'.cell? ⟨G8, 1, none⟩ = some (.int .i64 ma)) (go_keep)
    (first
      | (go_at_call 17; refine (HPw.out _).mono ?_; rintro e w' ⟨rfl, rfl⟩)
      | (go_at_call 9; refine (HEk.out _ HpA.out).mono ?_; rintro e w8 ⟨rfl, hb8, _⟩))
  all_goals go_wp2
  all_goals go_ret
  all_goals exact ⟨rfl, hb8⟩

set_option maxHeartbeats 4000000 in
theorem modelMany_1 (n : Nat) (hn : n < 6) (mu ma mb mc : Int) (hx : -1 ≤ mb ∧ mb ≤ 63) (w : World)
    (HAo : Hid (∀ W, Below w.heap.size w W → Calls Tryz.prog 16 #[.int .i64 1, .int .i64 ((n : Int) + 1)] W fun e w' => ∃ b1 b2, e = .returned (.agg #[.slice (some ⟨b1, 0, none⟩) 1 1, .slice (some ⟨b2, 0, none⟩) 1 1]) ∧ Hid (∀ W', Below w'.heap.size w' W' → Calls Tryz.prog 8 #[.agg #[.slice (some ⟨b1, 0, none⟩) 1 1, .slice (some ⟨b2, 0, none⟩) 1 1], .int .i64 ((n : Int) + 1)] W' fun e' w'' => e' = .returned (.tuple #[.agg #[.int .i64 mu, .int .i64 ma, .int .i64 mb, .int .i64 mc], .nilIface]) ∧ Below W'.heap.size W' w'') ∧ Hid (∀ W', Below w'.heap.size w' W' → Calls Tryz.prog 8 #[.agg #[.slice (some ⟨b1, 0, none⟩) 1 1, .slice (some ⟨b2, 0, none⟩) 1 1], .int .i64 n] W' fun e' w'' => e' = .returned (.tuple #[.agg #[.int .i64 0, .int .i64 0, .int .i64 0, .int .i64 0], .iface 74 (.int .i64 5)]) ∧ Below W'.heap.size W' w'') ∧ Hid (∀ W', Below w'.heap.size w' W' → Calls Tryz.prog 13 #[.agg #[.slice (some ⟨b1, 0, none⟩) 1 1, .slice (some ⟨b2, 0, none⟩) 1 1], .int .i64 n] W' fun e' w'' => e' = .returned (.tuple #[.bool false, .nilIface]) ∧ Below W'.heap.size W' w'') ∧ Below W.heap.size W w'))
    (HPw : Hid (∀ W, Calls Tryz.prog 17 #[.int .i64 ((n : Int) + 1)] W fun e w' => e = .returned (.int .i64 (mb + 1)) ∧ w' = W))
    (HEr : Hid (∀ W, Below w.heap.size w W → Calls Tryz.prog 9 #[.iface 74 (.int .i64 5), .int .i64 5] W fun e w' => e = .returned (.bool true) ∧ Below W.heap.size W w')) :
    Calls Tryz.prog 5 #[.int .i64 1, .int .i64 ((n : Int) + 1)] w fun e w' => e = .returned (.bool true) ∧ Below w.heap.size w w' := by
  have n0 : (0 : Int) ≤ (n : Int) := by omega
  have n6 : (n : Int) < 6 := by omega
  have wn : IntKind.i64.wrap ((n : Int) + 1 - 1) = (n : Int) := by rw [IntKind.wrap_i64]; omega
  have wx : IntKind.i64.wrap (mb + 1) = mb + 1 := by rw [IntKind.wrap_i64]; omega
  go_enter Tryz.func5, Tryz.ntmps5
  go_wp2_with fail
  go_at_call 16
  refine (HAo.out _ (Below.refl _ _)).mono ?_
  rintro e w1 ⟨b1, b2, rfl, H1, H2, H3, hb⟩
  have B1 : Hid (Below w.heap.size w w1) := hb
  clear hb
  obtain ⟨w2, hw2⟩ : ∃ x, x = w1.alloc (.cells #[.slice (some ⟨b1, 0, none⟩) 1 1, .slice (some ⟨b2, 0, none⟩) 1 1] 25) := ⟨_, rfl⟩
  obtain ⟨G7, hG7⟩ : ∃ x, x = w1.heap.size := ⟨_, rfl⟩
  have B2 : Hid (Below w.heap.size w w2) := by unfold Hid; rw [hw2]; exact B1.out.alloc B1.out.size _
  have C2 : Hid (Below w1.heap.size w1 w2) := by unfold Hid; rw [hw2]; exact below_alloc1 _ _
  have K2 : Hid (Blk w2 G7 25 #[.slice (some ⟨b1, 0, none⟩) 1 1, .slice (some ⟨b2, 0, none⟩) 1 1]) := by unfold Hid; rw [hw2, hG7]; exact Blk.new _ _ _
  go_upto_region 5 with fail
  rw [← hw2, ← hG7]
  clear hw2 hG7
  have x0 : w2.cell? ⟨G7, 0, none⟩ = some (.slice (some ⟨b1, 0, none⟩) 1 1) := K2.out.cell 0
  have x1 : w2.cell? ⟨G7, 1, none⟩ = some (.slice (some ⟨b2, 0, none⟩) 1 1) := K2.out.cell 1
  go_wp2_with fail
  go_at_call 8
  refine (H1.out _ C2.out).mono ?_
  rintro e w3 ⟨rfl, hb⟩
  have B3 : Hid (Below w.heap.size w w3) := B2.out.trans (hb.mono B2.out.size)
  have C3 : Hid (Below w1.heap.size w1 w3) := C2.out.trans (hb.mono C2.out.size)
  have K3 : Hid (Blk w3 G7 25 #[.slice (some ⟨b1, 0, none⟩) 1 1, .slice (some ⟨b2, 0, none⟩) 1 1]) := K2.out.below hb
  clear hb x0 x1
  obtain ⟨w4, hw4⟩ : ∃ x, x = w3.alloc (.cells #[.int .i64 mu, .int .i64 ma, .int .i64 mb, .int .i64 mc] 28) := ⟨_, rfl⟩
  obtain ⟨G8, hG8⟩ : ∃ x, x = w3.heap.size := ⟨_, rfl⟩
  have B4 : Hid (Below w.heap.size w w4) := by unfold Hid; rw [hw4]; exact B3.out.alloc B3.out.size _
  have C4 : Hid (Below w1.heap.size w1 w4) := by unfold Hid; rw [hw4]; exact C3.out.alloc C3.out.size _
  have K4 : Hid (Blk w4 G7 25 #[.slice (some ⟨b1, 0, none⟩) 1 1, .slice (some ⟨b2, 0, none⟩) 1 1]) := by unfold Hid; rw [hw4]; exact K3.out.old _
  have J4 : Hid (Blk w4 G8 28 #[.int .i64 mu, .int .i64 ma, .int .i64 mb, .int .i64 mc]) := by unfold Hid; rw [hw4, hG8]; exact Blk.new _ _ _
  go_upto_region 6 with fail
  rw [← hw4, ← hG8]
  clear hw4 hG8
  have x0 : w4.cell? ⟨G7, 0, none⟩ = some (.slice (some ⟨b1, 0, none⟩) 1 1) := K4.out.cell 0
  have x1 : w4.cell? ⟨G7, 1, none⟩ = some (.slice (some ⟨b2, 0, none⟩) 1 1) := K4.out.cell 1
  go_wp2_with fail
  go_at_call 8
  refine (H2.out _ C4.out).mono ?_
  rintro e w5 ⟨rfl, hb⟩
  have B5 : Hid (Below w.heap.size w w5) := B4.out.trans (hb.mono B4.out.size)
  have C5 : Hid (Below w1.heap.size w1 w5) := C4.out.trans (hb.mono C4.out.size)
  have K5 : Hid (Blk w5 G7 25 #[.slice (some ⟨b1, 0, none⟩) 1 1, .slice (some ⟨b2, 0, none⟩) 1 1]) := K4.out.below hb
  have J5 : Hid (Blk w5 G8 28 #[.int .i64 mu, .int .i64 ma, .int .i64 mb, .int .i64 mc]) := J4.out.below hb
  clear hb x0 x1
  obtain ⟨w6, hw6⟩ : ∃ x, x = w5.alloc (.cells #[.int .i64 0, .int .i64 0, .int .i64 0, .int .i64 0] 28) := ⟨_, rfl⟩
  have B6 : Hid (Below w.heap.size w w6) := by unfold Hid; rw [hw6]; exact B5.out.alloc B5.out.size _
  have C6 : Hid (Below w1.heap.size w1 w6) := by unfold Hid; rw [hw6]; exact C5.out.alloc C5.out.size _
  have K6 : Hid (Blk w6 G7 25 #[.slice (some ⟨b1, 0, none⟩) 1 1, .slice (some ⟨b2, 0, none⟩) 1 1]) := by unfold Hid; rw [hw6]; exact K5.out.old _
  have J6 : Hid (Blk w6 G8 28 #[.int .i64 mu, .int .i64 ma, .int .i64 mb, .int .i64 mc]) := by unfold Hid; rw [hw6]; exact J5.out.old _
  go_upto_region 7 with fail
  rw [← hw6]
  clear hw6
  have x0 : w6.cell? ⟨G7, 0, none⟩ = some (.slice (some ⟨b1, 0, none⟩) 1 1) := K6.out.cell 0
  have x1 : w6.cell? ⟨G7, 1, none⟩ = some (.slice (some ⟨b2, 0, none⟩) 1 1) := K6.out.cell 1
  go_wp2_with fail
  go_at_call 13
  refine (H3.out _ C6.out).mono ?_
  rintro e w7 ⟨rfl, hb⟩
  have B7 : Hid (Below w.heap.size w w7) := B6.out.trans (hb.mono B6.out.size)
  have J7 : Hid (Blk w7 G8 28 #[.int .i64 mu, .int .i64 ma, .int .i64 mb, .int .i64 mc]) := J6.out.below hb
  clear hb x0 x1
  have y : w7.cell? ⟨G8, 2, none⟩ = some (.int .i64 mb) := J7.out.cell 2
  have HEk : Hid (∀ W, Below w7.heap.size w7 W → Calls Tryz.prog 9 #[.iface 74 (.int .i64 5), .int .i64 5] W fun e w' => e = .returned (.bool true) ∧ Below w.heap.size w w' ∧ (w'.cell? ⟨G8, 2, none⟩ = some (.int .i64 mb))) := fun W hW => by
    have hB := B7.out.trans (hW.mono B7.out.size)
    refine (HEr.out W hB).mono ?_
    rintro e w' ⟨rfl, hb⟩
    exact ⟨rfl, hB.trans (hb.mono hB.size), ((J7.out.below hW).below hb).cell 2⟩
  have HpA : Hid (Below w7.heap.size w7 w7.drew) := (Below.refl _ _).drew
  go_upto_region 8 with fail
  go_region_held3 (fun w' => w'.cell? ⟨G8, 2, none⟩ = some (.int .i64 mb)) (go_keep)
    (first
      | (go_at_call 17; refine (HPw.out _).mono ?_; rintro e w' ⟨rfl, rfl⟩)
      | (go_at_call 9; refine (HEk.out _ HpA.out).mono ?_; rintro e w8 ⟨rfl, hb8, _⟩))
  all_goals go_wp2
  all_goals go_ret
  all_goals exact ⟨rfl, hb8⟩

set_option maxHeartbeats 4000000 in
theorem modelMany_2 (n : Nat) (hn : n < 6) (mu ma mb mc : Int) (hx : -1 ≤ mc ∧ mc ≤ 63) (w : World)
    (HAo : Hid (∀ W, Below w.heap.size w W → Calls Tryz.prog 16 #[.int .i64 2, .int .i64 ((n : Int) + 1)] W fun e w' => ∃ b1 b2, e = .returned (.agg #[.slice (some ⟨b1, 0, none⟩) 1 1, .slice (some ⟨b2, 0, none⟩) 1 1]) ∧ Hid (∀ W', Below w'.heap.size w' W' → Calls Tryz.prog 8 #[.agg #[.slice (some ⟨b1, 0, none⟩) 1 1, .slice (some ⟨b2, 0, none⟩) 1 1], .int .i64 ((n : Int) + 1)] W' fun e' w'' => e' = .returned (.tuple #[.agg #[.int .i64 mu, .int .i64 ma, .int .i64 mb, .int .i64 mc], .nilIface]) ∧ Below W'.heap.size W' w'') ∧ Hid (∀ W', Below w'.heap.size w' W' → Calls Tryz.prog 8 #[.agg #[.slice (some ⟨b1, 0, none⟩) 1 1, .slice (some ⟨b2, 0, none⟩) 1 1], .int .i64 n] W' fun e' w'' => e' = .returned (.tuple #[.agg #[.int .i64 0, .int .i64 0, .int .i64 0, .int .i64 0], .iface 74 (.int .i64 5)]) ∧ Below W'.heap.size W' w'') ∧ Hid (∀ W', Below w'.heap.size w' W' → Calls Tryz.prog 13 #[.agg #[.slice (some ⟨b1, 0, none⟩) 1 1, .slice (some ⟨b2, 0, none⟩) 1 1], .int .i64 n] W' fun e' w'' => e' = .returned (.tuple #[.bool false, .nilIface]) ∧ Below W'.heap.size W' w'') ∧ Below W.heap.size W w'))
    (HPw : Hid (∀ W, Calls Tryz.prog 17 #[.int .i64 ((n : Int) + 1)] W fun e w' => e = .returned (.int .i64 (mc + 1)) ∧ w' = W))
    (HEr : Hid (∀ W, Below w.heap.size w W → Calls Tryz.prog 9 #[.iface 74 (.int .i64 5), .int .i64 5] W fun e w' => e = .returned (.bool true) ∧ Below W.heap.size W w')) :
    Calls Tryz.prog 5 #[.int .i64 2, .int .i64 ((n : Int) + 1)] w fun e w' => e = .returned (.bool true) ∧ Below w.heap.size w w' := by
  have n0 : (0 : Int) ≤ (n : Int) := by omega
  have n6 : (n : Int) < 6 := by omega
  have wn : IntKind.i64.wrap ((n : Int) + 1 - 1) = (n : Int) := by rw [IntKind.wrap_i64]; omega
  have wx : IntKind.i64.wrap (mc + 1) = mc + 1 := by rw [IntKind.wrap_i64]; omega
  go_enter Tryz.func5, Tryz.ntmps5
  go_wp2_with fail
  go_at_call 16
  refine (HAo.out _ (Below.refl _ _)).mono ?_
  rintro e w1 ⟨b1, b2, rfl, H1, H2, H3, hb⟩
  have B1 : Hid (Below w.heap.size w w1) := hb
  clear hb
  obtain ⟨w2, hw2⟩ : ∃ x, x = w1.alloc (.cells #[.slice (some ⟨b1, 0, none⟩) 1 1, .slice (some ⟨b2, 0, none⟩) 1 1] 25) := ⟨_, rfl⟩
  obtain ⟨G7, hG7⟩ : ∃ x, x = w1.heap.size := ⟨_, rfl⟩
  have B2 : Hid (Below w.heap.size w w2) := by unfold Hid; rw [hw2]; exact B1.out.alloc B1.out.size _
  have C2 : Hid (Below w1.heap.size w1 w2) := by unfold Hid; rw [hw2]; exact below_alloc1 _ _
  have K2 : Hid (Blk w2 G7 25 #[.slice (some ⟨b1, 0, none⟩) 1 1, .slice (some ⟨b2, 0, none⟩) 1 1]) := by unfold Hid; rw [hw2, hG7]; exact Blk.new _ _ _
  go_upto_region 5 with fail
  rw [← hw2, ← hG7]
  clear hw2 hG7
  have x0 : w2.cell? ⟨G7, 0, none⟩ = some (.slice (some ⟨b1, 0, none⟩) 1 1) := K2.out.cell 0
  have x1 : w2.cell? ⟨G7, 1, none⟩ = some (.slice (some ⟨b2, 0, none⟩) 1 1) := K2.out.cell 1
  go_wp2_with fail
  go_at_call 8
  refine (H1.out _ C2.out).mono ?_
  rintro e w3 ⟨rfl, hb⟩
  have B3 : Hid (Below w.heap.size w w3) := B2.out.trans (hb.mono B2.out.size)
  have C3 : Hid (Below w1.heap.size w1 w3) := C2.out.trans (hb.mono C2.out.size)
  have K3 : Hid (Blk w3 G7 25 #[.slice (some ⟨b1, 0, none⟩) 1 1, .slice (some ⟨b2, 0, none⟩) 1 1]) := K2.out.below hb
  clear hb x0 x1
  obtain ⟨w4, hw4⟩ : ∃ x, x = w3.alloc (.cells #[.int .i64 mu, .int .i64 ma, .int .i64 mb, .int .i64 mc] 28) := ⟨_, rfl⟩
  obtain ⟨G8, hG8⟩ : ∃ x, x = w3.heap.size := ⟨_, rfl⟩
  have B4 : Hid (Below w.heap.size w w4) := by unfold Hid; rw [hw4]; exact B3.out.alloc B3.out.size _
  have C4 : Hid (Below w1.heap.size w1 w4) := by unfold Hid; rw [hw4]; exact C3.out.alloc C3.out.size _
  have K4 : Hid (Blk w4 G7 25 #[.slice (some ⟨b1, 0, none⟩) 1 1, .slice (some ⟨b2, 0, none⟩) 1 1]) := by unfold Hid; rw [hw4]; exact K3.out.old _
  have J4 : Hid (Blk w4 G8 28 #[.int .i64 mu, .int .i64 ma, .int .i64 mb, .int .i64 mc]) := by unfold Hid; rw [hw4, hG8]; exact Blk.new _ _ _
  go_upto_region 6 with fail
  rw [← hw4, ← hG8]
  clear hw4 hG8
  have x0 : w4.cell? ⟨G7, 0, none⟩ = some (.slice (some ⟨b1, 0, none⟩) 1 1) := K4.out.cell 0
  have x1 : w4.cell? ⟨G7, 1, none⟩ = some (.slice (some ⟨b2, 0, none⟩) 1 1) := K4.out.cell 1
  go_wp2_with fail
  go_at_call 8
  refine (H2.out _ C4.out).mono ?_
  rintro e w5 ⟨rfl, hb⟩
  have B5 : Hid (Below w.heap.size w w5) := B4.out.trans (hb.mono B4.out.size)
  have C5 : Hid (Below w1.heap.size w1 w5) := C4.out.trans (hb.mono C4.out.size)
  have K5 : Hid (Blk w5 G7 25 #[.slice (some ⟨b1, 0, none⟩) 1 1, .slice (some ⟨b2, 0, none⟩) 1 1]) := K4.out.below hb
  have J5 : Hid (Blk w5 G8 28 #[.int .i64 mu, .int .i64 ma, .int .i64 mb, .int .i64 mc]) := J4.out.below hb
  clear hb x0 x1
  obtain ⟨w6, hw6⟩ : ∃ x, x = w5.alloc (.cells #[.int .i64 0, .int .i64 0, .int .i64 0, .int .i64 0] 28) := ⟨_, rfl⟩
  have B6 : Hid (Below w.heap.size w w6) := by unfold Hid; rw [hw6]; exact B5.out.alloc B5.out.size _
  have C6 : Hid (Below w1.heap.size w1 w6) := by unfold Hid; rw [hw6]; exact C5.out.alloc C5.out.size _
  have K6 : Hid (Blk w6 G7 25 #[.slice (some ⟨b1, 0, none⟩) 1 1, .slice (some ⟨b2, 0, none⟩) 1 1]) := by unfold Hid; rw [hw6]; exact K5.out.old _
  have J6 : Hid (Blk w6 G8 28 #[.int .i64 mu, .int .i64 ma, .int .i64 mb, .int .i64 mc]) := by unfold Hid; rw [hw6]; exact J5.out.old _
  go_upto_region 7 with fail
  rw [← hw6]
  clear hw6
  have x0 : w6.cell? ⟨G7, 0, none⟩ = some (.slice (some ⟨b1, 0, none⟩) 1 1) := K6.out.cell 0
  have x1 : w6.cell? ⟨G7, 1, none⟩ = some (.slice (some ⟨b2, 0, none⟩) 1 1) := K6.out.cell 1
  go_wp2_with fail
  go_at_call 13
  refine (H3.out _ C6.out).mono ?_
  rintro e w7 ⟨rfl, hb⟩
  have B7 : Hid (Below w.heap.size w w7) := B6.out.trans (hb.mono B6.out.size)
  have J7 : Hid (Blk w7 G8 28 #[.int .i64 mu, .int .i64 ma, .int .i64 mb, .int .i64 mc]) := J6.out.below hb
  clear hb x0 x1
  have y : w7.cell? ⟨G8, 3, none⟩ = some (.int .i64 mc) := J7.out.cell 3
  have HEk : Hid (∀ W, Below w7.heap.size w7 W → Calls Tryz.prog 9 #[.iface 74 (.int .i64 5), .int .i64 5] W fun e w' => e = .returned (.bool true) ∧ Below w.heap.size w w' ∧ (w'.cell? ⟨G8, 3, none⟩ = some (.int .i64 mc))) := fun W hW => by
    have hB := B7.out.trans (hW.mono B7.out.size)
    refine (HEr.out W hB).mono ?_
    rintro e w' ⟨rfl, hb⟩
    exact ⟨rfl, hB.trans (hb.mono hB.size), ((J7.out.below hW).below hb).cell 3⟩
  have HpA : Hid (Below w7.heap.size w7 w7.drew) := (Below.refl _ _).drew
  go_upto_region 8 with fail
  go_region_held3 (fun w' => w'.cell? ⟨G8, 3, none⟩ = some (.int .i64 mc)) (go_keep)
    (first
      | (go_at_call 17; refine (HPw.out _).mono ?_; rintro e w' ⟨rfl, rfl⟩)
      | (go_at_call 9; refine (HEk.out _ HpA.out).mono ?_; rintro e w8 ⟨rfl, hb8, _⟩))
  all_goals go_wp2
  all_goals go_ret
  all_goals exact ⟨rfl, hb8⟩

set_option maxHeartbeats 4000000 in
theorem modelMany_bad (name n : Int) (hb : name < 0 ∨ 2 < name ∨ n < 1 ∨ 6 < n) (w : World)
    (H1 : Hid (∀ W, Below w.heap.size w W → Calls Tryz.prog 8 #[.agg #[.slice none 0 0, .slice none 0 0], .int .i64 1] W fun e w' => e = .returned (.tuple #[.agg #[.int .i64 0, .int .i64 0, .int .i64 0, .int .i64 0], .iface 74 (.int .i64 5)]) ∧ Below W.heap.size W w'))
    (HEr : Hid (∀ W, Below w.heap.size w W → Calls Tryz.prog 9 #[.iface 74 (.int .i64 5), .int .i64 5] W fun e w' => e = .returned (.bool true) ∧ Below W.heap.size W w')) :
    Calls Tryz.prog 5 #[.int .i64 name, .int .i64 n] w fun e w' => e = .returned (.bool true) ∧ Below w.heap.size w w' := by
  obtain ⟨c, hc⟩ : ∃ c : Bool, c = true ∧ (decide (name < 0) || decide (2 < name) || decide (n < 1) || decide (6 < n)) = c := ⟨_, by simp; omega, rfl⟩
  rcases (by omega : name < 0 ∨ (¬ name < 0 ∧ 2 < name) ∨ (¬ name < 0 ∧ ¬ 2 < name ∧ n < 1) ∨ (¬ name < 0 ∧ ¬ 2 < name ∧ ¬ n < 1 ∧ 6 < n)) with h | ⟨h, h2⟩ | ⟨h, h2, h3⟩ | ⟨h, h2, h3, h4⟩
  all_goals
    clear hb hc
    go_enter Tryz.func5, Tryz.ntmps5
    go_wp2_with fail
    go_at_call 8
    refine (H1.out _ (Below.refl _ _)).mono ?_
    rintro e w1 ⟨rfl, hb⟩
    have B1 : Hid (Below w.heap.size w w1) := hb
    clear hb
    obtain ⟨w2, hw2⟩ : ∃ x, x = w1.alloc (.cells #[.int .i64 0, .int .i64 0, .int .i64 0, .int .i64 0] 28) := ⟨_, rfl⟩
    have B2 : Hid (Below w.heap.size w w2) := by unfold Hid; rw [hw2]; exact B1.out.alloc B1.out.size _
    go_upto_region 3 with fail
    rw [← hw2]
    clear hw2
    go_wp2_with fail
    go_at_call 9
    refine (HEr.out _ B2.out).mono ?_
    rintro e w3 ⟨rfl, hb⟩
    have B3 : Hid (Below w.heap.size w w3) := B2.out.trans (hb.mono B2.out.size)
    clear hb
    go_wp2
    go_ret
    exact ⟨rfl, B3.out⟩

end Go.Proofs.YtedgbohobgnedaeGreatDoor
