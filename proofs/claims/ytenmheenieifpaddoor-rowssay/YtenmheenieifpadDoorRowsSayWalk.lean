/-
  Proved: vennlaw1.RowsSay returns true, of any atom and any world, where its calls answer as their contracts say; what was in memory is as it was (walks that the statement leans on). Written by program.
-/
import Derived.Test.YtenmheenieifpadDoorRowsOne
import Derived.Deep.Cut
namespace Go.Proofs.YtenmheenieifpadDoor
open Go.ChangeShapes Go.WideShapes Go.ChangeAt Go.RowKit
set_option maxRecDepth 100000

set_option maxHeartbeats 8000000 in
theorem rowsSay_B (k n u a b c : Int) (E : Int) (sao tao : Option Addr) (sl scap tl tcap : Nat) (w : World)
    (H0 : Hid (∀ W, Below w.heap.size w W → Calls Tryd.prog 10 #[.agg #[.int .i64 3, .slice (some ⟨W.heap.size, 0, none⟩) 1 1, .slice none 0 0, .int .i64 2], .bool true] (W.alloc (.cells #[.int .i64 0] 3)) fun e w' => e = .returned (.tuple #[.agg #[.int .i64 0, .int .i64 (-1), .int .i64 0, .int .i64 (-1), .int .i64 0, .int .i64 (-1), .int .i64 0, .int .i64 (-1), .int .i64 (-2)], .nilIface]) ∧ Below W.heap.size W w'))
    (H1 : Hid (∀ W, Below w.heap.size w W → Calls Tryd.prog 10 #[.agg #[.int .i64 k, .slice sao sl scap, .slice tao tl tcap, .int .i64 n], .bool true] W fun e w' => e = .returned (.tuple #[.agg #[.int .i64 0, .int .i64 0, .int .i64 0, .int .i64 0, .int .i64 0, .int .i64 0, .int .i64 0, .int .i64 0, .int .i64 0], .iface 66 (.int .i64 E)]) ∧ Below W.heap.size W w'))
    (H2 : Hid (∀ W, Below w.heap.size w W → Calls Tryd.prog 10 #[.agg #[.int .i64 k, .slice sao sl scap, .slice tao tl tcap, .int .i64 n], .bool false] W fun e w' => e = .returned (.tuple #[.agg #[.int .i64 0, .int .i64 0, .int .i64 0, .int .i64 0, .int .i64 0, .int .i64 0, .int .i64 0, .int .i64 0, .int .i64 0], .iface 66 (.int .i64 E)]) ∧ Below W.heap.size W w'))
    (H3 : Hid (∀ W, Below w.heap.size w W → Calls Tryd.prog 16 #[.agg #[.int .i64 k, .slice sao sl scap, .slice tao tl tcap, .int .i64 n], .agg #[.int .i64 u, .int .i64 a, .int .i64 b, .int .i64 c]] W fun e w' => e = .returned (.tuple #[.bool false, .iface 66 (.int .i64 E)]) ∧ Below W.heap.size W w')) :
    Calls Tryd.prog 4 #[.agg #[.int .i64 k, .slice sao sl scap, .slice tao tl tcap, .int .i64 n], .agg #[.int .i64 u, .int .i64 a, .int .i64 b, .int .i64 c]] w fun e w' => e = .returned (.bool true) ∧ Below w.heap.size w w' := by
  obtain ⟨w1, hw1⟩ : ∃ w1, w1 = (w.alloc (.cells #[.int .i64 k, .slice sao sl scap, .slice tao tl tcap, .int .i64 n] 24)).alloc (.cells #[.int .i64 u, .int .i64 a, .int .i64 b, .int .i64 c] 44) := ⟨_, rfl⟩
  have HB1 : Hid (Below w.heap.size w w1) := by unfold Hid; rw [hw1]; exact (below_alloc1 _ _).alloc (by simp) _
  have HA1 : Hid (Blk w1 w.heap.size 24 #[.int .i64 k, .slice sao sl scap, .slice tao tl tcap, .int .i64 n]) := by unfold Hid; rw [hw1]; exact (Blk.new _ _ _).old _
  have HW1 : Hid (Blk w1 (w.heap.size + 1) 44 #[.int .i64 u, .int .i64 a, .int .i64 b, .int .i64 c]) := by
    unfold Hid; rw [hw1]
    have := Blk.new (w.alloc (.cells #[.int .i64 k, .slice sao sl scap, .slice tao tl tcap, .int .i64 n] 24)) 44 #[.int .i64 u, .int .i64 a, .int .i64 b, .int .i64 c]
    simp only [World.size_alloc] at this
    exact this
  have HX : Hid (∀ W, Blk W w.heap.size 24 #[.int .i64 k, .slice sao sl scap, .slice tao tl tcap, .int .i64 n] → W.cell? ⟨w.heap.size, 0, none⟩ = some (.int .i64 k) ∧ W.cell? ⟨w.heap.size, 1, none⟩ = some (.slice sao sl scap) ∧ W.cell? ⟨w.heap.size, 2, none⟩ = some (.slice tao tl tcap) ∧ W.cell? ⟨w.heap.size, 3, none⟩ = some (.int .i64 n)) := fun W h => ⟨h.cell 0, h.cell 1, h.cell 2, h.cell 3⟩
  have HY : Hid (∀ W, Blk W (w.heap.size + 1) 44 #[.int .i64 u, .int .i64 a, .int .i64 b, .int .i64 c] → W.cell? ⟨w.heap.size + 1, 0, none⟩ = some (.int .i64 u) ∧ W.cell? ⟨w.heap.size + 1, 1, none⟩ = some (.int .i64 a) ∧ W.cell? ⟨w.heap.size + 1, 2, none⟩ = some (.int .i64 b) ∧ W.cell? ⟨w.heap.size + 1, 3, none⟩ = some (.int .i64 c)) := fun W h => ⟨h.cell 0, h.cell 1, h.cell 2, h.cell 3⟩
  go_enter Tryd.func4, Tryd.ntmps4
  go_upto_region 1 with fail
  rw [← hw1]
  clear hw1
  go_wp2_with fail
  go_at_call 10
  refine (H0.out w1 HB1.out).mono ?_
  rintro e w2 ⟨rfl, hb⟩
  have HB2 : Hid (Below w.heap.size w w2) := HB1.out.trans (hb.mono HB1.out.size)
  have HA2 : Hid (Blk w2 w.heap.size 24 #[.int .i64 k, .slice sao sl scap, .slice tao tl tcap, .int .i64 n]) := HA1.out.below hb
  have HW2 : Hid (Blk w2 (w.heap.size + 1) 44 #[.int .i64 u, .int .i64 a, .int .i64 b, .int .i64 c]) := HW1.out.below hb
  clear hb
  obtain ⟨w3, hw3⟩ : ∃ x, x = w2.alloc (.cells #[.int .i64 0, .int .i64 (-1), .int .i64 0, .int .i64 (-1), .int .i64 0, .int .i64 (-1), .int .i64 0, .int .i64 (-1), .int .i64 (-2)] 29) := ⟨_, rfl⟩
  have HB3 : Hid (Below w.heap.size w w3) := by unfold Hid; rw [hw3]; exact HB2.out.alloc HB2.out.size _
  have HA3 : Hid (Blk w3 w.heap.size 24 #[.int .i64 k, .slice sao sl scap, .slice tao tl tcap, .int .i64 n]) := by unfold Hid; rw [hw3]; exact HA2.out.old _
  have HW3 : Hid (Blk w3 (w.heap.size + 1) 44 #[.int .i64 u, .int .i64 a, .int .i64 b, .int .i64 c]) := by unfold Hid; rw [hw3]; exact HW2.out.old _
  have HO3 : Hid (Blk w3 w2.heap.size 29 #[.int .i64 0, .int .i64 (-1), .int .i64 0, .int .i64 (-1), .int .i64 0, .int .i64 (-1), .int .i64 0, .int .i64 (-1), .int .i64 (-2)]) := by unfold Hid; rw [hw3]; exact Blk.new _ _ _
  obtain ⟨O, hO⟩ : ∃ P, P = w2.heap.size := ⟨_, rfl⟩
  rw [← hO] at HO3
  go_upto_region 2 with fail
  rw [← hw3, ← hO]
  clear hw3 hO
  have o1 : w3.cell? ⟨O, 1, none⟩ = some (.int .i64 (-1)) := HO3.out.cell 1
  have o2 : w3.cell? ⟨O, 2, none⟩ = some (.int .i64 0) := HO3.out.cell 2
  have o7 : w3.cell? ⟨O, 7, none⟩ = some (.int .i64 (-1)) := HO3.out.cell 7
  have o8 : w3.cell? ⟨O, 8, none⟩ = some (.int .i64 (-2)) := HO3.out.cell 8
  go_upto_region 4 with fail
  clear o1 o2 o7 o8
  obtain ⟨x0, x1, x2, x3⟩ := HX.out _ HA3.out
  go_wp2_with fail
  go_at_call 10
  refine (H1.out w3 HB3.out).mono ?_
  rintro e w4 ⟨rfl, hb⟩
  have HB4 : Hid (Below w.heap.size w w4) := HB3.out.trans (hb.mono HB3.out.size)
  have HA4 : Hid (Blk w4 w.heap.size 24 #[.int .i64 k, .slice sao sl scap, .slice tao tl tcap, .int .i64 n]) := HA3.out.below hb
  have HW4 : Hid (Blk w4 (w.heap.size + 1) 44 #[.int .i64 u, .int .i64 a, .int .i64 b, .int .i64 c]) := HW3.out.below hb
  clear hb
  clear x0 x1 x2 x3
  obtain ⟨w5, hw5⟩ : ∃ x, x = w4.alloc (.cells #[.int .i64 0, .int .i64 0, .int .i64 0, .int .i64 0, .int .i64 0, .int .i64 0, .int .i64 0, .int .i64 0, .int .i64 0] 29) := ⟨_, rfl⟩
  have HB5 : Hid (Below w.heap.size w w5) := by unfold Hid; rw [hw5]; exact HB4.out.alloc HB4.out.size _
  have HA5 : Hid (Blk w5 w.heap.size 24 #[.int .i64 k, .slice sao sl scap, .slice tao tl tcap, .int .i64 n]) := by unfold Hid; rw [hw5]; exact HA4.out.old _
  have HW5 : Hid (Blk w5 (w.heap.size + 1) 44 #[.int .i64 u, .int .i64 a, .int .i64 b, .int .i64 c]) := by unfold Hid; rw [hw5]; exact HW4.out.old _
  have HP5 : Hid (Blk w5 w4.heap.size 29 #[.int .i64 0, .int .i64 0, .int .i64 0, .int .i64 0, .int .i64 0, .int .i64 0, .int .i64 0, .int .i64 0, .int .i64 0]) := by unfold Hid; rw [hw5]; exact Blk.new _ _ _
  obtain ⟨P, hP⟩ : ∃ P, P = w4.heap.size := ⟨_, rfl⟩
  rw [← hP] at HP5
  go_upto_region 5 with fail
  rw [← hw5, ← hP]
  clear hw5 hP
  obtain ⟨x0, x1, x2, x3⟩ := HX.out _ HA5.out
  go_wp2_with fail
  go_at_call 10
  refine (H2.out w5 HB5.out).mono ?_
  rintro e w6 ⟨rfl, hb⟩
  have HB6 : Hid (Below w.heap.size w w6) := HB5.out.trans (hb.mono HB5.out.size)
  have HA6 : Hid (Blk w6 w.heap.size 24 #[.int .i64 k, .slice sao sl scap, .slice tao tl tcap, .int .i64 n]) := HA5.out.below hb
  have HW6 : Hid (Blk w6 (w.heap.size + 1) 44 #[.int .i64 u, .int .i64 a, .int .i64 b, .int .i64 c]) := HW5.out.below hb
  have HP6 : Hid (Blk w6 P 29 #[.int .i64 0, .int .i64 0, .int .i64 0, .int .i64 0, .int .i64 0, .int .i64 0, .int .i64 0, .int .i64 0, .int .i64 0]) := HP5.out.below hb
  clear hb
  clear x0 x1 x2 x3
  obtain ⟨w7, hw7⟩ : ∃ x, x = w6.alloc (.cells #[.int .i64 0, .int .i64 0, .int .i64 0, .int .i64 0, .int .i64 0, .int .i64 0, .int .i64 0, .int .i64 0, .int .i64 0] 29) := ⟨_, rfl⟩
  have HB7 : Hid (Below w.heap.size w w7) := by unfold Hid; rw [hw7]; exact HB6.out.alloc HB6.out.size _
  have HA7 : Hid (Blk w7 w.heap.size 24 #[.int .i64 k, .slice sao sl scap, .slice tao tl tcap, .int .i64 n]) := by unfold Hid; rw [hw7]; exact HA6.out.old _
  have HW7 : Hid (Blk w7 (w.heap.size + 1) 44 #[.int .i64 u, .int .i64 a, .int .i64 b, .int .i64 c]) := by unfold Hid; rw [hw7]; exact HW6.out.old _
  have HP7 : Hid (Blk w7 P 29 #[.int .i64 0, .int .i64 0, .int .i64 0, .int .i64 0, .int .i64 0, .int .i64 0, .int .i64 0, .int .i64 0, .int .i64 0]) := by unfold Hid; rw [hw7]; exact HP6.out.old _
  have HQ7 : Hid (Blk w7 w6.heap.size 29 #[.int .i64 0, .int .i64 0, .int .i64 0, .int .i64 0, .int .i64 0, .int .i64 0, .int .i64 0, .int .i64 0, .int .i64 0]) := by unfold Hid; rw [hw7]; exact Blk.new _ _ _
  obtain ⟨Q, hQ⟩ : ∃ P, P = w6.heap.size := ⟨_, rfl⟩
  rw [← hQ] at HQ7
  go_upto_region 6 with fail
  rw [← hw7, ← hQ]
  clear hw7 hQ
  obtain ⟨x0, x1, x2, x3⟩ := HX.out _ HA7.out
  obtain ⟨y0, y1, y2, y3⟩ := HY.out _ HW7.out
  go_wp2_with fail
  go_at_call 16
  refine (H3.out w7 HB7.out).mono ?_
  rintro e w8 ⟨rfl, hb⟩
  have HB8 : Hid (Below w.heap.size w w8) := HB7.out.trans (hb.mono HB7.out.size)
  have HA8 : Hid (Blk w8 w.heap.size 24 #[.int .i64 k, .slice sao sl scap, .slice tao tl tcap, .int .i64 n]) := HA7.out.below hb
  have HW8 : Hid (Blk w8 (w.heap.size + 1) 44 #[.int .i64 u, .int .i64 a, .int .i64 b, .int .i64 c]) := HW7.out.below hb
  have HP8 : Hid (Blk w8 P 29 #[.int .i64 0, .int .i64 0, .int .i64 0, .int .i64 0, .int .i64 0, .int .i64 0, .int .i64 0, .int .i64 0, .int .i64 0]) := HP7.out.below hb
  have HQ8 : Hid (Blk w8 Q 29 #[.int .i64 0, .int .i64 0, .int .i64 0, .int .i64 0, .int .i64 0, .int .i64 0, .int .i64 0, .int .i64 0, .int .i64 0]) := HQ7.out.below hb
  clear hb
  clear x0 x1 x2 x3 y0 y1 y2 y3
  go_wp2
  go_region
  go_wp2
  go_ret
  exact ⟨rfl, HB8.out.drew⟩

set_option maxHeartbeats 8000000 in
theorem rowsSay_W (k n u a b c : Int) (T1 T2 : Nat → Int) (m1 m2 : Int) (sao tao : Option Addr) (sl scap tl tcap : Nat) (w : World)
    (H0 : Hid (∀ W, Below w.heap.size w W → Calls Tryd.prog 10 #[.agg #[.int .i64 3, .slice (some ⟨W.heap.size, 0, none⟩) 1 1, .slice none 0 0, .int .i64 2], .bool true] (W.alloc (.cells #[.int .i64 0] 3)) fun e w' => e = .returned (.tuple #[.agg #[.int .i64 0, .int .i64 (-1), .int .i64 0, .int .i64 (-1), .int .i64 0, .int .i64 (-1), .int .i64 0, .int .i64 (-1), .int .i64 (-2)], .nilIface]) ∧ Below W.heap.size W w'))
    (H1 : Hid (∀ W, Below w.heap.size w W → Calls Tryd.prog 10 #[.agg #[.int .i64 k, .slice sao sl scap, .slice tao tl tcap, .int .i64 n], .bool true] W fun e w' => e = .returned (.tuple #[.agg #[.int .i64 (T1 0), .int .i64 (T1 1), .int .i64 (T1 2), .int .i64 (T1 3), .int .i64 (T1 4), .int .i64 (T1 5), .int .i64 (T1 6), .int .i64 (T1 7), .int .i64 m1], .nilIface]) ∧ Below W.heap.size W w'))
    (H2 : Hid (∀ W, Below w.heap.size w W → Calls Tryd.prog 10 #[.agg #[.int .i64 k, .slice sao sl scap, .slice tao tl tcap, .int .i64 n], .bool false] W fun e w' => e = .returned (.tuple #[.agg #[.int .i64 (T2 0), .int .i64 (T2 1), .int .i64 (T2 2), .int .i64 (T2 3), .int .i64 (T2 4), .int .i64 (T2 5), .int .i64 (T2 6), .int .i64 (T2 7), .int .i64 m2], .nilIface]) ∧ Below W.heap.size W w'))
    (H3 : Hid (∀ W, Below w.heap.size w W → Calls Tryd.prog 16 #[.agg #[.int .i64 k, .slice sao sl scap, .slice tao tl tcap, .int .i64 n], .agg #[.int .i64 u, .int .i64 a, .int .i64 b, .int .i64 c]] W fun e w' => e = .returned (.tuple #[.bool false, .iface 66 (.int .i64 1)]) ∧ Below W.heap.size W w')) :
    Calls Tryd.prog 4 #[.agg #[.int .i64 k, .slice sao sl scap, .slice tao tl tcap, .int .i64 n], .agg #[.int .i64 u, .int .i64 a, .int .i64 b, .int .i64 c]] w fun e w' => e = .returned (.bool true) ∧ Below w.heap.size w w' := by
  obtain ⟨w1, hw1⟩ : ∃ w1, w1 = (w.alloc (.cells #[.int .i64 k, .slice sao sl scap, .slice tao tl tcap, .int .i64 n] 24)).alloc (.cells #[.int .i64 u, .int .i64 a, .int .i64 b, .int .i64 c] 44) := ⟨_, rfl⟩
  have HB1 : Hid (Below w.heap.size w w1) := by unfold Hid; rw [hw1]; exact (below_alloc1 _ _).alloc (by simp) _
  have HA1 : Hid (Blk w1 w.heap.size 24 #[.int .i64 k, .slice sao sl scap, .slice tao tl tcap, .int .i64 n]) := by unfold Hid; rw [hw1]; exact (Blk.new _ _ _).old _
  have HW1 : Hid (Blk w1 (w.heap.size + 1) 44 #[.int .i64 u, .int .i64 a, .int .i64 b, .int .i64 c]) := by
    unfold Hid; rw [hw1]
    have := Blk.new (w.alloc (.cells #[.int .i64 k, .slice sao sl scap, .slice tao tl tcap, .int .i64 n] 24)) 44 #[.int .i64 u, .int .i64 a, .int .i64 b, .int .i64 c]
    simp only [World.size_alloc] at this
    exact this
  have HX : Hid (∀ W, Blk W w.heap.size 24 #[.int .i64 k, .slice sao sl scap, .slice tao tl tcap, .int .i64 n] → W.cell? ⟨w.heap.size, 0, none⟩ = some (.int .i64 k) ∧ W.cell? ⟨w.heap.size, 1, none⟩ = some (.slice sao sl scap) ∧ W.cell? ⟨w.heap.size, 2, none⟩ = some (.slice tao tl tcap) ∧ W.cell? ⟨w.heap.size, 3, none⟩ = some (.int .i64 n)) := fun W h => ⟨h.cell 0, h.cell 1, h.cell 2, h.cell 3⟩
  have HY : Hid (∀ W, Blk W (w.heap.size + 1) 44 #[.int .i64 u, .int .i64 a, .int .i64 b, .int .i64 c] → W.cell? ⟨w.heap.size + 1, 0, none⟩ = some (.int .i64 u) ∧ W.cell? ⟨w.heap.size + 1, 1, none⟩ = some (.int .i64 a) ∧ W.cell? ⟨w.heap.size + 1, 2, none⟩ = some (.int .i64 b) ∧ W.cell? ⟨w.heap.size + 1, 3, none⟩ = some (.int .i64 c)) := fun W h => ⟨h.cell 0, h.cell 1, h.cell 2, h.cell 3⟩
  go_enter Tryd.func4, Tryd.ntmps4
  go_upto_region 1 with fail
  rw [← hw1]
  clear hw1
  go_wp2_with fail
  go_at_call 10
  refine (H0.out w1 HB1.out).mono ?_
  rintro e w2 ⟨rfl, hb⟩
  have HB2 : Hid (Below w.heap.size w w2) := HB1.out.trans (hb.mono HB1.out.size)
  have HA2 : Hid (Blk w2 w.heap.size 24 #[.int .i64 k, .slice sao sl scap, .slice tao tl tcap, .int .i64 n]) := HA1.out.below hb
  have HW2 : Hid (Blk w2 (w.heap.size + 1) 44 #[.int .i64 u, .int .i64 a, .int .i64 b, .int .i64 c]) := HW1.out.below hb
  clear hb
  obtain ⟨w3, hw3⟩ : ∃ x, x = w2.alloc (.cells #[.int .i64 0, .int .i64 (-1), .int .i64 0, .int .i64 (-1), .int .i64 0, .int .i64 (-1), .int .i64 0, .int .i64 (-1), .int .i64 (-2)] 29) := ⟨_, rfl⟩
  have HB3 : Hid (Below w.heap.size w w3) := by unfold Hid; rw [hw3]; exact HB2.out.alloc HB2.out.size _
  have HA3 : Hid (Blk w3 w.heap.size 24 #[.int .i64 k, .slice sao sl scap, .slice tao tl tcap, .int .i64 n]) := by unfold Hid; rw [hw3]; exact HA2.out.old _
  have HW3 : Hid (Blk w3 (w.heap.size + 1) 44 #[.int .i64 u, .int .i64 a, .int .i64 b, .int .i64 c]) := by unfold Hid; rw [hw3]; exact HW2.out.old _
  have HO3 : Hid (Blk w3 w2.heap.size 29 #[.int .i64 0, .int .i64 (-1), .int .i64 0, .int .i64 (-1), .int .i64 0, .int .i64 (-1), .int .i64 0, .int .i64 (-1), .int .i64 (-2)]) := by unfold Hid; rw [hw3]; exact Blk.new _ _ _
  obtain ⟨O, hO⟩ : ∃ P, P = w2.heap.size := ⟨_, rfl⟩
  rw [← hO] at HO3
  go_upto_region 2 with fail
  rw [← hw3, ← hO]
  clear hw3 hO
  have o1 : w3.cell? ⟨O, 1, none⟩ = some (.int .i64 (-1)) := HO3.out.cell 1
  have o2 : w3.cell? ⟨O, 2, none⟩ = some (.int .i64 0) := HO3.out.cell 2
  have o7 : w3.cell? ⟨O, 7, none⟩ = some (.int .i64 (-1)) := HO3.out.cell 7
  have o8 : w3.cell? ⟨O, 8, none⟩ = some (.int .i64 (-2)) := HO3.out.cell 8
  go_upto_region 4 with fail
  clear o1 o2 o7 o8
  obtain ⟨x0, x1, x2, x3⟩ := HX.out _ HA3.out
  go_wp2_with fail
  go_at_call 10
  refine (H1.out w3 HB3.out).mono ?_
  rintro e w4 ⟨rfl, hb⟩
  have HB4 : Hid (Below w.heap.size w w4) := HB3.out.trans (hb.mono HB3.out.size)
  have HA4 : Hid (Blk w4 w.heap.size 24 #[.int .i64 k, .slice sao sl scap, .slice tao tl tcap, .int .i64 n]) := HA3.out.below hb
  have HW4 : Hid (Blk w4 (w.heap.size + 1) 44 #[.int .i64 u, .int .i64 a, .int .i64 b, .int .i64 c]) := HW3.out.below hb
  clear hb
  clear x0 x1 x2 x3
  obtain ⟨w5, hw5⟩ : ∃ x, x = w4.alloc (.cells #[.int .i64 (T1 0), .int .i64 (T1 1), .int .i64 (T1 2), .int .i64 (T1 3), .int .i64 (T1 4), .int .i64 (T1 5), .int .i64 (T1 6), .int .i64 (T1 7), .int .i64 m1] 29) := ⟨_, rfl⟩
  have HB5 : Hid (Below w.heap.size w w5) := by unfold Hid; rw [hw5]; exact HB4.out.alloc HB4.out.size _
  have HA5 : Hid (Blk w5 w.heap.size 24 #[.int .i64 k, .slice sao sl scap, .slice tao tl tcap, .int .i64 n]) := by unfold Hid; rw [hw5]; exact HA4.out.old _
  have HW5 : Hid (Blk w5 (w.heap.size + 1) 44 #[.int .i64 u, .int .i64 a, .int .i64 b, .int .i64 c]) := by unfold Hid; rw [hw5]; exact HW4.out.old _
  have HP5 : Hid (Blk w5 w4.heap.size 29 (arrR T1 m1)) := by unfold Hid; rw [hw5]; exact Blk.new _ _ _
  obtain ⟨P, hP⟩ : ∃ P, P = w4.heap.size := ⟨_, rfl⟩
  rw [← hP] at HP5
  go_upto_region 5 with fail
  rw [← hw5, ← hP]
  clear hw5 hP
  obtain ⟨x0, x1, x2, x3⟩ := HX.out _ HA5.out
  go_wp2_with fail
  go_at_call 10
  refine (H2.out w5 HB5.out).mono ?_
  rintro e w6 ⟨rfl, hb⟩
  have HB6 : Hid (Below w.heap.size w w6) := HB5.out.trans (hb.mono HB5.out.size)
  have HA6 : Hid (Blk w6 w.heap.size 24 #[.int .i64 k, .slice sao sl scap, .slice tao tl tcap, .int .i64 n]) := HA5.out.below hb
  have HW6 : Hid (Blk w6 (w.heap.size + 1) 44 #[.int .i64 u, .int .i64 a, .int .i64 b, .int .i64 c]) := HW5.out.below hb
  have HP6 : Hid (Blk w6 P 29 (arrR T1 m1)) := HP5.out.below hb
  clear hb
  clear x0 x1 x2 x3
  obtain ⟨w7, hw7⟩ : ∃ x, x = w6.alloc (.cells #[.int .i64 (T2 0), .int .i64 (T2 1), .int .i64 (T2 2), .int .i64 (T2 3), .int .i64 (T2 4), .int .i64 (T2 5), .int .i64 (T2 6), .int .i64 (T2 7), .int .i64 m2] 29) := ⟨_, rfl⟩
  have HB7 : Hid (Below w.heap.size w w7) := by unfold Hid; rw [hw7]; exact HB6.out.alloc HB6.out.size _
  have HA7 : Hid (Blk w7 w.heap.size 24 #[.int .i64 k, .slice sao sl scap, .slice tao tl tcap, .int .i64 n]) := by unfold Hid; rw [hw7]; exact HA6.out.old _
  have HW7 : Hid (Blk w7 (w.heap.size + 1) 44 #[.int .i64 u, .int .i64 a, .int .i64 b, .int .i64 c]) := by unfold Hid; rw [hw7]; exact HW6.out.old _
  have HP7 : Hid (Blk w7 P 29 (arrR T1 m1)) := by unfold Hid; rw [hw7]; exact HP6.out.old _
  have HQ7 : Hid (Blk w7 w6.heap.size 29 (arrR T2 m2)) := by unfold Hid; rw [hw7]; exact Blk.new _ _ _
  obtain ⟨Q, hQ⟩ : ∃ P, P = w6.heap.size := ⟨_, rfl⟩
  rw [← hQ] at HQ7
  go_upto_region 6 with fail
  rw [← hw7, ← hQ]
  clear hw7 hQ
  obtain ⟨x0, x1, x2, x3⟩ := HX.out _ HA7.out
  obtain ⟨y0, y1, y2, y3⟩ := HY.out _ HW7.out
  go_wp2_with fail
  go_at_call 16
  refine (H3.out w7 HB7.out).mono ?_
  rintro e w8 ⟨rfl, hb⟩
  have HB8 : Hid (Below w.heap.size w w8) := HB7.out.trans (hb.mono HB7.out.size)
  have HA8 : Hid (Blk w8 w.heap.size 24 #[.int .i64 k, .slice sao sl scap, .slice tao tl tcap, .int .i64 n]) := HA7.out.below hb
  have HW8 : Hid (Blk w8 (w.heap.size + 1) 44 #[.int .i64 u, .int .i64 a, .int .i64 b, .int .i64 c]) := HW7.out.below hb
  have HP8 : Hid (Blk w8 P 29 (arrR T1 m1)) := HP7.out.below hb
  have HQ8 : Hid (Blk w8 Q 29 (arrR T2 m2)) := HQ7.out.below hb
  clear hb
  clear x0 x1 x2 x3 y0 y1 y2 y3
  go_wp2
  go_region
  go_wp2
  go_ret
  exact ⟨rfl, HB8.out.drew⟩

set_option maxHeartbeats 8000000 in
theorem rowsSay_G (k n u a b c : Int) (T1 T2 C : Nat → Int) (m1 m2 : Int) (I : Bool) (sao tao : Option Addr) (sl scap tl tcap : Nat) (w : World)
    (H0 : Hid (∀ W, Below w.heap.size w W → Calls Tryd.prog 10 #[.agg #[.int .i64 3, .slice (some ⟨W.heap.size, 0, none⟩) 1 1, .slice none 0 0, .int .i64 2], .bool true] (W.alloc (.cells #[.int .i64 0] 3)) fun e w' => e = .returned (.tuple #[.agg #[.int .i64 0, .int .i64 (-1), .int .i64 0, .int .i64 (-1), .int .i64 0, .int .i64 (-1), .int .i64 0, .int .i64 (-1), .int .i64 (-2)], .nilIface]) ∧ Below W.heap.size W w'))
    (H1 : Hid (∀ W, Below w.heap.size w W → Calls Tryd.prog 10 #[.agg #[.int .i64 k, .slice sao sl scap, .slice tao tl tcap, .int .i64 n], .bool true] W fun e w' => e = .returned (.tuple #[.agg #[.int .i64 (T1 0), .int .i64 (T1 1), .int .i64 (T1 2), .int .i64 (T1 3), .int .i64 (T1 4), .int .i64 (T1 5), .int .i64 (T1 6), .int .i64 (T1 7), .int .i64 m1], .nilIface]) ∧ Below W.heap.size W w'))
    (H2 : Hid (∀ W, Below w.heap.size w W → Calls Tryd.prog 10 #[.agg #[.int .i64 k, .slice sao sl scap, .slice tao tl tcap, .int .i64 n], .bool false] W fun e w' => e = .returned (.tuple #[.agg #[.int .i64 (T2 0), .int .i64 (T2 1), .int .i64 (T2 2), .int .i64 (T2 3), .int .i64 (T2 4), .int .i64 (T2 5), .int .i64 (T2 6), .int .i64 (T2 7), .int .i64 m2], .nilIface]) ∧ Below W.heap.size W w'))
    (H3 : Hid (∀ W, Below w.heap.size w W → Calls Tryd.prog 16 #[.agg #[.int .i64 k, .slice sao sl scap, .slice tao tl tcap, .int .i64 n], .agg #[.int .i64 u, .int .i64 a, .int .i64 b, .int .i64 c]] W fun e w' => e = .returned (.tuple #[.bool I, .nilIface]) ∧ Below W.heap.size W w'))
    (H4 : Hid (∀ W, Below w.heap.size w W → Calls Tryd.prog 17 #[.agg #[.int .i64 u, .int .i64 a, .int .i64 b, .int .i64 c]] W fun e w' => e = .returned (.tuple #[.agg #[.int .i64 (C 0), .int .i64 (C 1), .int .i64 (C 2), .int .i64 (C 3), .int .i64 (C 4), .int .i64 (C 5), .int .i64 (C 6), .int .i64 (C 7)], .nilIface]) ∧ Below W.heap.size W w'))
    (H5 : Hid (∀ W, Below w.heap.size w W → Calls Tryd.prog 15 #[.slice (some ⟨W.heap.size, 0, none⟩) 1 1, .agg #[.int .i64 (C 0), .int .i64 (C 1), .int .i64 (C 2), .int .i64 (C 3), .int .i64 (C 4), .int .i64 (C 5), .int .i64 (C 6), .int .i64 (C 7)]] (W.alloc (.cells #[.int .i64 (T1 0), .int .i64 (T1 1), .int .i64 (T1 2), .int .i64 (T1 3), .int .i64 (T1 4), .int .i64 (T1 5), .int .i64 (T1 6), .int .i64 (T1 7), .int .i64 m1] 29)) fun e w' => e = .returned (.tuple #[.bool I, .nilIface]) ∧ Below W.heap.size W w'))
    (H6 : Hid (∀ W, Below w.heap.size w W → Calls Tryd.prog 15 #[.slice (some ⟨W.heap.size, 0, none⟩) 1 1, .agg #[.int .i64 (C 0), .int .i64 (C 1), .int .i64 (C 2), .int .i64 (C 3), .int .i64 (C 4), .int .i64 (C 5), .int .i64 (C 6), .int .i64 (C 7)]] (W.alloc (.cells #[.int .i64 (T2 0), .int .i64 (T2 1), .int .i64 (T2 2), .int .i64 (T2 3), .int .i64 (T2 4), .int .i64 (T2 5), .int .i64 (T2 6), .int .i64 (T2 7), .int .i64 m2] 29)) fun e w' => e = .returned (.tuple #[.bool (!I), .nilIface]) ∧ Below W.heap.size W w')) :
    Calls Tryd.prog 4 #[.agg #[.int .i64 k, .slice sao sl scap, .slice tao tl tcap, .int .i64 n], .agg #[.int .i64 u, .int .i64 a, .int .i64 b, .int .i64 c]] w fun e w' => e = .returned (.bool true) ∧ Below w.heap.size w w' := by
  obtain ⟨w1, hw1⟩ : ∃ w1, w1 = (w.alloc (.cells #[.int .i64 k, .slice sao sl scap, .slice tao tl tcap, .int .i64 n] 24)).alloc (.cells #[.int .i64 u, .int .i64 a, .int .i64 b, .int .i64 c] 44) := ⟨_, rfl⟩
  have HB1 : Hid (Below w.heap.size w w1) := by unfold Hid; rw [hw1]; exact (below_alloc1 _ _).alloc (by simp) _
  have HA1 : Hid (Blk w1 w.heap.size 24 #[.int .i64 k, .slice sao sl scap, .slice tao tl tcap, .int .i64 n]) := by unfold Hid; rw [hw1]; exact (Blk.new _ _ _).old _
  have HW1 : Hid (Blk w1 (w.heap.size + 1) 44 #[.int .i64 u, .int .i64 a, .int .i64 b, .int .i64 c]) := by
    unfold Hid; rw [hw1]
    have := Blk.new (w.alloc (.cells #[.int .i64 k, .slice sao sl scap, .slice tao tl tcap, .int .i64 n] 24)) 44 #[.int .i64 u, .int .i64 a, .int .i64 b, .int .i64 c]
    simp only [World.size_alloc] at this
    exact this
  have HX : Hid (∀ W, Blk W w.heap.size 24 #[.int .i64 k, .slice sao sl scap, .slice tao tl tcap, .int .i64 n] → W.cell? ⟨w.heap.size, 0, none⟩ = some (.int .i64 k) ∧ W.cell? ⟨w.heap.size, 1, none⟩ = some (.slice sao sl scap) ∧ W.cell? ⟨w.heap.size, 2, none⟩ = some (.slice tao tl tcap) ∧ W.cell? ⟨w.heap.size, 3, none⟩ = some (.int .i64 n)) := fun W h => ⟨h.cell 0, h.cell 1, h.cell 2, h.cell 3⟩
  have HY : Hid (∀ W, Blk W (w.heap.size + 1) 44 #[.int .i64 u, .int .i64 a, .int .i64 b, .int .i64 c] → W.cell? ⟨w.heap.size + 1, 0, none⟩ = some (.int .i64 u) ∧ W.cell? ⟨w.heap.size + 1, 1, none⟩ = some (.int .i64 a) ∧ W.cell? ⟨w.heap.size + 1, 2, none⟩ = some (.int .i64 b) ∧ W.cell? ⟨w.heap.size + 1, 3, none⟩ = some (.int .i64 c)) := fun W h => ⟨h.cell 0, h.cell 1, h.cell 2, h.cell 3⟩
  go_enter Tryd.func4, Tryd.ntmps4
  go_upto_region 1 with fail
  rw [← hw1]
  clear hw1
  go_wp2_with fail
  go_at_call 10
  refine (H0.out w1 HB1.out).mono ?_
  rintro e w2 ⟨rfl, hb⟩
  have HB2 : Hid (Below w.heap.size w w2) := HB1.out.trans (hb.mono HB1.out.size)
  have HA2 : Hid (Blk w2 w.heap.size 24 #[.int .i64 k, .slice sao sl scap, .slice tao tl tcap, .int .i64 n]) := HA1.out.below hb
  have HW2 : Hid (Blk w2 (w.heap.size + 1) 44 #[.int .i64 u, .int .i64 a, .int .i64 b, .int .i64 c]) := HW1.out.below hb
  clear hb
  obtain ⟨w3, hw3⟩ : ∃ x, x = w2.alloc (.cells #[.int .i64 0, .int .i64 (-1), .int .i64 0, .int .i64 (-1), .int .i64 0, .int .i64 (-1), .int .i64 0, .int .i64 (-1), .int .i64 (-2)] 29) := ⟨_, rfl⟩
  have HB3 : Hid (Below w.heap.size w w3) := by unfold Hid; rw [hw3]; exact HB2.out.alloc HB2.out.size _
  have HA3 : Hid (Blk w3 w.heap.size 24 #[.int .i64 k, .slice sao sl scap, .slice tao tl tcap, .int .i64 n]) := by unfold Hid; rw [hw3]; exact HA2.out.old _
  have HW3 : Hid (Blk w3 (w.heap.size + 1) 44 #[.int .i64 u, .int .i64 a, .int .i64 b, .int .i64 c]) := by unfold Hid; rw [hw3]; exact HW2.out.old _
  have HO3 : Hid (Blk w3 w2.heap.size 29 #[.int .i64 0, .int .i64 (-1), .int .i64 0, .int .i64 (-1), .int .i64 0, .int .i64 (-1), .int .i64 0, .int .i64 (-1), .int .i64 (-2)]) := by unfold Hid; rw [hw3]; exact Blk.new _ _ _
  obtain ⟨O, hO⟩ : ∃ P, P = w2.heap.size := ⟨_, rfl⟩
  rw [← hO] at HO3
  go_upto_region 2 with fail
  rw [← hw3, ← hO]
  clear hw3 hO
  have o1 : w3.cell? ⟨O, 1, none⟩ = some (.int .i64 (-1)) := HO3.out.cell 1
  have o2 : w3.cell? ⟨O, 2, none⟩ = some (.int .i64 0) := HO3.out.cell 2
  have o7 : w3.cell? ⟨O, 7, none⟩ = some (.int .i64 (-1)) := HO3.out.cell 7
  have o8 : w3.cell? ⟨O, 8, none⟩ = some (.int .i64 (-2)) := HO3.out.cell 8
  go_upto_region 4 with fail
  clear o1 o2 o7 o8
  obtain ⟨x0, x1, x2, x3⟩ := HX.out _ HA3.out
  go_wp2_with fail
  go_at_call 10
  refine (H1.out w3 HB3.out).mono ?_
  rintro e w4 ⟨rfl, hb⟩
  have HB4 : Hid (Below w.heap.size w w4) := HB3.out.trans (hb.mono HB3.out.size)
  have HA4 : Hid (Blk w4 w.heap.size 24 #[.int .i64 k, .slice sao sl scap, .slice tao tl tcap, .int .i64 n]) := HA3.out.below hb
  have HW4 : Hid (Blk w4 (w.heap.size + 1) 44 #[.int .i64 u, .int .i64 a, .int .i64 b, .int .i64 c]) := HW3.out.below hb
  clear hb
  clear x0 x1 x2 x3
  obtain ⟨w5, hw5⟩ : ∃ x, x = w4.alloc (.cells #[.int .i64 (T1 0), .int .i64 (T1 1), .int .i64 (T1 2), .int .i64 (T1 3), .int .i64 (T1 4), .int .i64 (T1 5), .int .i64 (T1 6), .int .i64 (T1 7), .int .i64 m1] 29) := ⟨_, rfl⟩
  have HB5 : Hid (Below w.heap.size w w5) := by unfold Hid; rw [hw5]; exact HB4.out.alloc HB4.out.size _
  have HA5 : Hid (Blk w5 w.heap.size 24 #[.int .i64 k, .slice sao sl scap, .slice tao tl tcap, .int .i64 n]) := by unfold Hid; rw [hw5]; exact HA4.out.old _
  have HW5 : Hid (Blk w5 (w.heap.size + 1) 44 #[.int .i64 u, .int .i64 a, .int .i64 b, .int .i64 c]) := by unfold Hid; rw [hw5]; exact HW4.out.old _
  have HP5 : Hid (Blk w5 w4.heap.size 29 (arrR T1 m1)) := by unfold Hid; rw [hw5]; exact Blk.new _ _ _
  obtain ⟨P, hP⟩ : ∃ P, P = w4.heap.size := ⟨_, rfl⟩
  rw [← hP] at HP5
  go_upto_region 5 with fail
  rw [← hw5, ← hP]
  clear hw5 hP
  obtain ⟨x0, x1, x2, x3⟩ := HX.out _ HA5.out
  go_wp2_with fail
  go_at_call 10
  refine (H2.out w5 HB5.out).mono ?_
  rintro e w6 ⟨rfl, hb⟩
  have HB6 : Hid (Below w.heap.size w w6) := HB5.out.trans (hb.mono HB5.out.size)
  have HA6 : Hid (Blk w6 w.heap.size 24 #[.int .i64 k, .slice sao sl scap, .slice tao tl tcap, .int .i64 n]) := HA5.out.below hb
  have HW6 : Hid (Blk w6 (w.heap.size + 1) 44 #[.int .i64 u, .int .i64 a, .int .i64 b, .int .i64 c]) := HW5.out.below hb
  have HP6 : Hid (Blk w6 P 29 (arrR T1 m1)) := HP5.out.below hb
  clear hb
  clear x0 x1 x2 x3
  obtain ⟨w7, hw7⟩ : ∃ x, x = w6.alloc (.cells #[.int .i64 (T2 0), .int .i64 (T2 1), .int .i64 (T2 2), .int .i64 (T2 3), .int .i64 (T2 4), .int .i64 (T2 5), .int .i64 (T2 6), .int .i64 (T2 7), .int .i64 m2] 29) := ⟨_, rfl⟩
  have HB7 : Hid (Below w.heap.size w w7) := by unfold Hid; rw [hw7]; exact HB6.out.alloc HB6.out.size _
  have HA7 : Hid (Blk w7 w.heap.size 24 #[.int .i64 k, .slice sao sl scap, .slice tao tl tcap, .int .i64 n]) := by unfold Hid; rw [hw7]; exact HA6.out.old _
  have HW7 : Hid (Blk w7 (w.heap.size + 1) 44 #[.int .i64 u, .int .i64 a, .int .i64 b, .int .i64 c]) := by unfold Hid; rw [hw7]; exact HW6.out.old _
  have HP7 : Hid (Blk w7 P 29 (arrR T1 m1)) := by unfold Hid; rw [hw7]; exact HP6.out.old _
  have HQ7 : Hid (Blk w7 w6.heap.size 29 (arrR T2 m2)) := by unfold Hid; rw [hw7]; exact Blk.new _ _ _
  obtain ⟨Q, hQ⟩ : ∃ P, P = w6.heap.size := ⟨_, rfl⟩
  rw [← hQ] at HQ7
  go_upto_region 6 with fail
  rw [← hw7, ← hQ]
  clear hw7 hQ
  obtain ⟨x0, x1, x2, x3⟩ := HX.out _ HA7.out
  obtain ⟨y0, y1, y2, y3⟩ := HY.out _ HW7.out
  go_wp2_with fail
  go_at_call 16
  refine (H3.out w7 HB7.out).mono ?_
  rintro e w8 ⟨rfl, hb⟩
  have HB8 : Hid (Below w.heap.size w w8) := HB7.out.trans (hb.mono HB7.out.size)
  have HA8 : Hid (Blk w8 w.heap.size 24 #[.int .i64 k, .slice sao sl scap, .slice tao tl tcap, .int .i64 n]) := HA7.out.below hb
  have HW8 : Hid (Blk w8 (w.heap.size + 1) 44 #[.int .i64 u, .int .i64 a, .int .i64 b, .int .i64 c]) := HW7.out.below hb
  have HP8 : Hid (Blk w8 P 29 (arrR T1 m1)) := HP7.out.below hb
  have HQ8 : Hid (Blk w8 Q 29 (arrR T2 m2)) := HQ7.out.below hb
  clear hb
  clear x0 x1 x2 x3 y0 y1 y2 y3
  obtain ⟨y0, y1, y2, y3⟩ := HY.out _ HW8.out
  go_wp2_with fail
  go_at_call 17
  refine (H4.out w8 HB8.out).mono ?_
  rintro e w9 ⟨rfl, hb⟩
  have HB9 : Hid (Below w.heap.size w w9) := HB8.out.trans (hb.mono HB8.out.size)
  have HA9 : Hid (Blk w9 w.heap.size 24 #[.int .i64 k, .slice sao sl scap, .slice tao tl tcap, .int .i64 n]) := HA8.out.below hb
  have HW9 : Hid (Blk w9 (w.heap.size + 1) 44 #[.int .i64 u, .int .i64 a, .int .i64 b, .int .i64 c]) := HW8.out.below hb
  have HP9 : Hid (Blk w9 P 29 (arrR T1 m1)) := HP8.out.below hb
  have HQ9 : Hid (Blk w9 Q 29 (arrR T2 m2)) := HQ8.out.below hb
  clear hb
  clear y0 y1 y2 y3
  obtain ⟨w10, hw10⟩ : ∃ x, x = w9.alloc (.cells #[.int .i64 (C 0), .int .i64 (C 1), .int .i64 (C 2), .int .i64 (C 3), .int .i64 (C 4), .int .i64 (C 5), .int .i64 (C 6), .int .i64 (C 7)] 26) := ⟨_, rfl⟩
  have HB10 : Hid (Below w.heap.size w w10) := by unfold Hid; rw [hw10]; exact HB9.out.alloc HB9.out.size _
  have HA10 : Hid (Blk w10 w.heap.size 24 #[.int .i64 k, .slice sao sl scap, .slice tao tl tcap, .int .i64 n]) := by unfold Hid; rw [hw10]; exact HA9.out.old _
  have HW10 : Hid (Blk w10 (w.heap.size + 1) 44 #[.int .i64 u, .int .i64 a, .int .i64 b, .int .i64 c]) := by unfold Hid; rw [hw10]; exact HW9.out.old _
  have HP10 : Hid (Blk w10 P 29 (arrR T1 m1)) := by unfold Hid; rw [hw10]; exact HP9.out.old _
  have HQ10 : Hid (Blk w10 Q 29 (arrR T2 m2)) := by unfold Hid; rw [hw10]; exact HQ9.out.old _
  have HM10 : Hid (Blk w10 w9.heap.size 26 (arr8 C)) := by unfold Hid; rw [hw10]; exact Blk.new _ _ _
  obtain ⟨M, hM⟩ : ∃ P, P = w9.heap.size := ⟨_, rfl⟩
  rw [← hM] at HM10
  go_upto_region 10 with fail
  rw [← hw10, ← hM]
  clear hw10 hM
  obtain ⟨p0, p1, p2, p3, p4, p5, p6, p7, p8⟩ := HP10.out.cells9
  obtain ⟨d0, d1, d2, d3, d4, d5, d6, d7⟩ := (HM10.out.old (.cells #[.int .i64 (T1 0), .int .i64 (T1 1), .int .i64 (T1 2), .int .i64 (T1 3), .int .i64 (T1 4), .int .i64 (T1 5), .int .i64 (T1 6), .int .i64 (T1 7), .int .i64 m1] 29)).cells8
  go_wp2_with fail
  go_at_call 15
  refine (H5.out w10 HB10.out).mono ?_
  rintro e w11 ⟨rfl, hb⟩
  have HB11 : Hid (Below w.heap.size w w11) := HB10.out.trans (hb.mono HB10.out.size)
  have HA11 : Hid (Blk w11 w.heap.size 24 #[.int .i64 k, .slice sao sl scap, .slice tao tl tcap, .int .i64 n]) := HA10.out.below hb
  have HW11 : Hid (Blk w11 (w.heap.size + 1) 44 #[.int .i64 u, .int .i64 a, .int .i64 b, .int .i64 c]) := HW10.out.below hb
  have HP11 : Hid (Blk w11 P 29 (arrR T1 m1)) := HP10.out.below hb
  have HQ11 : Hid (Blk w11 Q 29 (arrR T2 m2)) := HQ10.out.below hb
  have HM11 : Hid (Blk w11 M 26 (arr8 C)) := HM10.out.below hb
  clear hb
  clear p0 p1 p2 p3 p4 p5 p6 p7 p8 d0 d1 d2 d3 d4 d5 d6 d7
  obtain ⟨q0, q1, q2, q3, q4, q5, q6, q7, q8⟩ := HQ11.out.cells9
  obtain ⟨d0, d1, d2, d3, d4, d5, d6, d7⟩ := (HM11.out.old (.cells #[.int .i64 (T2 0), .int .i64 (T2 1), .int .i64 (T2 2), .int .i64 (T2 3), .int .i64 (T2 4), .int .i64 (T2 5), .int .i64 (T2 6), .int .i64 (T2 7), .int .i64 m2] 29)).cells8
  go_wp2_with fail
  go_at_call 15
  refine (H6.out w11 HB11.out).mono ?_
  rintro e w12 ⟨rfl, hb⟩
  have HB12 : Hid (Below w.heap.size w w12) := HB11.out.trans (hb.mono HB11.out.size)
  have HA12 : Hid (Blk w12 w.heap.size 24 #[.int .i64 k, .slice sao sl scap, .slice tao tl tcap, .int .i64 n]) := HA11.out.below hb
  have HW12 : Hid (Blk w12 (w.heap.size + 1) 44 #[.int .i64 u, .int .i64 a, .int .i64 b, .int .i64 c]) := HW11.out.below hb
  have HP12 : Hid (Blk w12 P 29 (arrR T1 m1)) := HP11.out.below hb
  have HQ12 : Hid (Blk w12 Q 29 (arrR T2 m2)) := HQ11.out.below hb
  have HM12 : Hid (Blk w12 M 26 (arr8 C)) := HM11.out.below hb
  clear hb
  clear q0 q1 q2 q3 q4 q5 q6 q7 q8 d0 d1 d2 d3 d4 d5 d6 d7
  cases I
  · go_wp2
    go_ret
    exact ⟨rfl, HB12.out⟩
  · go_wp2
    go_ret
    exact ⟨rfl, HB12.out⟩

end Go.Proofs.YtenmheenieifpadDoor
