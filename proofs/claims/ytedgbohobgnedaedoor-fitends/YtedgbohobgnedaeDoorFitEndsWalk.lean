/-
  Proved: vennlaw4.FitEnds returns true, of any number of things, what was in memory is as it was (the walk that the statement leans on).
-/
import Derived.Test.YtedgbohobgnedaeDoorFitMath
import Derived.Test.YtedgbohobgnedaeDoorFieldsBlk
import Derived.Test.YtedgbohobgnedaeDoorSame
import Derived.Test.YtedgbohobgnedaeDoorFitFirst
import Derived.Test.YtedgbohobgnedaeDoorFitNext
import Derived.Deep.Cut
namespace Go.Proofs.YtedgbohobgnedaeDoor
open Go.ChangeShapes Go.WideShapes Go.ChangeAt Go.RowKit
set_option maxRecDepth 100000

theorem errV_some {n : Int} (h : ¬ n = 0) : errV n = .iface 37 (.int .i64 n) := by unfold errV; rw [if_neg h]
theorem eerror_no (n : Int) (w : World) (hg : Laid w) : Calls Tryd.prog 6 #[.iface 37 (.int .i64 n), .int .i64 n] w fun e w' => e = .returned (.bool true) ∧ Below w.heap.size w w' := by
  have := same_err n n w hg
  rw [beq_self_eq_true] at this; exact this

set_option maxHeartbeats 4000000 in
theorem fitEnds_out (u : Int) (hu : u < 0 ∨ 6 < u) (Z : Nat → Int) (w : World)
    (H1 : Hid (∀ W, Below w.heap.size w W → Calls Tryd.prog 4 #[.int .i64 u, .slice none 0 0] W fun e w' => e = .returned (.tuple #[.agg #[.int .i64 (Z 0), .int .i64 (Z 1), .int .i64 (Z 2), .int .i64 (Z 3), .int .i64 (Z 4), .int .i64 (Z 5), .int .i64 (Z 6), .int .i64 (Z 7)], .iface 37 (.int .i64 1)]) ∧ Below W.heap.size W w')) :
    Calls Tryd.prog 3 #[.int .i64 u] w fun e w' => e = .returned (.bool true) ∧ Below w.heap.size w w' := by
  rcases hu with hu | hu
  · go_enter Tryd.func3, Tryd.ntmps3
    go_wp2_with fail
    go_at_call 4
    refine (H1.out _ (Below.refl _ _)).mono ?_
    rintro e w2 ⟨rfl, hb⟩
    have HB : Hid (Below w.heap.size w w2) := hb
    clear hb
    go_wp2
    go_ret
    exact ⟨rfl, HB.out.alloc HB.out.size _⟩
  · have hu0 : ¬ (u < 0) := by omega
    go_enter Tryd.func3, Tryd.ntmps3
    go_wp2_with fail
    go_at_call 4
    refine (H1.out _ (Below.refl _ _)).mono ?_
    rintro e w2 ⟨rfl, hb⟩
    have HB : Hid (Below w.heap.size w w2) := hb
    clear hb
    go_wp2
    go_ret
    exact ⟨rfl, HB.out.alloc HB.out.size _⟩

set_option maxHeartbeats 4000000 in
theorem fitEnds_in (u : Nat) (X Z : Nat → Int) (h7 : X 7 = u) (w : World)
    (H1 : Hid (∀ W, Below w.heap.size w W → Calls Tryd.prog 4 #[.int .i64 u, .slice none 0 0] W fun e w' => e = .returned (.tuple #[.agg #[.int .i64 (X 0), .int .i64 (X 1), .int .i64 (X 2), .int .i64 (X 3), .int .i64 (X 4), .int .i64 (X 5), .int .i64 (X 6), .int .i64 (X 7)], .nilIface]) ∧ Below W.heap.size W w'))
    (H2 : Hid (∀ W, Below w.heap.size w W → Calls Tryd.prog 5 #[.int .i64 u, .agg #[.int .i64 u, .int .i64 0, .int .i64 0, .int .i64 0, .int .i64 0, .int .i64 0, .int .i64 0, .int .i64 0]] W fun e w' => e = .returned (.tuple #[.agg #[.int .i64 (Z 0), .int .i64 (Z 1), .int .i64 (Z 2), .int .i64 (Z 3), .int .i64 (Z 4), .int .i64 (Z 5), .int .i64 (Z 6), .int .i64 (Z 7)], .iface 37 (.int .i64 5)]) ∧ Below W.heap.size W w'))
    (H3 : Hid (∀ W, Below w.heap.size w W → Calls Tryd.prog 6 #[.iface 37 (.int .i64 5), .int .i64 5] W fun e w' => e = .returned (.bool true) ∧ Below W.heap.size W w')) :
    Calls Tryd.prog 3 #[.int .i64 u] w fun e w' => e = .returned (.bool true) ∧ Below w.heap.size w w' := by
  have H7 : Hid (X 7 = u) := h7
  clear h7
  go_enter Tryd.func3, Tryd.ntmps3
  go_wp2_with fail
  go_at_call 4
  refine (H1.out _ (Below.refl _ _)).mono ?_
  rintro e w2 ⟨rfl, hb⟩
  have HB2 : Hid (Below w.heap.size w w2) := hb
  clear hb
  obtain ⟨w3, hw3⟩ : ∃ x, x = (w2.alloc (.cells #[.int .i64 (X 0), .int .i64 (X 1), .int .i64 (X 2), .int .i64 (X 3), .int .i64 (X 4), .int .i64 (X 5), .int .i64 (X 6), .int .i64 (X 7)] 22)).alloc (.cells #[.int .i64 u, .int .i64 0, .int .i64 0, .int .i64 0, .int .i64 0, .int .i64 0, .int .i64 0, .int .i64 0] 22) := ⟨_, rfl⟩
  have HB3 : Hid (Below w.heap.size w w3) := by unfold Hid; rw [hw3]; exact (HB2.out.alloc HB2.out.size _).alloc (by have := HB2.out.size; simp; omega) _
  have HX3 : Hid (Blk w3 w2.heap.size 22 (arr8 X)) := by unfold Hid; rw [hw3]; exact (Blk.new _ _ _).old _
  have HY3 : Hid (Blk w3 (w2.heap.size + 1) 22 #[.int .i64 u, .int .i64 0, .int .i64 0, .int .i64 0, .int .i64 0, .int .i64 0, .int .i64 0, .int .i64 0]) := by
    unfold Hid; rw [hw3]
    have := Blk.new (w2.alloc (.cells (arr8 X) 22)) 22 #[.int .i64 u, .int .i64 0, .int .i64 0, .int .i64 0, .int .i64 0, .int .i64 0, .int .i64 0, .int .i64 0]
    simp only [World.size_alloc] at this
    exact this
  obtain ⟨P, hP⟩ : ∃ P, P = w2.heap.size := ⟨_, rfl⟩
  rw [← hP] at HX3 HY3
  go_upto_region 6 with fail
  rw [← hw3, ← hP]
  clear hw3 hP
  have y0 : w3.cell? ⟨P + 1, 0, none⟩ = some (.int .i64 u) := HY3.out.cell 0
  have y1 : w3.cell? ⟨P + 1, 1, none⟩ = some (.int .i64 0) := HY3.out.cell 1
  have y2 : w3.cell? ⟨P + 1, 2, none⟩ = some (.int .i64 0) := HY3.out.cell 2
  have y3 : w3.cell? ⟨P + 1, 3, none⟩ = some (.int .i64 0) := HY3.out.cell 3
  have y4 : w3.cell? ⟨P + 1, 4, none⟩ = some (.int .i64 0) := HY3.out.cell 4
  have y5 : w3.cell? ⟨P + 1, 5, none⟩ = some (.int .i64 0) := HY3.out.cell 5
  have y6 : w3.cell? ⟨P + 1, 6, none⟩ = some (.int .i64 0) := HY3.out.cell 6
  have y7 : w3.cell? ⟨P + 1, 7, none⟩ = some (.int .i64 0) := HY3.out.cell 7
  go_wp2_with fail
  go_at_call 5
  refine (H2.out _ HB3.out).mono ?_
  rintro e w4 ⟨rfl, hb⟩
  have HB4 : Hid (Below w.heap.size w w4) := HB3.out.trans (hb.mono HB3.out.size)
  have HX4 : Hid (Blk w4 P 22 (arr8 X)) := HX3.out.below hb
  clear hb y0 y1 y2 y3 y4 y5 y6 y7
  obtain ⟨w5, hw5⟩ : ∃ x, x = w4.alloc (.cells #[.int .i64 (Z 0), .int .i64 (Z 1), .int .i64 (Z 2), .int .i64 (Z 3), .int .i64 (Z 4), .int .i64 (Z 5), .int .i64 (Z 6), .int .i64 (Z 7)] 22) := ⟨_, rfl⟩
  have HB5 : Hid (Below w.heap.size w w5) := by unfold Hid; rw [hw5]; exact HB4.out.alloc HB4.out.size _
  have x7 : w5.cell? ⟨P, 7, none⟩ = some (.int .i64 u) := by rw [hw5, ← H7.out]; exact (HX4.out.old _).cell 7
  go_upto_region 7 with fail
  rw [← hw5]
  clear hw5
  go_wp2_with fail
  go_at_call 6
  refine (H3.out _ HB5.out).mono ?_
  rintro e w6 ⟨rfl, hb⟩
  have HB6 : Hid (Below w.heap.size w w6) := HB5.out.trans (hb.mono HB5.out.size)
  clear hb
  go_wp2
  go_ret
  exact ⟨rfl, HB6.out⟩

theorem fitEnds_of (u : Int) (w : World) (hg : Laid w)
    (cLe : ∀ W, Calls Tryd.prog 4 #[.int .i64 u, .slice none 0 0] W fun e w' => e = .returned (.tuple #[.agg (arr8 (leastN u [])), errV (leastFault u [])]) ∧ Below W.heap.size W w')
    (cNx : ∀ (N : Nat → Int) W, Calls Tryd.prog 5 #[.int .i64 u, .agg #[.int .i64 (N 0), .int .i64 (N 1), .int .i64 (N 2), .int .i64 (N 3), .int .i64 (N 4), .int .i64 (N 5), .int .i64 (N 6), .int .i64 (N 7)]] W fun e w' => e = .returned (.tuple #[.agg (arr8 (nextN u N)), errV (nextFault u N)]) ∧ Below W.heap.size W w') :
    Calls Tryd.prog 3 #[.int .i64 u] w fun e w' => e = .returned (.bool true) ∧ Below w.heap.size w w' := by
  by_cases hu : 0 ≤ u ∧ u ≤ 6
  · obtain ⟨n, rfl⟩ := Int.eq_ofNat_of_zero_le hu.1
    have hn : n ≤ 6 := by omega
    obtain ⟨e1, e2⟩ := least_nil hn
    rw [e1] at cLe
    have h := cNx (fun g => if g = 0 then (n : Int) else 0)
    have e3 : nextFault (n : Int) (fun g => if g = 0 then (n : Int) else 0) = 5 := by
      have hc : countsFault (fun g => if g = 0 then (n : Int) else 0) = 0 := by
        refine counts_zero.2 ⟨fun f _ => ?_, ?_⟩
        · show 0 ≤ (if f = 0 then (n : Int) else 0) ∧ _
          split <;> omega
        · show (0 : Int) + n + 0 + 0 + 0 + 0 + 0 + 0 + 0 ≤ 6
          omega
      have hs : sumN (fun g => if g = 0 then (n : Int) else 0) 8 = n := by
        show (0 : Int) + n + 0 + 0 + 0 + 0 + 0 + 0 + 0 = n
        omega
      unfold nextFault
      rw [if_pos hu, if_pos hc, if_pos hs, next_last n _ rfl (fun g h1 _ => by show (if g = 0 then (n : Int) else 0) = 0; rw [if_neg (by omega)])]
      rfl
    rw [e3] at h
    exact fitEnds_in n _ (nextN n _) e2 w (fun W _ => cLe W) (fun W _ => h W) fun W hW => eerror_no 5 W (hg.below hW)
  · have e1 : leastFault u [] = 1 := by unfold leastFault fitFault; rw [if_neg hu]; rfl
    rw [e1] at cLe
    exact fitEnds_out u (by omega) _ w fun W _ => cLe W
theorem fitEnds_walk (u : Int) (w : World) (hg : Laid w) :
    Calls Tryd.prog 3 #[.int .i64 u] w fun e w' => e = .returned (.bool true) ∧ Below w.heap.size w w' :=
  fitEnds_of u w hg (fun W => least_any u [] (.slice none 0 0) W (Or.inl ⟨none, 0, rfl, rfl⟩)) (fun N W => next_any u N W)
end Go.Proofs.YtedgbohobgnedaeDoor
