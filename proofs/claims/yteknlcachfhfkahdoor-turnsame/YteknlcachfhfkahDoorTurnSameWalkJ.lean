/-
  Proved: vennlaw2.TurnSame returns true where what it calls answers as chapters 4, 6, 11 and 16 say; what was in memory is as it was (the walk that the statement leans on). Written by program.
-/
import Derived.Test.YteknlcachfhfkahDoorLibTU8
import Derived.Test.YteknlcachfhfkahDoorLibTU9
import Derived.Deep.CutRange
import Derived.Deep.CutBlock
namespace Go.Proofs.YteknlcachfhfkahDoor
open Go.ChangeShapes Go.WideShapes Go.ChangeAt Go.RowKit
set_option maxRecDepth 100000

set_option maxHeartbeats 4000000 in
theorem turnSame_bad (ao : Option Addr) (M acap : Nat) (co : Option Addr) (nc ccap : Nat) (p : Nat → Int) (D : Wd) (vq : Value) (a : Bool) (m : Int) (w : World)
    (HOne : Hid (∀ W, Below w.heap.size w W → Calls Tryd.prog 26 #[.agg #[.int .i64 1, .int .i64 1, .int .i64 0, .int .i64 0], .agg #[.int .i64 2, .int .i64 0, .int .i64 1]] W fun e w' => e = .returned (.tuple #[.agg #[.int .i64 1, .int .i64 0, .int .i64 0, .int .i64 1], .nilIface]) ∧ Below W.heap.size W w'))
    (HHo : Hid (∀ W, Below w.heap.size w W → Calls Tryd.prog 21 #[.agg #[.slice ao M acap, .slice co nc ccap], .agg #[.int .i64 D.u, .int .i64 D.a, .int .i64 D.b, .int .i64 D.c]] W fun e w' => e = .returned (.tuple #[.bool a, .iface 67 (.int .i64 m)]) ∧ Below W.heap.size W w')) :
    Calls Tryd.prog 8 #[.agg #[.slice ao M acap, .slice co nc ccap], .agg #[.int .i64 (p 0), .int .i64 (p 1), .int .i64 (p 2)], .agg #[.int .i64 D.u, .int .i64 D.a, .int .i64 D.b, .int .i64 D.c], vq] w fun e w' => e = .returned (.bool true) ∧ Below w.heap.size w w' := by
  obtain ⟨b0, b1, b2, hB0⟩ := three_blocks w (.cells #[.slice ao M acap, .slice co nc ccap] 25) (.cells #[.int .i64 (p 0), .int .i64 (p 1), .int .i64 (p 2)] 36) (.cells #[.int .i64 D.u, .int .i64 D.a, .int .i64 D.b, .int .i64 D.c] 38)
  obtain ⟨w1, hw1⟩ : ∃ x, x = (((w.alloc (.cells #[.slice ao M acap, .slice co nc ccap] 25)).alloc (.cells #[.int .i64 (p 0), .int .i64 (p 1), .int .i64 (p 2)] 36)).alloc (.cells #[.int .i64 D.u, .int .i64 D.a, .int .i64 D.b, .int .i64 D.c] 38)) := ⟨_, rfl⟩
  rw [← hw1] at b0 b1 b2 hB0
  have B1 : Hid (Below w.heap.size w w1) := hB0
  have kF1 : Hid (Blk w1 w.heap.size 25 #[.slice ao M acap, .slice co nc ccap]) := b0
  have kP1 : Hid (Blk w1 (w.heap.size + 1) 36 (arr3 p)) := b1
  have kW1 : Hid (Blk w1 (w.heap.size + 1 + 1) 38 (arrW D)) := b2
  clear b0 b1 b2 hB0
  go_enter Tryd.func8, Tryd.ntmps8
  go_wp2_with fail
  rw [← hw1]
  clear hw1
  go_at_call 26
  refine (HOne.out _ B1.out).mono ?_
  rintro e w2 ⟨rfl, hb⟩
  have B2 : Hid (Below w.heap.size w w2) := B1.out.trans (hb.mono B1.out.size)
  have kF2 : Hid (Blk w2 w.heap.size 25 #[.slice ao M acap, .slice co nc ccap]) := kF1.out.below hb
  have kP2 : Hid (Blk w2 (w.heap.size + 1) 36 (arr3 p)) := kP1.out.below hb
  have kW2 : Hid (Blk w2 (w.heap.size + 1 + 1) 38 (arrW D)) := kW1.out.below hb
  clear hb HOne
  have y0 : (w2.alloc (.cells #[.int .i64 1, .int .i64 0, .int .i64 0, .int .i64 1] 38)).cell? ⟨w2.heap.size, 1, none⟩ = some (.int .i64 0) := (Blk.new w2 38 #[.int .i64 1, .int .i64 0, .int .i64 0, .int .i64 1]).cell 1
  have y1 : (w2.alloc (.cells #[.int .i64 1, .int .i64 0, .int .i64 0, .int .i64 1] 38)).cell? ⟨w2.heap.size, 3, none⟩ = some (.int .i64 1) := (Blk.new w2 38 #[.int .i64 1, .int .i64 0, .int .i64 0, .int .i64 1]).cell 3
  obtain ⟨w3, hw3⟩ : ∃ x, x = w2.alloc (.cells #[.int .i64 1, .int .i64 0, .int .i64 0, .int .i64 1] 38) := ⟨_, rfl⟩
  have hb : Below w2.heap.size w2 w3 := by rw [hw3]; exact below_alloc1 _ _
  have B3 : Hid (Below w.heap.size w w3) := B2.out.trans (hb.mono B2.out.size)
  have kF3 : Hid (Blk w3 w.heap.size 25 #[.slice ao M acap, .slice co nc ccap]) := kF2.out.below hb
  have kP3 : Hid (Blk w3 (w.heap.size + 1) 36 (arr3 p)) := kP2.out.below hb
  have kW3 : Hid (Blk w3 (w.heap.size + 1 + 1) 38 (arrW D)) := kW2.out.below hb
  clear hb
  rw [← hw3] at y0 y1
  go_upto_region 2 with fail
  rw [← hw3]
  clear hw3
  have x0 : w3.cell? ⟨w.heap.size, 0, none⟩ = some (.slice ao M acap) := kF3.out.cell 0
  have x1 : w3.cell? ⟨w.heap.size, 1, none⟩ = some (.slice co nc ccap) := kF3.out.cell 1
  obtain ⟨z0, z1, z2, z3⟩ := kW3.out.cells4
  go_wp2_with fail
  go_at_call 21
  refine (HHo.out _ B3.out).mono ?_
  rintro e w4 ⟨rfl, hb⟩
  have B4 : Hid (Below w.heap.size w w4) := B3.out.trans (hb.mono B3.out.size)
  have kF4 : Hid (Blk w4 w.heap.size 25 #[.slice ao M acap, .slice co nc ccap]) := kF3.out.below hb
  have kP4 : Hid (Blk w4 (w.heap.size + 1) 36 (arr3 p)) := kP3.out.below hb
  have kW4 : Hid (Blk w4 (w.heap.size + 1 + 1) 38 (arrW D)) := kW3.out.below hb
  clear hb x0 x1 y0 y1 z0 z1 z2 z3
  go_wp2
  go_ret
  exact ⟨rfl, B4.out⟩

set_option maxHeartbeats 16000000 in
theorem turnSame_good (ao : Option Addr) (M acap : Nat) (co : Option Addr) (nc ccap : Nat) (p : Nat → Int) (D : Wd) (vq : Value) (a : Bool) (X Y : Wd) (C : Nat → Int) (ET : Value) (k : Int) (w : World)
    (HOne : Hid (∀ W, Below w.heap.size w W → Calls Tryd.prog 26 #[.agg #[.int .i64 1, .int .i64 1, .int .i64 0, .int .i64 0], .agg #[.int .i64 2, .int .i64 0, .int .i64 1]] W fun e w' => e = .returned (.tuple #[.agg #[.int .i64 1, .int .i64 0, .int .i64 0, .int .i64 1], .nilIface]) ∧ Below W.heap.size W w'))
    (HHo : Hid (∀ W, Below w.heap.size w W → Calls Tryd.prog 21 #[.agg #[.slice ao M acap, .slice co nc ccap], .agg #[.int .i64 D.u, .int .i64 D.a, .int .i64 D.b, .int .i64 D.c]] W fun e w' => e = .returned (.tuple #[.bool a, .nilIface]) ∧ Below W.heap.size W w'))
    (HTh : Hid (∀ W, Below w.heap.size w W → Calls Tryd.prog 28 #[.agg #[.int .i64 D.u, .int .i64 D.a, .int .i64 D.b, .int .i64 D.c], vq] W fun e w' => e = .returned (.tuple #[.agg #[.int .i64 X.u, .int .i64 X.a, .int .i64 X.b, .int .i64 X.c], ET]) ∧ Below W.heap.size W w'))
    (HKT : Hid ((∃ m, ET = .iface 67 (.int .i64 m)) ∨ (ET = .nilIface ∧ (∀ W, Below w.heap.size w W → Calls Tryd.prog 21 #[.agg #[.slice ao M acap, .slice co nc ccap], .agg #[.int .i64 X.u, .int .i64 X.a, .int .i64 X.b, .int .i64 X.c]] W fun e w' => e = .returned (.tuple #[.bool a, .nilIface]) ∧ Below W.heap.size W w') ∧ (∀ W, Below w.heap.size w W → Calls Tryd.prog 29 #[.agg #[.int .i64 D.u, .int .i64 D.a, .int .i64 D.b, .int .i64 D.c]] W fun e w' => e = .returned (.tuple #[.agg #[.int .i64 (C 0), .int .i64 (C 1), .int .i64 (C 2), .int .i64 (C 3), .int .i64 (C 4), .int .i64 (C 5), .int .i64 (C 6), .int .i64 (C 7)], .nilIface]) ∧ Below W.heap.size W w') ∧ (∀ W, Below w.heap.size w W → Calls Tryd.prog 29 #[.agg #[.int .i64 X.u, .int .i64 X.a, .int .i64 X.b, .int .i64 X.c]] W fun e w' => e = .returned (.tuple #[.agg #[.int .i64 (C 0), .int .i64 (C 1), .int .i64 (C 2), .int .i64 (C 3), .int .i64 (C 4), .int .i64 (C 5), .int .i64 (C 6), .int .i64 (C 7)], .nilIface]) ∧ Below W.heap.size W w'))))
    (HNm : Hid (∀ W, Below w.heap.size w W → Calls Tryd.prog 24 #[.agg #[.slice ao M acap, .slice co nc ccap], .agg #[.int .i64 (p 0), .int .i64 (p 1), .int .i64 (p 2)]] W fun e w' => ((∃ o1 l1 q1 o2 l2 q2, e = .returned (.tuple #[.agg #[.slice o1 l1 q1, .slice o2 l2 q2], .nilIface]) ∧ (∀ W, Below w.heap.size w W → Calls Tryd.prog 26 #[.agg #[.int .i64 D.u, .int .i64 D.a, .int .i64 D.b, .int .i64 D.c], .agg #[.int .i64 (p 0), .int .i64 (p 1), .int .i64 (p 2)]] W fun e w' => e = .returned (.tuple #[.agg #[.int .i64 Y.u, .int .i64 Y.a, .int .i64 Y.b, .int .i64 Y.c], .nilIface]) ∧ Below W.heap.size W w') ∧ (∀ W', Below w'.heap.size w' W' → Calls Tryd.prog 21 #[.agg #[.slice o1 l1 q1, .slice o2 l2 q2], .agg #[.int .i64 Y.u, .int .i64 Y.a, .int .i64 Y.b, .int .i64 Y.c]] W' fun e w'' => e = .returned (.tuple #[.bool a, .nilIface]) ∧ Below W'.heap.size W' w'') ∧ (¬ 4 < D.u → ∀ W', Below w'.heap.size w' W' → Calls Tryd.prog 30 #[.agg #[.slice o1 l1 q1, .slice o2 l2 q2], .int .i64 D.u] W' fun e w'' => e = .returned (.tuple #[.int .i64 k, .nilIface]) ∧ Below W'.heap.size W' w'')) ∨ (∃ m, e = .returned (.tuple #[.agg #[.slice none 0 0, .slice none 0 0], .iface 67 (.int .i64 m)]) ∧ ∃ Z : Wd, ∃ m', ∀ W, Below w.heap.size w W → Calls Tryd.prog 26 #[.agg #[.int .i64 D.u, .int .i64 D.a, .int .i64 D.b, .int .i64 D.c], .agg #[.int .i64 (p 0), .int .i64 (p 1), .int .i64 (p 2)]] W fun e w' => e = .returned (.tuple #[.agg #[.int .i64 Z.u, .int .i64 Z.a, .int .i64 Z.b, .int .i64 Z.c], .iface 67 (.int .i64 m')]) ∧ Below W.heap.size W w')) ∧ Below W.heap.size W w'))
    (HWo : Hid (¬ 4 < D.u → ∀ W, Below w.heap.size w W → Calls Tryd.prog 30 #[.agg #[.slice ao M acap, .slice co nc ccap], .int .i64 D.u] W fun e w' => e = .returned (.tuple #[.int .i64 k, .nilIface]) ∧ Below W.heap.size W w')) :
    Calls Tryd.prog 8 #[.agg #[.slice ao M acap, .slice co nc ccap], .agg #[.int .i64 (p 0), .int .i64 (p 1), .int .i64 (p 2)], .agg #[.int .i64 D.u, .int .i64 D.a, .int .i64 D.b, .int .i64 D.c], vq] w fun e w' => e = .returned (.bool true) ∧ Below w.heap.size w w' := by
  obtain ⟨b0, b1, b2, hB0⟩ := three_blocks w (.cells #[.slice ao M acap, .slice co nc ccap] 25) (.cells #[.int .i64 (p 0), .int .i64 (p 1), .int .i64 (p 2)] 36) (.cells #[.int .i64 D.u, .int .i64 D.a, .int .i64 D.b, .int .i64 D.c] 38)
  obtain ⟨w1, hw1⟩ : ∃ x, x = (((w.alloc (.cells #[.slice ao M acap, .slice co nc ccap] 25)).alloc (.cells #[.int .i64 (p 0), .int .i64 (p 1), .int .i64 (p 2)] 36)).alloc (.cells #[.int .i64 D.u, .int .i64 D.a, .int .i64 D.b, .int .i64 D.c] 38)) := ⟨_, rfl⟩
  rw [← hw1] at b0 b1 b2 hB0
  have B1 : Hid (Below w.heap.size w w1) := hB0
  have kF1 : Hid (Blk w1 w.heap.size 25 #[.slice ao M acap, .slice co nc ccap]) := b0
  have kP1 : Hid (Blk w1 (w.heap.size + 1) 36 (arr3 p)) := b1
  have kW1 : Hid (Blk w1 (w.heap.size + 1 + 1) 38 (arrW D)) := b2
  clear b0 b1 b2 hB0
  go_enter Tryd.func8, Tryd.ntmps8
  go_wp2_with fail
  rw [← hw1]
  clear hw1
  go_at_call 26
  refine (HOne.out _ B1.out).mono ?_
  rintro e w2 ⟨rfl, hb⟩
  have B2 : Hid (Below w.heap.size w w2) := B1.out.trans (hb.mono B1.out.size)
  have kF2 : Hid (Blk w2 w.heap.size 25 #[.slice ao M acap, .slice co nc ccap]) := kF1.out.below hb
  have kP2 : Hid (Blk w2 (w.heap.size + 1) 36 (arr3 p)) := kP1.out.below hb
  have kW2 : Hid (Blk w2 (w.heap.size + 1 + 1) 38 (arrW D)) := kW1.out.below hb
  clear hb HOne
  have y0 : (w2.alloc (.cells #[.int .i64 1, .int .i64 0, .int .i64 0, .int .i64 1] 38)).cell? ⟨w2.heap.size, 1, none⟩ = some (.int .i64 0) := (Blk.new w2 38 #[.int .i64 1, .int .i64 0, .int .i64 0, .int .i64 1]).cell 1
  have y1 : (w2.alloc (.cells #[.int .i64 1, .int .i64 0, .int .i64 0, .int .i64 1] 38)).cell? ⟨w2.heap.size, 3, none⟩ = some (.int .i64 1) := (Blk.new w2 38 #[.int .i64 1, .int .i64 0, .int .i64 0, .int .i64 1]).cell 3
  obtain ⟨w3, hw3⟩ : ∃ x, x = w2.alloc (.cells #[.int .i64 1, .int .i64 0, .int .i64 0, .int .i64 1] 38) := ⟨_, rfl⟩
  have hb : Below w2.heap.size w2 w3 := by rw [hw3]; exact below_alloc1 _ _
  have B3 : Hid (Below w.heap.size w w3) := B2.out.trans (hb.mono B2.out.size)
  have kF3 : Hid (Blk w3 w.heap.size 25 #[.slice ao M acap, .slice co nc ccap]) := kF2.out.below hb
  have kP3 : Hid (Blk w3 (w.heap.size + 1) 36 (arr3 p)) := kP2.out.below hb
  have kW3 : Hid (Blk w3 (w.heap.size + 1 + 1) 38 (arrW D)) := kW2.out.below hb
  clear hb
  rw [← hw3] at y0 y1
  go_upto_region 2 with fail
  rw [← hw3]
  clear hw3
  have x0 : w3.cell? ⟨w.heap.size, 0, none⟩ = some (.slice ao M acap) := kF3.out.cell 0
  have x1 : w3.cell? ⟨w.heap.size, 1, none⟩ = some (.slice co nc ccap) := kF3.out.cell 1
  obtain ⟨z0, z1, z2, z3⟩ := kW3.out.cells4
  go_wp2_with fail
  go_at_call 21
  refine (HHo.out _ B3.out).mono ?_
  rintro e w4 ⟨rfl, hb⟩
  have B4 : Hid (Below w.heap.size w w4) := B3.out.trans (hb.mono B3.out.size)
  have kF4 : Hid (Blk w4 w.heap.size 25 #[.slice ao M acap, .slice co nc ccap]) := kF3.out.below hb
  have kP4 : Hid (Blk w4 (w.heap.size + 1) 36 (arr3 p)) := kP3.out.below hb
  have kW4 : Hid (Blk w4 (w.heap.size + 1 + 1) 38 (arrW D)) := kW3.out.below hb
  clear hb x0 x1 y0 y1 z0 z1 z2 z3
  obtain ⟨z0, z1, z2, z3⟩ := kW4.out.cells4
  go_wp2_with fail
  go_at_call 28
  refine (HTh.out _ B4.out).mono ?_
  rintro e w5 ⟨rfl, hb⟩
  have B5 : Hid (Below w.heap.size w w5) := B4.out.trans (hb.mono B4.out.size)
  have kF5 : Hid (Blk w5 w.heap.size 25 #[.slice ao M acap, .slice co nc ccap]) := kF4.out.below hb
  have kP5 : Hid (Blk w5 (w.heap.size + 1) 36 (arr3 p)) := kP4.out.below hb
  have kW5 : Hid (Blk w5 (w.heap.size + 1 + 1) 38 (arrW D)) := kW4.out.below hb
  clear hb z0 z1 z2 z3
  obtain ⟨GX, hGX⟩ : ∃ G, G = w5.heap.size := ⟨_, rfl⟩
  obtain ⟨w6, hw6⟩ : ∃ x, x = w5.alloc (.cells #[.int .i64 X.u, .int .i64 X.a, .int .i64 X.b, .int .i64 X.c] 38) := ⟨_, rfl⟩
  have hb : Below w5.heap.size w5 w6 := by rw [hw6]; exact below_alloc1 _ _
  have B6 : Hid (Below w.heap.size w w6) := B5.out.trans (hb.mono B5.out.size)
  have kF6 : Hid (Blk w6 w.heap.size 25 #[.slice ao M acap, .slice co nc ccap]) := kF5.out.below hb
  have kP6 : Hid (Blk w6 (w.heap.size + 1) 36 (arr3 p)) := kP5.out.below hb
  have kW6 : Hid (Blk w6 (w.heap.size + 1 + 1) 38 (arrW D)) := kW5.out.below hb
  have kX6 : Hid (Blk w6 GX 38 (arrW X)) := by unfold Hid; rw [hw6, hGX]; exact Blk.new _ _ _
  clear hb
  go_upto_region 8 with fail
  rw [← hw6, ← hGX]
  clear hw6 hGX
  go_cut [64] from 63 (fun q wx => (∃ b : Bool, q = .bool b ∧ (b = true → ((∀ W, Below w.heap.size w W → Calls Tryd.prog 21 #[.agg #[.slice ao M acap, .slice co nc ccap], .agg #[.int .i64 X.u, .int .i64 X.a, .int .i64 X.b, .int .i64 X.c]] W fun e w' => e = .returned (.tuple #[.bool a, .nilIface]) ∧ Below W.heap.size W w') ∧ (∀ W, Below w.heap.size w W → Calls Tryd.prog 29 #[.agg #[.int .i64 D.u, .int .i64 D.a, .int .i64 D.b, .int .i64 D.c]] W fun e w' => e = .returned (.tuple #[.agg #[.int .i64 (C 0), .int .i64 (C 1), .int .i64 (C 2), .int .i64 (C 3), .int .i64 (C 4), .int .i64 (C 5), .int .i64 (C 6), .int .i64 (C 7)], .nilIface]) ∧ Below W.heap.size W w') ∧ (∀ W, Below w.heap.size w W → Calls Tryd.prog 29 #[.agg #[.int .i64 X.u, .int .i64 X.a, .int .i64 X.b, .int .i64 X.c]] W fun e w' => e = .returned (.tuple #[.agg #[.int .i64 (C 0), .int .i64 (C 1), .int .i64 (C 2), .int .i64 (C 3), .int .i64 (C 4), .int .i64 (C 5), .int .i64 (C 6), .int .i64 (C 7)], .nilIface]) ∧ Below W.heap.size W w')))) ∧ wx = w6)
  case first =>
    rcases HKT.out with ⟨m, hE⟩ | ⟨hE, h1⟩
    · clear HKT
      subst hE
      go_wp2_with fail
      go_meet
      case rel => exact ⟨⟨false, rfl, fun h => absurd h (by decide)⟩, rfl⟩
    · have HH : Hid ((∀ W, Below w.heap.size w W → Calls Tryd.prog 21 #[.agg #[.slice ao M acap, .slice co nc ccap], .agg #[.int .i64 X.u, .int .i64 X.a, .int .i64 X.b, .int .i64 X.c]] W fun e w' => e = .returned (.tuple #[.bool a, .nilIface]) ∧ Below W.heap.size W w') ∧ (∀ W, Below w.heap.size w W → Calls Tryd.prog 29 #[.agg #[.int .i64 D.u, .int .i64 D.a, .int .i64 D.b, .int .i64 D.c]] W fun e w' => e = .returned (.tuple #[.agg #[.int .i64 (C 0), .int .i64 (C 1), .int .i64 (C 2), .int .i64 (C 3), .int .i64 (C 4), .int .i64 (C 5), .int .i64 (C 6), .int .i64 (C 7)], .nilIface]) ∧ Below W.heap.size W w') ∧ (∀ W, Below w.heap.size w W → Calls Tryd.prog 29 #[.agg #[.int .i64 X.u, .int .i64 X.a, .int .i64 X.b, .int .i64 X.c]] W fun e w' => e = .returned (.tuple #[.agg #[.int .i64 (C 0), .int .i64 (C 1), .int .i64 (C 2), .int .i64 (C 3), .int .i64 (C 4), .int .i64 (C 5), .int .i64 (C 6), .int .i64 (C 7)], .nilIface]) ∧ Below W.heap.size W w')) := h1
      clear HKT h1
      subst hE
      go_wp2_with fail
      go_meet
      case rel => exact ⟨⟨true, rfl, fun _ => HH.out⟩, rfl⟩
  case rest =>
  obtain ⟨⟨b, rfl, hbK⟩, hwx⟩ := hcut
  rw [hwx]
  clear hwx HKT
  have HK : Hid (b = true → ((∀ W, Below w.heap.size w W → Calls Tryd.prog 21 #[.agg #[.slice ao M acap, .slice co nc ccap], .agg #[.int .i64 X.u, .int .i64 X.a, .int .i64 X.b, .int .i64 X.c]] W fun e w' => e = .returned (.tuple #[.bool a, .nilIface]) ∧ Below W.heap.size W w') ∧ (∀ W, Below w.heap.size w W → Calls Tryd.prog 29 #[.agg #[.int .i64 D.u, .int .i64 D.a, .int .i64 D.b, .int .i64 D.c]] W fun e w' => e = .returned (.tuple #[.agg #[.int .i64 (C 0), .int .i64 (C 1), .int .i64 (C 2), .int .i64 (C 3), .int .i64 (C 4), .int .i64 (C 5), .int .i64 (C 6), .int .i64 (C 7)], .nilIface]) ∧ Below W.heap.size W w') ∧ (∀ W, Below w.heap.size w W → Calls Tryd.prog 29 #[.agg #[.int .i64 X.u, .int .i64 X.a, .int .i64 X.b, .int .i64 X.c]] W fun e w' => e = .returned (.tuple #[.agg #[.int .i64 (C 0), .int .i64 (C 1), .int .i64 (C 2), .int .i64 (C 3), .int .i64 (C 4), .int .i64 (C 5), .int .i64 (C 6), .int .i64 (C 7)], .nilIface]) ∧ Below W.heap.size W w'))) := hbK
  clear hbK
  go_upto_if 64 with fail
  go_cut [14, 15, 16, 17, 18, 19] from 65 to 100 (fun _ _ _ _ _ _ wx => Below w6.heap.size w6 wx)
  case first =>
    cases b with
    | true =>
      obtain ⟨h1, h2, h3⟩ := HK.out rfl
      have H1 : Hid _ := h1
      have H2 : Hid _ := h2
      have H3 : Hid _ := h3
      clear h1 h2 h3 HK
      have B66 : Hid (Below w6.heap.size w6 w6) := Below.refl _ _
      have x0 : w6.cell? ⟨w.heap.size, 0, none⟩ = some (.slice ao M acap) := kF6.out.cell 0
      have x1 : w6.cell? ⟨w.heap.size, 1, none⟩ = some (.slice co nc ccap) := kF6.out.cell 1
      obtain ⟨z0, z1, z2, z3⟩ := kX6.out.cells4
      go_wp2_with fail
      go_at_call 21
      refine (H1.out _ B6.out).mono ?_
      rintro e w7 ⟨rfl, hb⟩
      have B7 : Hid (Below w.heap.size w w7) := B6.out.trans (hb.mono B6.out.size)
      have kW7 : Hid (Blk w7 (w.heap.size + 1 + 1) 38 (arrW D)) := kW6.out.below hb
      have kX7 : Hid (Blk w7 GX 38 (arrW X)) := kX6.out.below hb
      have B67 : Hid (Below w6.heap.size w6 w7) := B66.out.trans (hb.mono B66.out.size)
      clear hb x0 x1 z0 z1 z2 z3
      obtain ⟨z0, z1, z2, z3⟩ := kW7.out.cells4
      go_wp2_with fail
      go_at_call 29
      refine (H2.out _ B7.out).mono ?_
      rintro e w8 ⟨rfl, hb⟩
      have B8 : Hid (Below w.heap.size w w8) := B7.out.trans (hb.mono B7.out.size)
      have kX8 : Hid (Blk w8 GX 38 (arrW X)) := kX7.out.below hb
      have B68 : Hid (Below w6.heap.size w6 w8) := B67.out.trans (hb.mono B67.out.size)
      clear hb z0 z1 z2 z3
      obtain ⟨GC, hGC⟩ : ∃ G, G = w8.heap.size := ⟨_, rfl⟩
      obtain ⟨w9, hw9⟩ : ∃ x, x = w8.alloc (.cells #[.int .i64 (C 0), .int .i64 (C 1), .int .i64 (C 2), .int .i64 (C 3), .int .i64 (C 4), .int .i64 (C 5), .int .i64 (C 6), .int .i64 (C 7)] 63) := ⟨_, rfl⟩
      have hb : Below w8.heap.size w8 w9 := by rw [hw9]; exact below_alloc1 _ _
      have B9 : Hid (Below w.heap.size w w9) := B8.out.trans (hb.mono B8.out.size)
      have kX9 : Hid (Blk w9 GX 38 (arrW X)) := kX8.out.below hb
      have B69 : Hid (Below w6.heap.size w6 w9) := B68.out.trans (hb.mono B68.out.size)
      have kC9 : Hid (Blk w9 GC 63 (arr8 C)) := by unfold Hid; rw [hw9, hGC]; exact Blk.new _ _ _
      clear hb
      go_upto_region 11 with fail
      rw [← hw9, ← hGC]
      clear hw9 hGC
      obtain ⟨z0, z1, z2, z3⟩ := kX9.out.cells4
      go_wp2_with fail
      go_at_call 29
      refine (H3.out _ B9.out).mono ?_
      rintro e w10 ⟨rfl, hb⟩
      have B10 : Hid (Below w.heap.size w w10) := B9.out.trans (hb.mono B9.out.size)
      have kC10 : Hid (Blk w10 GC 63 (arr8 C)) := kC9.out.below hb
      have B610 : Hid (Below w6.heap.size w6 w10) := B69.out.trans (hb.mono B69.out.size)
      clear hb z0 z1 z2 z3
      obtain ⟨GE, hGE⟩ : ∃ G, G = w10.heap.size := ⟨_, rfl⟩
      obtain ⟨w11, hw11⟩ : ∃ x, x = w10.alloc (.cells #[.int .i64 (C 0), .int .i64 (C 1), .int .i64 (C 2), .int .i64 (C 3), .int .i64 (C 4), .int .i64 (C 5), .int .i64 (C 6), .int .i64 (C 7)] 63) := ⟨_, rfl⟩
      have hb : Below w10.heap.size w10 w11 := by rw [hw11]; exact below_alloc1 _ _
      have B11 : Hid (Below w.heap.size w w11) := B10.out.trans (hb.mono B10.out.size)
      have kC11 : Hid (Blk w11 GC 63 (arr8 C)) := kC10.out.below hb
      have B611 : Hid (Below w6.heap.size w6 w11) := B610.out.trans (hb.mono B610.out.size)
      have kE11 : Hid (Blk w11 GE 63 (arr8 C)) := by unfold Hid; rw [hw11, hGE]; exact Blk.new _ _ _
      clear hb
      go_upto_region 12 with fail
      rw [← hw11, ← hGE]
      clear hw11 hGE
      obtain ⟨y0, y1, y2, y3, y4, y5, y6, y7⟩ := kC11.out.cells8
      obtain ⟨z0, z1, z2, z3, z4, z5, z6, z7⟩ := kE11.out.cells8
      have hq := differ8 C
      have hgd := guard8
      have haa : (a != a) = false := by simp
      go_wp2_with fail
      go_meet
      case rel => exact B611.out
    | false =>
      go_wp2_with fail
      go_meet
      case rel => exact Below.refl _ _
  case rest =>
  have hb : Below w6.heap.size w6 wc := hcut
  obtain ⟨w7, hw7⟩ : ∃ x, x = wc := ⟨_, rfl⟩
  subst hw7
  have B7 : Hid (Below w.heap.size w w7) := B6.out.trans (hb.mono B6.out.size)
  have kF7 : Hid (Blk w7 w.heap.size 25 #[.slice ao M acap, .slice co nc ccap]) := kF6.out.below hb
  have kP7 : Hid (Blk w7 (w.heap.size + 1) 36 (arr3 p)) := kP6.out.below hb
  have kW7 : Hid (Blk w7 (w.heap.size + 1 + 1) 38 (arrW D)) := kW6.out.below hb
  clear hb hcut HK
  have x0 : w7.cell? ⟨w.heap.size, 0, none⟩ = some (.slice ao M acap) := kF7.out.cell 0
  have x1 : w7.cell? ⟨w.heap.size, 1, none⟩ = some (.slice co nc ccap) := kF7.out.cell 1
  obtain ⟨y0, y1, y2⟩ := kP7.out.cells3
  go_wp2_with fail
  go_at_call 24
  refine (HNm.out _ B7.out).mono ?_
  rintro e w8 ⟨hor, hb⟩
  have B8 : Hid (Below w.heap.size w w8) := B7.out.trans (hb.mono B7.out.size)
  have kF8 : Hid (Blk w8 w.heap.size 25 #[.slice ao M acap, .slice co nc ccap]) := kF7.out.below hb
  have kP8 : Hid (Blk w8 (w.heap.size + 1) 36 (arr3 p)) := kP7.out.below hb
  have kW8 : Hid (Blk w8 (w.heap.size + 1 + 1) 38 (arrW D)) := kW7.out.below hb
  clear hb x0 x1 y0 y1 y2
  rcases hor with ⟨o1, l1, q1, o2, l2, q2, rfl, hTw, hHg, hWg⟩ | ⟨m, rfl, Z, m2, hTw⟩
  · have HTw : Hid _ := hTw
    have HHg : Hid _ := hHg
    have HWg : Hid _ := hWg
    clear hTw hHg hWg
    obtain ⟨GG, hGG⟩ : ∃ G, G = w8.heap.size := ⟨_, rfl⟩
    obtain ⟨w9, hw9⟩ : ∃ x, x = w8.alloc (.cells #[.slice o1 l1 q1, .slice o2 l2 q2] 25) := ⟨_, rfl⟩
    have hb : Below w8.heap.size w8 w9 := by rw [hw9]; exact below_alloc1 _ _
    have B9 : Hid (Below w.heap.size w w9) := B8.out.trans (hb.mono B8.out.size)
    have kF9 : Hid (Blk w9 w.heap.size 25 #[.slice ao M acap, .slice co nc ccap]) := kF8.out.below hb
    have kP9 : Hid (Blk w9 (w.heap.size + 1) 36 (arr3 p)) := kP8.out.below hb
    have kW9 : Hid (Blk w9 (w.heap.size + 1 + 1) 38 (arrW D)) := kW8.out.below hb
    have kG9 : Hid (Blk w9 GG 25 #[.slice o1 l1 q1, .slice o2 l2 q2]) := by unfold Hid; rw [hw9, hGG]; exact Blk.new _ _ _
    clear hb
    have B89 : Hid (Below w8.heap.size w8 w9) := by unfold Hid; rw [hw9]; exact below_alloc1 _ _
    go_upto_region 15 with fail
    rw [← hw9, ← hGG]
    clear hw9 hGG
    obtain ⟨z0, z1, z2, z3⟩ := kW9.out.cells4
    obtain ⟨y0, y1, y2⟩ := kP9.out.cells3
    go_wp2_with fail
    go_at_call 26
    refine (HTw.out _ B9.out).mono ?_
    rintro e w10 ⟨rfl, hb⟩
    have B10 : Hid (Below w.heap.size w w10) := B9.out.trans (hb.mono B9.out.size)
    have kF10 : Hid (Blk w10 w.heap.size 25 #[.slice ao M acap, .slice co nc ccap]) := kF9.out.below hb
    have kW10 : Hid (Blk w10 (w.heap.size + 1 + 1) 38 (arrW D)) := kW9.out.below hb
    have kG10 : Hid (Blk w10 GG 25 #[.slice o1 l1 q1, .slice o2 l2 q2]) := kG9.out.below hb
    have B810 : Hid (Below w8.heap.size w8 w10) := B89.out.trans (hb.mono B89.out.size)
    clear hb z0 z1 z2 z3 y0 y1 y2
    obtain ⟨GY, hGY⟩ : ∃ G, G = w10.heap.size := ⟨_, rfl⟩
    obtain ⟨w11, hw11⟩ : ∃ x, x = w10.alloc (.cells #[.int .i64 Y.u, .int .i64 Y.a, .int .i64 Y.b, .int .i64 Y.c] 38) := ⟨_, rfl⟩
    have hb : Below w10.heap.size w10 w11 := by rw [hw11]; exact below_alloc1 _ _
    have B11 : Hid (Below w.heap.size w w11) := B10.out.trans (hb.mono B10.out.size)
    have kF11 : Hid (Blk w11 w.heap.size 25 #[.slice ao M acap, .slice co nc ccap]) := kF10.out.below hb
    have kW11 : Hid (Blk w11 (w.heap.size + 1 + 1) 38 (arrW D)) := kW10.out.below hb
    have kG11 : Hid (Blk w11 GG 25 #[.slice o1 l1 q1, .slice o2 l2 q2]) := kG10.out.below hb
    have kY11 : Hid (Blk w11 GY 38 (arrW Y)) := by unfold Hid; rw [hw11, hGY]; exact Blk.new _ _ _
    clear hb
    have B811 : Hid (Below w8.heap.size w8 w11) := by unfold Hid; rw [hw11]; exact B810.out.alloc B810.out.size _
    go_upto_region 16 with fail
    rw [← hw11, ← hGY]
    clear hw11 hGY
    have x0 : w11.cell? ⟨GG, 0, none⟩ = some (.slice o1 l1 q1) := kG11.out.cell 0
    have x1 : w11.cell? ⟨GG, 1, none⟩ = some (.slice o2 l2 q2) := kG11.out.cell 1
    obtain ⟨z0, z1, z2, z3⟩ := kY11.out.cells4
    go_wp2_with fail
    go_at_call 21
    refine (HHg.out _ B811.out).mono ?_
    rintro e w12 ⟨rfl, hb⟩
    have B12 : Hid (Below w.heap.size w w12) := B11.out.trans (hb.mono B11.out.size)
    have kF12 : Hid (Blk w12 w.heap.size 25 #[.slice ao M acap, .slice co nc ccap]) := kF11.out.below hb
    have kW12 : Hid (Blk w12 (w.heap.size + 1 + 1) 38 (arrW D)) := kW11.out.below hb
    have kG12 : Hid (Blk w12 GG 25 #[.slice o1 l1 q1, .slice o2 l2 q2]) := kG11.out.below hb
    have B812 : Hid (Below w8.heap.size w8 w12) := B811.out.trans (hb.mono B811.out.size)
    clear hb x0 x1 z0 z1 z2 z3
    have haa : (a != a) = false := by simp
    have z0 : w12.cell? ⟨w.heap.size + 1 + 1, 0, none⟩ = some (.int .i64 D.u) := kW12.out.cell 0
    by_cases h4 : 4 < D.u
    · go_wp2
      go_ret
      exact ⟨rfl, B12.out⟩
    · have HW1 : Hid _ := HWo.out (by first | exact h4 | exact Int.not_lt.1 h4)
      have HW2 : Hid _ := HWg.out (by first | exact h4 | exact Int.not_lt.1 h4)
      have x0 : w12.cell? ⟨w.heap.size, 0, none⟩ = some (.slice ao M acap) := kF12.out.cell 0
      have x1 : w12.cell? ⟨w.heap.size, 1, none⟩ = some (.slice co nc ccap) := kF12.out.cell 1
      go_wp2_with fail
      go_at_call 30
      refine (HW1.out _ B12.out).mono ?_
      rintro e w13 ⟨rfl, hb⟩
      have B13 : Hid (Below w.heap.size w w13) := B12.out.trans (hb.mono B12.out.size)
      have kW13 : Hid (Blk w13 (w.heap.size + 1 + 1) 38 (arrW D)) := kW12.out.below hb
      have kG13 : Hid (Blk w13 GG 25 #[.slice o1 l1 q1, .slice o2 l2 q2]) := kG12.out.below hb
      have B813 : Hid (Below w8.heap.size w8 w13) := B812.out.trans (hb.mono B812.out.size)
      clear hb x0 x1 z0
      have x0 : w13.cell? ⟨GG, 0, none⟩ = some (.slice o1 l1 q1) := kG13.out.cell 0
      have x1 : w13.cell? ⟨GG, 1, none⟩ = some (.slice o2 l2 q2) := kG13.out.cell 1
      have z0 : w13.cell? ⟨w.heap.size + 1 + 1, 0, none⟩ = some (.int .i64 D.u) := kW13.out.cell 0
      go_wp2_with fail
      go_at_call 30
      refine (HW2.out _ B813.out).mono ?_
      rintro e w14 ⟨rfl, hb⟩
      have B14 : Hid (Below w.heap.size w w14) := B13.out.trans (hb.mono B13.out.size)
      clear hb x0 x1 z0
      go_wp2
      go_ret
      exact ⟨rfl, B14.out⟩
  · have HTw : Hid _ := hTw
    clear hTw
    obtain ⟨w9, hw9⟩ : ∃ x, x = w8.alloc (.cells #[.slice none 0 0, .slice none 0 0] 25) := ⟨_, rfl⟩
    have hb : Below w8.heap.size w8 w9 := by rw [hw9]; exact below_alloc1 _ _
    have B9 : Hid (Below w.heap.size w w9) := B8.out.trans (hb.mono B8.out.size)
    have kP9 : Hid (Blk w9 (w.heap.size + 1) 36 (arr3 p)) := kP8.out.below hb
    have kW9 : Hid (Blk w9 (w.heap.size + 1 + 1) 38 (arrW D)) := kW8.out.below hb
    clear hb
    go_upto_region 15 with fail
    rw [← hw9]
    clear hw9
    obtain ⟨z0, z1, z2, z3⟩ := kW9.out.cells4
    obtain ⟨y0, y1, y2⟩ := kP9.out.cells3
    go_wp2_with fail
    go_at_call 26
    refine (HTw.out _ B9.out).mono ?_
    rintro e w10 ⟨rfl, hb⟩
    have B10 : Hid (Below w.heap.size w w10) := B9.out.trans (hb.mono B9.out.size)
    clear hb z0 z1 z2 z3 y0 y1 y2
    go_wp2
    go_ret
    exact ⟨rfl, B10.out.alloc B10.out.size _⟩
end Go.Proofs.YteknlcachfhfkahDoor
