/-
  Proved: vennlaw2.SomeEach returns true where what it calls answers as chapters 4 and 15 say; what was in memory is as it was (the walk that the statement leans on). Written by program.
-/
import Derived.Test.YtokpjcbifbmfiahDoorSomeTellsWalkJ
import Derived.Test.YtokpjcbifbmfiahDoorLibSM16
import Derived.Test.YtokpjcbifbmfiahDoorLibSM5
namespace Go.Proofs.YtokpjcbifbmfiahDoor
open Go.ChangeShapes Go.WideShapes Go.ChangeAt Go.RowKit
set_option maxRecDepth 100000

set_option maxHeartbeats 4000000 in
theorem someEach_bad (ao : Option Addr) (M acap : Nat) (co : Option Addr) (nc ccap : Nat) (name s : Int) (D : Wd) (S : Bool) (m : Int) (w : World)
    (HOne : Hid (∀ W b1 b2, Below w.heap.size w W → ReadsA W (.slice (some ⟨b1, 0, none⟩) 1 1) (manyA 0 1) → Reads W (.slice (some ⟨b2, 0, none⟩) 1 1) [0] → Calls Tryd.prog 17 #[.agg #[.slice (some ⟨b1, 0, none⟩) 1 1, .slice (some ⟨b2, 0, none⟩) 1 1], .int .i64 0, .agg #[.int .i64 2, .int .i64 0, .int .i64 0, .int .i64 0]] W fun e w' => e = .returned (.tuple #[.int .i64 1, .nilIface]) ∧ Below W.heap.size W w'))
    (HIs : Hid (∀ W, Below w.heap.size w W → Calls Tryd.prog 14 #[.agg #[.slice ao M acap, .slice co nc ccap], .int .i64 name, .agg #[.int .i64 D.u, .int .i64 D.a, .int .i64 D.b, .int .i64 D.c]] W fun e w' => e = .returned (.tuple #[.bool S, .iface 55 (.int .i64 m)]) ∧ Below W.heap.size W w')) :
    Calls Tryd.prog 5 #[.agg #[.slice ao M acap, .slice co nc ccap], .int .i64 name, .agg #[.int .i64 D.u, .int .i64 D.a, .int .i64 D.b, .int .i64 D.c], .int .i64 s] w fun e w' => e = .returned (.bool true) ∧ Below w.heap.size w w' := by
  obtain ⟨b0, b1, b2, b3, b4, b5, hB0⟩ := six_few w (.cells #[.slice ao M acap, .slice co nc ccap] 25) (.cells #[.int .i64 D.u, .int .i64 D.a, .int .i64 D.b, .int .i64 D.c] 38) (.cells #[.int .i64 0] 3) (.cells #[.int .i64 3, .slice (some ⟨w.heap.size + 1 + 1, 0, none⟩) 1 1, .slice none 0 0, .int .i64 1] 49) (.cells #[.int .i64 0] 3) (.cells #[.slice (some ⟨w.heap.size + 1 + 1 + 1, 0, none⟩) 1 1, .slice (some ⟨w.heap.size + 1 + 1 + 1 + 1, 0, none⟩) 1 1] 25)
  obtain ⟨w1, hw1⟩ : ∃ x, x = ((((((w.alloc (.cells #[.slice ao M acap, .slice co nc ccap] 25)).alloc (.cells #[.int .i64 D.u, .int .i64 D.a, .int .i64 D.b, .int .i64 D.c] 38)).alloc (.cells #[.int .i64 0] 3)).alloc (.cells #[.int .i64 3, .slice (some ⟨w.heap.size + 1 + 1, 0, none⟩) 1 1, .slice none 0 0, .int .i64 1] 49)).alloc (.cells #[.int .i64 0] 3)).alloc (.cells #[.slice (some ⟨w.heap.size + 1 + 1 + 1, 0, none⟩) 1 1, .slice (some ⟨w.heap.size + 1 + 1 + 1 + 1, 0, none⟩) 1 1] 25)) := ⟨_, rfl⟩
  rw [← hw1] at b0 b1 b2 b3 b4 b5 hB0
  have B1 : Hid (Below w.heap.size w w1) := hB0
  have kF1 : Hid (Blk w1 w.heap.size 25 #[.slice ao M acap, .slice co nc ccap]) := b0
  have kW1 : Hid (Blk w1 (w.heap.size + 1) 38 (arrW D)) := b1
  have k5 : Blk w1 (w.heap.size + 1 + 1 + 1 + 1 + 1) 25 #[.slice (some ⟨w.heap.size + 1 + 1 + 1, 0, none⟩) 1 1, .slice (some ⟨w.heap.size + 1 + 1 + 1 + 1, 0, none⟩) 1 1] := b5
  have k2 : Blk w1 (w.heap.size + 1 + 1) 3 #[.int .i64 0] := b2
  have hS : Reads w1 (.slice (some ⟨w.heap.size + 1 + 1, 0, none⟩) 1 1) [0] := by
    refine Or.inr ⟨w.heap.size + 1 + 1, 0, 1, rfl, k2.lt, by simp, ⟨by simp, by simp⟩, fun j hj => ?_⟩
    obtain rfl : j = 0 := by simp at hj; exact hj
    exact k2.cell 0
  have HR1 : Hid (ReadsA w1 (.slice (some ⟨w.heap.size + 1 + 1 + 1, 0, none⟩) 1 1) [⟨3, [0], [], 1⟩] ∧ Reads w1 (.slice (some ⟨w.heap.size + 1 + 1 + 1 + 1, 0, none⟩) 1 1) [0]) := alone_reads b3 hS b4
  have x0 : w1.cell? ⟨w.heap.size + 1 + 1 + 1 + 1 + 1, 0, none⟩ = some (.slice (some ⟨w.heap.size + 1 + 1 + 1, 0, none⟩) 1 1) := k5.cell 0
  have x1 : w1.cell? ⟨w.heap.size + 1 + 1 + 1 + 1 + 1, 1, none⟩ = some (.slice (some ⟨w.heap.size + 1 + 1 + 1 + 1, 0, none⟩) 1 1) := k5.cell 1
  clear k2 k5 hS b0 b1 b2 b3 b4 b5 hB0
  go_enter Tryd.func5, Tryd.ntmps5
  go_upto_region 2 with fail
  rw [← hw1]
  clear hw1
  go_wp2_with fail
  go_at_call 17
  refine (HOne.out _ _ _ B1.out HR1.out.1 HR1.out.2).mono ?_
  rintro e w2 ⟨rfl, hb⟩
  have B2 : Hid (Below w.heap.size w w2) := B1.out.trans (hb.mono B1.out.size)
  have kF2 : Hid (Blk w2 w.heap.size 25 #[.slice ao M acap, .slice co nc ccap]) := kF1.out.below hb
  have kW2 : Hid (Blk w2 (w.heap.size + 1) 38 (arrW D)) := kW1.out.below hb
  clear hb HR1 HOne x0 x1
  have x0 : w2.cell? ⟨w.heap.size, 0, none⟩ = some (.slice ao M acap) := kF2.out.cell 0
  have x1 : w2.cell? ⟨w.heap.size, 1, none⟩ = some (.slice co nc ccap) := kF2.out.cell 1
  obtain ⟨z0, z1, z2, z3⟩ := kW2.out.cells4
  go_wp2_with fail
  go_at_call 14
  refine (HIs.out _ B2.out).mono ?_
  rintro e w3 ⟨rfl, hb⟩
  have B3 : Hid (Below w.heap.size w w3) := B2.out.trans (hb.mono B2.out.size)
  have kF3 : Hid (Blk w3 w.heap.size 25 #[.slice ao M acap, .slice co nc ccap]) := kF2.out.below hb
  have kW3 : Hid (Blk w3 (w.heap.size + 1) 38 (arrW D)) := kW2.out.below hb
  clear hb x0 x1 z0 z1 z2 z3
  go_wp2
  go_ret
  exact ⟨rfl, B3.out⟩

set_option maxHeartbeats 16000000 in
theorem someEach_good (ao : Option Addr) (M acap : Nat) (co : Option Addr) (nc ccap : Nat) (k : Nat) (hk : k < 3) (s n : Int) (D : Wd) (S Ea h : Bool) (EH EF : Value) (w : World)
    (HOne : Hid (∀ W b1 b2, Below w.heap.size w W → ReadsA W (.slice (some ⟨b1, 0, none⟩) 1 1) (manyA 0 1) → Reads W (.slice (some ⟨b2, 0, none⟩) 1 1) [0] → Calls Tryd.prog 17 #[.agg #[.slice (some ⟨b1, 0, none⟩) 1 1, .slice (some ⟨b2, 0, none⟩) 1 1], .int .i64 0, .agg #[.int .i64 2, .int .i64 0, .int .i64 0, .int .i64 0]] W fun e w' => e = .returned (.tuple #[.int .i64 1, .nilIface]) ∧ Below W.heap.size W w'))
    (HIs : Hid (∀ W, Below w.heap.size w W → Calls Tryd.prog 14 #[.agg #[.slice ao M acap, .slice co nc ccap], .int .i64 k, .agg #[.int .i64 D.u, .int .i64 D.a, .int .i64 D.b, .int .i64 D.c]] W fun e w' => e = .returned (.tuple #[.bool S, .nilIface]) ∧ Below W.heap.size W w'))
    (HEc : Hid (∀ W, Below w.heap.size w W → Calls Tryd.prog 16 #[.agg #[.slice ao M acap, .slice co nc ccap], .int .i64 k, .agg #[.int .i64 D.u, .int .i64 D.a, .int .i64 D.b, .int .i64 D.c]] W fun e w' => e = .returned (.tuple #[.bool Ea, .nilIface]) ∧ Below W.heap.size W w'))
    (HES : Hid (Ea = true → S = true))
    (HNg : Hid (∀ W, Below w.heap.size w W → Calls Tryd.prog 18 #[.agg #[.slice ao M acap, .slice co nc ccap]] W fun e w' => ((∃ o1 l1 q1 o2 l2 q2, e = .returned (.tuple #[.agg #[.slice o1 l1 q1, .slice o2 l2 q2], .nilIface]) ∧ ∀ W', Below w'.heap.size w' W' → Calls Tryd.prog 14 #[.agg #[.slice o1 l1 q1, .slice o2 l2 q2], .int .i64 k, .agg #[.int .i64 D.u, .int .i64 D.a, .int .i64 D.b, .int .i64 D.c]] W' fun e' w'' => e' = .returned (.tuple #[.bool (!Ea), .nilIface]) ∧ Below W'.heap.size W' w'') ∨ (∃ m, e = .returned (.tuple #[.agg #[.slice none 0 0, .slice none 0 0], .iface 55 (.int .i64 m)]))) ∧ Below W.heap.size W w'))
    (HHo : Hid (∀ W, Below w.heap.size w W → Calls Tryd.prog 19 #[.agg #[.slice ao M acap, .slice co nc ccap], .agg #[.int .i64 (D.put k s).u, .int .i64 (D.put k s).a, .int .i64 (D.put k s).b, .int .i64 (D.put k s).c]] W fun e w' => e = .returned (.tuple #[.bool h, EH]) ∧ Below W.heap.size W w'))
    (HKH : Hid ((∃ m, EH = .iface 55 (.int .i64 m)) ∨ (EH = .nilIface ∧ (h = true → S = true) ∧ (h = false → Ea = false) ∧ (S = true → h = true → n ≤ s))))
    (HAg : Hid (EH = .nilIface → ∀ W, Below w.heap.size w W → Calls Tryd.prog 14 #[.agg #[.slice ao M acap, .slice co nc ccap], .int .i64 k, .agg #[.int .i64 (D.put k s).u, .int .i64 (D.put k s).a, .int .i64 (D.put k s).b, .int .i64 (D.put k s).c]] W fun e w' => e = .returned (.tuple #[.bool S, .nilIface]) ∧ Below W.heap.size W w'))
    (HFi : Hid (∀ W, Below w.heap.size w W → Calls Tryd.prog 17 #[.agg #[.slice ao M acap, .slice co nc ccap], .int .i64 k, .agg #[.int .i64 D.u, .int .i64 D.a, .int .i64 D.b, .int .i64 D.c]] W fun e w' => e = .returned (.tuple #[.int .i64 n, EF]) ∧ Below W.heap.size W w'))
    (HKF : Hid ((S = true ∧ EF = .nilIface) ∨ (S = false ∧ EF = .iface 55 (.int .i64 5))))
    (HEr : Hid (∀ W, Below w.heap.size w W → Calls Tryd.prog 15 #[.iface 55 (.int .i64 5), .int .i64 5] W fun e w' => e = .returned (.bool true) ∧ Below W.heap.size W w'))
    (HHn : Hid (S = true → ∀ W, Below w.heap.size w W → Calls Tryd.prog 19 #[.agg #[.slice ao M acap, .slice co nc ccap], .agg #[.int .i64 (D.put k n).u, .int .i64 (D.put k n).a, .int .i64 (D.put k n).b, .int .i64 (D.put k n).c]] W fun e w' => e = .returned (.tuple #[.bool true, .nilIface]) ∧ Below W.heap.size W w')) :
    Calls Tryd.prog 5 #[.agg #[.slice ao M acap, .slice co nc ccap], .int .i64 k, .agg #[.int .i64 D.u, .int .i64 D.a, .int .i64 D.b, .int .i64 D.c], .int .i64 s] w fun e w' => e = .returned (.bool true) ∧ Below w.heap.size w w' := by
  have k0 : (0 : Int) ≤ (k : Int) := by omega
  have k1 : ¬ (k : Int) < 0 := by omega
  have k2 : ¬ (2 : Int) < (k : Int) := by omega
  obtain ⟨b0, b1, b2, b3, b4, b5, hB0⟩ := six_few w (.cells #[.slice ao M acap, .slice co nc ccap] 25) (.cells #[.int .i64 D.u, .int .i64 D.a, .int .i64 D.b, .int .i64 D.c] 38) (.cells #[.int .i64 0] 3) (.cells #[.int .i64 3, .slice (some ⟨w.heap.size + 1 + 1, 0, none⟩) 1 1, .slice none 0 0, .int .i64 1] 49) (.cells #[.int .i64 0] 3) (.cells #[.slice (some ⟨w.heap.size + 1 + 1 + 1, 0, none⟩) 1 1, .slice (some ⟨w.heap.size + 1 + 1 + 1 + 1, 0, none⟩) 1 1] 25)
  obtain ⟨w1, hw1⟩ : ∃ x, x = ((((((w.alloc (.cells #[.slice ao M acap, .slice co nc ccap] 25)).alloc (.cells #[.int .i64 D.u, .int .i64 D.a, .int .i64 D.b, .int .i64 D.c] 38)).alloc (.cells #[.int .i64 0] 3)).alloc (.cells #[.int .i64 3, .slice (some ⟨w.heap.size + 1 + 1, 0, none⟩) 1 1, .slice none 0 0, .int .i64 1] 49)).alloc (.cells #[.int .i64 0] 3)).alloc (.cells #[.slice (some ⟨w.heap.size + 1 + 1 + 1, 0, none⟩) 1 1, .slice (some ⟨w.heap.size + 1 + 1 + 1 + 1, 0, none⟩) 1 1] 25)) := ⟨_, rfl⟩
  rw [← hw1] at b0 b1 b2 b3 b4 b5 hB0
  have B1 : Hid (Below w.heap.size w w1) := hB0
  have kF1 : Hid (Blk w1 w.heap.size 25 #[.slice ao M acap, .slice co nc ccap]) := b0
  have kW1 : Hid (Blk w1 (w.heap.size + 1) 38 (arrW D)) := b1
  have k5 : Blk w1 (w.heap.size + 1 + 1 + 1 + 1 + 1) 25 #[.slice (some ⟨w.heap.size + 1 + 1 + 1, 0, none⟩) 1 1, .slice (some ⟨w.heap.size + 1 + 1 + 1 + 1, 0, none⟩) 1 1] := b5
  have k2 : Blk w1 (w.heap.size + 1 + 1) 3 #[.int .i64 0] := b2
  have hS : Reads w1 (.slice (some ⟨w.heap.size + 1 + 1, 0, none⟩) 1 1) [0] := by
    refine Or.inr ⟨w.heap.size + 1 + 1, 0, 1, rfl, k2.lt, by simp, ⟨by simp, by simp⟩, fun j hj => ?_⟩
    obtain rfl : j = 0 := by simp at hj; exact hj
    exact k2.cell 0
  have HR1 : Hid (ReadsA w1 (.slice (some ⟨w.heap.size + 1 + 1 + 1, 0, none⟩) 1 1) [⟨3, [0], [], 1⟩] ∧ Reads w1 (.slice (some ⟨w.heap.size + 1 + 1 + 1 + 1, 0, none⟩) 1 1) [0]) := alone_reads b3 hS b4
  have x0 : w1.cell? ⟨w.heap.size + 1 + 1 + 1 + 1 + 1, 0, none⟩ = some (.slice (some ⟨w.heap.size + 1 + 1 + 1, 0, none⟩) 1 1) := k5.cell 0
  have x1 : w1.cell? ⟨w.heap.size + 1 + 1 + 1 + 1 + 1, 1, none⟩ = some (.slice (some ⟨w.heap.size + 1 + 1 + 1 + 1, 0, none⟩) 1 1) := k5.cell 1
  clear k2 k5 hS b0 b1 b2 b3 b4 b5 hB0
  go_enter Tryd.func5, Tryd.ntmps5
  go_upto_region 2 with fail
  rw [← hw1]
  clear hw1
  go_wp2_with fail
  go_at_call 17
  refine (HOne.out _ _ _ B1.out HR1.out.1 HR1.out.2).mono ?_
  rintro e w2 ⟨rfl, hb⟩
  have B2 : Hid (Below w.heap.size w w2) := B1.out.trans (hb.mono B1.out.size)
  have kF2 : Hid (Blk w2 w.heap.size 25 #[.slice ao M acap, .slice co nc ccap]) := kF1.out.below hb
  have kW2 : Hid (Blk w2 (w.heap.size + 1) 38 (arrW D)) := kW1.out.below hb
  clear hb HR1 HOne x0 x1
  have x0 : w2.cell? ⟨w.heap.size, 0, none⟩ = some (.slice ao M acap) := kF2.out.cell 0
  have x1 : w2.cell? ⟨w.heap.size, 1, none⟩ = some (.slice co nc ccap) := kF2.out.cell 1
  obtain ⟨z0, z1, z2, z3⟩ := kW2.out.cells4
  go_wp2_with fail
  go_at_call 14
  refine (HIs.out _ B2.out).mono ?_
  rintro e w3 ⟨rfl, hb⟩
  have B3 : Hid (Below w.heap.size w w3) := B2.out.trans (hb.mono B2.out.size)
  have kF3 : Hid (Blk w3 w.heap.size 25 #[.slice ao M acap, .slice co nc ccap]) := kF2.out.below hb
  have kW3 : Hid (Blk w3 (w.heap.size + 1) 38 (arrW D)) := kW2.out.below hb
  clear hb x0 x1 z0 z1 z2 z3
  have x0 : w3.cell? ⟨w.heap.size, 0, none⟩ = some (.slice ao M acap) := kF3.out.cell 0
  have x1 : w3.cell? ⟨w.heap.size, 1, none⟩ = some (.slice co nc ccap) := kF3.out.cell 1
  obtain ⟨z0, z1, z2, z3⟩ := kW3.out.cells4
  go_wp2_with fail
  go_at_call 16
  refine (HEc.out _ B3.out).mono ?_
  rintro e w4 ⟨rfl, hb⟩
  have B4 : Hid (Below w.heap.size w w4) := B3.out.trans (hb.mono B3.out.size)
  have kF4 : Hid (Blk w4 w.heap.size 25 #[.slice ao M acap, .slice co nc ccap]) := kF3.out.below hb
  have kW4 : Hid (Blk w4 (w.heap.size + 1) 38 (arrW D)) := kW3.out.below hb
  clear hb x0 x1 z0 z1 z2 z3
  go_upto_region 9 with fail
  go_cut [75] from 76 (fun q wx => q = .bool false ∧ wx = w4)
  case first =>
    cases Ea with
    | true =>
      have hS := HES.out rfl
      have HS1 : Hid (S = true) := hS
      clear hS
      cases S with
      | true =>
        go_wp2_with fail
        go_meet
        case rel => exact ⟨rfl, rfl⟩
      | false => exact absurd HS1.out (by decide)
    | false =>
      go_wp2_with fail
      go_meet
      case rel => exact ⟨rfl, rfl⟩
  case rest =>
  obtain ⟨rfl, hwx⟩ := hcut
  rw [hwx]
  clear hwx
  have x0 : w4.cell? ⟨w.heap.size, 0, none⟩ = some (.slice ao M acap) := kF4.out.cell 0
  have x1 : w4.cell? ⟨w.heap.size, 1, none⟩ = some (.slice co nc ccap) := kF4.out.cell 1
  obtain ⟨z0, z1, z2, z3⟩ := kW4.out.cells4
  go_wp2_with fail
  go_at_call 18
  refine (HNg.out _ B4.out).mono ?_
  rintro e w5 ⟨hor, hb⟩
  have B5 : Hid (Below w.heap.size w w5) := B4.out.trans (hb.mono B4.out.size)
  have kF5 : Hid (Blk w5 w.heap.size 25 #[.slice ao M acap, .slice co nc ccap]) := kF4.out.below hb
  have kW5 : Hid (Blk w5 (w.heap.size + 1) 38 (arrW D)) := kW4.out.below hb
  clear hb x0 x1 z0 z1 z2 z3
  obtain ⟨o1, l1, q1, o2, l2, q2, EN, rfl, hN⟩ : ∃ o1 l1 q1 o2 l2 q2 EN, e = .returned (.tuple #[.agg #[.slice o1 l1 q1, .slice o2 l2 q2], EN]) ∧ ((EN = .nilIface ∧ ∀ W', Below w5.heap.size w5 W' → Calls Tryd.prog 14 #[.agg #[.slice o1 l1 q1, .slice o2 l2 q2], .int .i64 k, .agg #[.int .i64 D.u, .int .i64 D.a, .int .i64 D.b, .int .i64 D.c]] W' fun e' w'' => e' = .returned (.tuple #[.bool (!Ea), .nilIface]) ∧ Below W'.heap.size W' w'') ∨ ∃ m, EN = .iface 55 (.int .i64 m)) := by
    rcases hor with ⟨o1, l1, q1, o2, l2, q2, rfl, h⟩ | ⟨m, rfl⟩
    · exact ⟨o1, l1, q1, o2, l2, q2, _, rfl, Or.inl ⟨rfl, h⟩⟩
    · exact ⟨none, 0, 0, none, 0, 0, _, rfl, Or.inr ⟨m, rfl⟩⟩
  have HN : Hid ((EN = .nilIface ∧ ∀ W', Below w5.heap.size w5 W' → Calls Tryd.prog 14 #[.agg #[.slice o1 l1 q1, .slice o2 l2 q2], .int .i64 k, .agg #[.int .i64 D.u, .int .i64 D.a, .int .i64 D.b, .int .i64 D.c]] W' fun e' w'' => e' = .returned (.tuple #[.bool (!Ea), .nilIface]) ∧ Below W'.heap.size W' w'') ∨ ∃ m, EN = .iface 55 (.int .i64 m)) := hN
  clear hN hor
  obtain ⟨w6, hw6⟩ : ∃ x, x = w5.alloc (.cells #[.slice o1 l1 q1, .slice o2 l2 q2] 25) := ⟨_, rfl⟩
  have hb : Below w5.heap.size w5 w6 := by rw [hw6]; exact below_alloc1 _ _
  have B6 : Hid (Below w.heap.size w w6) := B5.out.trans (hb.mono B5.out.size)
  have kF6 : Hid (Blk w6 w.heap.size 25 #[.slice ao M acap, .slice co nc ccap]) := kF5.out.below hb
  have kW6 : Hid (Blk w6 (w.heap.size + 1) 38 (arrW D)) := kW5.out.below hb
  have B56 : Hid (Below w5.heap.size w5 w6) := hb
  have kN6 : Hid (Blk w6 w5.heap.size 25 #[.slice o1 l1 q1, .slice o2 l2 q2]) := by unfold Hid; rw [hw6]; exact Blk.new _ _ _
  clear hb
  go_upto_region 12 with fail
  rw [← hw6]
  clear hw6
  go_cut [82] from 81 (fun q wx => (∃ b : Bool, q = .bool b ∧ (b = true → ∀ W', Below w5.heap.size w5 W' → Calls Tryd.prog 14 #[.agg #[.slice o1 l1 q1, .slice o2 l2 q2], .int .i64 k, .agg #[.int .i64 D.u, .int .i64 D.a, .int .i64 D.b, .int .i64 D.c]] W' fun e' w'' => e' = .returned (.tuple #[.bool (!Ea), .nilIface]) ∧ Below W'.heap.size W' w'')) ∧ wx = w6)
  case first =>
    rcases HN.out with ⟨h1, h2⟩ | ⟨m, h1⟩
    · have H2 : Hid (∀ W', Below w5.heap.size w5 W' → Calls Tryd.prog 14 #[.agg #[.slice o1 l1 q1, .slice o2 l2 q2], .int .i64 k, .agg #[.int .i64 D.u, .int .i64 D.a, .int .i64 D.b, .int .i64 D.c]] W' fun e' w'' => e' = .returned (.tuple #[.bool (!Ea), .nilIface]) ∧ Below W'.heap.size W' w'') := h2
      clear h2 HN
      subst h1
      go_wp2_with fail
      go_meet
      case rel => exact ⟨⟨true, rfl, fun _ => H2.out⟩, rfl⟩
    · clear HN
      subst h1
      go_wp2_with fail
      go_meet
      case rel => exact ⟨⟨false, rfl, fun h => absurd h (by decide)⟩, rfl⟩
  case rest =>
  obtain ⟨⟨b, rfl, hbN⟩, hwx⟩ := hcut
  rw [hwx]
  clear hwx HN
  have HN : Hid (b = true → ∀ W', Below w5.heap.size w5 W' → Calls Tryd.prog 14 #[.agg #[.slice o1 l1 q1, .slice o2 l2 q2], .int .i64 k, .agg #[.int .i64 D.u, .int .i64 D.a, .int .i64 D.b, .int .i64 D.c]] W' fun e' w'' => e' = .returned (.tuple #[.bool (!Ea), .nilIface]) ∧ Below W'.heap.size W' w'') := hbN
  clear hbN
  go_upto_if 82 with fail
  go_cut [17, 18] from 83 to 96 (fun _ _ wx => Below w6.heap.size w6 wx)
  case first =>
    cases b with
    | true =>
      have HI := HN.out rfl
      have HI' : Hid _ := HI
      clear HI HN
      have hne : (Ea == !Ea) = false := by cases Ea <;> rfl
      have x0 : w6.cell? ⟨w5.heap.size, 0, none⟩ = some (.slice o1 l1 q1) := kN6.out.cell 0
      have x1 : w6.cell? ⟨w5.heap.size, 1, none⟩ = some (.slice o2 l2 q2) := kN6.out.cell 1
      obtain ⟨z0, z1, z2, z3⟩ := kW6.out.cells4
      go_wp2_with fail
      go_at_call 14
      refine (HI'.out _ B56.out).mono ?_
      rintro e w7 ⟨rfl, hb⟩
      have Hb : Hid (Below w6.heap.size w6 w7) := hb
      clear hb x0 x1 z0 z1 z2 z3
      go_wp2_with fail
      go_meet
      case rel => exact Hb.out
    | false =>
      go_wp2_with fail
      go_meet
      case rel => exact Below.refl _ _
  case rest =>
  have hb : Below w6.heap.size w6 wc := hcut
  obtain ⟨w7, hw7⟩ : ∃ x, x = wc := ⟨_, rfl⟩
  subst hw7
  have B7 : Hid (Below w.heap.size w w7) := B6.out.trans (hb.mono B6.out.size)
  have kF7 : Hid (Blk w7 w.heap.size 25 #[.slice ao M acap, .slice co nc ccap]) := kF6.out.below hb
  have kW7 : Hid (Blk w7 (w.heap.size + 1) 38 (arrW D)) := kW6.out.below hb
  clear hb hcut HN
  obtain ⟨z0, z1, z2, z3⟩ := kW7.out.cells4
  obtain ⟨G, hG⟩ : ∃ G, G = w7.heap.size := ⟨_, rfl⟩
  obtain ⟨w8, hw8⟩ : ∃ x, x = w7.alloc (.cells #[.int .i64 D.u, .int .i64 D.a, .int .i64 D.b, .int .i64 D.c] 38) := ⟨_, rfl⟩
  have B8 : Hid (Below G w7 w8) := by unfold Hid; rw [hw8, hG]; exact below_alloc1 _ _
  have kX8 : Hid (Blk w8 G 38 (arrW D)) := by unfold Hid; rw [hw8, hG]; exact Blk.new _ _ _
  go_upto_region 17 with fail
  rw [← hw8, ← hG]
  clear hw8 z0 z1 z2 z3
  have HG : Hid (G = w7.heap.size) := hG
  clear hG
  have i0 : w8.cell? ⟨G, 1 + k, none⟩ = (arrW D)[1 + k]? := kX8.out.cell (1 + k)
  obtain ⟨xo, hxo⟩ : ∃ x, (arrW D)[1 + k]? = some x := by
    rcases (by omega : k = 0 ∨ k = 1 ∨ k = 2) with rfl | rfl | rfl <;> exact ⟨_, rfl⟩
  rw [hxo] at i0
  have f0 : w8.frozen? ⟨G, 1 + k, none⟩ = false := kX8.out.frozen (1 + k)
  obtain ⟨w9, hw9⟩ : ∃ x, x = w8.setCell ⟨G, 1 + k, none⟩ (.int .i64 s) := ⟨_, rfl⟩
  have kX9 : Hid (Blk w9 G 38 (arrW (D.put k s))) := by unfold Hid; rw [hw9, ← arrW_put D hk]; exact kX8.out.set (1 + k) _
  have hb9 : Below G w7 w9 := by rw [hw9]; exact B8.out.setCell (Nat.le_refl _) _
  have hb : Below w7.heap.size w7 w9 := by rw [← HG.out]; exact hb9
  clear hb9 hxo
  have B9 : Hid (Below w.heap.size w w9) := B7.out.trans (hb.mono B7.out.size)
  have kF9 : Hid (Blk w9 w.heap.size 25 #[.slice ao M acap, .slice co nc ccap]) := kF7.out.below hb
  have kW9 : Hid (Blk w9 (w.heap.size + 1) 38 (arrW D)) := kW7.out.below hb
  clear hb
  go_upto_region 18 with fail
  rw [← hw9]
  clear hw9 i0 f0
  have x0 : w9.cell? ⟨w.heap.size, 0, none⟩ = some (.slice ao M acap) := kF9.out.cell 0
  have x1 : w9.cell? ⟨w.heap.size, 1, none⟩ = some (.slice co nc ccap) := kF9.out.cell 1
  obtain ⟨z0, z1, z2, z3⟩ := kX9.out.cells4
  go_wp2_with fail
  go_at_call 19
  refine (HHo.out _ B9.out).mono ?_
  rintro e w10 ⟨rfl, hb⟩
  have B10 : Hid (Below w.heap.size w w10) := B9.out.trans (hb.mono B9.out.size)
  have kF10 : Hid (Blk w10 w.heap.size 25 #[.slice ao M acap, .slice co nc ccap]) := kF9.out.below hb
  have kW10 : Hid (Blk w10 (w.heap.size + 1) 38 (arrW D)) := kW9.out.below hb
  have kX10 : Hid (Blk w10 G 38 (arrW (D.put k s))) := kX9.out.below hb
  clear hb x0 x1 z0 z1 z2 z3
  rcases HKH.out with ⟨m, hm⟩ | ⟨hm, hh1, hh2, hh3⟩
  · subst hm
    go_wp2
    go_ret
    exact ⟨rfl, B10.out⟩
  have HA := HAg.out hm
  have HA' : Hid _ := HA
  have HH : Hid ((h = true → S = true) ∧ (h = false → Ea = false) ∧ (S = true → h = true → n ≤ s)) := ⟨hh1, hh2, hh3⟩
  clear HA hh1 hh2 hh3 HKH HAg HHo
  subst hm
  have x0 : w10.cell? ⟨w.heap.size, 0, none⟩ = some (.slice ao M acap) := kF10.out.cell 0
  have x1 : w10.cell? ⟨w.heap.size, 1, none⟩ = some (.slice co nc ccap) := kF10.out.cell 1
  obtain ⟨z0, z1, z2, z3⟩ := kX10.out.cells4
  go_wp2_with fail
  go_at_call 14
  refine (HA'.out _ B10.out).mono ?_
  rintro e w11 ⟨rfl, hb⟩
  have B11 : Hid (Below w.heap.size w w11) := B10.out.trans (hb.mono B10.out.size)
  have kF11 : Hid (Blk w11 w.heap.size 25 #[.slice ao M acap, .slice co nc ccap]) := kF10.out.below hb
  have kW11 : Hid (Blk w11 (w.heap.size + 1) 38 (arrW D)) := kW10.out.below hb
  have kX11 : Hid (Blk w11 G 38 (arrW (D.put k s))) := kX10.out.below hb
  clear hb x0 x1 z0 z1 z2 z3
  go_upto_region 22 with fail
  go_cut [137] from 117 (fun q wx => q = .bool false ∧ wx = w11)
  case first =>
    have hSS : (S != S) = false := by simp
    cases h with
    | true =>
      have hS := HH.out.1 rfl
      have HS1 : Hid (S = true) := hS
      clear hS
      cases S with
      | true =>
        go_wp2_with fail
        go_meet
        case rel => exact ⟨rfl, rfl⟩
      | false => exact absurd HS1.out (by decide)
    | false =>
      have hE := HH.out.2.1 rfl
      have HE1 : Hid (Ea = false) := hE
      clear hE
      cases Ea with
      | true => exact absurd HE1.out (by decide)
      | false =>
        go_wp2_with fail
        go_meet
        case rel => exact ⟨rfl, rfl⟩
  case rest =>
  obtain ⟨rfl, hwx⟩ := hcut
  rw [hwx]
  clear hwx
  have x0 : w11.cell? ⟨w.heap.size, 0, none⟩ = some (.slice ao M acap) := kF11.out.cell 0
  have x1 : w11.cell? ⟨w.heap.size, 1, none⟩ = some (.slice co nc ccap) := kF11.out.cell 1
  obtain ⟨z0, z1, z2, z3⟩ := kW11.out.cells4
  go_wp2_with fail
  go_at_call 17
  refine (HFi.out _ B11.out).mono ?_
  rintro e w12 ⟨rfl, hb⟩
  have B12 : Hid (Below w.heap.size w w12) := B11.out.trans (hb.mono B11.out.size)
  have kF12 : Hid (Blk w12 w.heap.size 25 #[.slice ao M acap, .slice co nc ccap]) := kF11.out.below hb
  have kW12 : Hid (Blk w12 (w.heap.size + 1) 38 (arrW D)) := kW11.out.below hb
  have kX12 : Hid (Blk w12 G 38 (arrW (D.put k s))) := kX11.out.below hb
  clear hb x0 x1 z0 z1 z2 z3
  rcases HKF.out with ⟨hS, hF⟩ | ⟨hS, hF⟩
  · have HHS := HHn.out hS
    have HHS' : Hid _ := HHS
    have HL : Hid (h = true → n ≤ s) := HH.out.2.2 hS
    clear HHS HKF HHn HH HES
    subst hS hF
    go_upto_region 27 with fail
    go_cut [158] from 153 (fun q wx => q = .bool false ∧ wx = w12)
    case first =>
      cases h with
      | true =>
        have hl := HL.out rfl
        have hl' : ¬ s < n := by omega
        clear hl
        go_wp2_with fail
        go_meet
        case rel => exact ⟨rfl, rfl⟩
      | false =>
        go_wp2_with fail
        go_meet
        case rel => exact ⟨rfl, rfl⟩
    case rest =>
    obtain ⟨rfl, hwx⟩ := hcut
    rw [hwx]
    clear hwx HL
    have i0 : w12.cell? ⟨G, 1 + k, none⟩ = (arrW (D.put k s))[1 + k]? := kX12.out.cell (1 + k)
    obtain ⟨xo, hxo⟩ : ∃ x, (arrW (D.put k s))[1 + k]? = some x := by
      rcases (by omega : k = 0 ∨ k = 1 ∨ k = 2) with rfl | rfl | rfl <;> exact ⟨_, rfl⟩
    rw [hxo] at i0
    have f0 : w12.frozen? ⟨G, 1 + k, none⟩ = false := kX12.out.frozen (1 + k)
    obtain ⟨w13, hw13⟩ : ∃ x, x = w12.setCell ⟨G, 1 + k, none⟩ (.int .i64 n) := ⟨_, rfl⟩
    have kY13 : Hid (Blk w13 G 38 (arrW (D.put k n))) := by unfold Hid; rw [hw13, ← put_put D k s n, ← arrW_put (D.put k s) hk]; exact kX12.out.set (1 + k) _
    have B13 : Hid (Below w.heap.size w w13) := by unfold Hid; rw [hw13]; exact B12.out.setCell (by rw [HG.out]; exact B7.out.size) _
    have kF13 : Hid (Blk w13 w.heap.size 25 #[.slice ao M acap, .slice co nc ccap]) := by unfold Hid; rw [hw13]; exact kF12.out.far (by rw [HG.out]; have := kF7.out.lt; omega) _ _
    clear hxo
    go_upto_region 30 with fail
    rw [← hw13]
    clear hw13 i0 f0
    have x0 : w13.cell? ⟨w.heap.size, 0, none⟩ = some (.slice ao M acap) := kF13.out.cell 0
    have x1 : w13.cell? ⟨w.heap.size, 1, none⟩ = some (.slice co nc ccap) := kF13.out.cell 1
    obtain ⟨z0, z1, z2, z3⟩ := kY13.out.cells4
    go_wp2_with fail
    go_at_call 19
    refine (HHS'.out _ B13.out).mono ?_
    rintro e w14 ⟨rfl, hb⟩
    have B14 : Hid (Below w.heap.size w w14) := B13.out.trans (hb.mono B13.out.size)
    clear hb x0 x1 z0 z1 z2 z3
    go_wp2
    go_ret
    exact ⟨rfl, B14.out⟩
  · subst hS hF
    go_wp2_with fail
    go_at_call 15
    refine (HEr.out _ B12.out).mono ?_
    rintro e w13 ⟨rfl, hb⟩
    have B13 : Hid (Below w.heap.size w w13) := B12.out.trans (hb.mono B12.out.size)
    clear hb
    go_wp2
    go_ret
    exact ⟨rfl, B13.out⟩
end Go.Proofs.YtokpjcbifbmfiahDoor
