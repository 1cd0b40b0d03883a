/-
  Proved: vennlaw2.SpanReached returns true where what it calls answers as chapters 4, 13 and 14 say; what was in memory is as it was (the walk that the statement leans on). Written by program.
-/
import Derived.Test.YtgkgbpbohgklhagDoorLibS4
import Derived.Test.YtgkgbpbohgklhagDoorLibS22
import Derived.Test.YtgkgbpbohgklhagDoorLibS7
import Derived.Deep.CutRange
import Derived.Deep.CutBlock
namespace Go.Proofs.YtgkgbpbohgklhagDoor
open Go.ChangeShapes Go.WideShapes Go.ChangeAt Go.RowKit
set_option maxRecDepth 100000


set_option maxHeartbeats 8000000 in
theorem spanReached_bad (ao : Option Addr) (M acap : Nat) (co : Option Addr) (nc ccap : Nat) (vt : Value) (u pu pa pb pc : Int) (lo hi m : Int) (w : World)
    (HOne : Hid (∀ W b1 b2 b3, Below w.heap.size w W → ReadsA W (.slice (some ⟨b1, 0, none⟩) 1 1) (manyA 0 2) → Reads W (.slice (some ⟨b2, 0, none⟩) 1 1) [0] → Reads W (.slice (some ⟨b3, 0, none⟩) 1 1) [0] → Calls Tryd.prog 18 #[.agg #[.slice (some ⟨b1, 0, none⟩) 1 1, .slice (some ⟨b2, 0, none⟩) 1 1], .slice (some ⟨b3, 0, none⟩) 1 1, .int .i64 3] W fun e w' => e = .returned (.tuple #[.agg #[.int .i64 2, .int .i64 3], .nilIface]) ∧ Below W.heap.size W w'))
    (HOf : Hid (∀ W, Below w.heap.size w W → Calls Tryd.prog 18 #[.agg #[.slice ao M acap, .slice co nc ccap], vt, .int .i64 u] W fun e w' => e = .returned (.tuple #[.agg #[.int .i64 lo, .int .i64 hi], .iface 64 (.int .i64 m)]) ∧ Below W.heap.size W w')) :
    Calls Tryd.prog 7 #[.agg #[.slice ao M acap, .slice co nc ccap], vt, .int .i64 u, .agg #[.int .i64 pu, .int .i64 pa, .int .i64 pb, .int .i64 pc]] w fun e w' => e = .returned (.bool true) ∧ Below w.heap.size w w' := by
  obtain ⟨b0, b1, b2, b3, b4, b5, hB0⟩ := six_few w (.cells #[.slice ao M acap, .slice co nc ccap] 42) (.cells #[.int .i64 pu, .int .i64 pa, .int .i64 pb, .int .i64 pc] 37) (.cells #[.int .i64 0] 3) (.cells #[.int .i64 3, .slice (some ⟨w.heap.size + 1 + 1, 0, none⟩) 1 1, .slice none 0 0, .int .i64 2] 39) (.cells #[.int .i64 0] 3) (.cells #[.slice (some ⟨w.heap.size + 1 + 1 + 1, 0, none⟩) 1 1, .slice (some ⟨w.heap.size + 1 + 1 + 1 + 1, 0, none⟩) 1 1] 42)
  obtain ⟨w1, hw1⟩ : ∃ x, x = ((((((w.alloc (.cells #[.slice ao M acap, .slice co nc ccap] 42)).alloc (.cells #[.int .i64 pu, .int .i64 pa, .int .i64 pb, .int .i64 pc] 37)).alloc (.cells #[.int .i64 0] 3)).alloc (.cells #[.int .i64 3, .slice (some ⟨w.heap.size + 1 + 1, 0, none⟩) 1 1, .slice none 0 0, .int .i64 2] 39)).alloc (.cells #[.int .i64 0] 3)).alloc (.cells #[.slice (some ⟨w.heap.size + 1 + 1 + 1, 0, none⟩) 1 1, .slice (some ⟨w.heap.size + 1 + 1 + 1 + 1, 0, none⟩) 1 1] 42)) := ⟨_, rfl⟩
  rw [← hw1] at b0 b1 b2 b3 b4 b5 hB0
  have B1 : Hid (Below w.heap.size w w1) := hB0
  have kF1 : Hid (Blk w1 w.heap.size 42 #[.slice ao M acap, .slice co nc ccap]) := b0
  have kW1 : Hid (Blk w1 (w.heap.size + 1) 37 #[.int .i64 pu, .int .i64 pa, .int .i64 pb, .int .i64 pc]) := b1
  have k5 : Blk w1 (w.heap.size + 1 + 1 + 1 + 1 + 1) 42 #[.slice (some ⟨w.heap.size + 1 + 1 + 1, 0, none⟩) 1 1, .slice (some ⟨w.heap.size + 1 + 1 + 1 + 1, 0, none⟩) 1 1] := b5
  have k2 : Blk w1 (w.heap.size + 1 + 1) 3 #[.int .i64 0] := b2
  have hS : Reads w1 (.slice (some ⟨w.heap.size + 1 + 1, 0, none⟩) 1 1) [0] := by
    refine Or.inr ⟨w.heap.size + 1 + 1, 0, 1, rfl, k2.lt, by simp, ⟨by simp, by simp⟩, fun j hj => ?_⟩
    obtain rfl : j = 0 := by simp at hj; exact hj
    exact k2.cell 0
  have HR1 : Hid (ReadsA w1 (.slice (some ⟨w.heap.size + 1 + 1 + 1, 0, none⟩) 1 1) [⟨3, [0], [], 2⟩] ∧ Reads w1 (.slice (some ⟨w.heap.size + 1 + 1 + 1 + 1, 0, none⟩) 1 1) [0]) := alone_reads b3 hS b4
  have x0 : w1.cell? ⟨w.heap.size + 1 + 1 + 1 + 1 + 1, 0, none⟩ = some (.slice (some ⟨w.heap.size + 1 + 1 + 1, 0, none⟩) 1 1) := k5.cell 0
  have x1 : w1.cell? ⟨w.heap.size + 1 + 1 + 1 + 1 + 1, 1, none⟩ = some (.slice (some ⟨w.heap.size + 1 + 1 + 1 + 1, 0, none⟩) 1 1) := k5.cell 1
  clear k2 k5 hS b0 b1 b2 b3 b4 b5 hB0
  go_enter Tryd.func7, Tryd.ntmps7
  go_upto_region 2 with fail
  rw [← hw1]
  clear hw1
  have HN : Hid (Reads (w1.alloc (.cells #[.int .i64 0] 3)) (.slice (some ⟨w1.heap.size, 0, none⟩) 1 1) [0]) := by
    have k : Blk (w1.alloc (.cells #[.int .i64 0] 3)) w1.heap.size 3 #[.int .i64 0] := Blk.new _ _ _
    refine Or.inr ⟨w1.heap.size, 0, 1, rfl, k.lt, by simp, ⟨by simp, by simp⟩, fun j hj => ?_⟩
    obtain rfl : j = 0 := by simp at hj; exact hj
    exact k.cell 0
  go_wp2_with fail
  go_at_call 18
  refine (HOne.out _ _ _ _ (B1.out.alloc B1.out.size _) (HR1.out.1.below (below_alloc1 _ _)) (HR1.out.2.below (below_alloc1 _ _)) HN.out).mono ?_
  rintro e w2 ⟨rfl, hb'⟩
  have hb : Below w1.heap.size w1 w2 := (below_alloc1 _ _).trans (hb'.mono (by simp))
  have B2 : Hid (Below w.heap.size w w2) := B1.out.trans (hb.mono B1.out.size)
  have kF2 : Hid (Blk w2 w.heap.size 42 #[.slice ao M acap, .slice co nc ccap]) := kF1.out.below hb
  have kW2 : Hid (Blk w2 (w.heap.size + 1) 37 #[.int .i64 pu, .int .i64 pa, .int .i64 pb, .int .i64 pc]) := kW1.out.below hb
  clear hb hb' HR1 HN HOne x0 x1
  obtain ⟨w3, hw3⟩ : ∃ w3, w3 = w2.alloc (.cells #[.int .i64 2, .int .i64 3] 48) := ⟨_, rfl⟩
  have B3 : Hid (Below w.heap.size w w3) := by unfold Hid; rw [hw3]; exact B2.out.alloc B2.out.size _
  have kF3 : Hid (Blk w3 w.heap.size 42 #[.slice ao M acap, .slice co nc ccap]) := by unfold Hid; rw [hw3]; exact kF2.out.old _
  have kW3 : Hid (Blk w3 (w.heap.size + 1) 37 #[.int .i64 pu, .int .i64 pa, .int .i64 pb, .int .i64 pc]) := by unfold Hid; rw [hw3]; exact kW2.out.old _
  have y0 : w3.cell? ⟨w2.heap.size, 0, none⟩ = some (.int .i64 2) := by rw [hw3]; exact (Blk.new w2 48 #[.int .i64 2, .int .i64 3]).cell 0
  have y1 : w3.cell? ⟨w2.heap.size, 1, none⟩ = some (.int .i64 3) := by rw [hw3]; exact (Blk.new w2 48 #[.int .i64 2, .int .i64 3]).cell 1
  go_upto_region 3 with fail
  rw [← hw3]
  clear hw3
  have x0 : w3.cell? ⟨w.heap.size, 0, none⟩ = some (.slice ao M acap) := kF3.out.cell 0
  have x1 : w3.cell? ⟨w.heap.size, 1, none⟩ = some (.slice co nc ccap) := kF3.out.cell 1
  go_wp2_with fail
  go_at_call 18
  refine (HOf.out _ B3.out).mono ?_
  rintro e w4 ⟨rfl, hb⟩
  have B4 : Hid (Below w.heap.size w w4) := B3.out.trans (hb.mono B3.out.size)
  have kF4 : Hid (Blk w4 w.heap.size 42 #[.slice ao M acap, .slice co nc ccap]) := kF3.out.below hb
  have kW4 : Hid (Blk w4 (w.heap.size + 1) 37 #[.int .i64 pu, .int .i64 pa, .int .i64 pb, .int .i64 pc]) := kW3.out.below hb
  clear hb x0 x1 y0 y1
  go_wp2
  go_ret
  exact ⟨rfl, B4.out.alloc B4.out.size _⟩

set_option maxHeartbeats 16000000 in
theorem spanReached_good (ao : Option Addr) (M acap : Nat) (co : Option Addr) (nc ccap : Nat) (vt : Value) (u pu pa pb pc : Int) (lo hi : Int) (t : List Int) (f : Fm) (fh : Bool) (v : Int) (EH EV : Value) (l0 : 0 ≤ lo) (lh : lo ≤ hi) (h6 : hi ≤ 6) (w : World)
    (HOne : Hid (∀ W b1 b2 b3, Below w.heap.size w W → ReadsA W (.slice (some ⟨b1, 0, none⟩) 1 1) (manyA 0 2) → Reads W (.slice (some ⟨b2, 0, none⟩) 1 1) [0] → Reads W (.slice (some ⟨b3, 0, none⟩) 1 1) [0] → Calls Tryd.prog 18 #[.agg #[.slice (some ⟨b1, 0, none⟩) 1 1, .slice (some ⟨b2, 0, none⟩) 1 1], .slice (some ⟨b3, 0, none⟩) 1 1, .int .i64 3] W fun e w' => e = .returned (.tuple #[.agg #[.int .i64 2, .int .i64 3], .nilIface]) ∧ Below W.heap.size W w'))
    (HOf : Hid (∀ W, Below w.heap.size w W → Calls Tryd.prog 18 #[.agg #[.slice ao M acap, .slice co nc ccap], vt, .int .i64 u] W fun e w' => e = .returned (.tuple #[.agg #[.int .i64 lo, .int .i64 hi], .nilIface]) ∧ Below W.heap.size W w'))
    (HHo : Hid (∀ W, Below w.heap.size w W → Calls Tryd.prog 15 #[.agg #[.slice ao M acap, .slice co nc ccap], .agg #[.int .i64 pu, .int .i64 pa, .int .i64 pb, .int .i64 pc]] W fun e w' => e = .returned (.tuple #[.bool fh, EH]) ∧ Below W.heap.size W w'))
    (HVa : Hid (∀ W, Below w.heap.size w W → Calls Tryd.prog 20 #[vt, .agg #[.int .i64 pu, .int .i64 pa, .int .i64 pb, .int .i64 pc]] W fun e w' => e = .returned (.tuple #[.int .i64 v, EV]) ∧ Below W.heap.size W w'))
    (HKH : Hid (EH = .nilIface ∨ ∃ m, EH = .iface 64 (.int .i64 m))) (HKV : Hid (EV = .nilIface ∨ ∃ m, EV = .iface 64 (.int .i64 m)))
    (HSz : Hid (EH = .nilIface → EV = .nilIface → fh = true → pu = u → ∃ z, lo ≤ z ∧ z ≤ hi ∧ ∀ W, Calls Tryd.prog 21 #[.int .i64 v] W fun e w' => e = .returned (.int .i64 z) ∧ w' = W))
    (HT : Hid (Reads w vt t)) (HFA : Hid (ReadsA w (.slice ao M acap) f.ats ∧ Reads w (.slice co nc ccap) f.c))
    (HOL : Hid (∀ W x, Below w.heap.size w W → ReadsF W x [f, ⟨[⟨4, t, [], lo⟩], [0]⟩] → Calls Tryd.prog 10 #[x, .int .i64 u] W fun e w' => e = .returned (.tuple #[.bool true, .nilIface]) ∧ Below W.heap.size W w'))
    (HOH : Hid (∀ W x, Below w.heap.size w W → ReadsF W x [f, ⟨[⟨3, t, [], hi⟩], [0]⟩] → Calls Tryd.prog 10 #[x, .int .i64 u] W fun e w' => e = .returned (.tuple #[.bool true, .nilIface]) ∧ Below W.heap.size W w'))
    (HON : Hid (∀ W x, Below w.heap.size w W → ReadsF W x [f, ⟨[⟨4, t, [], (lo - 1)⟩], [0]⟩] → Calls Tryd.prog 10 #[x, .int .i64 u] W fun e w' => e = .returned (.tuple #[.bool false, .nilIface]) ∧ Below W.heap.size W w'))
    (HOA : Hid (∀ W x, Below w.heap.size w W → ReadsF W x [f, ⟨[⟨3, t, [], (hi + 1)⟩], [0]⟩] → Calls Tryd.prog 10 #[x, .int .i64 u] W fun e w' => e = .returned (.tuple #[.bool false, .nilIface]) ∧ Below W.heap.size W w')) :
    Calls Tryd.prog 7 #[.agg #[.slice ao M acap, .slice co nc ccap], vt, .int .i64 u, .agg #[.int .i64 pu, .int .i64 pa, .int .i64 pb, .int .i64 pc]] w fun e w' => e = .returned (.bool true) ∧ Below w.heap.size w w' := by
  obtain ⟨s0, tt, tc, hvt⟩ : ∃ s0 tt tc, vt = .slice s0 tt tc := by
    rcases HT.out with ⟨ao, cap, h, _⟩ | ⟨b, off, cap, h, _⟩
    · exact ⟨ao, _, cap, h⟩
    · exact ⟨_, _, cap, h⟩
  subst hvt
  obtain ⟨b0, b1, b2, b3, b4, b5, hB0⟩ := six_few w (.cells #[.slice ao M acap, .slice co nc ccap] 42) (.cells #[.int .i64 pu, .int .i64 pa, .int .i64 pb, .int .i64 pc] 37) (.cells #[.int .i64 0] 3) (.cells #[.int .i64 3, .slice (some ⟨w.heap.size + 1 + 1, 0, none⟩) 1 1, .slice none 0 0, .int .i64 2] 39) (.cells #[.int .i64 0] 3) (.cells #[.slice (some ⟨w.heap.size + 1 + 1 + 1, 0, none⟩) 1 1, .slice (some ⟨w.heap.size + 1 + 1 + 1 + 1, 0, none⟩) 1 1] 42)
  obtain ⟨w1, hw1⟩ : ∃ x, x = ((((((w.alloc (.cells #[.slice ao M acap, .slice co nc ccap] 42)).alloc (.cells #[.int .i64 pu, .int .i64 pa, .int .i64 pb, .int .i64 pc] 37)).alloc (.cells #[.int .i64 0] 3)).alloc (.cells #[.int .i64 3, .slice (some ⟨w.heap.size + 1 + 1, 0, none⟩) 1 1, .slice none 0 0, .int .i64 2] 39)).alloc (.cells #[.int .i64 0] 3)).alloc (.cells #[.slice (some ⟨w.heap.size + 1 + 1 + 1, 0, none⟩) 1 1, .slice (some ⟨w.heap.size + 1 + 1 + 1 + 1, 0, none⟩) 1 1] 42)) := ⟨_, rfl⟩
  rw [← hw1] at b0 b1 b2 b3 b4 b5 hB0
  have B1 : Hid (Below w.heap.size w w1) := hB0
  have kF1 : Hid (Blk w1 w.heap.size 42 #[.slice ao M acap, .slice co nc ccap]) := b0
  have kW1 : Hid (Blk w1 (w.heap.size + 1) 37 #[.int .i64 pu, .int .i64 pa, .int .i64 pb, .int .i64 pc]) := b1
  have k5 : Blk w1 (w.heap.size + 1 + 1 + 1 + 1 + 1) 42 #[.slice (some ⟨w.heap.size + 1 + 1 + 1, 0, none⟩) 1 1, .slice (some ⟨w.heap.size + 1 + 1 + 1 + 1, 0, none⟩) 1 1] := b5
  have k2 : Blk w1 (w.heap.size + 1 + 1) 3 #[.int .i64 0] := b2
  have hS : Reads w1 (.slice (some ⟨w.heap.size + 1 + 1, 0, none⟩) 1 1) [0] := by
    refine Or.inr ⟨w.heap.size + 1 + 1, 0, 1, rfl, k2.lt, by simp, ⟨by simp, by simp⟩, fun j hj => ?_⟩
    obtain rfl : j = 0 := by simp at hj; exact hj
    exact k2.cell 0
  have HR1 : Hid (ReadsA w1 (.slice (some ⟨w.heap.size + 1 + 1 + 1, 0, none⟩) 1 1) [⟨3, [0], [], 2⟩] ∧ Reads w1 (.slice (some ⟨w.heap.size + 1 + 1 + 1 + 1, 0, none⟩) 1 1) [0]) := alone_reads b3 hS b4
  have x0 : w1.cell? ⟨w.heap.size + 1 + 1 + 1 + 1 + 1, 0, none⟩ = some (.slice (some ⟨w.heap.size + 1 + 1 + 1, 0, none⟩) 1 1) := k5.cell 0
  have x1 : w1.cell? ⟨w.heap.size + 1 + 1 + 1 + 1 + 1, 1, none⟩ = some (.slice (some ⟨w.heap.size + 1 + 1 + 1 + 1, 0, none⟩) 1 1) := k5.cell 1
  clear k2 k5 hS b0 b1 b2 b3 b4 b5 hB0
  go_enter Tryd.func7, Tryd.ntmps7
  go_upto_region 2 with fail
  rw [← hw1]
  clear hw1
  have HN : Hid (Reads (w1.alloc (.cells #[.int .i64 0] 3)) (.slice (some ⟨w1.heap.size, 0, none⟩) 1 1) [0]) := by
    have k : Blk (w1.alloc (.cells #[.int .i64 0] 3)) w1.heap.size 3 #[.int .i64 0] := Blk.new _ _ _
    refine Or.inr ⟨w1.heap.size, 0, 1, rfl, k.lt, by simp, ⟨by simp, by simp⟩, fun j hj => ?_⟩
    obtain rfl : j = 0 := by simp at hj; exact hj
    exact k.cell 0
  go_wp2_with fail
  go_at_call 18
  refine (HOne.out _ _ _ _ (B1.out.alloc B1.out.size _) (HR1.out.1.below (below_alloc1 _ _)) (HR1.out.2.below (below_alloc1 _ _)) HN.out).mono ?_
  rintro e w2 ⟨rfl, hb'⟩
  have hb : Below w1.heap.size w1 w2 := (below_alloc1 _ _).trans (hb'.mono (by simp))
  have B2 : Hid (Below w.heap.size w w2) := B1.out.trans (hb.mono B1.out.size)
  have kF2 : Hid (Blk w2 w.heap.size 42 #[.slice ao M acap, .slice co nc ccap]) := kF1.out.below hb
  have kW2 : Hid (Blk w2 (w.heap.size + 1) 37 #[.int .i64 pu, .int .i64 pa, .int .i64 pb, .int .i64 pc]) := kW1.out.below hb
  clear hb hb' HR1 HN HOne x0 x1
  obtain ⟨w3, hw3⟩ : ∃ w3, w3 = w2.alloc (.cells #[.int .i64 2, .int .i64 3] 48) := ⟨_, rfl⟩
  have B3 : Hid (Below w.heap.size w w3) := by unfold Hid; rw [hw3]; exact B2.out.alloc B2.out.size _
  have kF3 : Hid (Blk w3 w.heap.size 42 #[.slice ao M acap, .slice co nc ccap]) := by unfold Hid; rw [hw3]; exact kF2.out.old _
  have kW3 : Hid (Blk w3 (w.heap.size + 1) 37 #[.int .i64 pu, .int .i64 pa, .int .i64 pb, .int .i64 pc]) := by unfold Hid; rw [hw3]; exact kW2.out.old _
  have y0 : w3.cell? ⟨w2.heap.size, 0, none⟩ = some (.int .i64 2) := by rw [hw3]; exact (Blk.new w2 48 #[.int .i64 2, .int .i64 3]).cell 0
  have y1 : w3.cell? ⟨w2.heap.size, 1, none⟩ = some (.int .i64 3) := by rw [hw3]; exact (Blk.new w2 48 #[.int .i64 2, .int .i64 3]).cell 1
  go_upto_region 3 with fail
  rw [← hw3]
  clear hw3
  have x0 : w3.cell? ⟨w.heap.size, 0, none⟩ = some (.slice ao M acap) := kF3.out.cell 0
  have x1 : w3.cell? ⟨w.heap.size, 1, none⟩ = some (.slice co nc ccap) := kF3.out.cell 1
  go_wp2_with fail
  go_at_call 18
  refine (HOf.out _ B3.out).mono ?_
  rintro e w4 ⟨rfl, hb⟩
  have B4 : Hid (Below w.heap.size w w4) := B3.out.trans (hb.mono B3.out.size)
  have kF4 : Hid (Blk w4 w.heap.size 42 #[.slice ao M acap, .slice co nc ccap]) := kF3.out.below hb
  have kW4 : Hid (Blk w4 (w.heap.size + 1) 37 #[.int .i64 pu, .int .i64 pa, .int .i64 pb, .int .i64 pc]) := kW3.out.below hb
  clear hb x0 x1 y0 y1
  obtain ⟨G, hG⟩ : ∃ G, G = w4.heap.size := ⟨_, rfl⟩
  obtain ⟨w5, hw5⟩ : ∃ w5, w5 = w4.alloc (.cells #[.int .i64 lo, .int .i64 hi] 48) := ⟨_, rfl⟩
  have B5 : Hid (Below w.heap.size w w5) := by unfold Hid; rw [hw5]; exact B4.out.alloc B4.out.size _
  have kF5 : Hid (Blk w5 w.heap.size 42 #[.slice ao M acap, .slice co nc ccap]) := by unfold Hid; rw [hw5]; exact kF4.out.old _
  have kW5 : Hid (Blk w5 (w.heap.size + 1) 37 #[.int .i64 pu, .int .i64 pa, .int .i64 pb, .int .i64 pc]) := by unfold Hid; rw [hw5]; exact kW4.out.old _
  have kS5 : Hid (Blk w5 G 48 (arrP (lo, hi))) := by unfold Hid; rw [hw5, hG]; exact Blk.new _ _ _
  go_upto_region 6 with fail
  rw [← hw5, ← hG]
  clear hw5 hG
  have x0 : w5.cell? ⟨w.heap.size, 0, none⟩ = some (.slice ao M acap) := kF5.out.cell 0
  have x1 : w5.cell? ⟨w.heap.size, 1, none⟩ = some (.slice co nc ccap) := kF5.out.cell 1
  have z0 : w5.cell? ⟨w.heap.size + 1, 0, none⟩ = some (.int .i64 pu) := kW5.out.cell 0
  have z1 : w5.cell? ⟨w.heap.size + 1, 1, none⟩ = some (.int .i64 pa) := kW5.out.cell 1
  have z2 : w5.cell? ⟨w.heap.size + 1, 2, none⟩ = some (.int .i64 pb) := kW5.out.cell 2
  have z3 : w5.cell? ⟨w.heap.size + 1, 3, none⟩ = some (.int .i64 pc) := kW5.out.cell 3
  go_wp2_with fail
  go_at_call 15
  refine (HHo.out _ B5.out).mono ?_
  rintro e w6 ⟨rfl, hb⟩
  have B6 : Hid (Below w.heap.size w w6) := B5.out.trans (hb.mono B5.out.size)
  have kF6 : Hid (Blk w6 w.heap.size 42 #[.slice ao M acap, .slice co nc ccap]) := kF5.out.below hb
  have kW6 : Hid (Blk w6 (w.heap.size + 1) 37 #[.int .i64 pu, .int .i64 pa, .int .i64 pb, .int .i64 pc]) := kW5.out.below hb
  have kS6 : Hid (Blk w6 G 48 (arrP (lo, hi))) := kS5.out.below hb
  clear hb x0 x1 z0 z1 z2 z3
  have z0 : w6.cell? ⟨w.heap.size + 1, 0, none⟩ = some (.int .i64 pu) := kW6.out.cell 0
  have z1 : w6.cell? ⟨w.heap.size + 1, 1, none⟩ = some (.int .i64 pa) := kW6.out.cell 1
  have z2 : w6.cell? ⟨w.heap.size + 1, 2, none⟩ = some (.int .i64 pb) := kW6.out.cell 2
  have z3 : w6.cell? ⟨w.heap.size + 1, 3, none⟩ = some (.int .i64 pc) := kW6.out.cell 3
  go_wp2_with fail
  go_at_call 20
  refine (HVa.out _ B6.out).mono ?_
  rintro e w7 ⟨rfl, hb⟩
  have B7 : Hid (Below w.heap.size w w7) := B6.out.trans (hb.mono B6.out.size)
  have kF7 : Hid (Blk w7 w.heap.size 42 #[.slice ao M acap, .slice co nc ccap]) := kF6.out.below hb
  have kW7 : Hid (Blk w7 (w.heap.size + 1) 37 #[.int .i64 pu, .int .i64 pa, .int .i64 pb, .int .i64 pc]) := kW6.out.below hb
  have kS7 : Hid (Blk w7 G 48 (arrP (lo, hi))) := kS6.out.below hb
  clear hb z0 z1 z2 z3
  have z0 : w7.cell? ⟨w.heap.size + 1, 0, none⟩ = some (.int .i64 pu) := kW7.out.cell 0
  go_upto_region 10 with fail
  obtain ⟨wk, hwk⟩ : ∃ x, x = w7 := ⟨_, rfl⟩
  go_cut [87] from 73 (fun q wx => (∃ b : Bool, q = .bool b ∧ (b = true → ∃ z, lo ≤ z ∧ z ≤ hi ∧ ∀ W, Calls Tryd.prog 21 #[.int .i64 v] W fun e w' => e = .returned (.int .i64 z) ∧ w' = W)) ∧ wx = w7)
  case first =>
    rcases HKH.out with h1 | ⟨m, h1⟩
    · rcases HKV.out with h2 | ⟨m, h2⟩
      · cases fh with
        | true =>
          by_cases hu : pu = u
          · have HU : Hid (∃ z, lo ≤ z ∧ z ≤ hi ∧ ∀ W, Calls Tryd.prog 21 #[.int .i64 v] W fun e w' => e = .returned (.int .i64 z) ∧ w' = W) := HSz.out h1 h2 rfl hu
            have du : (pu == u) = true := by simp [hu]
            clear hu
            subst h1 h2
            go_wp2_with fail
            go_meet
            case rel => exact ⟨⟨true, rfl, fun _ => HU.out⟩, rfl⟩
          · have du : (pu == u) = false := by simp [hu]
            clear hu
            subst h1 h2
            go_wp2_with fail
            go_meet
            case rel => exact ⟨⟨false, rfl, fun h => absurd h (by decide)⟩, rfl⟩
        | false =>
          subst h1 h2
          go_wp2_with fail
          go_meet
          case rel => exact ⟨⟨false, rfl, fun h => absurd h (by decide)⟩, rfl⟩
      · subst h1 h2
        go_wp2_with fail
        go_meet
        case rel => exact ⟨⟨false, rfl, fun h => absurd h (by decide)⟩, rfl⟩
    · subst h1
      go_wp2_with fail
      go_meet
      case rel => exact ⟨⟨false, rfl, fun h => absurd h (by decide)⟩, rfl⟩
  case rest =>
    obtain ⟨⟨b, rfl, hz⟩, hwx⟩ := hcut
    have HZ : Hid (b = true → ∃ z, lo ≤ z ∧ z ≤ hi ∧ ∀ W, Calls Tryd.prog 21 #[.int .i64 v] W fun e w' => e = .returned (.int .i64 z) ∧ w' = W) := hz
    clear hz z0 hwk
    rw [hwx]
    clear hwx
    obtain ⟨y0, y1⟩ := kS7.out.cells2
    go_upto_if 87 with fail
    go_cut [18] from 88 to 99 (fun _ wx => wx = w7)
    case first =>
      cases b with
      | true =>
        obtain ⟨z, z1, z2, hZ⟩ := HZ.out rfl
        have HZs : Hid (∀ W, Calls Tryd.prog 21 #[.int .i64 v] W fun e w' => e = .returned (.int .i64 z) ∧ w' = W) := hZ
        clear hZ HZ
        have c1 : ¬ z < lo := by omega
        have c2 : ¬ hi < z := by omega
        go_wp2_with fail
        go_at_call 21
        refine (HZs.out _).mono ?_
        rintro e w8 ⟨rfl, hw8⟩
        obtain rfl := hw8
        go_wp2_with fail
        go_meet
        case rel => rfl
      | false =>
        go_wp2_with fail
        go_meet
        case rel => rfl
    case rest =>
      rw [hcut]
      clear hcut HZ
      have c1 : ¬ lo < 0 := by omega
      have c2 : ¬ 6 < hi := by omega
      have c3 : ¬ hi < lo := by omega
      go_upto_region 16 with fail
      have HT7 : Hid (Reads w7 (.slice s0 tt tc) t) := HT.out.below B7.out
      have HA7 : Hid (ReadsA w7 (.slice ao M acap) f.ats ∧ Reads w7 (.slice co nc ccap) f.c) := ⟨HFA.out.1.below B7.out, HFA.out.2.below B7.out⟩
      obtain ⟨b0, b1, b2, hb⟩ := three_at w7 (.cells #[.int .i64 4, .slice s0 tt tc, .slice none 0 0, .int .i64 lo] 39) (.cells #[.int .i64 0] 3) (.cells #[.slice (some ⟨w7.heap.size, 0, none⟩) 1 1, .slice (some ⟨w7.heap.size + 1, 0, none⟩) 1 1] 42)
      obtain ⟨w8, hw8⟩ : ∃ x, x = (((w7.alloc (.cells #[.int .i64 4, .slice s0 tt tc, .slice none 0 0, .int .i64 lo] 39)).alloc (.cells #[.int .i64 0] 3)).alloc (.cells #[.slice (some ⟨w7.heap.size, 0, none⟩) 1 1, .slice (some ⟨w7.heap.size + 1, 0, none⟩) 1 1] 42)) := ⟨_, rfl⟩
      rw [← hw8] at b0 b1 b2 hb
      have B8 : Hid (Below w.heap.size w w8) := B7.out.trans (hb.mono B7.out.size)
      have kF8 : Hid (Blk w8 w.heap.size 42 #[.slice ao M acap, .slice co nc ccap]) := kF7.out.below hb
      have kS8 : Hid (Blk w8 G 48 (arrP (lo, hi))) := kS7.out.below hb
      have HT8 : Hid (Reads w8 (.slice s0 tt tc) t) := HT7.out.below hb
      have HA8 : Hid (ReadsA w8 (.slice ao M acap) f.ats ∧ Reads w8 (.slice co nc ccap) f.c) := ⟨HA7.out.1.below hb, HA7.out.2.below hb⟩
      obtain ⟨GL, hGL⟩ : ∃ g, g = w7.heap.size := ⟨_, rfl⟩
      rw [← hGL] at b0 b1 b2
      have rL8 : Hid (ReadsA w8 (.slice (some ⟨GL, 0, none⟩) 1 1) [⟨4, t, [], lo⟩] ∧ Reads w8 (.slice (some ⟨GL + 1, 0, none⟩) 1 1) [0]) := alone_reads b0 HT8.out b1
      have kL8 : Hid (Blk w8 (GL + 1 + 1) 42 #[.slice (some ⟨GL, 0, none⟩) 1 1, .slice (some ⟨GL + 1, 0, none⟩) 1 1]) := b2
      clear b0 b1 b2 hb
      go_upto_region 17 with fail
      rw [← hw8, ← hGL]
      clear hw8 hGL y0 y1
      obtain ⟨y0, y1⟩ := kS8.out.cells2
      obtain ⟨b0, b1, b2, hb⟩ := three_at w8 (.cells #[.int .i64 3, .slice s0 tt tc, .slice none 0 0, .int .i64 hi] 39) (.cells #[.int .i64 0] 3) (.cells #[.slice (some ⟨w8.heap.size, 0, none⟩) 1 1, .slice (some ⟨w8.heap.size + 1, 0, none⟩) 1 1] 42)
      obtain ⟨w9, hw9⟩ : ∃ x, x = (((w8.alloc (.cells #[.int .i64 3, .slice s0 tt tc, .slice none 0 0, .int .i64 hi] 39)).alloc (.cells #[.int .i64 0] 3)).alloc (.cells #[.slice (some ⟨w8.heap.size, 0, none⟩) 1 1, .slice (some ⟨w8.heap.size + 1, 0, none⟩) 1 1] 42)) := ⟨_, rfl⟩
      rw [← hw9] at b0 b1 b2 hb
      have B9 : Hid (Below w.heap.size w w9) := B8.out.trans (hb.mono B8.out.size)
      have kF9 : Hid (Blk w9 w.heap.size 42 #[.slice ao M acap, .slice co nc ccap]) := kF8.out.below hb
      have kS9 : Hid (Blk w9 G 48 (arrP (lo, hi))) := kS8.out.below hb
      have HT9 : Hid (Reads w9 (.slice s0 tt tc) t) := HT8.out.below hb
      have HA9 : Hid (ReadsA w9 (.slice ao M acap) f.ats ∧ Reads w9 (.slice co nc ccap) f.c) := ⟨HA8.out.1.below hb, HA8.out.2.below hb⟩
      obtain ⟨GH, hGH⟩ : ∃ g, g = w8.heap.size := ⟨_, rfl⟩
      rw [← hGH] at b0 b1 b2
      have rH9 : Hid (ReadsA w9 (.slice (some ⟨GH, 0, none⟩) 1 1) [⟨3, t, [], hi⟩] ∧ Reads w9 (.slice (some ⟨GH + 1, 0, none⟩) 1 1) [0]) := alone_reads b0 HT9.out b1
      have kH9 : Hid (Blk w9 (GH + 1 + 1) 42 #[.slice (some ⟨GH, 0, none⟩) 1 1, .slice (some ⟨GH + 1, 0, none⟩) 1 1]) := b2
      have rL9 : Hid (ReadsA w9 (.slice (some ⟨GL, 0, none⟩) 1 1) [⟨4, t, [], lo⟩] ∧ Reads w9 (.slice (some ⟨GL + 1, 0, none⟩) 1 1) [0]) := ⟨rL8.out.1.below hb, rL8.out.2.below hb⟩
      have kL9 : Hid (Blk w9 (GL + 1 + 1) 42 #[.slice (some ⟨GL, 0, none⟩) 1 1, .slice (some ⟨GL + 1, 0, none⟩) 1 1]) := kL8.out.below hb
      clear b0 b1 b2 hb
      go_upto_region 18 with fail
      rw [← hw9, ← hGH]
      clear hw9 hGH y0 y1
      obtain ⟨y0, y1⟩ := kS9.out.cells2
      obtain ⟨b0, b1, b2, hb⟩ := three_at w9 (.cells #[.int .i64 4, .slice s0 tt tc, .slice none 0 0, .int .i64 (lo - 1)] 39) (.cells #[.int .i64 0] 3) (.cells #[.slice (some ⟨w9.heap.size, 0, none⟩) 1 1, .slice (some ⟨w9.heap.size + 1, 0, none⟩) 1 1] 42)
      obtain ⟨w10, hw10⟩ : ∃ x, x = (((w9.alloc (.cells #[.int .i64 4, .slice s0 tt tc, .slice none 0 0, .int .i64 (lo - 1)] 39)).alloc (.cells #[.int .i64 0] 3)).alloc (.cells #[.slice (some ⟨w9.heap.size, 0, none⟩) 1 1, .slice (some ⟨w9.heap.size + 1, 0, none⟩) 1 1] 42)) := ⟨_, rfl⟩
      rw [← hw10] at b0 b1 b2 hb
      have B10 : Hid (Below w.heap.size w w10) := B9.out.trans (hb.mono B9.out.size)
      have kF10 : Hid (Blk w10 w.heap.size 42 #[.slice ao M acap, .slice co nc ccap]) := kF9.out.below hb
      have kS10 : Hid (Blk w10 G 48 (arrP (lo, hi))) := kS9.out.below hb
      have HT10 : Hid (Reads w10 (.slice s0 tt tc) t) := HT9.out.below hb
      have HA10 : Hid (ReadsA w10 (.slice ao M acap) f.ats ∧ Reads w10 (.slice co nc ccap) f.c) := ⟨HA9.out.1.below hb, HA9.out.2.below hb⟩
      obtain ⟨GN, hGN⟩ : ∃ g, g = w9.heap.size := ⟨_, rfl⟩
      rw [← hGN] at b0 b1 b2
      have rN10 : Hid (ReadsA w10 (.slice (some ⟨GN, 0, none⟩) 1 1) [⟨4, t, [], (lo - 1)⟩] ∧ Reads w10 (.slice (some ⟨GN + 1, 0, none⟩) 1 1) [0]) := alone_reads b0 HT10.out b1
      have kN10 : Hid (Blk w10 (GN + 1 + 1) 42 #[.slice (some ⟨GN, 0, none⟩) 1 1, .slice (some ⟨GN + 1, 0, none⟩) 1 1]) := b2
      have rL10 : Hid (ReadsA w10 (.slice (some ⟨GL, 0, none⟩) 1 1) [⟨4, t, [], lo⟩] ∧ Reads w10 (.slice (some ⟨GL + 1, 0, none⟩) 1 1) [0]) := ⟨rL9.out.1.below hb, rL9.out.2.below hb⟩
      have kL10 : Hid (Blk w10 (GL + 1 + 1) 42 #[.slice (some ⟨GL, 0, none⟩) 1 1, .slice (some ⟨GL + 1, 0, none⟩) 1 1]) := kL9.out.below hb
      have rH10 : Hid (ReadsA w10 (.slice (some ⟨GH, 0, none⟩) 1 1) [⟨3, t, [], hi⟩] ∧ Reads w10 (.slice (some ⟨GH + 1, 0, none⟩) 1 1) [0]) := ⟨rH9.out.1.below hb, rH9.out.2.below hb⟩
      have kH10 : Hid (Blk w10 (GH + 1 + 1) 42 #[.slice (some ⟨GH, 0, none⟩) 1 1, .slice (some ⟨GH + 1, 0, none⟩) 1 1]) := kH9.out.below hb
      clear b0 b1 b2 hb
      go_upto_region 19 with fail
      rw [← hw10, ← hGN]
      clear hw10 hGN y0 y1
      obtain ⟨y0, y1⟩ := kS10.out.cells2
      obtain ⟨b0, b1, b2, hb⟩ := three_at w10 (.cells #[.int .i64 3, .slice s0 tt tc, .slice none 0 0, .int .i64 (hi + 1)] 39) (.cells #[.int .i64 0] 3) (.cells #[.slice (some ⟨w10.heap.size, 0, none⟩) 1 1, .slice (some ⟨w10.heap.size + 1, 0, none⟩) 1 1] 42)
      obtain ⟨w11, hw11⟩ : ∃ x, x = (((w10.alloc (.cells #[.int .i64 3, .slice s0 tt tc, .slice none 0 0, .int .i64 (hi + 1)] 39)).alloc (.cells #[.int .i64 0] 3)).alloc (.cells #[.slice (some ⟨w10.heap.size, 0, none⟩) 1 1, .slice (some ⟨w10.heap.size + 1, 0, none⟩) 1 1] 42)) := ⟨_, rfl⟩
      rw [← hw11] at b0 b1 b2 hb
      have B11 : Hid (Below w.heap.size w w11) := B10.out.trans (hb.mono B10.out.size)
      have kF11 : Hid (Blk w11 w.heap.size 42 #[.slice ao M acap, .slice co nc ccap]) := kF10.out.below hb
      have kS11 : Hid (Blk w11 G 48 (arrP (lo, hi))) := kS10.out.below hb
      have HT11 : Hid (Reads w11 (.slice s0 tt tc) t) := HT10.out.below hb
      have HA11 : Hid (ReadsA w11 (.slice ao M acap) f.ats ∧ Reads w11 (.slice co nc ccap) f.c) := ⟨HA10.out.1.below hb, HA10.out.2.below hb⟩
      obtain ⟨GA, hGA⟩ : ∃ g, g = w10.heap.size := ⟨_, rfl⟩
      rw [← hGA] at b0 b1 b2
      have rA11 : Hid (ReadsA w11 (.slice (some ⟨GA, 0, none⟩) 1 1) [⟨3, t, [], (hi + 1)⟩] ∧ Reads w11 (.slice (some ⟨GA + 1, 0, none⟩) 1 1) [0]) := alone_reads b0 HT11.out b1
      have kA11 : Hid (Blk w11 (GA + 1 + 1) 42 #[.slice (some ⟨GA, 0, none⟩) 1 1, .slice (some ⟨GA + 1, 0, none⟩) 1 1]) := b2
      have rL11 : Hid (ReadsA w11 (.slice (some ⟨GL, 0, none⟩) 1 1) [⟨4, t, [], lo⟩] ∧ Reads w11 (.slice (some ⟨GL + 1, 0, none⟩) 1 1) [0]) := ⟨rL10.out.1.below hb, rL10.out.2.below hb⟩
      have kL11 : Hid (Blk w11 (GL + 1 + 1) 42 #[.slice (some ⟨GL, 0, none⟩) 1 1, .slice (some ⟨GL + 1, 0, none⟩) 1 1]) := kL10.out.below hb
      have rH11 : Hid (ReadsA w11 (.slice (some ⟨GH, 0, none⟩) 1 1) [⟨3, t, [], hi⟩] ∧ Reads w11 (.slice (some ⟨GH + 1, 0, none⟩) 1 1) [0]) := ⟨rH10.out.1.below hb, rH10.out.2.below hb⟩
      have kH11 : Hid (Blk w11 (GH + 1 + 1) 42 #[.slice (some ⟨GH, 0, none⟩) 1 1, .slice (some ⟨GH + 1, 0, none⟩) 1 1]) := kH10.out.below hb
      have rN11 : Hid (ReadsA w11 (.slice (some ⟨GN, 0, none⟩) 1 1) [⟨4, t, [], (lo - 1)⟩] ∧ Reads w11 (.slice (some ⟨GN + 1, 0, none⟩) 1 1) [0]) := ⟨rN10.out.1.below hb, rN10.out.2.below hb⟩
      have kN11 : Hid (Blk w11 (GN + 1 + 1) 42 #[.slice (some ⟨GN, 0, none⟩) 1 1, .slice (some ⟨GN + 1, 0, none⟩) 1 1]) := kN10.out.below hb
      clear b0 b1 b2 hb
      go_upto_region 20 with fail
      rw [← hw11, ← hGA]
      clear hw11 hGA y0 y1
      obtain ⟨y0, y1⟩ := kS11.out.cells2
      have x0 : w11.cell? ⟨w.heap.size, 0, none⟩ = some (.slice ao M acap) := kF11.out.cell 0
      have x1 : w11.cell? ⟨w.heap.size, 1, none⟩ = some (.slice co nc ccap) := kF11.out.cell 1
      have z0 : w11.cell? ⟨GL + 1 + 1, 0, none⟩ = some (.slice (some ⟨GL, 0, none⟩) 1 1) := kL11.out.cell 0
      have z1 : w11.cell? ⟨GL + 1 + 1, 1, none⟩ = some (.slice (some ⟨GL + 1, 0, none⟩) 1 1) := kL11.out.cell 1
      go_wp2_with fail
      go_at_call 10
      refine (HOL.out _ _ (B11.out.alloc B11.out.size _) (two_forms (Blk.new w11 42 #[.slice ao M acap, .slice co nc ccap, .slice (some ⟨GL, 0, none⟩) 1 1, .slice (some ⟨GL + 1, 0, none⟩) 1 1]) (HA11.out.1.below (below_alloc1 _ _)) (HA11.out.2.below (below_alloc1 _ _)) (rL11.out.1.below (below_alloc1 _ _)) (rL11.out.2.below (below_alloc1 _ _)))).mono ?_
      rintro e w12 ⟨rfl, hb'⟩
      have hb : Below w11.heap.size w11 w12 := (below_alloc1 _ _).trans (hb'.mono (by simp))
      have B12 : Hid (Below w.heap.size w w12) := B11.out.trans (hb.mono B11.out.size)
      have kF12 : Hid (Blk w12 w.heap.size 42 #[.slice ao M acap, .slice co nc ccap]) := kF11.out.below hb
      have HA12 : Hid (ReadsA w12 (.slice ao M acap) f.ats ∧ Reads w12 (.slice co nc ccap) f.c) := ⟨HA11.out.1.below hb, HA11.out.2.below hb⟩
      have rH12 : Hid (ReadsA w12 (.slice (some ⟨GH, 0, none⟩) 1 1) [⟨3, t, [], hi⟩] ∧ Reads w12 (.slice (some ⟨GH + 1, 0, none⟩) 1 1) [0]) := ⟨rH11.out.1.below hb, rH11.out.2.below hb⟩
      have kH12 : Hid (Blk w12 (GH + 1 + 1) 42 #[.slice (some ⟨GH, 0, none⟩) 1 1, .slice (some ⟨GH + 1, 0, none⟩) 1 1]) := kH11.out.below hb
      have rN12 : Hid (ReadsA w12 (.slice (some ⟨GN, 0, none⟩) 1 1) [⟨4, t, [], (lo - 1)⟩] ∧ Reads w12 (.slice (some ⟨GN + 1, 0, none⟩) 1 1) [0]) := ⟨rN11.out.1.below hb, rN11.out.2.below hb⟩
      have kN12 : Hid (Blk w12 (GN + 1 + 1) 42 #[.slice (some ⟨GN, 0, none⟩) 1 1, .slice (some ⟨GN + 1, 0, none⟩) 1 1]) := kN11.out.below hb
      have rA12 : Hid (ReadsA w12 (.slice (some ⟨GA, 0, none⟩) 1 1) [⟨3, t, [], (hi + 1)⟩] ∧ Reads w12 (.slice (some ⟨GA + 1, 0, none⟩) 1 1) [0]) := ⟨rA11.out.1.below hb, rA11.out.2.below hb⟩
      have kA12 : Hid (Blk w12 (GA + 1 + 1) 42 #[.slice (some ⟨GA, 0, none⟩) 1 1, .slice (some ⟨GA + 1, 0, none⟩) 1 1]) := kA11.out.below hb
      clear hb hb' x0 x1 z0 z1 y0 y1
      have x0 : w12.cell? ⟨w.heap.size, 0, none⟩ = some (.slice ao M acap) := kF12.out.cell 0
      have x1 : w12.cell? ⟨w.heap.size, 1, none⟩ = some (.slice co nc ccap) := kF12.out.cell 1
      have z0 : w12.cell? ⟨GH + 1 + 1, 0, none⟩ = some (.slice (some ⟨GH, 0, none⟩) 1 1) := kH12.out.cell 0
      have z1 : w12.cell? ⟨GH + 1 + 1, 1, none⟩ = some (.slice (some ⟨GH + 1, 0, none⟩) 1 1) := kH12.out.cell 1
      go_wp2_with fail
      go_at_call 10
      refine (HOH.out _ _ (B12.out.alloc B12.out.size _) (two_forms (Blk.new w12 42 #[.slice ao M acap, .slice co nc ccap, .slice (some ⟨GH, 0, none⟩) 1 1, .slice (some ⟨GH + 1, 0, none⟩) 1 1]) (HA12.out.1.below (below_alloc1 _ _)) (HA12.out.2.below (below_alloc1 _ _)) (rH12.out.1.below (below_alloc1 _ _)) (rH12.out.2.below (below_alloc1 _ _)))).mono ?_
      rintro e w13 ⟨rfl, hb'⟩
      have hb : Below w12.heap.size w12 w13 := (below_alloc1 _ _).trans (hb'.mono (by simp))
      have B13 : Hid (Below w.heap.size w w13) := B12.out.trans (hb.mono B12.out.size)
      have kF13 : Hid (Blk w13 w.heap.size 42 #[.slice ao M acap, .slice co nc ccap]) := kF12.out.below hb
      have HA13 : Hid (ReadsA w13 (.slice ao M acap) f.ats ∧ Reads w13 (.slice co nc ccap) f.c) := ⟨HA12.out.1.below hb, HA12.out.2.below hb⟩
      have rN13 : Hid (ReadsA w13 (.slice (some ⟨GN, 0, none⟩) 1 1) [⟨4, t, [], (lo - 1)⟩] ∧ Reads w13 (.slice (some ⟨GN + 1, 0, none⟩) 1 1) [0]) := ⟨rN12.out.1.below hb, rN12.out.2.below hb⟩
      have kN13 : Hid (Blk w13 (GN + 1 + 1) 42 #[.slice (some ⟨GN, 0, none⟩) 1 1, .slice (some ⟨GN + 1, 0, none⟩) 1 1]) := kN12.out.below hb
      have rA13 : Hid (ReadsA w13 (.slice (some ⟨GA, 0, none⟩) 1 1) [⟨3, t, [], (hi + 1)⟩] ∧ Reads w13 (.slice (some ⟨GA + 1, 0, none⟩) 1 1) [0]) := ⟨rA12.out.1.below hb, rA12.out.2.below hb⟩
      have kA13 : Hid (Blk w13 (GA + 1 + 1) 42 #[.slice (some ⟨GA, 0, none⟩) 1 1, .slice (some ⟨GA + 1, 0, none⟩) 1 1]) := kA12.out.below hb
      clear hb hb' x0 x1 z0 z1
      have x0 : w13.cell? ⟨w.heap.size, 0, none⟩ = some (.slice ao M acap) := kF13.out.cell 0
      have x1 : w13.cell? ⟨w.heap.size, 1, none⟩ = some (.slice co nc ccap) := kF13.out.cell 1
      have z0 : w13.cell? ⟨GN + 1 + 1, 0, none⟩ = some (.slice (some ⟨GN, 0, none⟩) 1 1) := kN13.out.cell 0
      have z1 : w13.cell? ⟨GN + 1 + 1, 1, none⟩ = some (.slice (some ⟨GN + 1, 0, none⟩) 1 1) := kN13.out.cell 1
      go_wp2_with fail
      go_at_call 10
      refine (HON.out _ _ (B13.out.alloc B13.out.size _) (two_forms (Blk.new w13 42 #[.slice ao M acap, .slice co nc ccap, .slice (some ⟨GN, 0, none⟩) 1 1, .slice (some ⟨GN + 1, 0, none⟩) 1 1]) (HA13.out.1.below (below_alloc1 _ _)) (HA13.out.2.below (below_alloc1 _ _)) (rN13.out.1.below (below_alloc1 _ _)) (rN13.out.2.below (below_alloc1 _ _)))).mono ?_
      rintro e w14 ⟨rfl, hb'⟩
      have hb : Below w13.heap.size w13 w14 := (below_alloc1 _ _).trans (hb'.mono (by simp))
      have B14 : Hid (Below w.heap.size w w14) := B13.out.trans (hb.mono B13.out.size)
      have kF14 : Hid (Blk w14 w.heap.size 42 #[.slice ao M acap, .slice co nc ccap]) := kF13.out.below hb
      have HA14 : Hid (ReadsA w14 (.slice ao M acap) f.ats ∧ Reads w14 (.slice co nc ccap) f.c) := ⟨HA13.out.1.below hb, HA13.out.2.below hb⟩
      have rA14 : Hid (ReadsA w14 (.slice (some ⟨GA, 0, none⟩) 1 1) [⟨3, t, [], (hi + 1)⟩] ∧ Reads w14 (.slice (some ⟨GA + 1, 0, none⟩) 1 1) [0]) := ⟨rA13.out.1.below hb, rA13.out.2.below hb⟩
      have kA14 : Hid (Blk w14 (GA + 1 + 1) 42 #[.slice (some ⟨GA, 0, none⟩) 1 1, .slice (some ⟨GA + 1, 0, none⟩) 1 1]) := kA13.out.below hb
      clear hb hb' x0 x1 z0 z1
      have x0 : w14.cell? ⟨w.heap.size, 0, none⟩ = some (.slice ao M acap) := kF14.out.cell 0
      have x1 : w14.cell? ⟨w.heap.size, 1, none⟩ = some (.slice co nc ccap) := kF14.out.cell 1
      have z0 : w14.cell? ⟨GA + 1 + 1, 0, none⟩ = some (.slice (some ⟨GA, 0, none⟩) 1 1) := kA14.out.cell 0
      have z1 : w14.cell? ⟨GA + 1 + 1, 1, none⟩ = some (.slice (some ⟨GA + 1, 0, none⟩) 1 1) := kA14.out.cell 1
      go_wp2_with fail
      go_at_call 10
      refine (HOA.out _ _ (B14.out.alloc B14.out.size _) (two_forms (Blk.new w14 42 #[.slice ao M acap, .slice co nc ccap, .slice (some ⟨GA, 0, none⟩) 1 1, .slice (some ⟨GA + 1, 0, none⟩) 1 1]) (HA14.out.1.below (below_alloc1 _ _)) (HA14.out.2.below (below_alloc1 _ _)) (rA14.out.1.below (below_alloc1 _ _)) (rA14.out.2.below (below_alloc1 _ _)))).mono ?_
      rintro e w15 ⟨rfl, hb'⟩
      have hb : Below w14.heap.size w14 w15 := (below_alloc1 _ _).trans (hb'.mono (by simp))
      have B15 : Hid (Below w.heap.size w w15) := B14.out.trans (hb.mono B14.out.size)
      clear hb hb' x0 x1 z0 z1
      go_wp2
      go_ret
      exact ⟨rfl, B15.out⟩
end Go.Proofs.YtgkgbpbohgklhagDoor
