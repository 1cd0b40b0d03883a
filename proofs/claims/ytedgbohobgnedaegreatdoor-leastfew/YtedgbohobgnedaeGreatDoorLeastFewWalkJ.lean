/-
  Proved: vennlaw2.LeastFew returns true where what it calls answers as chapter 10 says; what was in memory is as it was (the walk that the statement leans on). Written by program.
-/
import Derived.Test.YtedgbohobgnedaeGreatDoorLibLA1
import Derived.Test.YtedgbohobgnedaeGreatDoorLibPA5
import Derived.Deep.CutRange
namespace Go.Proofs.YtedgbohobgnedaeGreatDoor
open Go.ChangeShapes Go.WideShapes Go.ChangeAt Go.RowKit
set_option maxRecDepth 100000

/-- at this place in memory lie these seven booleans. -/
def ListAt (w : World) (lb lo : Nat) (L : Nat → Bool) : Prop := lb < w.heap.size ∧ ∀ k, k < 7 → w.cell? ⟨lb, lo + k, none⟩ = some (.bool (L k))
theorem kept_list {w w' : World} {lb lo : Nat} {L : Nat → Bool} (h : ListAt w lb lo L) (hb : Below w.heap.size w w') : ListAt w' lb lo L :=
  ⟨Nat.lt_of_lt_of_le h.1 hb.size, fun k hk => by rw [hb.cell h.1]; exact h.2 k hk⟩

set_option maxHeartbeats 4000000 in
theorem leastFew_none (ao : Option Addr) (M acap : Nat) (co : Option Addr) (nc ccap : Nat) (wu wa wb wc : Int) (h fi : Bool) (EH EF : Value) (no : Int) (EL : Value) (eo : Int) (w : World)
    (HOne : Hid (∀ W b1 b2, Below w.heap.size w W → ReadsA W (.slice (some ⟨b1, 0, none⟩) 1 1) (manyA 1 3) → Reads W (.slice (some ⟨b2, 0, none⟩) 1 1) [0] → Calls Tryz.prog 18 #[.agg #[.slice (some ⟨b1, 0, none⟩) 1 1, .slice (some ⟨b2, 0, none⟩) 1 1]] W fun e w' => e = .returned (.tuple #[.int .i64 3, .nilIface]) ∧ Below W.heap.size W w'))
    (HHo : Hid (∀ W, Below w.heap.size w W → Calls Tryz.prog 14 #[.agg #[.slice ao M acap, .slice co nc ccap], .agg #[.int .i64 wu, .int .i64 wa, .int .i64 wb, .int .i64 wc]] W fun e w' => e = .returned (.tuple #[.bool h, EH]) ∧ Below W.heap.size W w'))
    (HFi : Hid (∀ W, Below w.heap.size w W → Calls Tryz.prog 20 #[.agg #[.slice ao M acap, .slice co nc ccap]] W fun e w' => e = .returned (.tuple #[.bool fi, EF]) ∧ Below W.heap.size W w'))
    (HP : EH = .nilIface ∨ ∃ m, EH = .iface 74 (.int .i64 m))
    (HQ : (∃ m, EF = .iface 74 (.int .i64 m)) ∨ (EF = .nilIface ∧ fi = false) ∨ (EF = .nilIface ∧ fi = true ∧ ∃ m, EH = .iface 74 (.int .i64 m)) ∨ (EF = .nilIface ∧ fi = true ∧ EH = .nilIface ∧ h = true))
    (HOf : Hid (∀ W, Below w.heap.size w W → Calls Tryz.prog 18 #[.agg #[.slice ao M acap, .slice co nc ccap]] W fun e w' => e = .returned (.tuple #[.int .i64 no, .iface 74 (.int .i64 eo)]) ∧ Below W.heap.size W w'))
    (HLi : Hid (∀ W, Below w.heap.size w W → Calls Tryz.prog 19 #[.agg #[.slice ao M acap, .slice co nc ccap]] W fun e w' => (∃ v, e = .returned (.tuple #[v, EL])) ∧ Below W.heap.size W w')) :
    Calls Tryz.prog 6 #[.agg #[.slice ao M acap, .slice co nc ccap], .agg #[.int .i64 wu, .int .i64 wa, .int .i64 wb, .int .i64 wc]] w fun e w' => e = .returned (.bool true) ∧ Below w.heap.size w w' := by
  have HPH : Hid _ := HP
  have HQH : Hid _ := HQ
  clear HP HQ
  obtain ⟨b0, b1, b2, b3, b4, b5, hB0⟩ := six_few w (.cells #[.slice ao M acap, .slice co nc ccap] 25) (.cells #[.int .i64 wu, .int .i64 wa, .int .i64 wb, .int .i64 wc] 28) (.cells #[.int .i64 1] 3) (.cells #[.int .i64 3, .slice (some ⟨w.heap.size + 1 + 1, 0, none⟩) 1 1, .slice none 0 0, .int .i64 3] 43) (.cells #[.int .i64 0] 3) (.cells #[.slice (some ⟨w.heap.size + 1 + 1 + 1, 0, none⟩) 1 1, .slice (some ⟨w.heap.size + 1 + 1 + 1 + 1, 0, none⟩) 1 1] 25)
  obtain ⟨w1, hw1⟩ : ∃ x, x = ((((((w.alloc (.cells #[.slice ao M acap, .slice co nc ccap] 25)).alloc (.cells #[.int .i64 wu, .int .i64 wa, .int .i64 wb, .int .i64 wc] 28)).alloc (.cells #[.int .i64 1] 3)).alloc (.cells #[.int .i64 3, .slice (some ⟨w.heap.size + 1 + 1, 0, none⟩) 1 1, .slice none 0 0, .int .i64 3] 43)).alloc (.cells #[.int .i64 0] 3)).alloc (.cells #[.slice (some ⟨w.heap.size + 1 + 1 + 1, 0, none⟩) 1 1, .slice (some ⟨w.heap.size + 1 + 1 + 1 + 1, 0, none⟩) 1 1] 25)) := ⟨_, rfl⟩
  rw [← hw1] at b0 b1 b2 b3 b4 b5 hB0
  have B1 : Hid (Below w.heap.size w w1) := hB0
  have k0w1 : Hid (Blk w1 w.heap.size 25 #[.slice ao M acap, .slice co nc ccap]) := b0
  have k1w1 : Hid (Blk w1 (w.heap.size + 1) 28 #[.int .i64 wu, .int .i64 wa, .int .i64 wb, .int .i64 wc]) := b1
  have k2 : Blk w1 (w.heap.size + 1 + 1) 3 #[.int .i64 1] := b2
  have k3 : Blk w1 (w.heap.size + 1 + 1 + 1) 43 #[.int .i64 3, .slice (some ⟨w.heap.size + 1 + 1, 0, none⟩) 1 1, .slice none 0 0, .int .i64 3] := b3
  have k4 : Blk w1 (w.heap.size + 1 + 1 + 1 + 1) 3 #[.int .i64 0] := b4
  have k5 : Blk w1 (w.heap.size + 1 + 1 + 1 + 1 + 1) 25 #[.slice (some ⟨w.heap.size + 1 + 1 + 1, 0, none⟩) 1 1, .slice (some ⟨w.heap.size + 1 + 1 + 1 + 1, 0, none⟩) 1 1] := b5
  have hRA : ReadsA w1 (.slice (some ⟨w.heap.size + 1 + 1 + 1, 0, none⟩) 1 1) (manyA 1 3) := by
    refine Or.inr ⟨w.heap.size + 1 + 1 + 1, 0, 1, rfl, k3.lt, by simp [manyA], ⟨by simp [manyA], by simp [manyA]⟩, fun i a ha => ?_⟩
    cases i with
    | zero =>
      obtain rfl : (⟨3, [1], [], 3⟩ : At) = a := by simpa [manyA] using ha
      refine ⟨_, _, k3.cell 0, k3.cell 1, k3.cell 2, k3.cell 3, Or.inr ⟨w.heap.size + 1 + 1, 0, 1, rfl, k2.lt, by simp, ⟨by simp, by simp⟩, fun j hj => ?_⟩, Or.inl ⟨none, 0, rfl, rfl⟩⟩
      obtain rfl : j = 0 := by simp at hj; exact hj
      exact k2.cell 0
    | succ i => simp [manyA] at ha
  have hRC : Reads w1 (.slice (some ⟨w.heap.size + 1 + 1 + 1 + 1, 0, none⟩) 1 1) [0] := by
    refine Or.inr ⟨w.heap.size + 1 + 1 + 1 + 1, 0, 1, rfl, k4.lt, by simp, ⟨by simp, by simp⟩, fun j hj => ?_⟩
    obtain rfl : j = 0 := by simp at hj; exact hj
    exact k4.cell 0
  have HRA : Hid (ReadsA w1 (.slice (some ⟨w.heap.size + 1 + 1 + 1, 0, none⟩) 1 1) (manyA 1 3)) := hRA
  have HRC : Hid (Reads w1 (.slice (some ⟨w.heap.size + 1 + 1 + 1 + 1, 0, none⟩) 1 1) [0]) := hRC
  have x0 : w1.cell? ⟨w.heap.size + 1 + 1 + 1 + 1 + 1, 0, none⟩ = some (.slice (some ⟨w.heap.size + 1 + 1 + 1, 0, none⟩) 1 1) := k5.cell 0
  have x1 : w1.cell? ⟨w.heap.size + 1 + 1 + 1 + 1 + 1, 1, none⟩ = some (.slice (some ⟨w.heap.size + 1 + 1 + 1 + 1, 0, none⟩) 1 1) := k5.cell 1
  clear hRA hRC k2 k3 k4 k5 b0 b1 b2 b3 b4 b5 hB0
  go_enter Tryz.func6, Tryz.ntmps6
  go_upto_region 2 with fail
  rw [← hw1]
  clear hw1
  go_wp2_with fail
  go_at_call 18
  refine (HOne.out _ _ _ B1.out HRA.out HRC.out).mono ?_
  rintro e w2 ⟨rfl, hb⟩
  have B2 : Hid (Below w.heap.size w w2) := B1.out.trans (hb.mono B1.out.size)
  have k0w2 : Hid (Blk w2 w.heap.size 25 #[.slice ao M acap, .slice co nc ccap]) := k0w1.out.below hb
  have k1w2 : Hid (Blk w2 (w.heap.size + 1) 28 #[.int .i64 wu, .int .i64 wa, .int .i64 wb, .int .i64 wc]) := k1w1.out.below hb
  clear hb HRA HRC HOne x0 x1
  have x0 : w2.cell? ⟨w.heap.size, 0, none⟩ = some (.slice ao M acap) := k0w2.out.cell 0
  have x1 : w2.cell? ⟨w.heap.size, 1, none⟩ = some (.slice co nc ccap) := k0w2.out.cell 1
  have z0 : w2.cell? ⟨w.heap.size + 1, 0, none⟩ = some (.int .i64 wu) := k1w2.out.cell 0
  have z1 : w2.cell? ⟨w.heap.size + 1, 1, none⟩ = some (.int .i64 wa) := k1w2.out.cell 1
  have z2 : w2.cell? ⟨w.heap.size + 1, 2, none⟩ = some (.int .i64 wb) := k1w2.out.cell 2
  have z3 : w2.cell? ⟨w.heap.size + 1, 3, none⟩ = some (.int .i64 wc) := k1w2.out.cell 3
  go_wp2_with fail
  go_at_call 14
  refine (HHo.out _ B2.out).mono ?_
  rintro e w3 ⟨rfl, hb⟩
  have B3 : Hid (Below w.heap.size w w3) := B2.out.trans (hb.mono B2.out.size)
  have k0w3 : Hid (Blk w3 w.heap.size 25 #[.slice ao M acap, .slice co nc ccap]) := k0w2.out.below hb
  have k1w3 : Hid (Blk w3 (w.heap.size + 1) 28 #[.int .i64 wu, .int .i64 wa, .int .i64 wb, .int .i64 wc]) := k1w2.out.below hb
  clear hb x0 x1 z0 z1 z2 z3
  have x0 : w3.cell? ⟨w.heap.size, 0, none⟩ = some (.slice ao M acap) := k0w3.out.cell 0
  have x1 : w3.cell? ⟨w.heap.size, 1, none⟩ = some (.slice co nc ccap) := k0w3.out.cell 1
  go_wp2_with fail
  go_at_call 18
  refine (HOf.out _ B3.out).mono ?_
  rintro e w4 ⟨rfl, hb⟩
  have B4 : Hid (Below w.heap.size w w4) := B3.out.trans (hb.mono B3.out.size)
  have k0w4 : Hid (Blk w4 w.heap.size 25 #[.slice ao M acap, .slice co nc ccap]) := k0w3.out.below hb
  have k1w4 : Hid (Blk w4 (w.heap.size + 1) 28 #[.int .i64 wu, .int .i64 wa, .int .i64 wb, .int .i64 wc]) := k1w3.out.below hb
  clear hb x0 x1 HOf
  have x0 : w4.cell? ⟨w.heap.size, 0, none⟩ = some (.slice ao M acap) := k0w4.out.cell 0
  have x1 : w4.cell? ⟨w.heap.size, 1, none⟩ = some (.slice co nc ccap) := k0w4.out.cell 1
  go_wp2_with fail
  go_at_call 19
  refine (HLi.out _ B4.out).mono ?_
  rintro e w5 ⟨⟨lv, rfl⟩, hb⟩
  have B5 : Hid (Below w.heap.size w w5) := B4.out.trans (hb.mono B4.out.size)
  have k0w5 : Hid (Blk w5 w.heap.size 25 #[.slice ao M acap, .slice co nc ccap]) := k0w4.out.below hb
  have k1w5 : Hid (Blk w5 (w.heap.size + 1) 28 #[.int .i64 wu, .int .i64 wa, .int .i64 wb, .int .i64 wc]) := k1w4.out.below hb
  clear hb x0 x1
  have x0 : w5.cell? ⟨w.heap.size, 0, none⟩ = some (.slice ao M acap) := k0w5.out.cell 0
  have x1 : w5.cell? ⟨w.heap.size, 1, none⟩ = some (.slice co nc ccap) := k0w5.out.cell 1
  go_wp2_with fail
  go_at_call 20
  refine (HFi.out _ B5.out).mono ?_
  rintro e wF ⟨rfl, hb⟩
  have BF : Hid (Below w.heap.size w wF) := B5.out.trans (hb.mono B5.out.size)
  have k0wF : Hid (Blk wF w.heap.size 25 #[.slice ao M acap, .slice co nc ccap]) := k0w5.out.below hb
  have k1wF : Hid (Blk wF (w.heap.size + 1) 28 #[.int .i64 wu, .int .i64 wa, .int .i64 wb, .int .i64 wc]) := k1w5.out.below hb
  clear hb x0 x1
  rcases HQH.out with ⟨m, rfl⟩ | ⟨rfl, rfl⟩ | ⟨rfl, rfl, m, rfl⟩ | ⟨rfl, rfl, rfl, rfl⟩
  all_goals clear HQH HPH
  all_goals go_wp2
  all_goals go_ret
  all_goals exact ⟨rfl, BF.out⟩

set_option maxHeartbeats 4000000 in
theorem leastFew_some (ao : Option Addr) (M acap : Nat) (co : Option Addr) (nc ccap : Nat) (wu wa wb wc : Int) (h fi : Bool) (EH EF : Value) (n : Nat) (hn : n ≤ 6) (L : Nat → Bool) (xa xb xc : Int) (w : World)
    (HOne : Hid (∀ W b1 b2, Below w.heap.size w W → ReadsA W (.slice (some ⟨b1, 0, none⟩) 1 1) (manyA 1 3) → Reads W (.slice (some ⟨b2, 0, none⟩) 1 1) [0] → Calls Tryz.prog 18 #[.agg #[.slice (some ⟨b1, 0, none⟩) 1 1, .slice (some ⟨b2, 0, none⟩) 1 1]] W fun e w' => e = .returned (.tuple #[.int .i64 3, .nilIface]) ∧ Below W.heap.size W w'))
    (HHo : Hid (∀ W, Below w.heap.size w W → Calls Tryz.prog 14 #[.agg #[.slice ao M acap, .slice co nc ccap], .agg #[.int .i64 wu, .int .i64 wa, .int .i64 wb, .int .i64 wc]] W fun e w' => e = .returned (.tuple #[.bool h, EH]) ∧ Below W.heap.size W w'))
    (HFi : Hid (∀ W, Below w.heap.size w W → Calls Tryz.prog 20 #[.agg #[.slice ao M acap, .slice co nc ccap]] W fun e w' => e = .returned (.tuple #[.bool fi, EF]) ∧ Below W.heap.size W w'))
    (HP : EH = .nilIface ∨ ∃ m, EH = .iface 74 (.int .i64 m))
    (HQ : (∃ m, EF = .iface 74 (.int .i64 m)) ∨ (EF = .nilIface ∧ fi = false) ∨ (EF = .nilIface ∧ fi = true ∧ ∃ m, EH = .iface 74 (.int .i64 m)) ∨ (EF = .nilIface ∧ fi = true ∧ EH = .nilIface ∧ h = true))
    (HOf : Hid (∀ W, Below w.heap.size w W → Calls Tryz.prog 18 #[.agg #[.slice ao M acap, .slice co nc ccap]] W fun e w' => e = .returned (.tuple #[.int .i64 n, .nilIface]) ∧ Below W.heap.size W w'))
    (HLi : Hid (∀ W, Below w.heap.size w W → Calls Tryz.prog 19 #[.agg #[.slice ao M acap, .slice co nc ccap]] W fun e w' => (∃ lb lo lcap, e = .returned (.tuple #[.slice (some ⟨lb, lo, none⟩) 7 lcap, .nilIface]) ∧ ListAt w' lb lo L) ∧ Below W.heap.size W w'))
    (hLn : L n = true) (HLu : Hid (∀ u, u < n → L u = false))
    (HMo : Hid (∀ u : Nat, u < n → ∀ W, Below w.heap.size w W → Calls Tryz.prog 8 #[.agg #[.slice ao M acap, .slice co nc ccap], .int .i64 u] W fun e w' => e = .returned (.tuple #[.agg #[.int .i64 0, .int .i64 0, .int .i64 0, .int .i64 0], .iface 74 (.int .i64 5)]) ∧ Below W.heap.size W w'))
    (HMn : Hid (∀ W, Below w.heap.size w W → Calls Tryz.prog 8 #[.agg #[.slice ao M acap, .slice co nc ccap], .int .i64 n] W fun e w' => e = .returned (.tuple #[.agg #[.int .i64 n, .int .i64 xa, .int .i64 xb, .int .i64 xc], .nilIface]) ∧ Below W.heap.size W w'))
    (HE5 : Hid (∀ W, Below w.heap.size w W → Calls Tryz.prog 9 #[.iface 74 (.int .i64 5), .int .i64 5] W fun e w' => e = .returned (.bool true) ∧ Below W.heap.size W w'))
    (HT : (∃ m, EH = .iface 74 (.int .i64 m)) ∨ (EH = .nilIface ∧ h = false) ∨ (EH = .nilIface ∧ h = true ∧ (n : Int) ≤ wu)) :
    Calls Tryz.prog 6 #[.agg #[.slice ao M acap, .slice co nc ccap], .agg #[.int .i64 wu, .int .i64 wa, .int .i64 wb, .int .i64 wc]] w fun e w' => e = .returned (.bool true) ∧ Below w.heap.size w w' := by
  have HTH : Hid _ := HT
  have HLn : Hid (L n = true) := hLn
  clear HT hLn
  have HPH : Hid _ := HP
  have HQH : Hid _ := HQ
  clear HP HQ
  obtain ⟨b0, b1, b2, b3, b4, b5, hB0⟩ := six_few w (.cells #[.slice ao M acap, .slice co nc ccap] 25) (.cells #[.int .i64 wu, .int .i64 wa, .int .i64 wb, .int .i64 wc] 28) (.cells #[.int .i64 1] 3) (.cells #[.int .i64 3, .slice (some ⟨w.heap.size + 1 + 1, 0, none⟩) 1 1, .slice none 0 0, .int .i64 3] 43) (.cells #[.int .i64 0] 3) (.cells #[.slice (some ⟨w.heap.size + 1 + 1 + 1, 0, none⟩) 1 1, .slice (some ⟨w.heap.size + 1 + 1 + 1 + 1, 0, none⟩) 1 1] 25)
  obtain ⟨w1, hw1⟩ : ∃ x, x = ((((((w.alloc (.cells #[.slice ao M acap, .slice co nc ccap] 25)).alloc (.cells #[.int .i64 wu, .int .i64 wa, .int .i64 wb, .int .i64 wc] 28)).alloc (.cells #[.int .i64 1] 3)).alloc (.cells #[.int .i64 3, .slice (some ⟨w.heap.size + 1 + 1, 0, none⟩) 1 1, .slice none 0 0, .int .i64 3] 43)).alloc (.cells #[.int .i64 0] 3)).alloc (.cells #[.slice (some ⟨w.heap.size + 1 + 1 + 1, 0, none⟩) 1 1, .slice (some ⟨w.heap.size + 1 + 1 + 1 + 1, 0, none⟩) 1 1] 25)) := ⟨_, rfl⟩
  rw [← hw1] at b0 b1 b2 b3 b4 b5 hB0
  have B1 : Hid (Below w.heap.size w w1) := hB0
  have k0w1 : Hid (Blk w1 w.heap.size 25 #[.slice ao M acap, .slice co nc ccap]) := b0
  have k1w1 : Hid (Blk w1 (w.heap.size + 1) 28 #[.int .i64 wu, .int .i64 wa, .int .i64 wb, .int .i64 wc]) := b1
  have k2 : Blk w1 (w.heap.size + 1 + 1) 3 #[.int .i64 1] := b2
  have k3 : Blk w1 (w.heap.size + 1 + 1 + 1) 43 #[.int .i64 3, .slice (some ⟨w.heap.size + 1 + 1, 0, none⟩) 1 1, .slice none 0 0, .int .i64 3] := b3
  have k4 : Blk w1 (w.heap.size + 1 + 1 + 1 + 1) 3 #[.int .i64 0] := b4
  have k5 : Blk w1 (w.heap.size + 1 + 1 + 1 + 1 + 1) 25 #[.slice (some ⟨w.heap.size + 1 + 1 + 1, 0, none⟩) 1 1, .slice (some ⟨w.heap.size + 1 + 1 + 1 + 1, 0, none⟩) 1 1] := b5
  have hRA : ReadsA w1 (.slice (some ⟨w.heap.size + 1 + 1 + 1, 0, none⟩) 1 1) (manyA 1 3) := by
    refine Or.inr ⟨w.heap.size + 1 + 1 + 1, 0, 1, rfl, k3.lt, by simp [manyA], ⟨by simp [manyA], by simp [manyA]⟩, fun i a ha => ?_⟩
    cases i with
    | zero =>
      obtain rfl : (⟨3, [1], [], 3⟩ : At) = a := by simpa [manyA] using ha
      refine ⟨_, _, k3.cell 0, k3.cell 1, k3.cell 2, k3.cell 3, Or.inr ⟨w.heap.size + 1 + 1, 0, 1, rfl, k2.lt, by simp, ⟨by simp, by simp⟩, fun j hj => ?_⟩, Or.inl ⟨none, 0, rfl, rfl⟩⟩
      obtain rfl : j = 0 := by simp at hj; exact hj
      exact k2.cell 0
    | succ i => simp [manyA] at ha
  have hRC : Reads w1 (.slice (some ⟨w.heap.size + 1 + 1 + 1 + 1, 0, none⟩) 1 1) [0] := by
    refine Or.inr ⟨w.heap.size + 1 + 1 + 1 + 1, 0, 1, rfl, k4.lt, by simp, ⟨by simp, by simp⟩, fun j hj => ?_⟩
    obtain rfl : j = 0 := by simp at hj; exact hj
    exact k4.cell 0
  have HRA : Hid (ReadsA w1 (.slice (some ⟨w.heap.size + 1 + 1 + 1, 0, none⟩) 1 1) (manyA 1 3)) := hRA
  have HRC : Hid (Reads w1 (.slice (some ⟨w.heap.size + 1 + 1 + 1 + 1, 0, none⟩) 1 1) [0]) := hRC
  have x0 : w1.cell? ⟨w.heap.size + 1 + 1 + 1 + 1 + 1, 0, none⟩ = some (.slice (some ⟨w.heap.size + 1 + 1 + 1, 0, none⟩) 1 1) := k5.cell 0
  have x1 : w1.cell? ⟨w.heap.size + 1 + 1 + 1 + 1 + 1, 1, none⟩ = some (.slice (some ⟨w.heap.size + 1 + 1 + 1 + 1, 0, none⟩) 1 1) := k5.cell 1
  clear hRA hRC k2 k3 k4 k5 b0 b1 b2 b3 b4 b5 hB0
  go_enter Tryz.func6, Tryz.ntmps6
  go_upto_region 2 with fail
  rw [← hw1]
  clear hw1
  go_wp2_with fail
  go_at_call 18
  refine (HOne.out _ _ _ B1.out HRA.out HRC.out).mono ?_
  rintro e w2 ⟨rfl, hb⟩
  have B2 : Hid (Below w.heap.size w w2) := B1.out.trans (hb.mono B1.out.size)
  have k0w2 : Hid (Blk w2 w.heap.size 25 #[.slice ao M acap, .slice co nc ccap]) := k0w1.out.below hb
  have k1w2 : Hid (Blk w2 (w.heap.size + 1) 28 #[.int .i64 wu, .int .i64 wa, .int .i64 wb, .int .i64 wc]) := k1w1.out.below hb
  clear hb HRA HRC HOne x0 x1
  have x0 : w2.cell? ⟨w.heap.size, 0, none⟩ = some (.slice ao M acap) := k0w2.out.cell 0
  have x1 : w2.cell? ⟨w.heap.size, 1, none⟩ = some (.slice co nc ccap) := k0w2.out.cell 1
  have z0 : w2.cell? ⟨w.heap.size + 1, 0, none⟩ = some (.int .i64 wu) := k1w2.out.cell 0
  have z1 : w2.cell? ⟨w.heap.size + 1, 1, none⟩ = some (.int .i64 wa) := k1w2.out.cell 1
  have z2 : w2.cell? ⟨w.heap.size + 1, 2, none⟩ = some (.int .i64 wb) := k1w2.out.cell 2
  have z3 : w2.cell? ⟨w.heap.size + 1, 3, none⟩ = some (.int .i64 wc) := k1w2.out.cell 3
  go_wp2_with fail
  go_at_call 14
  refine (HHo.out _ B2.out).mono ?_
  rintro e w3 ⟨rfl, hb⟩
  have B3 : Hid (Below w.heap.size w w3) := B2.out.trans (hb.mono B2.out.size)
  have k0w3 : Hid (Blk w3 w.heap.size 25 #[.slice ao M acap, .slice co nc ccap]) := k0w2.out.below hb
  have k1w3 : Hid (Blk w3 (w.heap.size + 1) 28 #[.int .i64 wu, .int .i64 wa, .int .i64 wb, .int .i64 wc]) := k1w2.out.below hb
  clear hb x0 x1 z0 z1 z2 z3
  have x0 : w3.cell? ⟨w.heap.size, 0, none⟩ = some (.slice ao M acap) := k0w3.out.cell 0
  have x1 : w3.cell? ⟨w.heap.size, 1, none⟩ = some (.slice co nc ccap) := k0w3.out.cell 1
  go_wp2_with fail
  go_at_call 18
  refine (HOf.out _ B3.out).mono ?_
  rintro e w4 ⟨rfl, hb⟩
  have B4 : Hid (Below w.heap.size w w4) := B3.out.trans (hb.mono B3.out.size)
  have k0w4 : Hid (Blk w4 w.heap.size 25 #[.slice ao M acap, .slice co nc ccap]) := k0w3.out.below hb
  have k1w4 : Hid (Blk w4 (w.heap.size + 1) 28 #[.int .i64 wu, .int .i64 wa, .int .i64 wb, .int .i64 wc]) := k1w3.out.below hb
  clear hb x0 x1 HOf
  have x0 : w4.cell? ⟨w.heap.size, 0, none⟩ = some (.slice ao M acap) := k0w4.out.cell 0
  have x1 : w4.cell? ⟨w.heap.size, 1, none⟩ = some (.slice co nc ccap) := k0w4.out.cell 1
  go_wp2_with fail
  go_at_call 19
  refine (HLi.out _ B4.out).mono ?_
  rintro e w5 ⟨⟨lb, lo, lcap, rfl, hl⟩, hb⟩
  have B5 : Hid (Below w.heap.size w w5) := B4.out.trans (hb.mono B4.out.size)
  have k0w5 : Hid (Blk w5 w.heap.size 25 #[.slice ao M acap, .slice co nc ccap]) := k0w4.out.below hb
  have k1w5 : Hid (Blk w5 (w.heap.size + 1) 28 #[.int .i64 wu, .int .i64 wa, .int .i64 wb, .int .i64 wc]) := k1w4.out.below hb
  clear hb x0 x1
  have HLw5 : Hid (ListAt w5 lb lo L) := hl
  clear hl
  have y0 : w5.cell? ⟨lb, lo + n, none⟩ = some (.bool true) := by rw [← HLn.out]; exact HLw5.out.2 n (by omega)
  have n0 : (0 : Int) ≤ (n : Int) := by omega
  have n6 : (n : Int) ≤ 6 := by omega
  go_upto_region 11 with fail
  clear y0
  go_wp2
  go_loopw [14, 15, 16] (fun i _ _ wr => ∃ k : Nat, k ≤ n ∧ i = .int .i64 k ∧ Hid (Below w.heap.size w wr) ∧ Hid (Blk wr w.heap.size 25 #[.slice ao M acap, .slice co nc ccap]) ∧ Hid (Blk wr (w.heap.size + 1) 28 #[.int .i64 wu, .int .i64 wa, .int .i64 wb, .int .i64 wc]) ∧ Hid (ListAt wr lb lo L)) (fun i _ _ _ => n - (intOf i).toNat)
  case atStart => exact ⟨0, Nat.zero_le _, rfl, B5, k0w5, k1w5, HLw5⟩
  case round =>
    obtain ⟨k, hk, rfl, Br, k0wr, k1wr, HLwr⟩ := hrel
    by_cases hlt : k < n
    · have hlt2 : (k : Int) < (n : Int) := by omega
      have x0 : wr.cell? ⟨w.heap.size, 0, none⟩ = some (.slice ao M acap) := k0wr.out.cell 0
      have x1 : wr.cell? ⟨w.heap.size, 1, none⟩ = some (.slice co nc ccap) := k0wr.out.cell 1
      go_wp2_with fail
      go_at_call 8
      refine (HMo.out k hlt _ Br.out).mono ?_
      rintro e wa1 ⟨rfl, hb⟩
      have Ba1 : Hid (Below w.heap.size w wa1) := Br.out.trans (hb.mono Br.out.size)
      have k0wa1 : Hid (Blk wa1 w.heap.size 25 #[.slice ao M acap, .slice co nc ccap]) := k0wr.out.below hb
      have k1wa1 : Hid (Blk wa1 (w.heap.size + 1) 28 #[.int .i64 wu, .int .i64 wa, .int .i64 wb, .int .i64 wc]) := k1wr.out.below hb
      have HLwa1 : Hid (ListAt wa1 lb lo L) := by unfold Hid; exact (kept_list HLwr.out hb)
      clear hb x0 x1
      obtain ⟨wa2, hwa2⟩ : ∃ x, x = wa1.alloc (.cells #[.int .i64 0, .int .i64 0, .int .i64 0, .int .i64 0] 28) := ⟨_, rfl⟩
      obtain ⟨G9, hG9⟩ : ∃ x, x = wa1.heap.size := ⟨_, rfl⟩
      have Ba2 : Hid (Below w.heap.size w wa2) := by unfold Hid; rw [hwa2]; exact Ba1.out.alloc Ba1.out.size _
      have k0wa2 : Hid (Blk wa2 w.heap.size 25 #[.slice ao M acap, .slice co nc ccap]) := by unfold Hid; rw [hwa2]; exact k0wa1.out.old _
      have k1wa2 : Hid (Blk wa2 (w.heap.size + 1) 28 #[.int .i64 wu, .int .i64 wa, .int .i64 wb, .int .i64 wc]) := by unfold Hid; rw [hwa2]; exact k1wa1.out.old _
      have HLwa2 : Hid (ListAt wa2 lb lo L) := by unfold Hid; rw [hwa2]; exact (kept_list HLwa1.out (below_alloc1 _ _))
      have k9wa2 : Hid (Blk wa2 G9 28 #[.int .i64 0, .int .i64 0, .int .i64 0, .int .i64 0]) := by unfold Hid; rw [hwa2, hG9]; exact Blk.new _ _ _
      go_upto_region 15 with fail
      rw [← hwa2, ← hG9]
      clear hwa2 hG9
      go_wp2_with fail
      go_at_call 9
      refine (HE5.out _ Ba2.out).mono ?_
      rintro e wa3 ⟨rfl, hb⟩
      have Ba3 : Hid (Below w.heap.size w wa3) := Ba2.out.trans (hb.mono Ba2.out.size)
      have k0wa3 : Hid (Blk wa3 w.heap.size 25 #[.slice ao M acap, .slice co nc ccap]) := k0wa2.out.below hb
      have k1wa3 : Hid (Blk wa3 (w.heap.size + 1) 28 #[.int .i64 wu, .int .i64 wa, .int .i64 wb, .int .i64 wc]) := k1wa2.out.below hb
      have k9wa3 : Hid (Blk wa3 G9 28 #[.int .i64 0, .int .i64 0, .int .i64 0, .int .i64 0]) := k9wa2.out.below hb
      have HLwa3 : Hid (ListAt wa3 lb lo L) := by unfold Hid; exact (kept_list HLwa2.out hb)
      clear hb 
      have y0 : wa3.cell? ⟨lb, lo + k, none⟩ = some (.bool false) := by rw [← HLu.out k hlt]; exact HLwa3.out.2 k (by omega)
      go_wp2
      go_roundw
      case rel => exact ⟨k + 1, by omega, by go_num, Ba3, k0wa3, k1wa3, HLwa3⟩
      case measure => simp [intOf]; omega
    · obtain rfl : k = n := by omega
      have x0 : wr.cell? ⟨w.heap.size, 0, none⟩ = some (.slice ao M acap) := k0wr.out.cell 0
      have x1 : wr.cell? ⟨w.heap.size, 1, none⟩ = some (.slice co nc ccap) := k0wr.out.cell 1
      go_wp2_with fail
      go_at_call 8
      refine (HMn.out _ Br.out).mono ?_
      rintro e wb1 ⟨rfl, hb⟩
      have Bb1 : Hid (Below w.heap.size w wb1) := Br.out.trans (hb.mono Br.out.size)
      have k0wb1 : Hid (Blk wb1 w.heap.size 25 #[.slice ao M acap, .slice co nc ccap]) := k0wr.out.below hb
      have k1wb1 : Hid (Blk wb1 (w.heap.size + 1) 28 #[.int .i64 wu, .int .i64 wa, .int .i64 wb, .int .i64 wc]) := k1wr.out.below hb
      have HLwb1 : Hid (ListAt wb1 lb lo L) := by unfold Hid; exact (kept_list HLwr.out hb)
      clear hb x0 x1
      obtain ⟨wb2, hwb2⟩ : ∃ x, x = wb1.alloc (.cells #[.int .i64 k, .int .i64 xa, .int .i64 xb, .int .i64 xc] 28) := ⟨_, rfl⟩
      obtain ⟨G9, hG9⟩ : ∃ x, x = wb1.heap.size := ⟨_, rfl⟩
      have Bb2 : Hid (Below w.heap.size w wb2) := by unfold Hid; rw [hwb2]; exact Bb1.out.alloc Bb1.out.size _
      have k0wb2 : Hid (Blk wb2 w.heap.size 25 #[.slice ao M acap, .slice co nc ccap]) := by unfold Hid; rw [hwb2]; exact k0wb1.out.old _
      have k1wb2 : Hid (Blk wb2 (w.heap.size + 1) 28 #[.int .i64 wu, .int .i64 wa, .int .i64 wb, .int .i64 wc]) := by unfold Hid; rw [hwb2]; exact k1wb1.out.old _
      have HLwb2 : Hid (ListAt wb2 lb lo L) := by unfold Hid; rw [hwb2]; exact (kept_list HLwb1.out (below_alloc1 _ _))
      have k9wb2 : Hid (Blk wb2 G9 28 #[.int .i64 k, .int .i64 xa, .int .i64 xb, .int .i64 xc]) := by unfold Hid; rw [hwb2, hG9]; exact Blk.new _ _ _
      go_upto_region 18 with fail
      rw [← hwb2, ← hG9]
      clear hwb2 hG9
      have y0 : wb2.cell? ⟨G9, 0, none⟩ = some (.int .i64 k) := k9wb2.out.cell 0
      have z0 : wb2.cell? ⟨w.heap.size + 1, 0, none⟩ = some (.int .i64 wu) := k1wb2.out.cell 0
      rcases HTH.out with ⟨m, rfl⟩ | ⟨rfl, rfl⟩ | ⟨rfl, rfl, hwu⟩
      · clear HTH HPH
        have HPH : True := trivial
        have HQI : Hid _ := HQH.out
        clear HQH
        go_upto_region 20 with fail
        clear y0 z0
        have HQH : Hid _ := HQI.out
        clear HQI
        have x0 : wb2.cell? ⟨w.heap.size, 0, none⟩ = some (.slice ao M acap) := k0wb2.out.cell 0
        have x1 : wb2.cell? ⟨w.heap.size, 1, none⟩ = some (.slice co nc ccap) := k0wb2.out.cell 1
        go_wp2_with fail
        go_at_call 20
        refine (HFi.out _ Bb2.out).mono ?_
        rintro e wF ⟨rfl, hb⟩
        have BF : Hid (Below w.heap.size w wF) := Bb2.out.trans (hb.mono Bb2.out.size)
        have k0wF : Hid (Blk wF w.heap.size 25 #[.slice ao M acap, .slice co nc ccap]) := k0wb2.out.below hb
        have k1wF : Hid (Blk wF (w.heap.size + 1) 28 #[.int .i64 wu, .int .i64 wa, .int .i64 wb, .int .i64 wc]) := k1wb2.out.below hb
        have k9wF : Hid (Blk wF G9 28 #[.int .i64 k, .int .i64 xa, .int .i64 xb, .int .i64 xc]) := k9wb2.out.below hb
        have HLwF : Hid (ListAt wF lb lo L) := by unfold Hid; exact (kept_list HLwb2.out hb)
        clear hb x0 x1
        rcases HQH.out with ⟨m2, rfl⟩ | ⟨rfl, rfl⟩ | ⟨rfl, rfl, m2, e2⟩ | ⟨rfl, rfl, e2, e3⟩
        all_goals clear HQH HPH
        all_goals first | (exfalso; cases e2; done) | (exfalso; cases e3; done) | skip
        all_goals go_wp2
        all_goals go_ret
        all_goals exact ⟨rfl, BF.out⟩
      · clear HTH HPH
        have HPH : True := trivial
        have HQI : Hid _ := HQH.out
        clear HQH
        go_upto_region 20 with fail
        clear y0 z0
        have HQH : Hid _ := HQI.out
        clear HQI
        have x0 : wb2.cell? ⟨w.heap.size, 0, none⟩ = some (.slice ao M acap) := k0wb2.out.cell 0
        have x1 : wb2.cell? ⟨w.heap.size, 1, none⟩ = some (.slice co nc ccap) := k0wb2.out.cell 1
        go_wp2_with fail
        go_at_call 20
        refine (HFi.out _ Bb2.out).mono ?_
        rintro e wF ⟨rfl, hb⟩
        have BF : Hid (Below w.heap.size w wF) := Bb2.out.trans (hb.mono Bb2.out.size)
        have k0wF : Hid (Blk wF w.heap.size 25 #[.slice ao M acap, .slice co nc ccap]) := k0wb2.out.below hb
        have k1wF : Hid (Blk wF (w.heap.size + 1) 28 #[.int .i64 wu, .int .i64 wa, .int .i64 wb, .int .i64 wc]) := k1wb2.out.below hb
        have k9wF : Hid (Blk wF G9 28 #[.int .i64 k, .int .i64 xa, .int .i64 xb, .int .i64 xc]) := k9wb2.out.below hb
        have HLwF : Hid (ListAt wF lb lo L) := by unfold Hid; exact (kept_list HLwb2.out hb)
        clear hb x0 x1
        rcases HQH.out with ⟨m2, rfl⟩ | ⟨rfl, rfl⟩ | ⟨rfl, rfl, m2, e2⟩ | ⟨rfl, rfl, e2, e3⟩
        all_goals clear HQH HPH
        all_goals first | (exfalso; cases e2; done) | (exfalso; cases e3; done) | skip
        all_goals go_wp2
        all_goals go_ret
        all_goals exact ⟨rfl, BF.out⟩
      · clear HTH HPH
        have HPH : True := trivial
        have HQI : Hid _ := HQH.out
        clear HQH
        go_upto_region 20 with fail
        clear y0 z0
        have HQH : Hid _ := HQI.out
        clear HQI
        have x0 : wb2.cell? ⟨w.heap.size, 0, none⟩ = some (.slice ao M acap) := k0wb2.out.cell 0
        have x1 : wb2.cell? ⟨w.heap.size, 1, none⟩ = some (.slice co nc ccap) := k0wb2.out.cell 1
        go_wp2_with fail
        go_at_call 20
        refine (HFi.out _ Bb2.out).mono ?_
        rintro e wF ⟨rfl, hb⟩
        have BF : Hid (Below w.heap.size w wF) := Bb2.out.trans (hb.mono Bb2.out.size)
        have k0wF : Hid (Blk wF w.heap.size 25 #[.slice ao M acap, .slice co nc ccap]) := k0wb2.out.below hb
        have k1wF : Hid (Blk wF (w.heap.size + 1) 28 #[.int .i64 wu, .int .i64 wa, .int .i64 wb, .int .i64 wc]) := k1wb2.out.below hb
        have k9wF : Hid (Blk wF G9 28 #[.int .i64 k, .int .i64 xa, .int .i64 xb, .int .i64 xc]) := k9wb2.out.below hb
        have HLwF : Hid (ListAt wF lb lo L) := by unfold Hid; exact (kept_list HLwb2.out hb)
        clear hb x0 x1
        rcases HQH.out with ⟨m2, rfl⟩ | ⟨rfl, rfl⟩ | ⟨rfl, rfl, m2, e2⟩ | ⟨rfl, rfl, e2, e3⟩
        all_goals clear HQH HPH
        all_goals first | (exfalso; cases e2; done) | (exfalso; cases e3; done) | skip
        all_goals go_wp2
        all_goals go_ret
        all_goals exact ⟨rfl, BF.out⟩
end Go.Proofs.YtedgbohobgnedaeGreatDoor
