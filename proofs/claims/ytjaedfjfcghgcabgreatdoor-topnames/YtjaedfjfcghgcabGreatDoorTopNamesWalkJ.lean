/-
  Proved: venntop.TopNames returns true where what it calls answers as the chapters say; what was in memory is as it was (the walks that the statement leans on). Written by program.
-/
import Derived.Test.YtjaedfjfcghgcabGreatDoorLibX5
import Derived.Test.YtjaedfjfcghgcabGreatDoorLibX6
import Derived.Deep.CutRange
import Derived.BigQuiet
namespace Go.Proofs.YtjaedfjfcghgcabGreatDoor
open Go.ChangeShapes Go.WideShapes Go.ChangeAt Go.RowKit
set_option maxRecDepth 100000
theorem names_drewN {B n : Nat} {a w : World} (h : Below B a w) : Below B a (w.drewN n) := ⟨h.os, h.tape, h.output, h.size, h.block⟩
theorem swap_blk {w : World} {G : Nat} {T : TypeId} (h : Blk w G T #[.int .i64 0, .int .i64 1, .int .i64 2]) {i j : Nat} (hi : i < 3) (hj : j < 3) : Blk ((w.setCell ⟨G, i, none⟩ (.int .i64 j)).setCell ⟨G, j, none⟩ (.int .i64 i)) G T #[.int .i64 (swapP i j 0), .int .i64 (swapP i j 1), .int .i64 (swapP i j 2)] := by
 have h2 := (h.set i (.int .i64 (j : Int))).set j (.int .i64 (i : Int))
 have e : ((#[.int .i64 0, .int .i64 1, .int .i64 2] : Array Value).setIfInBounds i (.int .i64 (j : Int))).setIfInBounds j (.int .i64 (i : Int)) = #[.int .i64 (swapP i j 0), .int .i64 (swapP i j 1), .int .i64 (swapP i j 2)] := by
  rcases (by omega : i = 0 ∨ i = 1 ∨ i = 2) with rfl | rfl | rfl <;> rcases (by omega : j = 0 ∨ j = 1 ∨ j = 2) with rfl | rfl | rfl <;> simp [swapP]
 rw [e] at h2
 exact h2
-- what is no name, or too many things
set_option maxHeartbeats 8000000 in
theorem topNames_out (ao : Option Addr) (al acap : Nat) (co : Option Addr) (cl ccap : Nat) (vt : Value) (x y u : Int) (h : ¬ ((0 ≤ x ∧ x ≤ 2) ∧ (0 ≤ y ∧ y ≤ 2) ∧ u ≤ 4)) (w : World)
    (HOn : Hid (∀ W, Below w.heap.size w W → Calls Tryz.prog 5 #[] W (Bk W (.bool true)))) :
    Calls Tryz.prog 4 #[.agg #[.slice ao al acap, .slice co cl ccap], vt, .int .i64 x, .int .i64 y, .int .i64 u] w (Bk w (.bool true)) := by
 obtain ⟨w1, hw1⟩ := nm (w.alloc (.cells #[.slice ao al acap, .slice co cl ccap] 25))
 have HB1 : Hid (Below w.heap.size w w1) := by unfold Hid; rw [hw1]; exact below_alloc1 _ _
 have HC : Hid (x < 0 ∨ (0 ≤ x ∧ 2 < x) ∨ ((0 ≤ x ∧ x ≤ 2) ∧ y < 0) ∨ ((0 ≤ x ∧ x ≤ 2) ∧ 0 ≤ y ∧ 2 < y) ∨ ((0 ≤ x ∧ x ≤ 2) ∧ (0 ≤ y ∧ y ≤ 2) ∧ 4 < u)) := by unfold Hid; omega
 clear h
 go_enter Tryz.func4, Tryz.ntmps4
 go_upto_region 1 with fail
 rw [← hw1]
 clear hw1
 go_wp2_with fail
 go_at_call 5
 refine (HOn.out _ HB1.out).mono ?_
 rintro e w2 ⟨rfl, hb⟩
 have HB2 := hide (HB1.out.trans (hb.mono HB1.out.size))
 clear hb
 rcases HC.out with h | ⟨h1, h⟩ | ⟨⟨h1, h2⟩, h⟩ | ⟨⟨h1, h2⟩, h3, h⟩ | ⟨⟨h1, h2⟩, ⟨h3, h4⟩, h⟩
 ·go_wp2
  go_ret
  exact ⟨rfl, HB2.out⟩
 ·have g1 : ¬ x < 0 := by omega
  go_wp2
  go_ret
  exact ⟨rfl, HB2.out⟩
 ·have g1 : ¬ x < 0 := by omega
  have g2 : ¬ 2 < x := by omega
  go_wp2
  go_ret
  exact ⟨rfl, HB2.out⟩
 ·have g1 : ¬ x < 0 := by omega
  have g2 : ¬ 2 < x := by omega
  have g3 : ¬ y < 0 := by omega
  go_wp2
  go_ret
  exact ⟨rfl, HB2.out⟩
 ·have g1 : ¬ x < 0 := by omega
  have g2 : ¬ 2 < x := by omega
  have g3 : ¬ y < 0 := by omega
  have g4 : ¬ 2 < y := by omega
  go_wp2
  go_ret
  exact ⟨rfl, HB2.out⟩
-- a wrong formula
set_option maxHeartbeats 8000000 in
theorem topNames_bad (ao : Option Addr) (al acap : Nat) (co : Option Addr) (cl ccap : Nat) (vt : Value) (i j : Nat) (hi : i < 3) (hj : j < 3) (u F F' : Int) (hu : u ≤ 4) (w : World)
    (HOn : Hid (∀ W, Below w.heap.size w W → Calls Tryz.prog 5 #[] W (Bk W (.bool true))))
    (HNm : Hid (∀ W, Below w.heap.size w W → Calls Tryz.prog 13 #[.agg #[.slice ao al acap, .slice co cl ccap], .agg #[.int .i64 (swapP i j 0), .int .i64 (swapP i j 1), .int .i64 (swapP i j 2)]] W (Bk W (.tuple #[.agg #[.slice none 0 0, .slice none 0 0], .iface 75 (.int .i64 F)]))))
    (HCk : Hid (∀ W, Below w.heap.size w W → Calls Tryz.prog 14 #[.agg #[.slice ao al acap, .slice co cl ccap]] W (Bk W (.iface 75 (.int .i64 F'))))) :
    Calls Tryz.prog 4 #[.agg #[.slice ao al acap, .slice co cl ccap], vt, .int .i64 i, .int .i64 j, .int .i64 u] w (Bk w (.bool true)) := by
 obtain ⟨w1, hw1⟩ := nm (w.alloc (.cells #[.slice ao al acap, .slice co cl ccap] 25))
 have HB1 : Hid (Below w.heap.size w w1) := by unfold Hid; rw [hw1]; exact below_alloc1 _ _
 have HF1 : Hid (Blk w1 w.heap.size 25 #[.slice ao al acap, .slice co cl ccap]) := by unfold Hid; rw [hw1]; exact Blk.new _ _ _
 have g1 : ¬ (i : Int) < 0 := by omega
 have g2 : ¬ (2 : Int) < (i : Int) := by omega
 have g3 : ¬ (j : Int) < 0 := by omega
 have g4 : ¬ (2 : Int) < (j : Int) := by omega
 have g5 : ¬ (4 : Int) < u := by omega
 have g6 : (i : Int) < 3 := by omega
 have g7 : (j : Int) < 3 := by omega
 go_enter Tryz.func4, Tryz.ntmps4
 go_upto_region 1 with fail
 rw [← hw1]
 clear hw1
 go_wp2_with fail
 go_at_call 5
 refine (HOn.out _ HB1.out).mono ?_
 rintro e w2 ⟨rfl, hb⟩
 have HB2 := hide (HB1.out.trans (hb.mono HB1.out.size))
 have HF2 := hide (HF1.out.below hb)
 clear hb
 go_upto_region 7 with fail
 obtain ⟨w3, hw3⟩ := nm (w2.alloc (.cells #[.int .i64 0, .int .i64 1, .int .i64 2] 32))
 obtain ⟨G0, hG0⟩ := nm w2.heap.size
 have hb : Below w2.heap.size w2 w3 := by rw [hw3]; exact below_alloc1 _ _
 have HB3 := hide (HB2.out.trans (hb.mono HB2.out.size))
 have HF3 := hide (HF2.out.below hb)
 have HQ3 : Hid (Blk w3 G0 32 #[.int .i64 0, .int .i64 1, .int .i64 2]) := by unfold Hid; rw [hw3, hG0]; exact Blk.new _ _ _
 have HG0 : Hid (w.heap.size < G0) := by unfold Hid; rw [hG0]; exact HF2.out.lt
 rw [← hw3, ← hG0]
 clear hb hw3 hG0
 have q0 : ∀ k, k < 3 → ∃ z, w3.cell? ⟨G0, k, none⟩ = some (.int .i64 z) := fun k hk => by
  rcases (by omega : k = 0 ∨ k = 1 ∨ k = 2) with rfl | rfl | rfl
  ·exact ⟨0, HQ3.out.cell 0⟩
  ·exact ⟨1, HQ3.out.cell 1⟩
  ·exact ⟨2, HQ3.out.cell 2⟩
 obtain ⟨z1, c1⟩ := q0 i hi
 have f1 : w3.frozen? ⟨G0, i, none⟩ = false := HQ3.out.frozen i
 obtain ⟨wm, hwm⟩ := nm (w3.setCell ⟨G0, i, none⟩ (.int .i64 j))
 go_upto_region 8 with fail
 rw [← hwm]
 have q1 : ∃ z, wm.cell? ⟨G0, j, none⟩ = some (.int .i64 z) := by
  rw [hwm]
  have h := HQ3.out.set i (.int .i64 (j : Int))
  rcases (by omega : i = 0 ∨ i = 1 ∨ i = 2) with rfl | rfl | rfl <;> rcases (by omega : j = 0 ∨ j = 1 ∨ j = 2) with rfl | rfl | rfl <;> exact ⟨_, h.cell _⟩
 obtain ⟨z2, c2⟩ := q1
 have f2 : wm.frozen? ⟨G0, j, none⟩ = false := by rw [hwm]; exact (HQ3.out.set i (.int .i64 (j : Int))).frozen j
 obtain ⟨w4, hw4⟩ := nm (wm.setCell ⟨G0, j, none⟩ (.int .i64 i))
 have HB4 : Hid (Below w.heap.size w w4) := by unfold Hid; rw [hw4, hwm]; exact (HB3.out.setCell (by have := HG0.out; simp; omega) _).setCell (by have := HG0.out; simp; omega) _
 have HF4 : Hid (Blk w4 w.heap.size 25 #[.slice ao al acap, .slice co cl ccap]) := by unfold Hid; rw [hw4, hwm]; exact (HF3.out.far (by have := HG0.out; omega) _ _).far (by have := HG0.out; omega) _ _
 have HQ4 : Hid (Blk w4 G0 32 #[.int .i64 (swapP i j 0), .int .i64 (swapP i j 1), .int .i64 (swapP i j 2)]) := by unfold Hid; rw [hw4, hwm]; exact swap_blk HQ3.out hi hj
 clear hwm
 go_upto_region 9 with fail
 rw [← hw4]
 clear hw4 c1 f1 c2 f2 q0 g1 g2 g3 g4 g6 g7
 have y0 : w4.cell? ⟨w.heap.size, 0, none⟩ = some (.slice ao al acap) := HF4.out.cell 0
 have y1 : w4.cell? ⟨w.heap.size, 1, none⟩ = some (.slice co cl ccap) := HF4.out.cell 1
 have p0 : w4.cell? ⟨G0, 0, none⟩ = some (.int .i64 (swapP i j 0)) := HQ4.out.cell 0
 have p1 : w4.cell? ⟨G0, 1, none⟩ = some (.int .i64 (swapP i j 1)) := HQ4.out.cell 1
 have p2 : w4.cell? ⟨G0, 2, none⟩ = some (.int .i64 (swapP i j 2)) := HQ4.out.cell 2
 go_wp2_with fail
 go_at_call 13
 refine (HNm.out _ HB4.out).mono ?_
 rintro e w5 ⟨rfl, hb⟩
 have HB5 := hide (HB4.out.trans (hb.mono HB4.out.size))
 have HF5 := hide (HF4.out.below hb)
 clear hb y0 y1 p0 p1 p2
 obtain ⟨w6, hw6⟩ := nm (w5.alloc (.cells #[.slice none 0 0, .slice none 0 0] 25))
 have hb : Below w5.heap.size w5 w6 := by rw [hw6]; exact below_alloc1 _ _
 have HB6 := hide (HB5.out.trans (hb.mono HB5.out.size))
 have HF6 := hide (HF5.out.below hb)
 go_upto_region 11 with fail
 rw [← hw6]
 clear hb hw6
 have y0 : w6.cell? ⟨w.heap.size, 0, none⟩ = some (.slice ao al acap) := HF6.out.cell 0
 have y1 : w6.cell? ⟨w.heap.size, 1, none⟩ = some (.slice co cl ccap) := HF6.out.cell 1
 go_wp2_with fail
 go_at_call 14
 refine (HCk.out _ HB6.out).mono ?_
 rintro e w7 ⟨rfl, hb⟩
 have HB7 := hide (HB6.out.trans (hb.mono HB6.out.size))
 have HF7 := hide (HF6.out.below hb)
 clear hb
 go_wp2
 go_ret
 exact ⟨rfl, HB7.out⟩
-- a right one
set_option maxHeartbeats 32000000 in
theorem topNames_in (ao : Option Addr) (al acap : Nat) (co : Option Addr) (cl ccap : Nat) (vt : Value) (i j : Nat) (hi : i < 3) (hj : j < 3) (u A K Lo Hi : Int) (hu : u ≤ 4) (E1 E2 E3 E4 : Value) (s : ByteArray) (Bs : List At) (c r : List Int) (T : Prop) (w : World)
    (HE1 : Hid (E1 = .nilIface ∨ ∃ n, E1 = .iface 75 (.int .i64 n))) (HE2 : Hid (E2 = .nilIface ∨ ∃ n, E2 = .iface 75 (.int .i64 n)))
    (HE3 : Hid ((E3 = .nilIface ∧ E4 = .nilIface) ∨ (∃ n, E3 = .iface 75 (.int .i64 n)) ∧ ∃ n, E4 = .iface 75 (.int .i64 n)))
    (HOn : Hid (∀ W, Below w.heap.size w W → Calls Tryz.prog 5 #[] W (Bk W (.bool true))))
    (HNm : Hid (∀ W, Below w.heap.size w W → Calls Tryz.prog 13 #[.agg #[.slice ao al acap, .slice co cl ccap], .agg #[.int .i64 (swapP i j 0), .int .i64 (swapP i j 1), .int .i64 (swapP i j 2)]] W fun e w' => ∃ va vc, e = .returned (.tuple #[.agg #[va, vc], .nilIface]) ∧ ReadsA w' va Bs ∧ Reads w' vc c ∧ Below W.heap.size W w'))
    (HPr : Hid (∀ va vc W, Below w.heap.size w W → ReadsA W va Bs → Reads W vc c → Calls Tryz.prog 15 #[.agg #[va, vc]] W (Bk W (.tuple #[.string s, .nilIface]))))
    (HPa : Hid (∀ W, Below w.heap.size w W → Calls Tryz.prog 16 #[.string s] W fun e w' => ∃ va vc, e = .returned (.tuple #[.agg #[va, vc], .nilIface]) ∧ ReadsA w' va Bs ∧ Reads w' vc c ∧ Below W.heap.size W w'))
    (HSm : Hid (∀ va vc ua uc W, Below w.heap.size w W → ReadsA W va Bs → Reads W vc c → ReadsA W ua Bs → Reads W uc c → Calls Tryz.prog 17 #[.agg #[va, vc], .agg #[ua, uc]] W (Bk W (.bool true))))
    (HW1 : Hid (∀ W, Below w.heap.size w W → Calls Tryz.prog 8 #[.agg #[.slice ao al acap, .slice co cl ccap], .int .i64 u] W (Bk W (.tuple #[.int .i64 A, E1]))))
    (HW2 : Hid (∀ va vc W, Below w.heap.size w W → ReadsA W va Bs → Reads W vc c → Calls Tryz.prog 8 #[.agg #[va, vc], .int .i64 u] W (Bk W (.tuple #[.int .i64 A, E1]))))
    (HL1 : Hid (∀ W, Below w.heap.size w W → Calls Tryz.prog 18 #[.agg #[.slice ao al acap, .slice co cl ccap]] W (Bk W (.tuple #[.int .i64 K, E2]))))
    (HL2 : Hid (∀ va vc W, Below w.heap.size w W → ReadsA W va Bs → Reads W vc c → Calls Tryz.prog 18 #[.agg #[va, vc]] W (Bk W (.tuple #[.int .i64 K, E2]))))
    (HSw : Hid (∀ W, Below w.heap.size w W → Calls Tryz.prog 19 #[vt, .int .i64 i, .int .i64 j] W fun e w' => ((∃ n, e = .returned (.tuple #[.slice none 0 0, .iface 75 (.int .i64 n)])) ∨ (T ∧ ∃ v, e = .returned (.tuple #[v, .nilIface]) ∧ Reads w' v r)) ∧ Below W.heap.size W w'))
    (HS1 : Hid (T → ∀ W, Below w.heap.size w W → Calls Tryz.prog 20 #[.agg #[.slice ao al acap, .slice co cl ccap], vt, .int .i64 u] W (Bk W (.tuple #[.agg #[.int .i64 Lo, .int .i64 Hi], E3]))))
    (HS2 : Hid (T → ∀ va vc vr W, Below w.heap.size w W → ReadsA W va Bs → Reads W vc c → Reads W vr r → Calls Tryz.prog 20 #[.agg #[va, vc], vr, .int .i64 u] W (Bk W (.tuple #[.agg #[.int .i64 Lo, .int .i64 Hi], E4])))) :
    Calls Tryz.prog 4 #[.agg #[.slice ao al acap, .slice co cl ccap], vt, .int .i64 i, .int .i64 j, .int .i64 u] w (Bk w (.bool true)) := by
 obtain ⟨w1, hw1⟩ := nm (w.alloc (.cells #[.slice ao al acap, .slice co cl ccap] 25))
 have HB1 : Hid (Below w.heap.size w w1) := by unfold Hid; rw [hw1]; exact below_alloc1 _ _
 have HF1 : Hid (Blk w1 w.heap.size 25 #[.slice ao al acap, .slice co cl ccap]) := by unfold Hid; rw [hw1]; exact Blk.new _ _ _
 have g1 : ¬ (i : Int) < 0 := by omega
 have g2 : ¬ (2 : Int) < (i : Int) := by omega
 have g3 : ¬ (j : Int) < 0 := by omega
 have g4 : ¬ (2 : Int) < (j : Int) := by omega
 have g5 : ¬ (4 : Int) < u := by omega
 have g6 : (i : Int) < 3 := by omega
 have g7 : (j : Int) < 3 := by omega
 go_enter Tryz.func4, Tryz.ntmps4
 go_upto_region 1 with fail
 rw [← hw1]
 clear hw1
 go_wp2_with fail
 go_at_call 5
 refine (HOn.out _ HB1.out).mono ?_
 rintro e w2 ⟨rfl, hb⟩
 have HB2 := hide (HB1.out.trans (hb.mono HB1.out.size))
 have HF2 := hide (HF1.out.below hb)
 clear hb
 go_upto_region 7 with fail
 obtain ⟨w3, hw3⟩ := nm (w2.alloc (.cells #[.int .i64 0, .int .i64 1, .int .i64 2] 32))
 obtain ⟨G0, hG0⟩ := nm w2.heap.size
 have hb : Below w2.heap.size w2 w3 := by rw [hw3]; exact below_alloc1 _ _
 have HB3 := hide (HB2.out.trans (hb.mono HB2.out.size))
 have HF3 := hide (HF2.out.below hb)
 have HQ3 : Hid (Blk w3 G0 32 #[.int .i64 0, .int .i64 1, .int .i64 2]) := by unfold Hid; rw [hw3, hG0]; exact Blk.new _ _ _
 have HG0 : Hid (w.heap.size < G0) := by unfold Hid; rw [hG0]; exact HF2.out.lt
 rw [← hw3, ← hG0]
 clear hb hw3 hG0
 have q0 : ∀ k, k < 3 → ∃ z, w3.cell? ⟨G0, k, none⟩ = some (.int .i64 z) := fun k hk => by
  rcases (by omega : k = 0 ∨ k = 1 ∨ k = 2) with rfl | rfl | rfl
  ·exact ⟨0, HQ3.out.cell 0⟩
  ·exact ⟨1, HQ3.out.cell 1⟩
  ·exact ⟨2, HQ3.out.cell 2⟩
 obtain ⟨z1, c1⟩ := q0 i hi
 have f1 : w3.frozen? ⟨G0, i, none⟩ = false := HQ3.out.frozen i
 obtain ⟨wm, hwm⟩ := nm (w3.setCell ⟨G0, i, none⟩ (.int .i64 j))
 go_upto_region 8 with fail
 rw [← hwm]
 have q1 : ∃ z, wm.cell? ⟨G0, j, none⟩ = some (.int .i64 z) := by
  rw [hwm]
  have h := HQ3.out.set i (.int .i64 (j : Int))
  rcases (by omega : i = 0 ∨ i = 1 ∨ i = 2) with rfl | rfl | rfl <;> rcases (by omega : j = 0 ∨ j = 1 ∨ j = 2) with rfl | rfl | rfl <;> exact ⟨_, h.cell _⟩
 obtain ⟨z2, c2⟩ := q1
 have f2 : wm.frozen? ⟨G0, j, none⟩ = false := by rw [hwm]; exact (HQ3.out.set i (.int .i64 (j : Int))).frozen j
 obtain ⟨w4, hw4⟩ := nm (wm.setCell ⟨G0, j, none⟩ (.int .i64 i))
 have HB4 : Hid (Below w.heap.size w w4) := by unfold Hid; rw [hw4, hwm]; exact (HB3.out.setCell (by have := HG0.out; simp; omega) _).setCell (by have := HG0.out; simp; omega) _
 have HF4 : Hid (Blk w4 w.heap.size 25 #[.slice ao al acap, .slice co cl ccap]) := by unfold Hid; rw [hw4, hwm]; exact (HF3.out.far (by have := HG0.out; omega) _ _).far (by have := HG0.out; omega) _ _
 have HQ4 : Hid (Blk w4 G0 32 #[.int .i64 (swapP i j 0), .int .i64 (swapP i j 1), .int .i64 (swapP i j 2)]) := by unfold Hid; rw [hw4, hwm]; exact swap_blk HQ3.out hi hj
 clear hwm
 go_upto_region 9 with fail
 rw [← hw4]
 clear hw4 c1 f1 c2 f2 q0 g1 g2 g3 g4 g6 g7
 have y0 : w4.cell? ⟨w.heap.size, 0, none⟩ = some (.slice ao al acap) := HF4.out.cell 0
 have y1 : w4.cell? ⟨w.heap.size, 1, none⟩ = some (.slice co cl ccap) := HF4.out.cell 1
 have p0 : w4.cell? ⟨G0, 0, none⟩ = some (.int .i64 (swapP i j 0)) := HQ4.out.cell 0
 have p1 : w4.cell? ⟨G0, 1, none⟩ = some (.int .i64 (swapP i j 1)) := HQ4.out.cell 1
 have p2 : w4.cell? ⟨G0, 2, none⟩ = some (.int .i64 (swapP i j 2)) := HQ4.out.cell 2
 go_wp2_with fail
 go_at_call 13
 refine (HNm.out _ HB4.out).mono ?_
 rintro e w5' ⟨va, vc, rfl, hA, hC, hb'⟩
 obtain ⟨g1o, g1c, rfl, _⟩ := hA.slice
 obtain ⟨g2o, g2c, rfl, _⟩ := hC.slice
 obtain ⟨g1l, hg1l⟩ := nm Bs.length
 obtain ⟨g2l, hg2l⟩ := nm c.length
 rw [← hg1l] at hA ⊢
 rw [← hg2l] at hC ⊢
 clear hg1l hg2l
 obtain ⟨w5, hw5⟩ := nm (w5'.alloc (.cells #[.slice g1o g1l g1c, .slice g2o g2l g2c] 25))
 obtain ⟨G1, hG1⟩ := nm w5'.heap.size
 have hb1 : Below w5'.heap.size w5' w5 := by rw [hw5]; exact below_alloc1 _ _
 have hb : Below w4.heap.size w4 w5 := hb'.trans (hb1.mono hb'.size)
 have HB5 := hide (HB4.out.trans (hb.mono HB4.out.size))
 have HF5 := hide (HF4.out.below hb)
 have HGb5 : Hid (Blk w5 G1 25 #[.slice g1o g1l g1c, .slice g2o g2l g2c]) := by unfold Hid; rw [hw5, hG1]; exact Blk.new _ _ _
 have HGr5 : Hid (ReadsA w5 (.slice g1o g1l g1c) Bs ∧ Reads w5 (.slice g2o g2l g2c) c) := ⟨hA.below hb1, hC.below hb1⟩
 clear hb hb' hb1 hA hC y0 y1 p0 p1 p2
 go_upto_region 10 with fail
 rw [← hw5, ← hG1]
 clear hw5 hG1
 have y0 : w5.cell? ⟨G1, 0, none⟩ = some (.slice g1o g1l g1c) := HGb5.out.cell 0
 have y1 : w5.cell? ⟨G1, 1, none⟩ = some (.slice g2o g2l g2c) := HGb5.out.cell 1
 go_wp2_with fail
 go_at_call 15
 refine (HPr.out _ _ _ HB5.out HGr5.out.1 HGr5.out.2).mono ?_
 rintro e w6 ⟨rfl, hb⟩
 have HB6 := hide (HB5.out.trans (hb.mono HB5.out.size))
 have HF6 := hide (HF5.out.below hb)
 have HGb6 := hide (HGb5.out.below hb)
 have HGr6 : Hid (ReadsA w6 (.slice g1o g1l g1c) Bs ∧ Reads w6 (.slice g2o g2l g2c) c) := ⟨HGr5.out.1.below hb, HGr5.out.2.below hb⟩
 clear hb y0 y1
 go_wp2_with fail
 go_at_call 16
 refine (HPa.out _ HB6.out).mono ?_
 rintro e w7' ⟨va, vc, rfl, hA, hC, hb'⟩
 obtain ⟨h1o, h1c, rfl, _⟩ := hA.slice
 obtain ⟨h2o, h2c, rfl, _⟩ := hC.slice
 obtain ⟨h1l, hh1l⟩ := nm Bs.length
 obtain ⟨h2l, hh2l⟩ := nm c.length
 rw [← hh1l] at hA ⊢
 rw [← hh2l] at hC ⊢
 clear hh1l hh2l
 obtain ⟨w7, hw7⟩ := nm (w7'.alloc (.cells #[.slice h1o h1l h1c, .slice h2o h2l h2c] 25))
 obtain ⟨G2, hG2⟩ := nm w7'.heap.size
 have hb1 : Below w7'.heap.size w7' w7 := by rw [hw7]; exact below_alloc1 _ _
 have hb : Below w6.heap.size w6 w7 := hb'.trans (hb1.mono hb'.size)
 have HB7 := hide (HB6.out.trans (hb.mono HB6.out.size))
 have HF7 := hide (HF6.out.below hb)
 have HGb7 := hide (HGb6.out.below hb)
 have HGr7 : Hid (ReadsA w7 (.slice g1o g1l g1c) Bs ∧ Reads w7 (.slice g2o g2l g2c) c) := ⟨HGr6.out.1.below hb, HGr6.out.2.below hb⟩
 have HHb7 : Hid (Blk w7 G2 25 #[.slice h1o h1l h1c, .slice h2o h2l h2c]) := by unfold Hid; rw [hw7, hG2]; exact Blk.new _ _ _
 have HHr7 : Hid (ReadsA w7 (.slice h1o h1l h1c) Bs ∧ Reads w7 (.slice h2o h2l h2c) c) := ⟨hA.below hb1, hC.below hb1⟩
 clear hb hb' hb1 hA hC
 go_upto_region 14 with fail
 rw [← hw7, ← hG2]
 clear hw7 hG2
 have y0 : w7.cell? ⟨G1, 0, none⟩ = some (.slice g1o g1l g1c) := HGb7.out.cell 0
 have y1 : w7.cell? ⟨G1, 1, none⟩ = some (.slice g2o g2l g2c) := HGb7.out.cell 1
 have y2 : w7.cell? ⟨G2, 0, none⟩ = some (.slice h1o h1l h1c) := HHb7.out.cell 0
 have y3 : w7.cell? ⟨G2, 1, none⟩ = some (.slice h2o h2l h2c) := HHb7.out.cell 1
 go_wp2_with fail
 go_at_call 17
 refine (HSm.out _ _ _ _ _ HB7.out HGr7.out.1 HGr7.out.2 HHr7.out.1 HHr7.out.2).mono ?_
 rintro e w8 ⟨rfl, hb⟩
 have HB8 := hide (HB7.out.trans (hb.mono HB7.out.size))
 have HF8 := hide (HF7.out.below hb)
 have HGb8 := hide (HGb7.out.below hb)
 have HHb8 := hide (HHb7.out.below hb)
 have HGr8 : Hid (ReadsA w8 (.slice g1o g1l g1c) Bs ∧ Reads w8 (.slice g2o g2l g2c) c) := ⟨HGr7.out.1.below hb, HGr7.out.2.below hb⟩
 have HHr8 : Hid (ReadsA w8 (.slice h1o h1l h1c) Bs ∧ Reads w8 (.slice h2o h2l h2c) c) := ⟨HHr7.out.1.below hb, HHr7.out.2.below hb⟩
 clear hb y0 y1 y2 y3
 have y0 : w8.cell? ⟨w.heap.size, 0, none⟩ = some (.slice ao al acap) := HF8.out.cell 0
 have y1 : w8.cell? ⟨w.heap.size, 1, none⟩ = some (.slice co cl ccap) := HF8.out.cell 1
 go_wp2_with fail
 go_at_call 8
 refine (HW1.out _ HB8.out).mono ?_
 rintro e w9 ⟨rfl, hb⟩
 have HB9 := hide (HB8.out.trans (hb.mono HB8.out.size))
 have HF9 := hide (HF8.out.below hb)
 have HHb9 := hide (HHb8.out.below hb)
 have HHr9 : Hid (ReadsA w9 (.slice h1o h1l h1c) Bs ∧ Reads w9 (.slice h2o h2l h2c) c) := ⟨HHr8.out.1.below hb, HHr8.out.2.below hb⟩
 clear hb y0 y1
 have y0 : w9.cell? ⟨G2, 0, none⟩ = some (.slice h1o h1l h1c) := HHb9.out.cell 0
 have y1 : w9.cell? ⟨G2, 1, none⟩ = some (.slice h2o h2l h2c) := HHb9.out.cell 1
 go_wp2_with fail
 go_at_call 8
 refine (HW2.out _ _ _ HB9.out HHr9.out.1 HHr9.out.2).mono ?_
 rintro e w10 ⟨rfl, hb⟩
 have HB10 := hide (HB9.out.trans (hb.mono HB9.out.size))
 have HF10 := hide (HF9.out.below hb)
 have HHb10 := hide (HHb9.out.below hb)
 have HHr10 : Hid (ReadsA w10 (.slice h1o h1l h1c) Bs ∧ Reads w10 (.slice h2o h2l h2c) c) := ⟨HHr9.out.1.below hb, HHr9.out.2.below hb⟩
 clear hb y0 y1
 go_upto_region 18 with fail
 go_cut [108] from 109 (fun x wx => x = .bool false ∧ Below w10.heap.size w10 wx)
 case first =>
  have ga : (A != A) = false := by simp
  rcases HE1.out with rfl | ⟨ne, rfl⟩
  ·go_quiet (fail)
   go_wp2
   go_meet
   case rel => exact ⟨rfl, names_drewN (Below.refl _ _)⟩
  ·go_quiet (fail)
   go_wp2
   go_meet
   case rel => exact ⟨rfl, names_drewN (Below.refl _ _)⟩
 case rest =>
 obtain ⟨rfl, hb⟩ := hcut
 obtain ⟨w11, hw⟩ := nm wc
 subst hw
 have HB11 := hide (HB10.out.trans (hb.mono HB10.out.size))
 have HF11 := hide (HF10.out.below hb)
 have HHb11 := hide (HHb10.out.below hb)
 have HHr11 : Hid (ReadsA w11 (.slice h1o h1l h1c) Bs ∧ Reads w11 (.slice h2o h2l h2c) c) := ⟨HHr10.out.1.below hb, HHr10.out.2.below hb⟩
 clear hb
 have y0 : w11.cell? ⟨w.heap.size, 0, none⟩ = some (.slice ao al acap) := HF11.out.cell 0
 have y1 : w11.cell? ⟨w.heap.size, 1, none⟩ = some (.slice co cl ccap) := HF11.out.cell 1
 go_wp2_with fail
 go_at_call 18
 refine (HL1.out _ HB11.out).mono ?_
 rintro e w12 ⟨rfl, hb⟩
 have HB12 := hide (HB11.out.trans (hb.mono HB11.out.size))
 have HF12 := hide (HF11.out.below hb)
 have HHb12 := hide (HHb11.out.below hb)
 have HHr12 : Hid (ReadsA w12 (.slice h1o h1l h1c) Bs ∧ Reads w12 (.slice h2o h2l h2c) c) := ⟨HHr11.out.1.below hb, HHr11.out.2.below hb⟩
 clear hb y0 y1
 have y0 : w12.cell? ⟨G2, 0, none⟩ = some (.slice h1o h1l h1c) := HHb12.out.cell 0
 have y1 : w12.cell? ⟨G2, 1, none⟩ = some (.slice h2o h2l h2c) := HHb12.out.cell 1
 go_wp2_with fail
 go_at_call 18
 refine (HL2.out _ _ _ HB12.out HHr12.out.1 HHr12.out.2).mono ?_
 rintro e w13 ⟨rfl, hb⟩
 have HB13 := hide (HB12.out.trans (hb.mono HB12.out.size))
 have HF13 := hide (HF12.out.below hb)
 have HHb13 := hide (HHb12.out.below hb)
 have HHr13 : Hid (ReadsA w13 (.slice h1o h1l h1c) Bs ∧ Reads w13 (.slice h2o h2l h2c) c) := ⟨HHr12.out.1.below hb, HHr12.out.2.below hb⟩
 clear hb y0 y1
 go_upto_region 22 with fail
 go_cut [128] from 129 (fun x wx => x = .bool false ∧ Below w13.heap.size w13 wx)
 case first =>
  have ga : (K != K) = false := by simp
  rcases HE2.out with rfl | ⟨ne, rfl⟩
  ·go_quiet (fail)
   go_wp2
   go_meet
   case rel => exact ⟨rfl, names_drewN (Below.refl _ _)⟩
  ·go_quiet (fail)
   go_wp2
   go_meet
   case rel => exact ⟨rfl, names_drewN (Below.refl _ _)⟩
 case rest =>
 obtain ⟨rfl, hb⟩ := hcut
 obtain ⟨w14, hw⟩ := nm wc
 subst hw
 have HB14 := hide (HB13.out.trans (hb.mono HB13.out.size))
 have HF14 := hide (HF13.out.below hb)
 have HHb14 := hide (HHb13.out.below hb)
 have HHr14 : Hid (ReadsA w14 (.slice h1o h1l h1c) Bs ∧ Reads w14 (.slice h2o h2l h2c) c) := ⟨HHr13.out.1.below hb, HHr13.out.2.below hb⟩
 clear hb
 go_wp2_with fail
 go_at_call 19
 refine (HSw.out _ HB14.out).mono ?_
 rintro e w15 ⟨hor, hb⟩
 have HB15 := hide (HB14.out.trans (hb.mono HB14.out.size))
 have HF15 := hide (HF14.out.below hb)
 have HHb15 := hide (HHb14.out.below hb)
 have HHr15 : Hid (ReadsA w15 (.slice h1o h1l h1c) Bs ∧ Reads w15 (.slice h2o h2l h2c) c) := ⟨HHr14.out.1.below hb, HHr14.out.2.below hb⟩
 clear hb
 rcases hor with ⟨n, rfl⟩ | ⟨hT, vr, rfl, hr⟩
 ·go_wp2
  go_ret
  exact ⟨rfl, HB15.out⟩
 have HT : Hid T := hT
 clear hT
 have HRr15 := hide hr
 obtain ⟨ro, rcap, rfl, _⟩ := hr.slice
 obtain ⟨rl, hrl⟩ := nm r.length
 rw [← hrl] at HRr15 ⊢
 clear hr hrl
 have y0 : w15.cell? ⟨w.heap.size, 0, none⟩ = some (.slice ao al acap) := HF15.out.cell 0
 have y1 : w15.cell? ⟨w.heap.size, 1, none⟩ = some (.slice co cl ccap) := HF15.out.cell 1
 go_wp2_with fail
 go_at_call 20
 refine (HS1.out HT.out _ HB15.out).mono ?_
 rintro e w16' ⟨rfl, hb'⟩
 obtain ⟨w16, hw⟩ := nm (w16'.alloc (.cells #[.int .i64 Lo, .int .i64 Hi] 64))
 obtain ⟨G3, hG⟩ := nm w16'.heap.size
 have hb1 : Below w16'.heap.size w16' w16 := by rw [hw]; exact below_alloc1 _ _
 have hb : Below w15.heap.size w15 w16 := hb'.trans (hb1.mono hb'.size)
 have HB16 := hide (HB15.out.trans (hb.mono HB15.out.size))
 have HF16 := hide (HF15.out.below hb)
 have HHb16 := hide (HHb15.out.below hb)
 have HHr16 : Hid (ReadsA w16 (.slice h1o h1l h1c) Bs ∧ Reads w16 (.slice h2o h2l h2c) c) := ⟨HHr15.out.1.below hb, HHr15.out.2.below hb⟩
 have HRr16 := hide (HRr15.out.below hb)
 have HV16 : Hid (Blk w16 G3 64 #[.int .i64 Lo, .int .i64 Hi]) := by unfold Hid; rw [hw, hG]; exact Blk.new _ _ _
 clear hb hb' hb1 y0 y1
 go_upto_region 28 with fail
 rw [← hw, ← hG]
 clear hw hG
 have y0 : w16.cell? ⟨G2, 0, none⟩ = some (.slice h1o h1l h1c) := HHb16.out.cell 0
 have y1 : w16.cell? ⟨G2, 1, none⟩ = some (.slice h2o h2l h2c) := HHb16.out.cell 1
 go_wp2_with fail
 go_at_call 20
 refine (HS2.out HT.out _ _ _ _ HB16.out HHr16.out.1 HHr16.out.2 HRr16.out).mono ?_
 rintro e w17' ⟨rfl, hb'⟩
 obtain ⟨w17, hw⟩ := nm (w17'.alloc (.cells #[.int .i64 Lo, .int .i64 Hi] 64))
 obtain ⟨G4, hG⟩ := nm w17'.heap.size
 have hb1 : Below w17'.heap.size w17' w17 := by rw [hw]; exact below_alloc1 _ _
 have hb : Below w16.heap.size w16 w17 := hb'.trans (hb1.mono hb'.size)
 have HB17 := hide (HB16.out.trans (hb.mono HB16.out.size))
 have HF17 := hide (HF16.out.below hb)
 have HHb17 := hide (HHb16.out.below hb)
 have HV17 := hide (HV16.out.below hb)
 have HHr17 : Hid (ReadsA w17 (.slice h1o h1l h1c) Bs ∧ Reads w17 (.slice h2o h2l h2c) c) := ⟨HHr16.out.1.below hb, HHr16.out.2.below hb⟩
 have HRr17 := hide (HRr16.out.below hb)
 have HU17 : Hid (Blk w17 G4 64 #[.int .i64 Lo, .int .i64 Hi]) := by unfold Hid; rw [hw, hG]; exact Blk.new _ _ _
 clear hb hb' hb1 y0 y1
 go_upto_region 29 with fail
 rw [← hw, ← hG]
 clear hw hG
 have v0 : w17.cell? ⟨G3, 0, none⟩ = some (.int .i64 Lo) := HV17.out.cell 0
 have v1 : w17.cell? ⟨G3, 1, none⟩ = some (.int .i64 Hi) := HV17.out.cell 1
 have v2 : w17.cell? ⟨G4, 0, none⟩ = some (.int .i64 Lo) := HU17.out.cell 0
 have v3 : w17.cell? ⟨G4, 1, none⟩ = some (.int .i64 Hi) := HU17.out.cell 1
 have hq := sameP Lo Hi
 rcases HE3.out with ⟨rfl, rfl⟩ | ⟨⟨n1, rfl⟩, n2, rfl⟩
 ·go_quiet (fail)
  go_wp2
  go_ret
  exact ⟨rfl, names_drewN HB17.out⟩
 ·go_quiet (fail)
  go_wp2
  go_ret
  exact ⟨rfl, names_drewN HB17.out⟩
end Go.Proofs.YtjaedfjfcghgcabGreatDoor