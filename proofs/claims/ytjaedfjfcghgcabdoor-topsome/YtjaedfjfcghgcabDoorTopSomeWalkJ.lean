/-
  Proved: venntop.TopSome returns true where what it calls answers as the chapters say; what was in memory is as it was (the walks that the statement leans on). Written by program.
-/
import Derived.Test.YtjaedfjfcghgcabDoorLibS7
import Derived.Deep.CutRange
namespace Go.Proofs.YtjaedfjfcghgcabDoor
open Go.ChangeShapes Go.WideShapes Go.ChangeAt Go.RowKit
set_option maxRecDepth 100000

set_option maxHeartbeats 8000000 in
theorem topSome_err (ao : Option Addr) (al acap : Nat) (co : Option Addr) (cl ccap : Nat) (D : Wd) (N : Nat → Int) (F : Int) (w : World)
    (HOn : Hid (∀ W, Below w.heap.size w W → Calls Tryd.prog 4 #[] W fun e w' => e = .returned (.bool true) ∧ Below W.heap.size W w'))
    (HFo : Hid (∀ W, Below w.heap.size w W → Calls Tryd.prog 5 #[.agg #[.int .i64 D.u, .int .i64 D.a, .int .i64 D.b, .int .i64 D.c]] W fun e w' => e = .returned (.tuple #[.agg #[.int .i64 (N 0), .int .i64 (N 1), .int .i64 (N 2), .int .i64 (N 3), .int .i64 (N 4), .int .i64 (N 5), .int .i64 (N 6), .int .i64 (N 7)], .iface 58 (.int .i64 F)]) ∧ Below W.heap.size W w')) :
    Calls Tryd.prog 3 #[.agg #[.slice ao al acap, .slice co cl ccap], .agg #[.int .i64 D.u, .int .i64 D.a, .int .i64 D.b, .int .i64 D.c]] w fun e w' => e = .returned (.bool true) ∧ Below w.heap.size w w' := by
  obtain ⟨w1, hw1⟩ : ∃ w1, w1 = (w.alloc (.cells #[.slice ao al acap, .slice co cl ccap] 25)).alloc (.cells #[.int .i64 D.u, .int .i64 D.a, .int .i64 D.b, .int .i64 D.c] 28) := ⟨_, rfl⟩
  have HB1 : Hid (Below w.heap.size w w1) := by unfold Hid; rw [hw1]; exact (below_alloc1 _ _).alloc (by simp) _
  have HF1 : Hid (Blk w1 w.heap.size 25 #[.slice ao al acap, .slice co cl ccap]) := by unfold Hid; rw [hw1]; exact (Blk.new _ _ _).old _
  have HD1 : Hid (Blk w1 (w.heap.size + 1) 28 #[.int .i64 D.u, .int .i64 D.a, .int .i64 D.b, .int .i64 D.c]) := by
    unfold Hid; rw [hw1]
    have := Blk.new (w.alloc (.cells #[.slice ao al acap, .slice co cl ccap] 25)) 28 #[.int .i64 D.u, .int .i64 D.a, .int .i64 D.b, .int .i64 D.c]
    rw [World.size_alloc] at this
    exact this
  go_enter Tryd.func3, Tryd.ntmps3
  go_upto_region 1 with fail
  rw [← hw1]
  clear hw1
  go_wp2_with fail
  go_at_call 4
  refine (HOn.out _ HB1.out).mono ?_
  rintro e w2 ⟨rfl, hb⟩
  have HB2 : Hid (Below w.heap.size w w2) := HB1.out.trans (hb.mono HB1.out.size)
  have HF2 : Hid (Blk w2 w.heap.size 25 #[.slice ao al acap, .slice co cl ccap]) := HF1.out.below hb
  have HD2 : Hid (Blk w2 (w.heap.size + 1) 28 #[.int .i64 D.u, .int .i64 D.a, .int .i64 D.b, .int .i64 D.c]) := HD1.out.below hb
  clear hb
  have y0 : w2.cell? ⟨w.heap.size, 0, none⟩ = some (.slice ao al acap) := HF2.out.cell 0
  have y1 : w2.cell? ⟨w.heap.size, 1, none⟩ = some (.slice co cl ccap) := HF2.out.cell 1
  have d0 : w2.cell? ⟨w.heap.size + 1, 0, none⟩ = some (.int .i64 D.u) := HD2.out.cell 0
  have d1 : w2.cell? ⟨w.heap.size + 1, 1, none⟩ = some (.int .i64 D.a) := HD2.out.cell 1
  have d2 : w2.cell? ⟨w.heap.size + 1, 2, none⟩ = some (.int .i64 D.b) := HD2.out.cell 2
  have d3 : w2.cell? ⟨w.heap.size + 1, 3, none⟩ = some (.int .i64 D.c) := HD2.out.cell 3
  go_wp2_with fail
  go_at_call 5
  refine (HFo.out _ HB2.out).mono ?_
  rintro e w3 ⟨rfl, hb⟩
  have HB3 : Hid (Below w.heap.size w w3) := HB2.out.trans (hb.mono HB2.out.size)
  clear hb
  go_wp2
  go_ret
  exact ⟨rfl, HB3.out.alloc HB3.out.size _⟩

set_option maxHeartbeats 16000000 in
theorem topSome_in (ao : Option Addr) (al acap : Nat) (co : Option Addr) (cl ccap : Nat) (D X : Wd) (N : Nat → Int) (F S K : Int) (q : Bool) (w : World) (hK : 0 < K)
    (HOn : Hid (∀ W, Below w.heap.size w W → Calls Tryd.prog 4 #[] W fun e w' => e = .returned (.bool true) ∧ Below W.heap.size W w'))
    (HFo : Hid (∀ W, Below w.heap.size w W → Calls Tryd.prog 5 #[.agg #[.int .i64 D.u, .int .i64 D.a, .int .i64 D.b, .int .i64 D.c]] W fun e w' => e = .returned (.tuple #[.agg #[.int .i64 (N 0), .int .i64 (N 1), .int .i64 (N 2), .int .i64 (N 3), .int .i64 (N 4), .int .i64 (N 5), .int .i64 (N 6), .int .i64 (N 7)], .nilIface]) ∧ Below W.heap.size W w'))
    (HWo : Hid (∀ W, Below w.heap.size w W → Calls Tryd.prog 6 #[.agg #[.int .i64 (N 0), .int .i64 (N 1), .int .i64 (N 2), .int .i64 (N 3), .int .i64 (N 4), .int .i64 (N 5), .int .i64 (N 6), .int .i64 (N 7)]] W fun e w' => e = .returned (.tuple #[.agg #[.int .i64 X.u, .int .i64 X.a, .int .i64 X.b, .int .i64 X.c], .nilIface]) ∧ Below W.heap.size W w'))
    (HIs : Hid (∀ W, Below w.heap.size w W → Calls Tryd.prog 7 #[.agg #[.slice ao al acap, .slice co cl ccap], .int .i64 2, .agg #[.int .i64 D.u, .int .i64 D.a, .int .i64 D.b, .int .i64 D.c]] W fun e w' => e = .returned (.tuple #[.bool q, errV F]) ∧ Below W.heap.size W w'))
    (HIx : Hid (∀ W, Below w.heap.size w W → Calls Tryd.prog 7 #[.agg #[.slice ao al acap, .slice co cl ccap], .int .i64 2, .agg #[.int .i64 X.u, .int .i64 X.a, .int .i64 X.b, .int .i64 X.c]] W fun e w' => e = .returned (.tuple #[.bool q, errV F]) ∧ Below W.heap.size W w'))
    (HHo : Hid (F = 0 → q = false → ∀ W, Below w.heap.size w W → Calls Tryd.prog 8 #[.agg #[.slice ao al acap, .slice co cl ccap], .agg #[.int .i64 D.u, .int .i64 D.a, .int .i64 D.b, .int .i64 D.c]] W fun e w' => e = .returned (.tuple #[.bool false, .nilIface]) ∧ Below W.heap.size W w'))
    (HFi : Hid (F = 0 → q = true → ∀ W, Below w.heap.size w W → Calls Tryd.prog 9 #[.agg #[.slice ao al acap, .slice co cl ccap], .int .i64 2, .agg #[.int .i64 D.u, .int .i64 D.a, .int .i64 D.b, .int .i64 D.c]] W fun e w' => e = .returned (.tuple #[.int .i64 S, .nilIface]) ∧ Below W.heap.size W w'))
    (HHs : Hid (F = 0 → q = true → ∀ W, Below w.heap.size w W → Calls Tryd.prog 8 #[.agg #[.slice ao al acap, .slice co cl ccap], .agg #[.int .i64 D.u, .int .i64 D.a, .int .i64 D.b, .int .i64 S]] W fun e w' => e = .returned (.tuple #[.bool true, .nilIface]) ∧ Below W.heap.size W w'))
    (HWd : Hid (F = 0 → q = true → ∀ W, Below w.heap.size w W → Calls Tryd.prog 10 #[.agg #[.slice ao al acap, .slice co cl ccap], .int .i64 D.u] W fun e w' => e = .returned (.tuple #[.int .i64 K, .nilIface]) ∧ Below W.heap.size W w')) :
    Calls Tryd.prog 3 #[.agg #[.slice ao al acap, .slice co cl ccap], .agg #[.int .i64 D.u, .int .i64 D.a, .int .i64 D.b, .int .i64 D.c]] w fun e w' => e = .returned (.bool true) ∧ Below w.heap.size w w' := by
  obtain ⟨w1, hw1⟩ : ∃ w1, w1 = (w.alloc (.cells #[.slice ao al acap, .slice co cl ccap] 25)).alloc (.cells #[.int .i64 D.u, .int .i64 D.a, .int .i64 D.b, .int .i64 D.c] 28) := ⟨_, rfl⟩
  have HB1 : Hid (Below w.heap.size w w1) := by unfold Hid; rw [hw1]; exact (below_alloc1 _ _).alloc (by simp) _
  have HF1 : Hid (Blk w1 w.heap.size 25 #[.slice ao al acap, .slice co cl ccap]) := by unfold Hid; rw [hw1]; exact (Blk.new _ _ _).old _
  have HD1 : Hid (Blk w1 (w.heap.size + 1) 28 #[.int .i64 D.u, .int .i64 D.a, .int .i64 D.b, .int .i64 D.c]) := by
    unfold Hid; rw [hw1]
    have := Blk.new (w.alloc (.cells #[.slice ao al acap, .slice co cl ccap] 25)) 28 #[.int .i64 D.u, .int .i64 D.a, .int .i64 D.b, .int .i64 D.c]
    rw [World.size_alloc] at this
    exact this
  go_enter Tryd.func3, Tryd.ntmps3
  go_upto_region 1 with fail
  rw [← hw1]
  clear hw1
  go_wp2_with fail
  go_at_call 4
  refine (HOn.out _ HB1.out).mono ?_
  rintro e w2 ⟨rfl, hb⟩
  have HB2 : Hid (Below w.heap.size w w2) := HB1.out.trans (hb.mono HB1.out.size)
  have HF2 : Hid (Blk w2 w.heap.size 25 #[.slice ao al acap, .slice co cl ccap]) := HF1.out.below hb
  have HD2 : Hid (Blk w2 (w.heap.size + 1) 28 #[.int .i64 D.u, .int .i64 D.a, .int .i64 D.b, .int .i64 D.c]) := HD1.out.below hb
  clear hb
  have y0 : w2.cell? ⟨w.heap.size, 0, none⟩ = some (.slice ao al acap) := HF2.out.cell 0
  have y1 : w2.cell? ⟨w.heap.size, 1, none⟩ = some (.slice co cl ccap) := HF2.out.cell 1
  have d0 : w2.cell? ⟨w.heap.size + 1, 0, none⟩ = some (.int .i64 D.u) := HD2.out.cell 0
  have d1 : w2.cell? ⟨w.heap.size + 1, 1, none⟩ = some (.int .i64 D.a) := HD2.out.cell 1
  have d2 : w2.cell? ⟨w.heap.size + 1, 2, none⟩ = some (.int .i64 D.b) := HD2.out.cell 2
  have d3 : w2.cell? ⟨w.heap.size + 1, 3, none⟩ = some (.int .i64 D.c) := HD2.out.cell 3
  go_wp2_with fail
  go_at_call 5
  refine (HFo.out _ HB2.out).mono ?_
  rintro e w3' ⟨rfl, hb'⟩
  obtain ⟨w3, hw3⟩ : ∃ x, x = w3'.alloc (.cells #[.int .i64 (N 0), .int .i64 (N 1), .int .i64 (N 2), .int .i64 (N 3), .int .i64 (N 4), .int .i64 (N 5), .int .i64 (N 6), .int .i64 (N 7)] 30) := ⟨_, rfl⟩
  obtain ⟨G1, hG1⟩ : ∃ G, G = w3'.heap.size := ⟨_, rfl⟩
  have hb : Below w2.heap.size w2 w3 := by rw [hw3]; exact hb'.alloc hb'.size _
  have HB3 : Hid (Below w.heap.size w w3) := HB2.out.trans (hb.mono HB2.out.size)
  have HF3 : Hid (Blk w3 w.heap.size 25 #[.slice ao al acap, .slice co cl ccap]) := HF2.out.below hb
  have HD3 : Hid (Blk w3 (w.heap.size + 1) 28 #[.int .i64 D.u, .int .i64 D.a, .int .i64 D.b, .int .i64 D.c]) := HD2.out.below hb
  have HN3 : Hid (Blk w3 G1 30 (arr8 N)) := by unfold Hid; rw [hw3, hG1]; exact Blk.new _ _ _
  clear hb hb'
  clear y0 y1 d0 d1 d2 d3
  go_upto_region 7 with fail
  rw [← hw3, ← hG1]
  clear hw3 hG1
  obtain ⟨n0, n1, n2, n3, n4, n5, n6, n7⟩ := HN3.out.cells8
  go_wp2_with fail
  go_at_call 6
  refine (HWo.out _ HB3.out).mono ?_
  rintro e w4' ⟨rfl, hb'⟩
  obtain ⟨w4, hw4⟩ : ∃ x, x = w4'.alloc (.cells #[.int .i64 X.u, .int .i64 X.a, .int .i64 X.b, .int .i64 X.c] 28) := ⟨_, rfl⟩
  obtain ⟨G2, hG2⟩ : ∃ G, G = w4'.heap.size := ⟨_, rfl⟩
  have hb : Below w3.heap.size w3 w4 := by rw [hw4]; exact hb'.alloc hb'.size _
  have HB4 : Hid (Below w.heap.size w w4) := HB3.out.trans (hb.mono HB3.out.size)
  have HF4 : Hid (Blk w4 w.heap.size 25 #[.slice ao al acap, .slice co cl ccap]) := HF3.out.below hb
  have HD4 : Hid (Blk w4 (w.heap.size + 1) 28 #[.int .i64 D.u, .int .i64 D.a, .int .i64 D.b, .int .i64 D.c]) := HD3.out.below hb
  have HX4 : Hid (Blk w4 G2 28 #[.int .i64 X.u, .int .i64 X.a, .int .i64 X.b, .int .i64 X.c]) := by unfold Hid; rw [hw4, hG2]; exact Blk.new _ _ _
  clear hb hb' n0 n1 n2 n3 n4 n5 n6 n7
  go_upto_region 10 with fail
  rw [← hw4, ← hG2]
  clear hw4 hG2
  have y0 : w4.cell? ⟨w.heap.size, 0, none⟩ = some (.slice ao al acap) := HF4.out.cell 0
  have y1 : w4.cell? ⟨w.heap.size, 1, none⟩ = some (.slice co cl ccap) := HF4.out.cell 1
  have d0 : w4.cell? ⟨w.heap.size + 1, 0, none⟩ = some (.int .i64 D.u) := HD4.out.cell 0
  have d1 : w4.cell? ⟨w.heap.size + 1, 1, none⟩ = some (.int .i64 D.a) := HD4.out.cell 1
  have d2 : w4.cell? ⟨w.heap.size + 1, 2, none⟩ = some (.int .i64 D.b) := HD4.out.cell 2
  have d3 : w4.cell? ⟨w.heap.size + 1, 3, none⟩ = some (.int .i64 D.c) := HD4.out.cell 3
  go_wp2_with fail
  go_at_call 7
  refine (HIs.out _ HB4.out).mono ?_
  rintro e w5 ⟨rfl, hb⟩
  have HB5 : Hid (Below w.heap.size w w5) := HB4.out.trans (hb.mono HB4.out.size)
  have HF5 : Hid (Blk w5 w.heap.size 25 #[.slice ao al acap, .slice co cl ccap]) := HF4.out.below hb
  have HD5 : Hid (Blk w5 (w.heap.size + 1) 28 #[.int .i64 D.u, .int .i64 D.a, .int .i64 D.b, .int .i64 D.c]) := HD4.out.below hb
  have HX5 : Hid (Blk w5 G2 28 #[.int .i64 X.u, .int .i64 X.a, .int .i64 X.b, .int .i64 X.c]) := HX4.out.below hb
  clear hb
  clear y0 y1 d0 d1 d2 d3
  have y0 : w5.cell? ⟨w.heap.size, 0, none⟩ = some (.slice ao al acap) := HF5.out.cell 0
  have y1 : w5.cell? ⟨w.heap.size, 1, none⟩ = some (.slice co cl ccap) := HF5.out.cell 1
  have d0 : w5.cell? ⟨G2, 0, none⟩ = some (.int .i64 X.u) := HX5.out.cell 0
  have d1 : w5.cell? ⟨G2, 1, none⟩ = some (.int .i64 X.a) := HX5.out.cell 1
  have d2 : w5.cell? ⟨G2, 2, none⟩ = some (.int .i64 X.b) := HX5.out.cell 2
  have d3 : w5.cell? ⟨G2, 3, none⟩ = some (.int .i64 X.c) := HX5.out.cell 3
  go_wp2_with fail
  go_at_call 7
  refine (HIx.out _ HB5.out).mono ?_
  rintro e w6 ⟨rfl, hb⟩
  have HB6 : Hid (Below w.heap.size w w6) := HB5.out.trans (hb.mono HB5.out.size)
  have HF6 : Hid (Blk w6 w.heap.size 25 #[.slice ao al acap, .slice co cl ccap]) := HF5.out.below hb
  have HD6 : Hid (Blk w6 (w.heap.size + 1) 28 #[.int .i64 D.u, .int .i64 D.a, .int .i64 D.b, .int .i64 D.c]) := HD5.out.below hb
  clear hb
  clear y0 y1 d0 d1 d2 d3
  by_cases h0 : F = 0
  · have e0 : errV F = .nilIface := by rw [h0]; rfl
    have H0 : Hid (F = 0) := h0
    rw [e0]
    clear e0 h0
    cases q with
    | false =>
      have HH : Hid (∀ W, Below w.heap.size w W → Calls Tryd.prog 8 #[.agg #[.slice ao al acap, .slice co cl ccap], .agg #[.int .i64 D.u, .int .i64 D.a, .int .i64 D.b, .int .i64 D.c]] W fun e w' => e = .returned (.tuple #[.bool false, .nilIface]) ∧ Below W.heap.size W w') := HHo.out H0.out rfl
      have y0 : w6.cell? ⟨w.heap.size, 0, none⟩ = some (.slice ao al acap) := HF6.out.cell 0
      have y1 : w6.cell? ⟨w.heap.size, 1, none⟩ = some (.slice co cl ccap) := HF6.out.cell 1
      have d0 : w6.cell? ⟨w.heap.size + 1, 0, none⟩ = some (.int .i64 D.u) := HD6.out.cell 0
      have d1 : w6.cell? ⟨w.heap.size + 1, 1, none⟩ = some (.int .i64 D.a) := HD6.out.cell 1
      have d2 : w6.cell? ⟨w.heap.size + 1, 2, none⟩ = some (.int .i64 D.b) := HD6.out.cell 2
      have d3 : w6.cell? ⟨w.heap.size + 1, 3, none⟩ = some (.int .i64 D.c) := HD6.out.cell 3
      go_wp2_with fail
      go_at_call 8
      refine (HH.out _ HB6.out).mono ?_
      rintro e w7 ⟨rfl, hb⟩
      have HB7 : Hid (Below w.heap.size w w7) := HB6.out.trans (hb.mono HB6.out.size)
      clear hb
      go_wp2
      go_ret
      exact ⟨rfl, HB7.out⟩
    | true =>
      have HF : Hid (∀ W, Below w.heap.size w W → Calls Tryd.prog 9 #[.agg #[.slice ao al acap, .slice co cl ccap], .int .i64 2, .agg #[.int .i64 D.u, .int .i64 D.a, .int .i64 D.b, .int .i64 D.c]] W fun e w' => e = .returned (.tuple #[.int .i64 S, .nilIface]) ∧ Below W.heap.size W w') := HFi.out H0.out rfl
      have HH : Hid (∀ W, Below w.heap.size w W → Calls Tryd.prog 8 #[.agg #[.slice ao al acap, .slice co cl ccap], .agg #[.int .i64 D.u, .int .i64 D.a, .int .i64 D.b, .int .i64 S]] W fun e w' => e = .returned (.tuple #[.bool true, .nilIface]) ∧ Below W.heap.size W w') := HHs.out H0.out rfl
      have HW : Hid (∀ W, Below w.heap.size w W → Calls Tryd.prog 10 #[.agg #[.slice ao al acap, .slice co cl ccap], .int .i64 D.u] W fun e w' => e = .returned (.tuple #[.int .i64 K, .nilIface]) ∧ Below W.heap.size W w') := HWd.out H0.out rfl
      have y0 : w6.cell? ⟨w.heap.size, 0, none⟩ = some (.slice ao al acap) := HF6.out.cell 0
      have y1 : w6.cell? ⟨w.heap.size, 1, none⟩ = some (.slice co cl ccap) := HF6.out.cell 1
      have d0 : w6.cell? ⟨w.heap.size + 1, 0, none⟩ = some (.int .i64 D.u) := HD6.out.cell 0
      have d1 : w6.cell? ⟨w.heap.size + 1, 1, none⟩ = some (.int .i64 D.a) := HD6.out.cell 1
      have d2 : w6.cell? ⟨w.heap.size + 1, 2, none⟩ = some (.int .i64 D.b) := HD6.out.cell 2
      have d3 : w6.cell? ⟨w.heap.size + 1, 3, none⟩ = some (.int .i64 D.c) := HD6.out.cell 3
      go_wp2_with fail
      go_at_call 9
      refine (HF.out _ HB6.out).mono ?_
      rintro e w7 ⟨rfl, hb⟩
      have HB7 : Hid (Below w.heap.size w w7) := HB6.out.trans (hb.mono HB6.out.size)
      have HF7 : Hid (Blk w7 w.heap.size 25 #[.slice ao al acap, .slice co cl ccap]) := HF6.out.below hb
      have HD7 : Hid (Blk w7 (w.heap.size + 1) 28 #[.int .i64 D.u, .int .i64 D.a, .int .i64 D.b, .int .i64 D.c]) := HD6.out.below hb
      clear hb y0 y1 d0 d1 d2 d3
      obtain ⟨w8, hw8⟩ : ∃ x, x = w7.setCell ⟨w.heap.size + 1, 3, none⟩ (.int .i64 S) := ⟨_, rfl⟩
      have HB8 : Hid (Below w.heap.size w w8) := by unfold Hid; rw [hw8]; exact HB7.out.setCell (by simp) _
      have HF8 : Hid (Blk w8 w.heap.size 25 #[.slice ao al acap, .slice co cl ccap]) := by unfold Hid; rw [hw8]; exact HF7.out.far (by omega) _ _
      have HD8 : Hid (Blk w8 (w.heap.size + 1) 28 #[.int .i64 D.u, .int .i64 D.a, .int .i64 D.b, .int .i64 S]) := by unfold Hid; rw [hw8]; exact HD7.out.set 3 (.int .i64 S)
      have d3 : w7.cell? ⟨w.heap.size + 1, 3, none⟩ = some (.int .i64 D.c) := HD7.out.cell 3
      have z3 : w7.frozen? ⟨w.heap.size + 1, 3, none⟩ = false := HD7.out.frozen 3
      go_upto_region 23 with fail
      rw [← hw8]
      clear hw8 d3 z3
      have y0 : w8.cell? ⟨w.heap.size, 0, none⟩ = some (.slice ao al acap) := HF8.out.cell 0
      have y1 : w8.cell? ⟨w.heap.size, 1, none⟩ = some (.slice co cl ccap) := HF8.out.cell 1
      have d0 : w8.cell? ⟨w.heap.size + 1, 0, none⟩ = some (.int .i64 D.u) := HD8.out.cell 0
      have d1 : w8.cell? ⟨w.heap.size + 1, 1, none⟩ = some (.int .i64 D.a) := HD8.out.cell 1
      have d2 : w8.cell? ⟨w.heap.size + 1, 2, none⟩ = some (.int .i64 D.b) := HD8.out.cell 2
      have d3 : w8.cell? ⟨w.heap.size + 1, 3, none⟩ = some (.int .i64 S) := HD8.out.cell 3
      go_wp2_with fail
      go_at_call 8
      refine (HH.out _ HB8.out).mono ?_
      rintro e w9 ⟨rfl, hb⟩
      have HB9 : Hid (Below w.heap.size w w9) := HB8.out.trans (hb.mono HB8.out.size)
      have HF9 : Hid (Blk w9 w.heap.size 25 #[.slice ao al acap, .slice co cl ccap]) := HF8.out.below hb
      have HD9 : Hid (Blk w9 (w.heap.size + 1) 28 #[.int .i64 D.u, .int .i64 D.a, .int .i64 D.b, .int .i64 S]) := HD8.out.below hb
      clear hb y0 y1 d0 d1 d2 d3
      have y0 : w9.cell? ⟨w.heap.size, 0, none⟩ = some (.slice ao al acap) := HF9.out.cell 0
      have y1 : w9.cell? ⟨w.heap.size, 1, none⟩ = some (.slice co cl ccap) := HF9.out.cell 1
      have d0 : w9.cell? ⟨w.heap.size + 1, 0, none⟩ = some (.int .i64 D.u) := HD9.out.cell 0
      go_wp2_with fail
      go_at_call 10
      refine (HW.out _ HB9.out).mono ?_
      rintro e w10 ⟨rfl, hb⟩
      have HB10 : Hid (Below w.heap.size w w10) := HB9.out.trans (hb.mono HB9.out.size)
      clear hb
      go_wp2
      go_ret
      exact ⟨rfl, HB10.out⟩
  · have e0 : errV F = .iface 58 (.int .i64 F) := by unfold errV; rw [if_neg h0]
    rw [e0]
    clear e0 h0
    go_wp2
    go_ret
    exact ⟨rfl, HB6.out⟩
end Go.Proofs.YtjaedfjfcghgcabDoor
