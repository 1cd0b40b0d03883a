/-
  Proved: what vennref1.Holds returns, of right atoms in right worlds; what was in memory is as it was (a contract that the statements lean on). Written by program.
-/
import Derived.Test.YtgkgbpbohgklhafDoorTermIn
import Derived.Test.YtgkgbpbohgklhafDoorAtomCheck
namespace Go.Proofs.YtgkgbpbohgklhafDoor
open Go.ChangeShapes Go.WideShapes Go.ChangeAt Go.RowKit
set_option maxRecDepth 100000

/-- vennref1.Value of a right term that is read. -/
theorem refValue_reads (t : List Int) (hf : faultN t = 0) (v : Value) (u a b c : Int) (hok : (Wd.mk u a b c).ok = true) (w : World) (h : Reads w v t) :
    Calls Tryd.prog 68 #[v, .agg #[.int .i64 u, .int .i64 a, .int .i64 b, .int .i64 c]] w fun e w' => e = .returned (.int .i64 ((Wd.mk u a b c).val t)) ∧ Below w.heap.size w w' := by
  rcases h with ⟨ao, cap, rfl, rfl⟩ | ⟨B, off, cap, rfl, hB, _, ⟨_, hcap⟩, hc⟩
  · exact absurd hf (by decide)
  · exact refValue_any t hf u a b c hok B off cap hcap w ⟨hB, hc⟩

set_option linter.unusedVariables false in
set_option maxHeartbeats 4000000 in
theorem refHolds_1 (n : Int) (sao tao : Option Addr) (sl scap tl tcap : Nat) (u a b c x y z zy : Int) (n0 : -20 ≤ n) (n1 : n ≤ 20) (hz : 0 ≤ z ∧ z ≤ 6) (hzy : 0 ≤ zy ∧ zy ≤ 6) (w : World)
    (hS : ∀ W, Below w.heap.size w W → Calls Tryd.prog 68 #[.slice sao sl scap, .agg #[.int .i64 u, .int .i64 a, .int .i64 b, .int .i64 c]] W fun e w' => e = .returned (.int .i64 x) ∧ Below W.heap.size W w')
    (hZ : ∀ W, Calls Tryd.prog 69 #[.int .i64 x] W fun e w' => e = .returned (.int .i64 z) ∧ W = w')
    (hT : ∀ W, Below w.heap.size w W → Calls Tryd.prog 68 #[.slice tao tl tcap, .agg #[.int .i64 u, .int .i64 a, .int .i64 b, .int .i64 c]] W fun e w' => e = .returned (.int .i64 y) ∧ Below W.heap.size W w')
    (hZy : ∀ W, Calls Tryd.prog 69 #[.int .i64 y] W fun e w' => e = .returned (.int .i64 zy) ∧ W = w')
    (hD : ∀ W, Calls Tryd.prog 70 #[.int .i64 7, .int .i64 u, .int .i64 x, .int .i64 y] W fun e w' => e = .returned (.int .i64 (lessN x y)) ∧ W = w') :
    Calls Tryd.prog 47 #[.agg #[.int .i64 1, .slice sao sl scap, .slice tao tl tcap, .int .i64 n], .agg #[.int .i64 u, .int .i64 a, .int .i64 b, .int .i64 c]] w fun e w' => e = .returned (.bool (decide (lessN x y = 0))) ∧ Below w.heap.size w w' := by
  obtain ⟨w1, hw1⟩ : ∃ w1, w1 = (w.alloc (.cells #[.int .i64 1, .slice sao sl scap, .slice tao tl tcap, .int .i64 n] 47)).alloc (.cells #[.int .i64 u, .int .i64 a, .int .i64 b, .int .i64 c] 28) := ⟨_, rfl⟩
  have HB1 : Hid (Below w.heap.size w w1) := by unfold Hid; rw [hw1]; exact (below_alloc1 _ _).trans ((below_alloc1 _ _).mono (by simp))
  have HS1 : Hid (w1.heap.size = w.heap.size + 2) := by unfold Hid; rw [hw1]; simp
  have HX : Hid (∀ W, Below w1.heap.size w1 W → (W.cell? ⟨w.heap.size, 0, none⟩ = some (.int .i64 1) ∧ W.cell? ⟨w.heap.size, 1, none⟩ = some (.slice sao sl scap) ∧ W.cell? ⟨w.heap.size, 2, none⟩ = some (.slice tao tl tcap) ∧ W.cell? ⟨w.heap.size, 3, none⟩ = some (.int .i64 n)) ∧ (W.cell? ⟨w.heap.size + 1, 0, none⟩ = some (.int .i64 u) ∧ W.cell? ⟨w.heap.size + 1, 1, none⟩ = some (.int .i64 a) ∧ W.cell? ⟨w.heap.size + 1, 2, none⟩ = some (.int .i64 b) ∧ W.cell? ⟨w.heap.size + 1, 3, none⟩ = some (.int .i64 c))) := fun W hc => by
    have l0 : w.heap.size < w1.heap.size := by have := HS1.out; omega
    have l1 : w.heap.size + 1 < w1.heap.size := by have := HS1.out; omega
    have e0 : ∀ j, W.cell? ⟨w.heap.size, j, none⟩ = w1.cell? ⟨w.heap.size, j, none⟩ := fun j => hc.cell (show (⟨w.heap.size, j, none⟩ : Addr).block < _ from l0)
    have e1 : ∀ j, W.cell? ⟨w.heap.size + 1, j, none⟩ = w1.cell? ⟨w.heap.size + 1, j, none⟩ := fun j => hc.cell (show (⟨w.heap.size + 1, j, none⟩ : Addr).block < _ from l1)
    simp only [e0, e1]
    rw [hw1]
    have q : w.heap.size + 1 = (w.alloc (.cells #[.int .i64 1, .slice sao sl scap, .slice tao tl tcap, .int .i64 n] 47)).heap.size := by simp
    have r : ∀ o j, ((w.alloc (.cells #[.int .i64 1, .slice sao sl scap, .slice tao tl tcap, .int .i64 n] 47)).alloc o).cell? ⟨w.heap.size, j, none⟩ = (w.alloc (.cells #[.int .i64 1, .slice sao sl scap, .slice tao tl tcap, .int .i64 n] 47)).cell? ⟨w.heap.size, j, none⟩ := fun o j => World.cell?_alloc_lt _ _ ⟨w.heap.size, j, none⟩ (by simp)
    simp only [r]
    rw [q]
    simp
  have HV : Hid (∀ W, Below w1.heap.size w1 W → _) := fun W hW => hS W (HB1.out.trans (hW.mono HB1.out.size))
  have HV2 : Hid (∀ W, Below w1.heap.size w1 W → _) := fun W hW => hT W (HB1.out.trans (hW.mono HB1.out.size))
  have HZy : Hid (∀ W, _) := hZy
  have HD : Hid (∀ W, _) := hD
  clear hT hZy hD
  have HZ : Hid (∀ W, _) := hZ
  clear hS hZ
  have HB : Hid (Below w1.heap.size w1 w1) := Below.refl _ _
  obtain ⟨⟨x0, x1, x2, x3⟩, ⟨y0, y1, y2, y3⟩⟩ := HX.out w1 HB.out
  rw [hw1] at x0 x1 x2 x3 y0 y1 y2 y3
  go_enter Tryd.func47, Tryd.ntmps47
  go_wp2_with fail
  rw [← hw1]
  clear hw1 x0 x1 x2 x3 y0 y1 y2 y3
  go_at_call 68
  refine (HV.out _ HB.out).mono ?_
  rintro e w2 ⟨rfl, hb⟩
  have HB : Hid (Below w1.heap.size w1 w2) := HB.out.trans (hb.mono HB.out.size)
  clear hb
  obtain ⟨⟨x0, x1, x2, x3⟩, ⟨y0, y1, y2, y3⟩⟩ := HX.out w2 HB.out
  go_wp2_with fail
  go_at_call 69
  refine (HZ.out _).mono ?_
  rintro e w' ⟨rfl, rfl⟩
  go_wp2_with fail
  go_at_call 68
  refine (HV2.out _ HB.out).mono ?_
  rintro e w3 ⟨rfl, hb⟩
  have HB : Hid (Below w1.heap.size w1 w3) := HB.out.trans (hb.mono HB.out.size)
  clear hb
  clear x0 x1 x2 x3 y0 y1 y2 y3
  obtain ⟨⟨x0, x1, x2, x3⟩, ⟨y0, y1, y2, y3⟩⟩ := HX.out w3 HB.out
  go_wp2_with fail
  go_at_call 70
  refine (HD.out _).mono ?_
  rintro e w' ⟨rfl, rfl⟩
  go_wp2
  go_ret
  refine ⟨?_, HB1.out.trans (HB.out.mono HB1.out.size)⟩
  first | rfl | exact back_b (by simp) | (refine back_b ?_; exact (beq_eq_decide _ _)) | simp

set_option linter.unusedVariables false in
set_option maxHeartbeats 4000000 in
theorem refHolds_2 (n : Int) (sao tao : Option Addr) (sl scap tl tcap : Nat) (u a b c x y z zy : Int) (n0 : -20 ≤ n) (n1 : n ≤ 20) (hz : 0 ≤ z ∧ z ≤ 6) (hzy : 0 ≤ zy ∧ zy ≤ 6) (w : World)
    (hS : ∀ W, Below w.heap.size w W → Calls Tryd.prog 68 #[.slice sao sl scap, .agg #[.int .i64 u, .int .i64 a, .int .i64 b, .int .i64 c]] W fun e w' => e = .returned (.int .i64 x) ∧ Below W.heap.size W w')
    (hZ : ∀ W, Calls Tryd.prog 69 #[.int .i64 x] W fun e w' => e = .returned (.int .i64 z) ∧ W = w')
    (hT : ∀ W, Below w.heap.size w W → Calls Tryd.prog 68 #[.slice tao tl tcap, .agg #[.int .i64 u, .int .i64 a, .int .i64 b, .int .i64 c]] W fun e w' => e = .returned (.int .i64 y) ∧ Below W.heap.size W w')
    (hZy : ∀ W, Calls Tryd.prog 69 #[.int .i64 y] W fun e w' => e = .returned (.int .i64 zy) ∧ W = w')
    (hD : ∀ W, Calls Tryd.prog 70 #[.int .i64 7, .int .i64 u, .int .i64 x, .int .i64 y] W fun e w' => e = .returned (.int .i64 (lessN x y)) ∧ W = w') :
    Calls Tryd.prog 47 #[.agg #[.int .i64 2, .slice sao sl scap, .slice tao tl tcap, .int .i64 n], .agg #[.int .i64 u, .int .i64 a, .int .i64 b, .int .i64 c]] w fun e w' => e = .returned (.bool (decide (x = y))) ∧ Below w.heap.size w w' := by
  obtain ⟨w1, hw1⟩ : ∃ w1, w1 = (w.alloc (.cells #[.int .i64 2, .slice sao sl scap, .slice tao tl tcap, .int .i64 n] 47)).alloc (.cells #[.int .i64 u, .int .i64 a, .int .i64 b, .int .i64 c] 28) := ⟨_, rfl⟩
  have HB1 : Hid (Below w.heap.size w w1) := by unfold Hid; rw [hw1]; exact (below_alloc1 _ _).trans ((below_alloc1 _ _).mono (by simp))
  have HS1 : Hid (w1.heap.size = w.heap.size + 2) := by unfold Hid; rw [hw1]; simp
  have HX : Hid (∀ W, Below w1.heap.size w1 W → (W.cell? ⟨w.heap.size, 0, none⟩ = some (.int .i64 2) ∧ W.cell? ⟨w.heap.size, 1, none⟩ = some (.slice sao sl scap) ∧ W.cell? ⟨w.heap.size, 2, none⟩ = some (.slice tao tl tcap) ∧ W.cell? ⟨w.heap.size, 3, none⟩ = some (.int .i64 n)) ∧ (W.cell? ⟨w.heap.size + 1, 0, none⟩ = some (.int .i64 u) ∧ W.cell? ⟨w.heap.size + 1, 1, none⟩ = some (.int .i64 a) ∧ W.cell? ⟨w.heap.size + 1, 2, none⟩ = some (.int .i64 b) ∧ W.cell? ⟨w.heap.size + 1, 3, none⟩ = some (.int .i64 c))) := fun W hc => by
    have l0 : w.heap.size < w1.heap.size := by have := HS1.out; omega
    have l1 : w.heap.size + 1 < w1.heap.size := by have := HS1.out; omega
    have e0 : ∀ j, W.cell? ⟨w.heap.size, j, none⟩ = w1.cell? ⟨w.heap.size, j, none⟩ := fun j => hc.cell (show (⟨w.heap.size, j, none⟩ : Addr).block < _ from l0)
    have e1 : ∀ j, W.cell? ⟨w.heap.size + 1, j, none⟩ = w1.cell? ⟨w.heap.size + 1, j, none⟩ := fun j => hc.cell (show (⟨w.heap.size + 1, j, none⟩ : Addr).block < _ from l1)
    simp only [e0, e1]
    rw [hw1]
    have q : w.heap.size + 1 = (w.alloc (.cells #[.int .i64 2, .slice sao sl scap, .slice tao tl tcap, .int .i64 n] 47)).heap.size := by simp
    have r : ∀ o j, ((w.alloc (.cells #[.int .i64 2, .slice sao sl scap, .slice tao tl tcap, .int .i64 n] 47)).alloc o).cell? ⟨w.heap.size, j, none⟩ = (w.alloc (.cells #[.int .i64 2, .slice sao sl scap, .slice tao tl tcap, .int .i64 n] 47)).cell? ⟨w.heap.size, j, none⟩ := fun o j => World.cell?_alloc_lt _ _ ⟨w.heap.size, j, none⟩ (by simp)
    simp only [r]
    rw [q]
    simp
  have HV : Hid (∀ W, Below w1.heap.size w1 W → _) := fun W hW => hS W (HB1.out.trans (hW.mono HB1.out.size))
  have HV2 : Hid (∀ W, Below w1.heap.size w1 W → _) := fun W hW => hT W (HB1.out.trans (hW.mono HB1.out.size))
  have HZy : Hid (∀ W, _) := hZy
  have HD : Hid (∀ W, _) := hD
  clear hT hZy hD
  have HZ : Hid (∀ W, _) := hZ
  clear hS hZ
  have HB : Hid (Below w1.heap.size w1 w1) := Below.refl _ _
  obtain ⟨⟨x0, x1, x2, x3⟩, ⟨y0, y1, y2, y3⟩⟩ := HX.out w1 HB.out
  rw [hw1] at x0 x1 x2 x3 y0 y1 y2 y3
  go_enter Tryd.func47, Tryd.ntmps47
  go_wp2_with fail
  rw [← hw1]
  clear hw1 x0 x1 x2 x3 y0 y1 y2 y3
  go_at_call 68
  refine (HV.out _ HB.out).mono ?_
  rintro e w2 ⟨rfl, hb⟩
  have HB : Hid (Below w1.heap.size w1 w2) := HB.out.trans (hb.mono HB.out.size)
  clear hb
  obtain ⟨⟨x0, x1, x2, x3⟩, ⟨y0, y1, y2, y3⟩⟩ := HX.out w2 HB.out
  go_wp2_with fail
  go_at_call 69
  refine (HZ.out _).mono ?_
  rintro e w' ⟨rfl, rfl⟩
  go_wp2_with fail
  go_at_call 68
  refine (HV2.out _ HB.out).mono ?_
  rintro e w3 ⟨rfl, hb⟩
  have HB : Hid (Below w1.heap.size w1 w3) := HB.out.trans (hb.mono HB.out.size)
  clear hb
  clear x0 x1 x2 x3 y0 y1 y2 y3
  obtain ⟨⟨x0, x1, x2, x3⟩, ⟨y0, y1, y2, y3⟩⟩ := HX.out w3 HB.out
  go_wp2
  go_ret
  refine ⟨?_, HB1.out.trans (HB.out.mono HB1.out.size)⟩
  first | rfl | exact back_b (by simp) | (refine back_b ?_; exact (beq_eq_decide _ _)) | simp

set_option linter.unusedVariables false in
set_option maxHeartbeats 4000000 in
theorem refHolds_3 (n : Int) (sao tao : Option Addr) (sl scap tl tcap : Nat) (u a b c x y z zy : Int) (n0 : -20 ≤ n) (n1 : n ≤ 20) (hz : 0 ≤ z ∧ z ≤ 6) (hzy : 0 ≤ zy ∧ zy ≤ 6) (w : World)
    (hS : ∀ W, Below w.heap.size w W → Calls Tryd.prog 68 #[.slice sao sl scap, .agg #[.int .i64 u, .int .i64 a, .int .i64 b, .int .i64 c]] W fun e w' => e = .returned (.int .i64 x) ∧ Below W.heap.size W w')
    (hZ : ∀ W, Calls Tryd.prog 69 #[.int .i64 x] W fun e w' => e = .returned (.int .i64 z) ∧ W = w') :
    Calls Tryd.prog 47 #[.agg #[.int .i64 3, .slice sao sl scap, .slice tao tl tcap, .int .i64 n], .agg #[.int .i64 u, .int .i64 a, .int .i64 b, .int .i64 c]] w fun e w' => e = .returned (.bool (decide (n ≤ z))) ∧ Below w.heap.size w w' := by
  obtain ⟨w1, hw1⟩ : ∃ w1, w1 = (w.alloc (.cells #[.int .i64 3, .slice sao sl scap, .slice tao tl tcap, .int .i64 n] 47)).alloc (.cells #[.int .i64 u, .int .i64 a, .int .i64 b, .int .i64 c] 28) := ⟨_, rfl⟩
  have HB1 : Hid (Below w.heap.size w w1) := by unfold Hid; rw [hw1]; exact (below_alloc1 _ _).trans ((below_alloc1 _ _).mono (by simp))
  have HS1 : Hid (w1.heap.size = w.heap.size + 2) := by unfold Hid; rw [hw1]; simp
  have HX : Hid (∀ W, Below w1.heap.size w1 W → (W.cell? ⟨w.heap.size, 0, none⟩ = some (.int .i64 3) ∧ W.cell? ⟨w.heap.size, 1, none⟩ = some (.slice sao sl scap) ∧ W.cell? ⟨w.heap.size, 2, none⟩ = some (.slice tao tl tcap) ∧ W.cell? ⟨w.heap.size, 3, none⟩ = some (.int .i64 n)) ∧ (W.cell? ⟨w.heap.size + 1, 0, none⟩ = some (.int .i64 u) ∧ W.cell? ⟨w.heap.size + 1, 1, none⟩ = some (.int .i64 a) ∧ W.cell? ⟨w.heap.size + 1, 2, none⟩ = some (.int .i64 b) ∧ W.cell? ⟨w.heap.size + 1, 3, none⟩ = some (.int .i64 c))) := fun W hc => by
    have l0 : w.heap.size < w1.heap.size := by have := HS1.out; omega
    have l1 : w.heap.size + 1 < w1.heap.size := by have := HS1.out; omega
    have e0 : ∀ j, W.cell? ⟨w.heap.size, j, none⟩ = w1.cell? ⟨w.heap.size, j, none⟩ := fun j => hc.cell (show (⟨w.heap.size, j, none⟩ : Addr).block < _ from l0)
    have e1 : ∀ j, W.cell? ⟨w.heap.size + 1, j, none⟩ = w1.cell? ⟨w.heap.size + 1, j, none⟩ := fun j => hc.cell (show (⟨w.heap.size + 1, j, none⟩ : Addr).block < _ from l1)
    simp only [e0, e1]
    rw [hw1]
    have q : w.heap.size + 1 = (w.alloc (.cells #[.int .i64 3, .slice sao sl scap, .slice tao tl tcap, .int .i64 n] 47)).heap.size := by simp
    have r : ∀ o j, ((w.alloc (.cells #[.int .i64 3, .slice sao sl scap, .slice tao tl tcap, .int .i64 n] 47)).alloc o).cell? ⟨w.heap.size, j, none⟩ = (w.alloc (.cells #[.int .i64 3, .slice sao sl scap, .slice tao tl tcap, .int .i64 n] 47)).cell? ⟨w.heap.size, j, none⟩ := fun o j => World.cell?_alloc_lt _ _ ⟨w.heap.size, j, none⟩ (by simp)
    simp only [r]
    rw [q]
    simp
  have HV : Hid (∀ W, Below w1.heap.size w1 W → _) := fun W hW => hS W (HB1.out.trans (hW.mono HB1.out.size))
  have HZ : Hid (∀ W, _) := hZ
  clear hS hZ
  have HB : Hid (Below w1.heap.size w1 w1) := Below.refl _ _
  obtain ⟨⟨x0, x1, x2, x3⟩, ⟨y0, y1, y2, y3⟩⟩ := HX.out w1 HB.out
  rw [hw1] at x0 x1 x2 x3 y0 y1 y2 y3
  go_enter Tryd.func47, Tryd.ntmps47
  go_wp2_with fail
  rw [← hw1]
  clear hw1 x0 x1 x2 x3 y0 y1 y2 y3
  go_at_call 68
  refine (HV.out _ HB.out).mono ?_
  rintro e w2 ⟨rfl, hb⟩
  have HB : Hid (Below w1.heap.size w1 w2) := HB.out.trans (hb.mono HB.out.size)
  clear hb
  obtain ⟨⟨x0, x1, x2, x3⟩, ⟨y0, y1, y2, y3⟩⟩ := HX.out w2 HB.out
  go_wp2_with fail
  go_at_call 69
  refine (HZ.out _).mono ?_
  rintro e w' ⟨rfl, rfl⟩
  go_wp2
  go_ret
  refine ⟨?_, HB1.out.trans (HB.out.mono HB1.out.size)⟩
  first | rfl | exact back_b (by simp) | (refine back_b ?_; exact (beq_eq_decide _ _)) | simp

set_option linter.unusedVariables false in
set_option maxHeartbeats 4000000 in
theorem refHolds_4 (n : Int) (sao tao : Option Addr) (sl scap tl tcap : Nat) (u a b c x y z zy : Int) (n0 : -20 ≤ n) (n1 : n ≤ 20) (hz : 0 ≤ z ∧ z ≤ 6) (hzy : 0 ≤ zy ∧ zy ≤ 6) (w : World)
    (hS : ∀ W, Below w.heap.size w W → Calls Tryd.prog 68 #[.slice sao sl scap, .agg #[.int .i64 u, .int .i64 a, .int .i64 b, .int .i64 c]] W fun e w' => e = .returned (.int .i64 x) ∧ Below W.heap.size W w')
    (hZ : ∀ W, Calls Tryd.prog 69 #[.int .i64 x] W fun e w' => e = .returned (.int .i64 z) ∧ W = w') :
    Calls Tryd.prog 47 #[.agg #[.int .i64 4, .slice sao sl scap, .slice tao tl tcap, .int .i64 n], .agg #[.int .i64 u, .int .i64 a, .int .i64 b, .int .i64 c]] w fun e w' => e = .returned (.bool (decide (z ≤ n))) ∧ Below w.heap.size w w' := by
  obtain ⟨w1, hw1⟩ : ∃ w1, w1 = (w.alloc (.cells #[.int .i64 4, .slice sao sl scap, .slice tao tl tcap, .int .i64 n] 47)).alloc (.cells #[.int .i64 u, .int .i64 a, .int .i64 b, .int .i64 c] 28) := ⟨_, rfl⟩
  have HB1 : Hid (Below w.heap.size w w1) := by unfold Hid; rw [hw1]; exact (below_alloc1 _ _).trans ((below_alloc1 _ _).mono (by simp))
  have HS1 : Hid (w1.heap.size = w.heap.size + 2) := by unfold Hid; rw [hw1]; simp
  have HX : Hid (∀ W, Below w1.heap.size w1 W → (W.cell? ⟨w.heap.size, 0, none⟩ = some (.int .i64 4) ∧ W.cell? ⟨w.heap.size, 1, none⟩ = some (.slice sao sl scap) ∧ W.cell? ⟨w.heap.size, 2, none⟩ = some (.slice tao tl tcap) ∧ W.cell? ⟨w.heap.size, 3, none⟩ = some (.int .i64 n)) ∧ (W.cell? ⟨w.heap.size + 1, 0, none⟩ = some (.int .i64 u) ∧ W.cell? ⟨w.heap.size + 1, 1, none⟩ = some (.int .i64 a) ∧ W.cell? ⟨w.heap.size + 1, 2, none⟩ = some (.int .i64 b) ∧ W.cell? ⟨w.heap.size + 1, 3, none⟩ = some (.int .i64 c))) := fun W hc => by
    have l0 : w.heap.size < w1.heap.size := by have := HS1.out; omega
    have l1 : w.heap.size + 1 < w1.heap.size := by have := HS1.out; omega
    have e0 : ∀ j, W.cell? ⟨w.heap.size, j, none⟩ = w1.cell? ⟨w.heap.size, j, none⟩ := fun j => hc.cell (show (⟨w.heap.size, j, none⟩ : Addr).block < _ from l0)
    have e1 : ∀ j, W.cell? ⟨w.heap.size + 1, j, none⟩ = w1.cell? ⟨w.heap.size + 1, j, none⟩ := fun j => hc.cell (show (⟨w.heap.size + 1, j, none⟩ : Addr).block < _ from l1)
    simp only [e0, e1]
    rw [hw1]
    have q : w.heap.size + 1 = (w.alloc (.cells #[.int .i64 4, .slice sao sl scap, .slice tao tl tcap, .int .i64 n] 47)).heap.size := by simp
    have r : ∀ o j, ((w.alloc (.cells #[.int .i64 4, .slice sao sl scap, .slice tao tl tcap, .int .i64 n] 47)).alloc o).cell? ⟨w.heap.size, j, none⟩ = (w.alloc (.cells #[.int .i64 4, .slice sao sl scap, .slice tao tl tcap, .int .i64 n] 47)).cell? ⟨w.heap.size, j, none⟩ := fun o j => World.cell?_alloc_lt _ _ ⟨w.heap.size, j, none⟩ (by simp)
    simp only [r]
    rw [q]
    simp
  have HV : Hid (∀ W, Below w1.heap.size w1 W → _) := fun W hW => hS W (HB1.out.trans (hW.mono HB1.out.size))
  have HZ : Hid (∀ W, _) := hZ
  clear hS hZ
  have HB : Hid (Below w1.heap.size w1 w1) := Below.refl _ _
  obtain ⟨⟨x0, x1, x2, x3⟩, ⟨y0, y1, y2, y3⟩⟩ := HX.out w1 HB.out
  rw [hw1] at x0 x1 x2 x3 y0 y1 y2 y3
  go_enter Tryd.func47, Tryd.ntmps47
  go_wp2_with fail
  rw [← hw1]
  clear hw1 x0 x1 x2 x3 y0 y1 y2 y3
  go_at_call 68
  refine (HV.out _ HB.out).mono ?_
  rintro e w2 ⟨rfl, hb⟩
  have HB : Hid (Below w1.heap.size w1 w2) := HB.out.trans (hb.mono HB.out.size)
  clear hb
  obtain ⟨⟨x0, x1, x2, x3⟩, ⟨y0, y1, y2, y3⟩⟩ := HX.out w2 HB.out
  go_wp2_with fail
  go_at_call 69
  refine (HZ.out _).mono ?_
  rintro e w' ⟨rfl, rfl⟩
  go_wp2
  go_ret
  refine ⟨?_, HB1.out.trans (HB.out.mono HB1.out.size)⟩
  first | rfl | exact back_b (by simp) | (refine back_b ?_; exact (beq_eq_decide _ _)) | simp

set_option linter.unusedVariables false in
set_option maxHeartbeats 4000000 in
theorem refHolds_5 (n : Int) (sao tao : Option Addr) (sl scap tl tcap : Nat) (u a b c x y z zy : Int) (n0 : -20 ≤ n) (n1 : n ≤ 20) (hz : 0 ≤ z ∧ z ≤ 6) (hzy : 0 ≤ zy ∧ zy ≤ 6) (w : World)
    (hS : ∀ W, Below w.heap.size w W → Calls Tryd.prog 68 #[.slice sao sl scap, .agg #[.int .i64 u, .int .i64 a, .int .i64 b, .int .i64 c]] W fun e w' => e = .returned (.int .i64 x) ∧ Below W.heap.size W w')
    (hZ : ∀ W, Calls Tryd.prog 69 #[.int .i64 x] W fun e w' => e = .returned (.int .i64 z) ∧ W = w')
    (hT : ∀ W, Below w.heap.size w W → Calls Tryd.prog 68 #[.slice tao tl tcap, .agg #[.int .i64 u, .int .i64 a, .int .i64 b, .int .i64 c]] W fun e w' => e = .returned (.int .i64 y) ∧ Below W.heap.size W w')
    (hZy : ∀ W, Calls Tryd.prog 69 #[.int .i64 y] W fun e w' => e = .returned (.int .i64 zy) ∧ W = w')
    (hD : ∀ W, Calls Tryd.prog 70 #[.int .i64 7, .int .i64 u, .int .i64 x, .int .i64 y] W fun e w' => e = .returned (.int .i64 (lessN x y)) ∧ W = w') :
    Calls Tryd.prog 47 #[.agg #[.int .i64 5, .slice sao sl scap, .slice tao tl tcap, .int .i64 n], .agg #[.int .i64 u, .int .i64 a, .int .i64 b, .int .i64 c]] w fun e w' => e = .returned (.bool (decide (z ≤ zy + n))) ∧ Below w.heap.size w w' := by
  obtain ⟨w1, hw1⟩ : ∃ w1, w1 = (w.alloc (.cells #[.int .i64 5, .slice sao sl scap, .slice tao tl tcap, .int .i64 n] 47)).alloc (.cells #[.int .i64 u, .int .i64 a, .int .i64 b, .int .i64 c] 28) := ⟨_, rfl⟩
  have HB1 : Hid (Below w.heap.size w w1) := by unfold Hid; rw [hw1]; exact (below_alloc1 _ _).trans ((below_alloc1 _ _).mono (by simp))
  have HS1 : Hid (w1.heap.size = w.heap.size + 2) := by unfold Hid; rw [hw1]; simp
  have HX : Hid (∀ W, Below w1.heap.size w1 W → (W.cell? ⟨w.heap.size, 0, none⟩ = some (.int .i64 5) ∧ W.cell? ⟨w.heap.size, 1, none⟩ = some (.slice sao sl scap) ∧ W.cell? ⟨w.heap.size, 2, none⟩ = some (.slice tao tl tcap) ∧ W.cell? ⟨w.heap.size, 3, none⟩ = some (.int .i64 n)) ∧ (W.cell? ⟨w.heap.size + 1, 0, none⟩ = some (.int .i64 u) ∧ W.cell? ⟨w.heap.size + 1, 1, none⟩ = some (.int .i64 a) ∧ W.cell? ⟨w.heap.size + 1, 2, none⟩ = some (.int .i64 b) ∧ W.cell? ⟨w.heap.size + 1, 3, none⟩ = some (.int .i64 c))) := fun W hc => by
    have l0 : w.heap.size < w1.heap.size := by have := HS1.out; omega
    have l1 : w.heap.size + 1 < w1.heap.size := by have := HS1.out; omega
    have e0 : ∀ j, W.cell? ⟨w.heap.size, j, none⟩ = w1.cell? ⟨w.heap.size, j, none⟩ := fun j => hc.cell (show (⟨w.heap.size, j, none⟩ : Addr).block < _ from l0)
    have e1 : ∀ j, W.cell? ⟨w.heap.size + 1, j, none⟩ = w1.cell? ⟨w.heap.size + 1, j, none⟩ := fun j => hc.cell (show (⟨w.heap.size + 1, j, none⟩ : Addr).block < _ from l1)
    simp only [e0, e1]
    rw [hw1]
    have q : w.heap.size + 1 = (w.alloc (.cells #[.int .i64 5, .slice sao sl scap, .slice tao tl tcap, .int .i64 n] 47)).heap.size := by simp
    have r : ∀ o j, ((w.alloc (.cells #[.int .i64 5, .slice sao sl scap, .slice tao tl tcap, .int .i64 n] 47)).alloc o).cell? ⟨w.heap.size, j, none⟩ = (w.alloc (.cells #[.int .i64 5, .slice sao sl scap, .slice tao tl tcap, .int .i64 n] 47)).cell? ⟨w.heap.size, j, none⟩ := fun o j => World.cell?_alloc_lt _ _ ⟨w.heap.size, j, none⟩ (by simp)
    simp only [r]
    rw [q]
    simp
  have HV : Hid (∀ W, Below w1.heap.size w1 W → _) := fun W hW => hS W (HB1.out.trans (hW.mono HB1.out.size))
  have HV2 : Hid (∀ W, Below w1.heap.size w1 W → _) := fun W hW => hT W (HB1.out.trans (hW.mono HB1.out.size))
  have HZy : Hid (∀ W, _) := hZy
  have HD : Hid (∀ W, _) := hD
  clear hT hZy hD
  have HZ : Hid (∀ W, _) := hZ
  clear hS hZ
  have HB : Hid (Below w1.heap.size w1 w1) := Below.refl _ _
  obtain ⟨⟨x0, x1, x2, x3⟩, ⟨y0, y1, y2, y3⟩⟩ := HX.out w1 HB.out
  rw [hw1] at x0 x1 x2 x3 y0 y1 y2 y3
  go_enter Tryd.func47, Tryd.ntmps47
  go_wp2_with fail
  rw [← hw1]
  clear hw1 x0 x1 x2 x3 y0 y1 y2 y3
  go_at_call 68
  refine (HV.out _ HB.out).mono ?_
  rintro e w2 ⟨rfl, hb⟩
  have HB : Hid (Below w1.heap.size w1 w2) := HB.out.trans (hb.mono HB.out.size)
  clear hb
  obtain ⟨⟨x0, x1, x2, x3⟩, ⟨y0, y1, y2, y3⟩⟩ := HX.out w2 HB.out
  go_wp2_with fail
  go_at_call 69
  refine (HZ.out _).mono ?_
  rintro e w' ⟨rfl, rfl⟩
  go_wp2_with fail
  go_at_call 68
  refine (HV2.out _ HB.out).mono ?_
  rintro e w3 ⟨rfl, hb⟩
  have HB : Hid (Below w1.heap.size w1 w3) := HB.out.trans (hb.mono HB.out.size)
  clear hb
  clear x0 x1 x2 x3 y0 y1 y2 y3
  obtain ⟨⟨x0, x1, x2, x3⟩, ⟨y0, y1, y2, y3⟩⟩ := HX.out w3 HB.out
  go_wp2_with fail
  go_quiet (first | (go_at_call 69; exact Calls.quiet_of_same ((HZy.out _).mono fun _ _ h => ⟨h.1, h.2.symm⟩)))
  go_wp2
  go_ret
  refine ⟨?_, HB1.out.trans ((HB.out.trans ((below_drewNs _ _).mono HB.out.size)).mono HB1.out.size)⟩
  first | rfl | exact back_b (by simp) | (refine back_b ?_; exact (beq_eq_decide _ _)) | simp

/-- Holds, of a right atom in a right world. -/
theorem refHolds_any (k n : Int) (vs vt : Value) (s t : List Int) (u a b c : Int) (hf : atomFault k s t n = 0) (hok : (Wd.mk u a b c).ok = true) (w : World) (hS : Reads w vs s) (hT : Reads w vt t) :
    Calls Tryd.prog 47 #[.agg #[.int .i64 k, vs, vt, .int .i64 n], .agg #[.int .i64 u, .int .i64 a, .int .i64 b, .int .i64 c]] w fun e w' => e = .returned (.bool ((Wd.mk u a b c).holds k s t n)) ∧ Below w.heap.size w w' := by
  obtain ⟨hk, hs, ht, n0, n1⟩ := atomFault_zero.1 hf
  have hm : mostN k ≤ 20 := by unfold mostN; split <;> omega
  have h1 := fun (W : World) (hW : Below w.heap.size w W) => refValue_reads s hs vs u a b c hok W (hS.below hW)
  obtain ⟨_, _, x0, x1⟩ := okB_lt (ok_val hok s)
  have hz := fun (W : World) => refSize_any ((Wd.mk u a b c).val s) x0 x1 W
  have h2 : secondB k = true → (∀ W, Below w.heap.size w W → Calls Tryd.prog 68 #[vt, .agg #[.int .i64 u, .int .i64 a, .int .i64 b, .int .i64 c]] W fun e w' => e = .returned (.int .i64 ((Wd.mk u a b c).val t)) ∧ Below W.heap.size W w') ∧ (∀ W, Calls Tryd.prog 69 #[.int .i64 ((Wd.mk u a b c).val t)] W fun e w' => e = .returned (.int .i64 (pcN ((Wd.mk u a b c).val t))) ∧ W = w') ∧ (∀ W, Calls Tryd.prog 70 #[.int .i64 7, .int .i64 u, .int .i64 ((Wd.mk u a b c).val s), .int .i64 ((Wd.mk u a b c).val t)] W fun e w' => e = .returned (.int .i64 (lessN ((Wd.mk u a b c).val s) ((Wd.mk u a b c).val t))) ∧ W = w') := fun h => by
    have h0 := second_reads ht h
    obtain ⟨_, _, y0, y1⟩ := okB_lt (ok_val hok t)
    exact ⟨fun W hW => refValue_reads t h0 vt u a b c hok W (hT.below hW), fun W => refSize_any _ y0 y1 W, fun W => refDo_any 7 u _ _ (by decide) (by decide) (ok_val hok s) (ok_val hok t) W⟩
  obtain ⟨sao, scap, rfl, _⟩ := hS.slice
  obtain ⟨tao, tcap, rfl, _⟩ := hT.slice
  rcases five hk.1 hk.2 with rfl | rfl | rfl | rfl | rfl
  · obtain ⟨g1, g2, g3⟩ := h2 (by decide)
    exact refHolds_1 n sao tao _ scap _ tcap u a b c _ _ _ _ (by omega) (by omega) (pcN_le _) (pcN_le _) w h1 hz g1 g2 g3
  · obtain ⟨g1, g2, g3⟩ := h2 (by decide)
    exact refHolds_2 n sao tao _ scap _ tcap u a b c _ _ _ _ (by omega) (by omega) (pcN_le _) (pcN_le _) w h1 hz g1 g2 g3
  · exact refHolds_3 n sao tao _ scap _ tcap u a b c _ 0 _ 0 (by omega) (by omega) (pcN_le _) (by omega) w h1 hz
  · exact refHolds_4 n sao tao _ scap _ tcap u a b c _ 0 _ 0 (by omega) (by omega) (pcN_le _) (by omega) w h1 hz
  · obtain ⟨g1, g2, g3⟩ := h2 (by decide)
    exact refHolds_5 n sao tao _ scap _ tcap u a b c _ _ _ _ (by omega) (by omega) (pcN_le _) (pcN_le _) w h1 hz g1 g2 g3
end Go.Proofs.YtgkgbpbohgklhafDoor
