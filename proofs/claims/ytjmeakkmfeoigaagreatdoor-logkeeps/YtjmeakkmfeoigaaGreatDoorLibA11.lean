/-
  Facts and contracts that the statement leans on.
-/
import Derived.Test.YtjmeakkmfeoigaaGreatDoorLibA10
import Derived.Test.YtjmeakkmfeoigaaGreatDoorLibA6
import Derived.Test.YtjmeakkmfeoigaaGreatDoorLibA3
import Derived.Deep.RegionWith
import Derived.Deep.Cut
import Derived.Deep.CutRange
namespace Go.Proofs.YtjmeakkmfeoigaaGreatDoor
open Go.ChangeShapes Go.WideShapes Go.ChangeAt Go.RowKit
set_option maxRecDepth 100000
theorem refValue_reads (t : List Int) (hf : faultN t = 0) (v : Value) (u a b c : Int) (hok : (Wd.mk u a b c).ok = true) (w : World) (h : Reads w v t) :
    Calls Tryz.prog 170 #[v, .agg #[.int .i64 u, .int .i64 a, .int .i64 b, .int .i64 c]] w (Bk w (.int .i64 ((Wd.mk u a b c).val t))) := by
 rcases h with ⟨ao, cap, rfl, rfl⟩ | ⟨B, off, cap, rfl, hB, _, ⟨_, hcap⟩, hc⟩
 ·exact absurd hf (by decide)
 ·exact refValue_any t hf u a b c hok B off cap hcap w ⟨hB, hc⟩
set_option linter.unusedVariables false in
set_option maxHeartbeats 4000000 in
theorem refHolds_1 (n : Int) (sao tao : Option Addr) (sl scap tl tcap : Nat) (u a b c x y z zy : Int) (n0 : -20 ≤ n) (n1 : n ≤ 20) (hz : 0 ≤ z ∧ z ≤ 6) (hzy : 0 ≤ zy ∧ zy ≤ 6) (w : World)
    (hS : ∀ W, Below w.heap.size w W → Calls Tryz.prog 170 #[.slice sao sl scap, .agg #[.int .i64 u, .int .i64 a, .int .i64 b, .int .i64 c]] W (Bk W (.int .i64 x)))
    (hZ : ∀ W, Calls Tryz.prog 171 #[.int .i64 x] W (Sk W (.int .i64 z)))
    (hT : ∀ W, Below w.heap.size w W → Calls Tryz.prog 170 #[.slice tao tl tcap, .agg #[.int .i64 u, .int .i64 a, .int .i64 b, .int .i64 c]] W (Bk W (.int .i64 y)))
    (hZy : ∀ W, Calls Tryz.prog 171 #[.int .i64 y] W (Sk W (.int .i64 zy)))
    (hD : ∀ W, Calls Tryz.prog 172 #[.int .i64 7, .int .i64 u, .int .i64 x, .int .i64 y] W (Sk W (.int .i64 (lessN x y)))) :
    Calls Tryz.prog 147 #[.agg #[.int .i64 1, .slice sao sl scap, .slice tao tl tcap, .int .i64 n], .agg #[.int .i64 u, .int .i64 a, .int .i64 b, .int .i64 c]] w (Bk w (.bool (decide (lessN x y = 0)))) := by
 obtain ⟨w1, hw1⟩ := nm ((w.alloc (.cells #[.int .i64 1, .slice sao sl scap, .slice tao tl tcap, .int .i64 n] 29)).alloc (.cells #[.int .i64 u, .int .i64 a, .int .i64 b, .int .i64 c] 55))
 have HB1 : Hid (Below w.heap.size w w1) := by unfold Hid; rw [hw1]; exact (below_alloc1 _ _).trans ((below_alloc1 _ _).mono (by simp))
 have HS1 : Hid (w1.heap.size = w.heap.size + 2) := by unfold Hid; rw [hw1]; simp
 have HX : Hid (∀ W, Below w1.heap.size w1 W → (W.cell? ⟨w.heap.size, 0, none⟩ = some (.int .i64 1) ∧ W.cell? ⟨w.heap.size, 1, none⟩ = some (.slice sao sl scap) ∧ W.cell? ⟨w.heap.size, 2, none⟩ = some (.slice tao tl tcap) ∧ W.cell? ⟨w.heap.size, 3, none⟩ = some (.int .i64 n)) ∧ (W.cell? ⟨w.heap.size + 1, 0, none⟩ = some (.int .i64 u) ∧ W.cell? ⟨w.heap.size + 1, 1, none⟩ = some (.int .i64 a) ∧ W.cell? ⟨w.heap.size + 1, 2, none⟩ = some (.int .i64 b) ∧ W.cell? ⟨w.heap.size + 1, 3, none⟩ = some (.int .i64 c))) := fun W hc => by
  have l0 : w.heap.size < w1.heap.size := by have := HS1.out; omega
  have l1 : w.heap.size + 1 < w1.heap.size := by have := HS1.out; omega
  have e0 : ∀ j, W.cell? ⟨w.heap.size, j, none⟩ = w1.cell? ⟨w.heap.size, j, none⟩ := fun j => hc.cell (show (⟨w.heap.size, j, none⟩ : Addr).block < _ from l0)
  have e1 : ∀ j, W.cell? ⟨w.heap.size + 1, j, none⟩ = w1.cell? ⟨w.heap.size + 1, j, none⟩ := fun j => hc.cell (show (⟨w.heap.size + 1, j, none⟩ : Addr).block < _ from l1)
  simp only [e0, e1]
  rw [hw1]
  have q : w.heap.size + 1 = (w.alloc (.cells #[.int .i64 1, .slice sao sl scap, .slice tao tl tcap, .int .i64 n] 29)).heap.size := by simp
  have r : ∀ o j, ((w.alloc (.cells #[.int .i64 1, .slice sao sl scap, .slice tao tl tcap, .int .i64 n] 29)).alloc o).cell? ⟨w.heap.size, j, none⟩ = (w.alloc (.cells #[.int .i64 1, .slice sao sl scap, .slice tao tl tcap, .int .i64 n] 29)).cell? ⟨w.heap.size, j, none⟩ := fun o j => World.cell?_alloc_lt _ _ ⟨w.heap.size, j, none⟩ (by simp)
  simp only [r]
  rw [q]
  simp
 have HV : Hid (∀ W, Below w1.heap.size w1 W → _) := fun W hW => hS W (HB1.out.trans (hW.mono HB1.out.size))
 have HV2 : Hid (∀ W, Below w1.heap.size w1 W → _) := fun W hW => hT W (HB1.out.trans (hW.mono HB1.out.size))
 have HZy := hide hZy
 have HD := hide hD
 clear hT hZy hD
 have HZ := hide hZ
 clear hS hZ
 have HB : Hid (Below w1.heap.size w1 w1) := Below.refl _ _
 obtain ⟨⟨x0, x1, x2, x3⟩, ⟨y0, y1, y2, y3⟩⟩ := HX.out w1 HB.out
 rw [hw1] at x0 x1 x2 x3 y0 y1 y2 y3
 go_enter Tryz.func147, Tryz.ntmps147
 go_wp2_with fail
 rw [← hw1]
 clear hw1 x0 x1 x2 x3 y0 y1 y2 y3
 go_at_call 170
 refine (HV.out _ HB.out).mono ?_
 rintro e w2 ⟨rfl, hb⟩
 have HB := hide (HB.out.trans (hb.mono HB.out.size))
 clear hb
 obtain ⟨⟨x0, x1, x2, x3⟩, ⟨y0, y1, y2, y3⟩⟩ := HX.out w2 HB.out
 go_wp2_with fail
 go_at_call 171
 refine (HZ.out _).mono ?_
 rintro e w' ⟨rfl, rfl⟩
 go_wp2_with fail
 go_at_call 170
 refine (HV2.out _ HB.out).mono ?_
 rintro e w3 ⟨rfl, hb⟩
 have HB := hide (HB.out.trans (hb.mono HB.out.size))
 clear hb
 clear x0 x1 x2 x3 y0 y1 y2 y3
 obtain ⟨⟨x0, x1, x2, x3⟩, ⟨y0, y1, y2, y3⟩⟩ := HX.out w3 HB.out
 go_wp2_with fail
 go_at_call 172
 refine (HD.out _).mono ?_
 rintro e w' ⟨rfl, rfl⟩
 go_wp2
 go_ret
 refine ⟨?_, HB1.out.trans (HB.out.mono HB1.out.size)⟩
 first | rfl | exact back_b (by simp) | (refine back_b ?_; exact (beq_eq_decide _ _)) | simp
set_option linter.unusedVariables false in
set_option maxHeartbeats 4000000 in
theorem refHolds_2 (n : Int) (sao tao : Option Addr) (sl scap tl tcap : Nat) (u a b c x y z zy : Int) (n0 : -20 ≤ n) (n1 : n ≤ 20) (hz : 0 ≤ z ∧ z ≤ 6) (hzy : 0 ≤ zy ∧ zy ≤ 6) (w : World)
    (hS : ∀ W, Below w.heap.size w W → Calls Tryz.prog 170 #[.slice sao sl scap, .agg #[.int .i64 u, .int .i64 a, .int .i64 b, .int .i64 c]] W (Bk W (.int .i64 x)))
    (hZ : ∀ W, Calls Tryz.prog 171 #[.int .i64 x] W (Sk W (.int .i64 z)))
    (hT : ∀ W, Below w.heap.size w W → Calls Tryz.prog 170 #[.slice tao tl tcap, .agg #[.int .i64 u, .int .i64 a, .int .i64 b, .int .i64 c]] W (Bk W (.int .i64 y)))
    (hZy : ∀ W, Calls Tryz.prog 171 #[.int .i64 y] W (Sk W (.int .i64 zy)))
    (hD : ∀ W, Calls Tryz.prog 172 #[.int .i64 7, .int .i64 u, .int .i64 x, .int .i64 y] W (Sk W (.int .i64 (lessN x y)))) :
    Calls Tryz.prog 147 #[.agg #[.int .i64 2, .slice sao sl scap, .slice tao tl tcap, .int .i64 n], .agg #[.int .i64 u, .int .i64 a, .int .i64 b, .int .i64 c]] w (Bk w (.bool (decide (x = y)))) := by
 obtain ⟨w1, hw1⟩ := nm ((w.alloc (.cells #[.int .i64 2, .slice sao sl scap, .slice tao tl tcap, .int .i64 n] 29)).alloc (.cells #[.int .i64 u, .int .i64 a, .int .i64 b, .int .i64 c] 55))
 have HB1 : Hid (Below w.heap.size w w1) := by unfold Hid; rw [hw1]; exact (below_alloc1 _ _).trans ((below_alloc1 _ _).mono (by simp))
 have HS1 : Hid (w1.heap.size = w.heap.size + 2) := by unfold Hid; rw [hw1]; simp
 have HX : Hid (∀ W, Below w1.heap.size w1 W → (W.cell? ⟨w.heap.size, 0, none⟩ = some (.int .i64 2) ∧ W.cell? ⟨w.heap.size, 1, none⟩ = some (.slice sao sl scap) ∧ W.cell? ⟨w.heap.size, 2, none⟩ = some (.slice tao tl tcap) ∧ W.cell? ⟨w.heap.size, 3, none⟩ = some (.int .i64 n)) ∧ (W.cell? ⟨w.heap.size + 1, 0, none⟩ = some (.int .i64 u) ∧ W.cell? ⟨w.heap.size + 1, 1, none⟩ = some (.int .i64 a) ∧ W.cell? ⟨w.heap.size + 1, 2, none⟩ = some (.int .i64 b) ∧ W.cell? ⟨w.heap.size + 1, 3, none⟩ = some (.int .i64 c))) := fun W hc => by
  have l0 : w.heap.size < w1.heap.size := by have := HS1.out; omega
  have l1 : w.heap.size + 1 < w1.heap.size := by have := HS1.out; omega
  have e0 : ∀ j, W.cell? ⟨w.heap.size, j, none⟩ = w1.cell? ⟨w.heap.size, j, none⟩ := fun j => hc.cell (show (⟨w.heap.size, j, none⟩ : Addr).block < _ from l0)
  have e1 : ∀ j, W.cell? ⟨w.heap.size + 1, j, none⟩ = w1.cell? ⟨w.heap.size + 1, j, none⟩ := fun j => hc.cell (show (⟨w.heap.size + 1, j, none⟩ : Addr).block < _ from l1)
  simp only [e0, e1]
  rw [hw1]
  have q : w.heap.size + 1 = (w.alloc (.cells #[.int .i64 2, .slice sao sl scap, .slice tao tl tcap, .int .i64 n] 29)).heap.size := by simp
  have r : ∀ o j, ((w.alloc (.cells #[.int .i64 2, .slice sao sl scap, .slice tao tl tcap, .int .i64 n] 29)).alloc o).cell? ⟨w.heap.size, j, none⟩ = (w.alloc (.cells #[.int .i64 2, .slice sao sl scap, .slice tao tl tcap, .int .i64 n] 29)).cell? ⟨w.heap.size, j, none⟩ := fun o j => World.cell?_alloc_lt _ _ ⟨w.heap.size, j, none⟩ (by simp)
  simp only [r]
  rw [q]
  simp
 have HV : Hid (∀ W, Below w1.heap.size w1 W → _) := fun W hW => hS W (HB1.out.trans (hW.mono HB1.out.size))
 have HV2 : Hid (∀ W, Below w1.heap.size w1 W → _) := fun W hW => hT W (HB1.out.trans (hW.mono HB1.out.size))
 have HZy := hide hZy
 have HD := hide hD
 clear hT hZy hD
 have HZ := hide hZ
 clear hS hZ
 have HB : Hid (Below w1.heap.size w1 w1) := Below.refl _ _
 obtain ⟨⟨x0, x1, x2, x3⟩, ⟨y0, y1, y2, y3⟩⟩ := HX.out w1 HB.out
 rw [hw1] at x0 x1 x2 x3 y0 y1 y2 y3
 go_enter Tryz.func147, Tryz.ntmps147
 go_wp2_with fail
 rw [← hw1]
 clear hw1 x0 x1 x2 x3 y0 y1 y2 y3
 go_at_call 170
 refine (HV.out _ HB.out).mono ?_
 rintro e w2 ⟨rfl, hb⟩
 have HB := hide (HB.out.trans (hb.mono HB.out.size))
 clear hb
 obtain ⟨⟨x0, x1, x2, x3⟩, ⟨y0, y1, y2, y3⟩⟩ := HX.out w2 HB.out
 go_wp2_with fail
 go_at_call 171
 refine (HZ.out _).mono ?_
 rintro e w' ⟨rfl, rfl⟩
 go_wp2_with fail
 go_at_call 170
 refine (HV2.out _ HB.out).mono ?_
 rintro e w3 ⟨rfl, hb⟩
 have HB := hide (HB.out.trans (hb.mono HB.out.size))
 clear hb
 clear x0 x1 x2 x3 y0 y1 y2 y3
 obtain ⟨⟨x0, x1, x2, x3⟩, ⟨y0, y1, y2, y3⟩⟩ := HX.out w3 HB.out
 go_wp2
 go_ret
 refine ⟨?_, HB1.out.trans (HB.out.mono HB1.out.size)⟩
 first | rfl | exact back_b (by simp) | (refine back_b ?_; exact (beq_eq_decide _ _)) | simp
set_option linter.unusedVariables false in
set_option maxHeartbeats 4000000 in
theorem refHolds_3 (n : Int) (sao tao : Option Addr) (sl scap tl tcap : Nat) (u a b c x y z zy : Int) (n0 : -20 ≤ n) (n1 : n ≤ 20) (hz : 0 ≤ z ∧ z ≤ 6) (hzy : 0 ≤ zy ∧ zy ≤ 6) (w : World)
    (hS : ∀ W, Below w.heap.size w W → Calls Tryz.prog 170 #[.slice sao sl scap, .agg #[.int .i64 u, .int .i64 a, .int .i64 b, .int .i64 c]] W (Bk W (.int .i64 x)))
    (hZ : ∀ W, Calls Tryz.prog 171 #[.int .i64 x] W (Sk W (.int .i64 z))) :
    Calls Tryz.prog 147 #[.agg #[.int .i64 3, .slice sao sl scap, .slice tao tl tcap, .int .i64 n], .agg #[.int .i64 u, .int .i64 a, .int .i64 b, .int .i64 c]] w (Bk w (.bool (decide (n ≤ z)))) := by
 obtain ⟨w1, hw1⟩ := nm ((w.alloc (.cells #[.int .i64 3, .slice sao sl scap, .slice tao tl tcap, .int .i64 n] 29)).alloc (.cells #[.int .i64 u, .int .i64 a, .int .i64 b, .int .i64 c] 55))
 have HB1 : Hid (Below w.heap.size w w1) := by unfold Hid; rw [hw1]; exact (below_alloc1 _ _).trans ((below_alloc1 _ _).mono (by simp))
 have HS1 : Hid (w1.heap.size = w.heap.size + 2) := by unfold Hid; rw [hw1]; simp
 have HX : Hid (∀ W, Below w1.heap.size w1 W → (W.cell? ⟨w.heap.size, 0, none⟩ = some (.int .i64 3) ∧ W.cell? ⟨w.heap.size, 1, none⟩ = some (.slice sao sl scap) ∧ W.cell? ⟨w.heap.size, 2, none⟩ = some (.slice tao tl tcap) ∧ W.cell? ⟨w.heap.size, 3, none⟩ = some (.int .i64 n)) ∧ (W.cell? ⟨w.heap.size + 1, 0, none⟩ = some (.int .i64 u) ∧ W.cell? ⟨w.heap.size + 1, 1, none⟩ = some (.int .i64 a) ∧ W.cell? ⟨w.heap.size + 1, 2, none⟩ = some (.int .i64 b) ∧ W.cell? ⟨w.heap.size + 1, 3, none⟩ = some (.int .i64 c))) := fun W hc => by
  have l0 : w.heap.size < w1.heap.size := by have := HS1.out; omega
  have l1 : w.heap.size + 1 < w1.heap.size := by have := HS1.out; omega
  have e0 : ∀ j, W.cell? ⟨w.heap.size, j, none⟩ = w1.cell? ⟨w.heap.size, j, none⟩ := fun j => hc.cell (show (⟨w.heap.size, j, none⟩ : Addr).block < _ from l0)
  have e1 : ∀ j, W.cell? ⟨w.heap.size + 1, j, none⟩ = w1.cell? ⟨w.heap.size + 1, j, none⟩ := fun j => hc.cell (show (⟨w.heap.size + 1, j, none⟩ : Addr).block < _ from l1)
  simp only [e0, e1]
  rw [hw1]
  have q : w.heap.size + 1 = (w.alloc (.cells #[.int .i64 3, .slice sao sl scap, .slice tao tl tcap, .int .i64 n] 29)).heap.size := by simp
  have r : ∀ o j, ((w.alloc (.cells #[.int .i64 3, .slice sao sl scap, .slice tao tl tcap, .int .i64 n] 29)).alloc o).cell? ⟨w.heap.size, j, none⟩ = (w.alloc (.cells #[.int .i64 3, .slice sao sl scap, .slice tao tl tcap, .int .i64 n] 29)).cell? ⟨w.heap.size, j, none⟩ := fun o j => World.cell?_alloc_lt _ _ ⟨w.heap.size, j, none⟩ (by simp)
  simp only [r]
  rw [q]
  simp
 have HV : Hid (∀ W, Below w1.heap.size w1 W → _) := fun W hW => hS W (HB1.out.trans (hW.mono HB1.out.size))
 have HZ := hide hZ
 clear hS hZ
 have HB : Hid (Below w1.heap.size w1 w1) := Below.refl _ _
 obtain ⟨⟨x0, x1, x2, x3⟩, ⟨y0, y1, y2, y3⟩⟩ := HX.out w1 HB.out
 rw [hw1] at x0 x1 x2 x3 y0 y1 y2 y3
 go_enter Tryz.func147, Tryz.ntmps147
 go_wp2_with fail
 rw [← hw1]
 clear hw1 x0 x1 x2 x3 y0 y1 y2 y3
 go_at_call 170
 refine (HV.out _ HB.out).mono ?_
 rintro e w2 ⟨rfl, hb⟩
 have HB := hide (HB.out.trans (hb.mono HB.out.size))
 clear hb
 obtain ⟨⟨x0, x1, x2, x3⟩, ⟨y0, y1, y2, y3⟩⟩ := HX.out w2 HB.out
 go_wp2_with fail
 go_at_call 171
 refine (HZ.out _).mono ?_
 rintro e w' ⟨rfl, rfl⟩
 go_wp2
 go_ret
 refine ⟨?_, HB1.out.trans (HB.out.mono HB1.out.size)⟩
 first | rfl | exact back_b (by simp) | (refine back_b ?_; exact (beq_eq_decide _ _)) | simp
set_option linter.unusedVariables false in
set_option maxHeartbeats 4000000 in
theorem refHolds_4 (n : Int) (sao tao : Option Addr) (sl scap tl tcap : Nat) (u a b c x y z zy : Int) (n0 : -20 ≤ n) (n1 : n ≤ 20) (hz : 0 ≤ z ∧ z ≤ 6) (hzy : 0 ≤ zy ∧ zy ≤ 6) (w : World)
    (hS : ∀ W, Below w.heap.size w W → Calls Tryz.prog 170 #[.slice sao sl scap, .agg #[.int .i64 u, .int .i64 a, .int .i64 b, .int .i64 c]] W (Bk W (.int .i64 x)))
    (hZ : ∀ W, Calls Tryz.prog 171 #[.int .i64 x] W (Sk W (.int .i64 z))) :
    Calls Tryz.prog 147 #[.agg #[.int .i64 4, .slice sao sl scap, .slice tao tl tcap, .int .i64 n], .agg #[.int .i64 u, .int .i64 a, .int .i64 b, .int .i64 c]] w (Bk w (.bool (decide (z ≤ n)))) := by
 obtain ⟨w1, hw1⟩ := nm ((w.alloc (.cells #[.int .i64 4, .slice sao sl scap, .slice tao tl tcap, .int .i64 n] 29)).alloc (.cells #[.int .i64 u, .int .i64 a, .int .i64 b, .int .i64 c] 55))
 have HB1 : Hid (Below w.heap.size w w1) := by unfold Hid; rw [hw1]; exact (below_alloc1 _ _).trans ((below_alloc1 _ _).mono (by simp))
 have HS1 : Hid (w1.heap.size = w.heap.size + 2) := by unfold Hid; rw [hw1]; simp
 have HX : Hid (∀ W, Below w1.heap.size w1 W → (W.cell? ⟨w.heap.size, 0, none⟩ = some (.int .i64 4) ∧ W.cell? ⟨w.heap.size, 1, none⟩ = some (.slice sao sl scap) ∧ W.cell? ⟨w.heap.size, 2, none⟩ = some (.slice tao tl tcap) ∧ W.cell? ⟨w.heap.size, 3, none⟩ = some (.int .i64 n)) ∧ (W.cell? ⟨w.heap.size + 1, 0, none⟩ = some (.int .i64 u) ∧ W.cell? ⟨w.heap.size + 1, 1, none⟩ = some (.int .i64 a) ∧ W.cell? ⟨w.heap.size + 1, 2, none⟩ = some (.int .i64 b) ∧ W.cell? ⟨w.heap.size + 1, 3, none⟩ = some (.int .i64 c))) := fun W hc => by
  have l0 : w.heap.size < w1.heap.size := by have := HS1.out; omega
  have l1 : w.heap.size + 1 < w1.heap.size := by have := HS1.out; omega
  have e0 : ∀ j, W.cell? ⟨w.heap.size, j, none⟩ = w1.cell? ⟨w.heap.size, j, none⟩ := fun j => hc.cell (show (⟨w.heap.size, j, none⟩ : Addr).block < _ from l0)
  have e1 : ∀ j, W.cell? ⟨w.heap.size + 1, j, none⟩ = w1.cell? ⟨w.heap.size + 1, j, none⟩ := fun j => hc.cell (show (⟨w.heap.size + 1, j, none⟩ : Addr).block < _ from l1)
  simp only [e0, e1]
  rw [hw1]
  have q : w.heap.size + 1 = (w.alloc (.cells #[.int .i64 4, .slice sao sl scap, .slice tao tl tcap, .int .i64 n] 29)).heap.size := by simp
  have r : ∀ o j, ((w.alloc (.cells #[.int .i64 4, .slice sao sl scap, .slice tao tl tcap, .int .i64 n] 29)).alloc o).cell? ⟨w.heap.size, j, none⟩ = (w.alloc (.cells #[.int .i64 4, .slice sao sl scap, .slice tao tl tcap, .int .i64 n] 29)).cell? ⟨w.heap.size, j, none⟩ := fun o j => World.cell?_alloc_lt _ _ ⟨w.heap.size, j, none⟩ (by simp)
  simp only [r]
  rw [q]
  simp
 have HV : Hid (∀ W, Below w1.heap.size w1 W → _) := fun W hW => hS W (HB1.out.trans (hW.mono HB1.out.size))
 have HZ := hide hZ
 clear hS hZ
 have HB : Hid (Below w1.heap.size w1 w1) := Below.refl _ _
 obtain ⟨⟨x0, x1, x2, x3⟩, ⟨y0, y1, y2, y3⟩⟩ := HX.out w1 HB.out
 rw [hw1] at x0 x1 x2 x3 y0 y1 y2 y3
 go_enter Tryz.func147, Tryz.ntmps147
 go_wp2_with fail
 rw [← hw1]
 clear hw1 x0 x1 x2 x3 y0 y1 y2 y3
 go_at_call 170
 refine (HV.out _ HB.out).mono ?_
 rintro e w2 ⟨rfl, hb⟩
 have HB := hide (HB.out.trans (hb.mono HB.out.size))
 clear hb
 obtain ⟨⟨x0, x1, x2, x3⟩, ⟨y0, y1, y2, y3⟩⟩ := HX.out w2 HB.out
 go_wp2_with fail
 go_at_call 171
 refine (HZ.out _).mono ?_
 rintro e w' ⟨rfl, rfl⟩
 go_wp2
 go_ret
 refine ⟨?_, HB1.out.trans (HB.out.mono HB1.out.size)⟩
 first | rfl | exact back_b (by simp) | (refine back_b ?_; exact (beq_eq_decide _ _)) | simp
set_option linter.unusedVariables false in
set_option maxHeartbeats 4000000 in
theorem refHolds_5 (n : Int) (sao tao : Option Addr) (sl scap tl tcap : Nat) (u a b c x y z zy : Int) (n0 : -20 ≤ n) (n1 : n ≤ 20) (hz : 0 ≤ z ∧ z ≤ 6) (hzy : 0 ≤ zy ∧ zy ≤ 6) (w : World)
    (hS : ∀ W, Below w.heap.size w W → Calls Tryz.prog 170 #[.slice sao sl scap, .agg #[.int .i64 u, .int .i64 a, .int .i64 b, .int .i64 c]] W (Bk W (.int .i64 x)))
    (hZ : ∀ W, Calls Tryz.prog 171 #[.int .i64 x] W (Sk W (.int .i64 z)))
    (hT : ∀ W, Below w.heap.size w W → Calls Tryz.prog 170 #[.slice tao tl tcap, .agg #[.int .i64 u, .int .i64 a, .int .i64 b, .int .i64 c]] W (Bk W (.int .i64 y)))
    (hZy : ∀ W, Calls Tryz.prog 171 #[.int .i64 y] W (Sk W (.int .i64 zy)))
    (hD : ∀ W, Calls Tryz.prog 172 #[.int .i64 7, .int .i64 u, .int .i64 x, .int .i64 y] W (Sk W (.int .i64 (lessN x y)))) :
    Calls Tryz.prog 147 #[.agg #[.int .i64 5, .slice sao sl scap, .slice tao tl tcap, .int .i64 n], .agg #[.int .i64 u, .int .i64 a, .int .i64 b, .int .i64 c]] w (Bk w (.bool (decide (z ≤ zy + n)))) := by
 obtain ⟨w1, hw1⟩ := nm ((w.alloc (.cells #[.int .i64 5, .slice sao sl scap, .slice tao tl tcap, .int .i64 n] 29)).alloc (.cells #[.int .i64 u, .int .i64 a, .int .i64 b, .int .i64 c] 55))
 have HB1 : Hid (Below w.heap.size w w1) := by unfold Hid; rw [hw1]; exact (below_alloc1 _ _).trans ((below_alloc1 _ _).mono (by simp))
 have HS1 : Hid (w1.heap.size = w.heap.size + 2) := by unfold Hid; rw [hw1]; simp
 have HX : Hid (∀ W, Below w1.heap.size w1 W → (W.cell? ⟨w.heap.size, 0, none⟩ = some (.int .i64 5) ∧ W.cell? ⟨w.heap.size, 1, none⟩ = some (.slice sao sl scap) ∧ W.cell? ⟨w.heap.size, 2, none⟩ = some (.slice tao tl tcap) ∧ W.cell? ⟨w.heap.size, 3, none⟩ = some (.int .i64 n)) ∧ (W.cell? ⟨w.heap.size + 1, 0, none⟩ = some (.int .i64 u) ∧ W.cell? ⟨w.heap.size + 1, 1, none⟩ = some (.int .i64 a) ∧ W.cell? ⟨w.heap.size + 1, 2, none⟩ = some (.int .i64 b) ∧ W.cell? ⟨w.heap.size + 1, 3, none⟩ = some (.int .i64 c))) := fun W hc => by
  have l0 : w.heap.size < w1.heap.size := by have := HS1.out; omega
  have l1 : w.heap.size + 1 < w1.heap.size := by have := HS1.out; omega
  have e0 : ∀ j, W.cell? ⟨w.heap.size, j, none⟩ = w1.cell? ⟨w.heap.size, j, none⟩ := fun j => hc.cell (show (⟨w.heap.size, j, none⟩ : Addr).block < _ from l0)
  have e1 : ∀ j, W.cell? ⟨w.heap.size + 1, j, none⟩ = w1.cell? ⟨w.heap.size + 1, j, none⟩ := fun j => hc.cell (show (⟨w.heap.size + 1, j, none⟩ : Addr).block < _ from l1)
  simp only [e0, e1]
  rw [hw1]
  have q : w.heap.size + 1 = (w.alloc (.cells #[.int .i64 5, .slice sao sl scap, .slice tao tl tcap, .int .i64 n] 29)).heap.size := by simp
  have r : ∀ o j, ((w.alloc (.cells #[.int .i64 5, .slice sao sl scap, .slice tao tl tcap, .int .i64 n] 29)).alloc o).cell? ⟨w.heap.size, j, none⟩ = (w.alloc (.cells #[.int .i64 5, .slice sao sl scap, .slice tao tl tcap, .int .i64 n] 29)).cell? ⟨w.heap.size, j, none⟩ := fun o j => World.cell?_alloc_lt _ _ ⟨w.heap.size, j, none⟩ (by simp)
  simp only [r]
  rw [q]
  simp
 have HV : Hid (∀ W, Below w1.heap.size w1 W → _) := fun W hW => hS W (HB1.out.trans (hW.mono HB1.out.size))
 have HV2 : Hid (∀ W, Below w1.heap.size w1 W → _) := fun W hW => hT W (HB1.out.trans (hW.mono HB1.out.size))
 have HZy := hide hZy
 have HD := hide hD
 clear hT hZy hD
 have HZ := hide hZ
 clear hS hZ
 have HB : Hid (Below w1.heap.size w1 w1) := Below.refl _ _
 obtain ⟨⟨x0, x1, x2, x3⟩, ⟨y0, y1, y2, y3⟩⟩ := HX.out w1 HB.out
 rw [hw1] at x0 x1 x2 x3 y0 y1 y2 y3
 go_enter Tryz.func147, Tryz.ntmps147
 go_wp2_with fail
 rw [← hw1]
 clear hw1 x0 x1 x2 x3 y0 y1 y2 y3
 go_at_call 170
 refine (HV.out _ HB.out).mono ?_
 rintro e w2 ⟨rfl, hb⟩
 have HB := hide (HB.out.trans (hb.mono HB.out.size))
 clear hb
 obtain ⟨⟨x0, x1, x2, x3⟩, ⟨y0, y1, y2, y3⟩⟩ := HX.out w2 HB.out
 go_wp2_with fail
 go_at_call 171
 refine (HZ.out _).mono ?_
 rintro e w' ⟨rfl, rfl⟩
 go_wp2_with fail
 go_at_call 170
 refine (HV2.out _ HB.out).mono ?_
 rintro e w3 ⟨rfl, hb⟩
 have HB := hide (HB.out.trans (hb.mono HB.out.size))
 clear hb
 clear x0 x1 x2 x3 y0 y1 y2 y3
 obtain ⟨⟨x0, x1, x2, x3⟩, ⟨y0, y1, y2, y3⟩⟩ := HX.out w3 HB.out
 go_wp2_with fail
 go_quiet (first | (go_at_call 171; exact Calls.quiet_of_same ((HZy.out _).mono fun _ _ h => ⟨h.1, h.2.symm⟩)))
 go_wp2
 go_ret
 refine ⟨?_, HB1.out.trans ((HB.out.trans ((below_drewNs _ _).mono HB.out.size)).mono HB1.out.size)⟩
 first | rfl | exact back_b (by simp) | (refine back_b ?_; exact (beq_eq_decide _ _)) | simp
theorem refHolds_any (k n : Int) (vs vt : Value) (s t : List Int) (u a b c : Int) (hf : atomFault k s t n = 0) (hok : (Wd.mk u a b c).ok = true) (w : World) (hS : Reads w vs s) (hT : Reads w vt t) :
    Calls Tryz.prog 147 #[.agg #[.int .i64 k, vs, vt, .int .i64 n], .agg #[.int .i64 u, .int .i64 a, .int .i64 b, .int .i64 c]] w (Bk w (.bool ((Wd.mk u a b c).holds k s t n))) := by
 obtain ⟨hk, hs, ht, n0, n1⟩ := atomFault_zero.1 hf
 have hm : mostN k ≤ 20 := by unfold mostN; split <;> omega
 have h1 := fun (W : World) (hW : Below w.heap.size w W) => refValue_reads s hs vs u a b c hok W (hS.below hW)
 obtain ⟨_, _, x0, x1⟩ := okB_lt (ok_val hok s)
 have hz := fun (W : World) => refSize_any ((Wd.mk u a b c).val s) x0 x1 W
 have h2 : secondB k = true → (∀ W, Below w.heap.size w W → Calls Tryz.prog 170 #[vt, .agg #[.int .i64 u, .int .i64 a, .int .i64 b, .int .i64 c]] W (Bk W (.int .i64 ((Wd.mk u a b c).val t)))) ∧ (∀ W, Calls Tryz.prog 171 #[.int .i64 ((Wd.mk u a b c).val t)] W (Sk W (.int .i64 (pcN ((Wd.mk u a b c).val t))))) ∧ (∀ W, Calls Tryz.prog 172 #[.int .i64 7, .int .i64 u, .int .i64 ((Wd.mk u a b c).val s), .int .i64 ((Wd.mk u a b c).val t)] W (Sk W (.int .i64 (lessN ((Wd.mk u a b c).val s) ((Wd.mk u a b c).val t))))) := fun h => by
  have h0 := second_reads ht h
  obtain ⟨_, _, y0, y1⟩ := okB_lt (ok_val hok t)
  exact ⟨fun W hW => refValue_reads t h0 vt u a b c hok W (hT.below hW), fun W => refSize_any _ y0 y1 W, fun W => refDo_any 7 u _ _ (by decide) (by decide) (ok_val hok s) (ok_val hok t) W⟩
 obtain ⟨sao, scap, rfl, _⟩ := hS.slice
 obtain ⟨tao, tcap, rfl, _⟩ := hT.slice
 rcases five hk.1 hk.2 with rfl | rfl | rfl | rfl | rfl
 ·obtain ⟨g1, g2, g3⟩ := h2 (by decide)
  exact refHolds_1 n sao tao _ scap _ tcap u a b c _ _ _ _ (by omega) (by omega) (pcN_le _) (pcN_le _) w h1 hz g1 g2 g3
 ·obtain ⟨g1, g2, g3⟩ := h2 (by decide)
  exact refHolds_2 n sao tao _ scap _ tcap u a b c _ _ _ _ (by omega) (by omega) (pcN_le _) (pcN_le _) w h1 hz g1 g2 g3
 ·exact refHolds_3 n sao tao _ scap _ tcap u a b c _ 0 _ 0 (by omega) (by omega) (pcN_le _) (by omega) w h1 hz
 ·exact refHolds_4 n sao tao _ scap _ tcap u a b c _ 0 _ 0 (by omega) (by omega) (pcN_le _) (by omega) w h1 hz
 ·obtain ⟨g1, g2, g3⟩ := h2 (by decide)
  exact refHolds_5 n sao tao _ scap _ tcap u a b c _ _ _ _ (by omega) (by omega) (pcN_le _) (pcN_le _) w h1 hz g1 g2 g3
end Go.Proofs.YtjmeakkmfeoigaaGreatDoor
namespace Go.Proofs.YtjmeakkmfeoigaaGreatDoor
open Go.ChangeShapes Go.WideShapes Go.ChangeAt Go.RowKit
set_option maxRecDepth 100000
set_option maxHeartbeats 4000000 in
theorem is_leaf (s : Int) (h0 : 0 ≤ s) (x : Bool) (at0 : At) (ats : List At) (ao co : Option Addr) (m n acap ccap : Nat) (hm : m = ats.length) (hsm : s < m) (hm6 : m ≤ 6) (hat : ats[s.toNat]? = some at0) (k B off cap : Nat) (u a b c : Int) (w : World) (hcap : k + 1 ≤ cap) (hk : k ≤ 20) (hB : B < w.heap.size) (hc : w.cell? ⟨B, off + k, none⟩ = some (.int .i64 s)) (hA : ReadsA w (.slice ao m acap) ats)
    (hH : ∀ W vs vt, Reads W vs at0.s → Reads W vt at0.t → Calls Tryz.prog 147 #[.agg #[.int .i64 at0.k, vs, vt, .int .i64 at0.n], .agg #[.int .i64 u, .int .i64 a, .int .i64 b, .int .i64 c]] W (Bk W (.bool x))) :
    Calls Tryz.prog 114 #[.agg #[.slice ao m acap, .slice co n ccap], .slice (some ⟨B, off, none⟩) (k + 1) cap, .agg #[.int .i64 u, .int .i64 a, .int .i64 b, .int .i64 c]] w (Bk w (.tuple #[.bool x, .slice (some ⟨B, off, none⟩) k cap])) := by
 obtain ⟨w1, hw1⟩ := nm ((w.alloc (.cells #[.slice ao m acap, .slice co n ccap] 39)).alloc (.cells #[.int .i64 u, .int .i64 a, .int .i64 b, .int .i64 c] 55))
 have HB1 : Hid (Below w.heap.size w w1) := by unfold Hid; rw [hw1]; exact (below_alloc1 _ _).trans ((below_alloc1 _ _).mono (by simp))
 have d0 : w1.cell? ⟨B, off + k, none⟩ = some (.int .i64 s) := (HB1.out.cell hB).trans hc
 obtain ⟨sn, rfl⟩ := Int.eq_ofNat_of_zero_le h0
 have hsn : sn < m := by omega
 rcases hA.below HB1.out with ⟨_, _, hv, hn⟩ | ⟨b1, off1, cap1, hv, hb, _, _, hall⟩
 ·rw [hn] at hm; simp at hm; omega
 obtain rfl : ao = some ⟨b1, off1, none⟩ := by cases hv; rfl
 obtain ⟨vs, vt, c0, c1, c2, c3, r1, r2⟩ := hall sn at0 (by simpa using hat)
 have HH : Hid (∀ W, Below w1.heap.size w1 W → Calls Tryz.prog 147 #[.agg #[.int .i64 at0.k, vs, vt, .int .i64 at0.n], .agg #[.int .i64 u, .int .i64 a, .int .i64 b, .int .i64 c]] W (Bk W (.bool x))) := fun W h => hH W vs vt (r1.below h) (r2.below h)
 obtain ⟨sao, scap, rfl, _⟩ := r1.slice
 obtain ⟨tao, tcap, rfl, _⟩ := r2.slice
 clear hv hall hA hH r1 r2 hc hat hb hm
 have hlt10 : (sn : Int) < 10 := by omega
 have hle : (k : Int) ≤ (cap : Int) := by omega
 have hsi : (sn : Int) < (m : Int) := by omega
 have e0 : w1.cell? ⟨w.heap.size, 0, none⟩ = some (.slice (some ⟨b1, off1, none⟩) m acap) := by
  rw [hw1, World.cell?_alloc_lt _ _ ⟨w.heap.size, 0, none⟩ (by simp)]; simp
 obtain ⟨e1, e2, e3, e4⟩ : w1.cell? ⟨w.heap.size + 1, 0, none⟩ = some (.int .i64 u) ∧ w1.cell? ⟨w.heap.size + 1, 1, none⟩ = some (.int .i64 a) ∧ w1.cell? ⟨w.heap.size + 1, 2, none⟩ = some (.int .i64 b) ∧ w1.cell? ⟨w.heap.size + 1, 3, none⟩ = some (.int .i64 c) := by
  rw [hw1]
  have q : w.heap.size + 1 = (w.alloc (.cells #[.slice (some ⟨b1, off1, none⟩) m acap, .slice co n ccap] 39)).heap.size := by simp
  rw [q]
  simp
 have d1 := d0
 rw [hw1] at d1
 go_enter Tryz.func114, Tryz.ntmps114
 go_wp2_with fail
 rw [← hw1]
 clear hw1 d1
 go_region_with (go_at_call 147; refine (HH.out _ (by first | exact Below.refl _ _ | exact below_drewNs _ _)).mono ?_; rintro e w2 ⟨rfl, hb⟩)
 all_goals
  go_wp2
  go_ret2
  exact ⟨rfl, HB1.out.trans (Below.mono (Below.trans (by first | exact Below.refl _ _ | exact below_drewNs _ _) (Below.mono hb (by first | exact Nat.le_refl _ | (have := (below_drewNs w1 _).size; assumption)))) HB1.out.size)⟩
set_option maxHeartbeats 4000000 in
theorem is_no (x : Bool) (ao co : Option Addr) (m n acap ccap : Nat) (k p B off cap : Nat) (u a b c : Int) (w : World) (hcap : k + 1 ≤ cap) (hk : k ≤ 20) (hB : B < w.heap.size) (hc : w.cell? ⟨B, off + k, none⟩ = some (.int .i64 12))
    (ih : ∀ W, Below w.heap.size w W → Calls Tryz.prog 114 #[.agg #[.slice ao m acap, .slice co n ccap], .slice (some ⟨B, off, none⟩) k cap, .agg #[.int .i64 u, .int .i64 a, .int .i64 b, .int .i64 c]] W (Bk W (.tuple #[.bool x, .slice (some ⟨B, off, none⟩) p cap]))) :
    Calls Tryz.prog 114 #[.agg #[.slice ao m acap, .slice co n ccap], .slice (some ⟨B, off, none⟩) (k + 1) cap, .agg #[.int .i64 u, .int .i64 a, .int .i64 b, .int .i64 c]] w (Bk w (.tuple #[.bool (!x), .slice (some ⟨B, off, none⟩) p cap])) := by
 obtain ⟨w1, hw1⟩ := nm ((w.alloc (.cells #[.slice ao m acap, .slice co n ccap] 39)).alloc (.cells #[.int .i64 u, .int .i64 a, .int .i64 b, .int .i64 c] 55))
 have HB1 : Hid (Below w.heap.size w w1) := by unfold Hid; rw [hw1]; exact (below_alloc1 _ _).trans ((below_alloc1 _ _).mono (by simp))
 have HS1 : Hid (w1.heap.size = w.heap.size + 2) := by unfold Hid; rw [hw1]; simp
 have HX : Hid (∀ W, Below w1.heap.size w1 W → (W.cell? ⟨w.heap.size, 0, none⟩ = some (.slice ao m acap) ∧ W.cell? ⟨w.heap.size, 1, none⟩ = some (.slice co n ccap)) ∧ (W.cell? ⟨w.heap.size + 1, 0, none⟩ = some (.int .i64 u) ∧ W.cell? ⟨w.heap.size + 1, 1, none⟩ = some (.int .i64 a) ∧ W.cell? ⟨w.heap.size + 1, 2, none⟩ = some (.int .i64 b) ∧ W.cell? ⟨w.heap.size + 1, 3, none⟩ = some (.int .i64 c))) := fun W hW => by
  have l0 : w.heap.size < w1.heap.size := by have := HS1.out; omega
  have l1 : w.heap.size + 1 < w1.heap.size := by have := HS1.out; omega
  have e0 : ∀ j, W.cell? ⟨w.heap.size, j, none⟩ = w1.cell? ⟨w.heap.size, j, none⟩ := fun j => hW.cell (show (⟨w.heap.size, j, none⟩ : Addr).block < _ from l0)
  have e1 : ∀ j, W.cell? ⟨w.heap.size + 1, j, none⟩ = w1.cell? ⟨w.heap.size + 1, j, none⟩ := fun j => hW.cell (show (⟨w.heap.size + 1, j, none⟩ : Addr).block < _ from l1)
  simp only [e0, e1]
  rw [hw1]
  have q : w.heap.size + 1 = (w.alloc (.cells #[.slice ao m acap, .slice co n ccap] 39)).heap.size := by simp
  have r : ∀ o j, ((w.alloc (.cells #[.slice ao m acap, .slice co n ccap] 39)).alloc o).cell? ⟨w.heap.size, j, none⟩ = (w.alloc (.cells #[.slice ao m acap, .slice co n ccap] 39)).cell? ⟨w.heap.size, j, none⟩ := fun o j => World.cell?_alloc_lt _ _ ⟨w.heap.size, j, none⟩ (by simp)
  simp only [r]
  rw [q]
  simp
 have d0 : w1.cell? ⟨B, off + k, none⟩ = some (.int .i64 12) := (HB1.out.cell hB).trans hc
 have HI := hide (ih w1 HB1.out)
 have hle : (k : Int) ≤ (cap : Int) := by omega
 obtain ⟨⟨x0, x1⟩, ⟨y0, y1, y2, y3⟩⟩ := HX.out w1 (Below.refl _ _)
 clear hc hB ih
 rw [hw1] at d0 x0 x1 y0 y1 y2 y3
 go_enter Tryz.func114, Tryz.ntmps114
 go_wp2_with fail
 rw [← hw1]
 clear hw1
 go_at_call 114
 refine HI.out.mono ?_
 rintro e w2 ⟨rfl, hb⟩
 have HB2 := hide (HB1.out.trans (hb.mono HB1.out.size))
 clear hb d0 x0 x1 y0 y1 y2 y3
 go_wp2
 go_ret2
 exact ⟨rfl, HB2.out⟩
set_option maxHeartbeats 4000000 in
theorem is_two (s : Int) (hs : s = 10 ∨ s = 11 ∨ s = 13) (x y : Bool) (ao co : Option Addr) (m n acap ccap : Nat) (k p q B off cap : Nat) (u a b c : Int) (w : World) (hcap : k + 1 ≤ cap) (hk : k ≤ 20) (hB : B < w.heap.size) (hc : w.cell? ⟨B, off + k, none⟩ = some (.int .i64 s))
    (ihy : ∀ W, Below w.heap.size w W → Calls Tryz.prog 114 #[.agg #[.slice ao m acap, .slice co n ccap], .slice (some ⟨B, off, none⟩) k cap, .agg #[.int .i64 u, .int .i64 a, .int .i64 b, .int .i64 c]] W (Bk W (.tuple #[.bool y, .slice (some ⟨B, off, none⟩) q cap])))
    (ihx : ∀ W, Below w.heap.size w W → Calls Tryz.prog 114 #[.agg #[.slice ao m acap, .slice co n ccap], .slice (some ⟨B, off, none⟩) q cap, .agg #[.int .i64 u, .int .i64 a, .int .i64 b, .int .i64 c]] W (Bk W (.tuple #[.bool x, .slice (some ⟨B, off, none⟩) p cap]))) :
    Calls Tryz.prog 114 #[.agg #[.slice ao m acap, .slice co n ccap], .slice (some ⟨B, off, none⟩) (k + 1) cap, .agg #[.int .i64 u, .int .i64 a, .int .i64 b, .int .i64 c]] w (Bk w (.tuple #[.bool (boolF s x y), .slice (some ⟨B, off, none⟩) p cap])) := by
 obtain ⟨w1, hw1⟩ := nm ((w.alloc (.cells #[.slice ao m acap, .slice co n ccap] 39)).alloc (.cells #[.int .i64 u, .int .i64 a, .int .i64 b, .int .i64 c] 55))
 have HB1 : Hid (Below w.heap.size w w1) := by unfold Hid; rw [hw1]; exact (below_alloc1 _ _).trans ((below_alloc1 _ _).mono (by simp))
 have HS1 : Hid (w1.heap.size = w.heap.size + 2) := by unfold Hid; rw [hw1]; simp
 have HX : Hid (∀ W, Below w1.heap.size w1 W → (W.cell? ⟨w.heap.size, 0, none⟩ = some (.slice ao m acap) ∧ W.cell? ⟨w.heap.size, 1, none⟩ = some (.slice co n ccap)) ∧ (W.cell? ⟨w.heap.size + 1, 0, none⟩ = some (.int .i64 u) ∧ W.cell? ⟨w.heap.size + 1, 1, none⟩ = some (.int .i64 a) ∧ W.cell? ⟨w.heap.size + 1, 2, none⟩ = some (.int .i64 b) ∧ W.cell? ⟨w.heap.size + 1, 3, none⟩ = some (.int .i64 c))) := fun W hW => by
  have l0 : w.heap.size < w1.heap.size := by have := HS1.out; omega
  have l1 : w.heap.size + 1 < w1.heap.size := by have := HS1.out; omega
  have e0 : ∀ j, W.cell? ⟨w.heap.size, j, none⟩ = w1.cell? ⟨w.heap.size, j, none⟩ := fun j => hW.cell (show (⟨w.heap.size, j, none⟩ : Addr).block < _ from l0)
  have e1 : ∀ j, W.cell? ⟨w.heap.size + 1, j, none⟩ = w1.cell? ⟨w.heap.size + 1, j, none⟩ := fun j => hW.cell (show (⟨w.heap.size + 1, j, none⟩ : Addr).block < _ from l1)
  simp only [e0, e1]
  rw [hw1]
  have q : w.heap.size + 1 = (w.alloc (.cells #[.slice ao m acap, .slice co n ccap] 39)).heap.size := by simp
  have r : ∀ o j, ((w.alloc (.cells #[.slice ao m acap, .slice co n ccap] 39)).alloc o).cell? ⟨w.heap.size, j, none⟩ = (w.alloc (.cells #[.slice ao m acap, .slice co n ccap] 39)).cell? ⟨w.heap.size, j, none⟩ := fun o j => World.cell?_alloc_lt _ _ ⟨w.heap.size, j, none⟩ (by simp)
  simp only [r]
  rw [q]
  simp
 have d0 : w1.cell? ⟨B, off + k, none⟩ = some (.int .i64 s) := (HB1.out.cell hB).trans hc
 have HI := hide (ihy w1 HB1.out)
 have HJ := hide ihx
 have hle : (k : Int) ≤ (cap : Int) := by omega
 obtain ⟨⟨x0, x1⟩, ⟨y0, y1, y2, y3⟩⟩ := HX.out w1 (Below.refl _ _)
 clear hc hB ihx ihy
 rw [hw1] at d0 x0 x1 y0 y1 y2 y3
 rcases hs with rfl | rfl | rfl
 all_goals
  go_enter Tryz.func114, Tryz.ntmps114
  go_wp2_with fail
  rw [← hw1]
  clear hw1
  go_at_call 114
  refine HI.out.mono ?_
  rintro e w2 ⟨rfl, hb⟩
  have HB2 := hide (HB1.out.trans (hb.mono HB1.out.size))
  clear d0 x0 x1 y0 y1 y2 y3
  obtain ⟨⟨x0, x1⟩, ⟨y0, y1, y2, y3⟩⟩ := HX.out w2 hb
  clear hb
  go_wp2_with fail
  go_at_call 114
  refine (HJ.out _ HB2.out).mono ?_
  rintro e w3 ⟨rfl, hb3⟩
  have HB3 := hide (HB2.out.trans (hb3.mono HB2.out.size))
  clear hb3 x0 x1 y0 y1 y2 y3
  cases x <;> cases y
  all_goals
   go_wp2
   go_ret2
   exact ⟨rfl, HB3.out⟩
end Go.Proofs.YtjmeakkmfeoigaaGreatDoor
namespace Go.Proofs.YtjmeakkmfeoigaaGreatDoor
open Go.ChangeShapes Go.WideShapes Go.ChangeAt Go.RowKit
set_option maxRecDepth 100000
theorem isF_any (ats : List At) (u a b c : Int) (hok : (Wd.mk u a b c).ok = true) (hgood : ∀ x ∈ ats, x.fault = 0) (hm6 : ats.length ≤ 6) (ao co : Option Addr) (n acap ccap B off cap : Nat) (N : Nat) :
    ∀ (q : List Int), isFm ats.length N q → ∀ (pre : List Int) (w : World), (pre ++ q).length ≤ 20 → (pre ++ q).length ≤ cap → Lies w B off (pre ++ q) → ReadsA w (.slice ao ats.length acap) ats →
    Calls Tryz.prog 114 #[.agg #[.slice ao ats.length acap, .slice co n ccap], .slice (some ⟨B, off, none⟩) (pre ++ q).length cap, .agg #[.int .i64 u, .int .i64 a, .int .i64 b, .int .i64 c]] w (Bk w (.tuple #[.bool (valF ((Wd.mk u a b c).heldL ats) q), .slice (some ⟨B, off, none⟩) pre.length cap])) := by
 induction N with
 | zero => intro q h; exact h.elim
 | succ N ih =>
  intro q h pre w h20 hcap hL hA
  rcases h with ⟨s, h0, h4, rfl⟩ | ⟨t, ht, rfl⟩ | ⟨s, x, y, h5, hx, hy, rfl⟩
  ·have e : (pre ++ [s]).length = pre.length + 1 := by simp
   rw [e] at h20 hcap ⊢
   have hlt : s.toNat < ats.length := by omega
   have hat : ats[s.toNat]? = some (ats[s.toNat]'hlt) := List.getElem?_eq_getElem hlt
   have hf : (ats[s.toNat]'hlt).fault = 0 := hgood _ (List.getElem_mem hlt)
   have hv : valF ((Wd.mk u a b c).heldL ats) [s] = (Wd.mk u a b c).holds (ats[s.toNat]'hlt).k (ats[s.toNat]'hlt).s (ats[s.toNat]'hlt).t (ats[s.toNat]'hlt).n := by
    rw [valF_leaf _ (by omega)]
    unfold Wd.heldL
    rw [List.getD_eq_getElem?_getD, List.getElem?_map, hat]
    rfl
   rw [hv]
   exact is_leaf s h0 _ _ ats ao co _ n acap ccap rfl h4 hm6 hat pre.length B off cap u a b c w hcap (by omega) hL.1 hL.last hA
    (fun W vs vt h1 h2 => refHolds_any _ _ vs vt _ _ u a b c hf hok W h1 h2)
  ·have e0 : pre ++ (t ++ [12]) = (pre ++ t) ++ [12] := by simp
   rw [e0] at h20 hcap hL ⊢
   have e : ((pre ++ t) ++ [12]).length = (pre ++ t).length + 1 := by simp; omega
   rw [e] at h20 hcap ⊢
   rw [val_no _ (cnt_fm hm6 N t ht)]
   exact is_no _ ao co _ n acap ccap (pre ++ t).length pre.length B off cap u a b c w hcap (by omega) hL.1 hL.last
    (fun W hW => ih t ht pre W (by omega) (by omega) (hL.front.below hW) (hA.below hW))
  ·have e0 : pre ++ (x ++ (y ++ [s])) = ((pre ++ x) ++ y) ++ [s] := by simp
   rw [e0] at h20 hcap hL ⊢
   have e : (((pre ++ x) ++ y) ++ [s]).length = ((pre ++ x) ++ y).length + 1 := by simp; omega
   rw [e] at h20 hcap ⊢
   have hle : (pre ++ x).length ≤ ((pre ++ x) ++ y).length := by simp
   rw [valF_two _ h5 (cnt_fm hm6 N x hx) (cnt_fm hm6 N y hy)]
   exact is_two s h5 _ _ ao co _ n acap ccap ((pre ++ x) ++ y).length pre.length (pre ++ x).length B off cap u a b c w hcap (by omega) hL.1 hL.last
    (fun W hW => ih y hy (pre ++ x) W (by omega) (by omega) (hL.front.below hW) (hA.below hW))
    (fun W hW => ih x hx pre W (by omega) (by omega) (hL.front.front.below hW) (hA.below hW))
set_option maxHeartbeats 2000000 in
theorem refTrue_any (va vc : Value) (ats : List At) (d : List Int) (u a b c : Int) (hf : formFault ats d = 0) (hok : (Wd.mk u a b c).ok = true) (w : World) (hA : ReadsA w va ats) (hC : Reads w vc d) :
    Calls Tryz.prog 73 #[.agg #[va, vc], .agg #[.int .i64 u, .int .i64 a, .int .i64 b, .int .i64 c]] w (Bk w (.bool (valF ((Wd.mk u a b c).heldL ats) d))) := by
 obtain ⟨⟨m1, m6⟩, ⟨n1, n20⟩, hgood, hsig, hcnt⟩ := formFault_zero.1 hf
 obtain ⟨N, hN⟩ := treeF hsig hcnt
 obtain ⟨ao, acap, rfl, _⟩ := hA.slice
 rcases hC with ⟨_, _, _, h0⟩ | ⟨B, off, cap, rfl, hB, _, ⟨_, hcap⟩, hcell⟩
 ·rw [h0] at n1; simp at n1
 obtain ⟨w1, hw1⟩ := nm ((w.alloc (.cells #[.slice ao ats.length acap, .slice (some ⟨B, off, none⟩) d.length cap] 39)).alloc (.cells #[.int .i64 u, .int .i64 a, .int .i64 b, .int .i64 c] 55))
 have HB1 : Hid (Below w.heap.size w w1) := by unfold Hid; rw [hw1]; exact (below_alloc1 _ _).trans ((below_alloc1 _ _).mono (by simp))
 have HI : Hid (∀ W, Below w.heap.size w W → Calls Tryz.prog 114 #[.agg #[.slice ao ats.length acap, .slice (some ⟨B, off, none⟩) d.length cap], .slice (some ⟨B, off, none⟩) d.length cap, .agg #[.int .i64 u, .int .i64 a, .int .i64 b, .int .i64 c]] W (Bk W (.tuple #[.bool (valF ((Wd.mk u a b c).heldL ats) d), .slice (some ⟨B, off, none⟩) 0 cap]))) := fun W hW =>
  isF_any ats u a b c hok hgood m6 ao (some ⟨B, off, none⟩) d.length acap cap B off cap N d hN [] W n20 hcap ((show Lies w B off d from ⟨hB, hcell⟩).below hW) (hA.below hW)
 obtain ⟨V, hV⟩ := nm (valF ((Wd.mk u a b c).heldL ats) d)
 rw [← hV] at HI ⊢
 obtain ⟨m, hm⟩ := nm ats.length
 obtain ⟨n, hn⟩ := nm d.length
 rw [← hm, ← hn] at HI hw1 ⊢
 clear hV hm hn hA hcell hf hok m1 m6 n1 n20 hgood hsig hcnt hN hcap hB
 go_enter Tryz.func73, Tryz.ntmps73
 go_wp2_with fail
 rw [← hw1]
 clear hw1
 go_at_call 114
 refine (HI.out _ HB1.out).mono ?_
 rintro e w2 ⟨rfl, hb⟩
 have HB2 := hide (HB1.out.trans (hb.mono HB1.out.size))
 clear hb
 go_wp2
 go_ret
 exact ⟨rfl, HB2.out⟩
end Go.Proofs.YtjmeakkmfeoigaaGreatDoor