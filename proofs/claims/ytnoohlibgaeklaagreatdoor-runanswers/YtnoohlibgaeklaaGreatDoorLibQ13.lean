/-
  Facts and contracts that the statement leans on.
-/
import Derived.Test.YtnoohlibgaeklaaGreatDoorLibQ12
import Derived.Test.YtnoohlibgaeklaaGreatDoorLibQ4
import Derived.Test.YtnoohlibgaeklaaGreatDoorLibQ9
import Derived.Deep.RegionWith
import Derived.Deep.Cut
import Derived.Deep.CutRange
import Derived.Test.YtnoohlibgaeklaaGreatDoorLibQ10
import Derived.Test.YtnoohlibgaeklaaGreatDoorLibQ11
import Derived.Maps.AppendAt
import Derived.Deep.AppendLies
namespace Go.Proofs.YtnoohlibgaeklaaGreatDoor
open Go.ChangeShapes Go.WideShapes Go.ChangeAt Go.RowKit
set_option maxRecDepth 100000
set_option maxHeartbeats 16000000
theorem refValue_reads (t : List Int) (hf : faultN t = 0) (v : Value) (u a b c : Int) (hok : (Wd.mk u a b c).ok = true) (w : World) (h : Reads w v t) :
    Calls Tryz.prog 25 #[v, .agg #[.int .i64 u, .int .i64 a, .int .i64 b, .int .i64 c]] w (Bk w (.int .i64 ((Wd.mk u a b c).val t))) := by
 rcases h with ⟨ao, cap, rfl, rfl⟩ | ⟨B, off, cap, rfl, hB, _, ⟨_, hcap⟩, hc⟩
 ·exact absurd hf (by decide)
 ·exact refValue_any t hf u a b c hok B off cap hcap w ⟨hB, hc⟩
set_option linter.unusedVariables false in
theorem refHolds_1 (n : Int) (sao tao : Option Addr) (sl scap tl tcap : Nat) (u a b c x y z zy : Int) (n0 : -20 ≤ n) (n1 : n ≤ 20) (hz : 0 ≤ z ∧ z ≤ 6) (hzy : 0 ≤ zy ∧ zy ≤ 6) (w : World)
    (hS : ∀ W, Bw w W → Calls Tryz.prog 25 #[.slice sao sl scap, .agg #[.int .i64 u, .int .i64 a, .int .i64 b, .int .i64 c]] W (Bk W (.int .i64 x)))
    (hZ : ∀ W, Calls Tryz.prog 24 #[.int .i64 x] W (Sk W (.int .i64 z)))
    (hT : ∀ W, Bw w W → Calls Tryz.prog 25 #[.slice tao tl tcap, .agg #[.int .i64 u, .int .i64 a, .int .i64 b, .int .i64 c]] W (Bk W (.int .i64 y)))
    (hZy : ∀ W, Calls Tryz.prog 24 #[.int .i64 y] W (Sk W (.int .i64 zy)))
    (hD : ∀ W, Calls Tryz.prog 149 #[.int .i64 7, .int .i64 u, .int .i64 x, .int .i64 y] W (Sk W (.int .i64 (lessN x y)))) :
    Calls Tryz.prog 108 #[.agg #[.int .i64 1, .slice sao sl scap, .slice tao tl tcap, .int .i64 n], .agg #[.int .i64 u, .int .i64 a, .int .i64 b, .int .i64 c]] w (Bk w (.bool (decide (lessN x y = 0)))) := by
 obtain ⟨w1, hw1⟩ := nm ((w.alloc (.cells #[.int .i64 1, .slice sao sl scap, .slice tao tl tcap, .int .i64 n] 71)).alloc (.cells #[.int .i64 u, .int .i64 a, .int .i64 b, .int .i64 c] 58))
 have HB1 : Hid (Bw w w1) := by unfold Hid; rw [hw1]; exact (below_alloc1 _ _).trans ((below_alloc1 _ _).mono (by simp))
 have HS1 : Hid (w1.heap.size = w.heap.size + 2) := by unfold Hid; rw [hw1]; simp
 have HX : Hid (∀ W, Bw w1 W → (W.cell? ⟨w.heap.size, 0, none⟩ = some (.int .i64 1) ∧ W.cell? ⟨w.heap.size, 1, none⟩ = some (.slice sao sl scap) ∧ W.cell? ⟨w.heap.size, 2, none⟩ = some (.slice tao tl tcap) ∧ W.cell? ⟨w.heap.size, 3, none⟩ = some (.int .i64 n)) ∧ (W.cell? ⟨w.heap.size + 1, 0, none⟩ = some (.int .i64 u) ∧ W.cell? ⟨w.heap.size + 1, 1, none⟩ = some (.int .i64 a) ∧ W.cell? ⟨w.heap.size + 1, 2, none⟩ = some (.int .i64 b) ∧ W.cell? ⟨w.heap.size + 1, 3, none⟩ = some (.int .i64 c))) := fun W hc => by
  have l0 : w.heap.size < w1.heap.size := by have := HS1.out; omega
  have l1 : w.heap.size + 1 < w1.heap.size := by have := HS1.out; omega
  have e0 : ∀ j, W.cell? ⟨w.heap.size, j, none⟩ = w1.cell? ⟨w.heap.size, j, none⟩ := fun j => hc.cell (show (⟨w.heap.size, j, none⟩ : Addr).block < _ from l0)
  have e1 : ∀ j, W.cell? ⟨w.heap.size + 1, j, none⟩ = w1.cell? ⟨w.heap.size + 1, j, none⟩ := fun j => hc.cell (show (⟨w.heap.size + 1, j, none⟩ : Addr).block < _ from l1)
  simp only [e0, e1]
  rw [hw1]
  have q : w.heap.size + 1 = (w.alloc (.cells #[.int .i64 1, .slice sao sl scap, .slice tao tl tcap, .int .i64 n] 71)).heap.size := by simp
  have r : ∀ o j, ((w.alloc (.cells #[.int .i64 1, .slice sao sl scap, .slice tao tl tcap, .int .i64 n] 71)).alloc o).cell? ⟨w.heap.size, j, none⟩ = (w.alloc (.cells #[.int .i64 1, .slice sao sl scap, .slice tao tl tcap, .int .i64 n] 71)).cell? ⟨w.heap.size, j, none⟩ := fun o j => World.cell?_alloc_lt _ _ ⟨w.heap.size, j, none⟩ (by simp)
  simp only [r]
  rw [q]
  simp
 have HV : Hid (∀ W, Bw w1 W → _) := fun W hW => hS W (HB1.out.trans (hW.mono HB1.out.size))
 have HV2 : Hid (∀ W, Bw w1 W → _) := fun W hW => hT W (HB1.out.trans (hW.mono HB1.out.size))
 have HZy := hide hZy
 have HD := hide hD
 clear hT hZy hD
 have HZ := hide hZ
 clear hS hZ
 have HB : Hid (Bw w1 w1) := Below.refl _ _
 obtain ⟨⟨x0, x1, x2, x3⟩, ⟨y0, y1, y2, y3⟩⟩ := HX.out w1 HB.out
 rw [hw1] at x0 x1 x2 x3 y0 y1 y2 y3
 go_enter Tryz.func108, Tryz.ntmps108
 go_wp2_with fail
 rw [← hw1]
 clear hw1 x0 x1 x2 x3 y0 y1 y2 y3
 go_at_call 25
 refine (HV.out _ HB.out).mono ?_
 rintro e w2 ⟨rfl, hb⟩
 have HB := bt HB hb
 clear hb
 obtain ⟨⟨x0, x1, x2, x3⟩, ⟨y0, y1, y2, y3⟩⟩ := HX.out w2 HB.out
 go_wp2_with fail
 go_at_call 24
 refine (HZ.out _).mono ?_
 rintro e w' ⟨rfl, rfl⟩
 go_wp2_with fail
 go_at_call 25
 refine (HV2.out _ HB.out).mono ?_
 rintro e w3 ⟨rfl, hb⟩
 have HB := bt HB hb
 clear hb
 clear x0 x1 x2 x3 y0 y1 y2 y3
 obtain ⟨⟨x0, x1, x2, x3⟩, ⟨y0, y1, y2, y3⟩⟩ := HX.out w3 HB.out
 go_wp2_with fail
 go_at_call 149
 refine (HD.out _).mono ?_
 rintro e w' ⟨rfl, rfl⟩
 go_wp2
 go_ret
 refine ⟨?_, HB1.out.trans (HB.out.mono HB1.out.size)⟩
 first | rfl | exact back_b (by simp) | (refine back_b ?_; exact (beq_eq_decide _ _)) | simp
set_option linter.unusedVariables false in
theorem refHolds_2 (n : Int) (sao tao : Option Addr) (sl scap tl tcap : Nat) (u a b c x y z zy : Int) (n0 : -20 ≤ n) (n1 : n ≤ 20) (hz : 0 ≤ z ∧ z ≤ 6) (hzy : 0 ≤ zy ∧ zy ≤ 6) (w : World)
    (hS : ∀ W, Bw w W → Calls Tryz.prog 25 #[.slice sao sl scap, .agg #[.int .i64 u, .int .i64 a, .int .i64 b, .int .i64 c]] W (Bk W (.int .i64 x)))
    (hZ : ∀ W, Calls Tryz.prog 24 #[.int .i64 x] W (Sk W (.int .i64 z)))
    (hT : ∀ W, Bw w W → Calls Tryz.prog 25 #[.slice tao tl tcap, .agg #[.int .i64 u, .int .i64 a, .int .i64 b, .int .i64 c]] W (Bk W (.int .i64 y)))
    (hZy : ∀ W, Calls Tryz.prog 24 #[.int .i64 y] W (Sk W (.int .i64 zy)))
    (hD : ∀ W, Calls Tryz.prog 149 #[.int .i64 7, .int .i64 u, .int .i64 x, .int .i64 y] W (Sk W (.int .i64 (lessN x y)))) :
    Calls Tryz.prog 108 #[.agg #[.int .i64 2, .slice sao sl scap, .slice tao tl tcap, .int .i64 n], .agg #[.int .i64 u, .int .i64 a, .int .i64 b, .int .i64 c]] w (Bk w (.bool (decide (x = y)))) := by
 obtain ⟨w1, hw1⟩ := nm ((w.alloc (.cells #[.int .i64 2, .slice sao sl scap, .slice tao tl tcap, .int .i64 n] 71)).alloc (.cells #[.int .i64 u, .int .i64 a, .int .i64 b, .int .i64 c] 58))
 have HB1 : Hid (Bw w w1) := by unfold Hid; rw [hw1]; exact (below_alloc1 _ _).trans ((below_alloc1 _ _).mono (by simp))
 have HS1 : Hid (w1.heap.size = w.heap.size + 2) := by unfold Hid; rw [hw1]; simp
 have HX : Hid (∀ W, Bw w1 W → (W.cell? ⟨w.heap.size, 0, none⟩ = some (.int .i64 2) ∧ W.cell? ⟨w.heap.size, 1, none⟩ = some (.slice sao sl scap) ∧ W.cell? ⟨w.heap.size, 2, none⟩ = some (.slice tao tl tcap) ∧ W.cell? ⟨w.heap.size, 3, none⟩ = some (.int .i64 n)) ∧ (W.cell? ⟨w.heap.size + 1, 0, none⟩ = some (.int .i64 u) ∧ W.cell? ⟨w.heap.size + 1, 1, none⟩ = some (.int .i64 a) ∧ W.cell? ⟨w.heap.size + 1, 2, none⟩ = some (.int .i64 b) ∧ W.cell? ⟨w.heap.size + 1, 3, none⟩ = some (.int .i64 c))) := fun W hc => by
  have l0 : w.heap.size < w1.heap.size := by have := HS1.out; omega
  have l1 : w.heap.size + 1 < w1.heap.size := by have := HS1.out; omega
  have e0 : ∀ j, W.cell? ⟨w.heap.size, j, none⟩ = w1.cell? ⟨w.heap.size, j, none⟩ := fun j => hc.cell (show (⟨w.heap.size, j, none⟩ : Addr).block < _ from l0)
  have e1 : ∀ j, W.cell? ⟨w.heap.size + 1, j, none⟩ = w1.cell? ⟨w.heap.size + 1, j, none⟩ := fun j => hc.cell (show (⟨w.heap.size + 1, j, none⟩ : Addr).block < _ from l1)
  simp only [e0, e1]
  rw [hw1]
  have q : w.heap.size + 1 = (w.alloc (.cells #[.int .i64 2, .slice sao sl scap, .slice tao tl tcap, .int .i64 n] 71)).heap.size := by simp
  have r : ∀ o j, ((w.alloc (.cells #[.int .i64 2, .slice sao sl scap, .slice tao tl tcap, .int .i64 n] 71)).alloc o).cell? ⟨w.heap.size, j, none⟩ = (w.alloc (.cells #[.int .i64 2, .slice sao sl scap, .slice tao tl tcap, .int .i64 n] 71)).cell? ⟨w.heap.size, j, none⟩ := fun o j => World.cell?_alloc_lt _ _ ⟨w.heap.size, j, none⟩ (by simp)
  simp only [r]
  rw [q]
  simp
 have HV : Hid (∀ W, Bw w1 W → _) := fun W hW => hS W (HB1.out.trans (hW.mono HB1.out.size))
 have HV2 : Hid (∀ W, Bw w1 W → _) := fun W hW => hT W (HB1.out.trans (hW.mono HB1.out.size))
 have HZy := hide hZy
 have HD := hide hD
 clear hT hZy hD
 have HZ := hide hZ
 clear hS hZ
 have HB : Hid (Bw w1 w1) := Below.refl _ _
 obtain ⟨⟨x0, x1, x2, x3⟩, ⟨y0, y1, y2, y3⟩⟩ := HX.out w1 HB.out
 rw [hw1] at x0 x1 x2 x3 y0 y1 y2 y3
 go_enter Tryz.func108, Tryz.ntmps108
 go_wp2_with fail
 rw [← hw1]
 clear hw1 x0 x1 x2 x3 y0 y1 y2 y3
 go_at_call 25
 refine (HV.out _ HB.out).mono ?_
 rintro e w2 ⟨rfl, hb⟩
 have HB := bt HB hb
 clear hb
 obtain ⟨⟨x0, x1, x2, x3⟩, ⟨y0, y1, y2, y3⟩⟩ := HX.out w2 HB.out
 go_wp2_with fail
 go_at_call 24
 refine (HZ.out _).mono ?_
 rintro e w' ⟨rfl, rfl⟩
 go_wp2_with fail
 go_at_call 25
 refine (HV2.out _ HB.out).mono ?_
 rintro e w3 ⟨rfl, hb⟩
 have HB := bt HB hb
 clear hb
 clear x0 x1 x2 x3 y0 y1 y2 y3
 obtain ⟨⟨x0, x1, x2, x3⟩, ⟨y0, y1, y2, y3⟩⟩ := HX.out w3 HB.out
 go_wp2
 go_ret
 refine ⟨?_, HB1.out.trans (HB.out.mono HB1.out.size)⟩
 first | rfl | exact back_b (by simp) | (refine back_b ?_; exact (beq_eq_decide _ _)) | simp
set_option linter.unusedVariables false in
theorem refHolds_3 (n : Int) (sao tao : Option Addr) (sl scap tl tcap : Nat) (u a b c x y z zy : Int) (n0 : -20 ≤ n) (n1 : n ≤ 20) (hz : 0 ≤ z ∧ z ≤ 6) (hzy : 0 ≤ zy ∧ zy ≤ 6) (w : World)
    (hS : ∀ W, Bw w W → Calls Tryz.prog 25 #[.slice sao sl scap, .agg #[.int .i64 u, .int .i64 a, .int .i64 b, .int .i64 c]] W (Bk W (.int .i64 x)))
    (hZ : ∀ W, Calls Tryz.prog 24 #[.int .i64 x] W (Sk W (.int .i64 z))) :
    Calls Tryz.prog 108 #[.agg #[.int .i64 3, .slice sao sl scap, .slice tao tl tcap, .int .i64 n], .agg #[.int .i64 u, .int .i64 a, .int .i64 b, .int .i64 c]] w (Bk w (.bool (decide (n ≤ z)))) := by
 obtain ⟨w1, hw1⟩ := nm ((w.alloc (.cells #[.int .i64 3, .slice sao sl scap, .slice tao tl tcap, .int .i64 n] 71)).alloc (.cells #[.int .i64 u, .int .i64 a, .int .i64 b, .int .i64 c] 58))
 have HB1 : Hid (Bw w w1) := by unfold Hid; rw [hw1]; exact (below_alloc1 _ _).trans ((below_alloc1 _ _).mono (by simp))
 have HS1 : Hid (w1.heap.size = w.heap.size + 2) := by unfold Hid; rw [hw1]; simp
 have HX : Hid (∀ W, Bw w1 W → (W.cell? ⟨w.heap.size, 0, none⟩ = some (.int .i64 3) ∧ W.cell? ⟨w.heap.size, 1, none⟩ = some (.slice sao sl scap) ∧ W.cell? ⟨w.heap.size, 2, none⟩ = some (.slice tao tl tcap) ∧ W.cell? ⟨w.heap.size, 3, none⟩ = some (.int .i64 n)) ∧ (W.cell? ⟨w.heap.size + 1, 0, none⟩ = some (.int .i64 u) ∧ W.cell? ⟨w.heap.size + 1, 1, none⟩ = some (.int .i64 a) ∧ W.cell? ⟨w.heap.size + 1, 2, none⟩ = some (.int .i64 b) ∧ W.cell? ⟨w.heap.size + 1, 3, none⟩ = some (.int .i64 c))) := fun W hc => by
  have l0 : w.heap.size < w1.heap.size := by have := HS1.out; omega
  have l1 : w.heap.size + 1 < w1.heap.size := by have := HS1.out; omega
  have e0 : ∀ j, W.cell? ⟨w.heap.size, j, none⟩ = w1.cell? ⟨w.heap.size, j, none⟩ := fun j => hc.cell (show (⟨w.heap.size, j, none⟩ : Addr).block < _ from l0)
  have e1 : ∀ j, W.cell? ⟨w.heap.size + 1, j, none⟩ = w1.cell? ⟨w.heap.size + 1, j, none⟩ := fun j => hc.cell (show (⟨w.heap.size + 1, j, none⟩ : Addr).block < _ from l1)
  simp only [e0, e1]
  rw [hw1]
  have q : w.heap.size + 1 = (w.alloc (.cells #[.int .i64 3, .slice sao sl scap, .slice tao tl tcap, .int .i64 n] 71)).heap.size := by simp
  have r : ∀ o j, ((w.alloc (.cells #[.int .i64 3, .slice sao sl scap, .slice tao tl tcap, .int .i64 n] 71)).alloc o).cell? ⟨w.heap.size, j, none⟩ = (w.alloc (.cells #[.int .i64 3, .slice sao sl scap, .slice tao tl tcap, .int .i64 n] 71)).cell? ⟨w.heap.size, j, none⟩ := fun o j => World.cell?_alloc_lt _ _ ⟨w.heap.size, j, none⟩ (by simp)
  simp only [r]
  rw [q]
  simp
 have HV : Hid (∀ W, Bw w1 W → _) := fun W hW => hS W (HB1.out.trans (hW.mono HB1.out.size))
 have HZ := hide hZ
 clear hS hZ
 have HB : Hid (Bw w1 w1) := Below.refl _ _
 obtain ⟨⟨x0, x1, x2, x3⟩, ⟨y0, y1, y2, y3⟩⟩ := HX.out w1 HB.out
 rw [hw1] at x0 x1 x2 x3 y0 y1 y2 y3
 go_enter Tryz.func108, Tryz.ntmps108
 go_wp2_with fail
 rw [← hw1]
 clear hw1 x0 x1 x2 x3 y0 y1 y2 y3
 go_at_call 25
 refine (HV.out _ HB.out).mono ?_
 rintro e w2 ⟨rfl, hb⟩
 have HB := bt HB hb
 clear hb
 obtain ⟨⟨x0, x1, x2, x3⟩, ⟨y0, y1, y2, y3⟩⟩ := HX.out w2 HB.out
 go_wp2_with fail
 go_at_call 24
 refine (HZ.out _).mono ?_
 rintro e w' ⟨rfl, rfl⟩
 go_wp2
 go_ret
 refine ⟨?_, HB1.out.trans (HB.out.mono HB1.out.size)⟩
 first | rfl | exact back_b (by simp) | (refine back_b ?_; exact (beq_eq_decide _ _)) | simp
set_option linter.unusedVariables false in
theorem refHolds_4 (n : Int) (sao tao : Option Addr) (sl scap tl tcap : Nat) (u a b c x y z zy : Int) (n0 : -20 ≤ n) (n1 : n ≤ 20) (hz : 0 ≤ z ∧ z ≤ 6) (hzy : 0 ≤ zy ∧ zy ≤ 6) (w : World)
    (hS : ∀ W, Bw w W → Calls Tryz.prog 25 #[.slice sao sl scap, .agg #[.int .i64 u, .int .i64 a, .int .i64 b, .int .i64 c]] W (Bk W (.int .i64 x)))
    (hZ : ∀ W, Calls Tryz.prog 24 #[.int .i64 x] W (Sk W (.int .i64 z))) :
    Calls Tryz.prog 108 #[.agg #[.int .i64 4, .slice sao sl scap, .slice tao tl tcap, .int .i64 n], .agg #[.int .i64 u, .int .i64 a, .int .i64 b, .int .i64 c]] w (Bk w (.bool (decide (z ≤ n)))) := by
 obtain ⟨w1, hw1⟩ := nm ((w.alloc (.cells #[.int .i64 4, .slice sao sl scap, .slice tao tl tcap, .int .i64 n] 71)).alloc (.cells #[.int .i64 u, .int .i64 a, .int .i64 b, .int .i64 c] 58))
 have HB1 : Hid (Bw w w1) := by unfold Hid; rw [hw1]; exact (below_alloc1 _ _).trans ((below_alloc1 _ _).mono (by simp))
 have HS1 : Hid (w1.heap.size = w.heap.size + 2) := by unfold Hid; rw [hw1]; simp
 have HX : Hid (∀ W, Bw w1 W → (W.cell? ⟨w.heap.size, 0, none⟩ = some (.int .i64 4) ∧ W.cell? ⟨w.heap.size, 1, none⟩ = some (.slice sao sl scap) ∧ W.cell? ⟨w.heap.size, 2, none⟩ = some (.slice tao tl tcap) ∧ W.cell? ⟨w.heap.size, 3, none⟩ = some (.int .i64 n)) ∧ (W.cell? ⟨w.heap.size + 1, 0, none⟩ = some (.int .i64 u) ∧ W.cell? ⟨w.heap.size + 1, 1, none⟩ = some (.int .i64 a) ∧ W.cell? ⟨w.heap.size + 1, 2, none⟩ = some (.int .i64 b) ∧ W.cell? ⟨w.heap.size + 1, 3, none⟩ = some (.int .i64 c))) := fun W hc => by
  have l0 : w.heap.size < w1.heap.size := by have := HS1.out; omega
  have l1 : w.heap.size + 1 < w1.heap.size := by have := HS1.out; omega
  have e0 : ∀ j, W.cell? ⟨w.heap.size, j, none⟩ = w1.cell? ⟨w.heap.size, j, none⟩ := fun j => hc.cell (show (⟨w.heap.size, j, none⟩ : Addr).block < _ from l0)
  have e1 : ∀ j, W.cell? ⟨w.heap.size + 1, j, none⟩ = w1.cell? ⟨w.heap.size + 1, j, none⟩ := fun j => hc.cell (show (⟨w.heap.size + 1, j, none⟩ : Addr).block < _ from l1)
  simp only [e0, e1]
  rw [hw1]
  have q : w.heap.size + 1 = (w.alloc (.cells #[.int .i64 4, .slice sao sl scap, .slice tao tl tcap, .int .i64 n] 71)).heap.size := by simp
  have r : ∀ o j, ((w.alloc (.cells #[.int .i64 4, .slice sao sl scap, .slice tao tl tcap, .int .i64 n] 71)).alloc o).cell? ⟨w.heap.size, j, none⟩ = (w.alloc (.cells #[.int .i64 4, .slice sao sl scap, .slice tao tl tcap, .int .i64 n] 71)).cell? ⟨w.heap.size, j, none⟩ := fun o j => World.cell?_alloc_lt _ _ ⟨w.heap.size, j, none⟩ (by simp)
  simp only [r]
  rw [q]
  simp
 have HV : Hid (∀ W, Bw w1 W → _) := fun W hW => hS W (HB1.out.trans (hW.mono HB1.out.size))
 have HZ := hide hZ
 clear hS hZ
 have HB : Hid (Bw w1 w1) := Below.refl _ _
 obtain ⟨⟨x0, x1, x2, x3⟩, ⟨y0, y1, y2, y3⟩⟩ := HX.out w1 HB.out
 rw [hw1] at x0 x1 x2 x3 y0 y1 y2 y3
 go_enter Tryz.func108, Tryz.ntmps108
 go_wp2_with fail
 rw [← hw1]
 clear hw1 x0 x1 x2 x3 y0 y1 y2 y3
 go_at_call 25
 refine (HV.out _ HB.out).mono ?_
 rintro e w2 ⟨rfl, hb⟩
 have HB := bt HB hb
 clear hb
 obtain ⟨⟨x0, x1, x2, x3⟩, ⟨y0, y1, y2, y3⟩⟩ := HX.out w2 HB.out
 go_wp2_with fail
 go_at_call 24
 refine (HZ.out _).mono ?_
 rintro e w' ⟨rfl, rfl⟩
 go_wp2
 go_ret
 refine ⟨?_, HB1.out.trans (HB.out.mono HB1.out.size)⟩
 first | rfl | exact back_b (by simp) | (refine back_b ?_; exact (beq_eq_decide _ _)) | simp
set_option linter.unusedVariables false in
theorem refHolds_5 (n : Int) (sao tao : Option Addr) (sl scap tl tcap : Nat) (u a b c x y z zy : Int) (n0 : -20 ≤ n) (n1 : n ≤ 20) (hz : 0 ≤ z ∧ z ≤ 6) (hzy : 0 ≤ zy ∧ zy ≤ 6) (w : World)
    (hS : ∀ W, Bw w W → Calls Tryz.prog 25 #[.slice sao sl scap, .agg #[.int .i64 u, .int .i64 a, .int .i64 b, .int .i64 c]] W (Bk W (.int .i64 x)))
    (hZ : ∀ W, Calls Tryz.prog 24 #[.int .i64 x] W (Sk W (.int .i64 z)))
    (hT : ∀ W, Bw w W → Calls Tryz.prog 25 #[.slice tao tl tcap, .agg #[.int .i64 u, .int .i64 a, .int .i64 b, .int .i64 c]] W (Bk W (.int .i64 y)))
    (hZy : ∀ W, Calls Tryz.prog 24 #[.int .i64 y] W (Sk W (.int .i64 zy)))
    (hD : ∀ W, Calls Tryz.prog 149 #[.int .i64 7, .int .i64 u, .int .i64 x, .int .i64 y] W (Sk W (.int .i64 (lessN x y)))) :
    Calls Tryz.prog 108 #[.agg #[.int .i64 5, .slice sao sl scap, .slice tao tl tcap, .int .i64 n], .agg #[.int .i64 u, .int .i64 a, .int .i64 b, .int .i64 c]] w (Bk w (.bool (decide (z ≤ zy + n)))) := by
 obtain ⟨w1, hw1⟩ := nm ((w.alloc (.cells #[.int .i64 5, .slice sao sl scap, .slice tao tl tcap, .int .i64 n] 71)).alloc (.cells #[.int .i64 u, .int .i64 a, .int .i64 b, .int .i64 c] 58))
 have HB1 : Hid (Bw w w1) := by unfold Hid; rw [hw1]; exact (below_alloc1 _ _).trans ((below_alloc1 _ _).mono (by simp))
 have HS1 : Hid (w1.heap.size = w.heap.size + 2) := by unfold Hid; rw [hw1]; simp
 have HX : Hid (∀ W, Bw w1 W → (W.cell? ⟨w.heap.size, 0, none⟩ = some (.int .i64 5) ∧ W.cell? ⟨w.heap.size, 1, none⟩ = some (.slice sao sl scap) ∧ W.cell? ⟨w.heap.size, 2, none⟩ = some (.slice tao tl tcap) ∧ W.cell? ⟨w.heap.size, 3, none⟩ = some (.int .i64 n)) ∧ (W.cell? ⟨w.heap.size + 1, 0, none⟩ = some (.int .i64 u) ∧ W.cell? ⟨w.heap.size + 1, 1, none⟩ = some (.int .i64 a) ∧ W.cell? ⟨w.heap.size + 1, 2, none⟩ = some (.int .i64 b) ∧ W.cell? ⟨w.heap.size + 1, 3, none⟩ = some (.int .i64 c))) := fun W hc => by
  have l0 : w.heap.size < w1.heap.size := by have := HS1.out; omega
  have l1 : w.heap.size + 1 < w1.heap.size := by have := HS1.out; omega
  have e0 : ∀ j, W.cell? ⟨w.heap.size, j, none⟩ = w1.cell? ⟨w.heap.size, j, none⟩ := fun j => hc.cell (show (⟨w.heap.size, j, none⟩ : Addr).block < _ from l0)
  have e1 : ∀ j, W.cell? ⟨w.heap.size + 1, j, none⟩ = w1.cell? ⟨w.heap.size + 1, j, none⟩ := fun j => hc.cell (show (⟨w.heap.size + 1, j, none⟩ : Addr).block < _ from l1)
  simp only [e0, e1]
  rw [hw1]
  have q : w.heap.size + 1 = (w.alloc (.cells #[.int .i64 5, .slice sao sl scap, .slice tao tl tcap, .int .i64 n] 71)).heap.size := by simp
  have r : ∀ o j, ((w.alloc (.cells #[.int .i64 5, .slice sao sl scap, .slice tao tl tcap, .int .i64 n] 71)).alloc o).cell? ⟨w.heap.size, j, none⟩ = (w.alloc (.cells #[.int .i64 5, .slice sao sl scap, .slice tao tl tcap, .int .i64 n] 71)).cell? ⟨w.heap.size, j, none⟩ := fun o j => World.cell?_alloc_lt _ _ ⟨w.heap.size, j, none⟩ (by simp)
  simp only [r]
  rw [q]
  simp
 have HV : Hid (∀ W, Bw w1 W → _) := fun W hW => hS W (HB1.out.trans (hW.mono HB1.out.size))
 have HV2 : Hid (∀ W, Bw w1 W → _) := fun W hW => hT W (HB1.out.trans (hW.mono HB1.out.size))
 have HZy := hide hZy
 have HD := hide hD
 clear hT hZy hD
 have HZ := hide hZ
 clear hS hZ
 have HB : Hid (Bw w1 w1) := Below.refl _ _
 obtain ⟨⟨x0, x1, x2, x3⟩, ⟨y0, y1, y2, y3⟩⟩ := HX.out w1 HB.out
 rw [hw1] at x0 x1 x2 x3 y0 y1 y2 y3
 go_enter Tryz.func108, Tryz.ntmps108
 go_wp2_with fail
 rw [← hw1]
 clear hw1 x0 x1 x2 x3 y0 y1 y2 y3
 go_at_call 25
 refine (HV.out _ HB.out).mono ?_
 rintro e w2 ⟨rfl, hb⟩
 have HB := bt HB hb
 clear hb
 obtain ⟨⟨x0, x1, x2, x3⟩, ⟨y0, y1, y2, y3⟩⟩ := HX.out w2 HB.out
 go_wp2_with fail
 go_at_call 24
 refine (HZ.out _).mono ?_
 rintro e w' ⟨rfl, rfl⟩
 go_wp2_with fail
 go_at_call 25
 refine (HV2.out _ HB.out).mono ?_
 rintro e w3 ⟨rfl, hb⟩
 have HB := bt HB hb
 clear hb
 clear x0 x1 x2 x3 y0 y1 y2 y3
 obtain ⟨⟨x0, x1, x2, x3⟩, ⟨y0, y1, y2, y3⟩⟩ := HX.out w3 HB.out
 go_wp2_with fail
 go_quiet (first | (go_at_call 24; exact Calls.quiet_of_same ((HZy.out _).mono fun _ _ h => ⟨h.1, h.2.symm⟩)))
 go_wp2
 go_ret
 refine ⟨?_, HB1.out.trans ((HB.out.trans ((below_drewNs _ _).mono HB.out.size)).mono HB1.out.size)⟩
 first | rfl | exact back_b (by simp) | (refine back_b ?_; exact (beq_eq_decide _ _)) | simp
theorem refHolds_any (k n : Int) (vs vt : Value) (s t : List Int) (u a b c : Int) (hf : atomFault k s t n = 0) (hok : (Wd.mk u a b c).ok = true) (w : World) (hS : Reads w vs s) (hT : Reads w vt t) :
    Calls Tryz.prog 108 #[.agg #[.int .i64 k, vs, vt, .int .i64 n], .agg #[.int .i64 u, .int .i64 a, .int .i64 b, .int .i64 c]] w (Bk w (.bool ((Wd.mk u a b c).holds k s t n))) := by
 obtain ⟨hk, hs, ht, n0, n1⟩ := atomFault_zero.1 hf
 have hm : mostN k ≤ 20 := by unfold mostN; split <;> omega
 have h1 := fun (W : World) (hW : Bw w W) => refValue_reads s hs vs u a b c hok W (hS.below hW)
 obtain ⟨_, _, x0, x1⟩ := okB_lt (ok_val hok s)
 have hz := fun (W : World) => refSize_any ((Wd.mk u a b c).val s) x0 x1 W
 have h2 : secondB k = true → (∀ W, Bw w W → Calls Tryz.prog 25 #[vt, .agg #[.int .i64 u, .int .i64 a, .int .i64 b, .int .i64 c]] W (Bk W (.int .i64 ((Wd.mk u a b c).val t)))) ∧ (∀ W, Calls Tryz.prog 24 #[.int .i64 ((Wd.mk u a b c).val t)] W (Sk W (.int .i64 (pcN ((Wd.mk u a b c).val t))))) ∧ (∀ W, Calls Tryz.prog 149 #[.int .i64 7, .int .i64 u, .int .i64 ((Wd.mk u a b c).val s), .int .i64 ((Wd.mk u a b c).val t)] W (Sk W (.int .i64 (lessN ((Wd.mk u a b c).val s) ((Wd.mk u a b c).val t))))) := fun h => by
  have h0 := second_reads ht h
  obtain ⟨_, _, y0, y1⟩ := okB_lt (ok_val hok t)
  exact ⟨fun W hW => refValue_reads t h0 vt u a b c hok W (hT.below hW), fun W => refSize_any _ y0 y1 W, fun W => refDo_any 7 u _ _ (by decide) (by decide) (ok_val hok s) (ok_val hok t) W⟩
 obtain ⟨sao, scap, rfl, _⟩ := hS.slice
 obtain ⟨tao, tcap, rfl, _⟩ := hT.slice
 rcases five hk.1 hk.2 with rfl | rfl | rfl | rfl | rfl
 ·obtain ⟨g1, g2, g3⟩ := h2 (by decide)
  exact refHolds_1 n sao tao _ scap _ tcap u a b c _ _ _ _ (by omega) (by omega) (pcN_le _) (pcN_le _) w h1 hz g1 g2 g3
 ·obtain ⟨g1, g2, g3⟩ := h2 (by decide)
  exact refHolds_2 n sao tao _ scap _ tcap u a b c _ _ _ _ (by omega) (by omega) (pcN_le _) (pcN_le _) w h1 hz g1 g2 g3
 ·exact refHolds_3 n sao tao _ scap _ tcap u a b c _ 0 _ 0 (by omega) (by omega) (pcN_le _) (by omega) w h1 hz
 ·exact refHolds_4 n sao tao _ scap _ tcap u a b c _ 0 _ 0 (by omega) (by omega) (pcN_le _) (by omega) w h1 hz
 ·obtain ⟨g1, g2, g3⟩ := h2 (by decide)
  exact refHolds_5 n sao tao _ scap _ tcap u a b c _ _ _ _ (by omega) (by omega) (pcN_le _) (pcN_le _) w h1 hz g1 g2 g3
theorem is_leaf (s : Int) (h0 : 0 ≤ s) (x : Bool) (at0 : At) (ats : List At) (ao co : Option Addr) (m n acap ccap : Nat) (hm : m = ats.length) (hsm : s < m) (hm6 : m ≤ 6) (hat : ats[s.toNat]? = some at0) (k B off cap : Nat) (u a b c : Int) (w : World) (hcap : k + 1 ≤ cap) (hk : k ≤ 20) (hB : B < w.heap.size) (hc : w.cell? ⟨B, off + k, none⟩ = some (.int .i64 s)) (hA : ReadsA w (.slice ao m acap) ats)
    (hH : ∀ W vs vt, Reads W vs at0.s → Reads W vt at0.t → Calls Tryz.prog 108 #[.agg #[.int .i64 at0.k, vs, vt, .int .i64 at0.n], .agg #[.int .i64 u, .int .i64 a, .int .i64 b, .int .i64 c]] W (Bk W (.bool x))) :
    Calls Tryz.prog 74 #[.agg #[.slice ao m acap, .slice co n ccap], .slice (some ⟨B, off, none⟩) (k + 1) cap, .agg #[.int .i64 u, .int .i64 a, .int .i64 b, .int .i64 c]] w (Bk w (.tuple #[.bool x, .slice (some ⟨B, off, none⟩) k cap])) := by
 obtain ⟨w1, hw1⟩ := nm ((w.alloc (.cells #[.slice ao m acap, .slice co n ccap] 78)).alloc (.cells #[.int .i64 u, .int .i64 a, .int .i64 b, .int .i64 c] 58))
 have HB1 : Hid (Bw w w1) := by unfold Hid; rw [hw1]; exact (below_alloc1 _ _).trans ((below_alloc1 _ _).mono (by simp))
 have d0 : w1.cell? ⟨B, off + k, none⟩ = some (.int .i64 s) := (HB1.out.cell hB).trans hc
 obtain ⟨sn, rfl⟩ := Int.eq_ofNat_of_zero_le h0
 have hsn : sn < m := by omega
 rcases hA.below HB1.out with ⟨_, _, hv, hn⟩ | ⟨b1, off1, cap1, hv, hb, _, _, hall⟩
 ·rw [hn] at hm; simp at hm; omega
 obtain rfl : ao = some ⟨b1, off1, none⟩ := by cases hv; rfl
 obtain ⟨vs, vt, c0, c1, c2, c3, r1, r2⟩ := hall sn at0 (by simpa using hat)
 have HH : Hid (∀ W, Bw w1 W → Calls Tryz.prog 108 #[.agg #[.int .i64 at0.k, vs, vt, .int .i64 at0.n], .agg #[.int .i64 u, .int .i64 a, .int .i64 b, .int .i64 c]] W (Bk W (.bool x))) := fun W h => hH W vs vt (r1.below h) (r2.below h)
 obtain ⟨sao, scap, rfl, _⟩ := r1.slice
 obtain ⟨tao, tcap, rfl, _⟩ := r2.slice
 clear hv hall hA hH r1 r2 hc hat hb hm
 have hlt10 : (sn : Int) < 10 := by omega
 have hle : (k : Int) ≤ (cap : Int) := by omega
 have hsi : (sn : Int) < (m : Int) := by omega
 have e0 : w1.cell? ⟨w.heap.size, 0, none⟩ = some (.slice (some ⟨b1, off1, none⟩) m acap) := by
  rw [hw1, World.cell?_alloc_lt _ _ ⟨w.heap.size, 0, none⟩ (by simp)]; simp
 obtain ⟨e1, e2, e3, e4⟩ : w1.cell? ⟨w.heap.size + 1, 0, none⟩ = some (.int .i64 u) ∧ w1.cell? ⟨w.heap.size + 1, 1, none⟩ = some (.int .i64 a) ∧ w1.cell? ⟨w.heap.size + 1, 2, none⟩ = some (.int .i64 b) ∧ w1.cell? ⟨w.heap.size + 1, 3, none⟩ = some (.int .i64 c) := by
  rw [hw1]
  have q : w.heap.size + 1 = (w.alloc (.cells #[.slice (some ⟨b1, off1, none⟩) m acap, .slice co n ccap] 78)).heap.size := by simp
  rw [q]
  simp
 have d1 := d0
 rw [hw1] at d1
 go_enter Tryz.func74, Tryz.ntmps74
 go_wp2_with fail
 rw [← hw1]
 clear hw1 d1
 go_region_with (go_at_call 108; refine (HH.out _ (by first | exact Below.refl _ _ | exact below_drewNs _ _)).mono ?_; rintro e w2 ⟨rfl, hb⟩)
 all_goals
  go_wp2
  go_ret2
  exact ⟨rfl, HB1.out.trans (Below.mono (Below.trans (by first | exact Below.refl _ _ | exact below_drewNs _ _) (Below.mono hb (by first | exact Nat.le_refl _ | (have := (below_drewNs w1 _).size; assumption)))) HB1.out.size)⟩
theorem is_no (x : Bool) (ao co : Option Addr) (m n acap ccap : Nat) (k p B off cap : Nat) (u a b c : Int) (w : World) (hcap : k + 1 ≤ cap) (hk : k ≤ 20) (hB : B < w.heap.size) (hc : w.cell? ⟨B, off + k, none⟩ = some (.int .i64 12))
    (ih : ∀ W, Bw w W → Calls Tryz.prog 74 #[.agg #[.slice ao m acap, .slice co n ccap], .slice (some ⟨B, off, none⟩) k cap, .agg #[.int .i64 u, .int .i64 a, .int .i64 b, .int .i64 c]] W (Bk W (.tuple #[.bool x, .slice (some ⟨B, off, none⟩) p cap]))) :
    Calls Tryz.prog 74 #[.agg #[.slice ao m acap, .slice co n ccap], .slice (some ⟨B, off, none⟩) (k + 1) cap, .agg #[.int .i64 u, .int .i64 a, .int .i64 b, .int .i64 c]] w (Bk w (.tuple #[.bool (!x), .slice (some ⟨B, off, none⟩) p cap])) := by
 obtain ⟨w1, hw1⟩ := nm ((w.alloc (.cells #[.slice ao m acap, .slice co n ccap] 78)).alloc (.cells #[.int .i64 u, .int .i64 a, .int .i64 b, .int .i64 c] 58))
 have HB1 : Hid (Bw w w1) := by unfold Hid; rw [hw1]; exact (below_alloc1 _ _).trans ((below_alloc1 _ _).mono (by simp))
 have HS1 : Hid (w1.heap.size = w.heap.size + 2) := by unfold Hid; rw [hw1]; simp
 have HX : Hid (∀ W, Bw w1 W → (W.cell? ⟨w.heap.size, 0, none⟩ = some (.slice ao m acap) ∧ W.cell? ⟨w.heap.size, 1, none⟩ = some (.slice co n ccap)) ∧ (W.cell? ⟨w.heap.size + 1, 0, none⟩ = some (.int .i64 u) ∧ W.cell? ⟨w.heap.size + 1, 1, none⟩ = some (.int .i64 a) ∧ W.cell? ⟨w.heap.size + 1, 2, none⟩ = some (.int .i64 b) ∧ W.cell? ⟨w.heap.size + 1, 3, none⟩ = some (.int .i64 c))) := fun W hW => by
  have l0 : w.heap.size < w1.heap.size := by have := HS1.out; omega
  have l1 : w.heap.size + 1 < w1.heap.size := by have := HS1.out; omega
  have e0 : ∀ j, W.cell? ⟨w.heap.size, j, none⟩ = w1.cell? ⟨w.heap.size, j, none⟩ := fun j => hW.cell (show (⟨w.heap.size, j, none⟩ : Addr).block < _ from l0)
  have e1 : ∀ j, W.cell? ⟨w.heap.size + 1, j, none⟩ = w1.cell? ⟨w.heap.size + 1, j, none⟩ := fun j => hW.cell (show (⟨w.heap.size + 1, j, none⟩ : Addr).block < _ from l1)
  simp only [e0, e1]
  rw [hw1]
  have q : w.heap.size + 1 = (w.alloc (.cells #[.slice ao m acap, .slice co n ccap] 78)).heap.size := by simp
  have r : ∀ o j, ((w.alloc (.cells #[.slice ao m acap, .slice co n ccap] 78)).alloc o).cell? ⟨w.heap.size, j, none⟩ = (w.alloc (.cells #[.slice ao m acap, .slice co n ccap] 78)).cell? ⟨w.heap.size, j, none⟩ := fun o j => World.cell?_alloc_lt _ _ ⟨w.heap.size, j, none⟩ (by simp)
  simp only [r]
  rw [q]
  simp
 have d0 : w1.cell? ⟨B, off + k, none⟩ = some (.int .i64 12) := (HB1.out.cell hB).trans hc
 have HI := hide (ih w1 HB1.out)
 have hle : (k : Int) ≤ (cap : Int) := by omega
 obtain ⟨⟨x0, x1⟩, ⟨y0, y1, y2, y3⟩⟩ := HX.out w1 (Below.refl _ _)
 clear hc hB ih
 rw [hw1] at d0 x0 x1 y0 y1 y2 y3
 go_enter Tryz.func74, Tryz.ntmps74
 go_wp2_with fail
 rw [← hw1]
 clear hw1
 go_at_call 74
 refine HI.out.mono ?_
 rintro e w2 ⟨rfl, hb⟩
 have HB2 := bt HB1 hb
 clear hb d0 x0 x1 y0 y1 y2 y3
 go_wp2
 go_ret2
 exact ⟨rfl, HB2.out⟩
theorem is_two (s : Int) (hs : s = 10 ∨ s = 11 ∨ s = 13) (x y : Bool) (ao co : Option Addr) (m n acap ccap : Nat) (k p q B off cap : Nat) (u a b c : Int) (w : World) (hcap : k + 1 ≤ cap) (hk : k ≤ 20) (hB : B < w.heap.size) (hc : w.cell? ⟨B, off + k, none⟩ = some (.int .i64 s))
    (ihy : ∀ W, Bw w W → Calls Tryz.prog 74 #[.agg #[.slice ao m acap, .slice co n ccap], .slice (some ⟨B, off, none⟩) k cap, .agg #[.int .i64 u, .int .i64 a, .int .i64 b, .int .i64 c]] W (Bk W (.tuple #[.bool y, .slice (some ⟨B, off, none⟩) q cap])))
    (ihx : ∀ W, Bw w W → Calls Tryz.prog 74 #[.agg #[.slice ao m acap, .slice co n ccap], .slice (some ⟨B, off, none⟩) q cap, .agg #[.int .i64 u, .int .i64 a, .int .i64 b, .int .i64 c]] W (Bk W (.tuple #[.bool x, .slice (some ⟨B, off, none⟩) p cap]))) :
    Calls Tryz.prog 74 #[.agg #[.slice ao m acap, .slice co n ccap], .slice (some ⟨B, off, none⟩) (k + 1) cap, .agg #[.int .i64 u, .int .i64 a, .int .i64 b, .int .i64 c]] w (Bk w (.tuple #[.bool (boolF s x y), .slice (some ⟨B, off, none⟩) p cap])) := by
 obtain ⟨w1, hw1⟩ := nm ((w.alloc (.cells #[.slice ao m acap, .slice co n ccap] 78)).alloc (.cells #[.int .i64 u, .int .i64 a, .int .i64 b, .int .i64 c] 58))
 have HB1 : Hid (Bw w w1) := by unfold Hid; rw [hw1]; exact (below_alloc1 _ _).trans ((below_alloc1 _ _).mono (by simp))
 have HS1 : Hid (w1.heap.size = w.heap.size + 2) := by unfold Hid; rw [hw1]; simp
 have HX : Hid (∀ W, Bw w1 W → (W.cell? ⟨w.heap.size, 0, none⟩ = some (.slice ao m acap) ∧ W.cell? ⟨w.heap.size, 1, none⟩ = some (.slice co n ccap)) ∧ (W.cell? ⟨w.heap.size + 1, 0, none⟩ = some (.int .i64 u) ∧ W.cell? ⟨w.heap.size + 1, 1, none⟩ = some (.int .i64 a) ∧ W.cell? ⟨w.heap.size + 1, 2, none⟩ = some (.int .i64 b) ∧ W.cell? ⟨w.heap.size + 1, 3, none⟩ = some (.int .i64 c))) := fun W hW => by
  have l0 : w.heap.size < w1.heap.size := by have := HS1.out; omega
  have l1 : w.heap.size + 1 < w1.heap.size := by have := HS1.out; omega
  have e0 : ∀ j, W.cell? ⟨w.heap.size, j, none⟩ = w1.cell? ⟨w.heap.size, j, none⟩ := fun j => hW.cell (show (⟨w.heap.size, j, none⟩ : Addr).block < _ from l0)
  have e1 : ∀ j, W.cell? ⟨w.heap.size + 1, j, none⟩ = w1.cell? ⟨w.heap.size + 1, j, none⟩ := fun j => hW.cell (show (⟨w.heap.size + 1, j, none⟩ : Addr).block < _ from l1)
  simp only [e0, e1]
  rw [hw1]
  have q : w.heap.size + 1 = (w.alloc (.cells #[.slice ao m acap, .slice co n ccap] 78)).heap.size := by simp
  have r : ∀ o j, ((w.alloc (.cells #[.slice ao m acap, .slice co n ccap] 78)).alloc o).cell? ⟨w.heap.size, j, none⟩ = (w.alloc (.cells #[.slice ao m acap, .slice co n ccap] 78)).cell? ⟨w.heap.size, j, none⟩ := fun o j => World.cell?_alloc_lt _ _ ⟨w.heap.size, j, none⟩ (by simp)
  simp only [r]
  rw [q]
  simp
 have d0 : w1.cell? ⟨B, off + k, none⟩ = some (.int .i64 s) := (HB1.out.cell hB).trans hc
 have HI := hide (ihy w1 HB1.out)
 have HJ := hide ihx
 have hle : (k : Int) ≤ (cap : Int) := by omega
 obtain ⟨⟨x0, x1⟩, ⟨y0, y1, y2, y3⟩⟩ := HX.out w1 (Below.refl _ _)
 clear hc hB ihx ihy
 rw [hw1] at d0 x0 x1 y0 y1 y2 y3
 rcases hs with rfl | rfl | rfl
 all_goals
  go_enter Tryz.func74, Tryz.ntmps74
  go_wp2_with fail
  rw [← hw1]
  clear hw1
  go_at_call 74
  refine HI.out.mono ?_
  rintro e w2 ⟨rfl, hb⟩
  have HB2 := bt HB1 hb
  clear d0 x0 x1 y0 y1 y2 y3
  obtain ⟨⟨x0, x1⟩, ⟨y0, y1, y2, y3⟩⟩ := HX.out w2 hb
  clear hb
  go_wp2_with fail
  go_at_call 74
  refine (HJ.out _ HB2.out).mono ?_
  rintro e w3 ⟨rfl, hb3⟩
  have HB3 := bt HB2 hb3
  clear hb3 x0 x1 y0 y1 y2 y3
  cases x <;> cases y
  all_goals
   go_wp2
   go_ret2
   exact ⟨rfl, HB3.out⟩
theorem isF_any (ats : List At) (u a b c : Int) (hok : (Wd.mk u a b c).ok = true) (hgood : ∀ x ∈ ats, x.fault = 0) (hm6 : ats.length ≤ 6) (ao co : Option Addr) (n acap ccap B off cap : Nat) (N : Nat) :
    ∀ (q : List Int), isFm ats.length N q → ∀ (pre : List Int) (w : World), (pre ++ q).length ≤ 20 → (pre ++ q).length ≤ cap → Lies w B off (pre ++ q) → ReadsA w (.slice ao ats.length acap) ats →
    Calls Tryz.prog 74 #[.agg #[.slice ao ats.length acap, .slice co n ccap], .slice (some ⟨B, off, none⟩) (pre ++ q).length cap, .agg #[.int .i64 u, .int .i64 a, .int .i64 b, .int .i64 c]] w (Bk w (.tuple #[.bool (valF ((Wd.mk u a b c).heldL ats) q), .slice (some ⟨B, off, none⟩) pre.length cap])) := by
 induction N with
 | zero => intro q h; exact h.elim
 | succ N ih =>
  intro q h pre w h20 hcap hL hA
  rcases h with ⟨s, h0, h4, rfl⟩ | ⟨t, ht, rfl⟩ | ⟨s, x, y, h5, hx, hy, rfl⟩
  ·have e : (pre ++ [s]).length = pre.length + 1 := by simp
   rw [e] at h20 hcap ⊢
   have hlt : s.toNat < ats.length := by omega
   have hat : ats[s.toNat]? = some (ats[s.toNat]'hlt) := List.getElem?_eq_getElem hlt
   have hf : (ats[s.toNat]'hlt).fault = 0 := hgood _ (List.getElem_mem hlt)
   have hv : valF ((Wd.mk u a b c).heldL ats) [s] = (Wd.mk u a b c).holds (ats[s.toNat]'hlt).k (ats[s.toNat]'hlt).s (ats[s.toNat]'hlt).t (ats[s.toNat]'hlt).n := by
    rw [valF_leaf _ (by omega)]
    unfold Wd.heldL
    rw [List.getD_eq_getElem?_getD, List.getElem?_map, hat]
    rfl
   rw [hv]
   exact is_leaf s h0 _ _ ats ao co _ n acap ccap rfl h4 hm6 hat pre.length B off cap u a b c w hcap (by omega) hL.1 hL.last hA
    (fun W vs vt h1 h2 => refHolds_any _ _ vs vt _ _ u a b c hf hok W h1 h2)
  ·have e0 : pre ++ (t ++ [12]) = (pre ++ t) ++ [12] := by simp
   rw [e0] at h20 hcap hL ⊢
   have e : ((pre ++ t) ++ [12]).length = (pre ++ t).length + 1 := by simp; omega
   rw [e] at h20 hcap ⊢
   rw [val_no _ (cnt_fm hm6 N t ht)]
   exact is_no _ ao co _ n acap ccap (pre ++ t).length pre.length B off cap u a b c w hcap (by omega) hL.1 hL.last
    (fun W hW => ih t ht pre W (by omega) (by omega) (hL.front.below hW) (hA.below hW))
  ·have e0 : pre ++ (x ++ (y ++ [s])) = ((pre ++ x) ++ y) ++ [s] := by simp
   rw [e0] at h20 hcap hL ⊢
   have e : (((pre ++ x) ++ y) ++ [s]).length = ((pre ++ x) ++ y).length + 1 := by simp; omega
   rw [e] at h20 hcap ⊢
   have hle : (pre ++ x).length ≤ ((pre ++ x) ++ y).length := by simp
   rw [valF_two _ h5 (cnt_fm hm6 N x hx) (cnt_fm hm6 N y hy)]
   exact is_two s h5 _ _ ao co _ n acap ccap ((pre ++ x) ++ y).length pre.length (pre ++ x).length B off cap u a b c w hcap (by omega) hL.1 hL.last
    (fun W hW => ih y hy (pre ++ x) W (by omega) (by omega) (hL.front.below hW) (hA.below hW))
    (fun W hW => ih x hx pre W (by omega) (by omega) (hL.front.front.below hW) (hA.below hW))
theorem refTrue_any (va vc : Value) (ats : List At) (d : List Int) (u a b c : Int) (hf : formFault ats d = 0) (hok : (Wd.mk u a b c).ok = true) (w : World) (hA : ReadsA w va ats) (hC : Reads w vc d) :
    Calls Tryz.prog 47 #[.agg #[va, vc], .agg #[.int .i64 u, .int .i64 a, .int .i64 b, .int .i64 c]] w (Bk w (.bool (valF ((Wd.mk u a b c).heldL ats) d))) := by
 obtain ⟨⟨m1, m6⟩, ⟨n1, n20⟩, hgood, hsig, hcnt⟩ := formFault_zero.1 hf
 obtain ⟨N, hN⟩ := treeF hsig hcnt
 obtain ⟨ao, acap, rfl, _⟩ := hA.slice
 rcases hC with ⟨_, _, _, h0⟩ | ⟨B, off, cap, rfl, hB, _, ⟨_, hcap⟩, hcell⟩
 ·rw [h0] at n1; simp at n1
 obtain ⟨w1, hw1⟩ := nm ((w.alloc (.cells #[.slice ao ats.length acap, .slice (some ⟨B, off, none⟩) d.length cap] 78)).alloc (.cells #[.int .i64 u, .int .i64 a, .int .i64 b, .int .i64 c] 58))
 have HB1 : Hid (Bw w w1) := by unfold Hid; rw [hw1]; exact (below_alloc1 _ _).trans ((below_alloc1 _ _).mono (by simp))
 have HI : Hid (∀ W, Bw w W → Calls Tryz.prog 74 #[.agg #[.slice ao ats.length acap, .slice (some ⟨B, off, none⟩) d.length cap], .slice (some ⟨B, off, none⟩) d.length cap, .agg #[.int .i64 u, .int .i64 a, .int .i64 b, .int .i64 c]] W (Bk W (.tuple #[.bool (valF ((Wd.mk u a b c).heldL ats) d), .slice (some ⟨B, off, none⟩) 0 cap]))) := fun W hW =>
  isF_any ats u a b c hok hgood m6 ao (some ⟨B, off, none⟩) d.length acap cap B off cap N d hN [] W n20 hcap ((show Lies w B off d from ⟨hB, hcell⟩).below hW) (hA.below hW)
 obtain ⟨V, hV⟩ := nm (valF ((Wd.mk u a b c).heldL ats) d)
 rw [← hV] at HI ⊢
 obtain ⟨m, hm⟩ := nm ats.length
 obtain ⟨n, hn⟩ := nm d.length
 rw [← hm, ← hn] at HI hw1 ⊢
 clear hV hm hn hA hcell hf hok m1 m6 n1 n20 hgood hsig hcnt hN hcap hB
 go_enter Tryz.func47, Tryz.ntmps47
 go_wp2_with fail
 rw [← hw1]
 clear hw1
 go_at_call 74
 refine (HI.out _ HB1.out).mono ?_
 rintro e w2 ⟨rfl, hb⟩
 have HB2 := bt HB1 hb
 clear hb
 go_wp2
 go_ret
 exact ⟨rfl, HB2.out⟩
def cellsD (l : List Wd) : List Value := l.flatMap fun D => (arrW D).toList
theorem cellsD_at (l : List Wd) : ∀ (i : Nat) (D : Wd), l[i]? = some D → ∀ f, f < 4 → (cellsD l)[i * 4 + f]? = (arrW D)[f]? := by
 induction l with
 | nil => intro i r h; simp at h
 | cons q l ih =>
  intro i r h f hf
  have e : cellsD (q :: l) = (arrW q).toList ++ cellsD l := by unfold cellsD; rw [List.flatMap_cons]
  have hl : (arrW q).toList.length = 4 := rfl
  rw [e]
  cases i with
  | zero =>
   obtain rfl : q = r := by simpa using h
   rw [List.getElem?_append_left (by omega), show 0 * 4 + f = f by omega, Array.getElem?_toList]
  | succ i =>
   rw [List.getElem?_append_right (by omega), hl, show (i + 1) * 4 + f - 4 = i * 4 + f by omega]
   exact ih i r (by simpa using h) f hf
def WdAt (w : World) (b off : Nat) (D : Wd) : Prop := w.cell? ⟨b, off, none⟩ = some (.int .i64 D.u) ∧ w.cell? ⟨b, off + 1, none⟩ = some (.int .i64 D.a) ∧ w.cell? ⟨b, off + 2, none⟩ = some (.int .i64 D.b) ∧ w.cell? ⟨b, off + 3, none⟩ = some (.int .i64 D.c)
theorem WdAt.at {K : Nat} {w w' : World} {b off : Nat} {D : Wd} (h : WdAt w b off D) (hb : Below K w w') (hB : b < K) : WdAt w' b off D :=
 ⟨(hb.cell hB).trans h.1, (hb.cell hB).trans h.2.1, (hb.cell hB).trans h.2.2.1, (hb.cell hB).trans h.2.2.2⟩
theorem infoD : (Tryz.prog.info? 58).isSome = true := by kernel_rfl
theorem zeroD : (Tryz.prog.info? 58).bind (·.zero) = some (.agg #[.int .i64 0, .int .i64 0, .int .i64 0, .int .i64 0]) := by kernel_rfl
theorem sizeD : (Tryz.prog.info? 58).map (·.size) = some 4 := by kernel_rfl
theorem bytesD : (Tryz.prog.info? 58).map (·.bytes) = some 32 := by kernel_rfl
theorem append_world {w : World} {ops : Array Oper} {rest : List Oper} {o : Oper} {a : Act} {Q : Exit → Act → World → Prop} (hgd : o.guard = none) (s x : Operand)
    (ho : o.op = .call { callee := .builtin .append, args := #[s, x], argTypes := #[66, 66] }) (K : Nat) (v : Value) (hs : a.eval s = v) (l : List Wd) (D : Wd) (B c : Nat) (hx : a.eval x = .slice (some ⟨B, 0, none⟩) 1 c)
    (hown : w.ownsRow K 58 4 v l.length (cellsD l)) (hB : w.heap[B]? = some (.cells (arrW D) 58 (0, 0))) (hK : K ≤ w.heap.size) (h12 : l.length ≤ 2000)
    (h : ∀ v' w', w'.ownsRow K 58 4 v' (l.length + 1) (cellsD (l ++ [D])) → w.grownBy w' v.ownBlock → wpList Tryz.prog ops Q rest (a.put o.dst v') w') :
    wpList Tryz.prog ops Q (o :: rest) a w := by
 obtain ⟨i1, hi⟩ : ∃ i, Tryz.prog.info? 58 = some i := Option.isSome_iff_exists.1 infoD
 have hz0 : i1.zero = some (.agg #[.int .i64 0, .int .i64 0, .int .i64 0, .int .i64 0]) := by have := zeroD; rw [hi] at this; simpa using this
 have hz1 : i1.size = 4 := by have := sizeD; rw [hi] at this; simpa using this
 have hz2 : i1.bytes = 32 := by have := bytesD; rw [hi] at this; simpa using this
 refine wpList_append_own_at w hgd s x 66 ho K 58 i1 _ 4 32 Tryz.underlying66 hi hz0 hz1 hz2 rfl (by decide) v l.length (cellsD l) hs hown ⟨B, 0, none⟩ 1 c (arrW D).toList hx rfl (World.news_of_block hB) (by simp [arrW, Value.oneCell']) (by unfold maxLen; omega) (by omega) hK ?_
 intro v' w' h1 h2 _ _
 refine h v' w' ?_ h2
 have e : cellsD (l ++ [D]) = cellsD l ++ (arrW D).toList := by unfold cellsD; rw [List.flatMap_append]; simp
 rw [e]
 exact h1
theorem refWorlds_new (u : Nat) (hu : u ≤ 6) (w : World) :
    Calls Tryz.prog 23 #[.int .i64 u] w fun e w' => ∃ b cap, e = .returned (.slice (some ⟨b, 0, none⟩) (worldsL u).length cap) ∧ w.heap.size ≤ b ∧ b < w'.heap.size ∧ (∀ i D, (worldsL u)[i]? = some D → WdAt w' b (i * 4) D) ∧ Bw w w' := by
 obtain ⟨L, hL⟩ := nm (everyC u)
 have HAl : Hid (∀ W, Calls Tryz.prog 17 #[.int .i64 u] W fun e w' => ∃ bE oE ecap, e = .returned (.slice (some ⟨bE, oE, none⟩) L.length ecap) ∧ (bE < w'.heap.size ∧ ∀ i N, L[i]? = some N → CntAt w' bE (oE + i * 8) N) ∧ Bw W w') := fun W => by
  refine (refAll_any u hu W).mono ?_
  rintro e w' ⟨v, rfl, hr, _, hb⟩
  rw [← hL] at hr
  rcases hr with ⟨ao, cap, rfl, h0⟩ | ⟨b, off, cap, rfl, h2, h3, h4, h5⟩
  ·rw [hL] at h0; exact absurd h0 (allF_ne 7 u _)
  ·exact ⟨b, off, cap, rfl, ⟨h2, h5⟩, hb⟩
 have HLn : Hid (L.length ≤ 1716) := by unfold Hid; rw [hL]; exact length_everyC hu
 have HL0 : Hid (0 < L.length) := by
  unfold Hid; rw [hL]
  exact List.length_pos_iff.2 (allF_ne 7 u _)
 have HMd : Hid (∀ (i : Nat) N, L[i]? = some N → ∀ W, Calls Tryz.prog 19 #[.agg #[.int .i64 (N 0), .int .i64 (N 1), .int .i64 (N 2), .int .i64 (N 3), .int .i64 (N 4), .int .i64 (N 5), .int .i64 (N 6), .int .i64 (N 7)]] W (Bk W (.agg #[.int .i64 (madeN N 8).u, .int .i64 (madeN N 8).a, .int .i64 (madeN N 8).b, .int .i64 (madeN N 8).c]))) := fun i N hN W => refMade_right N W (everyC_right hu (by rw [← hL]; exact List.mem_of_getElem? hN))
 have eW : worldsL u = L.map fun N => madeN N 8 := by unfold worldsL; rw [hL]
 rw [eW]
 clear hL eW
 go_enter Tryz.func23, Tryz.ntmps23
 go_wp2_with fail
 go_at_call 17
 refine (HAl.out _).mono ?_
 rintro e w1 ⟨bE, oE, ecap, rfl, ⟨hbE, hat⟩, hb⟩
 have HB1 := hide hb
 have HbE := hide hbE
 have HAt := hide hat
 clear hb hbE hat
 have hL63 := HLn.out
 go_wp2
 go_loopw [4, 5] (fun r i wr => ∃ k : Nat, k ≤ L.length ∧ i = .int .i64 k ∧ wr.ownsRow w1.heap.size 58 4 r k (cellsD ((L.take k).map fun N => madeN N 8)) ∧ Bw w1 wr) (fun _ i _ => L.length - (intOf i).toNat)
 case atStart => exact ⟨0, Nat.zero_le _, rfl, World.ownsRow_nil _ _ _ _, Below.refl _ _⟩
 case round =>
  obtain ⟨k, hk, rfl, hown, hbr⟩ := hrel
  have HBr := hide hbr
  have HOw := hide hown
  clear hbr hown
  by_cases hlt : k < L.length
  ·obtain ⟨N, hN⟩ : ∃ N, L[k]? = some N := ⟨_, List.getElem?_eq_getElem hlt⟩
   have HMk := hide (HMd.out k N hN)
   have HCt := hide (HAt.out k N hN)
   obtain ⟨l, hl⟩ := nm ((L.take k).map fun N => madeN N 8)
   have HLl : Hid (l.length = k) := by unfold Hid; rw [hl, List.length_map, List.length_take]; omega
   obtain ⟨D, hD⟩ := nm (madeN N 8)
   have HLs : Hid (((L.take (k + 1)).map fun N => madeN N 8) = l ++ [D]) := by
    unfold Hid; rw [List.take_add_one, hN, List.map_append, ← hl, hD]; rfl
   rw [← hD] at HMk
   have HO4 : Hid (wr.ownsRow w1.heap.size 58 4 u4 l.length (cellsD l)) := by unfold Hid; rw [HLl.out, hl]; exact HOw.out
   clear hN hl hD
   have y0 : wr.cell? ⟨bE, oE + k * 8, none⟩ = some (.int .i64 (N 0)) := (HBr.out.cell HbE.out).trans (HCt.out 0 (by omega))
   have y1 : wr.cell? ⟨bE, oE + k * 8 + 1, none⟩ = some (.int .i64 (N 1)) := (HBr.out.cell HbE.out).trans (HCt.out 1 (by omega))
   have y2 : wr.cell? ⟨bE, oE + k * 8 + 2, none⟩ = some (.int .i64 (N 2)) := (HBr.out.cell HbE.out).trans (HCt.out 2 (by omega))
   have y3 : wr.cell? ⟨bE, oE + k * 8 + 3, none⟩ = some (.int .i64 (N 3)) := (HBr.out.cell HbE.out).trans (HCt.out 3 (by omega))
   have y4 : wr.cell? ⟨bE, oE + k * 8 + 4, none⟩ = some (.int .i64 (N 4)) := (HBr.out.cell HbE.out).trans (HCt.out 4 (by omega))
   have y5 : wr.cell? ⟨bE, oE + k * 8 + 5, none⟩ = some (.int .i64 (N 5)) := (HBr.out.cell HbE.out).trans (HCt.out 5 (by omega))
   have y6 : wr.cell? ⟨bE, oE + k * 8 + 6, none⟩ = some (.int .i64 (N 6)) := (HBr.out.cell HbE.out).trans (HCt.out 6 (by omega))
   have y7 : wr.cell? ⟨bE, oE + k * 8 + 7, none⟩ = some (.int .i64 (N 7)) := (HBr.out.cell HbE.out).trans (HCt.out 7 (by omega))
   go_wp2_with fail
   go_at_call 19
   refine (HMk.out _).mono ?_
   rintro e w5 ⟨rfl, hb⟩
   have HB5 := bt HBr hb
   have HO5 : Hid (w5.ownsRow w1.heap.size 58 4 u4 l.length (cellsD l)) := ownsRow_below HO4.out hb
   clear hb y0 y1 y2 y3 y4 y5 y6 y7
   obtain ⟨w6, hw6⟩ := nm (w5.alloc (.cells (arrW D) 58))
   have HB6 : Hid (Bw w1 w6) := by unfold Hid; rw [hw6]; exact HB5.out.alloc HB5.out.size _
   have HO6 : Hid (w6.ownsRow w1.heap.size 58 4 u4 l.length (cellsD l)) := by unfold Hid; rw [hw6]; exact HO5.out.alloc _
   have HQ6 : Hid (Blk w6 w5.heap.size 58 (arrW D)) := by unfold Hid; rw [hw6]; exact Blk.new _ _ _
   simp only [arrW] at hw6
   go_upto_region 7 with fail
   rw [← hw6]
   clear hw6
   obtain ⟨d0, d1, d2, d3⟩ := HQ6.out.cells4
   have HS6 := hide (HB6.out.size)
   have hl12 : l.length ≤ 2000 := by have := HLl.out; omega
   go_wp2_with (at_builtin; refine append_world rfl _ _ rfl w1.heap.size u4 rfl l D w6.heap.size 1 rfl (HO6.out.alloc _) (heap_alloc_new w6 _) (by have := HS6.out; simp; omega) hl12 ?_)
   intro v9 w9 hown hgrow
   have HBa : Hid (Bw w1 (w6.alloc (.cells #[.int .i64 D.u, .int .i64 D.a, .int .i64 D.b, .int .i64 D.c] 58))) := HB6.out.alloc HB6.out.size _
   have HB9 : Hid (Bw w1 w9) := HBa.out.grown hgrow HBa.out.size (fun x hx => (HO6.out.lt x hx).1)
   have HO9 : Hid (w9.ownsRow w1.heap.size 58 4 v9 (k + 1) (cellsD ((L.take (k + 1)).map fun N => madeN N 8))) := by
    unfold Hid
    rw [HLs.out, ← HLl.out]
    exact hown
   clear hown hgrow d0 d1 d2 d3
   go_wp2
   go_roundw
   case rel => exact ⟨k + 1, by omega, by go_num, HO9.out, HB9.out⟩
   case measure => simp [intOf]; omega
  ·obtain rfl : k = L.length := by omega
   have h := HOw.out
   rw [List.take_length] at h
   obtain ⟨b, cap, hv, hnew, hbl, hcells⟩ : ∃ b cap, u4 = .slice (some ⟨b, 0, none⟩) L.length cap ∧ w.heap.size ≤ b ∧ b < wr.heap.size ∧ ∀ i D, (L.map fun N => madeN N 8)[i]? = some D → WdAt wr b (i * 4) D := by
    rcases h.2 with ⟨_, h0⟩ | ⟨g, cap, cur, rfl, hb, hg, hc, hmx, hs, ht⟩
    ·have := HL0.out; omega
    ·refine ⟨g, cap, rfl, Nat.le_trans HB1.out.size hb, (Array.getElem?_eq_some_iff.1 hg).1, fun i D hD => ?_⟩
     have hi : i < L.length := by have := (List.getElem?_eq_some_iff.1 hD).1; simpa using this
     have kx : ∀ f, f < 4 → wr.cell? ⟨g, i * 4 + f, none⟩ = (arrW D)[f]? := fun f hf => by
      rw [cell_of_row wr g _ cur _ (0, 0) hg]
      have hx := cellsD_at (L.map fun N => madeN N 8) i D hD f hf
      rw [← ht, List.getElem?_take_of_lt (by omega)] at hx
      rw [← Array.getElem?_toList]
      exact hx
     exact ⟨kx 0 (by omega), kx 1 (by omega), kx 2 (by omega), kx 3 (by omega)⟩
   subst hv
   have HC : Hid (w.heap.size ≤ b ∧ b < wr.heap.size ∧ ∀ i D, (L.map fun N => madeN N 8)[i]? = some D → WdAt wr b (i * 4) D) := ⟨hnew, hbl, hcells⟩
   have HB := hide (HB1.out.trans (HBr.out.mono HB1.out.size))
   clear h hnew hbl hcells HOw
   go_wp2
   go_ret
   exact ⟨b, cap, by first | (rw [List.length_map]; done) | (rw [List.length_map]; rfl), HC.out.1, HC.out.2.1, HC.out.2.2, HB.out⟩
theorem refWorlds_any (u : Nat) (hu : u ≤ 6) (w : World) :
    Calls Tryz.prog 23 #[.int .i64 u] w fun e w' => ∃ b cap, e = .returned (.slice (some ⟨b, 0, none⟩) (worldsL u).length cap) ∧ b < w'.heap.size ∧ (∀ i D, (worldsL u)[i]? = some D → WdAt w' b (i * 4) D) ∧ Bw w w' :=
 (refWorlds_new u hu w).mono fun _ _ ⟨b, cap, h1, _, h2, h3, h4⟩ => ⟨b, cap, h1, h2, h3, h4⟩
theorem refSo_any (v : Value) (fs : List Fm) (hgood : ∀ f ∈ fs, f.fault = 0) (D : Wd) (hok : D.ok = true) (w : World) (hF : ReadsF w v fs) :
    Calls Tryz.prog 18 #[v, .agg #[.int .i64 D.u, .int .i64 D.a, .int .i64 D.b, .int .i64 D.c]] w (Bk w (.bool (D.so fs))) := by
 obtain ⟨lo, lcap, rfl, hl63⟩ := hF.slice
 have HF := hide hF
 have HTr : Hid (∀ (i : Nat) f va vc, fs[i]? = some f → ∀ W, ReadsA W va f.ats → Reads W vc f.c → Calls Tryz.prog 47 #[.agg #[va, vc], .agg #[.int .i64 D.u, .int .i64 D.a, .int .i64 D.b, .int .i64 D.c]] W (Bk W (.bool (D.formIs f.ats f.c)))) := fun i f va vc hf W hA hC => by
  have hz : formFault f.ats f.c = 0 := hgood f (List.mem_of_getElem? hf)
  have h := refTrue_any va vc f.ats f.c D.u D.a D.b D.c hz hok W hA hC
  have e : D.formIs f.ats f.c = valF (D.heldL f.ats) f.c := by unfold Wd.formIs; rw [if_pos (wdForm_zero.2 ⟨hz, hok⟩)]
  rw [e]
  exact h
 have HAll : Hid ((∀ j, j < fs.length → ∀ f, fs[j]? = some f → D.formIs f.ats f.c = true) → D.so fs = true) := fun h => by
  unfold Wd.so
  rw [List.all_eq_true]
  intro f hf
  obtain ⟨i, hi⟩ := List.mem_iff_getElem?.1 hf
  exact h i (List.getElem?_eq_some_iff.1 hi).1 f hi
 have HNot : Hid (∀ (j : Nat) f, fs[j]? = some f → D.formIs f.ats f.c = false → D.so fs = false) := fun j f hf h => by
  unfold Wd.so
  rw [List.all_eq_false]
  exact ⟨f, List.mem_of_getElem? hf, by rw [h]; decide⟩
 obtain ⟨R, hR⟩ := nm (D.so fs)
 rw [← hR] at HAll HNot ⊢
 obtain ⟨w1, hw1⟩ := nm (w.alloc (.cells #[.int .i64 D.u, .int .i64 D.a, .int .i64 D.b, .int .i64 D.c] 58))
 have HB1 : Hid (Bw w w1) := by unfold Hid; rw [hw1]; exact below_alloc1 _ _
 have HQ1 : Hid (Blk w1 w.heap.size 58 (arrW D)) := by unfold Hid; rw [hw1]; exact Blk.new _ _ _
 obtain ⟨n, hn⟩ := nm fs.length
 rw [← hn] at HF hl63 HAll ⊢
 have HN := hide hn
 clear hF hgood hok hR hn
 go_enter Tryz.func18, Tryz.ntmps18
 go_wp2
 rw [← hw1]
 clear hw1
 go_loopw [5, 6] (fun i _ wr => ∃ k : Nat, k ≤ n ∧ i = .int .i64 k ∧ Bw w1 wr ∧ ∀ j, j < k → ∀ f, fs[j]? = some f → D.formIs f.ats f.c = true) (fun i _ _ => n - (intOf i).toNat)
 case atStart => exact ⟨0, Nat.zero_le _, rfl, Below.refl _ _, fun j hj => by omega⟩
 case round =>
  obtain ⟨k, hk, rfl, hbr, hso⟩ := hrel
  have HBr := hide hbr
  have HBw := bt HB1 hbr
  have HSo := hide hso
  clear hbr hso
  by_cases hlt : k < n
  ·obtain ⟨f, hf⟩ : ∃ f, fs[k]? = some f := ⟨_, List.getElem?_eq_getElem (by rw [← HN.out]; exact hlt)⟩
   have HFk := hide hf
   obtain ⟨bL, oL, cL, hv⟩ := HF.out.place (by rw [← HN.out]; omega)
   obtain ⟨hlo, hx1, hx2⟩ := Value.slice.inj hv
   clear hx1 hx2
   subst hlo
   obtain ⟨hbL, va, vc, c0, c1, hA, hC⟩ := HF.out.at hf
   obtain ⟨ao, acap, rfl, _⟩ := hA.slice
   obtain ⟨co, ccap, rfl, _⟩ := hC.slice
   have x0 : wr.cell? ⟨bL, oL + k * 2, none⟩ = some (.slice ao f.ats.length acap) := (HBw.out.cell hbL).trans c0
   have x1 : wr.cell? ⟨bL, oL + k * 2 + 1, none⟩ = some (.slice co f.c.length ccap) := (HBw.out.cell hbL).trans c1
   have HT1 : Hid (∀ W, Bw wr W → Calls Tryz.prog 47 #[.agg #[.slice ao f.ats.length acap, .slice co f.c.length ccap], .agg #[.int .i64 D.u, .int .i64 D.a, .int .i64 D.b, .int .i64 D.c]] W (Bk wr (.bool (D.formIs f.ats f.c)))) := fun W hW => by
    have hb' := HBw.out.trans (hW.mono HBw.out.size)
    exact (HTr.out k f _ _ hf W (hA.below hb') (hC.below hb')).mono fun e w' ⟨he, hb⟩ => ⟨he, hW.trans (hb.mono hW.size)⟩
   obtain ⟨q, hq⟩ := nm (D.formIs f.ats f.c)
   have HQ := hide hq
   rw [← hq] at HT1
   obtain ⟨al, hal⟩ := nm f.ats.length
   obtain ⟨cl, hcl⟩ := nm f.c.length
   rw [← hal] at x0 HT1
   rw [← hcl] at x1 HT1
   obtain ⟨d0, d1, d2, d3⟩ := (HQ1.out.below HBr.out).cells4
   clear hf hv hbL c0 c1 hA hC hq hal hcl
   have hkn : (k : Int) < (n : Int) := by omega
   go_upto_region 4 with fail
   go_cut [6] from 7 to 20 (fun x wx => x = .bool q ∧ Bw wr wx)
   case first =>
    go_region_with (go_at_call 47; refine (HT1.out _ (by first | exact Below.drew (Below.refl _ _) | exact Below.refl _ _)).mono ?_; rintro e w8 ⟨rfl, hb8⟩)
    all_goals (try go_wp2)
    all_goals go_meet
    all_goals exact ⟨rfl, hb8⟩
   case rest =>
    obtain ⟨rfl, hbc⟩ := hcut
    obtain ⟨wf, hwf⟩ := nm wc
    subst hwf
    have HBf := bt HBr hbc
    clear hbc x0 x1 d0 d1 d2 d3
    cases q with
    | true =>
     have HS1 : Hid (∀ j, j < k + 1 → ∀ f, fs[j]? = some f → D.formIs f.ats f.c = true) := fun j hj g hg => by
      rcases Nat.lt_or_ge j k with h | h
      ·exact HSo.out j h g hg
      ·obtain rfl : j = k := by omega
       have e := HFk.out.symm.trans hg
       rw [← Option.some.inj e]
       exact HQ.out.symm
     clear HQ
     go_wp2
     go_roundw
     case rel => exact ⟨k + 1, by omega, by go_num, HBf.out, HS1.out⟩
     case measure => simp [intOf]; omega
    | false =>
     have HRf := hide (HNot.out k f HFk.out HQ.out.symm)
     clear HQ
     go_wp2
     go_ret
     exact ⟨by first | (rw [HRf.out]; done) | (rw [HRf.out]; rfl), HB1.out.trans (HBf.out.mono HB1.out.size)⟩
  ·obtain rfl : k = n := by omega
   have HRt := hide (HAll.out HSo.out)
   go_wp2
   go_ret
   exact ⟨by first | (rw [HRt.out]; done) | (rw [HRt.out]; rfl), HBw.out⟩
theorem refOpen_any (v : Value) (fs : List Fm) (hgood : ∀ f ∈ fs, f.fault = 0) (u : Nat) (hu : u ≤ 6) (w : World) (hF : ReadsF w v fs) :
    Calls Tryz.prog 31 #[v, .int .i64 u] w (Bk w (.bool (openN fs u))) := by
 obtain ⟨lo, lcap, rfl, hl63⟩ := hF.slice
 have eO : openN fs u = (worldsL u).any fun D => D.so fs := by unfold openN worldsL; rw [List.any_map]; rfl
 obtain ⟨L, hL⟩ := nm (worldsL u)
 have HWo : Hid (∀ W, Calls Tryz.prog 23 #[.int .i64 u] W fun e w' => (∃ b cap, e = .returned (.slice (some ⟨b, 0, none⟩) L.length cap) ∧ b < w'.heap.size ∧ ∀ i D, L[i]? = some D → WdAt w' b (i * 4) D) ∧ Bw W w') := fun W => by
  refine (refWorlds_any u hu W).mono ?_
  rintro e w' ⟨b, cap, rfl, h1, h2, hb⟩
  rw [hL]
  exact ⟨⟨b, cap, rfl, h1, h2⟩, hb⟩
 have HSo : Hid (∀ (i : Nat) D, L[i]? = some D → ∀ W, Bw w W → Calls Tryz.prog 18 #[.slice lo fs.length lcap, .agg #[.int .i64 D.u, .int .i64 D.a, .int .i64 D.b, .int .i64 D.c]] W (Bk W (.bool (D.so fs)))) := fun i D hD W hW => refSo_any _ fs hgood D (worldsL_ok hu (by rw [← hL]; exact List.mem_of_getElem? hD)) W (hF.below hW)
 have HLn : Hid (L.length ≤ 1716) := by unfold Hid; rw [hL, worldsL_length]; exact length_everyC hu
 have HAny : Hid (∀ (i : Nat) D, L[i]? = some D → D.so fs = true → openN fs u = true) := fun i D hD h => by
  rw [eO, ← hL, List.any_eq_true]
  exact ⟨D, List.mem_of_getElem? hD, h⟩
 have HNone : Hid ((∀ j, j < L.length → ∀ D, L[j]? = some D → D.so fs = false) → openN fs u = false) := fun h => by
  rw [eO, ← hL, List.any_eq_false]
  intro D hD
  obtain ⟨i, hi⟩ := List.mem_iff_getElem?.1 hD
  rw [h i (List.getElem?_eq_some_iff.1 hi).1 D hi]
  decide
 obtain ⟨R, hR⟩ := nm (openN fs u)
 rw [← hR] at HAny HNone ⊢
 obtain ⟨n, hn⟩ := nm fs.length
 rw [← hn] at HSo ⊢
 clear hF hgood eO hL hR hn hl63
 go_enter Tryz.func31, Tryz.ntmps31
 go_wp2_with fail
 go_at_call 23
 refine (HWo.out _).mono ?_
 rintro e w1 ⟨⟨b, cap, rfl, hb1, hat⟩, hb⟩
 have HB1 := hide hb
 have Hb1 := hide hb1
 have HAt := hide hat
 clear hb hb1 hat
 have hL63 := HLn.out
 go_wp2
 go_loopw [6, 7] (fun i _ wr => ∃ k : Nat, k ≤ L.length ∧ i = .int .i64 k ∧ Bw w1 wr ∧ ∀ j, j < k → ∀ D, L[j]? = some D → D.so fs = false) (fun i _ _ => L.length - (intOf i).toNat)
 case atStart => exact ⟨0, Nat.zero_le _, rfl, Below.refl _ _, fun j hj => by omega⟩
 case round =>
  obtain ⟨k, hk, rfl, hbr, hno⟩ := hrel
  have HBr := hide hbr
  have HBw := bt HB1 hbr
  have HNo := hide hno
  clear hbr hno
  by_cases hlt : k < L.length
  ·obtain ⟨D, hD⟩ : ∃ D, L[k]? = some D := ⟨_, List.getElem?_eq_getElem hlt⟩
   have HD := hide hD
   have HSk := hide (HSo.out k D hD wr HBw.out)
   obtain ⟨y0, y1, y2, y3⟩ := (HAt.out k D hD).at HBr.out Hb1.out
   obtain ⟨q, hq⟩ := nm (D.so fs)
   have HQ := hide hq
   rw [← hq] at HSk
   clear hD hq
   go_wp2_with fail
   go_at_call 18
   refine HSk.out.mono ?_
   rintro e w5 ⟨rfl, hb⟩
   have HB5 := bt HBr hb
   clear hb y0 y1 y2 y3
   cases q with
   | true =>
    have HRt := hide (HAny.out k D HD.out HQ.out.symm)
    clear HQ
    go_wp2
    go_ret
    exact ⟨by first | (rw [HRt.out]; done) | (rw [HRt.out]; rfl), HB1.out.trans (HB5.out.mono HB1.out.size)⟩
   | false =>
    have HN1 : Hid (∀ j, j < k + 1 → ∀ D, L[j]? = some D → D.so fs = false) := fun j hj E hE => by
     rcases Nat.lt_or_ge j k with h | h
     ·exact HNo.out j h E hE
     ·obtain rfl : j = k := by omega
      have e := HD.out.symm.trans hE
      rw [← Option.some.inj e]
      exact HQ.out.symm
    clear HQ
    go_wp2
    go_roundw
    case rel => exact ⟨k + 1, by omega, by go_num, HB5.out, HN1.out⟩
    case measure => simp [intOf]; omega
  ·obtain rfl : k = L.length := by omega
   have HRf := hide (HNone.out HNo.out)
   go_wp2
   go_ret
   exact ⟨by first | (rw [HRf.out]; done) | (rw [HRf.out]; rfl), HBw.out⟩
end Go.Proofs.YtnoohlibgaeklaaGreatDoor
