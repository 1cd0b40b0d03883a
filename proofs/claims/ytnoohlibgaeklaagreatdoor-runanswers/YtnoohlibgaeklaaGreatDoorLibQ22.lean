/-
  Facts and contracts that the statement leans on.
-/
import Derived.Test.YtnoohlibgaeklaaGreatDoorLibQ4
import Derived.Test.YtnoohlibgaeklaaGreatDoorLibQ2
import Derived.Test.YtnoohlibgaeklaaGreatDoorLibQ21
import Derived.Test.YtnoohlibgaeklaaGreatDoorLibQ11
import Derived.Test.YtnoohlibgaeklaaGreatDoorLibQ10
import Derived.Test.YtnoohlibgaeklaaGreatDoorLibQ14
import Derived.Shelf.Abstract
import Derived.Deep.LoopGhost
import Derived.Deep.CutRange
import Derived.Deep.RegionWith
import Derived.OwnWalk
namespace Go.Proofs.YtnoohlibgaeklaaGreatDoor
open Go.ChangeShapes Go.WideShapes Go.ChangeAt Go.RowKit
set_option maxRecDepth 100000
set_option maxHeartbeats 16000000
theorem says_1 (n x y : Int) (sao tao : Option Addr) (sl scap tl tcap : Nat) (w : World) (x0 : 0 ≤ x) (x1 : x < 64) (y0 : 0 ≤ y) (y1 : y < 64) :
    Calls Tryz.prog 179 #[.agg #[.int .i64 1, .slice sao sl scap, .slice tao tl tcap, .int .i64 n], .int .i64 x, .int .i64 y] w (Bk w (.bool (saysB 1 n x y))) := by
 have HB : Hid (Bw w (w.alloc (.cells #[.int .i64 1, .slice sao sl scap, .slice tao tl tcap, .int .i64 n] 71))) := below_alloc1 w _
 have hp := pcN_le x
 have hq := pcN_le y
 have HR : Hid (saysB 1 n x y = (bits .andNot .i64 x y == 0)) := by
  unfold Hid saysB
  rw [less_bits x y x0 x1 y0 y1]; simp; rfl
 obtain ⟨R, hR⟩ := nm (saysB 1 n x y)
 rw [← hR] at HR ⊢
 clear hR
 go_enter Tryz.func179, Tryz.ntmps179
 go_wp2_with (go_at_call 196; refine (ones_any _ ?_ ?_ _).mono ?_; omega; omega; rintro e w' ⟨rfl, rfl⟩)
 go_ret
 exact ⟨back_b HR.out.symm, HB.out⟩
theorem says_2 (n x y : Int) (sao tao : Option Addr) (sl scap tl tcap : Nat) (w : World) (x0 : 0 ≤ x) (x1 : x < 64) (y0 : 0 ≤ y) (y1 : y < 64) :
    Calls Tryz.prog 179 #[.agg #[.int .i64 2, .slice sao sl scap, .slice tao tl tcap, .int .i64 n], .int .i64 x, .int .i64 y] w (Bk w (.bool (saysB 2 n x y))) := by
 have HB : Hid (Bw w (w.alloc (.cells #[.int .i64 2, .slice sao sl scap, .slice tao tl tcap, .int .i64 n] 71))) := below_alloc1 w _
 have hp := pcN_le x
 have hq := pcN_le y
 have HR : Hid (saysB 2 n x y = (x == y)) := by
  unfold Hid saysB
  simp; rfl
 obtain ⟨R, hR⟩ := nm (saysB 2 n x y)
 rw [← hR] at HR ⊢
 clear hR
 go_enter Tryz.func179, Tryz.ntmps179
 go_wp2_with (go_at_call 196; refine (ones_any _ ?_ ?_ _).mono ?_; omega; omega; rintro e w' ⟨rfl, rfl⟩)
 go_ret
 exact ⟨back_b HR.out.symm, HB.out⟩
theorem says_3 (n x y : Int) (sao tao : Option Addr) (sl scap tl tcap : Nat) (w : World) (x0 : 0 ≤ x) (x1 : x < 64) (y0 : 0 ≤ y) (y1 : y < 64) :
    Calls Tryz.prog 179 #[.agg #[.int .i64 3, .slice sao sl scap, .slice tao tl tcap, .int .i64 n], .int .i64 x, .int .i64 y] w (Bk w (.bool (saysB 3 n x y))) := by
 have HB : Hid (Bw w (w.alloc (.cells #[.int .i64 3, .slice sao sl scap, .slice tao tl tcap, .int .i64 n] 71))) := below_alloc1 w _
 have hp := pcN_le x
 have hq := pcN_le y
 have HR : Hid (saysB 3 n x y = decide (n ≤ pcN x)) := by
  unfold Hid saysB
  simp
 obtain ⟨R, hR⟩ := nm (saysB 3 n x y)
 rw [← hR] at HR ⊢
 clear hR
 go_enter Tryz.func179, Tryz.ntmps179
 go_wp2_with (go_at_call 196; refine (ones_any _ ?_ ?_ _).mono ?_; omega; omega; rintro e w' ⟨rfl, rfl⟩)
 go_ret
 exact ⟨back_b HR.out.symm, HB.out⟩
theorem says_4 (n x y : Int) (sao tao : Option Addr) (sl scap tl tcap : Nat) (w : World) (x0 : 0 ≤ x) (x1 : x < 64) (y0 : 0 ≤ y) (y1 : y < 64) :
    Calls Tryz.prog 179 #[.agg #[.int .i64 4, .slice sao sl scap, .slice tao tl tcap, .int .i64 n], .int .i64 x, .int .i64 y] w (Bk w (.bool (saysB 4 n x y))) := by
 have HB : Hid (Bw w (w.alloc (.cells #[.int .i64 4, .slice sao sl scap, .slice tao tl tcap, .int .i64 n] 71))) := below_alloc1 w _
 have hp := pcN_le x
 have hq := pcN_le y
 have HR : Hid (saysB 4 n x y = decide (pcN x ≤ n)) := by
  unfold Hid saysB
  simp
 obtain ⟨R, hR⟩ := nm (saysB 4 n x y)
 rw [← hR] at HR ⊢
 clear hR
 go_enter Tryz.func179, Tryz.ntmps179
 go_wp2_with (go_at_call 196; refine (ones_any _ ?_ ?_ _).mono ?_; omega; omega; rintro e w' ⟨rfl, rfl⟩)
 go_ret
 exact ⟨back_b HR.out.symm, HB.out⟩
theorem says_5 (n x y : Int) (sao tao : Option Addr) (sl scap tl tcap : Nat) (w : World) (x0 : 0 ≤ x) (x1 : x < 64) (y0 : 0 ≤ y) (y1 : y < 64) (n0 : -20 ≤ n) (n1 : n ≤ 20) :
    Calls Tryz.prog 179 #[.agg #[.int .i64 5, .slice sao sl scap, .slice tao tl tcap, .int .i64 n], .int .i64 x, .int .i64 y] w (Bk w (.bool (saysB 5 n x y))) := by
 have HB : Hid (Bw w (w.alloc (.cells #[.int .i64 5, .slice sao sl scap, .slice tao tl tcap, .int .i64 n] 71))) := below_alloc1 w _
 have hp := pcN_le x
 have hq := pcN_le y
 have HR : Hid (saysB 5 n x y = decide (pcN x ≤ pcN y + n)) := by
  unfold Hid saysB
  simp
 obtain ⟨R, hR⟩ := nm (saysB 5 n x y)
 rw [← hR] at HR ⊢
 clear hR
 go_enter Tryz.func179, Tryz.ntmps179
 go_wp2_with (go_at_call 196; refine (ones_any _ ?_ ?_ _).mono ?_; omega; omega; rintro e w' ⟨rfl, rfl⟩)
 go_ret
 exact ⟨back_b HR.out.symm, HB.out⟩
theorem says_any (k n x y : Int) (sao tao : Option Addr) (sl scap tl tcap : Nat) (w : World) (hk : 1 ≤ k ∧ k ≤ 5) (x0 : 0 ≤ x) (x1 : x < 64) (y0 : 0 ≤ y) (y1 : y < 64) (n0 : -20 ≤ n) (n1 : n ≤ 20) :
    Calls Tryz.prog 179 #[.agg #[.int .i64 k, .slice sao sl scap, .slice tao tl tcap, .int .i64 n], .int .i64 x, .int .i64 y] w (Bk w (.bool (saysB k n x y))) := by
 rcases five hk.1 hk.2 with rfl | rfl | rfl | rfl | rfl
 ·exact says_1 n x y sao tao sl scap tl tcap w x0 x1 y0 y1
 ·exact says_2 n x y sao tao sl scap tl tcap w x0 x1 y0 y1
 ·exact says_3 n x y sao tao sl scap tl tcap w x0 x1 y0 y1
 ·exact says_4 n x y sao tao sl scap tl tcap w x0 x1 y0 y1
 ·exact says_5 n x y sao tao sl scap tl tcap w x0 x1 y0 y1 n0 n1
def Boxes (w : World) (B : Nat) (k n : Int) (vs vt : Value) (u a b c : Int) : Prop :=
 w.cell? ⟨B, 0, none⟩ = some (.int .i64 k) ∧ w.cell? ⟨B, 1, none⟩ = some vs ∧ w.cell? ⟨B, 2, none⟩ = some vt ∧ w.cell? ⟨B, 3, none⟩ = some (.int .i64 n) ∧ w.cell? ⟨B + 1, 0, none⟩ = some (.int .i64 u) ∧ w.cell? ⟨B + 1, 1, none⟩ = some (.int .i64 a) ∧ w.cell? ⟨B + 1, 2, none⟩ = some (.int .i64 b) ∧ w.cell? ⟨B + 1, 3, none⟩ = some (.int .i64 c)
theorem Boxes.below {w w' : World} {B K : Nat} {k n : Int} {vs vt : Value} {u a b c : Int} (h : Boxes w B k n vs vt u a b c) (hb : Below K w w') (hK : B + 1 < K) : Boxes w' B k n vs vt u a b c := by
 obtain ⟨x0, x1, x2, x3, x4, x5, x6, x7⟩ := h
 have h0 : B < K := by omega
 refine ⟨?_, ?_, ?_, ?_, ?_, ?_, ?_, ?_⟩
 ·rw [hb.cell h0]; exact x0
 ·rw [hb.cell h0]; exact x1
 ·rw [hb.cell h0]; exact x2
 ·rw [hb.cell h0]; exact x3
 ·rw [hb.cell hK]; exact x4
 ·rw [hb.cell hK]; exact x5
 ·rw [hb.cell hK]; exact x6
 ·rw [hb.cell hK]; exact x7
theorem boxes_alloc (w : World) (k n : Int) (vs vt : Value) (u a b c : Int) : Boxes ((w.alloc (.cells #[.int .i64 k, vs, vt, .int .i64 n] 71)).alloc (.cells #[.int .i64 u, .int .i64 a, .int .i64 b, .int .i64 c] 58)) w.heap.size k n vs vt u a b c := by
 have h : ∀ j, ((w.alloc (.cells #[.int .i64 k, vs, vt, .int .i64 n] 71)).alloc (.cells #[.int .i64 u, .int .i64 a, .int .i64 b, .int .i64 c] 58)).cell? ⟨w.heap.size, j, none⟩ = (w.alloc (.cells #[.int .i64 k, vs, vt, .int .i64 n] 71)).cell? ⟨w.heap.size, j, none⟩ := fun j => World.cell?_alloc_lt _ _ ⟨w.heap.size, j, none⟩ (by simp)
 have e : w.heap.size + 1 = (w.alloc (.cells #[.int .i64 k, vs, vt, .int .i64 n] 71)).heap.size := by simp
 refine ⟨?_, ?_, ?_, ?_, ?_, ?_, ?_, ?_⟩
 ·rw [h]; simp
 ·rw [h]; simp
 ·rw [h]; simp
 ·rw [h]; simp
 ·rw [e]; simp
 ·rw [e]; simp
 ·rw [e]; simp
 ·rw [e]; simp
theorem holds_bad (k F : Int) (n : Int) (sao tao : Option Addr) (sl scap tl tcap : Nat) (u a b c : Int) (w : World)
    (hC : ∀ W, Bw w W → Calls Tryz.prog 92 #[.agg #[.int .i64 k, .slice sao sl scap, .slice tao tl tcap, .int .i64 n]] W (Bk W (.iface 91 (.int .i64 F)))) :
    Calls Tryz.prog 155 #[.agg #[.int .i64 k, .slice sao sl scap, .slice tao tl tcap, .int .i64 n], .agg #[.int .i64 u, .int .i64 a, .int .i64 b, .int .i64 c]] w (Bk w (.tuple #[.bool false, (.iface 91 (.int .i64 F))])) := by
 obtain ⟨w1, hw1⟩ := nm ((w.alloc (.cells #[.int .i64 k, .slice sao sl scap, .slice tao tl tcap, .int .i64 n] 71)).alloc (.cells #[.int .i64 u, .int .i64 a, .int .i64 b, .int .i64 c] 58))
 have HB1 : Hid (Bw w w1) := by unfold Hid; rw [hw1]; exact (below_alloc1 w _).trans ((below_alloc1 _ _).mono (by simp))
 have HX : Hid (Boxes w1 w.heap.size k n (.slice sao sl scap) (.slice tao tl tcap) u a b c) := by rw [hw1]; exact boxes_alloc w _ _ _ _ _ _ _ _
 have HK1 : Hid (w.heap.size + 1 < w1.heap.size) := by unfold Hid; rw [hw1]; simp
 have HC := hide (hC w1 HB1.out)
 clear hC
 obtain ⟨x0, x1, x2, x3, x4, x5, x6, x7⟩ := HX.out
 go_enter Tryz.func155, Tryz.ntmps155
 go_wp2_with fail
 rw [← hw1]
 clear hw1
 go_wp2_with (go_at_call 92; refine HC.out.mono ?_; rintro e w2 ⟨rfl, hb⟩; have HB2 : Hid (Bw w w2) := HB1.out.trans (hb.mono (Nat.le_of_lt (Nat.lt_of_succ_lt HK1.out))); clear hb)
 go_ret2
 exact ⟨rfl, HB2.out⟩
theorem holds_world (k : Int) (n : Int) (sao tao : Option Addr) (sl scap tl tcap : Nat) (u a b c : Int) (w : World)
    (hC : ∀ W, Bw w W → (Calls Tryz.prog 92 #[.agg #[.int .i64 k, .slice sao sl scap, .slice tao tl tcap, .int .i64 n]] W (Bk W .nilIface)))
    (hV : ∀ W, Bw w W → Calls Tryz.prog 178 #[.slice sao sl scap, .agg #[.int .i64 u, .int .i64 a, .int .i64 b, .int .i64 c]] W (Bk W (.tuple #[.int .i64 0, (.iface 91 (.int .i64 1))]))) :
    Calls Tryz.prog 155 #[.agg #[.int .i64 k, .slice sao sl scap, .slice tao tl tcap, .int .i64 n], .agg #[.int .i64 u, .int .i64 a, .int .i64 b, .int .i64 c]] w (Bk w (.tuple #[.bool false, (.iface 91 (.int .i64 1))])) := by
 obtain ⟨w1, hw1⟩ := nm ((w.alloc (.cells #[.int .i64 k, .slice sao sl scap, .slice tao tl tcap, .int .i64 n] 71)).alloc (.cells #[.int .i64 u, .int .i64 a, .int .i64 b, .int .i64 c] 58))
 have HB1 : Hid (Bw w w1) := by unfold Hid; rw [hw1]; exact (below_alloc1 w _).trans ((below_alloc1 _ _).mono (by simp))
 have HX : Hid (Boxes w1 w.heap.size k n (.slice sao sl scap) (.slice tao tl tcap) u a b c) := by rw [hw1]; exact boxes_alloc w _ _ _ _ _ _ _ _
 have HK1 : Hid (w.heap.size + 1 < w1.heap.size) := by unfold Hid; rw [hw1]; simp
 have HC := hide (hC w1 HB1.out)
 have HV : Hid (∀ W, Bw w1 W → Calls Tryz.prog 178 #[.slice sao sl scap, .agg #[.int .i64 u, .int .i64 a, .int .i64 b, .int .i64 c]] W (Bk W (.tuple #[.int .i64 0, (.iface 91 (.int .i64 1))]))) := fun W hW => hV W (HB1.out.trans (hW.mono (Nat.le_of_lt (Nat.lt_of_succ_lt HK1.out))))
 clear hC hV
 obtain ⟨x0, x1, x2, x3, x4, x5, x6, x7⟩ := HX.out
 go_enter Tryz.func155, Tryz.ntmps155
 go_wp2_with fail
 rw [← hw1]
 clear hw1
 go_wp2_with (first | (go_at_call 92; refine HC.out.mono ?_; rintro e w2 ⟨rfl, hb⟩; have HZ2 : Hid (Bw w1 w2) := hb; clear hb x0 x1 x2 x3 x4 x5 x6 x7; obtain ⟨x0, x1, x2, x3, x4, x5, x6, x7⟩ := HX.out.below HZ2.out HK1.out) | (go_at_call 178; refine (HV.out _ HZ2.out).mono ?_; rintro e w3 ⟨rfl, hb⟩; have HZ3 : Hid (Bw w1 w3) := HZ2.out.trans (hb.mono HZ2.out.size); clear hb))
 go_ret2
 exact ⟨rfl, HB1.out.trans (HZ3.out.mono (Nat.le_of_lt (Nat.lt_of_succ_lt HK1.out)))⟩
theorem holds_sec (k : Nat) (h0 : 0 < k) (h6 : k < 6) (x y : Int) (n : Int) (sao tao : Option Addr) (sl scap tl tcap : Nat) (u a b c : Int) (w : World) (hK : KindsLaid w) (hb : secondB (k : Int) = true) (x0 : 0 ≤ x) (x1 : x < 64) (y0 : 0 ≤ y) (y1 : y < 64) (n0 : -20 ≤ n) (n1 : n ≤ 20)
    (hC : ∀ W, Bw w W → (Calls Tryz.prog 92 #[.agg #[.int .i64 (k : Int), .slice sao sl scap, .slice tao tl tcap, .int .i64 n]] W (Bk W .nilIface)))
    (hV : ∀ W, Bw w W → Calls Tryz.prog 178 #[.slice sao sl scap, .agg #[.int .i64 u, .int .i64 a, .int .i64 b, .int .i64 c]] W (Bk W (.tuple #[.int .i64 x, .nilIface])))
    (hV2 : ∀ W, Bw w W → Calls Tryz.prog 178 #[.slice tao tl tcap, .agg #[.int .i64 u, .int .i64 a, .int .i64 b, .int .i64 c]] W (Bk W (.tuple #[.int .i64 y, .nilIface]))) :
    Calls Tryz.prog 155 #[.agg #[.int .i64 (k : Int), .slice sao sl scap, .slice tao tl tcap, .int .i64 n], .agg #[.int .i64 u, .int .i64 a, .int .i64 b, .int .i64 c]] w (Bk w (.tuple #[.bool (saysB (k : Int) n x y), .nilIface])) := by
 have HS : Hid (∀ W, Calls Tryz.prog 179 #[.agg #[.int .i64 (k : Int), .slice sao sl scap, .slice tao tl tcap, .int .i64 n], .int .i64 x, .int .i64 y] W (Bk W (.bool (saysB (k : Int) n x y)))) := fun W => says_any (k : Int) n x y sao tao sl scap tl tcap W (by omega) x0 x1 y0 y1 n0 n1
 clear x0 x1 y0 y1 n0 n1
 obtain ⟨R, hR⟩ := nm (saysB (k : Int) n x y)
 rw [← hR] at HS ⊢
 clear hR
 obtain ⟨w1, hw1⟩ := nm ((w.alloc (.cells #[.int .i64 (k : Int), .slice sao sl scap, .slice tao tl tcap, .int .i64 n] 71)).alloc (.cells #[.int .i64 u, .int .i64 a, .int .i64 b, .int .i64 c] 58))
 have HB1 : Hid (Bw w w1) := by unfold Hid; rw [hw1]; exact (below_alloc1 w _).trans ((below_alloc1 _ _).mono (by simp))
 have HX : Hid (Boxes w1 w.heap.size (k : Int) n (.slice sao sl scap) (.slice tao tl tcap) u a b c) := by rw [hw1]; exact boxes_alloc w _ _ _ _ _ _ _ _
 have HK1 : Hid (w.heap.size + 1 < w1.heap.size) := by unfold Hid; rw [hw1]; simp
 have HQ : Hid (∀ W, Bw w1 W → W.cell? ⟨1, k * 3 + 1, none⟩ = some (.bool true)) := fun W hW => by rw [← hb]; exact (kind_has ((hK.below HB1.out).below hW) h0 h6).1
 have HC := hide (hC w1 HB1.out)
 have HV : Hid (∀ W, Bw w1 W → Calls Tryz.prog 178 #[.slice sao sl scap, .agg #[.int .i64 u, .int .i64 a, .int .i64 b, .int .i64 c]] W (Bk W (.tuple #[.int .i64 x, .nilIface]))) := fun W hW => hV W (HB1.out.trans (hW.mono (Nat.le_of_lt (Nat.lt_of_succ_lt HK1.out))))
 have HV2 : Hid (∀ W, Bw w1 W → Calls Tryz.prog 178 #[.slice tao tl tcap, .agg #[.int .i64 u, .int .i64 a, .int .i64 b, .int .i64 c]] W (Bk W (.tuple #[.int .i64 y, .nilIface]))) := fun W hW => hV2 W (HB1.out.trans (hW.mono (Nat.le_of_lt (Nat.lt_of_succ_lt HK1.out))))
 clear hC hV hK hb hV2
 obtain ⟨x0, x1, x2, x3, x4, x5, x6, x7⟩ := HX.out
 go_enter Tryz.func155, Tryz.ntmps155
 go_wp2_with fail
 rw [← hw1]
 clear hw1
 go_wp2_with (go_at_call 92; refine HC.out.mono ?_; rintro e w2 ⟨rfl, hb⟩; have HZ2 : Hid (Bw w1 w2) := hb; clear hb x0 x1 x2 x3 x4 x5 x6 x7; obtain ⟨x0, x1, x2, x3, x4, x5, x6, x7⟩ := HX.out.below HZ2.out HK1.out)
 go_wp2_with fail
 go_at_call 178
 refine (HV.out _ HZ2.out).mono ?_
 rintro e w3 ⟨rfl, hb⟩
 have HZ3 := bt HZ2 hb
 have q0 : w3.cell? ⟨1, k * 3 + 1, none⟩ = some (.bool true) := HQ.out _ HZ3.out
 clear hb x0 x1 x2 x3 x4 x5 x6 x7
 obtain ⟨x0, x1, x2, x3, x4, x5, x6, x7⟩ := HX.out.below HZ3.out HK1.out
 go_wp2_with fail
 go_at_call 178
 refine (HV2.out _ HZ3.out).mono ?_
 rintro e w4 ⟨rfl, hb⟩
 have HZ4 := bt HZ3 hb
 clear hb x0 x1 x2 x3 x4 x5 x6 x7
 obtain ⟨x0, x1, x2, x3, x4, x5, x6, x7⟩ := HX.out.below HZ4.out HK1.out
 go_wp2_with fail
 go_at_call 179
 refine (HS.out _).mono ?_
 rintro e w5 ⟨rfl, hb⟩
 have HZ5 := bt HZ4 hb
 clear hb
 go_wp2
 go_ret2
 exact ⟨rfl, HB1.out.trans (HZ5.out.mono (Nat.le_of_lt (Nat.lt_of_succ_lt HK1.out)))⟩
theorem holds_one (k : Nat) (h0 : 0 < k) (h6 : k < 6) (x y : Int) (n : Int) (sao tao : Option Addr) (sl scap tl tcap : Nat) (u a b c : Int) (w : World) (hK : KindsLaid w) (hb : secondB (k : Int) = false) (x0 : 0 ≤ x) (x1 : x < 64) (y0 : 0 ≤ y) (y1 : y < 64) (n0 : -20 ≤ n) (n1 : n ≤ 20)
    (hC : ∀ W, Bw w W → (Calls Tryz.prog 92 #[.agg #[.int .i64 (k : Int), .slice sao sl scap, .slice tao tl tcap, .int .i64 n]] W (Bk W .nilIface)))
    (hV : ∀ W, Bw w W → Calls Tryz.prog 178 #[.slice sao sl scap, .agg #[.int .i64 u, .int .i64 a, .int .i64 b, .int .i64 c]] W (Bk W (.tuple #[.int .i64 x, .nilIface])))
    (hy : y = 0) :
    Calls Tryz.prog 155 #[.agg #[.int .i64 (k : Int), .slice sao sl scap, .slice tao tl tcap, .int .i64 n], .agg #[.int .i64 u, .int .i64 a, .int .i64 b, .int .i64 c]] w (Bk w (.tuple #[.bool (saysB (k : Int) n x y), .nilIface])) := by
 subst hy
 have HS : Hid (∀ W, Calls Tryz.prog 179 #[.agg #[.int .i64 (k : Int), .slice sao sl scap, .slice tao tl tcap, .int .i64 n], .int .i64 x, .int .i64 0] W (Bk W (.bool (saysB (k : Int) n x 0)))) := fun W => says_any (k : Int) n x 0 sao tao sl scap tl tcap W (by omega) x0 x1 y0 y1 n0 n1
 clear x0 x1 y0 y1 n0 n1
 obtain ⟨R, hR⟩ := nm (saysB (k : Int) n x 0)
 rw [← hR] at HS ⊢
 clear hR
 obtain ⟨w1, hw1⟩ := nm ((w.alloc (.cells #[.int .i64 (k : Int), .slice sao sl scap, .slice tao tl tcap, .int .i64 n] 71)).alloc (.cells #[.int .i64 u, .int .i64 a, .int .i64 b, .int .i64 c] 58))
 have HB1 : Hid (Bw w w1) := by unfold Hid; rw [hw1]; exact (below_alloc1 w _).trans ((below_alloc1 _ _).mono (by simp))
 have HX : Hid (Boxes w1 w.heap.size (k : Int) n (.slice sao sl scap) (.slice tao tl tcap) u a b c) := by rw [hw1]; exact boxes_alloc w _ _ _ _ _ _ _ _
 have HK1 : Hid (w.heap.size + 1 < w1.heap.size) := by unfold Hid; rw [hw1]; simp
 have HQ : Hid (∀ W, Bw w1 W → W.cell? ⟨1, k * 3 + 1, none⟩ = some (.bool false)) := fun W hW => by rw [← hb]; exact (kind_has ((hK.below HB1.out).below hW) h0 h6).1
 have HC := hide (hC w1 HB1.out)
 have HV : Hid (∀ W, Bw w1 W → Calls Tryz.prog 178 #[.slice sao sl scap, .agg #[.int .i64 u, .int .i64 a, .int .i64 b, .int .i64 c]] W (Bk W (.tuple #[.int .i64 x, .nilIface]))) := fun W hW => hV W (HB1.out.trans (hW.mono (Nat.le_of_lt (Nat.lt_of_succ_lt HK1.out))))
 clear hC hV hK hb
 obtain ⟨x0, x1, x2, x3, x4, x5, x6, x7⟩ := HX.out
 go_enter Tryz.func155, Tryz.ntmps155
 go_wp2_with fail
 rw [← hw1]
 clear hw1
 go_wp2_with (go_at_call 92; refine HC.out.mono ?_; rintro e w2 ⟨rfl, hb⟩; have HZ2 : Hid (Bw w1 w2) := hb; clear hb x0 x1 x2 x3 x4 x5 x6 x7; obtain ⟨x0, x1, x2, x3, x4, x5, x6, x7⟩ := HX.out.below HZ2.out HK1.out)
 go_wp2_with fail
 go_at_call 178
 refine (HV.out _ HZ2.out).mono ?_
 rintro e w3 ⟨rfl, hb⟩
 have HZ3 := bt HZ2 hb
 have q0 : w3.cell? ⟨1, k * 3 + 1, none⟩ = some (.bool false) := HQ.out _ HZ3.out
 clear hb x0 x1 x2 x3 x4 x5 x6 x7
 obtain ⟨x0, x1, x2, x3, x4, x5, x6, x7⟩ := HX.out.below HZ3.out HK1.out
 go_wp2_with fail
 go_at_call 179
 refine (HS.out _).mono ?_
 rintro e w5 ⟨rfl, hb⟩
 have HZ5 := bt HZ3 hb
 clear hb
 go_wp2
 go_ret2
 exact ⟨rfl, HB1.out.trans (HZ5.out.mono (Nat.le_of_lt (Nat.lt_of_succ_lt HK1.out)))⟩
theorem aholds_any (k n : Int) (vs vt : Value) (s t : List Int) (u a b c : Int) (w : World) (hS : Reads w vs s) (hT : Reads w vt t) (hK : KindsLaid w) :
    Calls Tryz.prog 155 #[.agg #[.int .i64 k, vs, vt, .int .i64 n], .agg #[.int .i64 u, .int .i64 a, .int .i64 b, .int .i64 c]] w (Bk w (.tuple #[.bool ((Wd.mk u a b c).holdsIs k s t n), errV ((Wd.mk u a b c).holdsFault k s t n)])) := by
 have hC : ∀ W, Bw w W → _ := fun W hW => acheck_any k n vs vt s t W (hS.below hW) (hT.below hW) (hK.below hW)
 have hV : ∀ W, Bw w W → _ := fun W hW => value_any s vs u a b c W (hS.below hW)
 have hV2 : ∀ W, Bw w W → _ := fun W hW => value_any t vt u a b c W (hT.below hW)
 obtain ⟨sao, scap, rfl, _⟩ := hS.slice
 obtain ⟨tao, tcap, rfl, _⟩ := hT.slice
 by_cases hf : atomFault k s t n = 0
 ·obtain ⟨hk, hs, ht, n0, n1⟩ := atomFault_zero.1 hf
  rw [hf, errV_0] at hC
  have hm : mostN k ≤ 20 := by unfold mostN; split <;> omega
  by_cases hw : (Wd.mk u a b c).ok = true
  ·have e1 : (Wd.mk u a b c).holdsFault k s t n = 0 := by unfold Wd.holdsFault; rw [if_pos hf, if_pos hw]
   have e2 : (Wd.mk u a b c).holdsIs k s t n = saysB k n ((Wd.mk u a b c).val s) ((Wd.mk u a b c).snd k t) := by unfold Wd.holdsIs; rw [if_pos e1]; rfl
   have e3 : (Wd.mk u a b c).answer s = (Wd.mk u a b c).val s := by unfold Wd.answer; rw [if_pos hs, if_pos hw]
   have e4 : (Wd.mk u a b c).fault s = 0 := by unfold Wd.fault; rw [if_pos hs, if_pos hw]
   rw [e1, e2, errV_0]
   rw [e3, e4, errV_0] at hV
   have ox := okB_lt (ok_val hw s)
   have oy := okB_lt (ok_val hw t)
   have hsec : secondB k = true → (Wd.mk u a b c).answer t = (Wd.mk u a b c).val t ∧ (Wd.mk u a b c).fault t = 0 ∧ (Wd.mk u a b c).snd k t = (Wd.mk u a b c).val t := by
    intro h
    have h0 := second_reads ht h
    refine ⟨?_, ?_, ?_⟩
    ·unfold Wd.answer; rw [if_pos h0, if_pos hw]
    ·unfold Wd.fault; rw [if_pos h0, if_pos hw]
    ·unfold Wd.snd; rw [if_pos h]
   obtain ⟨k, rfl⟩ := Int.eq_ofNat_of_zero_le (show 0 ≤ k by omega)
   cases hb : secondB (k : Int)
   ·have g3 : (Wd.mk u a b c).snd (k : Int) t = 0 := by unfold Wd.snd; rw [hb]; rfl
    rw [g3]
    exact holds_one k (by omega) (by omega) _ 0 n sao tao _ scap _ tcap u a b c w hK hb ox.2.2.1 ox.2.2.2 (Int.le_refl 0) (by decide) (by omega) (by omega) hC hV rfl
   ·obtain ⟨g1, g2, g3⟩ := hsec hb
    rw [g1, g2, errV_0] at hV2; rw [g3]
    exact holds_sec k (by omega) (by omega) _ _ n sao tao _ scap _ tcap u a b c w hK hb ox.2.2.1 ox.2.2.2 oy.2.2.1 oy.2.2.2 (by omega) (by omega) hC hV hV2
  ·have e1 : (Wd.mk u a b c).holdsFault k s t n = 1 := by unfold Wd.holdsFault; rw [if_pos hf, if_neg hw]
   have e2 : (Wd.mk u a b c).holdsIs k s t n = false := by unfold Wd.holdsIs; rw [if_neg (by rw [e1]; decide)]
   have e3 : (Wd.mk u a b c).answer s = 0 := by unfold Wd.answer; rw [if_pos hs, if_neg hw]
   have e4 : (Wd.mk u a b c).fault s = 1 := by unfold Wd.fault; rw [if_pos hs, if_neg hw]
   rw [e1, e2, errV_no (by decide)]
   rw [e3, e4, errV_no (by decide)] at hV
   exact holds_world k n sao tao _ scap _ tcap u a b c w hC hV
 ·have e1 : (Wd.mk u a b c).holdsFault k s t n = atomFault k s t n := by unfold Wd.holdsFault; rw [if_neg hf]
  have e2 : (Wd.mk u a b c).holdsIs k s t n = false := by unfold Wd.holdsIs; rw [if_neg (by rw [e1]; exact hf)]
  rw [e1, e2, errV_no hf]
  rw [errV_no hf] at hC
  exact holds_bad k _ n sao tao _ scap _ tcap u a b c w hC
theorem fholds_bad (va vc : Value) (ats : List At) (c : List Int) (u a b d : Int) (w : World) (hA : ReadsA w va ats) (hC : Reads w vc c) (hK : KindsLaid w) (hf : ¬ formFault ats c = 0) :
    Calls Tryz.prog 122 #[.agg #[va, vc], .agg #[.int .i64 u, .int .i64 a, .int .i64 b, .int .i64 d]] w (Bk w (.tuple #[.bool false, .iface 91 (.int .i64 (formFault ats c))])) := by
 obtain ⟨ao, acap, rfl, _⟩ := hA.slice
 obtain ⟨co, ccap, rfl, _⟩ := hC.slice
 obtain ⟨w1, hw1⟩ := nm ((w.alloc (.cells #[.slice ao ats.length acap, .slice co c.length ccap] 78)).alloc (.cells #[.int .i64 u, .int .i64 a, .int .i64 b, .int .i64 d] 58))
 have HB1 : Hid (Bw w w1) := by unfold Hid; rw [hw1]; exact (below_alloc1 _ _).trans ((below_alloc1 _ _).mono (by simp))
 have HC : Hid (Calls Tryz.prog 78 #[.agg #[.slice ao ats.length acap, .slice co c.length ccap]] w1 (Bk w1 (.iface 91 (.int .i64 (formFault ats c))))) := by
  have := fcheck_any _ _ ats c w1 (hA.below HB1.out) (hC.below HB1.out) (hK.below HB1.out)
  rw [errV_no hf] at this
  exact this
 clear hA hC hK
 obtain ⟨F, hF⟩ := nm (formFault ats c)
 rw [← hF] at HC ⊢
 clear hF hf
 obtain ⟨m, hm⟩ := nm ats.length
 obtain ⟨n, hn⟩ := nm c.length
 rw [← hm, ← hn] at HC hw1 ⊢
 clear hm hn
 have x0 : ((w.alloc (.cells #[.slice ao m acap, .slice co n ccap] 78)).alloc (.cells #[.int .i64 u, .int .i64 a, .int .i64 b, .int .i64 d] 58)).cell? ⟨w.heap.size, 0, none⟩ = some (.slice ao m acap) := by
  rw [World.cell?_alloc_lt _ _ ⟨w.heap.size, 0, none⟩ (by simp)]; simp
 have x1 : ((w.alloc (.cells #[.slice ao m acap, .slice co n ccap] 78)).alloc (.cells #[.int .i64 u, .int .i64 a, .int .i64 b, .int .i64 d] 58)).cell? ⟨w.heap.size, 1, none⟩ = some (.slice co n ccap) := by
  rw [World.cell?_alloc_lt _ _ ⟨w.heap.size, 1, none⟩ (by simp)]; simp
 go_enter Tryz.func122, Tryz.ntmps122
 go_wp2_with fail
 rw [← hw1]
 clear hw1 x0 x1
 go_at_call 78
 refine HC.out.mono ?_
 rintro e w2 ⟨rfl, hb⟩
 have HB2 := bt HB1 hb
 clear hb
 go_wp2
 go_ret2
 exact ⟨rfl, HB2.out⟩
theorem fholds_right (ao co : Option Addr) (acap ccap : Nat) (ats : List At) (c : List Int) (u a b d : Int) (w : World) (hA : ReadsA w (.slice ao ats.length acap) ats) (hC : Reads w (.slice co c.length ccap) c) (hK : KindsLaid w) (hf : formFault ats c = 0) (ok : Bool) (hok : (Wd.mk u a b d).ok = ok) :
    Calls Tryz.prog 122 #[.agg #[.slice ao ats.length acap, .slice co c.length ccap], .agg #[.int .i64 u, .int .i64 a, .int .i64 b, .int .i64 d]] w fun e w' => (if ok = true then e = .returned (.tuple #[.bool (valF ((Wd.mk u a b d).heldL ats) c), .nilIface]) else e = .returned (.tuple #[.bool false, .iface 91 (.int .i64 1)])) ∧ Bw w w' := by
 obtain ⟨i0, hi, hz0, hz1, hz2⟩ := info_parts infoBool
 obtain ⟨⟨m1, m6⟩, ⟨n1, n20⟩, hall, hsg, hone⟩ := formFault_zero.1 hf
 obtain ⟨w1, hw1⟩ := nm ((w.alloc (.cells #[.slice ao ats.length acap, .slice co c.length ccap] 78)).alloc (.cells #[.int .i64 u, .int .i64 a, .int .i64 b, .int .i64 d] 58))
 have HB1 : Hid (Bw w w1) := by unfold Hid; rw [hw1]; exact (below_alloc1 _ _).trans ((below_alloc1 _ _).mono (by simp))
 have HS1 : Hid (w1.heap.size = w.heap.size + 2) := by unfold Hid; rw [hw1]; simp
 have HCk : Hid (Calls Tryz.prog 78 #[.agg #[.slice ao ats.length acap, .slice co c.length ccap]] w1 (Bk w1 .nilIface)) := by
  have := fcheck_any _ _ ats c w1 (hA.below HB1.out) (hC.below HB1.out) (hK.below HB1.out)
  rw [hf, errV_0] at this
  exact this
 have HA := hide (hA.below HB1.out)
 have HC := hide (hC.below HB1.out)
 have HK := hide (hK.below HB1.out)
 clear hA hC hK
 have HX : Hid (∀ W, Bw w1 W → (W.cell? ⟨w.heap.size, 0, none⟩ = some (.slice ao ats.length acap) ∧ W.cell? ⟨w.heap.size, 1, none⟩ = some (.slice co c.length ccap)) ∧ (W.cell? ⟨w.heap.size + 1, 0, none⟩ = some (.int .i64 u) ∧ W.cell? ⟨w.heap.size + 1, 1, none⟩ = some (.int .i64 a) ∧ W.cell? ⟨w.heap.size + 1, 2, none⟩ = some (.int .i64 b) ∧ W.cell? ⟨w.heap.size + 1, 3, none⟩ = some (.int .i64 d))) := fun W hc => by
  have l0 : w.heap.size < w1.heap.size := by have := HS1.out; omega
  have l1 : w.heap.size + 1 < w1.heap.size := by have := HS1.out; omega
  have e0 : ∀ j, W.cell? ⟨w.heap.size, j, none⟩ = w1.cell? ⟨w.heap.size, j, none⟩ := fun j => hc.cell (show (⟨w.heap.size, j, none⟩ : Addr).block < _ from l0)
  have e1 : ∀ j, W.cell? ⟨w.heap.size + 1, j, none⟩ = w1.cell? ⟨w.heap.size + 1, j, none⟩ := fun j => hc.cell (show (⟨w.heap.size + 1, j, none⟩ : Addr).block < _ from l1)
  simp only [e0, e1]
  rw [hw1]
  have q : w.heap.size + 1 = (w.alloc (.cells #[.slice ao ats.length acap, .slice co c.length ccap] 78)).heap.size := by simp
  have r : ∀ o j, ((w.alloc (.cells #[.slice ao ats.length acap, .slice co c.length ccap] 78)).alloc o).cell? ⟨w.heap.size, j, none⟩ = (w.alloc (.cells #[.slice ao ats.length acap, .slice co c.length ccap] 78)).cell? ⟨w.heap.size, j, none⟩ := fun o j => World.cell?_alloc_lt _ _ ⟨w.heap.size, j, none⟩ (by simp)
  simp only [r]
  rw [q]
  simp
 have HH : Hid (∀ (x : At) vs vt W, x ∈ ats → Reads W vs x.s → Reads W vt x.t → Bw w1 W → Calls Tryz.prog 155 #[.agg #[.int .i64 x.k, vs, vt, .int .i64 x.n], .agg #[.int .i64 u, .int .i64 a, .int .i64 b, .int .i64 d]] W (Bk W (.tuple #[.bool (if ok = true then (Wd.mk u a b d).holds x.k x.s x.t x.n else false), if ok = true then .nilIface else .iface 91 (.int .i64 1)]))) := fun x vs vt W hx h1 h2 hW => by
  have := aholds_any x.k x.n vs vt x.s x.t u a b d W h1 h2 (HK.out.below hW)
  have hxf : atomFault x.k x.s x.t x.n = 0 := hall x hx
  have e0 : (Wd.mk u a b d).holdsFault x.k x.s x.t x.n = if ok = true then 0 else 1 := by unfold Wd.holdsFault; rw [if_pos hxf, hok]
  have e1 : (Wd.mk u a b d).holdsIs x.k x.s x.t x.n = if ok = true then (Wd.mk u a b d).holds x.k x.s x.t x.n else false := by
   unfold Wd.holdsIs; rw [e0]; cases ok <;> rfl
  rw [e0, e1] at this
  cases ok <;> exact this
 have HWk : Hid (∀ G W, ok = true → Bw w1 W → ReadsB W G 0 ((Wd.mk u a b d).heldL ats) → Calls Tryz.prog 156 #[.slice co c.length ccap, .slice (some ⟨G, 0, none⟩) ats.length ats.length] W (Bk W (.bool (valF ((Wd.mk u a b d).heldL ats) c)))) := fun G W _ hW hR => by
  have hlen : ((Wd.mk u a b d).heldL ats).length = ats.length := by simp [Wd.heldL]
  rcases HC.out.below hW with ⟨_, _, hv, hcn⟩ | ⟨B, off, cap, hv, hb, _, _, hc⟩
  ·rw [hcn] at n1; simp at n1
  cases hv
  have := fwork_any c B off ccap ((Wd.mk u a b d).heldL ats) G 0 ats.length W (by rw [hlen]; exact hsg) hone n20 (by rw [hlen]; exact m6) hb hc hR
  rw [hlen] at this
  exact this
 clear hall hsg hone hf hok
 obtain ⟨Hd, hHd⟩ : ∃ Hd : At → Bool, Hd = fun x => (Wd.mk u a b d).holds x.k x.s x.t x.n := ⟨_, rfl⟩
 have HHd : Hid ((Wd.mk u a b d).heldL ats = ats.map Hd) := by unfold Hid; rw [hHd]; rfl
 have HH' : Hid (∀ (x : At) vs vt W, x ∈ ats → Reads W vs x.s → Reads W vt x.t → Bw w1 W → Calls Tryz.prog 155 #[.agg #[.int .i64 x.k, vs, vt, .int .i64 x.n], .agg #[.int .i64 u, .int .i64 a, .int .i64 b, .int .i64 d]] W (Bk W (.tuple #[.bool (if ok = true then Hd x else false), if ok = true then .nilIface else .iface 91 (.int .i64 1)]))) := by
  rw [hHd]; exact HH
 rw [HHd.out] at HWk ⊢
 obtain ⟨V, hV⟩ := nm (valF (ats.map Hd) c)
 rw [← hV] at HWk ⊢
 clear hHd HH hV HHd
 obtain ⟨m, hm⟩ := nm ats.length
 obtain ⟨n, hn⟩ := nm c.length
 rw [← hm] at m1 m6 HCk HA HX HWk hw1 ⊢
 rw [← hn] at n1 n20 HCk HX HWk hw1 HC ⊢
 have HM := hide hm
 clear hm hn
 obtain ⟨f, hf⟩ : ∃ f : Nat → Value, f = fun j => .bool ((ats.map Hd).getD j false) := ⟨_, rfl⟩
 have HF := hide hf
 clear hf
 obtain ⟨⟨x0, x1⟩, ⟨y0, y1, y2, y3⟩⟩ := HX.out w1 (Below.refl _ _)
 rw [hw1] at x0 x1 y0 y1 y2 y3
 go_enter Tryz.func122, Tryz.ntmps122
 go_wp2_with fail
 rw [← hw1]
 clear hw1 x0 x1 y0 y1 y2 y3
 go_at_call 78
 refine HCk.out.mono ?_
 rintro e w2 ⟨rfl, hb⟩
 have HB2 := hide hb
 clear hb HCk
 obtain ⟨⟨x0, x1⟩, ⟨y0, y1, y2, y3⟩⟩ := HX.out w2 HB2.out
 obtain ⟨G, hG⟩ := nm w2.heap.size
 have HG := hide hG
 go_wp2_with (first | (at_make; refine wpList_make_full _ rfl _ _ 224 rfl G 4 i0 (.bool false) 1 Tryz.underlying224 hi hz0 hz1 .i64 .i64 _ _ m rfl rfl ?m0 ?m1 ?m2 ?m3 ?m4 ?_))
 case m0 => rfl
 case m1 => rfl
 case m2 => rw [hz2]; omega
 case m3 => unfold maxLen; omega
 case m4 => omega
 intro w3 hown1 hgrow1
 have HO : Hid (w3.ownsRow G 4 1 (.slice (some ⟨G, 0, none⟩) m m) m (fill f (.bool false) m 0) ∧ Below G w2 w3) := by
  refine ⟨?_, ?_⟩
  ·rw [fill_zero, ← toList_madeCells_one, hG]
   simpa [Value.cells, hG] using hown1
  ·exact (Below.refl _ _).grown hgrow1 (by omega) (fun k hk => by cases hk)
 rw [← hG]
 clear hown1 hgrow1 hG x0 x1 y0 y1 y2 y3
 have HB3 : Hid (∀ W, Below G w2 W → Bw w1 W) := fun W h => HB2.out.trans (h.mono (by rw [HG.out]; exact HB2.out.size))
 obtain ⟨⟨x0, x1⟩, ⟨y0, y1, y2, y3⟩⟩ := HX.out w3 (HB3.out _ HO.out.2)
 go_wp2
 go_loopw [24] (fun i wr => ∃ k : Nat, k ≤ m ∧ i = .int .i64 k ∧ wr.ownsRow G 4 1 (.slice (some ⟨G, 0, none⟩) m m) m (fill f (.bool false) m k) ∧ Below G w2 wr ∧ (0 < k → ok = true)) (fun i _ => m - (intOf i).toNat)
 case atStart => exact ⟨0, Nat.zero_le _, rfl, HO.out.1, HO.out.2, fun h => by omega⟩
 case round =>
  clear x0 x1 y0 y1 y2 y3
  obtain ⟨k, hk, rfl, hown, hbel, hkok⟩ := hrel
  have HB := hide hbel
  have HOW := hide hown
  clear hbel hown
  obtain ⟨⟨x0, x1⟩, ⟨y0, y1, y2, y3⟩⟩ := HX.out wr (HB3.out _ HB.out)
  by_cases hlt : k < m
  ·obtain ⟨x, hx⟩ : ∃ x, ats[k]? = some x := ⟨_, List.getElem?_eq_getElem (by have := HM.out; omega)⟩
   have HXm : Hid (x ∈ ats ∧ f k = .bool (Hd x)) := by
    refine ⟨List.mem_of_getElem? hx, ?_⟩
    rw [HF.out]; simp [hx]
   rcases HA.out.below (HB3.out _ HB.out) with ⟨_, _, _, hn0⟩ | ⟨B, off, cap, hv, hb, _, _, hatm⟩
   ·have := HM.out; rw [hn0] at this; simp at this; omega
   obtain rfl : ao = some ⟨B, off, none⟩ := by cases hv; rfl
   obtain ⟨vs, vt, c0, c1, c2, c3, r1, r2⟩ := hatm k x hx
   obtain ⟨sao, scap, rfl, _⟩ := r1.slice
   obtain ⟨tao, tcap, rfl, _⟩ := r2.slice
   clear hv hatm
   obtain ⟨w4, hw4⟩ := nm (wr.alloc (.cells #[.int .i64 x.k, .slice sao x.s.length scap, .slice tao x.t.length tcap, .int .i64 x.n] 71))
   have HB4 : Hid (Bw wr w4) := by unfold Hid; rw [hw4]; exact below_alloc1 wr _
   have HGr : Hid (G < wr.heap.size) := (ownsRow_block HOW.out).2.1
   have HBw : Hid (∀ W, Bw wr W → Below G w2 W) := fun W h => HB.out.trans (h.mono (by have := HGr.out; omega))
   have HCa : Hid (Calls Tryz.prog 155 #[.agg #[.int .i64 x.k, .slice sao x.s.length scap, .slice tao x.t.length tcap, .int .i64 x.n], .agg #[.int .i64 u, .int .i64 a, .int .i64 b, .int .i64 d]] w4 (Bk w4 (.tuple #[.bool (if ok = true then Hd x else false), if ok = true then .nilIface else .iface 91 (.int .i64 1)]))) :=
    HH'.out x _ _ w4 HXm.out.1 (r1.below HB4.out) (r2.below HB4.out) (HB3.out _ (HBw.out _ HB4.out))
   clear r1 r2 x0 x1 y0 y1 y2 y3
   obtain ⟨⟨x0, x1⟩, ⟨y0, y1, y2, y3⟩⟩ := HX.out w4 (HB3.out _ (HBw.out _ HB4.out))
   rw [hw4] at x0 x1 y0 y1 y2 y3
   go_wp2_with fail
   rw [← hw4]
   clear hw4 x0 x1 y0 y1 y2 y3
   go_at_call 155
   refine HCa.out.mono ?_
   rintro e w5 ⟨rfl, hb5⟩
   have HB5 := bt HB4 hb5
   clear hb5 HCa
   cases ok
   ·simp only [Bool.false_eq_true, if_false]
    go_wp2
    go_ret2
    exact ⟨by simp, HB1.out.trans ((HB3.out _ (HBw.out _ HB5.out)).mono HB1.out.size)⟩
   ·simp only [if_true]
    have hown5 := ownsRow_below HOW.out HB5.out
    have hfr : w5.frozen? ⟨G, k, none⟩ = false := hown5.frozenAt k
    have hcg : w5.cell? ⟨G, k, none⟩ = some (.bool false) := by rw [hown5.cellAt k (by omega), fill_get _ _ _ _ _ hlt, if_neg (by omega)]
    have HR : Hid ((w5.setCell ⟨G, k, none⟩ (.bool (Hd x))).ownsRow G 4 1 (.slice (some ⟨G, 0, none⟩) m m) m (fill f (.bool false) m (k + 1)) ∧ Below G w2 (w5.setCell ⟨G, k, none⟩ (.bool (Hd x)))) := by
     have := hown5.stored k (f k)
     rw [fill_set, HXm.out.2] at this
     exact ⟨this.1, (HBw.out _ HB5.out).setCell (Nat.le_refl _) _⟩
    clear hown5
    go_wp2
    go_roundw
    case rel => exact ⟨k + 1, by omega, by go_num, HR.out.1, HR.out.2, fun _ => by first | rfl | trivial⟩
    case measure => simp [intOf]; omega
  ·have hok : ok = true := hkok (by omega)
   subst hok
   have HRb : Hid (ReadsB wr G 0 (ats.map Hd)) := by
    refine ⟨(ownsRow_block HOW.out).2.1, fun j hj => ?_⟩
    have hj' : j < m := by rw [HM.out]; simpa using hj
    rw [Nat.zero_add, HOW.out.cellAt j (by omega), fill_get _ _ _ _ _ hj', if_pos (by omega), HF.out]
   have HCw := HWk.out G wr rfl (HB3.out _ HB.out) HRb.out
   go_wp2_with (go_at_call 156; refine HCw.mono ?_; rintro e w' ⟨rfl, hb⟩)
   go_ret2
   exact ⟨by simp, HB1.out.trans ((HB3.out _ (HB.out.trans (hb.mono (by have := (ownsRow_block HOW.out).2.1; omega)))).mono HB1.out.size)⟩
theorem fholds_any (va vc : Value) (ats : List At) (c : List Int) (u a b d : Int) (w : World) (hA : ReadsA w va ats) (hC : Reads w vc c) (hK : KindsLaid w) :
    Calls Tryz.prog 122 #[.agg #[va, vc], .agg #[.int .i64 u, .int .i64 a, .int .i64 b, .int .i64 d]] w (Bk w (.tuple #[.bool ((Wd.mk u a b d).formIs ats c), errV ((Wd.mk u a b d).formFault ats c)])) := by
 by_cases hf : formFault ats c = 0
 ·obtain ⟨ao, acap, rfl, _⟩ := hA.slice
  obtain ⟨co, ccap, rfl, _⟩ := hC.slice
  have := fholds_right ao co acap ccap ats c u a b d w hA hC hK hf _ rfl
  by_cases ho : (Wd.mk u a b d).ok = true
  ·have e0 : (Wd.mk u a b d).formFault ats c = 0 := wdForm_zero.2 ⟨hf, ho⟩
   have e1 : (Wd.mk u a b d).formIs ats c = valF ((Wd.mk u a b d).heldL ats) c := by unfold Wd.formIs; rw [if_pos e0]
   rw [e0, e1, errV_0]
   exact this.mono fun e w' h => ⟨by have := h.1; rw [if_pos ho] at this; exact this, h.2⟩
  ·have e0 : (Wd.mk u a b d).formFault ats c = 1 := by unfold Wd.formFault; rw [if_pos hf, if_neg ho]
   have e1 : (Wd.mk u a b d).formIs ats c = false := by unfold Wd.formIs; rw [e0]; rfl
   rw [e0, e1]
   exact this.mono fun e w' h => ⟨by have := h.1; rw [if_neg ho] at this; exact this, h.2⟩
 ·have e0 : (Wd.mk u a b d).formFault ats c = formFault ats c := by unfold Wd.formFault; rw [if_neg hf]
  have e1 : (Wd.mk u a b d).formIs ats c = false := by unfold Wd.formIs; rw [e0, if_neg hf]
  rw [e0, e1, errV_no hf]
  exact fholds_bad va vc ats c u a b d w hA hC hK hf
theorem shl_pw : ∀ k : Nat, k ≤ 6 → wrap64 (1 * 2 ^ k) = pw k := by decide +kernel
theorem coreBit_any (k : Nat) (hk : k ≤ 6) (w : World) : Calls Tryz.prog 193 #[.int .i64 k] w (Sk w (.int .i64 (pw k))) := by
 have HS : Hid (wrap64 (1 * 2 ^ k) = pw k) := shl_pw k hk
 go_enter Tryz.func193, Tryz.ntmps193
 go_wp2
 go_ret
 exact ⟨by have := HS.out; simp at this ⊢; exact this, rfl⟩
theorem coreAll_any (lo : Option Addr) (n cap : Nat) (hn : n ≤ 6) (w : World) : Calls Tryz.prog 174 #[.slice lo n cap] w (Sk w (.int .i64 (maskTo (fun _ => true) n))) := by
 have HS : Hid (wrap64 (pw n - 1) = maskTo (fun _ => true) n) := by
  unfold Hid
  rw [mask_all]
  obtain ⟨m, hm, h64, _⟩ := bits_at (fun _ => true) hn
  rw [hm]; unfold wrap64; omega
 go_enter Tryz.func174, Tryz.ntmps174
 go_wp2_with fail
 go_at_call 193
 refine (coreBit_any n hn _).mono ?_
 rintro e w' ⟨rfl, rfl⟩
 go_wp2
 go_ret
 exact ⟨by first | (rw [HS.out]; done) | (rw [HS.out]; rfl), rfl⟩
theorem isOpenIn_any (h s : Int) (P : Nat) (w : World) (hP : w.cell? ⟨P, 0, none⟩ = some (.int .i64 s)) :
    Calls Tryz.prog 192 #[.int .i64 h, .pointer (some ⟨P, 0, none⟩)] w (Bk w (.bool (decide (bits .and .i64 h s = s)))) := by
 go_enter Tryz.func192, Tryz.ntmps192
 go_wp2
 go_ret
 exact ⟨by first | rfl | simp, Below.refl _ _⟩
theorem coreIdx (n b off cap P : Nat) (us : Nat → Int) (s : Int) (w : World) (hl : n ≤ 9223372036854775807) (hB : b < w.heap.size) (hc : ∀ k, k < n → w.cell? ⟨b, off + k, none⟩ = some (.int .i64 (us k))) (hP : w.cell? ⟨P, 0, none⟩ = some (.int .i64 s)) :
    Calls Tryz.prog 153 #[.slice (some ⟨b, off, none⟩) n cap, .func (.func 192) #[] #[.pointer (some ⟨P, 0, none⟩)]] w fun e w' => (∃ r : Int, e = .returned (.int .i64 r) ∧ (0 ≤ r ↔ ∃ k, k < n ∧ decide (bits .and .i64 (us k) s = s) = true)) ∧ Bw w w' := by
 have HC : Hid (∀ W k, Bw w W → k < n → W.cell? ⟨b, off + k, none⟩ = some (.int .i64 (us k))) := fun W k hW hk => by rw [hW.cell (show (⟨b, off + k, none⟩ : Addr).block < w.heap.size from hB)]; exact hc k hk
 have HP : Hid (∀ W k, Bw w W → k < n → Calls Tryz.prog 192 #[.int .i64 (us k), .pointer (some ⟨P, 0, none⟩)] W (Bk W (.bool (decide (bits .and .i64 (us k) s = s))))) := fun W k hW _ => isOpenIn_any (us k) s P W (by rw [hW.cell (World.block_lt_of_cell? _ _ hP)]; exact hP)
 obtain ⟨p, hp⟩ : ∃ p : Nat → Bool, p = fun k => decide (bits .and .i64 (us k) s = s) := ⟨_, rfl⟩
 have HP : Hid (∀ W k, Bw w W → k < n → Calls Tryz.prog 192 #[.int .i64 (us k), .pointer (some ⟨P, 0, none⟩)] W (Bk W (.bool (p k)))) := by rw [hp]; exact HP
 have hg : ∀ k, decide (bits .and .i64 (us k) s = s) = p k := fun k => by rw [hp]
 simp only [hg]
 clear hc hB hP hp hg
 go_enter Tryz.func153, Tryz.ntmps153
 go_wp2
 go_loopw [5, 8] (fun _ i wr => ∃ k : Nat, k ≤ n ∧ i = .int .i64 k ∧ Bw w wr ∧ Hid (∀ j, j < k → p j = false)) (fun _ i _ => n - (intOf i).toNat)
 case atStart => exact ⟨0, Nat.zero_le _, rfl, Below.refl _ _, fun j hj => absurd hj (Nat.not_lt_zero _)⟩
 case round =>
  obtain ⟨k, hk, rfl, hb0, A⟩ := hrel
  have HB := hide hb0
  clear hb0
  by_cases hlt : k < n
  ·have hcell := HC.out wr k HB.out hlt
   have hcall := HP.out wr k HB.out hlt
   obtain ⟨x, hx⟩ := nm (us k)
   rw [← hx] at hcell hcall
   clear hx
   have hltz : (k : Int) < (n : Int) := by omega
   cases hq : p k with
   | true =>
    rw [hq] at hcall
    have HQ := hide hq
    have HCl := hide hcall
    clear hcall hq
    go_wp2_with fail
    go_at_call 192
    refine HCl.out.mono ?_
    rintro e w' ⟨rfl, hb'⟩
    have HB' := bt HB hb'
    clear hb'
    go_wp2
    go_ret
    exact ⟨⟨_, rfl, fun _ => ⟨k, hlt, HQ.out⟩, fun _ => by omega⟩, HB'.out⟩
   | false =>
    rw [hq] at hcall
    have HQ := hide hq
    have HCl := hide hcall
    clear hcall hq
    go_wp2_with fail
    go_at_call 192
    refine HCl.out.mono ?_
    rintro e w' ⟨rfl, hb'⟩
    have HB' := bt HB hb'
    clear hb'
    go_wp2
    go_roundw
    case rel =>
     refine ⟨k + 1, by omega, by go_num, HB'.out, fun j hj => ?_⟩
     by_cases e : j = k
     ·rw [e]; exact HQ.out
     ·exact A.out j (by omega)
    case measure => simp [intOf]; omega
  ·have hltz : ¬ (k : Int) < (n : Int) := by omega
   go_wp2
   go_ret
   refine ⟨⟨_, rfl, fun h => absurd h (by decide), fun ⟨j, hj, hpj⟩ => ?_⟩, HB.out⟩
   rw [A.out j (by omega)] at hpj; cases hpj
theorem coreIdx_none (a : Option Addr) (cap : Nat) (fv : Value) (w : World) : Calls Tryz.prog 153 #[.slice a 0 cap, fv] w (Sk w (.int .i64 (-1))) := by
 go_enter Tryz.func153, Tryz.ntmps153
 go_wp2
 go_loopw [5, 8] (fun _ i wr => i = .int .i64 0 ∧ w = wr) (fun _ _ _ => 0)
 case atStart => exact ⟨rfl, rfl⟩
 case round =>
  obtain ⟨rfl, rfl⟩ := hrel
  go_wp2
  go_ret
  exact ⟨rfl, rfl⟩
theorem coreHas (v : Value) (t : List Int) (P : Nat) (s : Int) (w : World) (hR : Reads w v t) (hP : w.cell? ⟨P, 0, none⟩ = some (.int .i64 s)) :
    Calls Tryz.prog 116 #[v, .func (.func 192) #[] #[.pointer (some ⟨P, 0, none⟩)]] w (Bk w (.bool (t.any fun h => decide (bits .and .i64 h s = s)))) := by
 obtain ⟨ao, m, cap, rfl, c⟩ : ∃ ao m cap, v = .slice ao m cap ∧ Calls Tryz.prog 153 #[.slice ao m cap, .func (.func 192) #[] #[.pointer (some ⟨P, 0, none⟩)]] w fun e w' => (∃ r : Int, e = .returned (.int .i64 r) ∧ (0 ≤ r ↔ (t.any fun h => decide (bits .and .i64 h s = s)) = true)) ∧ Bw w w' := by
  rcases hR with ⟨ao, cap, rfl, rfl⟩ | ⟨b, off, cap, rfl, hB, h0, ⟨hl, hcp⟩, hc⟩
  ·refine ⟨_, _, _, rfl, (coreIdx_none ao cap _ w).mono ?_⟩
   rintro e w' ⟨rfl, rfl⟩
   exact ⟨⟨_, rfl, by simp⟩, Below.refl _ _⟩
  ·refine ⟨_, _, _, rfl, (coreIdx t.length b off cap P (fun k => t.getD k 0) s w hl hB hc hP).mono ?_⟩
   rintro e w' ⟨⟨r, rfl, hr⟩, hb⟩
   refine ⟨⟨r, rfl, ?_⟩, hb⟩
   rw [hr, List.any_eq_true]
   constructor
   ·rintro ⟨k, hk, h⟩
    refine ⟨t.getD k 0, ?_, h⟩
    rw [List.getD_eq_getElem?_getD, List.getElem?_eq_getElem hk]
    exact List.getElem_mem hk
   ·rintro ⟨x, hx, h⟩
    obtain ⟨k, hk⟩ := List.mem_iff_getElem?.1 hx
    refine ⟨k, (List.getElem?_eq_some_iff.1 hk).1, ?_⟩
    rw [List.getD_eq_getElem?_getD, hk]; exact h
 obtain ⟨R, hRd⟩ := nm (t.any fun h => decide (bits .and .i64 h s = s))
 rw [← hRd] at c ⊢
 have HCl := hide c
 clear c hRd hR hP
 go_enter Tryz.func116, Tryz.ntmps116
 go_wp2_with fail
 go_at_call 153
 refine HCl.out.mono ?_
 rintro e w' ⟨⟨r, rfl, hr⟩, hb⟩
 have HB := hide hb
 have HR : Hid (R = decide (0 ≤ r)) := by
  unfold Hid
  rw [Bool.eq_iff_iff, decide_eq_true_eq, hr]
 clear hb hr
 go_wp2
 go_ret
 exact ⟨back_b HR.out.symm, HB.out⟩
theorem isOpen_any (v : Value) (t : List Int) (s : Int) (w : World) (hR : Reads w v t) :
    Calls Tryz.prog 173 #[v, .int .i64 s] w (Bk w (.bool (t.any fun h => decide (bits .and .i64 h s = s)))) := by
 have hb1 := below_alloc1 w (.cells #[.int .i64 s] 3)
 have HCl : Hid (Calls Tryz.prog 116 #[v, .func (.func 192) #[] #[.pointer (some ⟨w.heap.size, 0, none⟩)]] (w.alloc (.cells #[.int .i64 s] 3)) (Bk w (.bool (t.any fun h => decide (bits .and .i64 h s = s))))) :=
  (coreHas v t w.heap.size s _ (hR.below hb1) ((Blk.new w 3 #[.int .i64 s]).cell 0)).mono fun e w' ⟨h1, h2⟩ => ⟨h1, hb1.trans (h2.mono hb1.size)⟩
 obtain ⟨R, hRd⟩ := nm (t.any fun h => decide (bits .and .i64 h s = s))
 rw [← hRd] at HCl ⊢
 clear hRd hb1 hR
 go_enter Tryz.func173, Tryz.ntmps173
 go_wp2_with fail
 go_at_call 116
 refine HCl.out.mono ?_
 rintro e w' ⟨rfl, hb⟩
 have HB := hide hb
 clear hb
 go_wp2
 go_ret
 exact ⟨rfl, HB.out⟩
theorem holding_any (v : Value) (fs : List Fm) (hgood : ∀ f ∈ fs, f.fault = 0) (h6 : fs.length ≤ 6) (D : Wd) (hok : D.ok = true) (w : World) (hF : ReadsF w v fs) (hK : KindsLaid w) :
    Calls Tryz.prog 191 #[v, .agg #[.int .i64 D.u, .int .i64 D.a, .int .i64 D.b, .int .i64 D.c]] w (Bk w (.tuple #[.int .i64 (maskTo (holdsAt fs D) fs.length), .nilIface])) := by
 obtain ⟨lo, lcap, rfl, hl63⟩ := hF.slice
 have HF := hide hF
 have HHo : Hid (∀ (k : Nat) f va vc W, fs[k]? = some f → Bw w W → ReadsA W va f.ats → Reads W vc f.c → Calls Tryz.prog 122 #[.agg #[va, vc], .agg #[.int .i64 D.u, .int .i64 D.a, .int .i64 D.b, .int .i64 D.c]] W (Bk W (.tuple #[.bool (holdsAt fs D k), .nilIface]))) := fun k f va vc W hf hW hA hC => by
  have h := fholds_any va vc f.ats f.c D.u D.a D.b D.c W hA hC (hK.below hW)
  have e : (Wd.mk D.u D.a D.b D.c).formFault f.ats f.c = 0 := wdForm_zero.2 ⟨hgood f (List.mem_of_getElem? hf), hok⟩
  rw [e] at h
  rw [holds_at hf]
  exact h
 have HOr : Hid (∀ k, k < fs.length → holdsAt fs D k = true → bits .or .i64 (maskTo (holdsAt fs D) k) (pw k) = maskTo (holdsAt fs D) (k + 1)) := fun k hk h => mask_or _ (by omega) h
 have HNo : Hid (∀ k, holdsAt fs D k = false → maskTo (holdsAt fs D) (k + 1) = maskTo (holdsAt fs D) k) := fun k h => mask_not _ h
 obtain ⟨L, hL⟩ := nm (holdsAt fs D)
 rw [← hL] at HHo HOr HNo ⊢
 obtain ⟨n, hn⟩ := nm fs.length
 rw [← hn] at HF hl63 HOr h6 ⊢
 have HN := hide hn
 obtain ⟨w1, hw1⟩ := nm (w.alloc (.cells #[.int .i64 D.u, .int .i64 D.a, .int .i64 D.b, .int .i64 D.c] 58))
 have HB1 : Hid (Bw w w1) := by unfold Hid; rw [hw1]; exact below_alloc1 _ _
 have HQ1 : Hid (Blk w1 w.heap.size 58 (arrW D)) := by unfold Hid; rw [hw1]; exact Blk.new _ _ _
 clear hF hL hn hgood hok hK
 go_enter Tryz.func191, Tryz.ntmps191
 go_wp2
 rw [← hw1]
 clear hw1
 go_loopw [6, 13] (fun h i wr => ∃ k : Nat, k ≤ n ∧ i = .int .i64 k ∧ h = .int .i64 (maskTo L k) ∧ Bw w1 wr) (fun _ i _ => n - (intOf i).toNat)
 case atStart => exact ⟨0, Nat.zero_le _, rfl, rfl, Below.refl _ _⟩
 case round =>
  obtain ⟨k, hk, rfl, rfl, hbr⟩ := hrel
  have HBr := hide hbr
  have HBw := bt HB1 hbr
  clear hbr
  by_cases hlt : k < n
  ·obtain ⟨f, hf⟩ : ∃ f, fs[k]? = some f := ⟨_, List.getElem?_eq_getElem (by rw [← HN.out]; exact hlt)⟩
   obtain ⟨bL, oL, cL, hv⟩ := HF.out.place (by rw [← HN.out]; omega)
   obtain ⟨hlo, hx1, hx2⟩ := Value.slice.inj hv
   clear hx1 hx2
   subst hlo
   obtain ⟨hbL, va, vc, c0, c1, hA, hC⟩ := HF.out.at hf
   obtain ⟨ao, acap, rfl, _⟩ := hA.slice
   obtain ⟨co, ccap, rfl, _⟩ := hC.slice
   have x0 : wr.cell? ⟨bL, oL + k * 2, none⟩ = some (.slice ao f.ats.length acap) := (HBw.out.cell hbL).trans c0
   have x1 : wr.cell? ⟨bL, oL + k * 2 + 1, none⟩ = some (.slice co f.c.length ccap) := (HBw.out.cell hbL).trans c1
   have HH1 : Hid (∀ W, Bw wr W → Calls Tryz.prog 122 #[.agg #[.slice ao f.ats.length acap, .slice co f.c.length ccap], .agg #[.int .i64 D.u, .int .i64 D.a, .int .i64 D.b, .int .i64 D.c]] W (Bk w1 (.tuple #[.bool (L k), .nilIface]))) := fun W hW => by
    have hb' := HBw.out.trans (hW.mono HBw.out.size)
    have hb1 := HBr.out.trans (hW.mono HBr.out.size)
    exact (HHo.out k f _ _ W hf hb' (hA.below hb') (hC.below hb')).mono fun e w' ⟨he, hb⟩ => ⟨he, hb1.trans (hb.mono hb1.size)⟩
   obtain ⟨al, hal⟩ := nm f.ats.length
   obtain ⟨cl, hcl⟩ := nm f.c.length
   rw [← hal] at x0 HH1
   rw [← hcl] at x1 HH1
   obtain ⟨wf, hwf⟩ := nm (wr.alloc (.cells #[.slice ao al acap, .slice co cl ccap] 78))
   have HBf : Hid (Bw wr wf) := by unfold Hid; rw [hwf]; exact below_alloc1 _ _
   have HQf : Hid (Blk wf wr.heap.size 78 #[.slice ao al acap, .slice co cl ccap]) := by unfold Hid; rw [hwf]; exact Blk.new _ _ _
   have HH2 : Hid (Calls Tryz.prog 122 #[.agg #[.slice ao al acap, .slice co cl ccap], .agg #[.int .i64 D.u, .int .i64 D.a, .int .i64 D.b, .int .i64 D.c]] wf (Bk w1 (.tuple #[.bool (L k), .nilIface]))) := HH1.out _ HBf.out
   clear hf hv hbL c0 c1 hA hC hal hcl HH1
   have hkn : (k : Int) < (n : Int) := by omega
   obtain ⟨q, hq⟩ := nm (L k)
   have HQ := hide hq
   rw [← hq] at HH2
   clear hq
   go_upto_region 5 with fail
   rw [← hwf]
   clear hwf x0 x1
   have y0 : wf.cell? ⟨wr.heap.size, 0, none⟩ = some (.slice ao al acap) := HQf.out.cell 0
   have y1 : wf.cell? ⟨wr.heap.size, 1, none⟩ = some (.slice co cl ccap) := HQf.out.cell 1
   obtain ⟨d0, d1, d2, d3⟩ := ((HQ1.out.below HBr.out).below HBf.out).cells4
   go_wp2_with fail
   go_at_call 122
   refine HH2.out.mono ?_
   rintro e w8 ⟨rfl, hb8⟩
   have HB8 := hide hb8
   clear hb8 y0 y1 d0 d1 d2 d3
   cases q with
   | true =>
    have HS := hide (HOr.out k hlt HQ.out.symm)
    obtain ⟨m, hm⟩ := nm (maskTo L k)
    rw [← hm] at HS ⊢
    clear hm
    go_wp2_with fail
    go_at_call 193
    refine (coreBit_any k (by omega) _).mono ?_
    rintro e w' ⟨rfl, rfl⟩
    go_wp2
    go_roundw
    case rel => exact ⟨k + 1, by omega, by go_num, by rw [HS.out], HB8.out⟩
    case measure => simp [intOf]; omega
   | false =>
    have HS := hide (HNo.out k HQ.out.symm)
    go_wp2
    go_roundw
    case rel => exact ⟨k + 1, by omega, by go_num, by rw [HS.out], HB8.out⟩
    case measure => simp [intOf]; omega
  ·obtain rfl : k = n := by omega
   go_wp2
   go_ret2
   exact ⟨rfl, HBw.out⟩
end Go.Proofs.YtnoohlibgaeklaaGreatDoor
