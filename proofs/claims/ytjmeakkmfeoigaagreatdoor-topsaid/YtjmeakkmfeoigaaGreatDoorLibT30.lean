/-
  Facts and contracts that the statement leans on.
-/
import Derived.Test.YtjmeakkmfeoigaaGreatDoorLibT23
import Derived.Test.YtjmeakkmfeoigaaGreatDoorLibT22
import Derived.Test.YtjmeakkmfeoigaaGreatDoorLibT6
import Derived.Test.YtjmeakkmfeoigaaGreatDoorLibT7
import Derived.Test.YtjmeakkmfeoigaaGreatDoorLibT18
import Derived.Test.YtjmeakkmfeoigaaGreatDoorLibT16
import Derived.Test.YtjmeakkmfeoigaaGreatDoorLibT8
import Derived.Test.YtjmeakkmfeoigaaGreatDoorLibT28
import Derived.Shelf.Abstract
import Derived.Deep.LoopGhost
import Derived.Deep.CutRange
import Derived.Deep.RegionWith
import Derived.OwnWalk
import Derived.Test.YtjmeakkmfeoigaaGreatDoorLibT17
import Derived.Test.YtjmeakkmfeoigaaGreatDoorLibT11
namespace Go.Proofs.YtjmeakkmfeoigaaGreatDoor
open Go.ChangeShapes Go.WideShapes Go.ChangeAt Go.RowKit
set_option maxRecDepth 100000
theorem str_eq {x : ByteArray} {l : List UInt8} (h : x.data.toList = l) : x = strOf l := by rw [← h, strOf_data]
theorem back_str {a b : ByteArray} {v : Value} (h : a = b) : Ending.returned (.tuple #[.string a, v]) = .returned (.tuple #[.string b, v]) := by rw [h]
def BoxA (w : World) (B : Nat) (k n : Int) (vs vt : Value) : Prop := w.cell? ⟨B, 0, none⟩ = some (.int .i64 k) ∧ w.cell? ⟨B, 1, none⟩ = some vs ∧ w.cell? ⟨B, 2, none⟩ = some vt ∧ w.cell? ⟨B, 3, none⟩ = some (.int .i64 n)
theorem BoxA.below {w w' : World} {B K : Nat} {k n : Int} {vs vt : Value} (h : BoxA w B k n vs vt) (hb : Below K w w') (hK : B < K) : BoxA w' B k n vs vt :=
 ⟨(hb.cell hK).trans h.1, (hb.cell hK).trans h.2.1, (hb.cell hK).trans h.2.2.1, (hb.cell hK).trans h.2.2.2⟩
theorem boxA_alloc (w : World) (k n : Int) (vs vt : Value) : BoxA (w.alloc (.cells #[.int .i64 k, vs, vt, .int .i64 n] 29)) w.heap.size k n vs vt := ⟨by simp, by simp, by simp, by simp⟩
theorem aprint_bad (k F : Int) (n : Int) (sao tao : Option Addr) (sl scap tl tcap : Nat) (w : World)
    (hC : ∀ W, Below w.heap.size w W → Calls Tryz.prog 36 #[.agg #[.int .i64 k, .slice sao sl scap, .slice tao tl tcap, .int .i64 n]] W (Bk W (.iface 64 (.int .i64 F)))) :
    Calls Tryz.prog 58 #[.agg #[.int .i64 k, .slice sao sl scap, .slice tao tl tcap, .int .i64 n]] w (Bk w (.tuple #[.string ⟨#[]⟩, (.iface 64 (.int .i64 F))])) := by
 obtain ⟨w1, hw1⟩ := nm (w.alloc (.cells #[.int .i64 k, .slice sao sl scap, .slice tao tl tcap, .int .i64 n] 29))
 have HB1 : Hid (Below w.heap.size w w1) := by unfold Hid; rw [hw1]; exact below_alloc1 w _
 have HX : Hid (BoxA w1 w.heap.size k n (.slice sao sl scap) (.slice tao tl tcap)) := by unfold Hid; rw [hw1]; exact boxA_alloc w _ _ _ _
 have HK1 : Hid (w.heap.size < w1.heap.size) := by unfold Hid; rw [hw1]; simp
 have HC := hide (hC w1 HB1.out)
 clear hC
 obtain ⟨x0, x1, x2, x3⟩ := HX.out
 go_enter Tryz.func58, Tryz.ntmps58
 go_wp2_with fail
 rw [← hw1]
 clear hw1
 go_wp2_with (go_at_call 36; refine HC.out.mono ?_; rintro e w2 ⟨rfl, hb⟩; have HB2 : Hid (Below w.heap.size w w2) := HB1.out.trans (hb.mono HB1.out.size); clear hb)
 go_ret2
 exact ⟨rfl, HB2.out⟩
set_option maxHeartbeats 2000000 in
theorem aprint_two (k : Nat) (h0 : 0 < k) (h6 : k < 6) (Q : ByteArray) (hQ : Q.size ≤ 6) (ls lt : List UInt8) (zs : ls.length ≤ 20) (zt : lt.length ≤ 20) (n : Int) (sao tao : Option Addr) (sl scap tl tcap : Nat) (w : World)
    (HKc : Hid (∀ W, Below w.heap.size w W → W.cell? ⟨0, k * 3, none⟩ = some (.string Q) ∧ W.cell? ⟨0, k * 3 + 1, none⟩ = some (.bool true) ∧ W.cell? ⟨0, k * 3 + 2, none⟩ = some (.bool false)))
    (hC : ∀ W, Below w.heap.size w W → Calls Tryz.prog 36 #[.agg #[.int .i64 (k : Int), .slice sao sl scap, .slice tao tl tcap, .int .i64 n]] W (Bk W .nilIface))
    (hS : ∀ W, Below w.heap.size w W → Calls Tryz.prog 89 #[.slice sao sl scap] W (Bk W (.tuple #[.string (strOf ls), .nilIface])))
    (hT : ∀ W, Below w.heap.size w W → Calls Tryz.prog 89 #[.slice tao tl tcap] W (Bk W (.tuple #[.string (strOf lt), .nilIface])))
    : Calls Tryz.prog 58 #[.agg #[.int .i64 (k : Int), .slice sao sl scap, .slice tao tl tcap, .int .i64 n]] w (Bk w (.tuple #[.string (strOf (Q.data.toList ++ (32 :: ls) ++ (32 :: lt))), .nilIface])) := by
 obtain ⟨w1, hw1⟩ := nm (w.alloc (.cells #[.int .i64 (k : Int), .slice sao sl scap, .slice tao tl tcap, .int .i64 n] 29))
 have HB1 : Hid (Below w.heap.size w w1) := by unfold Hid; rw [hw1]; exact below_alloc1 w _
 have HX : Hid (BoxA w1 w.heap.size (k : Int) n (.slice sao sl scap) (.slice tao tl tcap)) := by unfold Hid; rw [hw1]; exact boxA_alloc w _ _ _ _
 have HK1 : Hid (w.heap.size < w1.heap.size) := by unfold Hid; rw [hw1]; simp
 have HT0 : Hid (∀ W, Below w1.heap.size w1 W → Below w.heap.size w W) := fun W h => HB1.out.trans (h.mono HB1.out.size)
 have HC := hide (hC w1 HB1.out)
 obtain ⟨ps, hps⟩ := nm (strOf ls)
 obtain ⟨pt, hpt⟩ := nm (strOf lt)
 have fs : ps.size ≤ 20 := by rw [hps, strOf_size]; exact zs
 have ft : pt.size ≤ 20 := by rw [hpt, strOf_size]; exact zt
 rw [← hps] at hS
 rw [← hpt] at hT
 have HS : Hid (∀ W, Below w1.heap.size w1 W → Calls Tryz.prog 89 #[.slice sao sl scap] W (Bk W (.tuple #[.string ps, .nilIface]))) := fun W h => hS W (HT0.out W h)
 have HT : Hid (∀ W, Below w1.heap.size w1 W → Calls Tryz.prog 89 #[.slice tao tl tcap] W (Bk W (.tuple #[.string pt, .nilIface]))) := fun W h => hT W (HT0.out W h)
 obtain ⟨R, hR⟩ := nm (strOf (Q.data.toList ++ (32 :: ls) ++ (32 :: lt)))
 rw [← hR]
 have HR : Hid (R.data.toList = Q.data.toList ++ (32 :: ps.data.toList) ++ (32 :: pt.data.toList)) := by
  unfold Hid; rw [hR, hps, hpt]; simp only [strOf_list]
 clear hR hps hpt zs zt hC hS hT
 obtain ⟨x0, x1, x2, x3⟩ := HX.out
 go_enter Tryz.func58, Tryz.ntmps58
 go_wp2_with fail
 rw [← hw1]
 clear hw1
 go_wp2_with fail
 go_at_call 36
 refine HC.out.mono ?_
 rintro e w2 ⟨rfl, hb⟩
 have HZ2 := hide hb
 clear hb x0 x1 x2 x3
 obtain ⟨q0, q1, q2⟩ := HKc.out _ (HT0.out _ HZ2.out)
 obtain ⟨x0, x1, x2, x3⟩ := HX.out.below HZ2.out HK1.out
 go_wp2_with fail
 go_at_call 89
 refine (HS.out _ HZ2.out).mono ?_
 rintro e w3 ⟨rfl, hb⟩
 have HZ3 := hide (HZ2.out.trans (hb.mono HZ2.out.size))
 clear hb x0 x1 x2 x3 q0 q1 q2
 obtain ⟨q0, q1, q2⟩ := HKc.out _ (HT0.out _ HZ3.out)
 obtain ⟨x0, x1, x2, x3⟩ := HX.out.below HZ3.out HK1.out
 go_wp2_with fail
 go_at_call 89
 refine (HT.out _ HZ3.out).mono ?_
 rintro e w4 ⟨rfl, hb⟩
 have HZ4 := hide (HZ3.out.trans (hb.mono HZ3.out.size))
 clear hb x0 x1 x2 x3 q0 q1 q2
 obtain ⟨q0, q1, q2⟩ := HKc.out _ (HT0.out _ HZ4.out)
 obtain ⟨x0, x1, x2, x3⟩ := HX.out.below HZ4.out HK1.out
 go_wp2_with fail
 go_ret2
 refine ⟨back_str ?_, HT0.out _ HZ4.out⟩
 refine (str_eq (l := R.data.toList) ?_).trans (strOf_data R)
 rw [HR.out]
 simp
set_option maxHeartbeats 2000000 in
theorem aprint_num (k : Nat) (h0 : 0 < k) (h6 : k < 6) (Q : ByteArray) (hQ : Q.size ≤ 6) (ls ln : List UInt8) (zs : ls.length ≤ 20) (zn : ln.length ≤ 20) (n : Int) (sao tao : Option Addr) (sl scap tl tcap : Nat) (w : World)
    (HKc : Hid (∀ W, Below w.heap.size w W → W.cell? ⟨0, k * 3, none⟩ = some (.string Q) ∧ W.cell? ⟨0, k * 3 + 1, none⟩ = some (.bool false) ∧ W.cell? ⟨0, k * 3 + 2, none⟩ = some (.bool true)))
    (hC : ∀ W, Below w.heap.size w W → Calls Tryz.prog 36 #[.agg #[.int .i64 (k : Int), .slice sao sl scap, .slice tao tl tcap, .int .i64 n]] W (Bk W .nilIface))
    (hS : ∀ W, Below w.heap.size w W → Calls Tryz.prog 89 #[.slice sao sl scap] W (Bk W (.tuple #[.string (strOf ls), .nilIface])))
    (hN : ∀ W, Below w.heap.size w W → Calls Tryz.prog 90 #[.int .i64 n] W (Bk W (.string (strOf ln))))
    : Calls Tryz.prog 58 #[.agg #[.int .i64 (k : Int), .slice sao sl scap, .slice tao tl tcap, .int .i64 n]] w (Bk w (.tuple #[.string (strOf (Q.data.toList ++ (32 :: ls) ++ (32 :: ln))), .nilIface])) := by
 obtain ⟨w1, hw1⟩ := nm (w.alloc (.cells #[.int .i64 (k : Int), .slice sao sl scap, .slice tao tl tcap, .int .i64 n] 29))
 have HB1 : Hid (Below w.heap.size w w1) := by unfold Hid; rw [hw1]; exact below_alloc1 w _
 have HX : Hid (BoxA w1 w.heap.size (k : Int) n (.slice sao sl scap) (.slice tao tl tcap)) := by unfold Hid; rw [hw1]; exact boxA_alloc w _ _ _ _
 have HK1 : Hid (w.heap.size < w1.heap.size) := by unfold Hid; rw [hw1]; simp
 have HT0 : Hid (∀ W, Below w1.heap.size w1 W → Below w.heap.size w W) := fun W h => HB1.out.trans (h.mono HB1.out.size)
 have HC := hide (hC w1 HB1.out)
 obtain ⟨ps, hps⟩ := nm (strOf ls)
 obtain ⟨pn, hpn⟩ := nm (strOf ln)
 have fs : ps.size ≤ 20 := by rw [hps, strOf_size]; exact zs
 have fn : pn.size ≤ 20 := by rw [hpn, strOf_size]; exact zn
 rw [← hps] at hS
 rw [← hpn] at hN
 have HS : Hid (∀ W, Below w1.heap.size w1 W → Calls Tryz.prog 89 #[.slice sao sl scap] W (Bk W (.tuple #[.string ps, .nilIface]))) := fun W h => hS W (HT0.out W h)
 have HN : Hid (∀ W, Below w1.heap.size w1 W → Calls Tryz.prog 90 #[.int .i64 n] W (Bk W (.string pn))) := fun W h => hN W (HT0.out W h)
 obtain ⟨R, hR⟩ := nm (strOf (Q.data.toList ++ (32 :: ls) ++ (32 :: ln)))
 rw [← hR]
 have HR : Hid (R.data.toList = Q.data.toList ++ (32 :: ps.data.toList) ++ (32 :: pn.data.toList)) := by
  unfold Hid; rw [hR, hps, hpn]; simp only [strOf_list]
 clear hR hps hpn zs zn hC hS hN
 obtain ⟨x0, x1, x2, x3⟩ := HX.out
 go_enter Tryz.func58, Tryz.ntmps58
 go_wp2_with fail
 rw [← hw1]
 clear hw1
 go_wp2_with fail
 go_at_call 36
 refine HC.out.mono ?_
 rintro e w2 ⟨rfl, hb⟩
 have HZ2 := hide hb
 clear hb x0 x1 x2 x3
 obtain ⟨q0, q1, q2⟩ := HKc.out _ (HT0.out _ HZ2.out)
 obtain ⟨x0, x1, x2, x3⟩ := HX.out.below HZ2.out HK1.out
 go_wp2_with fail
 go_at_call 89
 refine (HS.out _ HZ2.out).mono ?_
 rintro e w3 ⟨rfl, hb⟩
 have HZ3 := hide (HZ2.out.trans (hb.mono HZ2.out.size))
 clear hb x0 x1 x2 x3 q0 q1 q2
 obtain ⟨q0, q1, q2⟩ := HKc.out _ (HT0.out _ HZ3.out)
 obtain ⟨x0, x1, x2, x3⟩ := HX.out.below HZ3.out HK1.out
 go_wp2_with fail
 go_at_call 90
 refine (HN.out _ HZ3.out).mono ?_
 rintro e w5 ⟨rfl, hb⟩
 have HZ5 := hide (HZ3.out.trans (hb.mono HZ3.out.size))
 clear hb x0 x1 x2 x3 q0 q1 q2
 go_wp2_with fail
 go_ret2
 refine ⟨back_str ?_, HT0.out _ HZ5.out⟩
 refine (str_eq (l := R.data.toList) ?_).trans (strOf_data R)
 rw [HR.out]
 simp
set_option maxHeartbeats 2000000 in
theorem aprint_all (k : Nat) (h0 : 0 < k) (h6 : k < 6) (Q : ByteArray) (hQ : Q.size ≤ 6) (ls lt ln : List UInt8) (zs : ls.length ≤ 20) (zt : lt.length ≤ 20) (zn : ln.length ≤ 20) (n : Int) (sao tao : Option Addr) (sl scap tl tcap : Nat) (w : World)
    (HKc : Hid (∀ W, Below w.heap.size w W → W.cell? ⟨0, k * 3, none⟩ = some (.string Q) ∧ W.cell? ⟨0, k * 3 + 1, none⟩ = some (.bool true) ∧ W.cell? ⟨0, k * 3 + 2, none⟩ = some (.bool true)))
    (hC : ∀ W, Below w.heap.size w W → Calls Tryz.prog 36 #[.agg #[.int .i64 (k : Int), .slice sao sl scap, .slice tao tl tcap, .int .i64 n]] W (Bk W .nilIface))
    (hS : ∀ W, Below w.heap.size w W → Calls Tryz.prog 89 #[.slice sao sl scap] W (Bk W (.tuple #[.string (strOf ls), .nilIface])))
    (hT : ∀ W, Below w.heap.size w W → Calls Tryz.prog 89 #[.slice tao tl tcap] W (Bk W (.tuple #[.string (strOf lt), .nilIface])))
    (hN : ∀ W, Below w.heap.size w W → Calls Tryz.prog 90 #[.int .i64 n] W (Bk W (.string (strOf ln))))
    : Calls Tryz.prog 58 #[.agg #[.int .i64 (k : Int), .slice sao sl scap, .slice tao tl tcap, .int .i64 n]] w (Bk w (.tuple #[.string (strOf (Q.data.toList ++ (32 :: ls) ++ (32 :: lt) ++ (32 :: ln))), .nilIface])) := by
 obtain ⟨w1, hw1⟩ := nm (w.alloc (.cells #[.int .i64 (k : Int), .slice sao sl scap, .slice tao tl tcap, .int .i64 n] 29))
 have HB1 : Hid (Below w.heap.size w w1) := by unfold Hid; rw [hw1]; exact below_alloc1 w _
 have HX : Hid (BoxA w1 w.heap.size (k : Int) n (.slice sao sl scap) (.slice tao tl tcap)) := by unfold Hid; rw [hw1]; exact boxA_alloc w _ _ _ _
 have HK1 : Hid (w.heap.size < w1.heap.size) := by unfold Hid; rw [hw1]; simp
 have HT0 : Hid (∀ W, Below w1.heap.size w1 W → Below w.heap.size w W) := fun W h => HB1.out.trans (h.mono HB1.out.size)
 have HC := hide (hC w1 HB1.out)
 obtain ⟨ps, hps⟩ := nm (strOf ls)
 obtain ⟨pt, hpt⟩ := nm (strOf lt)
 obtain ⟨pn, hpn⟩ := nm (strOf ln)
 have fs : ps.size ≤ 20 := by rw [hps, strOf_size]; exact zs
 have ft : pt.size ≤ 20 := by rw [hpt, strOf_size]; exact zt
 have fn : pn.size ≤ 20 := by rw [hpn, strOf_size]; exact zn
 rw [← hps] at hS
 rw [← hpt] at hT
 rw [← hpn] at hN
 have HS : Hid (∀ W, Below w1.heap.size w1 W → Calls Tryz.prog 89 #[.slice sao sl scap] W (Bk W (.tuple #[.string ps, .nilIface]))) := fun W h => hS W (HT0.out W h)
 have HT : Hid (∀ W, Below w1.heap.size w1 W → Calls Tryz.prog 89 #[.slice tao tl tcap] W (Bk W (.tuple #[.string pt, .nilIface]))) := fun W h => hT W (HT0.out W h)
 have HN : Hid (∀ W, Below w1.heap.size w1 W → Calls Tryz.prog 90 #[.int .i64 n] W (Bk W (.string pn))) := fun W h => hN W (HT0.out W h)
 obtain ⟨R, hR⟩ := nm (strOf (Q.data.toList ++ (32 :: ls) ++ (32 :: lt) ++ (32 :: ln)))
 rw [← hR]
 have HR : Hid (R.data.toList = Q.data.toList ++ (32 :: ps.data.toList) ++ (32 :: pt.data.toList) ++ (32 :: pn.data.toList)) := by
  unfold Hid; rw [hR, hps, hpt, hpn]; simp only [strOf_list]
 clear hR hps hpt hpn zs zt zn hC hS hT hN
 obtain ⟨x0, x1, x2, x3⟩ := HX.out
 go_enter Tryz.func58, Tryz.ntmps58
 go_wp2_with fail
 rw [← hw1]
 clear hw1
 go_wp2_with fail
 go_at_call 36
 refine HC.out.mono ?_
 rintro e w2 ⟨rfl, hb⟩
 have HZ2 := hide hb
 clear hb x0 x1 x2 x3
 obtain ⟨q0, q1, q2⟩ := HKc.out _ (HT0.out _ HZ2.out)
 obtain ⟨x0, x1, x2, x3⟩ := HX.out.below HZ2.out HK1.out
 go_wp2_with fail
 go_at_call 89
 refine (HS.out _ HZ2.out).mono ?_
 rintro e w3 ⟨rfl, hb⟩
 have HZ3 := hide (HZ2.out.trans (hb.mono HZ2.out.size))
 clear hb x0 x1 x2 x3 q0 q1 q2
 obtain ⟨q0, q1, q2⟩ := HKc.out _ (HT0.out _ HZ3.out)
 obtain ⟨x0, x1, x2, x3⟩ := HX.out.below HZ3.out HK1.out
 go_wp2_with fail
 go_at_call 89
 refine (HT.out _ HZ3.out).mono ?_
 rintro e w4 ⟨rfl, hb⟩
 have HZ4 := hide (HZ3.out.trans (hb.mono HZ3.out.size))
 clear hb x0 x1 x2 x3 q0 q1 q2
 obtain ⟨q0, q1, q2⟩ := HKc.out _ (HT0.out _ HZ4.out)
 obtain ⟨x0, x1, x2, x3⟩ := HX.out.below HZ4.out HK1.out
 go_wp2_with fail
 go_at_call 90
 refine (HN.out _ HZ4.out).mono ?_
 rintro e w5 ⟨rfl, hb⟩
 have HZ5 := hide (HZ4.out.trans (hb.mono HZ4.out.size))
 clear hb x0 x1 x2 x3 q0 q1 q2
 go_wp2_with fail
 go_ret2
 refine ⟨back_str ?_, HT0.out _ HZ5.out⟩
 refine (str_eq (l := R.data.toList) ?_).trans (strOf_data R)
 rw [HR.out]
 simp
theorem digits_length (u : Nat) : (digitsN u).length ≤ 2 := by unfold digitsN; split <;> simp
theorem numText_length (n : Int) : (numText n).length ≤ 3 := by
 unfold numText
 split
 ·have := digits_length n.natAbs; simp; omega
 ·have := digits_length n.toNat; omega
def aprintS (k : Int) (s t : List Int) (n : Int) : ByteArray := if atomFault k s t n = 0 then strOf (atomText k s t n) else ⟨#[]⟩
theorem aprint_any (k n : Int) (vs vt : Value) (s t : List Int) (w : World) (hS : Reads w vs s) (hT : Reads w vt t) (hK : KindsLaid w) (hL : LibLaid w) :
    Calls Tryz.prog 58 #[.agg #[.int .i64 k, vs, vt, .int .i64 n]] w (Bk w (.tuple #[.string (aprintS k s t n), errV (atomFault k s t n)])) := by
 have hC : ∀ W, Below w.heap.size w W → _ := fun W hW => acheck_any k n vs vt s t W (hS.below hW) (hT.below hW) (hK.below hW)
 have hPS : ∀ W, Below w.heap.size w W → _ := fun W hW => print_any s vs W (hS.below hW)
 have hPT : ∀ W, Below w.heap.size w W → _ := fun W hW => print_any t vt W (hT.below hW)
 obtain ⟨sao, scap, rfl, _⟩ := hS.slice
 obtain ⟨tao, tcap, rfl, _⟩ := hT.slice
 by_cases hf : atomFault k s t n = 0
 ·obtain ⟨hk, hs, ht, n0, n1⟩ := atomFault_zero.1 hf
  have e0 : aprintS k s t n = strOf (atomText k s t n) := by unfold aprintS; rw [if_pos hf]
  have hm : mostN k ≤ 20 := by unfold mostN; split <;> omega
  rw [e0, hf, errV_0]
  rw [hf, errV_0] at hC
  have es : printS s = strOf (textN s) := by unfold printS; rw [if_pos hs]
  rw [es, hs, errV_0] at hPS
  have zs : (textN s).length ≤ 20 := by have := (fault_zero.1 hs).2.1; simp [textN]; omega
  have hsec : secondB k = true → (∀ W, Below w.heap.size w W → Calls Tryz.prog 89 #[.slice tao t.length tcap] W (Bk W (.tuple #[.string (strOf (textN t)), .nilIface]))) ∧ (textN t).length ≤ 20 := by
   intro h
   have h0 := second_reads ht h
   have et : printS t = strOf (textN t) := by unfold printS; rw [if_pos h0]
   rw [et, h0, errV_0] at hPT
   exact ⟨hPT, by have := (fault_zero.1 h0).2.1; simp [textN]; omega⟩
  have zn : (numText n).length ≤ 20 := by have := numText_length n; omega
  have hN : ∀ W, Below w.heap.size w W → Calls Tryz.prog 90 #[.int .i64 n] W (Bk W (.string (strOf (numText n)))) := fun W h => itoa_any n (by omega) (by omega) W (hL.below h)
  have hL := fun W (h : Below w.heap.size w W) => hK.below h
  rcases five hk.1 hk.2 with rfl | rfl | rfl | rfl | rfl
  ·obtain ⟨g1, g2⟩ := hsec (by decide)
   have := aprint_two 1 (by decide) (by decide) ⟨#[115, 117, 98]⟩ (by decide) (textN s) (textN t) zs g2 n sao tao _ scap _ tcap w (fun W h => ⟨hL W h _ (by decide), hL W h _ (by decide), hL W h _ (by decide)⟩) hC hPS g1
   simpa [atomText, kindWord, secondB, numberB] using this
  ·obtain ⟨g1, g2⟩ := hsec (by decide)
   have := aprint_two 2 (by decide) (by decide) ⟨#[115, 97, 109, 101]⟩ (by decide) (textN s) (textN t) zs g2 n sao tao _ scap _ tcap w (fun W h => ⟨hL W h _ (by decide), hL W h _ (by decide), hL W h _ (by decide)⟩) hC hPS g1
   simpa [atomText, kindWord, secondB, numberB] using this
  ·have := aprint_num 3 (by decide) (by decide) ⟨#[108, 101, 97, 115, 116]⟩ (by decide) (textN s) (numText n) zs zn n sao tao _ scap _ tcap w (fun W h => ⟨hL W h _ (by decide), hL W h _ (by decide), hL W h _ (by decide)⟩) hC hPS hN
   simpa [atomText, kindWord, secondB, numberB] using this
  ·have := aprint_num 4 (by decide) (by decide) ⟨#[109, 111, 115, 116]⟩ (by decide) (textN s) (numText n) zs zn n sao tao _ scap _ tcap w (fun W h => ⟨hL W h _ (by decide), hL W h _ (by decide), hL W h _ (by decide)⟩) hC hPS hN
   simpa [atomText, kindWord, secondB, numberB] using this
  ·obtain ⟨g1, g2⟩ := hsec (by decide)
   have := aprint_all 5 (by decide) (by decide) ⟨#[110, 111, 109, 111, 114, 101]⟩ (by decide) (textN s) (textN t) (numText n) zs g2 zn n sao tao _ scap _ tcap w (fun W h => ⟨hL W h _ (by decide), hL W h _ (by decide), hL W h _ (by decide)⟩) hC hPS g1 hN
   simpa [atomText, kindWord, secondB, numberB] using this
 ·have e0 : aprintS k s t n = ⟨#[]⟩ := by unfold aprintS; rw [if_neg hf]
  rw [e0, errV_no hf]
  rw [errV_no hf] at hC
  exact aprint_bad k _ n sao tao _ scap _ tcap w hC
end Go.Proofs.YtjmeakkmfeoigaaGreatDoor
namespace Go.Proofs.YtjmeakkmfeoigaaGreatDoor
open Go.RowKit
theorem leftTo_mem {fs : List Fm} {g : Nat → Bool} {f : Fm} : ∀ k, k ≤ fs.length → (f ∈ leftTo fs g k ↔ ∃ j, j < k ∧ g j = false ∧ fs[j]? = some f) := by
 intro k
 induction k with
 | zero => intro _; exact ⟨fun h => by simp [leftTo] at h, fun ⟨j, h, _⟩ => by omega⟩
 | succ k ih =>
  intro hk
  unfold leftTo
  rw [List.mem_append, ih (by omega), List.getElem?_eq_getElem (show k < fs.length by omega)]
  constructor
  ·rintro (⟨j, h1, h2, h3⟩ | h)
   ·exact ⟨j, by omega, h2, h3⟩
   ·cases hg : g k
    ·rw [hg] at h
     simp at h
     exact ⟨k, by omega, hg, by rw [List.getElem?_eq_getElem (by omega), h]⟩
    ·rw [hg] at h; simp at h
  ·rintro ⟨j, h1, h2, h3⟩
   rcases Nat.lt_or_ge j k with h | h
   ·exact Or.inl ⟨j, h, h2, h3⟩
   ·obtain rfl : j = k := by omega
    right
    rw [h2]
    rw [List.getElem?_eq_getElem (by omega)] at h3
    simp at h3
    simp [h3]
def coreF (fs : List Fm) (u : Nat) : List Fm := (coreTo fs u fs.length).map fun x => fs.getD x.toNat fmZ
end Go.Proofs.YtjmeakkmfeoigaaGreatDoor
namespace Go.Proofs.YtjmeakkmfeoigaaGreatDoor
open Go.RowKit
theorem or64 : ∀ k : Nat, k < 6 → ∀ m : Nat, m < 2 ^ k → bits .or .i64 (m : Int) (pw k) = (m : Int) + pw k := by decide +kernel
theorem and64 : ∀ n : Nat, n < 64 → ∀ m : Nat, m < 64 → bits .and .i64 (n : Int) (m : Int) = ((n &&& m : Nat) : Int) := by decide +kernel
theorem pw_nat (k : Nat) : pw k = ((2 ^ k : Nat) : Int) := by unfold pw; simp
theorem two_le {n : Nat} (h : n ≤ 6) : 2 ^ n ≤ 64 := Nat.le_trans (Nat.pow_le_pow_right (by decide) h : 2 ^ n ≤ 2 ^ 6) (by decide)
theorem bits_at (L : Nat → Bool) {n : Nat} (hn : n ≤ 6) : ∃ m : Nat, maskTo L n = (m : Int) ∧ m < 64 ∧ ∀ f, m.testBit f = (decide (f < n) && L f) := by
 obtain ⟨m0, m1⟩ := maskTo_le L n
 obtain ⟨m, hm⟩ := Int.eq_ofNat_of_zero_le m0
 have hlt : m < 2 ^ n := by rw [hm, pw_nat] at m1; omega
 have h64 := two_le hn
 refine ⟨m, hm, by omega, fun f => ?_⟩
 by_cases hf : f < n
 ·have h := has_mask L (show n ≤ 8 by omega) hf
  rw [hm] at h
  rw [decide_eq_true hf, Bool.true_and, ← h, Nat.testBit_eq_decide_div_mod_eq]
  unfold hasB
  apply decide_eq_decide.2
  have e : ((m : Int) / 2 ^ ((f : Int)).toNat % 2) = ((m / 2 ^ f % 2 : Nat) : Int) := by simp
  rw [e]
  omega
 ·rw [decide_eq_false hf, Bool.false_and]
  exact Nat.testBit_lt_two_pow (Nat.lt_of_lt_of_le hlt (Nat.pow_le_pow_right (by decide) (Nat.le_of_not_lt hf)))
theorem mask_all : ∀ n, pw n - 1 = maskTo (fun _ => true) n := by
 intro n
 induction n with
 | zero => rfl
 | succ n ih =>
  have e : pw (n + 1) = pw n + pw n := by rw [pw_nat, pw_nat, Nat.pow_succ]; omega
  unfold maskTo
  rw [← ih, e]
  show _ = _ + 1 * pw n
  omega
theorem mask_or (L : Nat → Bool) {k : Nat} (hk : k < 6) (h : L k = true) : bits .or .i64 (maskTo L k) (pw k) = maskTo L (k + 1) := by
 obtain ⟨m0, m1⟩ := maskTo_le L k
 obtain ⟨m, hm⟩ := Int.eq_ofNat_of_zero_le m0
 have hlt : m < 2 ^ k := by rw [hm, pw_nat] at m1; omega
 show _ = maskTo L k + oneB (L k) * pw k
 rw [hm, or64 k hk m hlt, h]
 show _ = _ + 1 * pw k
 omega
theorem mask_not (L : Nat → Bool) {k : Nat} (h : L k = false) : maskTo L (k + 1) = maskTo L k := by
 show maskTo L k + oneB (L k) * pw k = _
 rw [h]
 show _ + 0 * pw k = _
 omega
theorem mask_in (H L : Nat → Bool) {n : Nat} (hn : n ≤ 6) : (bits .and .i64 (maskTo H n) (maskTo L n) = maskTo L n) ↔ ∀ j, j < n → L j = true → H j = true := by
 obtain ⟨m, hm, hm64, hb⟩ := bits_at H hn
 obtain ⟨q, hq, hq64, hc⟩ := bits_at L hn
 rw [hm, hq, and64 m hm64 q hq64]
 have e : (((m &&& q : Nat) : Int) = (q : Int)) ↔ (m &&& q) = q := by omega
 rw [e]
 constructor
 ·intro h j hj hl
  have := congrArg (fun x => Nat.testBit x j) h
  simp only [Nat.testBit_and, hb, hc, decide_eq_true hj, hl, Bool.true_and, Bool.and_true] at this
  exact this
 ·intro h
  refine Nat.eq_of_testBit_eq fun f => ?_
  rw [Nat.testBit_and, hb, hc]
  by_cases hf : f < n
  ·rw [decide_eq_true hf]
   cases hl : L f
   ·simp
   ·rw [h f hf hl]; rfl
  ·rw [decide_eq_false hf]; simp
def holdsAt (fs : List Fm) (D : Wd) (j : Nat) : Bool := match fs[j]? with | some f => D.formIs f.ats f.c | none => false
theorem holds_at {fs : List Fm} {D : Wd} {j : Nat} {f : Fm} (h : fs[j]? = some f) : holdsAt fs D j = D.formIs f.ats f.c := by unfold holdsAt; rw [h]
def heldL (fs : List Fm) (u : Nat) : List Int := (everyC u).map fun N => maskTo (holdsAt fs (madeN N 8)) fs.length
theorem held_open {fs : List Fm} (h6 : fs.length ≤ 6) (u : Nat) (g : Nat → Bool) : ((heldL fs u).any fun h => decide (bits .and .i64 h (maskTo (fun k => !g k) fs.length) = maskTo (fun k => !g k) fs.length)) = openN (leftF fs g) u := by
 unfold heldL openN
 rw [List.any_map]
 congr 1
 funext N
 rw [Bool.eq_iff_iff]
 show decide _ = true ↔ _
 rw [decide_eq_true_iff, mask_in _ _ h6]
 unfold Wd.so
 rw [List.all_eq_true]
 constructor
 ·intro h f hf
  obtain ⟨j, h1, h2, h3⟩ := (leftTo_mem fs.length (Nat.le_refl _)).1 hf
  have := h j h1 (by rw [h2]; rfl)
  rw [holds_at h3] at this
  exact this
 ·intro h j hj hl
  have hf := List.getElem?_eq_getElem hj
  rw [holds_at hf]
  exact h _ ((leftTo_mem fs.length (Nat.le_refl _)).2 ⟨j, hj, by simpa using hl, hf⟩)
theorem left_all (fs : List Fm) (u : Nat) : openN (leftF fs fun _ => false) u = openN fs u := by
 rw [Bool.eq_iff_iff]
 constructor
 ·exact open_less fun f hf => by
   obtain ⟨j, hj⟩ := List.mem_iff_getElem?.1 hf
   exact (leftTo_mem fs.length (Nat.le_refl _)).2 ⟨j, (List.getElem?_eq_some_iff.1 hj).1, rfl, hj⟩
 ·exact open_less fun f hf => by
   obtain ⟨j, _, _, h3⟩ := (leftTo_mem fs.length (Nat.le_refl _)).1 hf
   exact List.mem_of_getElem? h3
def placesTo (L : Nat → Bool) : Nat → List Int
 | 0 => []
 | k + 1 => placesTo L k ++ (if L k = true then [(k : Int)] else [])
end Go.Proofs.YtjmeakkmfeoigaaGreatDoor
namespace Go.Proofs.YtjmeakkmfeoigaaGreatDoor
open Go.ChangeShapes Go.WideShapes Go.ChangeAt Go.RowKit
set_option maxRecDepth 100000
theorem shl_pw : ∀ k : Nat, k ≤ 6 → wrap64 (1 * 2 ^ k) = pw k := by decide +kernel
theorem coreBit_any (k : Nat) (hk : k ≤ 6) (w : World) : Calls Tryz.prog 131 #[.int .i64 k] w (Sk w (.int .i64 (pw k))) := by
 have HS : Hid (wrap64 (1 * 2 ^ k) = pw k) := shl_pw k hk
 go_enter Tryz.func131, Tryz.ntmps131
 go_wp2
 go_ret
 exact ⟨by have := HS.out; simp at this ⊢; exact this, rfl⟩
theorem coreAll_any (lo : Option Addr) (n cap : Nat) (hn : n ≤ 6) (w : World) : Calls Tryz.prog 93 #[.slice lo n cap] w (Sk w (.int .i64 (maskTo (fun _ => true) n))) := by
 have HS : Hid (wrap64 (pw n - 1) = maskTo (fun _ => true) n) := by
  unfold Hid
  rw [mask_all]
  obtain ⟨m, hm, h64, _⟩ := bits_at (fun _ => true) hn
  rw [hm]; unfold wrap64; omega
 go_enter Tryz.func93, Tryz.ntmps93
 go_wp2_with fail
 go_at_call 131
 refine (coreBit_any n hn _).mono ?_
 rintro e w' ⟨rfl, rfl⟩
 go_wp2
 go_ret
 exact ⟨by first | (rw [HS.out]; done) | (rw [HS.out]; rfl), rfl⟩
theorem isOpenIn_any (h s : Int) (P : Nat) (w : World) (hP : w.cell? ⟨P, 0, none⟩ = some (.int .i64 s)) :
    Calls Tryz.prog 130 #[.int .i64 h, .pointer (some ⟨P, 0, none⟩)] w (Bk w (.bool (decide (bits .and .i64 h s = s)))) := by
 go_enter Tryz.func130, Tryz.ntmps130
 go_wp2
 go_ret
 exact ⟨by first | rfl | simp, Below.refl _ _⟩
set_option maxHeartbeats 2000000 in
theorem coreIdx (n b off cap P : Nat) (us : Nat → Int) (s : Int) (w : World) (hl : n ≤ 9223372036854775807) (hB : b < w.heap.size) (hc : ∀ k, k < n → w.cell? ⟨b, off + k, none⟩ = some (.int .i64 (us k))) (hP : w.cell? ⟨P, 0, none⟩ = some (.int .i64 s)) :
    Calls Tryz.prog 70 #[.slice (some ⟨b, off, none⟩) n cap, .func (.func 130) #[] #[.pointer (some ⟨P, 0, none⟩)]] w fun e w' => (∃ r : Int, e = .returned (.int .i64 r) ∧ (0 ≤ r ↔ ∃ k, k < n ∧ decide (bits .and .i64 (us k) s = s) = true)) ∧ Below w.heap.size w w' := by
 have HC : Hid (∀ W k, Below w.heap.size w W → k < n → W.cell? ⟨b, off + k, none⟩ = some (.int .i64 (us k))) := fun W k hW hk => by rw [hW.cell (show (⟨b, off + k, none⟩ : Addr).block < w.heap.size from hB)]; exact hc k hk
 have HP : Hid (∀ W k, Below w.heap.size w W → k < n → Calls Tryz.prog 130 #[.int .i64 (us k), .pointer (some ⟨P, 0, none⟩)] W (Bk W (.bool (decide (bits .and .i64 (us k) s = s))))) := fun W k hW _ => isOpenIn_any (us k) s P W (by rw [hW.cell (World.block_lt_of_cell? _ _ hP)]; exact hP)
 obtain ⟨p, hp⟩ : ∃ p : Nat → Bool, p = fun k => decide (bits .and .i64 (us k) s = s) := ⟨_, rfl⟩
 have HP : Hid (∀ W k, Below w.heap.size w W → k < n → Calls Tryz.prog 130 #[.int .i64 (us k), .pointer (some ⟨P, 0, none⟩)] W (Bk W (.bool (p k)))) := by rw [hp]; exact HP
 have hg : ∀ k, decide (bits .and .i64 (us k) s = s) = p k := fun k => by rw [hp]
 simp only [hg]
 clear hc hB hP hp hg
 go_enter Tryz.func70, Tryz.ntmps70
 go_wp2
 go_loopw [5, 8] (fun _ i wr => ∃ k : Nat, k ≤ n ∧ i = .int .i64 k ∧ Below w.heap.size w wr ∧ Hid (∀ j, j < k → p j = false)) (fun _ i _ => n - (intOf i).toNat)
 case atStart => exact ⟨0, Nat.zero_le _, rfl, Below.refl _ _, fun j hj => absurd hj (Nat.not_lt_zero _)⟩
 case round =>
  obtain ⟨k, hk, rfl, hb0, A⟩ := hrel
  have HB := hide hb0
  clear hb0
  by_cases hlt : k < n
  ·have hcell := HC.out wr k HB.out hlt
   have hcall := HP.out wr k HB.out hlt
   obtain ⟨x, hx⟩ := nm (us k)
   rw [← hx] at hcell hcall
   clear hx
   have hltz : (k : Int) < (n : Int) := by omega
   cases hq : p k with
   | true =>
    rw [hq] at hcall
    have HQ := hide hq
    have HCl := hide hcall
    clear hcall hq
    go_wp2_with fail
    go_at_call 130
    refine HCl.out.mono ?_
    rintro e w' ⟨rfl, hb'⟩
    have HB' := hide (HB.out.trans (hb'.mono HB.out.size))
    clear hb'
    go_wp2
    go_ret
    exact ⟨⟨_, rfl, fun _ => ⟨k, hlt, HQ.out⟩, fun _ => by omega⟩, HB'.out⟩
   | false =>
    rw [hq] at hcall
    have HQ := hide hq
    have HCl := hide hcall
    clear hcall hq
    go_wp2_with fail
    go_at_call 130
    refine HCl.out.mono ?_
    rintro e w' ⟨rfl, hb'⟩
    have HB' := hide (HB.out.trans (hb'.mono HB.out.size))
    clear hb'
    go_wp2
    go_roundw
    case rel =>
     refine ⟨k + 1, by omega, by go_num, HB'.out, fun j hj => ?_⟩
     by_cases e : j = k
     ·rw [e]; exact HQ.out
     ·exact A.out j (by omega)
    case measure => simp [intOf]; omega
  ·have hltz : ¬ (k : Int) < (n : Int) := by omega
   go_wp2
   go_ret
   refine ⟨⟨_, rfl, fun h => absurd h (by decide), fun ⟨j, hj, hpj⟩ => ?_⟩, HB.out⟩
   rw [A.out j (by omega)] at hpj; cases hpj
theorem coreIdx_none (a : Option Addr) (cap : Nat) (fv : Value) (w : World) : Calls Tryz.prog 70 #[.slice a 0 cap, fv] w (Sk w (.int .i64 (-1))) := by
 go_enter Tryz.func70, Tryz.ntmps70
 go_wp2
 go_loopw [5, 8] (fun _ i wr => i = .int .i64 0 ∧ w = wr) (fun _ _ _ => 0)
 case atStart => exact ⟨rfl, rfl⟩
 case round =>
  obtain ⟨rfl, rfl⟩ := hrel
  go_wp2
  go_ret
  exact ⟨rfl, rfl⟩
set_option maxHeartbeats 2000000 in
theorem coreHas (v : Value) (t : List Int) (P : Nat) (s : Int) (w : World) (hR : Reads w v t) (hP : w.cell? ⟨P, 0, none⟩ = some (.int .i64 s)) :
    Calls Tryz.prog 39 #[v, .func (.func 130) #[] #[.pointer (some ⟨P, 0, none⟩)]] w (Bk w (.bool (t.any fun h => decide (bits .and .i64 h s = s)))) := by
 obtain ⟨ao, m, cap, rfl, c⟩ : ∃ ao m cap, v = .slice ao m cap ∧ Calls Tryz.prog 70 #[.slice ao m cap, .func (.func 130) #[] #[.pointer (some ⟨P, 0, none⟩)]] w fun e w' => (∃ r : Int, e = .returned (.int .i64 r) ∧ (0 ≤ r ↔ (t.any fun h => decide (bits .and .i64 h s = s)) = true)) ∧ Below w.heap.size w w' := by
  rcases hR with ⟨ao, cap, rfl, rfl⟩ | ⟨b, off, cap, rfl, hB, h0, ⟨hl, hcp⟩, hc⟩
  ·refine ⟨_, _, _, rfl, (coreIdx_none ao cap _ w).mono ?_⟩
   rintro e w' ⟨rfl, rfl⟩
   exact ⟨⟨_, rfl, by simp⟩, Below.refl _ _⟩
  ·refine ⟨_, _, _, rfl, (coreIdx t.length b off cap P (fun k => t.getD k 0) s w hl hB hc hP).mono ?_⟩
   rintro e w' ⟨⟨r, rfl, hr⟩, hb⟩
   refine ⟨⟨r, rfl, ?_⟩, hb⟩
   rw [hr, List.any_eq_true]
   constructor
   ·rintro ⟨k, hk, h⟩
    refine ⟨t.getD k 0, ?_, h⟩
    rw [List.getD_eq_getElem?_getD, List.getElem?_eq_getElem hk]
    exact List.getElem_mem hk
   ·rintro ⟨x, hx, h⟩
    obtain ⟨k, hk⟩ := List.mem_iff_getElem?.1 hx
    refine ⟨k, (List.getElem?_eq_some_iff.1 hk).1, ?_⟩
    rw [List.getD_eq_getElem?_getD, hk]; exact h
 obtain ⟨R, hRd⟩ := nm (t.any fun h => decide (bits .and .i64 h s = s))
 rw [← hRd] at c ⊢
 have HCl := hide c
 clear c hRd hR hP
 go_enter Tryz.func39, Tryz.ntmps39
 go_wp2_with fail
 go_at_call 70
 refine HCl.out.mono ?_
 rintro e w' ⟨⟨r, rfl, hr⟩, hb⟩
 have HB := hide hb
 have HR : Hid (R = decide (0 ≤ r)) := by
  unfold Hid
  rw [Bool.eq_iff_iff, decide_eq_true_eq, hr]
 clear hb hr
 go_wp2
 go_ret
 exact ⟨back_b HR.out.symm, HB.out⟩
theorem isOpen_any (v : Value) (t : List Int) (s : Int) (w : World) (hR : Reads w v t) :
    Calls Tryz.prog 92 #[v, .int .i64 s] w (Bk w (.bool (t.any fun h => decide (bits .and .i64 h s = s)))) := by
 have hb1 := below_alloc1 w (.cells #[.int .i64 s] 3)
 have HCl : Hid (Calls Tryz.prog 39 #[v, .func (.func 130) #[] #[.pointer (some ⟨w.heap.size, 0, none⟩)]] (w.alloc (.cells #[.int .i64 s] 3)) (Bk w (.bool (t.any fun h => decide (bits .and .i64 h s = s))))) :=
  (coreHas v t w.heap.size s _ (hR.below hb1) ((Blk.new w 3 #[.int .i64 s]).cell 0)).mono fun e w' ⟨h1, h2⟩ => ⟨h1, hb1.trans (h2.mono hb1.size)⟩
 obtain ⟨R, hRd⟩ := nm (t.any fun h => decide (bits .and .i64 h s = s))
 rw [← hRd] at HCl ⊢
 clear hRd hb1 hR
 go_enter Tryz.func92, Tryz.ntmps92
 go_wp2_with fail
 go_at_call 39
 refine HCl.out.mono ?_
 rintro e w' ⟨rfl, hb⟩
 have HB := hide hb
 clear hb
 go_wp2
 go_ret
 exact ⟨rfl, HB.out⟩
end Go.Proofs.YtjmeakkmfeoigaaGreatDoor
namespace Go.Proofs.YtjmeakkmfeoigaaGreatDoor
open Go.ChangeShapes Go.WideShapes Go.ChangeAt Go.RowKit
set_option maxRecDepth 100000
set_option maxHeartbeats 8000000 in
theorem holding_any (v : Value) (fs : List Fm) (hgood : ∀ f ∈ fs, f.fault = 0) (h6 : fs.length ≤ 6) (D : Wd) (hok : D.ok = true) (w : World) (hF : ReadsF w v fs) (hK : KindsLaid w) :
    Calls Tryz.prog 129 #[v, .agg #[.int .i64 D.u, .int .i64 D.a, .int .i64 D.b, .int .i64 D.c]] w (Bk w (.tuple #[.int .i64 (maskTo (holdsAt fs D) fs.length), .nilIface])) := by
 obtain ⟨lo, lcap, rfl, hl63⟩ := hF.slice
 have HF := hide hF
 have HHo : Hid (∀ (k : Nat) f va vc W, fs[k]? = some f → Below w.heap.size w W → ReadsA W va f.ats → Reads W vc f.c → Calls Tryz.prog 26 #[.agg #[va, vc], .agg #[.int .i64 D.u, .int .i64 D.a, .int .i64 D.b, .int .i64 D.c]] W (Bk W (.tuple #[.bool (holdsAt fs D k), .nilIface]))) := fun k f va vc W hf hW hA hC => by
  have h := fholds_any va vc f.ats f.c D.u D.a D.b D.c W hA hC (hK.below hW)
  have e : (Wd.mk D.u D.a D.b D.c).formFault f.ats f.c = 0 := wdForm_zero.2 ⟨hgood f (List.mem_of_getElem? hf), hok⟩
  rw [e] at h
  rw [holds_at hf]
  exact h
 have HOr : Hid (∀ k, k < fs.length → holdsAt fs D k = true → bits .or .i64 (maskTo (holdsAt fs D) k) (pw k) = maskTo (holdsAt fs D) (k + 1)) := fun k hk h => mask_or _ (by omega) h
 have HNo : Hid (∀ k, holdsAt fs D k = false → maskTo (holdsAt fs D) (k + 1) = maskTo (holdsAt fs D) k) := fun k h => mask_not _ h
 obtain ⟨L, hL⟩ := nm (holdsAt fs D)
 rw [← hL] at HHo HOr HNo ⊢
 obtain ⟨n, hn⟩ := nm fs.length
 rw [← hn] at HF hl63 HOr h6 ⊢
 have HN := hide hn
 obtain ⟨w1, hw1⟩ := nm (w.alloc (.cells #[.int .i64 D.u, .int .i64 D.a, .int .i64 D.b, .int .i64 D.c] 55))
 have HB1 : Hid (Below w.heap.size w w1) := by unfold Hid; rw [hw1]; exact below_alloc1 _ _
 have HQ1 : Hid (Blk w1 w.heap.size 55 (arrW D)) := by unfold Hid; rw [hw1]; exact Blk.new _ _ _
 clear hF hL hn hgood hok hK
 go_enter Tryz.func129, Tryz.ntmps129
 go_wp2
 rw [← hw1]
 clear hw1
 go_loopw [6, 13] (fun h i wr => ∃ k : Nat, k ≤ n ∧ i = .int .i64 k ∧ h = .int .i64 (maskTo L k) ∧ Below w1.heap.size w1 wr) (fun _ i _ => n - (intOf i).toNat)
 case atStart => exact ⟨0, Nat.zero_le _, rfl, rfl, Below.refl _ _⟩
 case round =>
  obtain ⟨k, hk, rfl, rfl, hbr⟩ := hrel
  have HBr := hide hbr
  have HBw := hide (HB1.out.trans (hbr.mono HB1.out.size))
  clear hbr
  by_cases hlt : k < n
  ·obtain ⟨f, hf⟩ : ∃ f, fs[k]? = some f := ⟨_, List.getElem?_eq_getElem (by rw [← HN.out]; exact hlt)⟩
   obtain ⟨bL, oL, cL, hv⟩ := HF.out.place (by rw [← HN.out]; omega)
   obtain ⟨hlo, hx1, hx2⟩ := Value.slice.inj hv
   clear hx1 hx2
   subst hlo
   obtain ⟨hbL, va, vc, c0, c1, hA, hC⟩ := HF.out.at hf
   obtain ⟨ao, acap, rfl, _⟩ := hA.slice
   obtain ⟨co, ccap, rfl, _⟩ := hC.slice
   have x0 : wr.cell? ⟨bL, oL + k * 2, none⟩ = some (.slice ao f.ats.length acap) := (HBw.out.cell hbL).trans c0
   have x1 : wr.cell? ⟨bL, oL + k * 2 + 1, none⟩ = some (.slice co f.c.length ccap) := (HBw.out.cell hbL).trans c1
   have HH1 : Hid (∀ W, Below wr.heap.size wr W → Calls Tryz.prog 26 #[.agg #[.slice ao f.ats.length acap, .slice co f.c.length ccap], .agg #[.int .i64 D.u, .int .i64 D.a, .int .i64 D.b, .int .i64 D.c]] W (Bk w1 (.tuple #[.bool (L k), .nilIface]))) := fun W hW => by
    have hb' := HBw.out.trans (hW.mono HBw.out.size)
    have hb1 := HBr.out.trans (hW.mono HBr.out.size)
    exact (HHo.out k f _ _ W hf hb' (hA.below hb') (hC.below hb')).mono fun e w' ⟨he, hb⟩ => ⟨he, hb1.trans (hb.mono hb1.size)⟩
   obtain ⟨al, hal⟩ := nm f.ats.length
   obtain ⟨cl, hcl⟩ := nm f.c.length
   rw [← hal] at x0 HH1
   rw [← hcl] at x1 HH1
   obtain ⟨wf, hwf⟩ := nm (wr.alloc (.cells #[.slice ao al acap, .slice co cl ccap] 39))
   have HBf : Hid (Below wr.heap.size wr wf) := by unfold Hid; rw [hwf]; exact below_alloc1 _ _
   have HQf : Hid (Blk wf wr.heap.size 39 #[.slice ao al acap, .slice co cl ccap]) := by unfold Hid; rw [hwf]; exact Blk.new _ _ _
   have HH2 : Hid (Calls Tryz.prog 26 #[.agg #[.slice ao al acap, .slice co cl ccap], .agg #[.int .i64 D.u, .int .i64 D.a, .int .i64 D.b, .int .i64 D.c]] wf (Bk w1 (.tuple #[.bool (L k), .nilIface]))) := HH1.out _ HBf.out
   clear hf hv hbL c0 c1 hA hC hal hcl HH1
   have hkn : (k : Int) < (n : Int) := by omega
   obtain ⟨q, hq⟩ := nm (L k)
   have HQ := hide hq
   rw [← hq] at HH2
   clear hq
   go_upto_region 5 with fail
   rw [← hwf]
   clear hwf x0 x1
   have y0 : wf.cell? ⟨wr.heap.size, 0, none⟩ = some (.slice ao al acap) := HQf.out.cell 0
   have y1 : wf.cell? ⟨wr.heap.size, 1, none⟩ = some (.slice co cl ccap) := HQf.out.cell 1
   obtain ⟨d0, d1, d2, d3⟩ := ((HQ1.out.below HBr.out).below HBf.out).cells4
   go_wp2_with fail
   go_at_call 26
   refine HH2.out.mono ?_
   rintro e w8 ⟨rfl, hb8⟩
   have HB8 := hide hb8
   clear hb8 y0 y1 d0 d1 d2 d3
   cases q with
   | true =>
    have HS := hide (HOr.out k hlt HQ.out.symm)
    obtain ⟨m, hm⟩ := nm (maskTo L k)
    rw [← hm] at HS ⊢
    clear hm
    go_wp2_with fail
    go_at_call 131
    refine (coreBit_any k (by omega) _).mono ?_
    rintro e w' ⟨rfl, rfl⟩
    go_wp2
    go_roundw
    case rel => exact ⟨k + 1, by omega, by go_num, by rw [HS.out], HB8.out⟩
    case measure => simp [intOf]; omega
   | false =>
    have HS := hide (HNo.out k HQ.out.symm)
    go_wp2
    go_roundw
    case rel => exact ⟨k + 1, by omega, by go_num, by rw [HS.out], HB8.out⟩
    case measure => simp [intOf]; omega
  ·obtain rfl : k = n := by omega
   go_wp2
   go_ret2
   exact ⟨rfl, HBw.out⟩
end Go.Proofs.YtjmeakkmfeoigaaGreatDoor
namespace Go.Proofs.YtjmeakkmfeoigaaGreatDoor
open Go.RowKit
structure OverR (R : Nat → Prop) (B : Nat) (W W' : World) : Prop where
 size : W.heap.size ≤ W'.heap.size
 same : ∀ b, B ≤ b → b < W.heap.size → ¬ R b → W'.heap[b]? = W.heap[b]?
theorem OverR.of {R : Nat → Prop} {B : Nat} {W W' : World} (h : Over B W W') : OverR R B W W' := ⟨h.size, fun b hb hl _ => h.same b hb hl⟩
theorem OverR.trans {R : Nat → Prop} {B : Nat} {X Y Z : World} (h : OverR R B X Y) (k : OverR R B Y Z) : OverR R B X Z :=
 ⟨Nat.le_trans h.size k.size, fun b hb hl hr => (k.same b hb (Nat.lt_of_lt_of_le hl h.size) hr).trans (h.same b hb hl hr)⟩
structure KeepR (R : Nat → Prop) (B : Nat) (W W' : World) : Prop where
 below : Below B W W'
 own : ∀ b, R b → b < W.heap.size → W'.heap[b]? = W.heap[b]?
theorem KeepR.of_below {R : Nat → Prop} {B : Nat} {W W' : World} (h : Below W.heap.size W W') (hB : B ≤ W.heap.size) : KeepR R B W W' := ⟨h.mono hB, fun b _ hl => h.block b hl⟩
theorem KeepR.putObj {R : Nat → Prop} {B l : Nat} (W : World) (o : Obj) (h : B ≤ l) (hr : ¬ R l) : KeepR R B W (W.putObj l o) :=
 ⟨below_putObj _ _ h, fun _ hb _ => World.putObj_heap_other (fun e => hr (e ▸ hb))⟩
def SeqR {α : Type} (n : Nat) (P : Program) (g : Nat) (lb : Array Value) (encs : α → Array Value) (A : List α) (W : World) : Prop :=
 ∀ (l : Nat) (J : Nat → (Nat → Prop) → World → Prop) (Jx : Nat → World → Prop),
  (∀ k R W1 W2, J k R W1 → KeepR R W.heap.size W1 W2 → J k R W2) →
  (∀ k x R W1, A[k]? = some x → J k R W1 → YieldAt Fence.wide (n - 1) P l (encs x) W1 fun e W' =>
   (e = .returned (.bool true) ∧ ∃ R', J (k + 1) R' W' ∧ OverR R W.heap.size W1 W' ∧ ∀ b, R' b → R b ∨ W1.heap.size ≤ b) ∨ (e = .returned (.bool false) ∧ Jx (k + 1) W')) →
  J 0 (fun _ => False) W →
  CallsIn Fence.wide n P g (#[.func (.yield l) #[] #[]] ++ lb) W fun e W' => (∃ v, e = .returned v) ∧ ((∃ R, J A.length R W') ∨ ∃ k, k < A.length ∧ Jx (k + 1) W')
def roundPostR (R : Nat → Prop) (B : Nat) (I : Nat → (Nat → Prop) → World → Prop) (Ix : Nat → World → Prop) (k : Nat) (W : World) : Exit → Act → World → Prop
 | .normal, _, W' => OverR R B W W' ∧ ∃ R', I (k + 1) R' W' ∧ ∀ b, R' b → R b ∨ W.heap.size ≤ b
 | .ret, _, W' => OverR R B W W' ∧ Ix (k + 1) W'
 | _, _, _ => False
theorem wpIn_range_ownR {α : Type} {P : Program} {n : Nat} {g : Operand} {ps : Array Tmp} {assign body : Code} {Q : Exit → Act → World → Prop} {a : Act} {w : World}
    (h1 : 1 ≤ n) {gf : Nat} {lb : Array Value} (hg : a.eval g = .func (.func gf) #[] lb) (eg : ∀ args w, (callFunc gf args).run P w = .ok (.enter gf args) w)
    {encs : α → Array Value} {A : List α} (hseq : ∀ W, Below w.heap.size w W → SeqR (n - 1) P gf lb encs A W) (hps : ∀ x, (encs x).size = ps.size)
    (I : Nat → (Nat → Prop) → World → Prop) (Ix : Nat → World → Prop) (hI : ∀ k R W1 W2, I k R W1 → KeepR R w.heap.size W1 W2 → I k R W2) (hIx : ∀ k W1 W2, Ix k W1 → Below w.heap.size W1 W2 → Ix k W2) (h0 : I 0 (fun _ => False) w)
    (hround : ∀ (l k : Nat) (x : α) (R : Nat → Prop) (W : World), A[k]? = some x → w.heap.size ≤ l → l < W.heap.size → ¬ R l → I k R W →
     assign.wpIn (Fence.wide.inRound l) (n - 1 - 1) P (Exit.then (fun a1 W1 => Over w.heap.size W W1 ∧ ∀ o, body.wpIn (Fence.wide.inRound l) (n - 1 - 1) P (roundPostR R w.heap.size I Ix k (W1.putObj l o)) a1 (W1.putObj l o)) (fun _ _ _ => False))
      { tmps := (ps.zip (encs x)).foldl (fun t (p, v) => t.setIfInBounds p v) a.tmps, defers := [] } W)
    (hdone : ∀ (D : Nat) (R : Nat → Prop) (W : World), w.heap.size ≤ D → ¬ R D → I A.length R W → W.heap[D]? = some (.deferred (some [])) → Q .normal { a with defers := { target := .collected D, args := #[] } :: a.defers } W)
    (hstop : ∀ (D k : Nat) (W : World), w.heap.size ≤ D → k < A.length → Ix (k + 1) W → W.heap[D]? = some (.deferred (some [])) → Code.ret.wpIn Fence.wide n P Q { a with defers := { target := .collected D, args := #[] } :: a.defers } W) :
    (Code.rangeFunc g ps assign body).wpIn Fence.wide n P Q a w := by
 refine wpIn_rangeFunc ?_
 intro fn hfn
 rw [show Fence.wide.round = none from rfl]
 obtain ⟨rec, hrec⟩ : ∃ rec : LoopState → Option Code → Loop, rec = fun st pe => { state := st, pending := pe, fn, tmps := a.tmps, params := ps, assign, body, defers := w.heap.size } := ⟨_, rfl⟩
 obtain ⟨W1, hW1⟩ : ∃ W1, (w.alloc (.deferred (some []))).alloc (.loop (rec .ready none)) = W1 := ⟨_, rfl⟩
 have hs1 : W1.heap.size = w.heap.size + 1 + 1 := by rw [← hW1, World.size_alloc, World.size_alloc]
 have hL1 : W1.heap[w.heap.size + 1]? = some (.loop (rec .ready none)) := by
  rw [← hW1]; have := World.alloc_heap_new (w.alloc (.deferred (some []))) (.loop (rec .ready none)); rwa [World.size_alloc] at this
 have hK1 : W1.heap[w.heap.size]? = some (.deferred (some [])) := by
  rw [← hW1]; exact (Below.heap_alloc _ _ _ (by simp)).trans (World.alloc_heap_new w _)
 have hb1 : Below w.heap.size w W1 := by
  rw [← hW1]; exact ((Below.refl _ w).alloc (Nat.le_refl _) _).alloc (by simp) _
 have hI1 : I 0 (fun _ => False) W1 := hI _ _ _ _ h0 ⟨hb1, fun _ h _ => h.elim⟩
 refine ⟨w.heap.size + 1, [{ target := .collected w.heap.size, args := #[] }], W1, { target := .fn (.func gf) lb, args := #[.func (.yield (w.heap.size + 1)) #[] #[]] }, W1, gf,
  #[.func (.yield (w.heap.size + 1)) #[] #[]] ++ lb, W1, ?_, ?_, ?_, ?_, fun _ => h1, ?_⟩
 ·rw [← hW1, hrec]; exact run_enterLoop_outer _ _ _ _ _
 ·simp only [resolve, hg]
  simp [go_sem]
 ·intro f' _; exact trivial
 ·simp [invoke, go_sem, eg]
 ·refine (hseq W1 hb1 (w.heap.size + 1)
   (fun k R W => I k R W ∧ (∀ b, R b → w.heap.size + 1 + 1 ≤ b) ∧ W.heap[w.heap.size + 1]? = some (.loop (rec .ready none)) ∧ W.heap[w.heap.size]? = some (.deferred (some [])))
   (fun k W => Ix k W ∧ W.heap[w.heap.size + 1]? = some (.loop (rec .done (some .ret))) ∧ W.heap[w.heap.size]? = some (.deferred (some [])))
   (fun k R X Y hs hb => ⟨hI k R X Y hs.1 ⟨hb.below.mono (by omega), hb.own⟩, hs.2.1, (hb.below.block _ (by omega)).trans hs.2.2.1, (hb.below.block _ (by omega)).trans hs.2.2.2⟩)
   ?_ ⟨hI1, fun _ h => h.elim, hL1, hK1⟩).mono ?_
  ·rintro k x R W hx ⟨hi, hR, hl, hk⟩
   have hlt : w.heap.size + 1 < W.heap.size := (Array.getElem?_eq_some_iff.1 hl).1
   have hR1 : ¬ R (w.heap.size + 1) := fun h => by have := hR _ h; omega
   have hR0 : ¬ R w.heap.size := fun h => by have := hR _ h; omega
   have hy := run_yield (P := P) (args := encs x) hl (by rw [hrec]; exact hps x)
   rw [hrec] at hy
   refine ⟨fn, _, assign, body, hy, roundIn_of_wpIn hfn (wpIn_mono (hround _ k x R W hx (by omega) hlt hR1 hi) ?_)⟩
   intro e a1 Wa hp
   cases e with
   | normal =>
    obtain ⟨ha, hb⟩ := hp
    have hla : Wa.heap[w.heap.size + 1]? = some (.loop (rec .ready none)) := (ha.same _ (by omega) hlt).trans hl
    have hka : Wa.heap[w.heap.size]? = some (.deferred (some [])) := (ha.same _ (by omega) (by omega)).trans hk
    have hlta : w.heap.size + 1 < Wa.heap.size := (Array.getElem?_eq_some_iff.1 hla).1
    refine ⟨_, run_beginRound hla (by rw [hrec]), ?_⟩
    have hl2 : (Wa.putObj (w.heap.size + 1) (.loop { rec .ready none with state := .busy })).heap[w.heap.size + 1]? = some (.loop { rec .ready none with state := .busy }) := World.putObj_heap_same hlta
    have hk2 : (Wa.putObj (w.heap.size + 1) (.loop { rec .ready none with state := .busy })).heap[w.heap.size]? = some (.deferred (some [])) := (World.putObj_heap_other (by omega)).trans hka
    refine wpIn_mono (hb _) ?_
    have fin : ∀ (jump : Option Code) (W3 : World), OverR R w.heap.size (Wa.putObj (w.heap.size + 1) (.loop { rec .ready none with state := .busy })) W3 →
        (Instr.endRound (w.heap.size + 1) jump).run P W3 = .ok (.bool jump.isNone) (W3.putObj (w.heap.size + 1) (.loop (rec (if jump.isNone then .ready else .done) jump))) ∧
        (W3.putObj (w.heap.size + 1) (.loop (rec (if jump.isNone then .ready else .done) jump))).heap[w.heap.size + 1]? = some (.loop (rec (if jump.isNone then .ready else .done) jump)) ∧
        (W3.putObj (w.heap.size + 1) (.loop (rec (if jump.isNone then .ready else .done) jump))).heap[w.heap.size]? = some (.deferred (some [])) := fun jump W3 hk3 => by
     have hl3 := (hk3.same _ (by omega) (by simpa using hlta) hR1).trans hl2
     have := run_endRound (P := P) jump hl3
     rw [hrec] at this ⊢
     exact ⟨this, World.putObj_heap_same (Array.getElem?_eq_some_iff.1 hl3).1, (World.putObj_heap_other (by omega)).trans ((hk3.same _ (by omega) (by simp; omega) hR0).trans hk2)⟩
    rintro e a3 W3 hp
    cases e with
    | normal =>
     obtain ⟨hk3, R', hi3, hr3⟩ := hp
     obtain ⟨hr, hl4, hk4⟩ := fin none W3 hk3
     have hsz : W.heap.size ≤ Wa.heap.size := ha.size
     have hR' : ∀ b, R' b → w.heap.size + 1 + 1 ≤ b := fun b hb => by
      rcases hr3 b hb with h | h
      ·exact hR b h
      ·simp at h; omega
     refine ⟨_, _, hr, .inl ⟨rfl, R', ⟨hI _ _ _ _ hi3 (KeepR.putObj _ _ (by omega) fun h => by have := hR' _ h; omega), hR', hl4, hk4⟩, ?_, fun b hb => ?_⟩⟩
     ·refine ⟨?_, fun b hb1 hb2 hb3 => ?_⟩
      ·have := ha.size
       have := hk3.size
       simp at this
       simp
       omega
      ·rw [hs1] at hb1
       refine (World.putObj_heap_other (by omega)).trans ((hk3.same b (by omega) (by simp; omega) hb3).trans ((World.putObj_heap_other (by omega)).trans (ha.same b (by omega) hb2)))
     ·rcases hr3 b hb with h | h
      ·exact Or.inl h
      ·right; simp at h; omega
    | ret =>
     obtain ⟨hk3, hi3⟩ := hp
     obtain ⟨hr, hl4, hk4⟩ := fin (some .ret) W3 hk3
     exact ⟨_, _, hr, .inr ⟨rfl, hIx _ _ _ hi3 (below_putObj _ _ (by omega)), hl4, hk4⟩⟩
    | exit id => exact hp.elim
    | goto t => exact hp.elim
    | panic ch => exact hp.elim
    | outgrown => exact hp.elim
   | ret => exact hp.elim
   | exit id => exact hp.elim
   | goto t => exact hp.elim
   | panic ch => exact hp.elim
   | outgrown => exact hp.elim
  ·rintro e W2 ⟨⟨v, rfl⟩, (⟨R, hi, hR, hl, hk⟩ | ⟨k, hkl, hi, hl, hk⟩)⟩
   ·exact ⟨none, _, by have := run_endLoop (P := P) hl (by rw [hrec]; simp); rw [hrec] at this; exact this, hdone _ R _ (Nat.le_refl _) (fun h => by have := hR _ h; omega) (hI _ _ _ _ hi (KeepR.putObj _ _ (by omega) fun h => by have := hR _ h; omega)) ((World.putObj_heap_other (by omega)).trans hk)⟩
   ·exact ⟨some .ret, _, by have := run_endLoop (P := P) hl (by rw [hrec]; simp); rw [hrec] at this; exact this, hstop _ k _ (Nat.le_refl _) hkl (hIx _ _ _ hi (below_putObj _ _ (by omega))) ((World.putObj_heap_other (by omega)).trans hk)⟩
end Go.Proofs.YtjmeakkmfeoigaaGreatDoor
namespace Go.Proofs.YtjmeakkmfeoigaaGreatDoor
open Go.ChangeShapes Go.WideShapes Go.ChangeAt Go.RowKit
set_option maxRecDepth 100000
set_option maxHeartbeats 4000000 in
theorem iter_anyR (u : Nat) (hu : u ≤ 6) (n : Nat) (hn : 1 ≤ n) (Bu : Nat) (W : World) (hB : W.cell? ⟨Bu, 0, none⟩ = some (.int .i64 u)) :
    SeqR n Tryz.prog 115 #[.pointer (some ⟨Bu, 0, none⟩)] enc8 (everyC u) W := by
 intro l J Jx hJ hY h0
 obtain ⟨M0, hM0, hM0'⟩ := every_first u
 obtain ⟨A, hA⟩ := nm (everyC u)
 have HST : Hid (∀ (i : Nat) (M : Nat → Int), A[i]? = some M → (lastTo M 8 ≠ 0 ∧ ∃ M', A[i + 1]? = some M' ∧ ∀ f, f < 8 → afterN M f = M' f) ∨ (lastTo M 8 = 0 ∧ i + 1 = A.length)) := fun i M hi => by
  rw [hA] at hi ⊢; exact every_steps hu hi
 have HBO : Hid (∀ (i : Nat) (M : Nat → Int), A[i]? = some M → ∀ f, f < 8 → 0 ≤ M f ∧ M f ≤ 6) := fun i M hi f hf => by
  rw [hA] at hi
  have := (everyC_sum (List.mem_of_getElem? hi)).1 f hf
  omega
 have HCk : Hid (∀ W, Calls Tryz.prog 116 #[.int .i64 u] W (Sk W .nilIface)) := fun W => fitCheck_ok u hu W
 rw [← hA] at hM0 hY ⊢
 clear hA hu
 have HY : Hid (∀ (k : Nat) (x : Nat → Int) (R : Nat → Prop) (W1 : World), A[k]? = some x → J k R W1 → YieldAt Fence.wide (n - 1) Tryz.prog l #[.agg #[.int .i64 (x 0), .int .i64 (x 1), .int .i64 (x 2), .int .i64 (x 3), .int .i64 (x 4), .int .i64 (x 5), .int .i64 (x 6), .int .i64 (x 7)]] W1 fun e W' =>
     (e = .returned (.bool true) ∧ ∃ R', J (k + 1) R' W' ∧ OverR R W.heap.size W1 W' ∧ ∀ b, R' b → R b ∨ W1.heap.size ≤ b) ∨ (e = .returned (.bool false) ∧ Jx (k + 1) W')) := hY
 have HJ := hide hJ
 clear hY hJ
 have e8 : Hid (arr8 M0 = #[.int .i64 0, .int .i64 0, .int .i64 0, .int .i64 0, .int .i64 0, .int .i64 0, .int .i64 0, .int .i64 u]) := by
  unfold Hid arr8
  rw [hM0' 0 (by omega), hM0' 1 (by omega), hM0' 2 (by omega), hM0' 3 (by omega), hM0' 4 (by omega), hM0' 5 (by omega), hM0' 6 (by omega), hM0' 7 (by omega)]
  rfl
 have H0 := hide h0
 have HM0 := hide hM0
 clear hM0' h0 hM0
 refine callsIn_of_wp Tryz.func115 rfl trivial ?_ rfl
 simp only [Tryz.ntmps115, List.size_toArray, List.length_cons, List.length_nil, Nat.reduceAdd, Nat.reduceSub, Array.replicate_succ, Array.replicate_zero, List.push_toArray, List.append_toArray, List.nil_append, List.cons_append]
 have hBu : Bu < W.heap.size := World.block_lt_of_cell? _ _ hB
 have hBa : (W.drew.alloc (.cells #[.int .i64 0, .int .i64 0, .int .i64 0, .int .i64 0, .int .i64 0, .int .i64 0, .int .i64 0, .int .i64 0] 122)).cell? ⟨Bu, 0, none⟩ = some (.int .i64 u) := (World.cell?_alloc_lt _ _ _ hBu).trans hB
 gi_upto_region 0 with fail
 gi_cut [3, 4] from 5 (fun p ok wr => p = .pointer (some ⟨W.heap.size, 0, none⟩) ∧ ok = .bool true ∧ Below W.heap.size W wr ∧ Blk wr W.heap.size 122 (arr8 M0))
 case first =>
  gi_region_with (refine ⟨trivial, ?_⟩; gi_at_call 116; refine (callsIn_wide.2 (HCk.out _)).mono ?_; rintro e w8 ⟨rfl, rfl⟩)
  all_goals (try gi_wp2)
  all_goals gi_meet
  all_goals exact ⟨rfl, rfl, (below_alloc1 W _).drew, by rw [e8.out]; exact (Blk.new W _ _).drew⟩
 case rest =>
 obtain ⟨rfl, rfl, hb1, hk1⟩ := hcut
 have HK1 : Hid (Blk wc W.heap.size 122 (arr8 M0)) := hk1
 have HJ1 : Hid (J 0 (fun _ => False) wc) := HJ.out _ _ _ _ H0.out ⟨hb1, fun _ h _ => h.elim⟩
 clear hb1 hk1
 gi_wp2
 gi_loopg [4] (A.length) (fun gk ok wr => (∃ (k : Nat) (M : Nat → Int) (R : Nat → Prop), ok = .bool true ∧ A[k]? = some M ∧ gk = A.length - k ∧ (J k R wr ∧ ¬ R W.heap.size) ∧ Blk wr W.heap.size 122 (arr8 M)) ∨ (ok = .bool false ∧ ∃ R, J A.length R wr))
 case atStart => exact Or.inl ⟨0, M0, _, rfl, HM0.out, rfl, ⟨HJ1.out, fun h => h⟩, HK1.out⟩
 case round =>
  rcases hrel with ⟨k, M, R, rfl, hM, hg, ⟨hj, hr⟩, hk⟩ | ⟨rfl, hj⟩
  ·have HM := hide hM
   have HG := hide hg
   have HKk : Hid (Blk wr W.heap.size 122 (arr8 M)) := hk
   have HL : Hid (k < A.length) := (List.getElem?_eq_some_iff.1 hM).1
   have HRn := hide hr
   obtain ⟨fn, tmps, assign, body, hy, hR⟩ := HY.out k M R wr hM hj
   obtain ⟨x0, x1, x2, x3, x4, x5, x6, x7⟩ := hk.cells8
   clear hM hg hk hj hr
   gi_wp2
   refine hR.mono ?_
   rintro e W3 (⟨rfl, R', hJ3, hO3, hR3⟩ | ⟨rfl, hJx3⟩)
   ·have HJ3 := hide hJ3
    have HK3 : Hid (Blk W3 W.heap.size 122 (arr8 M)) := by
     unfold Hid Blk; rw [hO3.same _ (Nat.le_refl _) HKk.out.lt HRn.out]; exact HKk.out
    have HR' : Hid (¬ R' W.heap.size) := fun h => by
     rcases hR3 _ h with h | h
     ·exact HRn.out h
     ·have := HKk.out.lt; omega
    obtain ⟨M', hM'⟩ := nm (afterO M)
    obtain ⟨ok, hok⟩ : ∃ b, b = !(lastTo M 8 == 0) := ⟨_, rfl⟩
    have HAf : Hid (∀ W, Calls Tryz.prog 117 #[.agg #[.int .i64 (M 0), .int .i64 (M 1), .int .i64 (M 2), .int .i64 (M 3), .int .i64 (M 4), .int .i64 (M 5), .int .i64 (M 6), .int .i64 (M 7)]] W (Bk W (.tuple #[.agg #[.int .i64 (M' 0), .int .i64 (M' 1), .int .i64 (M' 2), .int .i64 (M' 3), .int .i64 (M' 4), .int .i64 (M' 5), .int .i64 (M' 6), .int .i64 (M' 7)], .bool ok]))) := fun W => by
     rw [hM', hok]; exact after_any M W (HBO.out k M HM.out)
    have HM' := hide hM'
    have Hok := hide hok
    clear hJ3 hO3 hR3 x0 x1 x2 x3 x4 x5 x6 x7 hy hR hM' hok
    obtain ⟨x0, x1, x2, x3, x4, x5, x6, x7⟩ := HK3.out.cells8
    gi_wp2_with fail
    refine ⟨trivial, ?_⟩
    gi_at_call 117
    refine (callsIn_wide.2 (HAf.out _)).mono ?_
    rintro e W4 ⟨rfl, hb4⟩
    have HK4 := hide (HK3.out.below hb4)
    have HJ4 : Hid (J (k + 1) R' W4) := HJ.out _ _ _ _ HJ3.out (.of_below hb4 (Nat.le_of_lt HK3.out.lt))
    clear hb4 x0 x1 x2 x3 x4 x5 x6 x7
    obtain ⟨x0, x1, x2, x3, x4, x5, x6, x7⟩ := HK4.out.cells8
    obtain ⟨f0, f1, f2, f3, f4, f5, f6, f7⟩ := HK4.out.frozen8
    gi_wp2
    have hJ5 : J (k + 1) R' (put8 W4 W.heap.size M') := HJ.out _ _ _ _ HJ4.out ⟨put8_below (Below.refl _ _) (Nat.le_refl _) _, fun b hb _ => by
     have hne : b ≠ W.heap.size := fun e => HR'.out (e ▸ hb)
     unfold put8
     repeat rw [Below.heap_setCell _ _ _ _ (by exact hne)]⟩
    rcases HST.out k M HM.out with ⟨h0, M2, hM2, he⟩ | ⟨h0, he⟩
    ·gi_roundg (A.length - (k + 1))
     case rel =>
      refine Or.inl ⟨k + 1, M2, R', ?_, hM2, rfl, ⟨hJ5, HR'.out⟩, ?_⟩
      ·rw [Hok.out]; simp [h0]
      ·have hb := put8_blk HK4.out M'
       have e : arr8 M' = arr8 M2 := arr8_same fun f hf => by rw [HM'.out]; unfold afterO; rw [if_neg h0]; exact he f hf
       rw [e] at hb
       exact hb
     case measure => have := HL.out; rw [HG.out]; omega
    ·gi_roundg 0
     case rel => exact Or.inr ⟨by rw [Hok.out, h0]; rfl, R', by rw [← he]; exact hJ5⟩
     case measure => have := HL.out; rw [HG.out]; omega
   ·gi_wp2
    go_end0
    exact ⟨⟨_, rfl⟩, .inr ⟨k, HL.out, hJx3⟩⟩
  ·have HJe := hide hj
   clear hj
   gi_wp2
   refine ⟨fun _ _ => trivial, ?_⟩
   gi_wp2
   go_end0
   exact ⟨⟨_, rfl⟩, .inl HJe.out⟩
end Go.Proofs.YtjmeakkmfeoigaaGreatDoor