/-
  Facts and contracts that the statement leans on.
-/
import Derived.Test.YtnoohlibgaeklaaGreatDoorLibA4
import Derived.Test.YtnoohlibgaeklaaGreatDoorLibA14
import Derived.Test.YtnoohlibgaeklaaGreatDoorLibA12
import Derived.Test.YtnoohlibgaeklaaGreatDoorLibA11
import Derived.Test.YtnoohlibgaeklaaGreatDoorLibA1
import Derived.Deep.RegionHeld3
import Derived.Deep.AppendLies
namespace Go.Proofs.YtnoohlibgaeklaaGreatDoor
open Go.ChangeShapes Go.WideShapes Go.ChangeAt Go.RowKit
set_option maxRecDepth 100000
theorem str_eq {x : ByteArray} {l : List UInt8} (h : x.data.toList = l) : x = strOf l := by rw [← h, strOf_data]
theorem back_str {a b : ByteArray} {v : Value} (h : a = b) : Ending.returned (.tuple #[.string a, v]) = .returned (.tuple #[.string b, v]) := by rw [h]
def BoxA (w : World) (B : Nat) (k n : Int) (vs vt : Value) : Prop := w.cell? ⟨B, 0, none⟩ = some (.int .i64 k) ∧ w.cell? ⟨B, 1, none⟩ = some vs ∧ w.cell? ⟨B, 2, none⟩ = some vt ∧ w.cell? ⟨B, 3, none⟩ = some (.int .i64 n)
theorem BoxA.below {w w' : World} {B K : Nat} {k n : Int} {vs vt : Value} (h : BoxA w B k n vs vt) (hb : Below K w w') (hK : B < K) : BoxA w' B k n vs vt :=
 ⟨(hb.cell hK).trans h.1, (hb.cell hK).trans h.2.1, (hb.cell hK).trans h.2.2.1, (hb.cell hK).trans h.2.2.2⟩
theorem boxA_alloc (w : World) (k n : Int) (vs vt : Value) : BoxA (w.alloc (.cells #[.int .i64 k, vs, vt, .int .i64 n] 71)) w.heap.size k n vs vt := ⟨by simp, by simp, by simp, by simp⟩
theorem aprint_bad (k F : Int) (n : Int) (sao tao : Option Addr) (sl scap tl tcap : Nat) (w : World)
    (hC : ∀ W, Below w.heap.size w W → Calls Tryz.prog 92 #[.agg #[.int .i64 k, .slice sao sl scap, .slice tao tl tcap, .int .i64 n]] W (Bk W (.iface 91 (.int .i64 F)))) :
    Calls Tryz.prog 139 #[.agg #[.int .i64 k, .slice sao sl scap, .slice tao tl tcap, .int .i64 n]] w (Bk w (.tuple #[.string ⟨#[]⟩, (.iface 91 (.int .i64 F))])) := by
 obtain ⟨w1, hw1⟩ := nm (w.alloc (.cells #[.int .i64 k, .slice sao sl scap, .slice tao tl tcap, .int .i64 n] 71))
 have HB1 : Hid (Below w.heap.size w w1) := by unfold Hid; rw [hw1]; exact below_alloc1 w _
 have HX : Hid (BoxA w1 w.heap.size k n (.slice sao sl scap) (.slice tao tl tcap)) := by unfold Hid; rw [hw1]; exact boxA_alloc w _ _ _ _
 have HK1 : Hid (w.heap.size < w1.heap.size) := by unfold Hid; rw [hw1]; simp
 have HC := hide (hC w1 HB1.out)
 clear hC
 obtain ⟨x0, x1, x2, x3⟩ := HX.out
 go_enter Tryz.func139, Tryz.ntmps139
 go_wp2_with fail
 rw [← hw1]
 clear hw1
 go_wp2_with (go_at_call 92; refine HC.out.mono ?_; rintro e w2 ⟨rfl, hb⟩; have HB2 : Hid (Below w.heap.size w w2) := HB1.out.trans (hb.mono HB1.out.size); clear hb)
 go_ret2
 exact ⟨rfl, HB2.out⟩
set_option maxHeartbeats 2000000 in
theorem aprint_two (k : Nat) (h0 : 0 < k) (h6 : k < 6) (Q : ByteArray) (hQ : Q.size ≤ 6) (ls lt : List UInt8) (zs : ls.length ≤ 20) (zt : lt.length ≤ 20) (n : Int) (sao tao : Option Addr) (sl scap tl tcap : Nat) (w : World)
    (HKc : Hid (∀ W, Below w.heap.size w W → W.cell? ⟨1, k * 3, none⟩ = some (.string Q) ∧ W.cell? ⟨1, k * 3 + 1, none⟩ = some (.bool true) ∧ W.cell? ⟨1, k * 3 + 2, none⟩ = some (.bool false)))
    (hC : ∀ W, Below w.heap.size w W → Calls Tryz.prog 92 #[.agg #[.int .i64 (k : Int), .slice sao sl scap, .slice tao tl tcap, .int .i64 n]] W (Bk W .nilIface))
    (hS : ∀ W, Below w.heap.size w W → Calls Tryz.prog 171 #[.slice sao sl scap] W (Bk W (.tuple #[.string (strOf ls), .nilIface])))
    (hT : ∀ W, Below w.heap.size w W → Calls Tryz.prog 171 #[.slice tao tl tcap] W (Bk W (.tuple #[.string (strOf lt), .nilIface])))
    : Calls Tryz.prog 139 #[.agg #[.int .i64 (k : Int), .slice sao sl scap, .slice tao tl tcap, .int .i64 n]] w (Bk w (.tuple #[.string (strOf (Q.data.toList ++ (32 :: ls) ++ (32 :: lt))), .nilIface])) := by
 obtain ⟨w1, hw1⟩ := nm (w.alloc (.cells #[.int .i64 (k : Int), .slice sao sl scap, .slice tao tl tcap, .int .i64 n] 71))
 have HB1 : Hid (Below w.heap.size w w1) := by unfold Hid; rw [hw1]; exact below_alloc1 w _
 have HX : Hid (BoxA w1 w.heap.size (k : Int) n (.slice sao sl scap) (.slice tao tl tcap)) := by unfold Hid; rw [hw1]; exact boxA_alloc w _ _ _ _
 have HK1 : Hid (w.heap.size < w1.heap.size) := by unfold Hid; rw [hw1]; simp
 have HT0 : Hid (∀ W, Below w1.heap.size w1 W → Below w.heap.size w W) := fun W h => HB1.out.trans (h.mono HB1.out.size)
 have HC := hide (hC w1 HB1.out)
 obtain ⟨ps, hps⟩ := nm (strOf ls)
 obtain ⟨pt, hpt⟩ := nm (strOf lt)
 have fs : ps.size ≤ 20 := by rw [hps, strOf_size]; exact zs
 have ft : pt.size ≤ 20 := by rw [hpt, strOf_size]; exact zt
 rw [← hps] at hS
 rw [← hpt] at hT
 have HS : Hid (∀ W, Below w1.heap.size w1 W → Calls Tryz.prog 171 #[.slice sao sl scap] W (Bk W (.tuple #[.string ps, .nilIface]))) := fun W h => hS W (HT0.out W h)
 have HT : Hid (∀ W, Below w1.heap.size w1 W → Calls Tryz.prog 171 #[.slice tao tl tcap] W (Bk W (.tuple #[.string pt, .nilIface]))) := fun W h => hT W (HT0.out W h)
 obtain ⟨R, hR⟩ := nm (strOf (Q.data.toList ++ (32 :: ls) ++ (32 :: lt)))
 rw [← hR]
 have HR : Hid (R.data.toList = Q.data.toList ++ (32 :: ps.data.toList) ++ (32 :: pt.data.toList)) := by
  unfold Hid; rw [hR, hps, hpt]; simp only [strOf_list]
 clear hR hps hpt zs zt hC hS hT
 obtain ⟨x0, x1, x2, x3⟩ := HX.out
 go_enter Tryz.func139, Tryz.ntmps139
 go_wp2_with fail
 rw [← hw1]
 clear hw1
 go_wp2_with fail
 go_at_call 92
 refine HC.out.mono ?_
 rintro e w2 ⟨rfl, hb⟩
 have HZ2 := hide hb
 clear hb x0 x1 x2 x3
 obtain ⟨q0, q1, q2⟩ := HKc.out _ (HT0.out _ HZ2.out)
 obtain ⟨x0, x1, x2, x3⟩ := HX.out.below HZ2.out HK1.out
 go_wp2_with fail
 go_at_call 171
 refine (HS.out _ HZ2.out).mono ?_
 rintro e w3 ⟨rfl, hb⟩
 have HZ3 := hide (HZ2.out.trans (hb.mono HZ2.out.size))
 clear hb x0 x1 x2 x3 q0 q1 q2
 obtain ⟨q0, q1, q2⟩ := HKc.out _ (HT0.out _ HZ3.out)
 obtain ⟨x0, x1, x2, x3⟩ := HX.out.below HZ3.out HK1.out
 go_wp2_with fail
 go_at_call 171
 refine (HT.out _ HZ3.out).mono ?_
 rintro e w4 ⟨rfl, hb⟩
 have HZ4 := hide (HZ3.out.trans (hb.mono HZ3.out.size))
 clear hb x0 x1 x2 x3 q0 q1 q2
 obtain ⟨q0, q1, q2⟩ := HKc.out _ (HT0.out _ HZ4.out)
 obtain ⟨x0, x1, x2, x3⟩ := HX.out.below HZ4.out HK1.out
 go_wp2_with fail
 go_ret2
 refine ⟨back_str ?_, HT0.out _ HZ4.out⟩
 refine (str_eq (l := R.data.toList) ?_).trans (strOf_data R)
 rw [HR.out]
 simp
set_option maxHeartbeats 2000000 in
theorem aprint_num (k : Nat) (h0 : 0 < k) (h6 : k < 6) (Q : ByteArray) (hQ : Q.size ≤ 6) (ls ln : List UInt8) (zs : ls.length ≤ 20) (zn : ln.length ≤ 20) (n : Int) (sao tao : Option Addr) (sl scap tl tcap : Nat) (w : World)
    (HKc : Hid (∀ W, Below w.heap.size w W → W.cell? ⟨1, k * 3, none⟩ = some (.string Q) ∧ W.cell? ⟨1, k * 3 + 1, none⟩ = some (.bool false) ∧ W.cell? ⟨1, k * 3 + 2, none⟩ = some (.bool true)))
    (hC : ∀ W, Below w.heap.size w W → Calls Tryz.prog 92 #[.agg #[.int .i64 (k : Int), .slice sao sl scap, .slice tao tl tcap, .int .i64 n]] W (Bk W .nilIface))
    (hS : ∀ W, Below w.heap.size w W → Calls Tryz.prog 171 #[.slice sao sl scap] W (Bk W (.tuple #[.string (strOf ls), .nilIface])))
    (hN : ∀ W, Below w.heap.size w W → Calls Tryz.prog 36 #[.int .i64 n] W (Bk W (.string (strOf ln))))
    : Calls Tryz.prog 139 #[.agg #[.int .i64 (k : Int), .slice sao sl scap, .slice tao tl tcap, .int .i64 n]] w (Bk w (.tuple #[.string (strOf (Q.data.toList ++ (32 :: ls) ++ (32 :: ln))), .nilIface])) := by
 obtain ⟨w1, hw1⟩ := nm (w.alloc (.cells #[.int .i64 (k : Int), .slice sao sl scap, .slice tao tl tcap, .int .i64 n] 71))
 have HB1 : Hid (Below w.heap.size w w1) := by unfold Hid; rw [hw1]; exact below_alloc1 w _
 have HX : Hid (BoxA w1 w.heap.size (k : Int) n (.slice sao sl scap) (.slice tao tl tcap)) := by unfold Hid; rw [hw1]; exact boxA_alloc w _ _ _ _
 have HK1 : Hid (w.heap.size < w1.heap.size) := by unfold Hid; rw [hw1]; simp
 have HT0 : Hid (∀ W, Below w1.heap.size w1 W → Below w.heap.size w W) := fun W h => HB1.out.trans (h.mono HB1.out.size)
 have HC := hide (hC w1 HB1.out)
 obtain ⟨ps, hps⟩ := nm (strOf ls)
 obtain ⟨pn, hpn⟩ := nm (strOf ln)
 have fs : ps.size ≤ 20 := by rw [hps, strOf_size]; exact zs
 have fn : pn.size ≤ 20 := by rw [hpn, strOf_size]; exact zn
 rw [← hps] at hS
 rw [← hpn] at hN
 have HS : Hid (∀ W, Below w1.heap.size w1 W → Calls Tryz.prog 171 #[.slice sao sl scap] W (Bk W (.tuple #[.string ps, .nilIface]))) := fun W h => hS W (HT0.out W h)
 have HN : Hid (∀ W, Below w1.heap.size w1 W → Calls Tryz.prog 36 #[.int .i64 n] W (Bk W (.string pn))) := fun W h => hN W (HT0.out W h)
 obtain ⟨R, hR⟩ := nm (strOf (Q.data.toList ++ (32 :: ls) ++ (32 :: ln)))
 rw [← hR]
 have HR : Hid (R.data.toList = Q.data.toList ++ (32 :: ps.data.toList) ++ (32 :: pn.data.toList)) := by
  unfold Hid; rw [hR, hps, hpn]; simp only [strOf_list]
 clear hR hps hpn zs zn hC hS hN
 obtain ⟨x0, x1, x2, x3⟩ := HX.out
 go_enter Tryz.func139, Tryz.ntmps139
 go_wp2_with fail
 rw [← hw1]
 clear hw1
 go_wp2_with fail
 go_at_call 92
 refine HC.out.mono ?_
 rintro e w2 ⟨rfl, hb⟩
 have HZ2 := hide hb
 clear hb x0 x1 x2 x3
 obtain ⟨q0, q1, q2⟩ := HKc.out _ (HT0.out _ HZ2.out)
 obtain ⟨x0, x1, x2, x3⟩ := HX.out.below HZ2.out HK1.out
 go_wp2_with fail
 go_at_call 171
 refine (HS.out _ HZ2.out).mono ?_
 rintro e w3 ⟨rfl, hb⟩
 have HZ3 := hide (HZ2.out.trans (hb.mono HZ2.out.size))
 clear hb x0 x1 x2 x3 q0 q1 q2
 obtain ⟨q0, q1, q2⟩ := HKc.out _ (HT0.out _ HZ3.out)
 obtain ⟨x0, x1, x2, x3⟩ := HX.out.below HZ3.out HK1.out
 go_wp2_with fail
 go_at_call 36
 refine (HN.out _ HZ3.out).mono ?_
 rintro e w5 ⟨rfl, hb⟩
 have HZ5 := hide (HZ3.out.trans (hb.mono HZ3.out.size))
 clear hb x0 x1 x2 x3 q0 q1 q2
 go_wp2_with fail
 go_ret2
 refine ⟨back_str ?_, HT0.out _ HZ5.out⟩
 refine (str_eq (l := R.data.toList) ?_).trans (strOf_data R)
 rw [HR.out]
 simp
set_option maxHeartbeats 2000000 in
theorem aprint_all (k : Nat) (h0 : 0 < k) (h6 : k < 6) (Q : ByteArray) (hQ : Q.size ≤ 6) (ls lt ln : List UInt8) (zs : ls.length ≤ 20) (zt : lt.length ≤ 20) (zn : ln.length ≤ 20) (n : Int) (sao tao : Option Addr) (sl scap tl tcap : Nat) (w : World)
    (HKc : Hid (∀ W, Below w.heap.size w W → W.cell? ⟨1, k * 3, none⟩ = some (.string Q) ∧ W.cell? ⟨1, k * 3 + 1, none⟩ = some (.bool true) ∧ W.cell? ⟨1, k * 3 + 2, none⟩ = some (.bool true)))
    (hC : ∀ W, Below w.heap.size w W → Calls Tryz.prog 92 #[.agg #[.int .i64 (k : Int), .slice sao sl scap, .slice tao tl tcap, .int .i64 n]] W (Bk W .nilIface))
    (hS : ∀ W, Below w.heap.size w W → Calls Tryz.prog 171 #[.slice sao sl scap] W (Bk W (.tuple #[.string (strOf ls), .nilIface])))
    (hT : ∀ W, Below w.heap.size w W → Calls Tryz.prog 171 #[.slice tao tl tcap] W (Bk W (.tuple #[.string (strOf lt), .nilIface])))
    (hN : ∀ W, Below w.heap.size w W → Calls Tryz.prog 36 #[.int .i64 n] W (Bk W (.string (strOf ln))))
    : Calls Tryz.prog 139 #[.agg #[.int .i64 (k : Int), .slice sao sl scap, .slice tao tl tcap, .int .i64 n]] w (Bk w (.tuple #[.string (strOf (Q.data.toList ++ (32 :: ls) ++ (32 :: lt) ++ (32 :: ln))), .nilIface])) := by
 obtain ⟨w1, hw1⟩ := nm (w.alloc (.cells #[.int .i64 (k : Int), .slice sao sl scap, .slice tao tl tcap, .int .i64 n] 71))
 have HB1 : Hid (Below w.heap.size w w1) := by unfold Hid; rw [hw1]; exact below_alloc1 w _
 have HX : Hid (BoxA w1 w.heap.size (k : Int) n (.slice sao sl scap) (.slice tao tl tcap)) := by unfold Hid; rw [hw1]; exact boxA_alloc w _ _ _ _
 have HK1 : Hid (w.heap.size < w1.heap.size) := by unfold Hid; rw [hw1]; simp
 have HT0 : Hid (∀ W, Below w1.heap.size w1 W → Below w.heap.size w W) := fun W h => HB1.out.trans (h.mono HB1.out.size)
 have HC := hide (hC w1 HB1.out)
 obtain ⟨ps, hps⟩ := nm (strOf ls)
 obtain ⟨pt, hpt⟩ := nm (strOf lt)
 obtain ⟨pn, hpn⟩ := nm (strOf ln)
 have fs : ps.size ≤ 20 := by rw [hps, strOf_size]; exact zs
 have ft : pt.size ≤ 20 := by rw [hpt, strOf_size]; exact zt
 have fn : pn.size ≤ 20 := by rw [hpn, strOf_size]; exact zn
 rw [← hps] at hS
 rw [← hpt] at hT
 rw [← hpn] at hN
 have HS : Hid (∀ W, Below w1.heap.size w1 W → Calls Tryz.prog 171 #[.slice sao sl scap] W (Bk W (.tuple #[.string ps, .nilIface]))) := fun W h => hS W (HT0.out W h)
 have HT : Hid (∀ W, Below w1.heap.size w1 W → Calls Tryz.prog 171 #[.slice tao tl tcap] W (Bk W (.tuple #[.string pt, .nilIface]))) := fun W h => hT W (HT0.out W h)
 have HN : Hid (∀ W, Below w1.heap.size w1 W → Calls Tryz.prog 36 #[.int .i64 n] W (Bk W (.string pn))) := fun W h => hN W (HT0.out W h)
 obtain ⟨R, hR⟩ := nm (strOf (Q.data.toList ++ (32 :: ls) ++ (32 :: lt) ++ (32 :: ln)))
 rw [← hR]
 have HR : Hid (R.data.toList = Q.data.toList ++ (32 :: ps.data.toList) ++ (32 :: pt.data.toList) ++ (32 :: pn.data.toList)) := by
  unfold Hid; rw [hR, hps, hpt, hpn]; simp only [strOf_list]
 clear hR hps hpt hpn zs zt zn hC hS hT hN
 obtain ⟨x0, x1, x2, x3⟩ := HX.out
 go_enter Tryz.func139, Tryz.ntmps139
 go_wp2_with fail
 rw [← hw1]
 clear hw1
 go_wp2_with fail
 go_at_call 92
 refine HC.out.mono ?_
 rintro e w2 ⟨rfl, hb⟩
 have HZ2 := hide hb
 clear hb x0 x1 x2 x3
 obtain ⟨q0, q1, q2⟩ := HKc.out _ (HT0.out _ HZ2.out)
 obtain ⟨x0, x1, x2, x3⟩ := HX.out.below HZ2.out HK1.out
 go_wp2_with fail
 go_at_call 171
 refine (HS.out _ HZ2.out).mono ?_
 rintro e w3 ⟨rfl, hb⟩
 have HZ3 := hide (HZ2.out.trans (hb.mono HZ2.out.size))
 clear hb x0 x1 x2 x3 q0 q1 q2
 obtain ⟨q0, q1, q2⟩ := HKc.out _ (HT0.out _ HZ3.out)
 obtain ⟨x0, x1, x2, x3⟩ := HX.out.below HZ3.out HK1.out
 go_wp2_with fail
 go_at_call 171
 refine (HT.out _ HZ3.out).mono ?_
 rintro e w4 ⟨rfl, hb⟩
 have HZ4 := hide (HZ3.out.trans (hb.mono HZ3.out.size))
 clear hb x0 x1 x2 x3 q0 q1 q2
 obtain ⟨q0, q1, q2⟩ := HKc.out _ (HT0.out _ HZ4.out)
 obtain ⟨x0, x1, x2, x3⟩ := HX.out.below HZ4.out HK1.out
 go_wp2_with fail
 go_at_call 36
 refine (HN.out _ HZ4.out).mono ?_
 rintro e w5 ⟨rfl, hb⟩
 have HZ5 := hide (HZ4.out.trans (hb.mono HZ4.out.size))
 clear hb x0 x1 x2 x3 q0 q1 q2
 go_wp2_with fail
 go_ret2
 refine ⟨back_str ?_, HT0.out _ HZ5.out⟩
 refine (str_eq (l := R.data.toList) ?_).trans (strOf_data R)
 rw [HR.out]
 simp
theorem digits_length (u : Nat) : (digitsN u).length ≤ 2 := by unfold digitsN; split <;> simp
theorem numText_length (n : Int) : (numText n).length ≤ 3 := by
 unfold numText
 split
 ·have := digits_length n.natAbs; simp; omega
 ·have := digits_length n.toNat; omega
def aprintS (k : Int) (s t : List Int) (n : Int) : ByteArray := if atomFault k s t n = 0 then strOf (atomText k s t n) else ⟨#[]⟩
theorem aprint_any (k n : Int) (vs vt : Value) (s t : List Int) (w : World) (hS : Reads w vs s) (hT : Reads w vt t) (hK : KindsLaid w) (hL : LibLaid w) :
    Calls Tryz.prog 139 #[.agg #[.int .i64 k, vs, vt, .int .i64 n]] w (Bk w (.tuple #[.string (aprintS k s t n), errV (atomFault k s t n)])) := by
 have hC : ∀ W, Below w.heap.size w W → _ := fun W hW => acheck_any k n vs vt s t W (hS.below hW) (hT.below hW) (hK.below hW)
 have hPS : ∀ W, Below w.heap.size w W → _ := fun W hW => print_any s vs W (hS.below hW)
 have hPT : ∀ W, Below w.heap.size w W → _ := fun W hW => print_any t vt W (hT.below hW)
 obtain ⟨sao, scap, rfl, _⟩ := hS.slice
 obtain ⟨tao, tcap, rfl, _⟩ := hT.slice
 by_cases hf : atomFault k s t n = 0
 ·obtain ⟨hk, hs, ht, n0, n1⟩ := atomFault_zero.1 hf
  have e0 : aprintS k s t n = strOf (atomText k s t n) := by unfold aprintS; rw [if_pos hf]
  have hm : mostN k ≤ 20 := by unfold mostN; split <;> omega
  rw [e0, hf, errV_0]
  rw [hf, errV_0] at hC
  have es : printS s = strOf (textN s) := by unfold printS; rw [if_pos hs]
  rw [es, hs, errV_0] at hPS
  have zs : (textN s).length ≤ 20 := by have := (fault_zero.1 hs).2.1; simp [textN]; omega
  have hsec : secondB k = true → (∀ W, Below w.heap.size w W → Calls Tryz.prog 171 #[.slice tao t.length tcap] W (Bk W (.tuple #[.string (strOf (textN t)), .nilIface]))) ∧ (textN t).length ≤ 20 := by
   intro h
   have h0 := second_reads ht h
   have et : printS t = strOf (textN t) := by unfold printS; rw [if_pos h0]
   rw [et, h0, errV_0] at hPT
   exact ⟨hPT, by have := (fault_zero.1 h0).2.1; simp [textN]; omega⟩
  have zn : (numText n).length ≤ 20 := by have := numText_length n; omega
  have hN : ∀ W, Below w.heap.size w W → Calls Tryz.prog 36 #[.int .i64 n] W (Bk W (.string (strOf (numText n)))) := fun W h => itoa_any n (by omega) (by omega) W (hL.below h)
  have hL := fun W (h : Below w.heap.size w W) => hK.below h
  rcases five hk.1 hk.2 with rfl | rfl | rfl | rfl | rfl
  ·obtain ⟨g1, g2⟩ := hsec (by decide)
   have := aprint_two 1 (by decide) (by decide) ⟨#[115, 117, 98]⟩ (by decide) (textN s) (textN t) zs g2 n sao tao _ scap _ tcap w (fun W h => ⟨hL W h _ (by decide), hL W h _ (by decide), hL W h _ (by decide)⟩) hC hPS g1
   simpa [atomText, kindWord, secondB, numberB] using this
  ·obtain ⟨g1, g2⟩ := hsec (by decide)
   have := aprint_two 2 (by decide) (by decide) ⟨#[115, 97, 109, 101]⟩ (by decide) (textN s) (textN t) zs g2 n sao tao _ scap _ tcap w (fun W h => ⟨hL W h _ (by decide), hL W h _ (by decide), hL W h _ (by decide)⟩) hC hPS g1
   simpa [atomText, kindWord, secondB, numberB] using this
  ·have := aprint_num 3 (by decide) (by decide) ⟨#[108, 101, 97, 115, 116]⟩ (by decide) (textN s) (numText n) zs zn n sao tao _ scap _ tcap w (fun W h => ⟨hL W h _ (by decide), hL W h _ (by decide), hL W h _ (by decide)⟩) hC hPS hN
   simpa [atomText, kindWord, secondB, numberB] using this
  ·have := aprint_num 4 (by decide) (by decide) ⟨#[109, 111, 115, 116]⟩ (by decide) (textN s) (numText n) zs zn n sao tao _ scap _ tcap w (fun W h => ⟨hL W h _ (by decide), hL W h _ (by decide), hL W h _ (by decide)⟩) hC hPS hN
   simpa [atomText, kindWord, secondB, numberB] using this
  ·obtain ⟨g1, g2⟩ := hsec (by decide)
   have := aprint_all 5 (by decide) (by decide) ⟨#[110, 111, 109, 111, 114, 101]⟩ (by decide) (textN s) (textN t) (numText n) zs g2 zn n sao tao _ scap _ tcap w (fun W h => ⟨hL W h _ (by decide), hL W h _ (by decide), hL W h _ (by decide)⟩) hC hPS g1 hN
   simpa [atomText, kindWord, secondB, numberB] using this
 ·have e0 : aprintS k s t n = ⟨#[]⟩ := by unfold aprintS; rw [if_neg hf]
  rw [e0, errV_no hf]
  rw [errV_no hf] at hC
  exact aprint_bad k _ n sao tao _ scap _ tcap w hC
end Go.Proofs.YtnoohlibgaeklaaGreatDoor
namespace Go.Proofs.YtnoohlibgaeklaaGreatDoor
open Go.ChangeShapes Go.WideShapes Go.ChangeAt Go.RowKit
set_option maxRecDepth 100000
theorem firstFault_drop (ats : List At) {k : Nat} {a : At} (ha : ats[k]? = some a) : firstFault (ats.drop k) = if a.fault = 0 then firstFault (ats.drop (k + 1)) else a.fault := by
 obtain ⟨hk, rfl⟩ := List.getElem?_eq_some_iff.1 ha
 rw [List.drop_eq_getElem_cons hk]; rfl
theorem fcheck_none (va vc : Value) (ats : List At) (c : List Int) (w : World) (hA : ReadsA w va ats) (hC : Reads w vc c) (h0 : ats.length = 0 ∨ c.length = 0) :
    Calls Tryz.prog 78 #[.agg #[va, vc]] w (Bk w (.iface 91 (.int .i64 5))) := by
 obtain ⟨ao, acap, rfl, hal⟩ := hA.slice
 obtain ⟨co, ccap, rfl, hcl⟩ := hC.slice
 clear hA hC
 obtain ⟨m, hm⟩ := nm ats.length
 obtain ⟨n, hn⟩ := nm c.length
 rw [← hm] at h0 hal ⊢
 rw [← hn] at h0 hcl ⊢
 clear hm hn
 rcases h0 with rfl | rfl
 ·go_enter Tryz.func78, Tryz.ntmps78
  go_wp2
  go_ret
  exact ⟨rfl, below_alloc1 _ _⟩
 ·by_cases h1 : m = 0
  ·subst h1
   go_enter Tryz.func78, Tryz.ntmps78
   go_wp2
   go_ret
   exact ⟨rfl, below_alloc1 _ _⟩
  ·have h1' : ¬ ((m : Int) = 0) := by omega
   go_enter Tryz.func78, Tryz.ntmps78
   go_wp2
   go_ret
   exact ⟨rfl, below_alloc1 _ _⟩
theorem fcheck_full (va vc : Value) (ats : List At) (c : List Int) (w : World) (hA : ReadsA w va ats) (hC : Reads w vc c) (h0 : ¬ (ats.length = 0 ∨ c.length = 0)) (h1 : 6 < ats.length ∨ 20 < c.length) :
    Calls Tryz.prog 78 #[.agg #[va, vc]] w (Bk w (.iface 91 (.int .i64 4))) := by
 obtain ⟨ao, acap, rfl, hal⟩ := hA.slice
 obtain ⟨co, ccap, rfl, hcl⟩ := hC.slice
 clear hA hC
 obtain ⟨m, hm⟩ := nm ats.length
 obtain ⟨n, hn⟩ := nm c.length
 rw [← hm] at h0 h1 hal ⊢
 rw [← hn] at h0 h1 hcl ⊢
 clear hm hn
 have hm' : ((m : Int) == 0) = false := by simp; omega
 have hn' : ((n : Int) == 0) = false := by simp; omega
 have HT : Hid (∀ W, Calls Tryz.prog 109 #[.int .i64 m, .int .i64 n] W (Sk W (.bool true))) := fun W => by
  have := tooMany_any m n W
  rw [show (decide (6 < (m : Int)) || decide (20 < (n : Int))) = true by simp; omega] at this
  exact this
 clear h0 h1
 go_enter Tryz.func78, Tryz.ntmps78
 go_wp2_with fail
 go_at_call 109
 refine (HT.out _).mono ?_
 rintro e w' ⟨rfl, rfl⟩
 go_wp2
 go_ret
 exact ⟨rfl, below_alloc1 _ _⟩
theorem fcheck_rest (ao co : Option Addr) (acap ccap : Nat) (ats : List At) (c : List Int) (w : World) (hA : ReadsA w (.slice ao ats.length acap) ats) (hC : Reads w (.slice co c.length ccap) c) (hK : KindsLaid w) (h0 : ¬ (ats.length = 0 ∨ c.length = 0)) (h1 : ¬ (6 < ats.length ∨ 20 < c.length)) :
    Calls Tryz.prog 78 #[.agg #[.slice ao ats.length acap, .slice co c.length ccap]] w (Bk w (errV (formFault ats c))) := by
 obtain ⟨w1, hw1⟩ := nm (w.alloc (.cells #[.slice ao ats.length acap, .slice co c.length ccap] 78))
 have HB1 : Hid (Below w.heap.size w w1) := by unfold Hid; rw [hw1]; exact below_alloc1 w _
 have HS1 : Hid (w1.heap.size = w.heap.size + 1) := by unfold Hid; rw [hw1]; simp
 have HX : Hid (w1.cell? ⟨w.heap.size, 0, none⟩ = some (.slice ao ats.length acap) ∧ w1.cell? ⟨w.heap.size, 1, none⟩ = some (.slice co c.length ccap)) := by
  unfold Hid; rw [hw1]; simp
 have HA := hide (hA.below HB1.out)
 have HC := hide (hC.below HB1.out)
 have HK := hide (hK.below HB1.out)
 clear hA hC hK
 have HF : Hid (formFault ats c = if firstFault ats = 0 then (if c.all (signF ats.length) = true then (if cntF c 0 = some 1 then 0 else 3) else 1) else firstFault ats) := by
  unfold Hid formFault; rw [if_neg h0, if_neg h1]
 obtain ⟨m, hm⟩ := nm ats.length
 obtain ⟨n, hn⟩ := nm c.length
 rw [← hm] at h0 h1 hw1 HX HA HF ⊢
 rw [← hn] at h0 h1 hw1 HX HC ⊢
 have HM := hide hm
 have HN := hide hn
 clear hm hn
 have hm' : ((m : Int) == 0) = false := by simp; omega
 have hn' : ((n : Int) == 0) = false := by simp; omega
 have hm6 : m ≤ 6 := by omega
 have hn20 : n ≤ 20 := by omega
 have HT : Hid (∀ W, Calls Tryz.prog 109 #[.int .i64 m, .int .i64 n] W (Sk W (.bool false))) := fun W => by
  have := tooMany_any m n W
  rw [show (decide (6 < (m : Int)) || decide (20 < (n : Int))) = false by simp; omega] at this
  exact this
 clear h0 h1
 have x0 := HX.out.1
 have x1 := HX.out.2
 go_enter Tryz.func78, Tryz.ntmps78
 go_wp2_with fail
 rw [← hw1]
 clear hw1
 go_wp2_with fail
 go_at_call 109
 refine (HT.out _).mono ?_
 rintro e w' ⟨rfl, rfl⟩
 go_wp2
 go_loopw [29] (fun i wr => ∃ k : Nat, k ≤ m ∧ i = .int .i64 k ∧ Below w1.heap.size w1 wr ∧ firstFault (ats.drop k) = firstFault ats) (fun i _ => m - (intOf i).toNat)
 case atStart => exact ⟨0, Nat.zero_le _, rfl, Below.refl _ _, rfl⟩
 case round =>
  obtain ⟨k, hk, rfl, hbel, hff⟩ := hrel
  have HF0 := hide hff
  have HB := hide hbel
  clear hff hbel
  by_cases hlt : k < m
  ·obtain ⟨a, ha⟩ : ∃ a, ats[k]? = some a := ⟨_, List.getElem?_eq_getElem (by have := HM.out; omega)⟩
   have HFF : Hid (firstFault ats = if a.fault = 0 then firstFault (ats.drop (k + 1)) else a.fault) := by
    unfold Hid; rw [← HF0.out, firstFault_drop ats ha]
   rcases HA.out.below HB.out with ⟨_, _, hv, hn⟩ | ⟨b, off, cap, hv, hb, _, _, hall⟩
   ·have := HM.out; rw [hn] at this; simp at this; omega
   obtain rfl : ao = some ⟨b, off, none⟩ := by cases hv; rfl
   obtain ⟨vs, vt, c0, c1, c2, c3, r1, r2⟩ := hall k a ha
   obtain ⟨sao, scap, rfl, _⟩ := r1.slice
   obtain ⟨tao, tcap, rfl, _⟩ := r2.slice
   clear hv hall
   obtain ⟨w2, hw2⟩ := nm (wr.alloc (.cells #[.int .i64 a.k, .slice sao a.s.length scap, .slice tao a.t.length tcap, .int .i64 a.n] 71))
   have HB2 : Hid (Below wr.heap.size wr w2) := by unfold Hid; rw [hw2]; exact below_alloc1 wr _
   have HCk : Hid (Calls Tryz.prog 92 #[.agg #[.int .i64 a.k, .slice sao a.s.length scap, .slice tao a.t.length tcap, .int .i64 a.n]] w2 (Bk w2 (errV a.fault))) :=
    acheck_any a.k a.n _ _ a.s a.t w2 (r1.below HB2.out) (r2.below HB2.out) ((HK.out.below HB.out).below HB2.out)
   clear r1 r2
   go_wp2_with fail
   rw [← hw2]
   clear hw2
   go_at_call 92
   refine HCk.out.mono ?_
   rintro e w3 ⟨rfl, hb3⟩
   have HB3 : Hid (Below w1.heap.size w1 w3) := (HB.out.trans (HB2.out.mono HB.out.size)).trans (hb3.mono (Nat.le_trans HB.out.size HB2.out.size))
   clear hb3 HCk
   by_cases hf : a.fault = 0
   ·have HD : Hid (firstFault (ats.drop (k + 1)) = firstFault ats) := by
     have := HFF.out
     rw [if_pos hf] at this
     exact this.symm
    rw [hf, errV_0]
    go_wp2
    go_roundw
    case rel => exact ⟨k + 1, by omega, by go_num, HB3.out, HD.out⟩
    case measure => simp [intOf]; omega
   ·have HE : Hid (formFault ats c = a.fault) := by
     have := HFF.out
     rw [if_neg hf] at this
     unfold Hid; rw [HF.out, this, if_neg hf]
    rw [errV_no hf]
    go_wp2
    go_ret
    refine ⟨back_v ?_, HB1.out.trans (HB3.out.mono HB1.out.size)⟩
    rw [HE.out, errV_no hf]
    rfl
  ·have HE : Hid (firstFault ats = 0) := by
    have := HF0.out
    rw [List.drop_eq_nil_of_le (by have := HM.out; omega)] at this
    exact this.symm
   have hlt0 : w.heap.size < w1.heap.size := by have := HS1.out; omega
   have y0 : wr.cell? ⟨w.heap.size, 0, none⟩ = some (.slice ao m acap) := by rw [HB.out.cell hlt0]; exact HX.out.1
   have y1 : wr.cell? ⟨w.heap.size, 1, none⟩ = some (.slice co n ccap) := by rw [HB.out.cell hlt0]; exact HX.out.2
   rcases HC.out.below HB.out with ⟨_, _, hv, hcn⟩ | ⟨b, off, cap, hv, hb, _, ⟨hl63, _⟩, hc⟩
   ·have := HN.out; rw [hcn] at this; simp at this; subst this; simp at hn'
   obtain rfl : co = some ⟨b, off, none⟩ := by cases hv; rfl
   clear hv
   have cF := fcontainsFunc_any m acap w.heap.size ao b off ccap c wr hl63 y0 hc
   have cO := fisOne_any b off ccap c wr (by have := HN.out; omega) hc
   rw [← HN.out] at cF cO
   obtain ⟨x, hx⟩ := nm (c.all (signF m))
   obtain ⟨y, hy⟩ := nm (decide (cntF c 0 = some 1))
   rw [← hx] at cF
   rw [← hy] at cO
   have HF' : Hid (formFault ats c = if x = true then (if y = true then 0 else 3) else 1) := by
    unfold Hid; rw [HF.out, HE.out, hx, hy]; simp only [decide_eq_true_eq, if_true]
   clear hx hy hc hlt0 hl63 hb
   have HP := hide cF
   have HQ := hide cO
   clear cF cO
   have HEnd := hide (HB1.out.trans (HB.out.mono HB1.out.size))
   cases x
   ·go_wp2_with (go_at_call 116; refine HP.out.mono ?_; rintro e w' ⟨rfl, rfl⟩)
    go_ret
    exact ⟨back_v (by rw [HF'.out]; rfl), HEnd.out⟩
   ·cases y
    all_goals
     go_wp2_with (first | (go_at_call 116; refine HP.out.mono ?_; rintro e w' ⟨rfl, rfl⟩) | (go_at_call 117; refine HQ.out.mono ?_; rintro e w' ⟨rfl, rfl⟩))
     go_ret
     exact ⟨back_v (by rw [HF'.out]; rfl), HEnd.out⟩
theorem fcheck_any (va vc : Value) (ats : List At) (c : List Int) (w : World) (hA : ReadsA w va ats) (hC : Reads w vc c) (hK : KindsLaid w) :
    Calls Tryz.prog 78 #[.agg #[va, vc]] w (Bk w (errV (formFault ats c))) := by
 by_cases h0 : ats.length = 0 ∨ c.length = 0
 ·have e : formFault ats c = 5 := by unfold formFault; rw [if_pos h0]
  rw [e]
  exact fcheck_none va vc ats c w hA hC h0
 by_cases h1 : 6 < ats.length ∨ 20 < c.length
 ·have e : formFault ats c = 4 := by unfold formFault; rw [if_neg h0, if_pos h1]
  rw [e]
  exact fcheck_full va vc ats c w hA hC h0 h1
 obtain ⟨ao, acap, rfl, _⟩ := hA.slice
 obtain ⟨co, ccap, rfl, _⟩ := hC.slice
 exact fcheck_rest ao co acap ccap ats c w hA hC hK h0 h1
end Go.Proofs.YtnoohlibgaeklaaGreatDoor
namespace Go.Proofs.YtnoohlibgaeklaaGreatDoor
open Go.ChangeShapes Go.WideShapes Go.ChangeAt Go.RowKit
set_option maxRecDepth 100000
set_option maxHeartbeats 8000000 in
theorem coreCheck_any (v : Value) (fs : List Fm) (u : Int) (w : World) (hF : ReadsF w v fs) (hK : KindsLaid w) :
    Calls Tryz.prog 141 #[v, .int .i64 u] w (Bk w (errV (formsFault fs u))) := by
 obtain ⟨lo, lcap, rfl, hl63⟩ := hF.slice
 have HF := hide hF
 have HFm : Hid (∀ f va vc W, Below w.heap.size w W → ReadsA W va f.ats → Reads W vc f.c → Calls Tryz.prog 78 #[.agg #[va, vc]] W (Bk W (errV (Fm.fault f)))) := fun f va vc W hW hA hC => fcheck_any va vc f.ats f.c W hA hC (hK.below hW)
 obtain ⟨R, hR⟩ := nm (formsFault fs u)
 have H0 : Hid (fs.length = 0 → R = 5) := fun h => by rw [hR]; unfold formsFault; rw [if_pos h]
 have H6 : Hid (¬ fs.length = 0 → 6 < fs.length → R = 4) := fun h1 h2 => by rw [hR]; unfold formsFault; rw [if_neg h1, if_pos h2]
 have HBad : Hid (¬ fs.length = 0 → ¬ 6 < fs.length → ∀ (k : Nat) f, fs[k]? = some f → (∀ j, j < k → ∀ g, fs[j]? = some g → Fm.fault g = 0) → ¬ Fm.fault f = 0 → R = Fm.fault f) := fun h1 h2 k f hk hj hf => by
  have e := firstForm_at hk hj hf
  rw [hR]; unfold formsFault; rw [if_neg h1, if_neg h2, if_neg (by rw [e]; exact hf), e]
 have HEnd : Hid (¬ fs.length = 0 → ¬ 6 < fs.length → (∀ j, j < fs.length → ∀ g, fs[j]? = some g → Fm.fault g = 0) → R = if 0 ≤ u ∧ u ≤ 6 then 0 else 1) := fun h1 h2 hj => by
  have e : firstForm fs = 0 := firstForm_zero.2 fun f hf => by
   obtain ⟨i, hi⟩ := List.mem_iff_getElem?.1 hf
   exact hj i (List.getElem?_eq_some_iff.1 hi).1 f hi
  rw [hR]; unfold formsFault; rw [if_neg h1, if_neg h2, if_pos e]
 rw [← hR]
 obtain ⟨n, hn⟩ := nm fs.length
 rw [← hn] at HF hl63 H0 H6 HBad HEnd ⊢
 have HN := hide hn
 clear hF hR hn hK
 by_cases hz : n = 0
 ·have HR := hide (H0.out hz)
  subst hz
  go_enter Tryz.func141, Tryz.ntmps141
  go_wp2
  go_ret
  exact ⟨by first | (rw [HR.out]; done) | (rw [HR.out]; rfl), Below.refl _ _⟩
 ·by_cases h6 : 6 < n
  ·have HR := hide (H6.out hz h6)
   have dz : ((n : Int) == 0) = false := by simp; omega
   have h6' : (6 : Int) < (n : Int) := by omega
   go_enter Tryz.func141, Tryz.ntmps141
   go_wp2
   go_ret
   exact ⟨by first | (rw [HR.out]; done) | (rw [HR.out]; rfl), Below.refl _ _⟩
  ·have dz : ((n : Int) == 0) = false := by simp; omega
   have h6' : (n : Int) ≤ 6 := by omega
   have HBad' := hide (HBad.out hz h6)
   have HEnd' := hide (HEnd.out hz h6)
   have Hz := hide hz
   clear hz h6 H0 H6 HBad HEnd
   go_enter Tryz.func141, Tryz.ntmps141
   go_wp2
   go_loopw [18] (fun i wr => ∃ k : Nat, k ≤ n ∧ i = .int .i64 k ∧ Below w.heap.size w wr ∧ ∀ j, j < k → ∀ g, fs[j]? = some g → Fm.fault g = 0) (fun i _ => n - (intOf i).toNat)
   case atStart => exact ⟨0, Nat.zero_le _, rfl, Below.refl _ _, fun j hj => by omega⟩
   case round =>
    obtain ⟨k, hk, rfl, hbr, hso⟩ := hrel
    have HBr := hide hbr
    have HSo := hide hso
    clear hbr hso
    by_cases hlt : k < n
    ·obtain ⟨f, hf⟩ : ∃ f, fs[k]? = some f := ⟨_, List.getElem?_eq_getElem (by rw [← HN.out]; exact hlt)⟩
     have HFk := hide hf
     obtain ⟨bL, oL, cL, hv⟩ := HF.out.place (by rw [← HN.out]; omega)
     obtain ⟨hlo, hx1, hx2⟩ := Value.slice.inj hv
     clear hx1 hx2
     subst hlo
     obtain ⟨hbL, va, vc, c0, c1, hA, hC⟩ := HF.out.at hf
     have HFc : Hid (∀ W, Below wr.heap.size wr W → Calls Tryz.prog 78 #[.agg #[va, vc]] W (Bk w (errV (Fm.fault f)))) := fun W hW => by
      have hb' := HBr.out.trans (hW.mono HBr.out.size)
      exact (HFm.out f va vc W hb' (hA.below hb') (hC.below hb')).mono fun e w' ⟨h1, h2⟩ => ⟨h1, hb'.trans (h2.mono hb'.size)⟩
     have x0 : wr.cell? ⟨bL, oL + k * 2, none⟩ = some va := (HBr.out.cell hbL).trans c0
     have x1 : wr.cell? ⟨bL, oL + k * 2 + 1, none⟩ = some vc := (HBr.out.cell hbL).trans c1
     obtain ⟨ao, acap, rfl, _⟩ := hA.slice
     obtain ⟨co, ccap, rfl, _⟩ := hC.slice
     obtain ⟨al, hal⟩ := nm f.ats.length
     obtain ⟨cl, hcl⟩ := nm f.c.length
     rw [← hal] at x0 HFc
     rw [← hcl] at x1 HFc
     obtain ⟨q, hq⟩ := nm (Fm.fault f)
     have HQ := hide hq
     rw [← hq] at HFc
     clear hf hv hbL c0 c1 hA hC hq hal hcl
     have hkn : (k : Int) < (n : Int) := by omega
     by_cases h0 : q = 0
     ·have HFz : Hid (∀ W, Below wr.heap.size wr W → Calls Tryz.prog 78 #[.agg #[.slice ao al acap, .slice co cl ccap]] W (Bk w .nilIface)) := by
       have h := HFc.out
       rw [h0] at h
       exact h
      have HQ0 : Hid (Fm.fault f = 0) := by unfold Hid; rw [← HQ.out, h0]
      clear h0 HFc HQ
      go_wp2_with fail
      go_at_call 78
      refine (HFz.out _ (by first | exact below_alloc1 _ _ | exact ((((Below.refl _ _).alloc (Nat.le_refl _) _).setCell (by simp) _).setCell (by simp) _))).mono ?_
      rintro e w8 ⟨rfl, hb8⟩
      have HB8 := hide hb8
      clear hb8 x0 x1
      go_wp2
      go_roundw
      case rel =>
       refine ⟨k + 1, by omega, by go_num, HB8.out, fun j hj g hg => ?_⟩
       by_cases e : j = k
       ·subst e
        obtain rfl : f = g := Option.some.inj (HFk.out.symm.trans hg)
        exact HQ0.out
       ·exact HSo.out j (by omega) g hg
      case measure => simp [intOf]; omega
     ·have HFz : Hid (∀ W, Below wr.heap.size wr W → Calls Tryz.prog 78 #[.agg #[.slice ao al acap, .slice co cl ccap]] W (Bk w (.iface 91 (.int .i64 q)))) := by
       have h := HFc.out
       rw [show errV q = .iface 91 (.int .i64 q) by unfold errV; rw [if_neg h0]] at h
       exact h
      have HR : Hid (errV R = .iface 91 (.int .i64 q)) := by
       unfold Hid
       rw [HBad'.out k f HFk.out HSo.out (by rw [← HQ.out]; exact h0), ← HQ.out]
       unfold errV; rw [if_neg h0]
      clear h0 HFc HQ
      go_wp2_with fail
      go_at_call 78
      refine (HFz.out _ (by first | exact below_alloc1 _ _ | exact ((((Below.refl _ _).alloc (Nat.le_refl _) _).setCell (by simp) _).setCell (by simp) _))).mono ?_
      rintro e w8 ⟨rfl, hb8⟩
      have HB8 := hide hb8
      clear hb8 x0 x1
      go_wp2
      go_ret
      exact ⟨by first | (rw [HR.out]; done) | (rw [HR.out]; rfl), HB8.out⟩
    ·obtain rfl : k = n := by omega
     have hE := HEnd'.out HSo.out
     by_cases hu : 0 ≤ u ∧ u ≤ 6
     ·rw [if_pos hu] at hE
      have HR := hide hE
      have h : okB u 0 = true := ok_zero hu.1 hu.2
      have HC : Hid (∀ W, Calls Tryz.prog 32 #[.int .i64 u, .int .i64 0] W (Sk W .nilIface)) := fun W => check_ok _ _ h W
      clear hE hu h
      go_wp2_with fail
      go_at_call 32
      refine (HC.out _).mono ?_
      rintro e w' ⟨rfl, rfl⟩
      go_wp2
      go_ret
      exact ⟨by first | (rw [HR.out]; done) | (rw [HR.out]; rfl), HBr.out⟩
     ·rw [if_neg hu] at hE
      have HR := hide hE
      have h : okB u 0 = false := okB_not.2 fun h => hu ⟨h.1, h.2.1⟩
      have HC : Hid (∀ W, Calls Tryz.prog 32 #[.int .i64 u, .int .i64 0] W (Sk W (.iface 91 (.int .i64 1)))) := fun W => check_no _ _ h W
      clear hE hu h
      go_wp2_with fail
      go_at_call 32
      refine (HC.out _).mono ?_
      rintro e w' ⟨rfl, rfl⟩
      go_wp2
      go_ret
      exact ⟨by first | (rw [HR.out]; done) | (rw [HR.out]; rfl), HBr.out⟩
end Go.Proofs.YtnoohlibgaeklaaGreatDoor
namespace Go.Proofs.YtnoohlibgaeklaaGreatDoor
open Go.RowKit
theorem leftTo_mem {fs : List Fm} {g : Nat → Bool} {f : Fm} : ∀ k, k ≤ fs.length → (f ∈ leftTo fs g k ↔ ∃ j, j < k ∧ g j = false ∧ fs[j]? = some f) := by
 intro k
 induction k with
 | zero => intro _; exact ⟨fun h => by simp [leftTo] at h, fun ⟨j, h, _⟩ => by omega⟩
 | succ k ih =>
  intro hk
  unfold leftTo
  rw [List.mem_append, ih (by omega), List.getElem?_eq_getElem (show k < fs.length by omega)]
  constructor
  ·rintro (⟨j, h1, h2, h3⟩ | h)
   ·exact ⟨j, by omega, h2, h3⟩
   ·cases hg : g k
    ·rw [hg] at h
     simp at h
     exact ⟨k, by omega, hg, by rw [List.getElem?_eq_getElem (by omega), h]⟩
    ·rw [hg] at h; simp at h
  ·rintro ⟨j, h1, h2, h3⟩
   rcases Nat.lt_or_ge j k with h | h
   ·exact Or.inl ⟨j, h, h2, h3⟩
   ·obtain rfl : j = k := by omega
    right
    rw [h2]
    rw [List.getElem?_eq_getElem (by omega)] at h3
    simp at h3
    simp [h3]
theorem putG_same (g : Nat → Bool) (i : Nat) (b : Bool) : putG g i b i = b := by unfold putG; simp
theorem putG_other (g : Nat → Bool) {i k : Nat} (b : Bool) (h : k ≠ i) : putG g i b k = g k := by unfold putG; simp [h]
theorem goneTo_succ (fs : List Fm) (u i : Nat) : goneTo fs u (i + 1) = if openN (leftF fs (putG (goneTo fs u i) i true)) u = true then putG (goneTo fs u i) i false else putG (goneTo fs u i) i true := rfl
theorem coreTo_succ (fs : List Fm) (u i : Nat) : coreTo fs u (i + 1) = if openN (leftF fs (putG (goneTo fs u i) i true)) u = true then coreTo fs u i ++ [(i : Int)] else coreTo fs u i := rfl
theorem goneTo_far (fs : List Fm) (u : Nat) : ∀ i k, i ≤ k → goneTo fs u i k = false := by
 intro i
 induction i with
 | zero => intro k _; rfl
 | succ i ih =>
  intro k hk
  rw [goneTo_succ]
  split
  ·rw [putG_other _ _ (by omega)]; exact ih k (by omega)
  ·rw [putG_other _ _ (by omega)]; exact ih k (by omega)
theorem goneTo_keep (fs : List Fm) (u : Nat) : ∀ d i k, k < i → goneTo fs u (i + d) k = goneTo fs u i k := by
 intro d
 induction d with
 | zero => intro i k _; rfl
 | succ d ih =>
  intro i k hk
  rw [← ih i k hk, show i + (d + 1) = i + d + 1 by omega, goneTo_succ]
  split
  ·rw [putG_other _ _ (by omega)]
  ·rw [putG_other _ _ (by omega)]
theorem left_closed {fs : List Fm} {u : Nat} (h : openN fs u = false) : ∀ i, i ≤ fs.length → openN (leftF fs (goneTo fs u i)) u = false := by
 intro i
 induction i with
 | zero =>
  intro _
  have hsub : ∀ f ∈ fs, f ∈ leftF fs (goneTo fs u 0) := fun f hf => by
   obtain ⟨j, hj⟩ := List.mem_iff_getElem?.1 hf
   exact (leftTo_mem fs.length (Nat.le_refl _)).2 ⟨j, (List.getElem?_eq_some_iff.1 hj).1, rfl, hj⟩
  cases e : openN (leftF fs (goneTo fs u 0)) u
  ·rfl
  ·rw [open_less hsub e] at h; exact absurd h (by decide)
 | succ i ih =>
  intro hi
  have ih := ih (by omega)
  rw [goneTo_succ]
  split
  ·rename_i ho
   have hsame : putG (goneTo fs u i) i false = goneTo fs u i := by
    funext k
    by_cases hk : k = i
    ·rw [hk, putG_same, goneTo_far fs u i i (Nat.le_refl _)]
    ·rw [putG_other _ _ hk]
   rw [hsame]; exact ih
  ·rename_i ho
   simpa using ho
theorem left_less {fs : List Fm} {u : Nat} {i : Nat} (hi : i < fs.length) (hk : goneTo fs u fs.length i = false) {gs : List Fm} (hgs : ∀ f ∈ gs, ∃ j, j < fs.length ∧ j ≠ i ∧ goneTo fs u fs.length j = false ∧ fs[j]? = some f) : openN gs u = true := by
 have e1 : goneTo fs u (i + 1) i = false := by
  have := goneTo_keep fs u (fs.length - (i + 1)) (i + 1) i (by omega)
  rw [show i + 1 + (fs.length - (i + 1)) = fs.length by omega] at this
  rw [← this]; exact hk
 have ho : openN (leftF fs (putG (goneTo fs u i) i true)) u = true := by
  cases ho : openN (leftF fs (putG (goneTo fs u i) i true)) u
  ·have : goneTo fs u (i + 1) i = true := by
    rw [goneTo_succ, if_neg (by rw [ho]; decide), putG_same]
   rw [this] at e1; exact absurd e1 (by decide)
  ·rfl
 refine open_less (fun f hf => ?_) ho
 obtain ⟨j, hj, hji, hjk, hfj⟩ := hgs f hf
 refine (leftTo_mem fs.length (Nat.le_refl _)).2 ⟨j, hj, ?_, hfj⟩
 rw [putG_other _ _ hji]
 rcases Nat.lt_or_ge j i with h | h
 ·have := goneTo_keep fs u (fs.length - i) i j h
  rw [show i + (fs.length - i) = fs.length by omega] at this
  rw [← this]; exact hjk
 ·exact goneTo_far fs u i j h
theorem core_mem {fs : List Fm} {u : Nat} : ∀ i, i ≤ fs.length → (coreTo fs u i).Pairwise (· < ·) ∧ ∀ x : Int, x ∈ coreTo fs u i ↔ ∃ j : Nat, j < i ∧ x = j ∧ goneTo fs u i j = false := by
 intro i
 induction i with
 | zero => intro _; exact ⟨List.Pairwise.nil, fun x => ⟨fun h => (by cases h), fun ⟨j, h, _⟩ => by omega⟩⟩
 | succ i ih =>
  intro hi
  obtain ⟨h1, h2⟩ := ih (by omega)
  have hlow : ∀ j, j < i → goneTo fs u (i + 1) j = goneTo fs u i j := fun j hj => goneTo_keep fs u 1 i j hj
  cases ho : openN (leftF fs (putG (goneTo fs u i) i true)) u
  ·have ec : coreTo fs u (i + 1) = coreTo fs u i := by rw [coreTo_succ, if_neg (by rw [ho]; decide)]
   have eg : goneTo fs u (i + 1) i = true := by
    rw [goneTo_succ, if_neg (by rw [ho]; decide), putG_same]
   rw [ec]
   refine ⟨h1, fun x => ?_⟩
   rw [h2 x]
   constructor
   ·rintro ⟨j, a, b, c⟩; exact ⟨j, by omega, b, by rw [hlow j a]; exact c⟩
   ·rintro ⟨j, a, b, c⟩
    rcases Nat.lt_or_ge j i with h | h
    ·exact ⟨j, h, b, by rw [← hlow j h]; exact c⟩
    ·obtain rfl : j = i := by omega
     rw [eg] at c; exact absurd c (by decide)
  ·have ec : coreTo fs u (i + 1) = coreTo fs u i ++ [(i : Int)] := by rw [coreTo_succ, if_pos ho]
   have eg : goneTo fs u (i + 1) i = false := by
    rw [goneTo_succ, if_pos ho, putG_same]
   rw [ec]
   refine ⟨?_, fun x => ?_⟩
   ·rw [List.pairwise_append]
    refine ⟨h1, by simp, fun a ha b hb => ?_⟩
    obtain ⟨j, hj, rfl, _⟩ := (h2 a).1 ha
    obtain rfl : b = (i : Int) := by simpa using hb
    omega
   ·rw [List.mem_append, h2 x]
    constructor
    ·rintro (⟨j, a, b, c⟩ | h)
     ·exact ⟨j, by omega, b, by rw [hlow j a]; exact c⟩
     ·exact ⟨i, by omega, by simpa using h, eg⟩
    ·rintro ⟨j, a, b, c⟩
     rcases Nat.lt_or_ge j i with h | h
     ·exact Or.inl ⟨j, h, b, by rw [← hlow j h]; exact c⟩
     ·obtain rfl : j = i := by omega
      exact Or.inr (by simp [b])
def coreF (fs : List Fm) (u : Nat) : List Fm := (coreTo fs u fs.length).map fun x => fs.getD x.toNat fmZ
theorem coreF_in {fs : List Fm} {u : Nat} {k : Nat} {x : Int} (hx : (coreTo fs u fs.length)[k]? = some x) : ∃ j : Nat, j < fs.length ∧ x = j ∧ goneTo fs u fs.length j = false ∧ fs[j]? = some (fs.getD x.toNat fmZ) := by
 obtain ⟨j, a, rfl, c⟩ := ((core_mem fs.length (Nat.le_refl _)).2 x).1 (List.mem_of_getElem? hx)
 refine ⟨j, a, rfl, c, ?_⟩
 rw [Int.toNat_natCast, List.getD_eq_getElem?_getD, List.getElem?_eq_getElem a]; rfl
theorem core_closed {fs : List Fm} {u : Nat} (h : openN fs u = false) : openN (coreF fs u) u = false := by
 have hl := left_closed h fs.length (Nat.le_refl _)
 cases e : openN (coreF fs u) u
 ·rfl
 ·have hsub : ∀ f ∈ leftF fs (goneTo fs u fs.length), f ∈ coreF fs u := fun f hf => by
   obtain ⟨j, h1, h2, h3⟩ := (leftTo_mem fs.length (Nat.le_refl _)).1 hf
   unfold coreF
   rw [List.mem_map]
   refine ⟨(j : Int), ((core_mem fs.length (Nat.le_refl _)).2 _).2 ⟨j, h1, rfl, h2⟩, ?_⟩
   rw [Int.toNat_natCast, List.getD_eq_getElem?_getD, h3]; rfl
  rw [open_less hsub e] at hl; exact absurd hl (by decide)
theorem core_without {fs : List Fm} {u : Nat} {k : Nat} (hk : k < (coreF fs u).length) : openN ((coreF fs u).take k ++ (coreF fs u).drop (k + 1)) u = true := by
 have hkc : k < (coreTo fs u fs.length).length := by unfold coreF at hk; simpa using hk
 obtain ⟨i, hi, hx, hg, _⟩ := coreF_in (List.getElem?_eq_getElem hkc)
 refine left_less hi hg fun f hf => ?_
 have hmem : ∃ m, m ≠ k ∧ (coreF fs u)[m]? = some f := by
  rcases List.mem_append.1 hf with h | h
  ·obtain ⟨m, hm⟩ := List.mem_iff_getElem?.1 h
   have hmk : m < k := by have := (List.getElem?_eq_some_iff.1 hm).1; simp at this; omega
   exact ⟨m, by omega, by rw [List.getElem?_take_of_lt hmk] at hm; exact hm⟩
  ·obtain ⟨m, hm⟩ := List.mem_iff_getElem?.1 h
   rw [List.getElem?_drop] at hm
   exact ⟨k + 1 + m, by omega, hm⟩
 obtain ⟨m, hmk, hm⟩ := hmem
 unfold coreF at hm
 rw [List.getElem?_map] at hm
 cases hy : (coreTo fs u fs.length)[m]? with
 | none => rw [hy] at hm; cases hm
 | some y =>
  rw [hy] at hm
  have hf' : fs.getD y.toNat fmZ = f := by simpa using hm
  obtain ⟨j, hj, hyj, hgj, hfj⟩ := coreF_in hy
  refine ⟨j, hj, ?_, hgj, by rw [← hf']; exact hfj⟩
  intro e
  have hp := (core_mem (fs := fs) (u := u) fs.length (Nat.le_refl _)).1
  have hml := (List.getElem?_eq_some_iff.1 hy).1
  have hyv : (coreTo fs u fs.length)[m] = y := (List.getElem?_eq_some_iff.1 hy).2
  rcases Nat.lt_or_gt_of_ne hmk with h | h
  ·have := List.pairwise_iff_getElem.1 hp m k hml hkc h
   rw [hyv, hx, hyj, e] at this; omega
  ·have := List.pairwise_iff_getElem.1 hp k m hkc hml h
   rw [hyv, hx, hyj, e] at this; omega
theorem core_some {fs : List Fm} {u : Nat} (h : openN fs u = false) : 0 < (coreF fs u).length := by
 rcases Nat.eq_zero_or_pos (coreF fs u).length with h0 | h0
 ·have := core_closed h
  rw [List.eq_nil_of_length_eq_zero h0, open_nil] at this
  exact absurd this (by decide)
 ·exact h0
end Go.Proofs.YtnoohlibgaeklaaGreatDoor
namespace Go.Proofs.YtnoohlibgaeklaaGreatDoor
open Go.RowKit
theorem or64 : ∀ k : Nat, k < 6 → ∀ m : Nat, m < 2 ^ k → bits .or .i64 (m : Int) (pw k) = (m : Int) + pw k := by decide +kernel
theorem and64 : ∀ n : Nat, n < 64 → ∀ m : Nat, m < 64 → bits .and .i64 (n : Int) (m : Int) = ((n &&& m : Nat) : Int) := by decide +kernel
theorem less64 : ∀ n : Nat, n < 64 → ∀ m : Nat, m < 64 → bits .andNot .i64 (n : Int) (m : Int) = ((n &&& (63 ^^^ m) : Nat) : Int) := by decide +kernel
theorem pw_nat (k : Nat) : pw k = ((2 ^ k : Nat) : Int) := by unfold pw; simp
theorem two_le {n : Nat} (h : n ≤ 6) : 2 ^ n ≤ 64 := Nat.le_trans (Nat.pow_le_pow_right (by decide) h : 2 ^ n ≤ 2 ^ 6) (by decide)
theorem bits_at (L : Nat → Bool) {n : Nat} (hn : n ≤ 6) : ∃ m : Nat, maskTo L n = (m : Int) ∧ m < 64 ∧ ∀ f, m.testBit f = (decide (f < n) && L f) := by
 obtain ⟨m0, m1⟩ := maskTo_le L n
 obtain ⟨m, hm⟩ := Int.eq_ofNat_of_zero_le m0
 have hlt : m < 2 ^ n := by rw [hm, pw_nat] at m1; omega
 have h64 := two_le hn
 refine ⟨m, hm, by omega, fun f => ?_⟩
 by_cases hf : f < n
 ·have h := has_mask L (show n ≤ 8 by omega) hf
  rw [hm] at h
  rw [decide_eq_true hf, Bool.true_and, ← h, Nat.testBit_eq_decide_div_mod_eq]
  unfold hasB
  apply decide_eq_decide.2
  have e : ((m : Int) / 2 ^ ((f : Int)).toNat % 2) = ((m / 2 ^ f % 2 : Nat) : Int) := by simp
  rw [e]
  omega
 ·rw [decide_eq_false hf, Bool.false_and]
  exact Nat.testBit_lt_two_pow (Nat.lt_of_lt_of_le hlt (Nat.pow_le_pow_right (by decide) (Nat.le_of_not_lt hf)))
theorem mask_congr {L M : Nat → Bool} : ∀ n, (∀ k, k < n → L k = M k) → maskTo L n = maskTo M n := by
 intro n
 induction n with
 | zero => intro _; rfl
 | succ n ih =>
  intro h
  unfold maskTo
  rw [ih fun k hk => h k (by omega), h n (by omega)]
theorem mask_all : ∀ n, pw n - 1 = maskTo (fun _ => true) n := by
 intro n
 induction n with
 | zero => rfl
 | succ n ih =>
  have e : pw (n + 1) = pw n + pw n := by rw [pw_nat, pw_nat, Nat.pow_succ]; omega
  unfold maskTo
  rw [← ih, e]
  show _ = _ + 1 * pw n
  omega
theorem mask_or (L : Nat → Bool) {k : Nat} (hk : k < 6) (h : L k = true) : bits .or .i64 (maskTo L k) (pw k) = maskTo L (k + 1) := by
 obtain ⟨m0, m1⟩ := maskTo_le L k
 obtain ⟨m, hm⟩ := Int.eq_ofNat_of_zero_le m0
 have hlt : m < 2 ^ k := by rw [hm, pw_nat] at m1; omega
 show _ = maskTo L k + oneB (L k) * pw k
 rw [hm, or64 k hk m hlt, h]
 show _ = _ + 1 * pw k
 omega
theorem mask_not (L : Nat → Bool) {k : Nat} (h : L k = false) : maskTo L (k + 1) = maskTo L k := by
 show maskTo L k + oneB (L k) * pw k = _
 rw [h]
 show _ + 0 * pw k = _
 omega
theorem mask_less (g : Nat → Bool) {n i : Nat} (hn : n ≤ 6) (hi : i < n) : bits .andNot .i64 (maskTo (fun k => !g k) n) (pw i) = maskTo (fun k => !putG g i true k) n := by
 obtain ⟨m, hm, h64, hb⟩ := bits_at (fun k => !g k) hn
 obtain ⟨q, hq, _, hc⟩ := bits_at (fun k => !putG g i true k) hn
 have hp : 2 ^ i < 64 := Nat.lt_of_lt_of_le (Nat.pow_lt_pow_right (by decide) hi : 2 ^ i < 2 ^ n) (two_le hn)
 rw [hm, hq, pw_nat, less64 m h64 _ hp]
 have e : m &&& (63 ^^^ 2 ^ i) = q := Nat.eq_of_testBit_eq fun f => by
  have h63 : Nat.testBit 63 f = decide (f < 6) := Nat.testBit_two_pow_sub_one 6 f
  rw [Nat.testBit_and, Nat.testBit_xor, hb, hc, h63, Nat.testBit_two_pow]
  by_cases hf : f < n
  ·rw [decide_eq_true hf, decide_eq_true (show f < 6 by omega)]
   by_cases hfi : i = f
   ·subst hfi; rw [decide_eq_true rfl, putG_same]; simp
   ·rw [decide_eq_false hfi, putG_other _ _ (fun e => hfi e.symm)]; simp
  ·rw [decide_eq_false hf]; simp
 rw [e]
theorem mask_has (L : Nat → Bool) {n i : Nat} (hn : n ≤ 6) (hi : i < n) : (bits .and .i64 (maskTo L n) (pw i) = 0) ↔ L i = false := by
 obtain ⟨m, hm, h64, hb⟩ := bits_at L hn
 have hp : 2 ^ i < 64 := Nat.lt_of_lt_of_le (Nat.pow_lt_pow_right (by decide) hi : 2 ^ i < 2 ^ n) (two_le hn)
 rw [hm, pw_nat, and64 m h64 _ hp]
 have e : (((m &&& 2 ^ i : Nat) : Int) = 0) ↔ (m &&& 2 ^ i) = 0 := by omega
 rw [e]
 constructor
 ·intro h
  have := congrArg (fun x => Nat.testBit x i) h
  simp only [Nat.testBit_and, hb, Nat.testBit_two_pow, Nat.zero_testBit, decide_eq_true hi, Bool.true_and] at this
  simpa using this
 ·intro h
  refine Nat.eq_of_testBit_eq fun f => ?_
  rw [Nat.testBit_and, hb, Nat.testBit_two_pow, Nat.zero_testBit]
  by_cases hfi : i = f
  ·subst hfi; rw [h]; simp
  ·rw [decide_eq_false hfi]; simp
theorem mask_in (H L : Nat → Bool) {n : Nat} (hn : n ≤ 6) : (bits .and .i64 (maskTo H n) (maskTo L n) = maskTo L n) ↔ ∀ j, j < n → L j = true → H j = true := by
 obtain ⟨m, hm, hm64, hb⟩ := bits_at H hn
 obtain ⟨q, hq, hq64, hc⟩ := bits_at L hn
 rw [hm, hq, and64 m hm64 q hq64]
 have e : (((m &&& q : Nat) : Int) = (q : Int)) ↔ (m &&& q) = q := by omega
 rw [e]
 constructor
 ·intro h j hj hl
  have := congrArg (fun x => Nat.testBit x j) h
  simp only [Nat.testBit_and, hb, hc, decide_eq_true hj, hl, Bool.true_and, Bool.and_true] at this
  exact this
 ·intro h
  refine Nat.eq_of_testBit_eq fun f => ?_
  rw [Nat.testBit_and, hb, hc]
  by_cases hf : f < n
  ·rw [decide_eq_true hf]
   cases hl : L f
   ·simp
   ·rw [h f hf hl]; rfl
  ·rw [decide_eq_false hf]; simp
def holdsAt (fs : List Fm) (D : Wd) (j : Nat) : Bool := match fs[j]? with | some f => D.formIs f.ats f.c | none => false
theorem holds_at {fs : List Fm} {D : Wd} {j : Nat} {f : Fm} (h : fs[j]? = some f) : holdsAt fs D j = D.formIs f.ats f.c := by unfold holdsAt; rw [h]
def heldL (fs : List Fm) (u : Nat) : List Int := (everyC u).map fun N => maskTo (holdsAt fs (madeN N 8)) fs.length
theorem heldL_length (fs : List Fm) (u : Nat) : (heldL fs u).length = (everyC u).length := by unfold heldL; rw [List.length_map]
theorem held_open {fs : List Fm} (h6 : fs.length ≤ 6) (u : Nat) (g : Nat → Bool) : ((heldL fs u).any fun h => decide (bits .and .i64 h (maskTo (fun k => !g k) fs.length) = maskTo (fun k => !g k) fs.length)) = openN (leftF fs g) u := by
 unfold heldL openN
 rw [List.any_map]
 congr 1
 funext N
 rw [Bool.eq_iff_iff]
 show decide _ = true ↔ _
 rw [decide_eq_true_iff, mask_in _ _ h6]
 unfold Wd.so
 rw [List.all_eq_true]
 constructor
 ·intro h f hf
  obtain ⟨j, h1, h2, h3⟩ := (leftTo_mem fs.length (Nat.le_refl _)).1 hf
  have := h j h1 (by rw [h2]; rfl)
  rw [holds_at h3] at this
  exact this
 ·intro h j hj hl
  have hf := List.getElem?_eq_getElem hj
  rw [holds_at hf]
  exact h _ ((leftTo_mem fs.length (Nat.le_refl _)).2 ⟨j, hj, by simpa using hl, hf⟩)
theorem left_all (fs : List Fm) (u : Nat) : openN (leftF fs fun _ => false) u = openN fs u := by
 rw [Bool.eq_iff_iff]
 constructor
 ·exact open_less fun f hf => by
   obtain ⟨j, hj⟩ := List.mem_iff_getElem?.1 hf
   exact (leftTo_mem fs.length (Nat.le_refl _)).2 ⟨j, (List.getElem?_eq_some_iff.1 hj).1, rfl, hj⟩
 ·exact open_less fun f hf => by
   obtain ⟨j, _, _, h3⟩ := (leftTo_mem fs.length (Nat.le_refl _)).1 hf
   exact List.mem_of_getElem? h3
def placesTo (L : Nat → Bool) : Nat → List Int
 | 0 => []
 | k + 1 => placesTo L k ++ (if L k = true then [(k : Int)] else [])
theorem placesTo_length (L : Nat → Bool) : ∀ k, (placesTo L k).length ≤ k := by
 intro k
 induction k with
 | zero => exact Nat.le_refl _
 | succ k ih =>
  unfold placesTo
  split
  ·simp; omega
  ·simp; omega
theorem places_core {fs : List Fm} {u n : Nat} : ∀ i, i ≤ n → placesTo (fun k => !goneTo fs u n k) i = coreTo fs u i := by
 intro i
 induction i with
 | zero => intro _; rfl
 | succ i ih =>
  intro hi
  have hk := goneTo_keep fs u (n - (i + 1)) (i + 1) i (by omega)
  rw [show i + 1 + (n - (i + 1)) = n by omega] at hk
  unfold placesTo
  rw [ih (by omega), coreTo_succ, hk, goneTo_succ]
  cases openN (leftF fs (putG (goneTo fs u i) i true)) u
  ·simp [putG_same]
  ·simp [putG_same]
theorem left_step {fs : List Fm} {u n i : Nat} : (openN (leftF fs (putG (goneTo fs u i) i true)) u = true → maskTo (fun k => !goneTo fs u (i + 1) k) n = maskTo (fun k => !goneTo fs u i k) n) ∧ (openN (leftF fs (putG (goneTo fs u i) i true)) u = false → maskTo (fun k => !goneTo fs u (i + 1) k) n = maskTo (fun k => !putG (goneTo fs u i) i true k) n) := by
 refine ⟨fun h => mask_congr n fun k _ => ?_, fun h => mask_congr n fun k _ => ?_⟩
 ·rw [goneTo_succ, if_pos h]
  by_cases hk : k = i
  ·rw [hk, putG_same, goneTo_far fs u i i (Nat.le_refl _)]
  ·rw [putG_other _ _ hk]
 ·rw [goneTo_succ, if_neg (by rw [h]; decide)]
end Go.Proofs.YtnoohlibgaeklaaGreatDoor
namespace Go.Proofs.YtnoohlibgaeklaaGreatDoor
open Go.ChangeShapes Go.WideShapes Go.ChangeAt Go.RowKit
set_option maxRecDepth 100000
theorem infoBool : (Tryz.prog.info? 4).map (fun i => (i.zero, i.size, i.bytes)) = some (some (.bool false), 1, 1) := by kernel_rfl
def ReadsB (w : World) (b off : Nat) (hs : List Bool) : Prop := b < w.heap.size ∧ ∀ k, k < hs.length → w.cell? ⟨b, off + k, none⟩ = some (.bool (hs.getD k false))
end Go.Proofs.YtnoohlibgaeklaaGreatDoor
namespace Go.Proofs.YtnoohlibgaeklaaGreatDoor
open Go.ChangeShapes Go.WideShapes Go.ChangeAt Go.RowKit
set_option maxRecDepth 100000
theorem fmade_op (s : Int) (x y : Bool) (hs : s = 10 ∨ s = 11 ∨ s = 13) (B off cap : Nat) (vh : Value) (w : World) (c0 : w.cell? ⟨B, off, none⟩ = some (.bool x)) (c1 : w.cell? ⟨B, off + 1, none⟩ = some (.bool y)) (held : List Bool) :
    Calls Tryz.prog 180 #[.int .i64 s, .slice (some ⟨B, off, none⟩) 2 cap, vh] w (Sk w (.bool (madeF held s [x, y]))) := by
 rcases hs with rfl | rfl | rfl
 ·cases x
  all_goals
   go_enter Tryz.func180, Tryz.ntmps180
   go_wp2
   go_ret
   exact ⟨rfl, rfl⟩
 ·cases x
  all_goals
   go_enter Tryz.func180, Tryz.ntmps180
   go_wp2
   go_ret
   exact ⟨rfl, rfl⟩
 ·cases x
  all_goals
   go_enter Tryz.func180, Tryz.ntmps180
   go_wp2
   go_ret
   exact ⟨rfl, rfl⟩
theorem fmade_no (x : Bool) (B off cap : Nat) (vh : Value) (w : World) (c0 : w.cell? ⟨B, off, none⟩ = some (.bool x)) (held : List Bool) :
    Calls Tryz.prog 180 #[.int .i64 12, .slice (some ⟨B, off, none⟩) 1 cap, vh] w (Sk w (.bool (madeF held 12 [x]))) := by
 go_enter Tryz.func180, Tryz.ntmps180
 go_wp2
 go_ret
 exact ⟨rfl, rfl⟩
theorem fmade_leaf (s : Int) (held : List Bool) (h0 : 0 ≤ s) (h1 : s < held.length) (h6 : held.length ≤ 6) (hb ho hcap : Nat) (v : Value) (w : World) (hR : ReadsB w hb ho held) :
    Calls Tryz.prog 180 #[.int .i64 s, v, .slice (some ⟨hb, ho, none⟩) held.length hcap] w (Sk w (.bool (madeF held s []))) := by
 obtain ⟨k, rfl⟩ := Int.eq_ofNat_of_zero_le h0
 have e : madeF held (k : Int) [] = held.getD k false := by rw [madeF_leaf held (takesF_low (by omega)) []]; simp
 rw [e]
 have hc := hR.2 k (by omega)
 obtain ⟨x, hx⟩ := nm (held.getD k false)
 rw [← hx] at hc ⊢
 obtain ⟨m, hm⟩ := nm held.length
 rw [← hm] at h1 h6 ⊢
 clear hx hm hR e
 have g0 : ((k : Int) == 10) = false := by simp; omega
 have g1 : ((k : Int) == 11) = false := by simp; omega
 have g2 : ((k : Int) == 13) = false := by simp; omega
 have g3 : ((k : Int) == 12) = false := by simp; omega
 have h0' : (0 : Int) ≤ (k : Int) := by omega
 go_enter Tryz.func180, Tryz.ntmps180
 go_wp2
 go_ret
 exact ⟨rfl, rfl⟩
end Go.Proofs.YtnoohlibgaeklaaGreatDoor