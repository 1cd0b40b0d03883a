/-
  Facts and contracts that the statement leans on.
-/
import Derived.Test.YtnoohlibgaeklaaGreatDoorLibQ4
import Derived.Test.YtnoohlibgaeklaaGreatDoorLibQ3
import Derived.Test.YtnoohlibgaeklaaGreatDoorLibQ10
import Derived.Test.YtnoohlibgaeklaaGreatDoorLibQ11
import Derived.Test.YtnoohlibgaeklaaGreatDoorLibQ9
import Derived.Test.YtnoohlibgaeklaaGreatDoorLibQ1
import Derived.Deep.RegionHeld3
import Derived.Deep.AppendLies
namespace Go.Proofs.YtnoohlibgaeklaaGreatDoor
open Go.ChangeShapes Go.WideShapes Go.ChangeAt Go.RowKit
set_option maxRecDepth 100000
set_option maxHeartbeats 16000000
theorem str_eq {x : ByteArray} {l : List UInt8} (h : x.data.toList = l) : x = strOf l := by rw [← h, strOf_data]
theorem back_str {a b : ByteArray} {v : Value} (h : a = b) : Ending.returned (.tuple #[.string a, v]) = .returned (.tuple #[.string b, v]) := by rw [h]
def BoxA (w : World) (B : Nat) (k n : Int) (vs vt : Value) : Prop := w.cell? ⟨B, 0, none⟩ = some (.int .i64 k) ∧ w.cell? ⟨B, 1, none⟩ = some vs ∧ w.cell? ⟨B, 2, none⟩ = some vt ∧ w.cell? ⟨B, 3, none⟩ = some (.int .i64 n)
theorem BoxA.below {w w' : World} {B K : Nat} {k n : Int} {vs vt : Value} (h : BoxA w B k n vs vt) (hb : Below K w w') (hK : B < K) : BoxA w' B k n vs vt :=
 ⟨(hb.cell hK).trans h.1, (hb.cell hK).trans h.2.1, (hb.cell hK).trans h.2.2.1, (hb.cell hK).trans h.2.2.2⟩
theorem boxA_alloc (w : World) (k n : Int) (vs vt : Value) : BoxA (w.alloc (.cells #[.int .i64 k, vs, vt, .int .i64 n] 71)) w.heap.size k n vs vt := ⟨by simp, by simp, by simp, by simp⟩
theorem aprint_bad (k F : Int) (n : Int) (sao tao : Option Addr) (sl scap tl tcap : Nat) (w : World)
    (hC : ∀ W, Bw w W → Calls Tryz.prog 92 #[.agg #[.int .i64 k, .slice sao sl scap, .slice tao tl tcap, .int .i64 n]] W (Bk W (.iface 91 (.int .i64 F)))) :
    Calls Tryz.prog 139 #[.agg #[.int .i64 k, .slice sao sl scap, .slice tao tl tcap, .int .i64 n]] w (Bk w (.tuple #[.string ⟨#[]⟩, (.iface 91 (.int .i64 F))])) := by
 obtain ⟨w1, hw1⟩ := nm (w.alloc (.cells #[.int .i64 k, .slice sao sl scap, .slice tao tl tcap, .int .i64 n] 71))
 have HB1 : Hid (Bw w w1) := by unfold Hid; rw [hw1]; exact below_alloc1 w _
 have HX : Hid (BoxA w1 w.heap.size k n (.slice sao sl scap) (.slice tao tl tcap)) := by unfold Hid; rw [hw1]; exact boxA_alloc w _ _ _ _
 have HK1 : Hid (w.heap.size < w1.heap.size) := by unfold Hid; rw [hw1]; simp
 have HC := hide (hC w1 HB1.out)
 clear hC
 obtain ⟨x0, x1, x2, x3⟩ := HX.out
 go_enter Tryz.func139, Tryz.ntmps139
 go_wp2_with fail
 rw [← hw1]
 clear hw1
 go_wp2_with (go_at_call 92; refine HC.out.mono ?_; rintro e w2 ⟨rfl, hb⟩; have HB2 : Hid (Bw w w2) := HB1.out.trans (hb.mono HB1.out.size); clear hb)
 go_ret2
 exact ⟨rfl, HB2.out⟩
theorem aprint_two (k : Nat) (h0 : 0 < k) (h6 : k < 6) (Q : ByteArray) (hQ : Q.size ≤ 6) (ls lt : List UInt8) (zs : ls.length ≤ 20) (zt : lt.length ≤ 20) (n : Int) (sao tao : Option Addr) (sl scap tl tcap : Nat) (w : World)
    (HKc : Hid (∀ W, Bw w W → W.cell? ⟨1, k * 3, none⟩ = some (.string Q) ∧ W.cell? ⟨1, k * 3 + 1, none⟩ = some (.bool true) ∧ W.cell? ⟨1, k * 3 + 2, none⟩ = some (.bool false)))
    (hC : ∀ W, Bw w W → Calls Tryz.prog 92 #[.agg #[.int .i64 (k : Int), .slice sao sl scap, .slice tao tl tcap, .int .i64 n]] W (Bk W .nilIface))
    (hS : ∀ W, Bw w W → Calls Tryz.prog 171 #[.slice sao sl scap] W (Bk W (.tuple #[.string (strOf ls), .nilIface])))
    (hT : ∀ W, Bw w W → Calls Tryz.prog 171 #[.slice tao tl tcap] W (Bk W (.tuple #[.string (strOf lt), .nilIface])))
    : Calls Tryz.prog 139 #[.agg #[.int .i64 (k : Int), .slice sao sl scap, .slice tao tl tcap, .int .i64 n]] w (Bk w (.tuple #[.string (strOf (Q.data.toList ++ (32 :: ls) ++ (32 :: lt))), .nilIface])) := by
 obtain ⟨w1, hw1⟩ := nm (w.alloc (.cells #[.int .i64 (k : Int), .slice sao sl scap, .slice tao tl tcap, .int .i64 n] 71))
 have HB1 : Hid (Bw w w1) := by unfold Hid; rw [hw1]; exact below_alloc1 w _
 have HX : Hid (BoxA w1 w.heap.size (k : Int) n (.slice sao sl scap) (.slice tao tl tcap)) := by unfold Hid; rw [hw1]; exact boxA_alloc w _ _ _ _
 have HK1 : Hid (w.heap.size < w1.heap.size) := by unfold Hid; rw [hw1]; simp
 have HT0 : Hid (∀ W, Bw w1 W → Bw w W) := fun W h => HB1.out.trans (h.mono HB1.out.size)
 have HC := hide (hC w1 HB1.out)
 obtain ⟨ps, hps⟩ := nm (strOf ls)
 obtain ⟨pt, hpt⟩ := nm (strOf lt)
 have fs : ps.size ≤ 20 := by rw [hps, strOf_size]; exact zs
 have ft : pt.size ≤ 20 := by rw [hpt, strOf_size]; exact zt
 rw [← hps] at hS
 rw [← hpt] at hT
 have HS : Hid (∀ W, Bw w1 W → Calls Tryz.prog 171 #[.slice sao sl scap] W (Bk W (.tuple #[.string ps, .nilIface]))) := fun W h => hS W (HT0.out W h)
 have HT : Hid (∀ W, Bw w1 W → Calls Tryz.prog 171 #[.slice tao tl tcap] W (Bk W (.tuple #[.string pt, .nilIface]))) := fun W h => hT W (HT0.out W h)
 obtain ⟨R, hR⟩ := nm (strOf (Q.data.toList ++ (32 :: ls) ++ (32 :: lt)))
 rw [← hR]
 have HR : Hid (R.data.toList = Q.data.toList ++ (32 :: ps.data.toList) ++ (32 :: pt.data.toList)) := by
  unfold Hid; rw [hR, hps, hpt]; simp only [strOf_list]
 clear hR hps hpt zs zt hC hS hT
 obtain ⟨x0, x1, x2, x3⟩ := HX.out
 go_enter Tryz.func139, Tryz.ntmps139
 go_wp2_with fail
 rw [← hw1]
 clear hw1
 go_wp2_with fail
 go_at_call 92
 refine HC.out.mono ?_
 rintro e w2 ⟨rfl, hb⟩
 have HZ2 := hide hb
 clear hb x0 x1 x2 x3
 obtain ⟨q0, q1, q2⟩ := HKc.out _ (HT0.out _ HZ2.out)
 obtain ⟨x0, x1, x2, x3⟩ := HX.out.below HZ2.out HK1.out
 go_wp2_with fail
 go_at_call 171
 refine (HS.out _ HZ2.out).mono ?_
 rintro e w3 ⟨rfl, hb⟩
 have HZ3 := bt HZ2 hb
 clear hb x0 x1 x2 x3 q0 q1 q2
 obtain ⟨q0, q1, q2⟩ := HKc.out _ (HT0.out _ HZ3.out)
 obtain ⟨x0, x1, x2, x3⟩ := HX.out.below HZ3.out HK1.out
 go_wp2_with fail
 go_at_call 171
 refine (HT.out _ HZ3.out).mono ?_
 rintro e w4 ⟨rfl, hb⟩
 have HZ4 := bt HZ3 hb
 clear hb x0 x1 x2 x3 q0 q1 q2
 obtain ⟨q0, q1, q2⟩ := HKc.out _ (HT0.out _ HZ4.out)
 obtain ⟨x0, x1, x2, x3⟩ := HX.out.below HZ4.out HK1.out
 go_wp2_with fail
 go_ret2
 refine ⟨back_str ?_, HT0.out _ HZ4.out⟩
 refine (str_eq (l := R.data.toList) ?_).trans (strOf_data R)
 rw [HR.out]
 simp
theorem aprint_num (k : Nat) (h0 : 0 < k) (h6 : k < 6) (Q : ByteArray) (hQ : Q.size ≤ 6) (ls ln : List UInt8) (zs : ls.length ≤ 20) (zn : ln.length ≤ 20) (n : Int) (sao tao : Option Addr) (sl scap tl tcap : Nat) (w : World)
    (HKc : Hid (∀ W, Bw w W → W.cell? ⟨1, k * 3, none⟩ = some (.string Q) ∧ W.cell? ⟨1, k * 3 + 1, none⟩ = some (.bool false) ∧ W.cell? ⟨1, k * 3 + 2, none⟩ = some (.bool true)))
    (hC : ∀ W, Bw w W → Calls Tryz.prog 92 #[.agg #[.int .i64 (k : Int), .slice sao sl scap, .slice tao tl tcap, .int .i64 n]] W (Bk W .nilIface))
    (hS : ∀ W, Bw w W → Calls Tryz.prog 171 #[.slice sao sl scap] W (Bk W (.tuple #[.string (strOf ls), .nilIface])))
    (hN : ∀ W, Bw w W → Calls Tryz.prog 36 #[.int .i64 n] W (Bk W (.string (strOf ln))))
    : Calls Tryz.prog 139 #[.agg #[.int .i64 (k : Int), .slice sao sl scap, .slice tao tl tcap, .int .i64 n]] w (Bk w (.tuple #[.string (strOf (Q.data.toList ++ (32 :: ls) ++ (32 :: ln))), .nilIface])) := by
 obtain ⟨w1, hw1⟩ := nm (w.alloc (.cells #[.int .i64 (k : Int), .slice sao sl scap, .slice tao tl tcap, .int .i64 n] 71))
 have HB1 : Hid (Bw w w1) := by unfold Hid; rw [hw1]; exact below_alloc1 w _
 have HX : Hid (BoxA w1 w.heap.size (k : Int) n (.slice sao sl scap) (.slice tao tl tcap)) := by unfold Hid; rw [hw1]; exact boxA_alloc w _ _ _ _
 have HK1 : Hid (w.heap.size < w1.heap.size) := by unfold Hid; rw [hw1]; simp
 have HT0 : Hid (∀ W, Bw w1 W → Bw w W) := fun W h => HB1.out.trans (h.mono HB1.out.size)
 have HC := hide (hC w1 HB1.out)
 obtain ⟨ps, hps⟩ := nm (strOf ls)
 obtain ⟨pn, hpn⟩ := nm (strOf ln)
 have fs : ps.size ≤ 20 := by rw [hps, strOf_size]; exact zs
 have fn : pn.size ≤ 20 := by rw [hpn, strOf_size]; exact zn
 rw [← hps] at hS
 rw [← hpn] at hN
 have HS : Hid (∀ W, Bw w1 W → Calls Tryz.prog 171 #[.slice sao sl scap] W (Bk W (.tuple #[.string ps, .nilIface]))) := fun W h => hS W (HT0.out W h)
 have HN : Hid (∀ W, Bw w1 W → Calls Tryz.prog 36 #[.int .i64 n] W (Bk W (.string pn))) := fun W h => hN W (HT0.out W h)
 obtain ⟨R, hR⟩ := nm (strOf (Q.data.toList ++ (32 :: ls) ++ (32 :: ln)))
 rw [← hR]
 have HR : Hid (R.data.toList = Q.data.toList ++ (32 :: ps.data.toList) ++ (32 :: pn.data.toList)) := by
  unfold Hid; rw [hR, hps, hpn]; simp only [strOf_list]
 clear hR hps hpn zs zn hC hS hN
 obtain ⟨x0, x1, x2, x3⟩ := HX.out
 go_enter Tryz.func139, Tryz.ntmps139
 go_wp2_with fail
 rw [← hw1]
 clear hw1
 go_wp2_with fail
 go_at_call 92
 refine HC.out.mono ?_
 rintro e w2 ⟨rfl, hb⟩
 have HZ2 := hide hb
 clear hb x0 x1 x2 x3
 obtain ⟨q0, q1, q2⟩ := HKc.out _ (HT0.out _ HZ2.out)
 obtain ⟨x0, x1, x2, x3⟩ := HX.out.below HZ2.out HK1.out
 go_wp2_with fail
 go_at_call 171
 refine (HS.out _ HZ2.out).mono ?_
 rintro e w3 ⟨rfl, hb⟩
 have HZ3 := bt HZ2 hb
 clear hb x0 x1 x2 x3 q0 q1 q2
 obtain ⟨q0, q1, q2⟩ := HKc.out _ (HT0.out _ HZ3.out)
 obtain ⟨x0, x1, x2, x3⟩ := HX.out.below HZ3.out HK1.out
 go_wp2_with fail
 go_at_call 36
 refine (HN.out _ HZ3.out).mono ?_
 rintro e w5 ⟨rfl, hb⟩
 have HZ5 := bt HZ3 hb
 clear hb x0 x1 x2 x3 q0 q1 q2
 go_wp2_with fail
 go_ret2
 refine ⟨back_str ?_, HT0.out _ HZ5.out⟩
 refine (str_eq (l := R.data.toList) ?_).trans (strOf_data R)
 rw [HR.out]
 simp
theorem aprint_all (k : Nat) (h0 : 0 < k) (h6 : k < 6) (Q : ByteArray) (hQ : Q.size ≤ 6) (ls lt ln : List UInt8) (zs : ls.length ≤ 20) (zt : lt.length ≤ 20) (zn : ln.length ≤ 20) (n : Int) (sao tao : Option Addr) (sl scap tl tcap : Nat) (w : World)
    (HKc : Hid (∀ W, Bw w W → W.cell? ⟨1, k * 3, none⟩ = some (.string Q) ∧ W.cell? ⟨1, k * 3 + 1, none⟩ = some (.bool true) ∧ W.cell? ⟨1, k * 3 + 2, none⟩ = some (.bool true)))
    (hC : ∀ W, Bw w W → Calls Tryz.prog 92 #[.agg #[.int .i64 (k : Int), .slice sao sl scap, .slice tao tl tcap, .int .i64 n]] W (Bk W .nilIface))
    (hS : ∀ W, Bw w W → Calls Tryz.prog 171 #[.slice sao sl scap] W (Bk W (.tuple #[.string (strOf ls), .nilIface])))
    (hT : ∀ W, Bw w W → Calls Tryz.prog 171 #[.slice tao tl tcap] W (Bk W (.tuple #[.string (strOf lt), .nilIface])))
    (hN : ∀ W, Bw w W → Calls Tryz.prog 36 #[.int .i64 n] W (Bk W (.string (strOf ln))))
    : Calls Tryz.prog 139 #[.agg #[.int .i64 (k : Int), .slice sao sl scap, .slice tao tl tcap, .int .i64 n]] w (Bk w (.tuple #[.string (strOf (Q.data.toList ++ (32 :: ls) ++ (32 :: lt) ++ (32 :: ln))), .nilIface])) := by
 obtain ⟨w1, hw1⟩ := nm (w.alloc (.cells #[.int .i64 (k : Int), .slice sao sl scap, .slice tao tl tcap, .int .i64 n] 71))
 have HB1 : Hid (Bw w w1) := by unfold Hid; rw [hw1]; exact below_alloc1 w _
 have HX : Hid (BoxA w1 w.heap.size (k : Int) n (.slice sao sl scap) (.slice tao tl tcap)) := by unfold Hid; rw [hw1]; exact boxA_alloc w _ _ _ _
 have HK1 : Hid (w.heap.size < w1.heap.size) := by unfold Hid; rw [hw1]; simp
 have HT0 : Hid (∀ W, Bw w1 W → Bw w W) := fun W h => HB1.out.trans (h.mono HB1.out.size)
 have HC := hide (hC w1 HB1.out)
 obtain ⟨ps, hps⟩ := nm (strOf ls)
 obtain ⟨pt, hpt⟩ := nm (strOf lt)
 obtain ⟨pn, hpn⟩ := nm (strOf ln)
 have fs : ps.size ≤ 20 := by rw [hps, strOf_size]; exact zs
 have ft : pt.size ≤ 20 := by rw [hpt, strOf_size]; exact zt
 have fn : pn.size ≤ 20 := by rw [hpn, strOf_size]; exact zn
 rw [← hps] at hS
 rw [← hpt] at hT
 rw [← hpn] at hN
 have HS : Hid (∀ W, Bw w1 W → Calls Tryz.prog 171 #[.slice sao sl scap] W (Bk W (.tuple #[.string ps, .nilIface]))) := fun W h => hS W (HT0.out W h)
 have HT : Hid (∀ W, Bw w1 W → Calls Tryz.prog 171 #[.slice tao tl tcap] W (Bk W (.tuple #[.string pt, .nilIface]))) := fun W h => hT W (HT0.out W h)
 have HN : Hid (∀ W, Bw w1 W → Calls Tryz.prog 36 #[.int .i64 n] W (Bk W (.string pn))) := fun W h => hN W (HT0.out W h)
 obtain ⟨R, hR⟩ := nm (strOf (Q.data.toList ++ (32 :: ls) ++ (32 :: lt) ++ (32 :: ln)))
 rw [← hR]
 have HR : Hid (R.data.toList = Q.data.toList ++ (32 :: ps.data.toList) ++ (32 :: pt.data.toList) ++ (32 :: pn.data.toList)) := by
  unfold Hid; rw [hR, hps, hpt, hpn]; simp only [strOf_list]
 clear hR hps hpt hpn zs zt zn hC hS hT hN
 obtain ⟨x0, x1, x2, x3⟩ := HX.out
 go_enter Tryz.func139, Tryz.ntmps139
 go_wp2_with fail
 rw [← hw1]
 clear hw1
 go_wp2_with fail
 go_at_call 92
 refine HC.out.mono ?_
 rintro e w2 ⟨rfl, hb⟩
 have HZ2 := hide hb
 clear hb x0 x1 x2 x3
 obtain ⟨q0, q1, q2⟩ := HKc.out _ (HT0.out _ HZ2.out)
 obtain ⟨x0, x1, x2, x3⟩ := HX.out.below HZ2.out HK1.out
 go_wp2_with fail
 go_at_call 171
 refine (HS.out _ HZ2.out).mono ?_
 rintro e w3 ⟨rfl, hb⟩
 have HZ3 := bt HZ2 hb
 clear hb x0 x1 x2 x3 q0 q1 q2
 obtain ⟨q0, q1, q2⟩ := HKc.out _ (HT0.out _ HZ3.out)
 obtain ⟨x0, x1, x2, x3⟩ := HX.out.below HZ3.out HK1.out
 go_wp2_with fail
 go_at_call 171
 refine (HT.out _ HZ3.out).mono ?_
 rintro e w4 ⟨rfl, hb⟩
 have HZ4 := bt HZ3 hb
 clear hb x0 x1 x2 x3 q0 q1 q2
 obtain ⟨q0, q1, q2⟩ := HKc.out _ (HT0.out _ HZ4.out)
 obtain ⟨x0, x1, x2, x3⟩ := HX.out.below HZ4.out HK1.out
 go_wp2_with fail
 go_at_call 36
 refine (HN.out _ HZ4.out).mono ?_
 rintro e w5 ⟨rfl, hb⟩
 have HZ5 := bt HZ4 hb
 clear hb x0 x1 x2 x3 q0 q1 q2
 go_wp2_with fail
 go_ret2
 refine ⟨back_str ?_, HT0.out _ HZ5.out⟩
 refine (str_eq (l := R.data.toList) ?_).trans (strOf_data R)
 rw [HR.out]
 simp
theorem digits_length (u : Nat) : (digitsN u).length ≤ 2 := by unfold digitsN; split <;> simp
theorem numText_length (n : Int) : (numText n).length ≤ 3 := by
 unfold numText
 split
 ·have := digits_length n.natAbs; simp; omega
 ·have := digits_length n.toNat; omega
def aprintS (k : Int) (s t : List Int) (n : Int) : ByteArray := if atomFault k s t n = 0 then strOf (atomText k s t n) else ⟨#[]⟩
theorem aprint_any (k n : Int) (vs vt : Value) (s t : List Int) (w : World) (hS : Reads w vs s) (hT : Reads w vt t) (hK : KindsLaid w) (hL : LibLaid w) :
    Calls Tryz.prog 139 #[.agg #[.int .i64 k, vs, vt, .int .i64 n]] w (Bk w (.tuple #[.string (aprintS k s t n), errV (atomFault k s t n)])) := by
 have hC : ∀ W, Bw w W → _ := fun W hW => acheck_any k n vs vt s t W (hS.below hW) (hT.below hW) (hK.below hW)
 have hPS : ∀ W, Bw w W → _ := fun W hW => print_any s vs W (hS.below hW)
 have hPT : ∀ W, Bw w W → _ := fun W hW => print_any t vt W (hT.below hW)
 obtain ⟨sao, scap, rfl, _⟩ := hS.slice
 obtain ⟨tao, tcap, rfl, _⟩ := hT.slice
 by_cases hf : atomFault k s t n = 0
 ·obtain ⟨hk, hs, ht, n0, n1⟩ := atomFault_zero.1 hf
  have e0 : aprintS k s t n = strOf (atomText k s t n) := by unfold aprintS; rw [if_pos hf]
  have hm : mostN k ≤ 20 := by unfold mostN; split <;> omega
  rw [e0, hf, errV_0]
  rw [hf, errV_0] at hC
  have es : printS s = strOf (textN s) := by unfold printS; rw [if_pos hs]
  rw [es, hs, errV_0] at hPS
  have zs : (textN s).length ≤ 20 := by have := (fault_zero.1 hs).2.1; simp [textN]; omega
  have hsec : secondB k = true → (∀ W, Bw w W → Calls Tryz.prog 171 #[.slice tao t.length tcap] W (Bk W (.tuple #[.string (strOf (textN t)), .nilIface]))) ∧ (textN t).length ≤ 20 := by
   intro h
   have h0 := second_reads ht h
   have et : printS t = strOf (textN t) := by unfold printS; rw [if_pos h0]
   rw [et, h0, errV_0] at hPT
   exact ⟨hPT, by have := (fault_zero.1 h0).2.1; simp [textN]; omega⟩
  have zn : (numText n).length ≤ 20 := by have := numText_length n; omega
  have hN : ∀ W, Bw w W → Calls Tryz.prog 36 #[.int .i64 n] W (Bk W (.string (strOf (numText n)))) := fun W h => itoa_any n (by omega) (by omega) W (hL.below h)
  have hL := fun W (h : Bw w W) => hK.below h
  rcases five hk.1 hk.2 with rfl | rfl | rfl | rfl | rfl
  ·obtain ⟨g1, g2⟩ := hsec (by decide)
   have := aprint_two 1 (by decide) (by decide) ⟨#[115, 117, 98]⟩ (by decide) (textN s) (textN t) zs g2 n sao tao _ scap _ tcap w (fun W h => ⟨hL W h _ (by decide), hL W h _ (by decide), hL W h _ (by decide)⟩) hC hPS g1
   simpa [atomText, kindWord, secondB, numberB] using this
  ·obtain ⟨g1, g2⟩ := hsec (by decide)
   have := aprint_two 2 (by decide) (by decide) ⟨#[115, 97, 109, 101]⟩ (by decide) (textN s) (textN t) zs g2 n sao tao _ scap _ tcap w (fun W h => ⟨hL W h _ (by decide), hL W h _ (by decide), hL W h _ (by decide)⟩) hC hPS g1
   simpa [atomText, kindWord, secondB, numberB] using this
  ·have := aprint_num 3 (by decide) (by decide) ⟨#[108, 101, 97, 115, 116]⟩ (by decide) (textN s) (numText n) zs zn n sao tao _ scap _ tcap w (fun W h => ⟨hL W h _ (by decide), hL W h _ (by decide), hL W h _ (by decide)⟩) hC hPS hN
   simpa [atomText, kindWord, secondB, numberB] using this
  ·have := aprint_num 4 (by decide) (by decide) ⟨#[109, 111, 115, 116]⟩ (by decide) (textN s) (numText n) zs zn n sao tao _ scap _ tcap w (fun W h => ⟨hL W h _ (by decide), hL W h _ (by decide), hL W h _ (by decide)⟩) hC hPS hN
   simpa [atomText, kindWord, secondB, numberB] using this
  ·obtain ⟨g1, g2⟩ := hsec (by decide)
   have := aprint_all 5 (by decide) (by decide) ⟨#[110, 111, 109, 111, 114, 101]⟩ (by decide) (textN s) (textN t) (numText n) zs g2 zn n sao tao _ scap _ tcap w (fun W h => ⟨hL W h _ (by decide), hL W h _ (by decide), hL W h _ (by decide)⟩) hC hPS g1 hN
   simpa [atomText, kindWord, secondB, numberB] using this
 ·have e0 : aprintS k s t n = ⟨#[]⟩ := by unfold aprintS; rw [if_neg hf]
  rw [e0, errV_no hf]
  rw [errV_no hf] at hC
  exact aprint_bad k _ n sao tao _ scap _ tcap w hC
theorem coreCheck_any (v : Value) (fs : List Fm) (u : Int) (w : World) (hF : ReadsF w v fs) (hK : KindsLaid w) :
    Calls Tryz.prog 141 #[v, .int .i64 u] w (Bk w (errV (formsFault fs u))) := by
 obtain ⟨lo, lcap, rfl, hl63⟩ := hF.slice
 have HF := hide hF
 have HFm : Hid (∀ f va vc W, Bw w W → ReadsA W va f.ats → Reads W vc f.c → Calls Tryz.prog 78 #[.agg #[va, vc]] W (Bk W (errV (Fm.fault f)))) := fun f va vc W hW hA hC => fcheck_any va vc f.ats f.c W hA hC (hK.below hW)
 obtain ⟨R, hR⟩ := nm (formsFault fs u)
 have H0 : Hid (fs.length = 0 → R = 5) := fun h => by rw [hR]; unfold formsFault; rw [if_pos h]
 have H6 : Hid (¬ fs.length = 0 → 6 < fs.length → R = 4) := fun h1 h2 => by rw [hR]; unfold formsFault; rw [if_neg h1, if_pos h2]
 have HBad : Hid (¬ fs.length = 0 → ¬ 6 < fs.length → ∀ (k : Nat) f, fs[k]? = some f → (∀ j, j < k → ∀ g, fs[j]? = some g → Fm.fault g = 0) → ¬ Fm.fault f = 0 → R = Fm.fault f) := fun h1 h2 k f hk hj hf => by
  have e := firstForm_at hk hj hf
  rw [hR]; unfold formsFault; rw [if_neg h1, if_neg h2, if_neg (by rw [e]; exact hf), e]
 have HEnd : Hid (¬ fs.length = 0 → ¬ 6 < fs.length → (∀ j, j < fs.length → ∀ g, fs[j]? = some g → Fm.fault g = 0) → R = if 0 ≤ u ∧ u ≤ 6 then 0 else 1) := fun h1 h2 hj => by
  have e : firstForm fs = 0 := firstForm_zero.2 fun f hf => by
   obtain ⟨i, hi⟩ := List.mem_iff_getElem?.1 hf
   exact hj i (List.getElem?_eq_some_iff.1 hi).1 f hi
  rw [hR]; unfold formsFault; rw [if_neg h1, if_neg h2, if_pos e]
 rw [← hR]
 obtain ⟨n, hn⟩ := nm fs.length
 rw [← hn] at HF hl63 H0 H6 HBad HEnd ⊢
 have HN := hide hn
 clear hF hR hn hK
 by_cases hz : n = 0
 ·have HR := hide (H0.out hz)
  subst hz
  go_enter Tryz.func141, Tryz.ntmps141
  go_wp2
  go_ret
  exact ⟨by first | (rw [HR.out]; done) | (rw [HR.out]; rfl), Below.refl _ _⟩
 ·by_cases h6 : 6 < n
  ·have HR := hide (H6.out hz h6)
   have dz : ((n : Int) == 0) = false := by simp; omega
   have h6' : (6 : Int) < (n : Int) := by omega
   go_enter Tryz.func141, Tryz.ntmps141
   go_wp2
   go_ret
   exact ⟨by first | (rw [HR.out]; done) | (rw [HR.out]; rfl), Below.refl _ _⟩
  ·have dz : ((n : Int) == 0) = false := by simp; omega
   have h6' : (n : Int) ≤ 6 := by omega
   have HBad' := hide (HBad.out hz h6)
   have HEnd' := hide (HEnd.out hz h6)
   have Hz := hide hz
   clear hz h6 H0 H6 HBad HEnd
   go_enter Tryz.func141, Tryz.ntmps141
   go_wp2
   go_loopw [18] (fun i wr => ∃ k : Nat, k ≤ n ∧ i = .int .i64 k ∧ Bw w wr ∧ ∀ j, j < k → ∀ g, fs[j]? = some g → Fm.fault g = 0) (fun i _ => n - (intOf i).toNat)
   case atStart => exact ⟨0, Nat.zero_le _, rfl, Below.refl _ _, fun j hj => by omega⟩
   case round =>
    obtain ⟨k, hk, rfl, hbr, hso⟩ := hrel
    have HBr := hide hbr
    have HSo := hide hso
    clear hbr hso
    by_cases hlt : k < n
    ·obtain ⟨f, hf⟩ : ∃ f, fs[k]? = some f := ⟨_, List.getElem?_eq_getElem (by rw [← HN.out]; exact hlt)⟩
     have HFk := hide hf
     obtain ⟨bL, oL, cL, hv⟩ := HF.out.place (by rw [← HN.out]; omega)
     obtain ⟨hlo, hx1, hx2⟩ := Value.slice.inj hv
     clear hx1 hx2
     subst hlo
     obtain ⟨hbL, va, vc, c0, c1, hA, hC⟩ := HF.out.at hf
     have HFc : Hid (∀ W, Bw wr W → Calls Tryz.prog 78 #[.agg #[va, vc]] W (Bk w (errV (Fm.fault f)))) := fun W hW => by
      have hb' := HBr.out.trans (hW.mono HBr.out.size)
      exact (HFm.out f va vc W hb' (hA.below hb') (hC.below hb')).mono fun e w' ⟨h1, h2⟩ => ⟨h1, hb'.trans (h2.mono hb'.size)⟩
     have x0 : wr.cell? ⟨bL, oL + k * 2, none⟩ = some va := (HBr.out.cell hbL).trans c0
     have x1 : wr.cell? ⟨bL, oL + k * 2 + 1, none⟩ = some vc := (HBr.out.cell hbL).trans c1
     obtain ⟨ao, acap, rfl, _⟩ := hA.slice
     obtain ⟨co, ccap, rfl, _⟩ := hC.slice
     obtain ⟨al, hal⟩ := nm f.ats.length
     obtain ⟨cl, hcl⟩ := nm f.c.length
     rw [← hal] at x0 HFc
     rw [← hcl] at x1 HFc
     obtain ⟨q, hq⟩ := nm (Fm.fault f)
     have HQ := hide hq
     rw [← hq] at HFc
     clear hf hv hbL c0 c1 hA hC hq hal hcl
     have hkn : (k : Int) < (n : Int) := by omega
     by_cases h0 : q = 0
     ·have HFz : Hid (∀ W, Bw wr W → Calls Tryz.prog 78 #[.agg #[.slice ao al acap, .slice co cl ccap]] W (Bk w .nilIface)) := by
       have h := HFc.out
       rw [h0] at h
       exact h
      have HQ0 : Hid (Fm.fault f = 0) := by unfold Hid; rw [← HQ.out, h0]
      clear h0 HFc HQ
      go_wp2_with fail
      go_at_call 78
      refine (HFz.out _ (by first | exact below_alloc1 _ _ | exact ((((Below.refl _ _).alloc (Nat.le_refl _) _).setCell (by simp) _).setCell (by simp) _))).mono ?_
      rintro e w8 ⟨rfl, hb8⟩
      have HB8 := hide hb8
      clear hb8 x0 x1
      go_wp2
      go_roundw
      case rel =>
       refine ⟨k + 1, by omega, by go_num, HB8.out, fun j hj g hg => ?_⟩
       by_cases e : j = k
       ·subst e
        obtain rfl : f = g := Option.some.inj (HFk.out.symm.trans hg)
        exact HQ0.out
       ·exact HSo.out j (by omega) g hg
      case measure => simp [intOf]; omega
     ·have HFz : Hid (∀ W, Bw wr W → Calls Tryz.prog 78 #[.agg #[.slice ao al acap, .slice co cl ccap]] W (Bk w (.iface 91 (.int .i64 q)))) := by
       have h := HFc.out
       rw [show errV q = .iface 91 (.int .i64 q) by unfold errV; rw [if_neg h0]] at h
       exact h
      have HR : Hid (errV R = .iface 91 (.int .i64 q)) := by
       unfold Hid
       rw [HBad'.out k f HFk.out HSo.out (by rw [← HQ.out]; exact h0), ← HQ.out]
       unfold errV; rw [if_neg h0]
      clear h0 HFc HQ
      go_wp2_with fail
      go_at_call 78
      refine (HFz.out _ (by first | exact below_alloc1 _ _ | exact ((((Below.refl _ _).alloc (Nat.le_refl _) _).setCell (by simp) _).setCell (by simp) _))).mono ?_
      rintro e w8 ⟨rfl, hb8⟩
      have HB8 := hide hb8
      clear hb8 x0 x1
      go_wp2
      go_ret
      exact ⟨by first | (rw [HR.out]; done) | (rw [HR.out]; rfl), HB8.out⟩
    ·obtain rfl : k = n := by omega
     have hE := HEnd'.out HSo.out
     by_cases hu : 0 ≤ u ∧ u ≤ 6
     ·rw [if_pos hu] at hE
      have HR := hide hE
      have h : okB u 0 = true := ok_zero hu.1 hu.2
      have HC : Hid (∀ W, Calls Tryz.prog 32 #[.int .i64 u, .int .i64 0] W (Sk W .nilIface)) := fun W => check_ok _ _ h W
      clear hE hu h
      go_wp2_with fail
      go_at_call 32
      refine (HC.out _).mono ?_
      rintro e w' ⟨rfl, rfl⟩
      go_wp2
      go_ret
      exact ⟨by first | (rw [HR.out]; done) | (rw [HR.out]; rfl), HBr.out⟩
     ·rw [if_neg hu] at hE
      have HR := hide hE
      have h : okB u 0 = false := okB_not.2 fun h => hu ⟨h.1, h.2.1⟩
      have HC : Hid (∀ W, Calls Tryz.prog 32 #[.int .i64 u, .int .i64 0] W (Sk W (.iface 91 (.int .i64 1)))) := fun W => check_no _ _ h W
      clear hE hu h
      go_wp2_with fail
      go_at_call 32
      refine (HC.out _).mono ?_
      rintro e w' ⟨rfl, rfl⟩
      go_wp2
      go_ret
      exact ⟨by first | (rw [HR.out]; done) | (rw [HR.out]; rfl), HBr.out⟩
end Go.Proofs.YtnoohlibgaeklaaGreatDoor
namespace Go.Proofs.YtnoohlibgaeklaaGreatDoor
open Go.RowKit
set_option maxRecDepth 100000
set_option maxHeartbeats 16000000
theorem or64 : ∀ k : Nat, k < 6 → ∀ m : Nat, m < 2 ^ k → bits .or .i64 (m : Int) (pw k) = (m : Int) + pw k := by decide +kernel
theorem and64 : ∀ n : Nat, n < 64 → ∀ m : Nat, m < 64 → bits .and .i64 (n : Int) (m : Int) = ((n &&& m : Nat) : Int) := by decide +kernel
theorem pw_nat (k : Nat) : pw k = ((2 ^ k : Nat) : Int) := by unfold pw; simp
theorem two_le {n : Nat} (h : n ≤ 6) : 2 ^ n ≤ 64 := Nat.le_trans (Nat.pow_le_pow_right (by decide) h : 2 ^ n ≤ 2 ^ 6) (by decide)
theorem bits_at (L : Nat → Bool) {n : Nat} (hn : n ≤ 6) : ∃ m : Nat, maskTo L n = (m : Int) ∧ m < 64 ∧ ∀ f, m.testBit f = (decide (f < n) && L f) := by
 obtain ⟨m0, m1⟩ := maskTo_le L n
 obtain ⟨m, hm⟩ := Int.eq_ofNat_of_zero_le m0
 have hlt : m < 2 ^ n := by rw [hm, pw_nat] at m1; omega
 have h64 := two_le hn
 refine ⟨m, hm, by omega, fun f => ?_⟩
 by_cases hf : f < n
 ·have h := has_mask L (show n ≤ 8 by omega) hf
  rw [hm] at h
  rw [decide_eq_true hf, Bool.true_and, ← h, Nat.testBit_eq_decide_div_mod_eq]
  unfold hasB
  apply decide_eq_decide.2
  have e : ((m : Int) / 2 ^ ((f : Int)).toNat % 2) = ((m / 2 ^ f % 2 : Nat) : Int) := by simp
  rw [e]
  omega
 ·rw [decide_eq_false hf, Bool.false_and]
  exact Nat.testBit_lt_two_pow (Nat.lt_of_lt_of_le hlt (Nat.pow_le_pow_right (by decide) (Nat.le_of_not_lt hf)))
theorem mask_all : ∀ n, pw n - 1 = maskTo (fun _ => true) n := by
 intro n
 induction n with
 | zero => rfl
 | succ n ih =>
  have e : pw (n + 1) = pw n + pw n := by rw [pw_nat, pw_nat, Nat.pow_succ]; omega
  unfold maskTo
  rw [← ih, e]
  show _ = _ + 1 * pw n
  omega
theorem mask_or (L : Nat → Bool) {k : Nat} (hk : k < 6) (h : L k = true) : bits .or .i64 (maskTo L k) (pw k) = maskTo L (k + 1) := by
 obtain ⟨m0, m1⟩ := maskTo_le L k
 obtain ⟨m, hm⟩ := Int.eq_ofNat_of_zero_le m0
 have hlt : m < 2 ^ k := by rw [hm, pw_nat] at m1; omega
 show _ = maskTo L k + oneB (L k) * pw k
 rw [hm, or64 k hk m hlt, h]
 show _ = _ + 1 * pw k
 omega
theorem mask_not (L : Nat → Bool) {k : Nat} (h : L k = false) : maskTo L (k + 1) = maskTo L k := by
 show maskTo L k + oneB (L k) * pw k = _
 rw [h]
 show _ + 0 * pw k = _
 omega
theorem mask_in (H L : Nat → Bool) {n : Nat} (hn : n ≤ 6) : (bits .and .i64 (maskTo H n) (maskTo L n) = maskTo L n) ↔ ∀ j, j < n → L j = true → H j = true := by
 obtain ⟨m, hm, hm64, hb⟩ := bits_at H hn
 obtain ⟨q, hq, hq64, hc⟩ := bits_at L hn
 rw [hm, hq, and64 m hm64 q hq64]
 have e : (((m &&& q : Nat) : Int) = (q : Int)) ↔ (m &&& q) = q := by omega
 rw [e]
 constructor
 ·intro h j hj hl
  have := congrArg (fun x => Nat.testBit x j) h
  simp only [Nat.testBit_and, hb, hc, decide_eq_true hj, hl, Bool.true_and, Bool.and_true] at this
  exact this
 ·intro h
  refine Nat.eq_of_testBit_eq fun f => ?_
  rw [Nat.testBit_and, hb, hc]
  by_cases hf : f < n
  ·rw [decide_eq_true hf]
   cases hl : L f
   ·simp
   ·rw [h f hf hl]; rfl
  ·rw [decide_eq_false hf]; simp
def holdsAt (fs : List Fm) (D : Wd) (j : Nat) : Bool := match fs[j]? with | some f => D.formIs f.ats f.c | none => false
theorem holds_at {fs : List Fm} {D : Wd} {j : Nat} {f : Fm} (h : fs[j]? = some f) : holdsAt fs D j = D.formIs f.ats f.c := by unfold holdsAt; rw [h]
def heldL (fs : List Fm) (u : Nat) : List Int := (everyC u).map fun N => maskTo (holdsAt fs (madeN N 8)) fs.length
theorem held_open {fs : List Fm} (h6 : fs.length ≤ 6) (u : Nat) (g : Nat → Bool) : ((heldL fs u).any fun h => decide (bits .and .i64 h (maskTo (fun k => !g k) fs.length) = maskTo (fun k => !g k) fs.length)) = openN (leftF fs g) u := by
 unfold heldL openN
 rw [List.any_map]
 congr 1
 funext N
 rw [Bool.eq_iff_iff]
 show decide _ = true ↔ _
 rw [decide_eq_true_iff, mask_in _ _ h6]
 unfold Wd.so
 rw [List.all_eq_true]
 constructor
 ·intro h f hf
  obtain ⟨j, h1, h2, h3⟩ := (leftTo_mem fs.length (Nat.le_refl _)).1 hf
  have := h j h1 (by rw [h2]; rfl)
  rw [holds_at h3] at this
  exact this
 ·intro h j hj hl
  have hf := List.getElem?_eq_getElem hj
  rw [holds_at hf]
  exact h _ ((leftTo_mem fs.length (Nat.le_refl _)).2 ⟨j, hj, by simpa using hl, hf⟩)
theorem left_all (fs : List Fm) (u : Nat) : openN (leftF fs fun _ => false) u = openN fs u := by
 rw [Bool.eq_iff_iff]
 constructor
 ·exact open_less fun f hf => by
   obtain ⟨j, hj⟩ := List.mem_iff_getElem?.1 hf
   exact (leftTo_mem fs.length (Nat.le_refl _)).2 ⟨j, (List.getElem?_eq_some_iff.1 hj).1, rfl, hj⟩
 ·exact open_less fun f hf => by
   obtain ⟨j, _, _, h3⟩ := (leftTo_mem fs.length (Nat.le_refl _)).1 hf
   exact List.mem_of_getElem? h3
def placesTo (L : Nat → Bool) : Nat → List Int
 | 0 => []
 | k + 1 => placesTo L k ++ (if L k = true then [(k : Int)] else [])
end Go.Proofs.YtnoohlibgaeklaaGreatDoor
namespace Go.Proofs.YtnoohlibgaeklaaGreatDoor
open Go.ChangeShapes Go.WideShapes Go.ChangeAt Go.RowKit
set_option maxRecDepth 100000
set_option maxHeartbeats 16000000
theorem infoBool : (Tryz.prog.info? 4).map (fun i => (i.zero, i.size, i.bytes)) = some (some (.bool false), 1, 1) := by kernel_rfl
def ReadsB (w : World) (b off : Nat) (hs : List Bool) : Prop := b < w.heap.size ∧ ∀ k, k < hs.length → w.cell? ⟨b, off + k, none⟩ = some (.bool (hs.getD k false))
theorem fmade_op (s : Int) (x y : Bool) (hs : s = 10 ∨ s = 11 ∨ s = 13) (B off cap : Nat) (vh : Value) (w : World) (c0 : w.cell? ⟨B, off, none⟩ = some (.bool x)) (c1 : w.cell? ⟨B, off + 1, none⟩ = some (.bool y)) (held : List Bool) :
    Calls Tryz.prog 180 #[.int .i64 s, .slice (some ⟨B, off, none⟩) 2 cap, vh] w (Sk w (.bool (madeF held s [x, y]))) := by
 rcases hs with rfl | rfl | rfl
 ·cases x
  all_goals
   go_enter Tryz.func180, Tryz.ntmps180
   go_wp2
   go_ret
   exact ⟨rfl, rfl⟩
 ·cases x
  all_goals
   go_enter Tryz.func180, Tryz.ntmps180
   go_wp2
   go_ret
   exact ⟨rfl, rfl⟩
 ·cases x
  all_goals
   go_enter Tryz.func180, Tryz.ntmps180
   go_wp2
   go_ret
   exact ⟨rfl, rfl⟩
theorem fmade_no (x : Bool) (B off cap : Nat) (vh : Value) (w : World) (c0 : w.cell? ⟨B, off, none⟩ = some (.bool x)) (held : List Bool) :
    Calls Tryz.prog 180 #[.int .i64 12, .slice (some ⟨B, off, none⟩) 1 cap, vh] w (Sk w (.bool (madeF held 12 [x]))) := by
 go_enter Tryz.func180, Tryz.ntmps180
 go_wp2
 go_ret
 exact ⟨rfl, rfl⟩
theorem fmade_leaf (s : Int) (held : List Bool) (h0 : 0 ≤ s) (h1 : s < held.length) (h6 : held.length ≤ 6) (hb ho hcap : Nat) (v : Value) (w : World) (hR : ReadsB w hb ho held) :
    Calls Tryz.prog 180 #[.int .i64 s, v, .slice (some ⟨hb, ho, none⟩) held.length hcap] w (Sk w (.bool (madeF held s []))) := by
 obtain ⟨k, rfl⟩ := Int.eq_ofNat_of_zero_le h0
 have e : madeF held (k : Int) [] = held.getD k false := by rw [madeF_leaf held (takesF_low (by omega)) []]; simp
 rw [e]
 have hc := hR.2 k (by omega)
 obtain ⟨x, hx⟩ := nm (held.getD k false)
 rw [← hx] at hc ⊢
 obtain ⟨m, hm⟩ := nm held.length
 rw [← hm] at h1 h6 ⊢
 clear hx hm hR e
 have g0 : ((k : Int) == 10) = false := by simp; omega
 have g1 : ((k : Int) == 11) = false := by simp; omega
 have g2 : ((k : Int) == 13) = false := by simp; omega
 have g3 : ((k : Int) == 12) = false := by simp; omega
 have h0' : (0 : Int) ≤ (k : Int) := by omega
 go_enter Tryz.func180, Tryz.ntmps180
 go_wp2
 go_ret
 exact ⟨rfl, rfl⟩
theorem stepF_leaf (held p : List Bool) (s : Int) (h : takesF s = 0) : stepF held p s = p.take p.length ++ [madeF held s []] := by
 unfold stepF restF
 rw [h, madeF_leaf held h, madeF_leaf held h]; rfl
theorem stepF_one (held p : List Bool) (h : 1 ≤ p.length) : stepF held p 12 = p.take (p.length - 1) ++ [madeF held 12 [p.getD (p.length - 1) false]] := by
 unfold stepF restF
 have e : (p.drop (p.length - 1)) = [p.getD (p.length - 1) false] := by
  rw [List.drop_eq_getElem_cons (by omega), List.drop_eq_nil_of_le (by omega)]
  simp [List.getElem?_eq_getElem (show p.length - 1 < p.length by omega)]
 simp only [show takesF 12 = 1 from rfl, show (1 : Int).toNat = 1 from rfl, e]
theorem stepF_two (held p : List Bool) (s : Int) (ht : takesF s = 2) (h : 2 ≤ p.length) : stepF held p s = p.take (p.length - 2) ++ [madeF held s [p.getD (p.length - 2) false, p.getD (p.length - 2 + 1) false]] := by
 unfold stepF restF
 have e : (p.drop (p.length - 2)) = [p.getD (p.length - 2) false, p.getD (p.length - 2 + 1) false] := by
  rw [List.drop_eq_getElem_cons (by omega), List.drop_eq_getElem_cons (by omega), List.drop_eq_nil_of_le (by omega)]
  simp [List.getElem?_eq_getElem (show p.length - 2 < p.length by omega), List.getElem?_eq_getElem (show p.length - 2 + 1 < p.length by omega)]
 rw [ht]
 simp only [show (2 : Int).toNat = 2 from rfl, e]
theorem ownsRow_bool {w : World} {base : Nat} {e : TypeId} {g cap : Nat} {p : List Bool} (h : w.ownsRow base e 1 (.slice (some ⟨g, 0, none⟩) p.length cap) p.length (p.map Value.bool)) {j : Nat} (hj : j < p.length) : w.cell? ⟨g, j, none⟩ = some (.bool (p.getD j false)) := by
 rw [h.cellAt j (by omega)]
 simp [List.getElem?_eq_getElem hj]
theorem fwork_rel {w1 wr w0 w2 : World} {K : Nat} {v v' : Value} {p q : List Bool} {r : Nat} {X : Bool} (hK : K ≤ wr.heap.size) (hb : Below K w1 wr) (h0 : Bw wr w0)
    (hown : w2.ownsRow K 4 1 v' (r + 1) (((p.take r).map Value.bool) ++ [.bool X])) (hv : ∀ k, v.ownBlock = some k → K ≤ k)
    (hg : w0.grownBy w2 v.ownBlock) (hr : r ≤ p.length) (hq : q = p.take r ++ [X]) :
    w2.ownsRow K 4 1 v' q.length (q.map Value.bool) ∧ Below K w1 w2 ∧ K ≤ w2.heap.size := by
 have hs : wr.heap.size ≤ w0.heap.size := h0.size
 have e1 : q.length = r + 1 := by rw [hq]; simp; omega
 have e2 : q.map Value.bool = ((p.take r).map Value.bool) ++ [.bool X] := by rw [hq]; simp
 have b1 : Below K w1 w0 := hb.trans (h0.mono hK)
 have b2 : Below K w1 w2 := b1.grown hg (by omega) hv
 refine ⟨by rw [e1, e2]; exact hown, b2, ?_⟩
 have := hg.size
 omega
theorem fwork_any (c : List Int) (B off cap : Nat) (held : List Bool) (hb ho hcap : Nat) (w : World) (hs : c.all (signF held.length) = true) (hone : cntF c 0 = some 1) (hl : c.length ≤ 20) (h6 : held.length ≤ 6) (hB : B < w.heap.size)
    (hc : ∀ k, k < c.length → w.cell? ⟨B, off + k, none⟩ = some (.int .i64 (c.getD k 0))) (hR : ReadsB w hb ho held) :
    Calls Tryz.prog 156 #[.slice (some ⟨B, off, none⟩) c.length cap, .slice (some ⟨hb, ho, none⟩) held.length hcap] w fun e w' => e = .returned (.bool (valF held c)) ∧ Below w.heap.size w w' := by
 obtain ⟨i0, hi, hz0, hz1, hz2⟩ := info_parts infoBool
 obtain ⟨K, hK⟩ := nm w.heap.size
 have HK1 := hide (hK.symm)
 have HC := hide hc
 have HBK : Hid (B < K) := by unfold Hid; omega
 have HRh : Hid (∀ W, Below K w W → ReadsB W hb ho held) := fun W hw => ⟨by have := hw.size; have := hR.1; omega, fun k hk => by rw [hw.cell (show (⟨hb, ho + k, none⟩ : Addr).block < K by have := hR.1; simp; omega)]; exact hR.2 k hk⟩
 rw [← hK]
 clear hc hB hK hR
 obtain ⟨n, hn⟩ := nm c.length
 rw [← hn] at hl ⊢
 have HN := hide hn
 clear hn
 have HL : Hid (∀ (s : Int) v W, 0 ≤ s → s < held.length → Below K w W → _) := fun s v W s0 s1 hw => fmade_leaf s held s0 s1 h6 hb ho hcap v W (HRh.out W hw)
 obtain ⟨m, hm⟩ := nm held.length
 rw [← hm] at hs h6 HL ⊢
 clear hm HRh
 have HS := hide hs
 have HO := hide hone
 clear hs hone
 obtain ⟨V, hV⟩ := nm (valF held c)
 rw [← hV]
 have HV := hide hV
 clear hV
 go_enter Tryz.func156, Tryz.ntmps156
 go_wp2
 go_loopw [5, 11] (fun v i wr => ∃ (k : Nat) (p : List Bool), k ≤ n ∧ i = .int .i64 k ∧ wr.ownsRow K 4 1 v p.length (p.map Value.bool) ∧ Below K w wr ∧ K ≤ wr.heap.size ∧ p = pileF held (c.take k) [])
  (fun _ i _ => n - (intOf i).toNat)
 case atStart => exact ⟨0, [], Nat.zero_le _, rfl, World.ownsRow_nil _ _ _ _, Below.refl _ _, by rw [HK1.out]; exact Nat.le_refl _, rfl⟩
 case round =>
  obtain ⟨k, p, hk, rfl, hown0, hbel0, hKw0, hp0⟩ := hrel
  have hkt0 : cntF (c.take k) 0 = some (p.length : Int) := by
   obtain ⟨j, hj⟩ := cntF_take_some c k HO.out
   have := pileF_length held (c.take k) [] hj
   rw [← hp0] at this
   rw [this]; exact hj
  by_cases hlt : k < n
  ·obtain ⟨s, hs⟩ := nm (c.getD k 0)
   have hkt : k < c.length := by rw [← HN.out]; exact hlt
   have hcell : wr.cell? ⟨B, off + k, none⟩ = some (.int .i64 s) := by rw [hs, hbel0.cell HBK.out]; exact HC.out k hkt
   have hsg : takesF s ≠ 0 ∨ (0 ≤ s ∧ s < m) := by
    refine signF_iff.1 (List.all_eq_true.1 HS.out s ?_)
    rw [hs, List.getD_eq_getElem?_getD, List.getElem?_eq_getElem hkt]; exact List.getElem_mem hkt
   have htk : takesF s ≤ p.length := by
    have h1 := cntF_take_succ c hkt hkt0
    rw [← hs] at h1
    obtain ⟨j, hj⟩ := cntF_take_some c (k + 1) HO.out
    by_cases h2 : (p.length : Int) < takesF s
    ·rw [if_pos h2] at h1; rw [h1] at hj; cases hj
    ·omega
   have HP : Hid (stepF held p s = pileF held (c.take (k + 1)) []) := by
    unfold Hid; rw [pileF_succ _ c [] hkt, ← hs, ← hp0]
   have hpl : p.length ≤ 20 := by
    have := (cntF_nonneg (Int.le_refl 0) hkt0).2
    simp at this; omega
   clear hs hkt hkt0 hp0
   have HBEL := hide hbel0
   have HKW := hide hKw0
   clear hbel0 hKw0
   by_cases h4 : takesF s = 0
   ·have hsr : 0 ≤ s ∧ s < m := hsg.resolve_left (by simp [h4])
    have HM : Hid (∀ v W, Bw wr W → Calls Tryz.prog 180 #[.int .i64 s, v, .slice (some ⟨hb, ho, none⟩) m hcap] W (Sk W (.bool (madeF held s [])))) := fun v W hW => HL.out s v W hsr.1 hsr.2 (HBEL.out.trans (hW.mono HKW.out))
    have HQ : Hid (stepF held p s = p.take p.length ++ [madeF held s []]) := stepF_leaf held p s h4
    have HT : Hid (∀ W, Calls Tryz.prog 115 #[.int .i64 s] W (Sk W (.int .i64 0))) := fun W => by
     have := ftakes_any s W
     rw [h4] at this; exact this
    obtain ⟨X, hX⟩ := nm (madeF held s [])
    rw [← hX] at HM HQ
    clear hX htk hsg h4
    rcases hown0.2 with ⟨rfl, hp0⟩ | ⟨g, cap', cur, rfl, hg, hh, hm, hmax, _, _⟩
    ·obtain rfl : p = [] := List.eq_nil_of_length_eq_zero hp0
     clear hown0 hp0
     go_wp2_with (go_at_call 115; refine (HT.out _).mono ?_; rintro e w' ⟨rfl, rfl⟩)
     go_region_held3 (fun _ => True) (trivial)
      (first
       | (go_at_call 180; refine (HM.out _ _ ((Below.refl _ wr).drew)).mono ?_; rintro e w' ⟨rfl, rfl⟩)
       | (refine step_append_lies _ (by rfl) _ _ _ (by rfl) K 4 i0 (.bool false) 1 1 Tryz.underlying224 hi hz0 hz1 hz2 rfl (by decide) (.slice none 0 0) 0 ([]) (by rfl) (World.ownsRow_nil _ _ _ _) ⟨wr.heap.size, 0, none⟩ 1 1 [.bool X] (by rfl) (by rfl) (World.news_of_block (cs := #[.bool X]) (t := 4) (fr := (0, 0)) (heap_alloc_new wr _)) (by simp [Value.oneCell']) (by omega) (by unfold maxLen; omega) (by omega) (by have := HKW.out; simp; omega) (wr.heap.size + 1) (by simp) ?_; intro gg cap1 w2 hown1 hgrow hat hlt1))
     have R := fwork_rel (q := pileF held (c.take (k + 1)) []) (p := []) (r := 0) HKW.out HBEL.out ((below_alloc1 wr _).drew) (hown1) (by intro k hk; cases hk) hgrow (Nat.zero_le _) (HP.out.symm.trans HQ.out)
     clear hown1 hgrow hat hlt1
     go_wp2
     go_roundw
     case rel => exact ⟨k + 1, _, by omega, by go_num, R.1, R.2.1, R.2.2, rfl⟩
     case measure => simp [intOf]; omega
    ·obtain ⟨m', hm0⟩ := nm p.length
     have HOW : Hid (wr.ownsRow K 4 1 (.slice (some ⟨g, 0, none⟩) m' cap') m' (p.map Value.bool)) := by
      unfold Hid; rw [hm0]; exact hown0
     rw [← hm0] at HQ hm hpl ⊢
     have HM0 := hide hm0
     clear hown0 hm0 hh
     by_cases hcap : cap' = m'
     ·subst hcap
      go_wp2_with (go_at_call 115; refine (HT.out _).mono ?_; rintro e w' ⟨rfl, rfl⟩)
      go_region_held3 (fun _ => True) (trivial)
       (first
        | (go_at_call 180; refine (HM.out _ _ ((Below.refl _ wr).drew)).mono ?_; rintro e w' ⟨rfl, rfl⟩)
        | (refine step_append_lies _ (by rfl) _ _ _ (by rfl) K 4 i0 (.bool false) 1 1 Tryz.underlying224 hi hz0 hz1 hz2 rfl (by decide) (.slice (some ⟨g, 0, none⟩) cap' cap') cap' ((p.map Value.bool).take cap') (by rfl) (((ownsRow_take HOW.out (by omega)).alloc _).drew) ⟨wr.heap.size, 0, none⟩ 1 1 [.bool X] (by rfl) (by rfl) (World.news_of_block (cs := #[.bool X]) (t := 4) (fr := (0, 0)) (heap_alloc_new wr _)) (by simp [Value.oneCell']) (by omega) (by unfold maxLen; omega) (by omega) (by have := HKW.out; simp; omega) (wr.heap.size + 1) (by simp) ?_; intro gg cap1 w2 hown1 hgrow hat hlt1))
      have R := fwork_rel (q := pileF held (c.take (k + 1)) []) (p := p) (r := cap') HKW.out HBEL.out ((below_alloc1 wr _).drew) (by rw [List.map_take]; exact hown1) (by intro k hk; cases hk; exact hg) hgrow (by have := HM0.out; omega) (HP.out.symm.trans HQ.out)
      clear hown1 hgrow hat hlt1
      go_wp2
      go_roundw
      case rel => exact ⟨k + 1, _, by omega, by go_num, R.1, R.2.1, R.2.2, rfl⟩
      case measure => simp [intOf]; omega
     ·go_wp2_with (go_at_call 115; refine (HT.out _).mono ?_; rintro e w' ⟨rfl, rfl⟩)
      go_region_held3 (fun _ => True) (trivial)
       (first
        | (go_at_call 180; refine (HM.out _ _ ((Below.refl _ wr).drew)).mono ?_; rintro e w' ⟨rfl, rfl⟩)
        | (refine step_append_lies _ (by rfl) _ _ _ (by rfl) K 4 i0 (.bool false) 1 1 Tryz.underlying224 hi hz0 hz1 hz2 rfl (by decide) (.slice (some ⟨g, 0, none⟩) m' cap') m' ((p.map Value.bool).take m') (by rfl) (((ownsRow_take HOW.out (by omega)).alloc _).drew) ⟨wr.heap.size, 0, none⟩ 1 1 [.bool X] (by rfl) (by rfl) (World.news_of_block (cs := #[.bool X]) (t := 4) (fr := (0, 0)) (heap_alloc_new wr _)) (by simp [Value.oneCell']) (by omega) (by unfold maxLen; omega) (by omega) (by have := HKW.out; simp; omega) (wr.heap.size + 1) (by simp) ?_; intro gg cap1 w2 hown1 hgrow hat hlt1))
      have R := fwork_rel (q := pileF held (c.take (k + 1)) []) (p := p) (r := m') HKW.out HBEL.out ((below_alloc1 wr _).drew) (by rw [List.map_take]; exact hown1) (by intro k hk; cases hk; exact hg) hgrow (by have := HM0.out; omega) (HP.out.symm.trans HQ.out)
      clear hown1 hgrow hat hlt1
      go_wp2
      go_roundw
      case rel => exact ⟨k + 1, _, by omega, by go_num, R.1, R.2.1, R.2.2, rfl⟩
      case measure => simp [intOf]; omega
   by_cases h8 : s = 12
   ·subst h8
    have htk1 : 1 ≤ p.length := by
     rw [show takesF 12 = 1 from rfl] at htk; omega
    have HT : Hid (∀ W, Calls Tryz.prog 115 #[.int .i64 12] W (Sk W (.int .i64 1))) := fun W => ftakes_any 12 W
    rcases hown0.2 with ⟨rfl, hp0⟩ | ⟨g, cap', cur, rfl, hg, hh, hm, hmax, _, _⟩
    ·omega
    ·obtain ⟨r, hr⟩ : ∃ r, p.length = r + 1 := ⟨p.length - 1, by omega⟩
     have HM0 := hide hr
     have HOW : Hid (wr.ownsRow K 4 1 (.slice (some ⟨g, 0, none⟩) (r + 1) cap') (r + 1) (p.map Value.bool)) := by
      unfold Hid; rw [← hr]; exact hown0
     have hcx : Hid (∀ W, Bw wr W → W.cell? ⟨g, r, none⟩ = some (.bool (p.getD r false))) := fun W hb => by
      rw [hb.cell (ownsRow_block hown0).2.1]; exact ownsRow_bool hown0 (by omega)
     obtain ⟨x, hx⟩ := nm (p.getD r false)
     rw [← hx] at hcx
     have HM : Hid (∀ W c' v, Bw wr W → _) := fun W c' v hb => fmade_no x g r c' v W (hcx.out W hb) held
     have HQ : Hid (stepF held p 12 = p.take r ++ [madeF held 12 [x]]) := by
      have := stepF_one held p (by omega)
      rw [hr, Nat.add_sub_cancel, ← hx] at this; exact this
     obtain ⟨X, hX⟩ := nm (madeF held 12 [x])
     rw [← hX] at HM HQ
     have hle : (r : Int) ≤ (r : Int) + 1 := by omega
     have hcap : ¬ cap' = r := by omega
     have hcap2 : r < cap' := by omega
     have hcap3 : (r : Int) ≤ (cap' : Int) := by omega
     have hr0 : (0 : Int) ≤ (r : Int) := by omega
     rw [hr] at hm hpl ⊢
     clear hX hx hcx hown0 hh hr htk htk1 h4 hsg
     go_wp2_with (go_at_call 115; refine (HT.out _).mono ?_; rintro e w' ⟨rfl, rfl⟩)
     go_region_held3 (fun _ => True) (trivial)
      (first
       | (go_at_call 180; refine (HM.out _ _ _ ((Below.refl _ wr).drew)).mono ?_; rintro e w' ⟨rfl, rfl⟩)
       | (refine step_append_lies _ (by rfl) _ _ _ (by rfl) K 4 i0 (.bool false) 1 1 Tryz.underlying224 hi hz0 hz1 hz2 rfl (by decide) (.slice (some ⟨g, 0, none⟩) r cap') r ((p.map Value.bool).take r) (by rfl) (((ownsRow_take HOW.out (by omega)).alloc _).drew) ⟨wr.heap.size, 0, none⟩ 1 1 [.bool X] (by rfl) (by rfl) (World.news_of_block (cs := #[.bool X]) (t := 4) (fr := (0, 0)) (heap_alloc_new wr _)) (by simp [Value.oneCell']) (by omega) (by unfold maxLen; omega) (by omega) (by have := HKW.out; simp; omega) (wr.heap.size + 1) (by simp) ?_; intro gg cap1 w2 hown1 hgrow hat hlt1))
     have R := fwork_rel (q := pileF held (c.take (k + 1)) []) (p := p) (r := r) HKW.out HBEL.out ((below_alloc1 wr _).drew) (by rw [List.map_take]; exact hown1) (by intro k hk; cases hk; exact hg) hgrow (by have := HM0.out; omega) (HP.out.symm.trans HQ.out)
     clear hown1 hgrow hat hlt1
     go_wp2
     go_roundw
     case rel => exact ⟨k + 1, _, by omega, by go_num, R.1, R.2.1, R.2.2, rfl⟩
     case measure => simp [intOf]; omega
   ·have hs3 : s = 10 ∨ s = 11 ∨ s = 13 := by
     by_cases h3 : s = 10 ∨ s = 11 ∨ s = 13
     ·exact h3
     ·exact absurd (show takesF s = 0 by unfold takesF; rw [if_neg h3, if_neg h8]) h4
    have ht2 : takesF s = 2 := by unfold takesF; rw [if_pos hs3]
    rw [ht2] at htk
    have HT : Hid (∀ W, Calls Tryz.prog 115 #[.int .i64 s] W (Sk W (.int .i64 2))) := fun W => by
     have := ftakes_any s W
     rw [ht2] at this; exact this
    rcases hown0.2 with ⟨rfl, hp0⟩ | ⟨g, cap', cur, rfl, hg, hh, hm, hmax, _, _⟩
    ·omega
    ·obtain ⟨r, hr⟩ : ∃ r, p.length = r + 2 := ⟨p.length - 2, by omega⟩
     have HM0 := hide hr
     have HOW : Hid (wr.ownsRow K 4 1 (.slice (some ⟨g, 0, none⟩) (r + 2) cap') (r + 2) (p.map Value.bool)) := by
      unfold Hid; rw [← hr]; exact hown0
     have hcx : Hid (∀ W, Bw wr W → W.cell? ⟨g, r, none⟩ = some (.bool (p.getD r false)) ∧ W.cell? ⟨g, r + 1, none⟩ = some (.bool (p.getD (r + 1) false))) := fun W hb => by
      refine ⟨?_, ?_⟩
      ·rw [hb.cell (ownsRow_block hown0).2.1]; exact ownsRow_bool hown0 (by omega)
      ·rw [hb.cell (ownsRow_block hown0).2.1]; exact ownsRow_bool hown0 (by omega)
     obtain ⟨x, hx⟩ := nm (p.getD r false)
     obtain ⟨y, hy⟩ := nm (p.getD (r + 1) false)
     rw [← hx, ← hy] at hcx
     have HM : Hid (∀ W c' v, Bw wr W → _) := fun W c' v hb => fmade_op s x y hs3 g r c' v W (hcx.out W hb).1 (hcx.out W hb).2 held
     have HQ : Hid (stepF held p s = p.take r ++ [madeF held s [x, y]]) := by
      have := stepF_two held p s ht2 (by omega)
      rw [hr, show r + 2 - 2 = r by omega, ← hx, ← hy] at this; exact this
     obtain ⟨X, hX⟩ := nm (madeF held s [x, y])
     rw [← hX] at HM HQ
     have hle : (r : Int) ≤ (r : Int) + 2 := by omega
     have hcap : ¬ cap' = r := by omega
     have hcap2 : r < cap' := by omega
     have hcap3 : (r : Int) ≤ (cap' : Int) := by omega
     have hr0 : (0 : Int) ≤ (r : Int) := by omega
     rw [hr] at hm hpl ⊢
     clear hX hx hy hcx hown0 hh hr htk h4 hsg h8 ht2 hs3
     go_wp2_with (go_at_call 115; refine (HT.out _).mono ?_; rintro e w' ⟨rfl, rfl⟩)
     go_region_held3 (fun _ => True) (trivial)
      (first
       | (go_at_call 180; refine (HM.out _ _ _ ((Below.refl _ wr).drew)).mono ?_; rintro e w' ⟨rfl, rfl⟩)
       | (refine step_append_lies _ (by rfl) _ _ _ (by rfl) K 4 i0 (.bool false) 1 1 Tryz.underlying224 hi hz0 hz1 hz2 rfl (by decide) (.slice (some ⟨g, 0, none⟩) r cap') r ((p.map Value.bool).take r) (by rfl) (((ownsRow_take HOW.out (by omega)).alloc _).drew) ⟨wr.heap.size, 0, none⟩ 1 1 [.bool X] (by rfl) (by rfl) (World.news_of_block (cs := #[.bool X]) (t := 4) (fr := (0, 0)) (heap_alloc_new wr _)) (by simp [Value.oneCell']) (by omega) (by unfold maxLen; omega) (by omega) (by have := HKW.out; simp; omega) (wr.heap.size + 1) (by simp) ?_; intro gg cap1 w2 hown1 hgrow hat hlt1))
     have R := fwork_rel (q := pileF held (c.take (k + 1)) []) (p := p) (r := r) HKW.out HBEL.out ((below_alloc1 wr _).drew) (by rw [List.map_take]; exact hown1) (by intro k hk; cases hk; exact hg) hgrow (by have := HM0.out; omega) (HP.out.symm.trans HQ.out)
     clear hown1 hgrow hat hlt1
     go_wp2
     go_roundw
     case rel => exact ⟨k + 1, _, by omega, by go_num, R.1, R.2.1, R.2.2, rfl⟩
     case measure => simp [intOf]; omega
  ·have hpv : p = [V] := by
    rw [hp0, List.take_of_length_le (by have := HN.out; omega), pileF_one held HO.out, HV.out]; rfl
   subst hpv
   rcases hown0.2 with ⟨_, h0⟩ | ⟨g, cap', cur, rfl, hg, hh, hm, hmax, _, _⟩
   ·simp at h0
   have hx : wr.cell? ⟨g, 0, none⟩ = some (.bool V) := ownsRow_bool hown0 (j := 0) (by simp)
   have HBEL := hide hbel0
   clear hown0 hbel0 hh hm hkt0 hp0
   simp only [List.length_singleton]
   go_wp2
   go_ret
   exact ⟨rfl, HBEL.out⟩
theorem ones64_any (x : Int) (h0 : 0 ≤ x) (h1 : x < 64) (w : World) :
    Calls Tryz.prog 203 #[.int .u64 x] w (Sk w (.int .i64 (pcN x))) := by
 go_enter Tryz.func203, Tryz.ntmps203
 go_wp2
 go_ret
 refine ⟨ret_int ?_, rfl⟩
 revert h1 h0
 intro h0 h1
 obtain ⟨n, rfl⟩ := Int.eq_ofNat_of_zero_le h0
 have h : n < 64 := by omega
 clear h0 h1
 revert n
 decide +kernel
theorem ones_any (x : Int) (h0 : 0 ≤ x) (h1 : x < 64) (w : World) :
    Calls Tryz.prog 196 #[.int .u64 x] w (Sk w (.int .i64 (pcN x))) := by
 go_enter Tryz.func196, Tryz.ntmps196
 go_wp2_with (go_at_call 203; refine (ones64_any _ h0 h1 _).mono ?_; rintro e w' ⟨rfl, rfl⟩)
 go_ret
 exact ⟨rfl, rfl⟩
end Go.Proofs.YtnoohlibgaeklaaGreatDoor
