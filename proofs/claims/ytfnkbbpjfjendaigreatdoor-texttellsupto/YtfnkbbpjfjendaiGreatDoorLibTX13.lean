/-
  Proved: what atom.Print returns, of any atom; what was in memory is as it was (a contract that the statements lean on).
-/
import Derived.Test.YtfnkbbpjfjendaiGreatDoorLibTX7
import Derived.Test.YtfnkbbpjfjendaiGreatDoorLibTX5
namespace Go.Proofs.YtfnkbbpjfjendaiGreatDoor
open Go.ChangeShapes Go.WideShapes Go.ChangeAt Go.RowKit
set_option maxRecDepth 100000

theorem str_eq {x : ByteArray} {l : List UInt8} (h : x.data.toList = l) : x = strOf l := by rw [← h, strOf_data]
theorem back_str {a b : ByteArray} {v : Value} (h : a = b) : Ending.returned (.tuple #[.string a, v]) = .returned (.tuple #[.string b, v]) := by rw [h]

/-- the atom's box. -/
def BoxA (w : World) (B : Nat) (k n : Int) (vs vt : Value) : Prop := w.cell? ⟨B, 0, none⟩ = some (.int .i64 k) ∧ w.cell? ⟨B, 1, none⟩ = some vs ∧ w.cell? ⟨B, 2, none⟩ = some vt ∧ w.cell? ⟨B, 3, none⟩ = some (.int .i64 n)
theorem BoxA.below {w w' : World} {B K : Nat} {k n : Int} {vs vt : Value} (h : BoxA w B k n vs vt) (hb : Below K w w') (hK : B < K) : BoxA w' B k n vs vt :=
  ⟨(hb.cell hK).trans h.1, (hb.cell hK).trans h.2.1, (hb.cell hK).trans h.2.2.1, (hb.cell hK).trans h.2.2.2⟩
theorem boxA_alloc (w : World) (k n : Int) (vs vt : Value) : BoxA (w.alloc (.cells #[.int .i64 k, vs, vt, .int .i64 n] 40)) w.heap.size k n vs vt := ⟨by simp, by simp, by simp, by simp⟩


theorem aprint_bad (k F : Int) (n : Int) (sao tao : Option Addr) (sl scap tl tcap : Nat) (w : World)
    (hC : ∀ W, Below w.heap.size w W → Calls Tryz.prog 30 #[.agg #[.int .i64 k, .slice sao sl scap, .slice tao tl tcap, .int .i64 n]] W fun e w' => e = .returned (.iface 55 (.int .i64 F)) ∧ Below W.heap.size W w') :
    Calls Tryz.prog 17 #[.agg #[.int .i64 k, .slice sao sl scap, .slice tao tl tcap, .int .i64 n]] w fun e w' => e = .returned (.tuple #[.string ⟨#[]⟩, (.iface 55 (.int .i64 F))]) ∧ Below w.heap.size w w' := by
  obtain ⟨w1, hw1⟩ : ∃ w1, w1 = w.alloc (.cells #[.int .i64 k, .slice sao sl scap, .slice tao tl tcap, .int .i64 n] 40) := ⟨_, rfl⟩
  have HB1 : Hid (Below w.heap.size w w1) := by unfold Hid; rw [hw1]; exact below_alloc1 w _
  have HX : Hid (BoxA w1 w.heap.size k n (.slice sao sl scap) (.slice tao tl tcap)) := by unfold Hid; rw [hw1]; exact boxA_alloc w _ _ _ _
  have HK1 : Hid (w.heap.size < w1.heap.size) := by unfold Hid; rw [hw1]; simp
  have HC : Hid (Calls Tryz.prog 30 #[.agg #[.int .i64 k, .slice sao sl scap, .slice tao tl tcap, .int .i64 n]] w1 fun e w' => e = .returned (.iface 55 (.int .i64 F)) ∧ Below w1.heap.size w1 w') := hC w1 HB1.out
  clear hC
  obtain ⟨x0, x1, x2, x3⟩ := HX.out
  go_enter Tryz.func17, Tryz.ntmps17
  go_wp2_with fail
  rw [← hw1]
  clear hw1
  go_wp2_with (go_at_call 30; refine HC.out.mono ?_; rintro e w2 ⟨rfl, hb⟩; have HB2 : Hid (Below w.heap.size w w2) := HB1.out.trans (hb.mono HB1.out.size); clear hb)
  go_ret2
  exact ⟨rfl, HB2.out⟩


set_option maxHeartbeats 2000000 in
theorem aprint_1 (ls lt : List UInt8) (zs : ls.length ≤ 20) (zt : lt.length ≤ 20) (n : Int) (sao tao : Option Addr) (sl scap tl tcap : Nat) (w : World) (hK : KindsLaid w)
    (hC : ∀ W, Below w.heap.size w W → Calls Tryz.prog 30 #[.agg #[.int .i64 1, .slice sao sl scap, .slice tao tl tcap, .int .i64 n]] W fun e w' => e = .returned .nilIface ∧ Below W.heap.size W w')
    (hS : ∀ W, Below w.heap.size w W → Calls Tryz.prog 38 #[.slice sao sl scap] W fun e w' => e = .returned (.tuple #[.string (strOf ls), .nilIface]) ∧ Below W.heap.size W w')
    (hT : ∀ W, Below w.heap.size w W → Calls Tryz.prog 38 #[.slice tao tl tcap] W fun e w' => e = .returned (.tuple #[.string (strOf lt), .nilIface]) ∧ Below W.heap.size W w')
    : Calls Tryz.prog 17 #[.agg #[.int .i64 1, .slice sao sl scap, .slice tao tl tcap, .int .i64 n]] w fun e w' => e = .returned (.tuple #[.string (strOf ([115, 117, 98] ++ (32 :: ls) ++ (32 :: lt))), .nilIface]) ∧ Below w.heap.size w w' := by
  obtain ⟨w1, hw1⟩ : ∃ w1, w1 = w.alloc (.cells #[.int .i64 1, .slice sao sl scap, .slice tao tl tcap, .int .i64 n] 40) := ⟨_, rfl⟩
  have HB1 : Hid (Below w.heap.size w w1) := by unfold Hid; rw [hw1]; exact below_alloc1 w _
  have HX : Hid (BoxA w1 w.heap.size 1 n (.slice sao sl scap) (.slice tao tl tcap)) := by unfold Hid; rw [hw1]; exact boxA_alloc w _ _ _ _
  have HK1 : Hid (w.heap.size < w1.heap.size) := by unfold Hid; rw [hw1]; simp
  have HT0 : Hid (∀ W, Below w1.heap.size w1 W → Below w.heap.size w W) := fun W h => HB1.out.trans (h.mono HB1.out.size)
  have HKd : Hid (∀ W, Below w1.heap.size w1 W → KindsLaid W) := fun W h => hK.below (HT0.out W h)
  have HC : Hid (Calls Tryz.prog 30 #[.agg #[.int .i64 1, .slice sao sl scap, .slice tao tl tcap, .int .i64 n]] w1 fun e w' => e = .returned .nilIface ∧ Below w1.heap.size w1 w') := hC w1 HB1.out
  obtain ⟨ps, hps⟩ : ∃ ps, ps = strOf ls := ⟨_, rfl⟩
  obtain ⟨pt, hpt⟩ : ∃ pt, pt = strOf lt := ⟨_, rfl⟩
  have fs : ps.size ≤ 20 := by rw [hps, strOf_size]; exact zs
  have ft : pt.size ≤ 20 := by rw [hpt, strOf_size]; exact zt
  rw [← hps] at hS
  rw [← hpt] at hT
  have HS : Hid (∀ W, Below w1.heap.size w1 W → Calls Tryz.prog 38 #[.slice sao sl scap] W fun e w' => e = .returned (.tuple #[.string ps, .nilIface]) ∧ Below W.heap.size W w') := fun W h => hS W (HT0.out W h)
  have HT : Hid (∀ W, Below w1.heap.size w1 W → Calls Tryz.prog 38 #[.slice tao tl tcap] W fun e w' => e = .returned (.tuple #[.string pt, .nilIface]) ∧ Below W.heap.size W w') := fun W h => hT W (HT0.out W h)
  obtain ⟨R, hR⟩ : ∃ R, R = strOf ([115, 117, 98] ++ (32 :: ls) ++ (32 :: lt)) := ⟨_, rfl⟩
  rw [← hR]
  have HR : Hid (R.data.toList = [115, 117, 98] ++ (32 :: ps.data.toList) ++ (32 :: pt.data.toList)) := by
    unfold Hid; rw [hR, hps, hpt]; simp only [strOf_list]
  clear hR hps hpt zs zt hC hS hK hT
  obtain ⟨x0, x1, x2, x3⟩ := HX.out
  go_enter Tryz.func17, Tryz.ntmps17
  go_wp2_with fail
  rw [← hw1]
  clear hw1
  go_wp2_with fail
  go_at_call 30
  refine HC.out.mono ?_
  rintro e w2 ⟨rfl, hb⟩
  have HZ2 : Hid (Below w1.heap.size w1 w2) := hb
  clear hb x0 x1 x2 x3
  have q0 : w2.cell? ⟨1, 3, none⟩ = some (.string ⟨#[115, 117, 98]⟩) := HKd.out _ HZ2.out 3 (by decide)
  have q1 : w2.cell? ⟨1, 4, none⟩ = some (.bool true) := HKd.out _ HZ2.out 4 (by decide)
  have q2 : w2.cell? ⟨1, 5, none⟩ = some (.bool false) := HKd.out _ HZ2.out 5 (by decide)
  obtain ⟨x0, x1, x2, x3⟩ := HX.out.below HZ2.out HK1.out
  go_wp2_with fail
  go_at_call 38
  refine (HS.out _ HZ2.out).mono ?_
  rintro e w3 ⟨rfl, hb⟩
  have HZ3 : Hid (Below w1.heap.size w1 w3) := HZ2.out.trans (hb.mono HZ2.out.size)
  clear hb x0 x1 x2 x3 q0 q1 q2
  have q0 : w3.cell? ⟨1, 3, none⟩ = some (.string ⟨#[115, 117, 98]⟩) := HKd.out _ HZ3.out 3 (by decide)
  have q1 : w3.cell? ⟨1, 4, none⟩ = some (.bool true) := HKd.out _ HZ3.out 4 (by decide)
  have q2 : w3.cell? ⟨1, 5, none⟩ = some (.bool false) := HKd.out _ HZ3.out 5 (by decide)
  obtain ⟨x0, x1, x2, x3⟩ := HX.out.below HZ3.out HK1.out
  go_wp2_with fail
  go_at_call 38
  refine (HT.out _ HZ3.out).mono ?_
  rintro e w4 ⟨rfl, hb⟩
  have HZ4 : Hid (Below w1.heap.size w1 w4) := HZ3.out.trans (hb.mono HZ3.out.size)
  clear hb x0 x1 x2 x3 q0 q1 q2
  have q0 : w4.cell? ⟨1, 3, none⟩ = some (.string ⟨#[115, 117, 98]⟩) := HKd.out _ HZ4.out 3 (by decide)
  have q1 : w4.cell? ⟨1, 4, none⟩ = some (.bool true) := HKd.out _ HZ4.out 4 (by decide)
  have q2 : w4.cell? ⟨1, 5, none⟩ = some (.bool false) := HKd.out _ HZ4.out 5 (by decide)
  obtain ⟨x0, x1, x2, x3⟩ := HX.out.below HZ4.out HK1.out
  go_wp2_with fail
  go_ret2
  refine ⟨back_str ?_, HT0.out _ HZ4.out⟩
  refine (str_eq (l := R.data.toList) ?_).trans (strOf_data R)
  rw [HR.out]
  simp


set_option maxHeartbeats 2000000 in
theorem aprint_2 (ls lt : List UInt8) (zs : ls.length ≤ 20) (zt : lt.length ≤ 20) (n : Int) (sao tao : Option Addr) (sl scap tl tcap : Nat) (w : World) (hK : KindsLaid w)
    (hC : ∀ W, Below w.heap.size w W → Calls Tryz.prog 30 #[.agg #[.int .i64 2, .slice sao sl scap, .slice tao tl tcap, .int .i64 n]] W fun e w' => e = .returned .nilIface ∧ Below W.heap.size W w')
    (hS : ∀ W, Below w.heap.size w W → Calls Tryz.prog 38 #[.slice sao sl scap] W fun e w' => e = .returned (.tuple #[.string (strOf ls), .nilIface]) ∧ Below W.heap.size W w')
    (hT : ∀ W, Below w.heap.size w W → Calls Tryz.prog 38 #[.slice tao tl tcap] W fun e w' => e = .returned (.tuple #[.string (strOf lt), .nilIface]) ∧ Below W.heap.size W w')
    : Calls Tryz.prog 17 #[.agg #[.int .i64 2, .slice sao sl scap, .slice tao tl tcap, .int .i64 n]] w fun e w' => e = .returned (.tuple #[.string (strOf ([115, 97, 109, 101] ++ (32 :: ls) ++ (32 :: lt))), .nilIface]) ∧ Below w.heap.size w w' := by
  obtain ⟨w1, hw1⟩ : ∃ w1, w1 = w.alloc (.cells #[.int .i64 2, .slice sao sl scap, .slice tao tl tcap, .int .i64 n] 40) := ⟨_, rfl⟩
  have HB1 : Hid (Below w.heap.size w w1) := by unfold Hid; rw [hw1]; exact below_alloc1 w _
  have HX : Hid (BoxA w1 w.heap.size 2 n (.slice sao sl scap) (.slice tao tl tcap)) := by unfold Hid; rw [hw1]; exact boxA_alloc w _ _ _ _
  have HK1 : Hid (w.heap.size < w1.heap.size) := by unfold Hid; rw [hw1]; simp
  have HT0 : Hid (∀ W, Below w1.heap.size w1 W → Below w.heap.size w W) := fun W h => HB1.out.trans (h.mono HB1.out.size)
  have HKd : Hid (∀ W, Below w1.heap.size w1 W → KindsLaid W) := fun W h => hK.below (HT0.out W h)
  have HC : Hid (Calls Tryz.prog 30 #[.agg #[.int .i64 2, .slice sao sl scap, .slice tao tl tcap, .int .i64 n]] w1 fun e w' => e = .returned .nilIface ∧ Below w1.heap.size w1 w') := hC w1 HB1.out
  obtain ⟨ps, hps⟩ : ∃ ps, ps = strOf ls := ⟨_, rfl⟩
  obtain ⟨pt, hpt⟩ : ∃ pt, pt = strOf lt := ⟨_, rfl⟩
  have fs : ps.size ≤ 20 := by rw [hps, strOf_size]; exact zs
  have ft : pt.size ≤ 20 := by rw [hpt, strOf_size]; exact zt
  rw [← hps] at hS
  rw [← hpt] at hT
  have HS : Hid (∀ W, Below w1.heap.size w1 W → Calls Tryz.prog 38 #[.slice sao sl scap] W fun e w' => e = .returned (.tuple #[.string ps, .nilIface]) ∧ Below W.heap.size W w') := fun W h => hS W (HT0.out W h)
  have HT : Hid (∀ W, Below w1.heap.size w1 W → Calls Tryz.prog 38 #[.slice tao tl tcap] W fun e w' => e = .returned (.tuple #[.string pt, .nilIface]) ∧ Below W.heap.size W w') := fun W h => hT W (HT0.out W h)
  obtain ⟨R, hR⟩ : ∃ R, R = strOf ([115, 97, 109, 101] ++ (32 :: ls) ++ (32 :: lt)) := ⟨_, rfl⟩
  rw [← hR]
  have HR : Hid (R.data.toList = [115, 97, 109, 101] ++ (32 :: ps.data.toList) ++ (32 :: pt.data.toList)) := by
    unfold Hid; rw [hR, hps, hpt]; simp only [strOf_list]
  clear hR hps hpt zs zt hC hS hK hT
  obtain ⟨x0, x1, x2, x3⟩ := HX.out
  go_enter Tryz.func17, Tryz.ntmps17
  go_wp2_with fail
  rw [← hw1]
  clear hw1
  go_wp2_with fail
  go_at_call 30
  refine HC.out.mono ?_
  rintro e w2 ⟨rfl, hb⟩
  have HZ2 : Hid (Below w1.heap.size w1 w2) := hb
  clear hb x0 x1 x2 x3
  have q0 : w2.cell? ⟨1, 6, none⟩ = some (.string ⟨#[115, 97, 109, 101]⟩) := HKd.out _ HZ2.out 6 (by decide)
  have q1 : w2.cell? ⟨1, 7, none⟩ = some (.bool true) := HKd.out _ HZ2.out 7 (by decide)
  have q2 : w2.cell? ⟨1, 8, none⟩ = some (.bool false) := HKd.out _ HZ2.out 8 (by decide)
  obtain ⟨x0, x1, x2, x3⟩ := HX.out.below HZ2.out HK1.out
  go_wp2_with fail
  go_at_call 38
  refine (HS.out _ HZ2.out).mono ?_
  rintro e w3 ⟨rfl, hb⟩
  have HZ3 : Hid (Below w1.heap.size w1 w3) := HZ2.out.trans (hb.mono HZ2.out.size)
  clear hb x0 x1 x2 x3 q0 q1 q2
  have q0 : w3.cell? ⟨1, 6, none⟩ = some (.string ⟨#[115, 97, 109, 101]⟩) := HKd.out _ HZ3.out 6 (by decide)
  have q1 : w3.cell? ⟨1, 7, none⟩ = some (.bool true) := HKd.out _ HZ3.out 7 (by decide)
  have q2 : w3.cell? ⟨1, 8, none⟩ = some (.bool false) := HKd.out _ HZ3.out 8 (by decide)
  obtain ⟨x0, x1, x2, x3⟩ := HX.out.below HZ3.out HK1.out
  go_wp2_with fail
  go_at_call 38
  refine (HT.out _ HZ3.out).mono ?_
  rintro e w4 ⟨rfl, hb⟩
  have HZ4 : Hid (Below w1.heap.size w1 w4) := HZ3.out.trans (hb.mono HZ3.out.size)
  clear hb x0 x1 x2 x3 q0 q1 q2
  have q0 : w4.cell? ⟨1, 6, none⟩ = some (.string ⟨#[115, 97, 109, 101]⟩) := HKd.out _ HZ4.out 6 (by decide)
  have q1 : w4.cell? ⟨1, 7, none⟩ = some (.bool true) := HKd.out _ HZ4.out 7 (by decide)
  have q2 : w4.cell? ⟨1, 8, none⟩ = some (.bool false) := HKd.out _ HZ4.out 8 (by decide)
  obtain ⟨x0, x1, x2, x3⟩ := HX.out.below HZ4.out HK1.out
  go_wp2_with fail
  go_ret2
  refine ⟨back_str ?_, HT0.out _ HZ4.out⟩
  refine (str_eq (l := R.data.toList) ?_).trans (strOf_data R)
  rw [HR.out]
  simp


set_option maxHeartbeats 2000000 in
theorem aprint_3 (ls ln : List UInt8) (zs : ls.length ≤ 20) (zn : ln.length ≤ 20) (n : Int) (sao tao : Option Addr) (sl scap tl tcap : Nat) (w : World) (hK : KindsLaid w)
    (hC : ∀ W, Below w.heap.size w W → Calls Tryz.prog 30 #[.agg #[.int .i64 3, .slice sao sl scap, .slice tao tl tcap, .int .i64 n]] W fun e w' => e = .returned .nilIface ∧ Below W.heap.size W w')
    (hS : ∀ W, Below w.heap.size w W → Calls Tryz.prog 38 #[.slice sao sl scap] W fun e w' => e = .returned (.tuple #[.string (strOf ls), .nilIface]) ∧ Below W.heap.size W w')
    (hN : ∀ W, Below w.heap.size w W → Calls Tryz.prog 39 #[.int .i64 n] W fun e w' => e = .returned (.string (strOf ln)) ∧ Below W.heap.size W w')
    : Calls Tryz.prog 17 #[.agg #[.int .i64 3, .slice sao sl scap, .slice tao tl tcap, .int .i64 n]] w fun e w' => e = .returned (.tuple #[.string (strOf ([108, 101, 97, 115, 116] ++ (32 :: ls) ++ (32 :: ln))), .nilIface]) ∧ Below w.heap.size w w' := by
  obtain ⟨w1, hw1⟩ : ∃ w1, w1 = w.alloc (.cells #[.int .i64 3, .slice sao sl scap, .slice tao tl tcap, .int .i64 n] 40) := ⟨_, rfl⟩
  have HB1 : Hid (Below w.heap.size w w1) := by unfold Hid; rw [hw1]; exact below_alloc1 w _
  have HX : Hid (BoxA w1 w.heap.size 3 n (.slice sao sl scap) (.slice tao tl tcap)) := by unfold Hid; rw [hw1]; exact boxA_alloc w _ _ _ _
  have HK1 : Hid (w.heap.size < w1.heap.size) := by unfold Hid; rw [hw1]; simp
  have HT0 : Hid (∀ W, Below w1.heap.size w1 W → Below w.heap.size w W) := fun W h => HB1.out.trans (h.mono HB1.out.size)
  have HKd : Hid (∀ W, Below w1.heap.size w1 W → KindsLaid W) := fun W h => hK.below (HT0.out W h)
  have HC : Hid (Calls Tryz.prog 30 #[.agg #[.int .i64 3, .slice sao sl scap, .slice tao tl tcap, .int .i64 n]] w1 fun e w' => e = .returned .nilIface ∧ Below w1.heap.size w1 w') := hC w1 HB1.out
  obtain ⟨ps, hps⟩ : ∃ ps, ps = strOf ls := ⟨_, rfl⟩
  obtain ⟨pn, hpn⟩ : ∃ pn, pn = strOf ln := ⟨_, rfl⟩
  have fs : ps.size ≤ 20 := by rw [hps, strOf_size]; exact zs
  have fn : pn.size ≤ 20 := by rw [hpn, strOf_size]; exact zn
  rw [← hps] at hS
  rw [← hpn] at hN
  have HS : Hid (∀ W, Below w1.heap.size w1 W → Calls Tryz.prog 38 #[.slice sao sl scap] W fun e w' => e = .returned (.tuple #[.string ps, .nilIface]) ∧ Below W.heap.size W w') := fun W h => hS W (HT0.out W h)
  have HN : Hid (∀ W, Below w1.heap.size w1 W → Calls Tryz.prog 39 #[.int .i64 n] W fun e w' => e = .returned (.string pn) ∧ Below W.heap.size W w') := fun W h => hN W (HT0.out W h)
  obtain ⟨R, hR⟩ : ∃ R, R = strOf ([108, 101, 97, 115, 116] ++ (32 :: ls) ++ (32 :: ln)) := ⟨_, rfl⟩
  rw [← hR]
  have HR : Hid (R.data.toList = [108, 101, 97, 115, 116] ++ (32 :: ps.data.toList) ++ (32 :: pn.data.toList)) := by
    unfold Hid; rw [hR, hps, hpn]; simp only [strOf_list]
  clear hR hps hpn zs zn hC hS hK hN
  obtain ⟨x0, x1, x2, x3⟩ := HX.out
  go_enter Tryz.func17, Tryz.ntmps17
  go_wp2_with fail
  rw [← hw1]
  clear hw1
  go_wp2_with fail
  go_at_call 30
  refine HC.out.mono ?_
  rintro e w2 ⟨rfl, hb⟩
  have HZ2 : Hid (Below w1.heap.size w1 w2) := hb
  clear hb x0 x1 x2 x3
  have q0 : w2.cell? ⟨1, 9, none⟩ = some (.string ⟨#[108, 101, 97, 115, 116]⟩) := HKd.out _ HZ2.out 9 (by decide)
  have q1 : w2.cell? ⟨1, 10, none⟩ = some (.bool false) := HKd.out _ HZ2.out 10 (by decide)
  have q2 : w2.cell? ⟨1, 11, none⟩ = some (.bool true) := HKd.out _ HZ2.out 11 (by decide)
  obtain ⟨x0, x1, x2, x3⟩ := HX.out.below HZ2.out HK1.out
  go_wp2_with fail
  go_at_call 38
  refine (HS.out _ HZ2.out).mono ?_
  rintro e w3 ⟨rfl, hb⟩
  have HZ3 : Hid (Below w1.heap.size w1 w3) := HZ2.out.trans (hb.mono HZ2.out.size)
  clear hb x0 x1 x2 x3 q0 q1 q2
  have q0 : w3.cell? ⟨1, 9, none⟩ = some (.string ⟨#[108, 101, 97, 115, 116]⟩) := HKd.out _ HZ3.out 9 (by decide)
  have q1 : w3.cell? ⟨1, 10, none⟩ = some (.bool false) := HKd.out _ HZ3.out 10 (by decide)
  have q2 : w3.cell? ⟨1, 11, none⟩ = some (.bool true) := HKd.out _ HZ3.out 11 (by decide)
  obtain ⟨x0, x1, x2, x3⟩ := HX.out.below HZ3.out HK1.out
  go_wp2_with fail
  go_at_call 39
  refine (HN.out _ HZ3.out).mono ?_
  rintro e w5 ⟨rfl, hb⟩
  have HZ5 : Hid (Below w1.heap.size w1 w5) := HZ3.out.trans (hb.mono HZ3.out.size)
  clear hb x0 x1 x2 x3 q0 q1 q2
  go_wp2_with fail
  go_ret2
  refine ⟨back_str ?_, HT0.out _ HZ5.out⟩
  refine (str_eq (l := R.data.toList) ?_).trans (strOf_data R)
  rw [HR.out]
  simp


set_option maxHeartbeats 2000000 in
theorem aprint_4 (ls ln : List UInt8) (zs : ls.length ≤ 20) (zn : ln.length ≤ 20) (n : Int) (sao tao : Option Addr) (sl scap tl tcap : Nat) (w : World) (hK : KindsLaid w)
    (hC : ∀ W, Below w.heap.size w W → Calls Tryz.prog 30 #[.agg #[.int .i64 4, .slice sao sl scap, .slice tao tl tcap, .int .i64 n]] W fun e w' => e = .returned .nilIface ∧ Below W.heap.size W w')
    (hS : ∀ W, Below w.heap.size w W → Calls Tryz.prog 38 #[.slice sao sl scap] W fun e w' => e = .returned (.tuple #[.string (strOf ls), .nilIface]) ∧ Below W.heap.size W w')
    (hN : ∀ W, Below w.heap.size w W → Calls Tryz.prog 39 #[.int .i64 n] W fun e w' => e = .returned (.string (strOf ln)) ∧ Below W.heap.size W w')
    : Calls Tryz.prog 17 #[.agg #[.int .i64 4, .slice sao sl scap, .slice tao tl tcap, .int .i64 n]] w fun e w' => e = .returned (.tuple #[.string (strOf ([109, 111, 115, 116] ++ (32 :: ls) ++ (32 :: ln))), .nilIface]) ∧ Below w.heap.size w w' := by
  obtain ⟨w1, hw1⟩ : ∃ w1, w1 = w.alloc (.cells #[.int .i64 4, .slice sao sl scap, .slice tao tl tcap, .int .i64 n] 40) := ⟨_, rfl⟩
  have HB1 : Hid (Below w.heap.size w w1) := by unfold Hid; rw [hw1]; exact below_alloc1 w _
  have HX : Hid (BoxA w1 w.heap.size 4 n (.slice sao sl scap) (.slice tao tl tcap)) := by unfold Hid; rw [hw1]; exact boxA_alloc w _ _ _ _
  have HK1 : Hid (w.heap.size < w1.heap.size) := by unfold Hid; rw [hw1]; simp
  have HT0 : Hid (∀ W, Below w1.heap.size w1 W → Below w.heap.size w W) := fun W h => HB1.out.trans (h.mono HB1.out.size)
  have HKd : Hid (∀ W, Below w1.heap.size w1 W → KindsLaid W) := fun W h => hK.below (HT0.out W h)
  have HC : Hid (Calls Tryz.prog 30 #[.agg #[.int .i64 4, .slice sao sl scap, .slice tao tl tcap, .int .i64 n]] w1 fun e w' => e = .returned .nilIface ∧ Below w1.heap.size w1 w') := hC w1 HB1.out
  obtain ⟨ps, hps⟩ : ∃ ps, ps = strOf ls := ⟨_, rfl⟩
  obtain ⟨pn, hpn⟩ : ∃ pn, pn = strOf ln := ⟨_, rfl⟩
  have fs : ps.size ≤ 20 := by rw [hps, strOf_size]; exact zs
  have fn : pn.size ≤ 20 := by rw [hpn, strOf_size]; exact zn
  rw [← hps] at hS
  rw [← hpn] at hN
  have HS : Hid (∀ W, Below w1.heap.size w1 W → Calls Tryz.prog 38 #[.slice sao sl scap] W fun e w' => e = .returned (.tuple #[.string ps, .nilIface]) ∧ Below W.heap.size W w') := fun W h => hS W (HT0.out W h)
  have HN : Hid (∀ W, Below w1.heap.size w1 W → Calls Tryz.prog 39 #[.int .i64 n] W fun e w' => e = .returned (.string pn) ∧ Below W.heap.size W w') := fun W h => hN W (HT0.out W h)
  obtain ⟨R, hR⟩ : ∃ R, R = strOf ([109, 111, 115, 116] ++ (32 :: ls) ++ (32 :: ln)) := ⟨_, rfl⟩
  rw [← hR]
  have HR : Hid (R.data.toList = [109, 111, 115, 116] ++ (32 :: ps.data.toList) ++ (32 :: pn.data.toList)) := by
    unfold Hid; rw [hR, hps, hpn]; simp only [strOf_list]
  clear hR hps hpn zs zn hC hS hK hN
  obtain ⟨x0, x1, x2, x3⟩ := HX.out
  go_enter Tryz.func17, Tryz.ntmps17
  go_wp2_with fail
  rw [← hw1]
  clear hw1
  go_wp2_with fail
  go_at_call 30
  refine HC.out.mono ?_
  rintro e w2 ⟨rfl, hb⟩
  have HZ2 : Hid (Below w1.heap.size w1 w2) := hb
  clear hb x0 x1 x2 x3
  have q0 : w2.cell? ⟨1, 12, none⟩ = some (.string ⟨#[109, 111, 115, 116]⟩) := HKd.out _ HZ2.out 12 (by decide)
  have q1 : w2.cell? ⟨1, 13, none⟩ = some (.bool false) := HKd.out _ HZ2.out 13 (by decide)
  have q2 : w2.cell? ⟨1, 14, none⟩ = some (.bool true) := HKd.out _ HZ2.out 14 (by decide)
  obtain ⟨x0, x1, x2, x3⟩ := HX.out.below HZ2.out HK1.out
  go_wp2_with fail
  go_at_call 38
  refine (HS.out _ HZ2.out).mono ?_
  rintro e w3 ⟨rfl, hb⟩
  have HZ3 : Hid (Below w1.heap.size w1 w3) := HZ2.out.trans (hb.mono HZ2.out.size)
  clear hb x0 x1 x2 x3 q0 q1 q2
  have q0 : w3.cell? ⟨1, 12, none⟩ = some (.string ⟨#[109, 111, 115, 116]⟩) := HKd.out _ HZ3.out 12 (by decide)
  have q1 : w3.cell? ⟨1, 13, none⟩ = some (.bool false) := HKd.out _ HZ3.out 13 (by decide)
  have q2 : w3.cell? ⟨1, 14, none⟩ = some (.bool true) := HKd.out _ HZ3.out 14 (by decide)
  obtain ⟨x0, x1, x2, x3⟩ := HX.out.below HZ3.out HK1.out
  go_wp2_with fail
  go_at_call 39
  refine (HN.out _ HZ3.out).mono ?_
  rintro e w5 ⟨rfl, hb⟩
  have HZ5 : Hid (Below w1.heap.size w1 w5) := HZ3.out.trans (hb.mono HZ3.out.size)
  clear hb x0 x1 x2 x3 q0 q1 q2
  go_wp2_with fail
  go_ret2
  refine ⟨back_str ?_, HT0.out _ HZ5.out⟩
  refine (str_eq (l := R.data.toList) ?_).trans (strOf_data R)
  rw [HR.out]
  simp


set_option maxHeartbeats 2000000 in
theorem aprint_5 (ls lt ln : List UInt8) (zs : ls.length ≤ 20) (zt : lt.length ≤ 20) (zn : ln.length ≤ 20) (n : Int) (sao tao : Option Addr) (sl scap tl tcap : Nat) (w : World) (hK : KindsLaid w)
    (hC : ∀ W, Below w.heap.size w W → Calls Tryz.prog 30 #[.agg #[.int .i64 5, .slice sao sl scap, .slice tao tl tcap, .int .i64 n]] W fun e w' => e = .returned .nilIface ∧ Below W.heap.size W w')
    (hS : ∀ W, Below w.heap.size w W → Calls Tryz.prog 38 #[.slice sao sl scap] W fun e w' => e = .returned (.tuple #[.string (strOf ls), .nilIface]) ∧ Below W.heap.size W w')
    (hT : ∀ W, Below w.heap.size w W → Calls Tryz.prog 38 #[.slice tao tl tcap] W fun e w' => e = .returned (.tuple #[.string (strOf lt), .nilIface]) ∧ Below W.heap.size W w')
    (hN : ∀ W, Below w.heap.size w W → Calls Tryz.prog 39 #[.int .i64 n] W fun e w' => e = .returned (.string (strOf ln)) ∧ Below W.heap.size W w')
    : Calls Tryz.prog 17 #[.agg #[.int .i64 5, .slice sao sl scap, .slice tao tl tcap, .int .i64 n]] w fun e w' => e = .returned (.tuple #[.string (strOf ([110, 111, 109, 111, 114, 101] ++ (32 :: ls) ++ (32 :: lt) ++ (32 :: ln))), .nilIface]) ∧ Below w.heap.size w w' := by
  obtain ⟨w1, hw1⟩ : ∃ w1, w1 = w.alloc (.cells #[.int .i64 5, .slice sao sl scap, .slice tao tl tcap, .int .i64 n] 40) := ⟨_, rfl⟩
  have HB1 : Hid (Below w.heap.size w w1) := by unfold Hid; rw [hw1]; exact below_alloc1 w _
  have HX : Hid (BoxA w1 w.heap.size 5 n (.slice sao sl scap) (.slice tao tl tcap)) := by unfold Hid; rw [hw1]; exact boxA_alloc w _ _ _ _
  have HK1 : Hid (w.heap.size < w1.heap.size) := by unfold Hid; rw [hw1]; simp
  have HT0 : Hid (∀ W, Below w1.heap.size w1 W → Below w.heap.size w W) := fun W h => HB1.out.trans (h.mono HB1.out.size)
  have HKd : Hid (∀ W, Below w1.heap.size w1 W → KindsLaid W) := fun W h => hK.below (HT0.out W h)
  have HC : Hid (Calls Tryz.prog 30 #[.agg #[.int .i64 5, .slice sao sl scap, .slice tao tl tcap, .int .i64 n]] w1 fun e w' => e = .returned .nilIface ∧ Below w1.heap.size w1 w') := hC w1 HB1.out
  obtain ⟨ps, hps⟩ : ∃ ps, ps = strOf ls := ⟨_, rfl⟩
  obtain ⟨pt, hpt⟩ : ∃ pt, pt = strOf lt := ⟨_, rfl⟩
  obtain ⟨pn, hpn⟩ : ∃ pn, pn = strOf ln := ⟨_, rfl⟩
  have fs : ps.size ≤ 20 := by rw [hps, strOf_size]; exact zs
  have ft : pt.size ≤ 20 := by rw [hpt, strOf_size]; exact zt
  have fn : pn.size ≤ 20 := by rw [hpn, strOf_size]; exact zn
  rw [← hps] at hS
  rw [← hpt] at hT
  rw [← hpn] at hN
  have HS : Hid (∀ W, Below w1.heap.size w1 W → Calls Tryz.prog 38 #[.slice sao sl scap] W fun e w' => e = .returned (.tuple #[.string ps, .nilIface]) ∧ Below W.heap.size W w') := fun W h => hS W (HT0.out W h)
  have HT : Hid (∀ W, Below w1.heap.size w1 W → Calls Tryz.prog 38 #[.slice tao tl tcap] W fun e w' => e = .returned (.tuple #[.string pt, .nilIface]) ∧ Below W.heap.size W w') := fun W h => hT W (HT0.out W h)
  have HN : Hid (∀ W, Below w1.heap.size w1 W → Calls Tryz.prog 39 #[.int .i64 n] W fun e w' => e = .returned (.string pn) ∧ Below W.heap.size W w') := fun W h => hN W (HT0.out W h)
  obtain ⟨R, hR⟩ : ∃ R, R = strOf ([110, 111, 109, 111, 114, 101] ++ (32 :: ls) ++ (32 :: lt) ++ (32 :: ln)) := ⟨_, rfl⟩
  rw [← hR]
  have HR : Hid (R.data.toList = [110, 111, 109, 111, 114, 101] ++ (32 :: ps.data.toList) ++ (32 :: pt.data.toList) ++ (32 :: pn.data.toList)) := by
    unfold Hid; rw [hR, hps, hpt, hpn]; simp only [strOf_list]
  clear hR hps hpt hpn zs zt zn hC hS hK hT hN
  obtain ⟨x0, x1, x2, x3⟩ := HX.out
  go_enter Tryz.func17, Tryz.ntmps17
  go_wp2_with fail
  rw [← hw1]
  clear hw1
  go_wp2_with fail
  go_at_call 30
  refine HC.out.mono ?_
  rintro e w2 ⟨rfl, hb⟩
  have HZ2 : Hid (Below w1.heap.size w1 w2) := hb
  clear hb x0 x1 x2 x3
  have q0 : w2.cell? ⟨1, 15, none⟩ = some (.string ⟨#[110, 111, 109, 111, 114, 101]⟩) := HKd.out _ HZ2.out 15 (by decide)
  have q1 : w2.cell? ⟨1, 16, none⟩ = some (.bool true) := HKd.out _ HZ2.out 16 (by decide)
  have q2 : w2.cell? ⟨1, 17, none⟩ = some (.bool true) := HKd.out _ HZ2.out 17 (by decide)
  obtain ⟨x0, x1, x2, x3⟩ := HX.out.below HZ2.out HK1.out
  go_wp2_with fail
  go_at_call 38
  refine (HS.out _ HZ2.out).mono ?_
  rintro e w3 ⟨rfl, hb⟩
  have HZ3 : Hid (Below w1.heap.size w1 w3) := HZ2.out.trans (hb.mono HZ2.out.size)
  clear hb x0 x1 x2 x3 q0 q1 q2
  have q0 : w3.cell? ⟨1, 15, none⟩ = some (.string ⟨#[110, 111, 109, 111, 114, 101]⟩) := HKd.out _ HZ3.out 15 (by decide)
  have q1 : w3.cell? ⟨1, 16, none⟩ = some (.bool true) := HKd.out _ HZ3.out 16 (by decide)
  have q2 : w3.cell? ⟨1, 17, none⟩ = some (.bool true) := HKd.out _ HZ3.out 17 (by decide)
  obtain ⟨x0, x1, x2, x3⟩ := HX.out.below HZ3.out HK1.out
  go_wp2_with fail
  go_at_call 38
  refine (HT.out _ HZ3.out).mono ?_
  rintro e w4 ⟨rfl, hb⟩
  have HZ4 : Hid (Below w1.heap.size w1 w4) := HZ3.out.trans (hb.mono HZ3.out.size)
  clear hb x0 x1 x2 x3 q0 q1 q2
  have q0 : w4.cell? ⟨1, 15, none⟩ = some (.string ⟨#[110, 111, 109, 111, 114, 101]⟩) := HKd.out _ HZ4.out 15 (by decide)
  have q1 : w4.cell? ⟨1, 16, none⟩ = some (.bool true) := HKd.out _ HZ4.out 16 (by decide)
  have q2 : w4.cell? ⟨1, 17, none⟩ = some (.bool true) := HKd.out _ HZ4.out 17 (by decide)
  obtain ⟨x0, x1, x2, x3⟩ := HX.out.below HZ4.out HK1.out
  go_wp2_with fail
  go_at_call 39
  refine (HN.out _ HZ4.out).mono ?_
  rintro e w5 ⟨rfl, hb⟩
  have HZ5 : Hid (Below w1.heap.size w1 w5) := HZ4.out.trans (hb.mono HZ4.out.size)
  clear hb x0 x1 x2 x3 q0 q1 q2
  go_wp2_with fail
  go_ret2
  refine ⟨back_str ?_, HT0.out _ HZ5.out⟩
  refine (str_eq (l := R.data.toList) ?_).trans (strOf_data R)
  rw [HR.out]
  simp


theorem digits_length (u : Nat) : (digitsN u).length ≤ 2 := by unfold digitsN; split <;> simp
theorem numText_length (n : Int) : (numText n).length ≤ 3 := by
  unfold numText
  split
  · have := digits_length n.natAbs; simp; omega
  · have := digits_length n.toNat; omega
/-- what Print answers. -/
def aprintS (k : Int) (s t : List Int) (n : Int) : ByteArray := if atomFault k s t n = 0 then strOf (atomText k s t n) else ⟨#[]⟩

/-- Print, whatever the atom. -/
theorem aprint_any (k n : Int) (vs vt : Value) (s t : List Int) (w : World) (hS : Reads w vs s) (hT : Reads w vt t) (hK : KindsLaid w) (hL : LibLaid w) :
    Calls Tryz.prog 17 #[.agg #[.int .i64 k, vs, vt, .int .i64 n]] w fun e w' => e = .returned (.tuple #[.string (aprintS k s t n), errV (atomFault k s t n)]) ∧ Below w.heap.size w w' := by
  have hC : ∀ W, Below w.heap.size w W → _ := fun W hW => acheck_any k n vs vt s t W (hS.below hW) (hT.below hW) (hK.below hW)
  have hPS : ∀ W, Below w.heap.size w W → _ := fun W hW => print_any s vs W (hS.below hW)
  have hPT : ∀ W, Below w.heap.size w W → _ := fun W hW => print_any t vt W (hT.below hW)
  obtain ⟨sao, scap, rfl, _⟩ := hS.slice
  obtain ⟨tao, tcap, rfl, _⟩ := hT.slice
  by_cases hf : atomFault k s t n = 0
  · obtain ⟨hk, hs, ht, n0, n1⟩ := atomFault_zero.1 hf
    have e0 : aprintS k s t n = strOf (atomText k s t n) := by unfold aprintS; rw [if_pos hf]
    have hm : mostN k ≤ 20 := by unfold mostN; split <;> omega
    rw [e0, hf, errV_0]
    rw [hf, errV_0] at hC
    have es : printS s = strOf (textN s) := by unfold printS; rw [if_pos hs]
    rw [es, hs, errV_0] at hPS
    have zs : (textN s).length ≤ 20 := by have := (fault_zero.1 hs).2.1; simp [textN]; omega
    have hsec : secondB k = true → (∀ W, Below w.heap.size w W → Calls Tryz.prog 38 #[.slice tao t.length tcap] W fun e w' => e = .returned (.tuple #[.string (strOf (textN t)), .nilIface]) ∧ Below W.heap.size W w') ∧ (textN t).length ≤ 20 := by
      intro h
      have h0 := second_reads ht h
      have et : printS t = strOf (textN t) := by unfold printS; rw [if_pos h0]
      rw [et, h0, errV_0] at hPT
      exact ⟨hPT, by have := (fault_zero.1 h0).2.1; simp [textN]; omega⟩
    have zn : (numText n).length ≤ 20 := by have := numText_length n; omega
    have hN : ∀ W, Below w.heap.size w W → Calls Tryz.prog 39 #[.int .i64 n] W fun e w' => e = .returned (.string (strOf (numText n))) ∧ Below W.heap.size W w' := fun W h => itoa_any n (by omega) (by omega) W (hL.below h)
    rcases five hk.1 hk.2 with rfl | rfl | rfl | rfl | rfl
    · obtain ⟨g1, g2⟩ := hsec (by decide)
      have := aprint_1 (textN s) (textN t) zs g2 n sao tao _ scap _ tcap w hK hC hPS g1
      simpa [atomText, kindWord, secondB, numberB] using this
    · obtain ⟨g1, g2⟩ := hsec (by decide)
      have := aprint_2 (textN s) (textN t) zs g2 n sao tao _ scap _ tcap w hK hC hPS g1
      simpa [atomText, kindWord, secondB, numberB] using this
    · have := aprint_3 (textN s) (numText n) zs zn n sao tao _ scap _ tcap w hK hC hPS hN
      simpa [atomText, kindWord, secondB, numberB] using this
    · have := aprint_4 (textN s) (numText n) zs zn n sao tao _ scap _ tcap w hK hC hPS hN
      simpa [atomText, kindWord, secondB, numberB] using this
    · obtain ⟨g1, g2⟩ := hsec (by decide)
      have := aprint_5 (textN s) (textN t) (numText n) zs g2 zn n sao tao _ scap _ tcap w hK hC hPS g1 hN
      simpa [atomText, kindWord, secondB, numberB] using this
  · have e0 : aprintS k s t n = ⟨#[]⟩ := by unfold aprintS; rw [if_neg hf]
    rw [e0, errV_no hf]
    rw [errV_no hf] at hC
    exact aprint_bad k _ n sao tao _ scap _ tcap w hC

end Go.Proofs.YtfnkbbpjfjendaiGreatDoor
