/-
  Proved: what atom.Print returns, of any atom; what was in memory is as it was (a contract that the statements lean on).
  Proved: what vennref1.Digits, Number and AtomText return; what was in memory is as it was (contracts that the statements lean on).
  Proved: what vennref1.Holds returns, of right atoms in right worlds; what was in memory is as it was (a contract that the statements lean on). Written by program.
-/
import Derived.Test.YtenmheenieifpabGreatDoorAtomNum
import Derived.Test.YtenmheenieifpabGreatDoorAtomKindMath
import Derived.Test.YtenmheenieifpabGreatDoorAtomTellsPart2
import Derived.Test.YtenmheenieifpabGreatDoorAtomCheck
namespace Go.Proofs.YtenmheenieifpabGreatDoor
open Go.ChangeShapes Go.WideShapes Go.ChangeAt Go.RowKit
set_option maxRecDepth 100000

theorem str_eq {x : ByteArray} {l : List UInt8} (h : x.data.toList = l) : x = strOf l := by rw [← h, strOf_data]
theorem back_str {a b : ByteArray} {v : Value} (h : a = b) : Ending.returned (.tuple #[.string a, v]) = .returned (.tuple #[.string b, v]) := by rw [h]

/-- the atom's box. -/
def BoxA (w : World) (B : Nat) (k n : Int) (vs vt : Value) : Prop := w.cell? ⟨B, 0, none⟩ = some (.int .i64 k) ∧ w.cell? ⟨B, 1, none⟩ = some vs ∧ w.cell? ⟨B, 2, none⟩ = some vt ∧ w.cell? ⟨B, 3, none⟩ = some (.int .i64 n)
theorem BoxA.below {w w' : World} {B K : Nat} {k n : Int} {vs vt : Value} (h : BoxA w B k n vs vt) (hb : Below K w w') (hK : B < K) : BoxA w' B k n vs vt :=
  ⟨(hb.cell hK).trans h.1, (hb.cell hK).trans h.2.1, (hb.cell hK).trans h.2.2.1, (hb.cell hK).trans h.2.2.2⟩
theorem boxA_alloc (w : World) (k n : Int) (vs vt : Value) : BoxA (w.alloc (.cells #[.int .i64 k, vs, vt, .int .i64 n] 24)) w.heap.size k n vs vt := ⟨by simp, by simp, by simp, by simp⟩


theorem aprint_bad (k F : Int) (n : Int) (sao tao : Option Addr) (sl scap tl tcap : Nat) (w : World)
    (hC : ∀ W, Below w.heap.size w W → Calls Tryz.prog 7 #[.agg #[.int .i64 k, .slice sao sl scap, .slice tao tl tcap, .int .i64 n]] W fun e w' => e = .returned (.iface 51 (.int .i64 F)) ∧ Below W.heap.size W w') :
    Calls Tryz.prog 9 #[.agg #[.int .i64 k, .slice sao sl scap, .slice tao tl tcap, .int .i64 n]] w fun e w' => e = .returned (.tuple #[.string ⟨#[]⟩, (.iface 51 (.int .i64 F))]) ∧ Below w.heap.size w w' := by
  obtain ⟨w1, hw1⟩ : ∃ w1, w1 = w.alloc (.cells #[.int .i64 k, .slice sao sl scap, .slice tao tl tcap, .int .i64 n] 24) := ⟨_, rfl⟩
  have HB1 : Hid (Below w.heap.size w w1) := by unfold Hid; rw [hw1]; exact below_alloc1 w _
  have HX : Hid (BoxA w1 w.heap.size k n (.slice sao sl scap) (.slice tao tl tcap)) := by unfold Hid; rw [hw1]; exact boxA_alloc w _ _ _ _
  have HK1 : Hid (w.heap.size < w1.heap.size) := by unfold Hid; rw [hw1]; simp
  have HC : Hid (Calls Tryz.prog 7 #[.agg #[.int .i64 k, .slice sao sl scap, .slice tao tl tcap, .int .i64 n]] w1 fun e w' => e = .returned (.iface 51 (.int .i64 F)) ∧ Below w1.heap.size w1 w') := hC w1 HB1.out
  clear hC
  obtain ⟨x0, x1, x2, x3⟩ := HX.out
  go_enter Tryz.func9, Tryz.ntmps9
  go_wp2_with fail
  rw [← hw1]
  clear hw1
  go_wp2_with (go_at_call 7; refine HC.out.mono ?_; rintro e w2 ⟨rfl, hb⟩; have HB2 : Hid (Below w.heap.size w w2) := HB1.out.trans (hb.mono HB1.out.size); clear hb)
  go_ret2
  exact ⟨rfl, HB2.out⟩


set_option maxHeartbeats 2000000 in
theorem aprint_1 (ls lt : List UInt8) (zs : ls.length ≤ 20) (zt : lt.length ≤ 20) (n : Int) (sao tao : Option Addr) (sl scap tl tcap : Nat) (w : World) (hK : KindsLaid w)
    (hC : ∀ W, Below w.heap.size w W → Calls Tryz.prog 7 #[.agg #[.int .i64 1, .slice sao sl scap, .slice tao tl tcap, .int .i64 n]] W fun e w' => e = .returned .nilIface ∧ Below W.heap.size W w')
    (hS : ∀ W, Below w.heap.size w W → Calls Tryz.prog 24 #[.slice sao sl scap] W fun e w' => e = .returned (.tuple #[.string (strOf ls), .nilIface]) ∧ Below W.heap.size W w')
    (hT : ∀ W, Below w.heap.size w W → Calls Tryz.prog 24 #[.slice tao tl tcap] W fun e w' => e = .returned (.tuple #[.string (strOf lt), .nilIface]) ∧ Below W.heap.size W w')
    : Calls Tryz.prog 9 #[.agg #[.int .i64 1, .slice sao sl scap, .slice tao tl tcap, .int .i64 n]] w fun e w' => e = .returned (.tuple #[.string (strOf ([115, 117, 98] ++ (32 :: ls) ++ (32 :: lt))), .nilIface]) ∧ Below w.heap.size w w' := by
  obtain ⟨w1, hw1⟩ : ∃ w1, w1 = w.alloc (.cells #[.int .i64 1, .slice sao sl scap, .slice tao tl tcap, .int .i64 n] 24) := ⟨_, rfl⟩
  have HB1 : Hid (Below w.heap.size w w1) := by unfold Hid; rw [hw1]; exact below_alloc1 w _
  have HX : Hid (BoxA w1 w.heap.size 1 n (.slice sao sl scap) (.slice tao tl tcap)) := by unfold Hid; rw [hw1]; exact boxA_alloc w _ _ _ _
  have HK1 : Hid (w.heap.size < w1.heap.size) := by unfold Hid; rw [hw1]; simp
  have HT0 : Hid (∀ W, Below w1.heap.size w1 W → Below w.heap.size w W) := fun W h => HB1.out.trans (h.mono HB1.out.size)
  have HKd : Hid (∀ W, Below w1.heap.size w1 W → KindsLaid W) := fun W h => hK.below (HT0.out W h)
  have HC : Hid (Calls Tryz.prog 7 #[.agg #[.int .i64 1, .slice sao sl scap, .slice tao tl tcap, .int .i64 n]] w1 fun e w' => e = .returned .nilIface ∧ Below w1.heap.size w1 w') := hC w1 HB1.out
  obtain ⟨ps, hps⟩ : ∃ ps, ps = strOf ls := ⟨_, rfl⟩
  obtain ⟨pt, hpt⟩ : ∃ pt, pt = strOf lt := ⟨_, rfl⟩
  have fs : ps.size ≤ 20 := by rw [hps, strOf_size]; exact zs
  have ft : pt.size ≤ 20 := by rw [hpt, strOf_size]; exact zt
  rw [← hps] at hS
  rw [← hpt] at hT
  have HS : Hid (∀ W, Below w1.heap.size w1 W → Calls Tryz.prog 24 #[.slice sao sl scap] W fun e w' => e = .returned (.tuple #[.string ps, .nilIface]) ∧ Below W.heap.size W w') := fun W h => hS W (HT0.out W h)
  have HT : Hid (∀ W, Below w1.heap.size w1 W → Calls Tryz.prog 24 #[.slice tao tl tcap] W fun e w' => e = .returned (.tuple #[.string pt, .nilIface]) ∧ Below W.heap.size W w') := fun W h => hT W (HT0.out W h)
  obtain ⟨R, hR⟩ : ∃ R, R = strOf ([115, 117, 98] ++ (32 :: ls) ++ (32 :: lt)) := ⟨_, rfl⟩
  rw [← hR]
  have HR : Hid (R.data.toList = [115, 117, 98] ++ (32 :: ps.data.toList) ++ (32 :: pt.data.toList)) := by
    unfold Hid; rw [hR, hps, hpt]; simp only [strOf_list]
  clear hR hps hpt zs zt hC hS hK hT
  obtain ⟨x0, x1, x2, x3⟩ := HX.out
  go_enter Tryz.func9, Tryz.ntmps9
  go_wp2_with fail
  rw [← hw1]
  clear hw1
  go_wp2_with fail
  go_at_call 7
  refine HC.out.mono ?_
  rintro e w2 ⟨rfl, hb⟩
  have HZ2 : Hid (Below w1.heap.size w1 w2) := hb
  clear hb x0 x1 x2 x3
  have q0 : w2.cell? ⟨0, 3, none⟩ = some (.string ⟨#[115, 117, 98]⟩) := HKd.out _ HZ2.out 3 (by decide)
  have q1 : w2.cell? ⟨0, 4, none⟩ = some (.bool true) := HKd.out _ HZ2.out 4 (by decide)
  have q2 : w2.cell? ⟨0, 5, none⟩ = some (.bool false) := HKd.out _ HZ2.out 5 (by decide)
  obtain ⟨x0, x1, x2, x3⟩ := HX.out.below HZ2.out HK1.out
  go_wp2_with fail
  go_at_call 24
  refine (HS.out _ HZ2.out).mono ?_
  rintro e w3 ⟨rfl, hb⟩
  have HZ3 : Hid (Below w1.heap.size w1 w3) := HZ2.out.trans (hb.mono HZ2.out.size)
  clear hb x0 x1 x2 x3 q0 q1 q2
  have q0 : w3.cell? ⟨0, 3, none⟩ = some (.string ⟨#[115, 117, 98]⟩) := HKd.out _ HZ3.out 3 (by decide)
  have q1 : w3.cell? ⟨0, 4, none⟩ = some (.bool true) := HKd.out _ HZ3.out 4 (by decide)
  have q2 : w3.cell? ⟨0, 5, none⟩ = some (.bool false) := HKd.out _ HZ3.out 5 (by decide)
  obtain ⟨x0, x1, x2, x3⟩ := HX.out.below HZ3.out HK1.out
  go_wp2_with fail
  go_at_call 24
  refine (HT.out _ HZ3.out).mono ?_
  rintro e w4 ⟨rfl, hb⟩
  have HZ4 : Hid (Below w1.heap.size w1 w4) := HZ3.out.trans (hb.mono HZ3.out.size)
  clear hb x0 x1 x2 x3 q0 q1 q2
  have q0 : w4.cell? ⟨0, 3, none⟩ = some (.string ⟨#[115, 117, 98]⟩) := HKd.out _ HZ4.out 3 (by decide)
  have q1 : w4.cell? ⟨0, 4, none⟩ = some (.bool true) := HKd.out _ HZ4.out 4 (by decide)
  have q2 : w4.cell? ⟨0, 5, none⟩ = some (.bool false) := HKd.out _ HZ4.out 5 (by decide)
  obtain ⟨x0, x1, x2, x3⟩ := HX.out.below HZ4.out HK1.out
  go_wp2_with fail
  go_ret2
  refine ⟨back_str ?_, HT0.out _ HZ4.out⟩
  refine (str_eq (l := R.data.toList) ?_).trans (strOf_data R)
  rw [HR.out]
  simp


set_option maxHeartbeats 2000000 in
theorem aprint_2 (ls lt : List UInt8) (zs : ls.length ≤ 20) (zt : lt.length ≤ 20) (n : Int) (sao tao : Option Addr) (sl scap tl tcap : Nat) (w : World) (hK : KindsLaid w)
    (hC : ∀ W, Below w.heap.size w W → Calls Tryz.prog 7 #[.agg #[.int .i64 2, .slice sao sl scap, .slice tao tl tcap, .int .i64 n]] W fun e w' => e = .returned .nilIface ∧ Below W.heap.size W w')
    (hS : ∀ W, Below w.heap.size w W → Calls Tryz.prog 24 #[.slice sao sl scap] W fun e w' => e = .returned (.tuple #[.string (strOf ls), .nilIface]) ∧ Below W.heap.size W w')
    (hT : ∀ W, Below w.heap.size w W → Calls Tryz.prog 24 #[.slice tao tl tcap] W fun e w' => e = .returned (.tuple #[.string (strOf lt), .nilIface]) ∧ Below W.heap.size W w')
    : Calls Tryz.prog 9 #[.agg #[.int .i64 2, .slice sao sl scap, .slice tao tl tcap, .int .i64 n]] w fun e w' => e = .returned (.tuple #[.string (strOf ([115, 97, 109, 101] ++ (32 :: ls) ++ (32 :: lt))), .nilIface]) ∧ Below w.heap.size w w' := by
  obtain ⟨w1, hw1⟩ : ∃ w1, w1 = w.alloc (.cells #[.int .i64 2, .slice sao sl scap, .slice tao tl tcap, .int .i64 n] 24) := ⟨_, rfl⟩
  have HB1 : Hid (Below w.heap.size w w1) := by unfold Hid; rw [hw1]; exact below_alloc1 w _
  have HX : Hid (BoxA w1 w.heap.size 2 n (.slice sao sl scap) (.slice tao tl tcap)) := by unfold Hid; rw [hw1]; exact boxA_alloc w _ _ _ _
  have HK1 : Hid (w.heap.size < w1.heap.size) := by unfold Hid; rw [hw1]; simp
  have HT0 : Hid (∀ W, Below w1.heap.size w1 W → Below w.heap.size w W) := fun W h => HB1.out.trans (h.mono HB1.out.size)
  have HKd : Hid (∀ W, Below w1.heap.size w1 W → KindsLaid W) := fun W h => hK.below (HT0.out W h)
  have HC : Hid (Calls Tryz.prog 7 #[.agg #[.int .i64 2, .slice sao sl scap, .slice tao tl tcap, .int .i64 n]] w1 fun e w' => e = .returned .nilIface ∧ Below w1.heap.size w1 w') := hC w1 HB1.out
  obtain ⟨ps, hps⟩ : ∃ ps, ps = strOf ls := ⟨_, rfl⟩
  obtain ⟨pt, hpt⟩ : ∃ pt, pt = strOf lt := ⟨_, rfl⟩
  have fs : ps.size ≤ 20 := by rw [hps, strOf_size]; exact zs
  have ft : pt.size ≤ 20 := by rw [hpt, strOf_size]; exact zt
  rw [← hps] at hS
  rw [← hpt] at hT
  have HS : Hid (∀ W, Below w1.heap.size w1 W → Calls Tryz.prog 24 #[.slice sao sl scap] W fun e w' => e = .returned (.tuple #[.string ps, .nilIface]) ∧ Below W.heap.size W w') := fun W h => hS W (HT0.out W h)
  have HT : Hid (∀ W, Below w1.heap.size w1 W → Calls Tryz.prog 24 #[.slice tao tl tcap] W fun e w' => e = .returned (.tuple #[.string pt, .nilIface]) ∧ Below W.heap.size W w') := fun W h => hT W (HT0.out W h)
  obtain ⟨R, hR⟩ : ∃ R, R = strOf ([115, 97, 109, 101] ++ (32 :: ls) ++ (32 :: lt)) := ⟨_, rfl⟩
  rw [← hR]
  have HR : Hid (R.data.toList = [115, 97, 109, 101] ++ (32 :: ps.data.toList) ++ (32 :: pt.data.toList)) := by
    unfold Hid; rw [hR, hps, hpt]; simp only [strOf_list]
  clear hR hps hpt zs zt hC hS hK hT
  obtain ⟨x0, x1, x2, x3⟩ := HX.out
  go_enter Tryz.func9, Tryz.ntmps9
  go_wp2_with fail
  rw [← hw1]
  clear hw1
  go_wp2_with fail
  go_at_call 7
  refine HC.out.mono ?_
  rintro e w2 ⟨rfl, hb⟩
  have HZ2 : Hid (Below w1.heap.size w1 w2) := hb
  clear hb x0 x1 x2 x3
  have q0 : w2.cell? ⟨0, 6, none⟩ = some (.string ⟨#[115, 97, 109, 101]⟩) := HKd.out _ HZ2.out 6 (by decide)
  have q1 : w2.cell? ⟨0, 7, none⟩ = some (.bool true) := HKd.out _ HZ2.out 7 (by decide)
  have q2 : w2.cell? ⟨0, 8, none⟩ = some (.bool false) := HKd.out _ HZ2.out 8 (by decide)
  obtain ⟨x0, x1, x2, x3⟩ := HX.out.below HZ2.out HK1.out
  go_wp2_with fail
  go_at_call 24
  refine (HS.out _ HZ2.out).mono ?_
  rintro e w3 ⟨rfl, hb⟩
  have HZ3 : Hid (Below w1.heap.size w1 w3) := HZ2.out.trans (hb.mono HZ2.out.size)
  clear hb x0 x1 x2 x3 q0 q1 q2
  have q0 : w3.cell? ⟨0, 6, none⟩ = some (.string ⟨#[115, 97, 109, 101]⟩) := HKd.out _ HZ3.out 6 (by decide)
  have q1 : w3.cell? ⟨0, 7, none⟩ = some (.bool true) := HKd.out _ HZ3.out 7 (by decide)
  have q2 : w3.cell? ⟨0, 8, none⟩ = some (.bool false) := HKd.out _ HZ3.out 8 (by decide)
  obtain ⟨x0, x1, x2, x3⟩ := HX.out.below HZ3.out HK1.out
  go_wp2_with fail
  go_at_call 24
  refine (HT.out _ HZ3.out).mono ?_
  rintro e w4 ⟨rfl, hb⟩
  have HZ4 : Hid (Below w1.heap.size w1 w4) := HZ3.out.trans (hb.mono HZ3.out.size)
  clear hb x0 x1 x2 x3 q0 q1 q2
  have q0 : w4.cell? ⟨0, 6, none⟩ = some (.string ⟨#[115, 97, 109, 101]⟩) := HKd.out _ HZ4.out 6 (by decide)
  have q1 : w4.cell? ⟨0, 7, none⟩ = some (.bool true) := HKd.out _ HZ4.out 7 (by decide)
  have q2 : w4.cell? ⟨0, 8, none⟩ = some (.bool false) := HKd.out _ HZ4.out 8 (by decide)
  obtain ⟨x0, x1, x2, x3⟩ := HX.out.below HZ4.out HK1.out
  go_wp2_with fail
  go_ret2
  refine ⟨back_str ?_, HT0.out _ HZ4.out⟩
  refine (str_eq (l := R.data.toList) ?_).trans (strOf_data R)
  rw [HR.out]
  simp


set_option maxHeartbeats 2000000 in
theorem aprint_3 (ls ln : List UInt8) (zs : ls.length ≤ 20) (zn : ln.length ≤ 20) (n : Int) (sao tao : Option Addr) (sl scap tl tcap : Nat) (w : World) (hK : KindsLaid w)
    (hC : ∀ W, Below w.heap.size w W → Calls Tryz.prog 7 #[.agg #[.int .i64 3, .slice sao sl scap, .slice tao tl tcap, .int .i64 n]] W fun e w' => e = .returned .nilIface ∧ Below W.heap.size W w')
    (hS : ∀ W, Below w.heap.size w W → Calls Tryz.prog 24 #[.slice sao sl scap] W fun e w' => e = .returned (.tuple #[.string (strOf ls), .nilIface]) ∧ Below W.heap.size W w')
    (hN : ∀ W, Below w.heap.size w W → Calls Tryz.prog 25 #[.int .i64 n] W fun e w' => e = .returned (.string (strOf ln)) ∧ Below W.heap.size W w')
    : Calls Tryz.prog 9 #[.agg #[.int .i64 3, .slice sao sl scap, .slice tao tl tcap, .int .i64 n]] w fun e w' => e = .returned (.tuple #[.string (strOf ([108, 101, 97, 115, 116] ++ (32 :: ls) ++ (32 :: ln))), .nilIface]) ∧ Below w.heap.size w w' := by
  obtain ⟨w1, hw1⟩ : ∃ w1, w1 = w.alloc (.cells #[.int .i64 3, .slice sao sl scap, .slice tao tl tcap, .int .i64 n] 24) := ⟨_, rfl⟩
  have HB1 : Hid (Below w.heap.size w w1) := by unfold Hid; rw [hw1]; exact below_alloc1 w _
  have HX : Hid (BoxA w1 w.heap.size 3 n (.slice sao sl scap) (.slice tao tl tcap)) := by unfold Hid; rw [hw1]; exact boxA_alloc w _ _ _ _
  have HK1 : Hid (w.heap.size < w1.heap.size) := by unfold Hid; rw [hw1]; simp
  have HT0 : Hid (∀ W, Below w1.heap.size w1 W → Below w.heap.size w W) := fun W h => HB1.out.trans (h.mono HB1.out.size)
  have HKd : Hid (∀ W, Below w1.heap.size w1 W → KindsLaid W) := fun W h => hK.below (HT0.out W h)
  have HC : Hid (Calls Tryz.prog 7 #[.agg #[.int .i64 3, .slice sao sl scap, .slice tao tl tcap, .int .i64 n]] w1 fun e w' => e = .returned .nilIface ∧ Below w1.heap.size w1 w') := hC w1 HB1.out
  obtain ⟨ps, hps⟩ : ∃ ps, ps = strOf ls := ⟨_, rfl⟩
  obtain ⟨pn, hpn⟩ : ∃ pn, pn = strOf ln := ⟨_, rfl⟩
  have fs : ps.size ≤ 20 := by rw [hps, strOf_size]; exact zs
  have fn : pn.size ≤ 20 := by rw [hpn, strOf_size]; exact zn
  rw [← hps] at hS
  rw [← hpn] at hN
  have HS : Hid (∀ W, Below w1.heap.size w1 W → Calls Tryz.prog 24 #[.slice sao sl scap] W fun e w' => e = .returned (.tuple #[.string ps, .nilIface]) ∧ Below W.heap.size W w') := fun W h => hS W (HT0.out W h)
  have HN : Hid (∀ W, Below w1.heap.size w1 W → Calls Tryz.prog 25 #[.int .i64 n] W fun e w' => e = .returned (.string pn) ∧ Below W.heap.size W w') := fun W h => hN W (HT0.out W h)
  obtain ⟨R, hR⟩ : ∃ R, R = strOf ([108, 101, 97, 115, 116] ++ (32 :: ls) ++ (32 :: ln)) := ⟨_, rfl⟩
  rw [← hR]
  have HR : Hid (R.data.toList = [108, 101, 97, 115, 116] ++ (32 :: ps.data.toList) ++ (32 :: pn.data.toList)) := by
    unfold Hid; rw [hR, hps, hpn]; simp only [strOf_list]
  clear hR hps hpn zs zn hC hS hK hN
  obtain ⟨x0, x1, x2, x3⟩ := HX.out
  go_enter Tryz.func9, Tryz.ntmps9
  go_wp2_with fail
  rw [← hw1]
  clear hw1
  go_wp2_with fail
  go_at_call 7
  refine HC.out.mono ?_
  rintro e w2 ⟨rfl, hb⟩
  have HZ2 : Hid (Below w1.heap.size w1 w2) := hb
  clear hb x0 x1 x2 x3
  have q0 : w2.cell? ⟨0, 9, none⟩ = some (.string ⟨#[108, 101, 97, 115, 116]⟩) := HKd.out _ HZ2.out 9 (by decide)
  have q1 : w2.cell? ⟨0, 10, none⟩ = some (.bool false) := HKd.out _ HZ2.out 10 (by decide)
  have q2 : w2.cell? ⟨0, 11, none⟩ = some (.bool true) := HKd.out _ HZ2.out 11 (by decide)
  obtain ⟨x0, x1, x2, x3⟩ := HX.out.below HZ2.out HK1.out
  go_wp2_with fail
  go_at_call 24
  refine (HS.out _ HZ2.out).mono ?_
  rintro e w3 ⟨rfl, hb⟩
  have HZ3 : Hid (Below w1.heap.size w1 w3) := HZ2.out.trans (hb.mono HZ2.out.size)
  clear hb x0 x1 x2 x3 q0 q1 q2
  have q0 : w3.cell? ⟨0, 9, none⟩ = some (.string ⟨#[108, 101, 97, 115, 116]⟩) := HKd.out _ HZ3.out 9 (by decide)
  have q1 : w3.cell? ⟨0, 10, none⟩ = some (.bool false) := HKd.out _ HZ3.out 10 (by decide)
  have q2 : w3.cell? ⟨0, 11, none⟩ = some (.bool true) := HKd.out _ HZ3.out 11 (by decide)
  obtain ⟨x0, x1, x2, x3⟩ := HX.out.below HZ3.out HK1.out
  go_wp2_with fail
  go_at_call 25
  refine (HN.out _ HZ3.out).mono ?_
  rintro e w5 ⟨rfl, hb⟩
  have HZ5 : Hid (Below w1.heap.size w1 w5) := HZ3.out.trans (hb.mono HZ3.out.size)
  clear hb x0 x1 x2 x3 q0 q1 q2
  go_wp2_with fail
  go_ret2
  refine ⟨back_str ?_, HT0.out _ HZ5.out⟩
  refine (str_eq (l := R.data.toList) ?_).trans (strOf_data R)
  rw [HR.out]
  simp


set_option maxHeartbeats 2000000 in
theorem aprint_4 (ls ln : List UInt8) (zs : ls.length ≤ 20) (zn : ln.length ≤ 20) (n : Int) (sao tao : Option Addr) (sl scap tl tcap : Nat) (w : World) (hK : KindsLaid w)
    (hC : ∀ W, Below w.heap.size w W → Calls Tryz.prog 7 #[.agg #[.int .i64 4, .slice sao sl scap, .slice tao tl tcap, .int .i64 n]] W fun e w' => e = .returned .nilIface ∧ Below W.heap.size W w')
    (hS : ∀ W, Below w.heap.size w W → Calls Tryz.prog 24 #[.slice sao sl scap] W fun e w' => e = .returned (.tuple #[.string (strOf ls), .nilIface]) ∧ Below W.heap.size W w')
    (hN : ∀ W, Below w.heap.size w W → Calls Tryz.prog 25 #[.int .i64 n] W fun e w' => e = .returned (.string (strOf ln)) ∧ Below W.heap.size W w')
    : Calls Tryz.prog 9 #[.agg #[.int .i64 4, .slice sao sl scap, .slice tao tl tcap, .int .i64 n]] w fun e w' => e = .returned (.tuple #[.string (strOf ([109, 111, 115, 116] ++ (32 :: ls) ++ (32 :: ln))), .nilIface]) ∧ Below w.heap.size w w' := by
  obtain ⟨w1, hw1⟩ : ∃ w1, w1 = w.alloc (.cells #[.int .i64 4, .slice sao sl scap, .slice tao tl tcap, .int .i64 n] 24) := ⟨_, rfl⟩
  have HB1 : Hid (Below w.heap.size w w1) := by unfold Hid; rw [hw1]; exact below_alloc1 w _
  have HX : Hid (BoxA w1 w.heap.size 4 n (.slice sao sl scap) (.slice tao tl tcap)) := by unfold Hid; rw [hw1]; exact boxA_alloc w _ _ _ _
  have HK1 : Hid (w.heap.size < w1.heap.size) := by unfold Hid; rw [hw1]; simp
  have HT0 : Hid (∀ W, Below w1.heap.size w1 W → Below w.heap.size w W) := fun W h => HB1.out.trans (h.mono HB1.out.size)
  have HKd : Hid (∀ W, Below w1.heap.size w1 W → KindsLaid W) := fun W h => hK.below (HT0.out W h)
  have HC : Hid (Calls Tryz.prog 7 #[.agg #[.int .i64 4, .slice sao sl scap, .slice tao tl tcap, .int .i64 n]] w1 fun e w' => e = .returned .nilIface ∧ Below w1.heap.size w1 w') := hC w1 HB1.out
  obtain ⟨ps, hps⟩ : ∃ ps, ps = strOf ls := ⟨_, rfl⟩
  obtain ⟨pn, hpn⟩ : ∃ pn, pn = strOf ln := ⟨_, rfl⟩
  have fs : ps.size ≤ 20 := by rw [hps, strOf_size]; exact zs
  have fn : pn.size ≤ 20 := by rw [hpn, strOf_size]; exact zn
  rw [← hps] at hS
  rw [← hpn] at hN
  have HS : Hid (∀ W, Below w1.heap.size w1 W → Calls Tryz.prog 24 #[.slice sao sl scap] W fun e w' => e = .returned (.tuple #[.string ps, .nilIface]) ∧ Below W.heap.size W w') := fun W h => hS W (HT0.out W h)
  have HN : Hid (∀ W, Below w1.heap.size w1 W → Calls Tryz.prog 25 #[.int .i64 n] W fun e w' => e = .returned (.string pn) ∧ Below W.heap.size W w') := fun W h => hN W (HT0.out W h)
  obtain ⟨R, hR⟩ : ∃ R, R = strOf ([109, 111, 115, 116] ++ (32 :: ls) ++ (32 :: ln)) := ⟨_, rfl⟩
  rw [← hR]
  have HR : Hid (R.data.toList = [109, 111, 115, 116] ++ (32 :: ps.data.toList) ++ (32 :: pn.data.toList)) := by
    unfold Hid; rw [hR, hps, hpn]; simp only [strOf_list]
  clear hR hps hpn zs zn hC hS hK hN
  obtain ⟨x0, x1, x2, x3⟩ := HX.out
  go_enter Tryz.func9, Tryz.ntmps9
  go_wp2_with fail
  rw [← hw1]
  clear hw1
  go_wp2_with fail
  go_at_call 7
  refine HC.out.mono ?_
  rintro e w2 ⟨rfl, hb⟩
  have HZ2 : Hid (Below w1.heap.size w1 w2) := hb
  clear hb x0 x1 x2 x3
  have q0 : w2.cell? ⟨0, 12, none⟩ = some (.string ⟨#[109, 111, 115, 116]⟩) := HKd.out _ HZ2.out 12 (by decide)
  have q1 : w2.cell? ⟨0, 13, none⟩ = some (.bool false) := HKd.out _ HZ2.out 13 (by decide)
  have q2 : w2.cell? ⟨0, 14, none⟩ = some (.bool true) := HKd.out _ HZ2.out 14 (by decide)
  obtain ⟨x0, x1, x2, x3⟩ := HX.out.below HZ2.out HK1.out
  go_wp2_with fail
  go_at_call 24
  refine (HS.out _ HZ2.out).mono ?_
  rintro e w3 ⟨rfl, hb⟩
  have HZ3 : Hid (Below w1.heap.size w1 w3) := HZ2.out.trans (hb.mono HZ2.out.size)
  clear hb x0 x1 x2 x3 q0 q1 q2
  have q0 : w3.cell? ⟨0, 12, none⟩ = some (.string ⟨#[109, 111, 115, 116]⟩) := HKd.out _ HZ3.out 12 (by decide)
  have q1 : w3.cell? ⟨0, 13, none⟩ = some (.bool false) := HKd.out _ HZ3.out 13 (by decide)
  have q2 : w3.cell? ⟨0, 14, none⟩ = some (.bool true) := HKd.out _ HZ3.out 14 (by decide)
  obtain ⟨x0, x1, x2, x3⟩ := HX.out.below HZ3.out HK1.out
  go_wp2_with fail
  go_at_call 25
  refine (HN.out _ HZ3.out).mono ?_
  rintro e w5 ⟨rfl, hb⟩
  have HZ5 : Hid (Below w1.heap.size w1 w5) := HZ3.out.trans (hb.mono HZ3.out.size)
  clear hb x0 x1 x2 x3 q0 q1 q2
  go_wp2_with fail
  go_ret2
  refine ⟨back_str ?_, HT0.out _ HZ5.out⟩
  refine (str_eq (l := R.data.toList) ?_).trans (strOf_data R)
  rw [HR.out]
  simp


set_option maxHeartbeats 2000000 in
theorem aprint_5 (ls lt ln : List UInt8) (zs : ls.length ≤ 20) (zt : lt.length ≤ 20) (zn : ln.length ≤ 20) (n : Int) (sao tao : Option Addr) (sl scap tl tcap : Nat) (w : World) (hK : KindsLaid w)
    (hC : ∀ W, Below w.heap.size w W → Calls Tryz.prog 7 #[.agg #[.int .i64 5, .slice sao sl scap, .slice tao tl tcap, .int .i64 n]] W fun e w' => e = .returned .nilIface ∧ Below W.heap.size W w')
    (hS : ∀ W, Below w.heap.size w W → Calls Tryz.prog 24 #[.slice sao sl scap] W fun e w' => e = .returned (.tuple #[.string (strOf ls), .nilIface]) ∧ Below W.heap.size W w')
    (hT : ∀ W, Below w.heap.size w W → Calls Tryz.prog 24 #[.slice tao tl tcap] W fun e w' => e = .returned (.tuple #[.string (strOf lt), .nilIface]) ∧ Below W.heap.size W w')
    (hN : ∀ W, Below w.heap.size w W → Calls Tryz.prog 25 #[.int .i64 n] W fun e w' => e = .returned (.string (strOf ln)) ∧ Below W.heap.size W w')
    : Calls Tryz.prog 9 #[.agg #[.int .i64 5, .slice sao sl scap, .slice tao tl tcap, .int .i64 n]] w fun e w' => e = .returned (.tuple #[.string (strOf ([110, 111, 109, 111, 114, 101] ++ (32 :: ls) ++ (32 :: lt) ++ (32 :: ln))), .nilIface]) ∧ Below w.heap.size w w' := by
  obtain ⟨w1, hw1⟩ : ∃ w1, w1 = w.alloc (.cells #[.int .i64 5, .slice sao sl scap, .slice tao tl tcap, .int .i64 n] 24) := ⟨_, rfl⟩
  have HB1 : Hid (Below w.heap.size w w1) := by unfold Hid; rw [hw1]; exact below_alloc1 w _
  have HX : Hid (BoxA w1 w.heap.size 5 n (.slice sao sl scap) (.slice tao tl tcap)) := by unfold Hid; rw [hw1]; exact boxA_alloc w _ _ _ _
  have HK1 : Hid (w.heap.size < w1.heap.size) := by unfold Hid; rw [hw1]; simp
  have HT0 : Hid (∀ W, Below w1.heap.size w1 W → Below w.heap.size w W) := fun W h => HB1.out.trans (h.mono HB1.out.size)
  have HKd : Hid (∀ W, Below w1.heap.size w1 W → KindsLaid W) := fun W h => hK.below (HT0.out W h)
  have HC : Hid (Calls Tryz.prog 7 #[.agg #[.int .i64 5, .slice sao sl scap, .slice tao tl tcap, .int .i64 n]] w1 fun e w' => e = .returned .nilIface ∧ Below w1.heap.size w1 w') := hC w1 HB1.out
  obtain ⟨ps, hps⟩ : ∃ ps, ps = strOf ls := ⟨_, rfl⟩
  obtain ⟨pt, hpt⟩ : ∃ pt, pt = strOf lt := ⟨_, rfl⟩
  obtain ⟨pn, hpn⟩ : ∃ pn, pn = strOf ln := ⟨_, rfl⟩
  have fs : ps.size ≤ 20 := by rw [hps, strOf_size]; exact zs
  have ft : pt.size ≤ 20 := by rw [hpt, strOf_size]; exact zt
  have fn : pn.size ≤ 20 := by rw [hpn, strOf_size]; exact zn
  rw [← hps] at hS
  rw [← hpt] at hT
  rw [← hpn] at hN
  have HS : Hid (∀ W, Below w1.heap.size w1 W → Calls Tryz.prog 24 #[.slice sao sl scap] W fun e w' => e = .returned (.tuple #[.string ps, .nilIface]) ∧ Below W.heap.size W w') := fun W h => hS W (HT0.out W h)
  have HT : Hid (∀ W, Below w1.heap.size w1 W → Calls Tryz.prog 24 #[.slice tao tl tcap] W fun e w' => e = .returned (.tuple #[.string pt, .nilIface]) ∧ Below W.heap.size W w') := fun W h => hT W (HT0.out W h)
  have HN : Hid (∀ W, Below w1.heap.size w1 W → Calls Tryz.prog 25 #[.int .i64 n] W fun e w' => e = .returned (.string pn) ∧ Below W.heap.size W w') := fun W h => hN W (HT0.out W h)
  obtain ⟨R, hR⟩ : ∃ R, R = strOf ([110, 111, 109, 111, 114, 101] ++ (32 :: ls) ++ (32 :: lt) ++ (32 :: ln)) := ⟨_, rfl⟩
  rw [← hR]
  have HR : Hid (R.data.toList = [110, 111, 109, 111, 114, 101] ++ (32 :: ps.data.toList) ++ (32 :: pt.data.toList) ++ (32 :: pn.data.toList)) := by
    unfold Hid; rw [hR, hps, hpt, hpn]; simp only [strOf_list]
  clear hR hps hpt hpn zs zt zn hC hS hK hT hN
  obtain ⟨x0, x1, x2, x3⟩ := HX.out
  go_enter Tryz.func9, Tryz.ntmps9
  go_wp2_with fail
  rw [← hw1]
  clear hw1
  go_wp2_with fail
  go_at_call 7
  refine HC.out.mono ?_
  rintro e w2 ⟨rfl, hb⟩
  have HZ2 : Hid (Below w1.heap.size w1 w2) := hb
  clear hb x0 x1 x2 x3
  have q0 : w2.cell? ⟨0, 15, none⟩ = some (.string ⟨#[110, 111, 109, 111, 114, 101]⟩) := HKd.out _ HZ2.out 15 (by decide)
  have q1 : w2.cell? ⟨0, 16, none⟩ = some (.bool true) := HKd.out _ HZ2.out 16 (by decide)
  have q2 : w2.cell? ⟨0, 17, none⟩ = some (.bool true) := HKd.out _ HZ2.out 17 (by decide)
  obtain ⟨x0, x1, x2, x3⟩ := HX.out.below HZ2.out HK1.out
  go_wp2_with fail
  go_at_call 24
  refine (HS.out _ HZ2.out).mono ?_
  rintro e w3 ⟨rfl, hb⟩
  have HZ3 : Hid (Below w1.heap.size w1 w3) := HZ2.out.trans (hb.mono HZ2.out.size)
  clear hb x0 x1 x2 x3 q0 q1 q2
  have q0 : w3.cell? ⟨0, 15, none⟩ = some (.string ⟨#[110, 111, 109, 111, 114, 101]⟩) := HKd.out _ HZ3.out 15 (by decide)
  have q1 : w3.cell? ⟨0, 16, none⟩ = some (.bool true) := HKd.out _ HZ3.out 16 (by decide)
  have q2 : w3.cell? ⟨0, 17, none⟩ = some (.bool true) := HKd.out _ HZ3.out 17 (by decide)
  obtain ⟨x0, x1, x2, x3⟩ := HX.out.below HZ3.out HK1.out
  go_wp2_with fail
  go_at_call 24
  refine (HT.out _ HZ3.out).mono ?_
  rintro e w4 ⟨rfl, hb⟩
  have HZ4 : Hid (Below w1.heap.size w1 w4) := HZ3.out.trans (hb.mono HZ3.out.size)
  clear hb x0 x1 x2 x3 q0 q1 q2
  have q0 : w4.cell? ⟨0, 15, none⟩ = some (.string ⟨#[110, 111, 109, 111, 114, 101]⟩) := HKd.out _ HZ4.out 15 (by decide)
  have q1 : w4.cell? ⟨0, 16, none⟩ = some (.bool true) := HKd.out _ HZ4.out 16 (by decide)
  have q2 : w4.cell? ⟨0, 17, none⟩ = some (.bool true) := HKd.out _ HZ4.out 17 (by decide)
  obtain ⟨x0, x1, x2, x3⟩ := HX.out.below HZ4.out HK1.out
  go_wp2_with fail
  go_at_call 25
  refine (HN.out _ HZ4.out).mono ?_
  rintro e w5 ⟨rfl, hb⟩
  have HZ5 : Hid (Below w1.heap.size w1 w5) := HZ4.out.trans (hb.mono HZ4.out.size)
  clear hb x0 x1 x2 x3 q0 q1 q2
  go_wp2_with fail
  go_ret2
  refine ⟨back_str ?_, HT0.out _ HZ5.out⟩
  refine (str_eq (l := R.data.toList) ?_).trans (strOf_data R)
  rw [HR.out]
  simp


theorem digits_length (u : Nat) : (digitsN u).length ≤ 2 := by unfold digitsN; split <;> simp
theorem numText_length (n : Int) : (numText n).length ≤ 3 := by
  unfold numText
  split
  · have := digits_length n.natAbs; simp; omega
  · have := digits_length n.toNat; omega
/-- what Print answers. -/
def aprintS (k : Int) (s t : List Int) (n : Int) : ByteArray := if atomFault k s t n = 0 then strOf (atomText k s t n) else ⟨#[]⟩

/-- Print, whatever the atom. -/
theorem aprint_any (k n : Int) (vs vt : Value) (s t : List Int) (w : World) (hS : Reads w vs s) (hT : Reads w vt t) (hK : KindsLaid w) (hL : LibLaid w) :
    Calls Tryz.prog 9 #[.agg #[.int .i64 k, vs, vt, .int .i64 n]] w fun e w' => e = .returned (.tuple #[.string (aprintS k s t n), errV (atomFault k s t n)]) ∧ Below w.heap.size w w' := by
  have hC : ∀ W, Below w.heap.size w W → _ := fun W hW => acheck_any k n vs vt s t W (hS.below hW) (hT.below hW) (hK.below hW)
  have hPS : ∀ W, Below w.heap.size w W → _ := fun W hW => print_any s vs W (hS.below hW)
  have hPT : ∀ W, Below w.heap.size w W → _ := fun W hW => print_any t vt W (hT.below hW)
  obtain ⟨sao, scap, rfl, _⟩ := hS.slice
  obtain ⟨tao, tcap, rfl, _⟩ := hT.slice
  by_cases hf : atomFault k s t n = 0
  · obtain ⟨hk, hs, ht, n0, n1⟩ := atomFault_zero.1 hf
    have e0 : aprintS k s t n = strOf (atomText k s t n) := by unfold aprintS; rw [if_pos hf]
    have hm : mostN k ≤ 20 := by unfold mostN; split <;> omega
    rw [e0, hf, errV_0]
    rw [hf, errV_0] at hC
    have es : printS s = strOf (textN s) := by unfold printS; rw [if_pos hs]
    rw [es, hs, errV_0] at hPS
    have zs : (textN s).length ≤ 20 := by have := (fault_zero.1 hs).2.1; simp [textN]; omega
    have hsec : secondB k = true → (∀ W, Below w.heap.size w W → Calls Tryz.prog 24 #[.slice tao t.length tcap] W fun e w' => e = .returned (.tuple #[.string (strOf (textN t)), .nilIface]) ∧ Below W.heap.size W w') ∧ (textN t).length ≤ 20 := by
      intro h
      have h0 := second_reads ht h
      have et : printS t = strOf (textN t) := by unfold printS; rw [if_pos h0]
      rw [et, h0, errV_0] at hPT
      exact ⟨hPT, by have := (fault_zero.1 h0).2.1; simp [textN]; omega⟩
    have zn : (numText n).length ≤ 20 := by have := numText_length n; omega
    have hN : ∀ W, Below w.heap.size w W → Calls Tryz.prog 25 #[.int .i64 n] W fun e w' => e = .returned (.string (strOf (numText n))) ∧ Below W.heap.size W w' := fun W h => itoa_any n (by omega) (by omega) W (hL.below h)
    rcases five hk.1 hk.2 with rfl | rfl | rfl | rfl | rfl
    · obtain ⟨g1, g2⟩ := hsec (by decide)
      have := aprint_1 (textN s) (textN t) zs g2 n sao tao _ scap _ tcap w hK hC hPS g1
      simpa [atomText, kindWord, secondB, numberB] using this
    · obtain ⟨g1, g2⟩ := hsec (by decide)
      have := aprint_2 (textN s) (textN t) zs g2 n sao tao _ scap _ tcap w hK hC hPS g1
      simpa [atomText, kindWord, secondB, numberB] using this
    · have := aprint_3 (textN s) (numText n) zs zn n sao tao _ scap _ tcap w hK hC hPS hN
      simpa [atomText, kindWord, secondB, numberB] using this
    · have := aprint_4 (textN s) (numText n) zs zn n sao tao _ scap _ tcap w hK hC hPS hN
      simpa [atomText, kindWord, secondB, numberB] using this
    · obtain ⟨g1, g2⟩ := hsec (by decide)
      have := aprint_5 (textN s) (textN t) (numText n) zs g2 zn n sao tao _ scap _ tcap w hK hC hPS g1 hN
      simpa [atomText, kindWord, secondB, numberB] using this
  · have e0 : aprintS k s t n = ⟨#[]⟩ := by unfold aprintS; rw [if_neg hf]
    rw [e0, errV_no hf]
    rw [errV_no hf] at hC
    exact aprint_bad k _ n sao tao _ scap _ tcap w hC

end Go.Proofs.YtenmheenieifpabGreatDoor

namespace Go.Proofs.YtenmheenieifpabGreatDoor
open Go.ChangeShapes Go.WideShapes Go.ChangeAt Go.RowKit
set_option maxRecDepth 100000

theorem digit_cut : ∀ u : Nat, u < 10 → (⟨#[48, 49, 50, 51, 52, 53, 54, 55, 56, 57]⟩ : ByteArray).extract u (u + 1) = strOf [UInt8.ofNat (48 + u)] := by decide
theorem digits_low (u : Nat) (h : u < 10) (w : World) :
    Calls Tryz.prog 48 #[.int .i64 u] w fun e w' => e = .returned (.string (strOf (digitsN u))) ∧ w = w' := by
  have e : digitsN u = [UInt8.ofNat (48 + u)] := by unfold digitsN; rw [if_pos h]
  rw [e, ← digit_cut u h]
  have h1 : (u : Int) < 10 := by omega
  have h2 : (0 : Int) ≤ (u : Int) := by omega
  have h3 : (u : Int) ≤ (u : Int) + 1 := by omega
  have h4 : (u : Int) + 1 ≤ 10 := by omega
  clear e
  go_enter Tryz.func48, Tryz.ntmps48
  go_wp2
  go_ret
  exact ⟨rfl, rfl⟩
theorem digits_any (u : Nat) (h : u < 100) (w : World) :
    Calls Tryz.prog 48 #[.int .i64 u] w fun e w' => e = .returned (.string (strOf (digitsN u))) ∧ w = w' := by
  by_cases h1 : u < 10
  · exact digits_low u h1 w
  have HD : Hid (∀ W, Calls Tryz.prog 48 #[.int .i64 ((u / 10 : Nat) : Int)] W fun e w' => e = .returned (.string (strOf [UInt8.ofNat (48 + u / 10)])) ∧ W = w') := fun W => by
    have := digits_low (u / 10) (by omega) W
    have e : digitsN (u / 10) = [UInt8.ofNat (48 + u / 10)] := by unfold digitsN; rw [if_pos (by omega)]
    rw [e] at this
    exact this
  have e : digitsN u = [UInt8.ofNat (48 + u / 10), UInt8.ofNat (48 + u % 10)] := by unfold digitsN; rw [if_neg h1]
  obtain ⟨q, hq⟩ : ∃ q, q = u / 10 := ⟨_, rfl⟩
  obtain ⟨r, hr⟩ : ∃ r, r = u % 10 := ⟨_, rfl⟩
  rw [← hq] at HD e
  rw [← hr] at e
  have HE : Hid (strOf (digitsN u) = strOf [UInt8.ofNat (48 + q)] ++ (⟨#[48, 49, 50, 51, 52, 53, 54, 55, 56, 57]⟩ : ByteArray).extract r (r + 1)) := by
    unfold Hid
    rw [e, digit_cut r (by omega)]
    rfl
  obtain ⟨T, hT⟩ : ∃ T, T = strOf (digitsN u) := ⟨_, rfl⟩
  rw [← hT] at HE ⊢
  have hm : (u : Int) % 10 = (r : Int) := by rw [hr]; omega
  have hdv : (u : Int) / 10 = (q : Int) := by rw [hq]; omega
  have h10 : ¬ ((u : Int) < 10) := by omega
  have r0 : (0 : Int) ≤ (r : Int) := by omega
  have r1 : (r : Int) ≤ (r : Int) + 1 := by omega
  have r2 : (r : Int) + 1 ≤ 10 := by omega
  obtain ⟨Y, hY⟩ : ∃ Y, Y = strOf [UInt8.ofNat (48 + q)] := ⟨_, rfl⟩
  have hYs : Y.size ≤ 20 := by rw [hY, strOf_size]; simp
  rw [← hY] at HD HE
  clear e hT h1 hq hr hY
  go_enter Tryz.func48, Tryz.ntmps48
  go_wp2_with (go_at_call 48; refine (HD.out _).mono ?_; rintro e w' ⟨rfl, rfl⟩)
  go_ret
  exact ⟨back_v (congrArg Value.string HE.out.symm), rfl⟩
theorem refNumber_any (n : Int) (h0 : -99 ≤ n) (h1 : n ≤ 99) (w : World) :
    Calls Tryz.prog 23 #[.int .i64 n] w fun e w' => e = .returned (.string (strOf (numText n))) ∧ w = w' := by
  by_cases hn : n < 0
  · have e : numText n = 45 :: digitsN n.natAbs := by unfold numText; rw [if_pos hn]
    have HD : Hid (∀ W, Calls Tryz.prog 48 #[.int .i64 (-n)] W fun e w' => e = .returned (.string (strOf (digitsN n.natAbs))) ∧ W = w') := fun W => by
      have := digits_any n.natAbs (by omega) W
      rw [show ((n.natAbs : Nat) : Int) = -n by omega] at this
      exact this
    have HE : Hid (strOf (numText n) = (⟨#[45]⟩ : ByteArray) ++ strOf (digitsN n.natAbs)) := by unfold Hid; rw [e]; apply ByteArray.ext; simp [strOf]
    obtain ⟨T, hT⟩ : ∃ T, T = strOf (numText n) := ⟨_, rfl⟩
    obtain ⟨Y, hY⟩ : ∃ Y, Y = strOf (digitsN n.natAbs) := ⟨_, rfl⟩
    have hYs : Y.size ≤ 20 := by rw [hY, strOf_size]; have := digits_length n.natAbs; omega
    rw [← hT, ← hY] at HE
    rw [← hT]
    rw [← hY] at HD
    clear e hT hY
    go_enter Tryz.func23, Tryz.ntmps23
    go_wp2_with (go_at_call 48; refine (HD.out _).mono ?_; rintro e w' ⟨rfl, rfl⟩)
    go_ret
    exact ⟨back_v (congrArg Value.string HE.out.symm), rfl⟩
  · have HD : Hid (∀ W, Calls Tryz.prog 48 #[.int .i64 n] W fun e w' => e = .returned (.string (strOf (numText n))) ∧ W = w') := fun W => by
      have := digits_any n.toNat (by omega) W
      have e : numText n = digitsN n.toNat := by unfold numText; rw [if_neg hn]
      rw [e]
      rw [show ((n.toNat : Nat) : Int) = n by omega] at this
      exact this
    obtain ⟨T, hT⟩ : ∃ T, T = strOf (numText n) := ⟨_, rfl⟩
    rw [← hT] at HD ⊢
    clear hT
    go_enter Tryz.func23, Tryz.ntmps23
    go_wp2_with (go_at_call 48; refine (HD.out _).mono ?_; rintro e w' ⟨rfl, rfl⟩)
    go_ret
    exact ⟨rfl, rfl⟩
theorem refText_nil (ao : Option Addr) (cap : Nat) (w : World) :
    Calls Tryz.prog 22 #[.slice ao 0 cap] w fun e w' => e = .returned (.string ⟨#[]⟩) ∧ Below w.heap.size w w' := by
  go_enter Tryz.func22, Tryz.ntmps22
  go_wp2
  refine wp_loop_rounds 1 ?_
  rw [rounds_succ]
  go_wp2
  go_ret
  exact ⟨rfl, Below.refl _ _⟩

set_option linter.unusedVariables false in
set_option maxHeartbeats 2000000 in
theorem refAtomText_1 (n : Int) (sao tao : Option Addr) (sl scap tl tcap : Nat) (PS PT PN R : ByteArray) (zs : PS.size ≤ 20) (zt : PT.size ≤ 20) (zn : PN.size ≤ 20) (hR : R.data.toList = [115, 117, 98] ++ (32 :: PS.data.toList) ++ (32 :: PT.data.toList)) (w : World)
    (hS : ∀ W, Below w.heap.size w W → Calls Tryz.prog 22 #[.slice sao sl scap] W fun e w' => e = .returned (.string PS) ∧ Below W.heap.size W w')
    (hT : ∀ W, Below w.heap.size w W → Calls Tryz.prog 22 #[.slice tao tl tcap] W fun e w' => e = .returned (.string PT) ∧ Below W.heap.size W w')
    (hN : ∀ W, Calls Tryz.prog 23 #[.int .i64 n] W fun e w' => e = .returned (.string PN) ∧ W = w') :
    Calls Tryz.prog 8 #[.agg #[.int .i64 1, .slice sao sl scap, .slice tao tl tcap, .int .i64 n]] w fun e w' => e = .returned (.string R) ∧ Below w.heap.size w w' := by
  obtain ⟨w1, hw1⟩ : ∃ w1, w1 = w.alloc (.cells #[.int .i64 1, .slice sao sl scap, .slice tao tl tcap, .int .i64 n] 24) := ⟨_, rfl⟩
  have HB1 : Hid (Below w.heap.size w w1) := by unfold Hid; rw [hw1]; exact below_alloc1 w _
  have HX : Hid (BoxA w1 w.heap.size 1 n (.slice sao sl scap) (.slice tao tl tcap)) := by unfold Hid; rw [hw1]; exact boxA_alloc w _ _ _ _
  have HK1 : Hid (w.heap.size < w1.heap.size) := by unfold Hid; rw [hw1]; simp
  have HS : Hid (∀ W, Below w1.heap.size w1 W → _) := fun W h => hS W (HB1.out.trans (h.mono HB1.out.size))
  have HT : Hid (∀ W, Below w1.heap.size w1 W → _) := fun W h => hT W (HB1.out.trans (h.mono HB1.out.size))
  have HN : Hid (∀ W, _) := hN
  have HR : Hid (R.data.toList = [115, 117, 98] ++ (32 :: PS.data.toList) ++ (32 :: PT.data.toList)) := hR
  clear hS hT hN hR
  obtain ⟨x0, x1, x2, x3⟩ := HX.out
  go_enter Tryz.func8, Tryz.ntmps8
  go_wp2_with fail
  rw [← hw1]
  clear hw1
  go_at_call 22
  refine (HS.out w1 (Below.refl _ _)).mono ?_
  rintro e w2 ⟨rfl, hb⟩
  have HZ2 : Hid (Below w1.heap.size w1 w2) := hb
  clear hb x0 x1 x2 x3
  obtain ⟨x0, x1, x2, x3⟩ := HX.out.below HZ2.out HK1.out
  go_wp2_with fail
  go_at_call 22
  refine (HT.out w2 HZ2.out).mono ?_
  rintro e w3 ⟨rfl, hb⟩
  have HZ3 : Hid (Below w1.heap.size w1 w3) := HZ2.out.trans (hb.mono HZ2.out.size)
  clear hb x0 x1 x2 x3
  obtain ⟨x0, x1, x2, x3⟩ := HX.out.below HZ3.out HK1.out
  go_wp2_with fail
  go_at_call 23
  refine (HN.out _).mono ?_
  rintro e w' ⟨rfl, rfl⟩
  go_wp2
  go_ret
  refine ⟨back_v (congrArg Value.string ?_), HB1.out.trans (HZ3.out.mono HB1.out.size)⟩
  refine (str_eq (l := R.data.toList) ?_).trans (strOf_data R)
  rw [HR.out]
  simp

set_option linter.unusedVariables false in
set_option maxHeartbeats 2000000 in
theorem refAtomText_2 (n : Int) (sao tao : Option Addr) (sl scap tl tcap : Nat) (PS PT PN R : ByteArray) (zs : PS.size ≤ 20) (zt : PT.size ≤ 20) (zn : PN.size ≤ 20) (hR : R.data.toList = [115, 97, 109, 101] ++ (32 :: PS.data.toList) ++ (32 :: PT.data.toList)) (w : World)
    (hS : ∀ W, Below w.heap.size w W → Calls Tryz.prog 22 #[.slice sao sl scap] W fun e w' => e = .returned (.string PS) ∧ Below W.heap.size W w')
    (hT : ∀ W, Below w.heap.size w W → Calls Tryz.prog 22 #[.slice tao tl tcap] W fun e w' => e = .returned (.string PT) ∧ Below W.heap.size W w')
    (hN : ∀ W, Calls Tryz.prog 23 #[.int .i64 n] W fun e w' => e = .returned (.string PN) ∧ W = w') :
    Calls Tryz.prog 8 #[.agg #[.int .i64 2, .slice sao sl scap, .slice tao tl tcap, .int .i64 n]] w fun e w' => e = .returned (.string R) ∧ Below w.heap.size w w' := by
  obtain ⟨w1, hw1⟩ : ∃ w1, w1 = w.alloc (.cells #[.int .i64 2, .slice sao sl scap, .slice tao tl tcap, .int .i64 n] 24) := ⟨_, rfl⟩
  have HB1 : Hid (Below w.heap.size w w1) := by unfold Hid; rw [hw1]; exact below_alloc1 w _
  have HX : Hid (BoxA w1 w.heap.size 2 n (.slice sao sl scap) (.slice tao tl tcap)) := by unfold Hid; rw [hw1]; exact boxA_alloc w _ _ _ _
  have HK1 : Hid (w.heap.size < w1.heap.size) := by unfold Hid; rw [hw1]; simp
  have HS : Hid (∀ W, Below w1.heap.size w1 W → _) := fun W h => hS W (HB1.out.trans (h.mono HB1.out.size))
  have HT : Hid (∀ W, Below w1.heap.size w1 W → _) := fun W h => hT W (HB1.out.trans (h.mono HB1.out.size))
  have HN : Hid (∀ W, _) := hN
  have HR : Hid (R.data.toList = [115, 97, 109, 101] ++ (32 :: PS.data.toList) ++ (32 :: PT.data.toList)) := hR
  clear hS hT hN hR
  obtain ⟨x0, x1, x2, x3⟩ := HX.out
  go_enter Tryz.func8, Tryz.ntmps8
  go_wp2_with fail
  rw [← hw1]
  clear hw1
  go_at_call 22
  refine (HS.out w1 (Below.refl _ _)).mono ?_
  rintro e w2 ⟨rfl, hb⟩
  have HZ2 : Hid (Below w1.heap.size w1 w2) := hb
  clear hb x0 x1 x2 x3
  obtain ⟨x0, x1, x2, x3⟩ := HX.out.below HZ2.out HK1.out
  go_wp2_with fail
  go_at_call 22
  refine (HT.out w2 HZ2.out).mono ?_
  rintro e w3 ⟨rfl, hb⟩
  have HZ3 : Hid (Below w1.heap.size w1 w3) := HZ2.out.trans (hb.mono HZ2.out.size)
  clear hb x0 x1 x2 x3
  obtain ⟨x0, x1, x2, x3⟩ := HX.out.below HZ3.out HK1.out
  go_wp2_with fail
  go_at_call 23
  refine (HN.out _).mono ?_
  rintro e w' ⟨rfl, rfl⟩
  go_wp2
  go_ret
  refine ⟨back_v (congrArg Value.string ?_), HB1.out.trans (HZ3.out.mono HB1.out.size)⟩
  refine (str_eq (l := R.data.toList) ?_).trans (strOf_data R)
  rw [HR.out]
  simp

set_option linter.unusedVariables false in
set_option maxHeartbeats 2000000 in
theorem refAtomText_3 (n : Int) (sao tao : Option Addr) (sl scap tl tcap : Nat) (PS PT PN R : ByteArray) (zs : PS.size ≤ 20) (zt : PT.size ≤ 20) (zn : PN.size ≤ 20) (hR : R.data.toList = [108, 101, 97, 115, 116] ++ (32 :: PS.data.toList) ++ (32 :: PN.data.toList)) (w : World)
    (hS : ∀ W, Below w.heap.size w W → Calls Tryz.prog 22 #[.slice sao sl scap] W fun e w' => e = .returned (.string PS) ∧ Below W.heap.size W w')
    (hT : ∀ W, Below w.heap.size w W → Calls Tryz.prog 22 #[.slice tao tl tcap] W fun e w' => e = .returned (.string PT) ∧ Below W.heap.size W w')
    (hN : ∀ W, Calls Tryz.prog 23 #[.int .i64 n] W fun e w' => e = .returned (.string PN) ∧ W = w') :
    Calls Tryz.prog 8 #[.agg #[.int .i64 3, .slice sao sl scap, .slice tao tl tcap, .int .i64 n]] w fun e w' => e = .returned (.string R) ∧ Below w.heap.size w w' := by
  obtain ⟨w1, hw1⟩ : ∃ w1, w1 = w.alloc (.cells #[.int .i64 3, .slice sao sl scap, .slice tao tl tcap, .int .i64 n] 24) := ⟨_, rfl⟩
  have HB1 : Hid (Below w.heap.size w w1) := by unfold Hid; rw [hw1]; exact below_alloc1 w _
  have HX : Hid (BoxA w1 w.heap.size 3 n (.slice sao sl scap) (.slice tao tl tcap)) := by unfold Hid; rw [hw1]; exact boxA_alloc w _ _ _ _
  have HK1 : Hid (w.heap.size < w1.heap.size) := by unfold Hid; rw [hw1]; simp
  have HS : Hid (∀ W, Below w1.heap.size w1 W → _) := fun W h => hS W (HB1.out.trans (h.mono HB1.out.size))
  have HT : Hid (∀ W, Below w1.heap.size w1 W → _) := fun W h => hT W (HB1.out.trans (h.mono HB1.out.size))
  have HN : Hid (∀ W, _) := hN
  have HR : Hid (R.data.toList = [108, 101, 97, 115, 116] ++ (32 :: PS.data.toList) ++ (32 :: PN.data.toList)) := hR
  clear hS hT hN hR
  obtain ⟨x0, x1, x2, x3⟩ := HX.out
  go_enter Tryz.func8, Tryz.ntmps8
  go_wp2_with fail
  rw [← hw1]
  clear hw1
  go_at_call 22
  refine (HS.out w1 (Below.refl _ _)).mono ?_
  rintro e w2 ⟨rfl, hb⟩
  have HZ2 : Hid (Below w1.heap.size w1 w2) := hb
  clear hb x0 x1 x2 x3
  obtain ⟨x0, x1, x2, x3⟩ := HX.out.below HZ2.out HK1.out
  go_wp2_with fail
  go_at_call 22
  refine (HT.out w2 HZ2.out).mono ?_
  rintro e w3 ⟨rfl, hb⟩
  have HZ3 : Hid (Below w1.heap.size w1 w3) := HZ2.out.trans (hb.mono HZ2.out.size)
  clear hb x0 x1 x2 x3
  obtain ⟨x0, x1, x2, x3⟩ := HX.out.below HZ3.out HK1.out
  go_wp2_with fail
  go_at_call 23
  refine (HN.out _).mono ?_
  rintro e w' ⟨rfl, rfl⟩
  go_wp2
  go_ret
  refine ⟨back_v (congrArg Value.string ?_), HB1.out.trans (HZ3.out.mono HB1.out.size)⟩
  refine (str_eq (l := R.data.toList) ?_).trans (strOf_data R)
  rw [HR.out]
  simp

set_option linter.unusedVariables false in
set_option maxHeartbeats 2000000 in
theorem refAtomText_4 (n : Int) (sao tao : Option Addr) (sl scap tl tcap : Nat) (PS PT PN R : ByteArray) (zs : PS.size ≤ 20) (zt : PT.size ≤ 20) (zn : PN.size ≤ 20) (hR : R.data.toList = [109, 111, 115, 116] ++ (32 :: PS.data.toList) ++ (32 :: PN.data.toList)) (w : World)
    (hS : ∀ W, Below w.heap.size w W → Calls Tryz.prog 22 #[.slice sao sl scap] W fun e w' => e = .returned (.string PS) ∧ Below W.heap.size W w')
    (hT : ∀ W, Below w.heap.size w W → Calls Tryz.prog 22 #[.slice tao tl tcap] W fun e w' => e = .returned (.string PT) ∧ Below W.heap.size W w')
    (hN : ∀ W, Calls Tryz.prog 23 #[.int .i64 n] W fun e w' => e = .returned (.string PN) ∧ W = w') :
    Calls Tryz.prog 8 #[.agg #[.int .i64 4, .slice sao sl scap, .slice tao tl tcap, .int .i64 n]] w fun e w' => e = .returned (.string R) ∧ Below w.heap.size w w' := by
  obtain ⟨w1, hw1⟩ : ∃ w1, w1 = w.alloc (.cells #[.int .i64 4, .slice sao sl scap, .slice tao tl tcap, .int .i64 n] 24) := ⟨_, rfl⟩
  have HB1 : Hid (Below w.heap.size w w1) := by unfold Hid; rw [hw1]; exact below_alloc1 w _
  have HX : Hid (BoxA w1 w.heap.size 4 n (.slice sao sl scap) (.slice tao tl tcap)) := by unfold Hid; rw [hw1]; exact boxA_alloc w _ _ _ _
  have HK1 : Hid (w.heap.size < w1.heap.size) := by unfold Hid; rw [hw1]; simp
  have HS : Hid (∀ W, Below w1.heap.size w1 W → _) := fun W h => hS W (HB1.out.trans (h.mono HB1.out.size))
  have HT : Hid (∀ W, Below w1.heap.size w1 W → _) := fun W h => hT W (HB1.out.trans (h.mono HB1.out.size))
  have HN : Hid (∀ W, _) := hN
  have HR : Hid (R.data.toList = [109, 111, 115, 116] ++ (32 :: PS.data.toList) ++ (32 :: PN.data.toList)) := hR
  clear hS hT hN hR
  obtain ⟨x0, x1, x2, x3⟩ := HX.out
  go_enter Tryz.func8, Tryz.ntmps8
  go_wp2_with fail
  rw [← hw1]
  clear hw1
  go_at_call 22
  refine (HS.out w1 (Below.refl _ _)).mono ?_
  rintro e w2 ⟨rfl, hb⟩
  have HZ2 : Hid (Below w1.heap.size w1 w2) := hb
  clear hb x0 x1 x2 x3
  obtain ⟨x0, x1, x2, x3⟩ := HX.out.below HZ2.out HK1.out
  go_wp2_with fail
  go_at_call 22
  refine (HT.out w2 HZ2.out).mono ?_
  rintro e w3 ⟨rfl, hb⟩
  have HZ3 : Hid (Below w1.heap.size w1 w3) := HZ2.out.trans (hb.mono HZ2.out.size)
  clear hb x0 x1 x2 x3
  obtain ⟨x0, x1, x2, x3⟩ := HX.out.below HZ3.out HK1.out
  go_wp2_with fail
  go_at_call 23
  refine (HN.out _).mono ?_
  rintro e w' ⟨rfl, rfl⟩
  go_wp2
  go_ret
  refine ⟨back_v (congrArg Value.string ?_), HB1.out.trans (HZ3.out.mono HB1.out.size)⟩
  refine (str_eq (l := R.data.toList) ?_).trans (strOf_data R)
  rw [HR.out]
  simp

set_option linter.unusedVariables false in
set_option maxHeartbeats 2000000 in
theorem refAtomText_5 (n : Int) (sao tao : Option Addr) (sl scap tl tcap : Nat) (PS PT PN R : ByteArray) (zs : PS.size ≤ 20) (zt : PT.size ≤ 20) (zn : PN.size ≤ 20) (hR : R.data.toList = [110, 111, 109, 111, 114, 101] ++ (32 :: PS.data.toList) ++ (32 :: PT.data.toList) ++ (32 :: PN.data.toList)) (w : World)
    (hS : ∀ W, Below w.heap.size w W → Calls Tryz.prog 22 #[.slice sao sl scap] W fun e w' => e = .returned (.string PS) ∧ Below W.heap.size W w')
    (hT : ∀ W, Below w.heap.size w W → Calls Tryz.prog 22 #[.slice tao tl tcap] W fun e w' => e = .returned (.string PT) ∧ Below W.heap.size W w')
    (hN : ∀ W, Calls Tryz.prog 23 #[.int .i64 n] W fun e w' => e = .returned (.string PN) ∧ W = w') :
    Calls Tryz.prog 8 #[.agg #[.int .i64 5, .slice sao sl scap, .slice tao tl tcap, .int .i64 n]] w fun e w' => e = .returned (.string R) ∧ Below w.heap.size w w' := by
  obtain ⟨w1, hw1⟩ : ∃ w1, w1 = w.alloc (.cells #[.int .i64 5, .slice sao sl scap, .slice tao tl tcap, .int .i64 n] 24) := ⟨_, rfl⟩
  have HB1 : Hid (Below w.heap.size w w1) := by unfold Hid; rw [hw1]; exact below_alloc1 w _
  have HX : Hid (BoxA w1 w.heap.size 5 n (.slice sao sl scap) (.slice tao tl tcap)) := by unfold Hid; rw [hw1]; exact boxA_alloc w _ _ _ _
  have HK1 : Hid (w.heap.size < w1.heap.size) := by unfold Hid; rw [hw1]; simp
  have HS : Hid (∀ W, Below w1.heap.size w1 W → _) := fun W h => hS W (HB1.out.trans (h.mono HB1.out.size))
  have HT : Hid (∀ W, Below w1.heap.size w1 W → _) := fun W h => hT W (HB1.out.trans (h.mono HB1.out.size))
  have HN : Hid (∀ W, _) := hN
  have HR : Hid (R.data.toList = [110, 111, 109, 111, 114, 101] ++ (32 :: PS.data.toList) ++ (32 :: PT.data.toList) ++ (32 :: PN.data.toList)) := hR
  clear hS hT hN hR
  obtain ⟨x0, x1, x2, x3⟩ := HX.out
  go_enter Tryz.func8, Tryz.ntmps8
  go_wp2_with fail
  rw [← hw1]
  clear hw1
  go_at_call 22
  refine (HS.out w1 (Below.refl _ _)).mono ?_
  rintro e w2 ⟨rfl, hb⟩
  have HZ2 : Hid (Below w1.heap.size w1 w2) := hb
  clear hb x0 x1 x2 x3
  obtain ⟨x0, x1, x2, x3⟩ := HX.out.below HZ2.out HK1.out
  go_wp2_with fail
  go_at_call 22
  refine (HT.out w2 HZ2.out).mono ?_
  rintro e w3 ⟨rfl, hb⟩
  have HZ3 : Hid (Below w1.heap.size w1 w3) := HZ2.out.trans (hb.mono HZ2.out.size)
  clear hb x0 x1 x2 x3
  obtain ⟨x0, x1, x2, x3⟩ := HX.out.below HZ3.out HK1.out
  go_wp2_with fail
  go_at_call 23
  refine (HN.out _).mono ?_
  rintro e w' ⟨rfl, rfl⟩
  go_wp2
  go_ret
  refine ⟨back_v (congrArg Value.string ?_), HB1.out.trans (HZ3.out.mono HB1.out.size)⟩
  refine (str_eq (l := R.data.toList) ?_).trans (strOf_data R)
  rw [HR.out]
  simp

/-- AtomText, of a right atom. -/
theorem refAtomText_any (k n : Int) (vs vt : Value) (s t : List Int) (hf : atomFault k s t n = 0) (w : World) (hS : Reads w vs s) (hT : Reads w vt t) :
    Calls Tryz.prog 8 #[.agg #[.int .i64 k, vs, vt, .int .i64 n]] w fun e w' => e = .returned (.string (strOf (atomText k s t n))) ∧ Below w.heap.size w w' := by
  obtain ⟨hk, hs, ht, n0, n1⟩ := atomFault_zero.1 hf
  have hm : mostN k ≤ 20 := by unfold mostN; split <;> omega
  have text : ∀ (v : Value) (x : List Int), (faultN x = 0 ∨ x = []) → Reads w v x → ∀ W, Below w.heap.size w W → Calls Tryz.prog 22 #[v] W fun e w' => e = .returned (.string (strOf (textN x))) ∧ Below W.heap.size W w' := fun v x hx hR W hW => by
    rcases hR.below hW with ⟨ao, cap, rfl, rfl⟩ | ⟨B, off, cap, rfl, hB, h0, _, hc⟩
    · exact refText_nil ao cap W
    · rcases hx with hx | rfl
      · exact refText_any x B off cap W hx ⟨hB, hc⟩
      · simp at h0
  have h1 := text vs s (Or.inl hs) hS
  have htx : faultN t = 0 ∨ t = [] := by
    by_cases h2 : secondB k = true
    · exact Or.inl (second_reads ht h2)
    · right
      unfold secondFault at ht
      rw [if_neg h2] at ht
      by_cases hl : 0 < t.length
      · rw [if_pos hl] at ht; cases ht
      · exact List.length_eq_zero_iff.1 (by omega)
  have h2 := text vt t htx hT
  have h3 := fun (W : World) => refNumber_any n (by omega) (by omega) W
  have zs : (strOf (textN s)).size ≤ 20 := by rw [strOf_size]; have := (fault_zero.1 hs).2.1; simp [textN]; omega
  have zt : (strOf (textN t)).size ≤ 20 := by
    rw [strOf_size]
    rcases htx with h | rfl
    · have := (fault_zero.1 h).2.1; simp [textN]; omega
    · simp [textN]
  have zn : (strOf (numText n)).size ≤ 20 := by rw [strOf_size]; have := numText_length n; omega
  obtain ⟨sao, scap, rfl, _⟩ := hS.slice
  obtain ⟨tao, tcap, rfl, _⟩ := hT.slice
  rcases five hk.1 hk.2 with rfl | rfl | rfl | rfl | rfl
  · exact refAtomText_1 n sao tao _ scap _ tcap _ _ _ _ zs zt zn (by simp only [strOf_list]; simp [atomText, kindWord, secondB, numberB]) w h1 h2 h3
  · exact refAtomText_2 n sao tao _ scap _ tcap _ _ _ _ zs zt zn (by simp only [strOf_list]; simp [atomText, kindWord, secondB, numberB]) w h1 h2 h3
  · exact refAtomText_3 n sao tao _ scap _ tcap _ _ _ _ zs zt zn (by simp only [strOf_list]; simp [atomText, kindWord, secondB, numberB]) w h1 h2 h3
  · exact refAtomText_4 n sao tao _ scap _ tcap _ _ _ _ zs zt zn (by simp only [strOf_list]; simp [atomText, kindWord, secondB, numberB]) w h1 h2 h3
  · exact refAtomText_5 n sao tao _ scap _ tcap _ _ _ _ zs zt zn (by simp only [strOf_list]; simp [atomText, kindWord, secondB, numberB]) w h1 h2 h3
end Go.Proofs.YtenmheenieifpabGreatDoor

namespace Go.Proofs.YtenmheenieifpabGreatDoor
open Go.ChangeShapes Go.WideShapes Go.ChangeAt Go.RowKit
set_option maxRecDepth 100000

/-- vennref1.Value of a right term that is read. -/
theorem refValue_reads (t : List Int) (hf : faultN t = 0) (v : Value) (u a b c : Int) (hok : (Wd.mk u a b c).ok = true) (w : World) (h : Reads w v t) :
    Calls Tryz.prog 27 #[v, .agg #[.int .i64 u, .int .i64 a, .int .i64 b, .int .i64 c]] w fun e w' => e = .returned (.int .i64 ((Wd.mk u a b c).val t)) ∧ Below w.heap.size w w' := by
  rcases h with ⟨ao, cap, rfl, rfl⟩ | ⟨B, off, cap, rfl, hB, _, ⟨_, hcap⟩, hc⟩
  · exact absurd hf (by decide)
  · exact refValue_any t hf u a b c hok B off cap hcap w ⟨hB, hc⟩

set_option linter.unusedVariables false in
set_option maxHeartbeats 4000000 in
theorem refHolds_1 (n : Int) (sao tao : Option Addr) (sl scap tl tcap : Nat) (u a b c x y z zy : Int) (n0 : -20 ≤ n) (n1 : n ≤ 20) (hz : 0 ≤ z ∧ z ≤ 6) (hzy : 0 ≤ zy ∧ zy ≤ 6) (w : World)
    (hS : ∀ W, Below w.heap.size w W → Calls Tryz.prog 27 #[.slice sao sl scap, .agg #[.int .i64 u, .int .i64 a, .int .i64 b, .int .i64 c]] W fun e w' => e = .returned (.int .i64 x) ∧ Below W.heap.size W w')
    (hZ : ∀ W, Calls Tryz.prog 28 #[.int .i64 x] W fun e w' => e = .returned (.int .i64 z) ∧ W = w')
    (hT : ∀ W, Below w.heap.size w W → Calls Tryz.prog 27 #[.slice tao tl tcap, .agg #[.int .i64 u, .int .i64 a, .int .i64 b, .int .i64 c]] W fun e w' => e = .returned (.int .i64 y) ∧ Below W.heap.size W w')
    (hZy : ∀ W, Calls Tryz.prog 28 #[.int .i64 y] W fun e w' => e = .returned (.int .i64 zy) ∧ W = w')
    (hD : ∀ W, Calls Tryz.prog 29 #[.int .i64 7, .int .i64 u, .int .i64 x, .int .i64 y] W fun e w' => e = .returned (.int .i64 (lessN x y)) ∧ W = w') :
    Calls Tryz.prog 11 #[.agg #[.int .i64 1, .slice sao sl scap, .slice tao tl tcap, .int .i64 n], .agg #[.int .i64 u, .int .i64 a, .int .i64 b, .int .i64 c]] w fun e w' => e = .returned (.bool (decide (lessN x y = 0))) ∧ Below w.heap.size w w' := by
  obtain ⟨w1, hw1⟩ : ∃ w1, w1 = (w.alloc (.cells #[.int .i64 1, .slice sao sl scap, .slice tao tl tcap, .int .i64 n] 24)).alloc (.cells #[.int .i64 u, .int .i64 a, .int .i64 b, .int .i64 c] 27) := ⟨_, rfl⟩
  have HB1 : Hid (Below w.heap.size w w1) := by unfold Hid; rw [hw1]; exact (below_alloc1 _ _).trans ((below_alloc1 _ _).mono (by simp))
  have HS1 : Hid (w1.heap.size = w.heap.size + 2) := by unfold Hid; rw [hw1]; simp
  have HX : Hid (∀ W, Below w1.heap.size w1 W → (W.cell? ⟨w.heap.size, 0, none⟩ = some (.int .i64 1) ∧ W.cell? ⟨w.heap.size, 1, none⟩ = some (.slice sao sl scap) ∧ W.cell? ⟨w.heap.size, 2, none⟩ = some (.slice tao tl tcap) ∧ W.cell? ⟨w.heap.size, 3, none⟩ = some (.int .i64 n)) ∧ (W.cell? ⟨w.heap.size + 1, 0, none⟩ = some (.int .i64 u) ∧ W.cell? ⟨w.heap.size + 1, 1, none⟩ = some (.int .i64 a) ∧ W.cell? ⟨w.heap.size + 1, 2, none⟩ = some (.int .i64 b) ∧ W.cell? ⟨w.heap.size + 1, 3, none⟩ = some (.int .i64 c))) := fun W hc => by
    have l0 : w.heap.size < w1.heap.size := by have := HS1.out; omega
    have l1 : w.heap.size + 1 < w1.heap.size := by have := HS1.out; omega
    have e0 : ∀ j, W.cell? ⟨w.heap.size, j, none⟩ = w1.cell? ⟨w.heap.size, j, none⟩ := fun j => hc.cell (show (⟨w.heap.size, j, none⟩ : Addr).block < _ from l0)
    have e1 : ∀ j, W.cell? ⟨w.heap.size + 1, j, none⟩ = w1.cell? ⟨w.heap.size + 1, j, none⟩ := fun j => hc.cell (show (⟨w.heap.size + 1, j, none⟩ : Addr).block < _ from l1)
    simp only [e0, e1]
    rw [hw1]
    have q : w.heap.size + 1 = (w.alloc (.cells #[.int .i64 1, .slice sao sl scap, .slice tao tl tcap, .int .i64 n] 24)).heap.size := by simp
    have r : ∀ o j, ((w.alloc (.cells #[.int .i64 1, .slice sao sl scap, .slice tao tl tcap, .int .i64 n] 24)).alloc o).cell? ⟨w.heap.size, j, none⟩ = (w.alloc (.cells #[.int .i64 1, .slice sao sl scap, .slice tao tl tcap, .int .i64 n] 24)).cell? ⟨w.heap.size, j, none⟩ := fun o j => World.cell?_alloc_lt _ _ ⟨w.heap.size, j, none⟩ (by simp)
    simp only [r]
    rw [q]
    simp
  have HV : Hid (∀ W, Below w1.heap.size w1 W → _) := fun W hW => hS W (HB1.out.trans (hW.mono HB1.out.size))
  have HV2 : Hid (∀ W, Below w1.heap.size w1 W → _) := fun W hW => hT W (HB1.out.trans (hW.mono HB1.out.size))
  have HZy : Hid (∀ W, _) := hZy
  have HD : Hid (∀ W, _) := hD
  clear hT hZy hD
  have HZ : Hid (∀ W, _) := hZ
  clear hS hZ
  have HB : Hid (Below w1.heap.size w1 w1) := Below.refl _ _
  obtain ⟨⟨x0, x1, x2, x3⟩, ⟨y0, y1, y2, y3⟩⟩ := HX.out w1 HB.out
  rw [hw1] at x0 x1 x2 x3 y0 y1 y2 y3
  go_enter Tryz.func11, Tryz.ntmps11
  go_wp2_with fail
  rw [← hw1]
  clear hw1 x0 x1 x2 x3 y0 y1 y2 y3
  go_at_call 27
  refine (HV.out _ HB.out).mono ?_
  rintro e w2 ⟨rfl, hb⟩
  have HB : Hid (Below w1.heap.size w1 w2) := HB.out.trans (hb.mono HB.out.size)
  clear hb
  obtain ⟨⟨x0, x1, x2, x3⟩, ⟨y0, y1, y2, y3⟩⟩ := HX.out w2 HB.out
  go_wp2_with fail
  go_at_call 28
  refine (HZ.out _).mono ?_
  rintro e w' ⟨rfl, rfl⟩
  go_wp2_with fail
  go_at_call 27
  refine (HV2.out _ HB.out).mono ?_
  rintro e w3 ⟨rfl, hb⟩
  have HB : Hid (Below w1.heap.size w1 w3) := HB.out.trans (hb.mono HB.out.size)
  clear hb
  clear x0 x1 x2 x3 y0 y1 y2 y3
  obtain ⟨⟨x0, x1, x2, x3⟩, ⟨y0, y1, y2, y3⟩⟩ := HX.out w3 HB.out
  go_wp2_with fail
  go_at_call 29
  refine (HD.out _).mono ?_
  rintro e w' ⟨rfl, rfl⟩
  go_wp2
  go_ret
  refine ⟨?_, HB1.out.trans (HB.out.mono HB1.out.size)⟩
  first | rfl | exact back_b (by simp) | (refine back_b ?_; exact (beq_eq_decide _ _)) | simp

set_option linter.unusedVariables false in
set_option maxHeartbeats 4000000 in
theorem refHolds_2 (n : Int) (sao tao : Option Addr) (sl scap tl tcap : Nat) (u a b c x y z zy : Int) (n0 : -20 ≤ n) (n1 : n ≤ 20) (hz : 0 ≤ z ∧ z ≤ 6) (hzy : 0 ≤ zy ∧ zy ≤ 6) (w : World)
    (hS : ∀ W, Below w.heap.size w W → Calls Tryz.prog 27 #[.slice sao sl scap, .agg #[.int .i64 u, .int .i64 a, .int .i64 b, .int .i64 c]] W fun e w' => e = .returned (.int .i64 x) ∧ Below W.heap.size W w')
    (hZ : ∀ W, Calls Tryz.prog 28 #[.int .i64 x] W fun e w' => e = .returned (.int .i64 z) ∧ W = w')
    (hT : ∀ W, Below w.heap.size w W → Calls Tryz.prog 27 #[.slice tao tl tcap, .agg #[.int .i64 u, .int .i64 a, .int .i64 b, .int .i64 c]] W fun e w' => e = .returned (.int .i64 y) ∧ Below W.heap.size W w')
    (hZy : ∀ W, Calls Tryz.prog 28 #[.int .i64 y] W fun e w' => e = .returned (.int .i64 zy) ∧ W = w')
    (hD : ∀ W, Calls Tryz.prog 29 #[.int .i64 7, .int .i64 u, .int .i64 x, .int .i64 y] W fun e w' => e = .returned (.int .i64 (lessN x y)) ∧ W = w') :
    Calls Tryz.prog 11 #[.agg #[.int .i64 2, .slice sao sl scap, .slice tao tl tcap, .int .i64 n], .agg #[.int .i64 u, .int .i64 a, .int .i64 b, .int .i64 c]] w fun e w' => e = .returned (.bool (decide (x = y))) ∧ Below w.heap.size w w' := by
  obtain ⟨w1, hw1⟩ : ∃ w1, w1 = (w.alloc (.cells #[.int .i64 2, .slice sao sl scap, .slice tao tl tcap, .int .i64 n] 24)).alloc (.cells #[.int .i64 u, .int .i64 a, .int .i64 b, .int .i64 c] 27) := ⟨_, rfl⟩
  have HB1 : Hid (Below w.heap.size w w1) := by unfold Hid; rw [hw1]; exact (below_alloc1 _ _).trans ((below_alloc1 _ _).mono (by simp))
  have HS1 : Hid (w1.heap.size = w.heap.size + 2) := by unfold Hid; rw [hw1]; simp
  have HX : Hid (∀ W, Below w1.heap.size w1 W → (W.cell? ⟨w.heap.size, 0, none⟩ = some (.int .i64 2) ∧ W.cell? ⟨w.heap.size, 1, none⟩ = some (.slice sao sl scap) ∧ W.cell? ⟨w.heap.size, 2, none⟩ = some (.slice tao tl tcap) ∧ W.cell? ⟨w.heap.size, 3, none⟩ = some (.int .i64 n)) ∧ (W.cell? ⟨w.heap.size + 1, 0, none⟩ = some (.int .i64 u) ∧ W.cell? ⟨w.heap.size + 1, 1, none⟩ = some (.int .i64 a) ∧ W.cell? ⟨w.heap.size + 1, 2, none⟩ = some (.int .i64 b) ∧ W.cell? ⟨w.heap.size + 1, 3, none⟩ = some (.int .i64 c))) := fun W hc => by
    have l0 : w.heap.size < w1.heap.size := by have := HS1.out; omega
    have l1 : w.heap.size + 1 < w1.heap.size := by have := HS1.out; omega
    have e0 : ∀ j, W.cell? ⟨w.heap.size, j, none⟩ = w1.cell? ⟨w.heap.size, j, none⟩ := fun j => hc.cell (show (⟨w.heap.size, j, none⟩ : Addr).block < _ from l0)
    have e1 : ∀ j, W.cell? ⟨w.heap.size + 1, j, none⟩ = w1.cell? ⟨w.heap.size + 1, j, none⟩ := fun j => hc.cell (show (⟨w.heap.size + 1, j, none⟩ : Addr).block < _ from l1)
    simp only [e0, e1]
    rw [hw1]
    have q : w.heap.size + 1 = (w.alloc (.cells #[.int .i64 2, .slice sao sl scap, .slice tao tl tcap, .int .i64 n] 24)).heap.size := by simp
    have r : ∀ o j, ((w.alloc (.cells #[.int .i64 2, .slice sao sl scap, .slice tao tl tcap, .int .i64 n] 24)).alloc o).cell? ⟨w.heap.size, j, none⟩ = (w.alloc (.cells #[.int .i64 2, .slice sao sl scap, .slice tao tl tcap, .int .i64 n] 24)).cell? ⟨w.heap.size, j, none⟩ := fun o j => World.cell?_alloc_lt _ _ ⟨w.heap.size, j, none⟩ (by simp)
    simp only [r]
    rw [q]
    simp
  have HV : Hid (∀ W, Below w1.heap.size w1 W → _) := fun W hW => hS W (HB1.out.trans (hW.mono HB1.out.size))
  have HV2 : Hid (∀ W, Below w1.heap.size w1 W → _) := fun W hW => hT W (HB1.out.trans (hW.mono HB1.out.size))
  have HZy : Hid (∀ W, _) := hZy
  have HD : Hid (∀ W, _) := hD
  clear hT hZy hD
  have HZ : Hid (∀ W, _) := hZ
  clear hS hZ
  have HB : Hid (Below w1.heap.size w1 w1) := Below.refl _ _
  obtain ⟨⟨x0, x1, x2, x3⟩, ⟨y0, y1, y2, y3⟩⟩ := HX.out w1 HB.out
  rw [hw1] at x0 x1 x2 x3 y0 y1 y2 y3
  go_enter Tryz.func11, Tryz.ntmps11
  go_wp2_with fail
  rw [← hw1]
  clear hw1 x0 x1 x2 x3 y0 y1 y2 y3
  go_at_call 27
  refine (HV.out _ HB.out).mono ?_
  rintro e w2 ⟨rfl, hb⟩
  have HB : Hid (Below w1.heap.size w1 w2) := HB.out.trans (hb.mono HB.out.size)
  clear hb
  obtain ⟨⟨x0, x1, x2, x3⟩, ⟨y0, y1, y2, y3⟩⟩ := HX.out w2 HB.out
  go_wp2_with fail
  go_at_call 28
  refine (HZ.out _).mono ?_
  rintro e w' ⟨rfl, rfl⟩
  go_wp2_with fail
  go_at_call 27
  refine (HV2.out _ HB.out).mono ?_
  rintro e w3 ⟨rfl, hb⟩
  have HB : Hid (Below w1.heap.size w1 w3) := HB.out.trans (hb.mono HB.out.size)
  clear hb
  clear x0 x1 x2 x3 y0 y1 y2 y3
  obtain ⟨⟨x0, x1, x2, x3⟩, ⟨y0, y1, y2, y3⟩⟩ := HX.out w3 HB.out
  go_wp2
  go_ret
  refine ⟨?_, HB1.out.trans (HB.out.mono HB1.out.size)⟩
  first | rfl | exact back_b (by simp) | (refine back_b ?_; exact (beq_eq_decide _ _)) | simp

set_option linter.unusedVariables false in
set_option maxHeartbeats 4000000 in
theorem refHolds_3 (n : Int) (sao tao : Option Addr) (sl scap tl tcap : Nat) (u a b c x y z zy : Int) (n0 : -20 ≤ n) (n1 : n ≤ 20) (hz : 0 ≤ z ∧ z ≤ 6) (hzy : 0 ≤ zy ∧ zy ≤ 6) (w : World)
    (hS : ∀ W, Below w.heap.size w W → Calls Tryz.prog 27 #[.slice sao sl scap, .agg #[.int .i64 u, .int .i64 a, .int .i64 b, .int .i64 c]] W fun e w' => e = .returned (.int .i64 x) ∧ Below W.heap.size W w')
    (hZ : ∀ W, Calls Tryz.prog 28 #[.int .i64 x] W fun e w' => e = .returned (.int .i64 z) ∧ W = w') :
    Calls Tryz.prog 11 #[.agg #[.int .i64 3, .slice sao sl scap, .slice tao tl tcap, .int .i64 n], .agg #[.int .i64 u, .int .i64 a, .int .i64 b, .int .i64 c]] w fun e w' => e = .returned (.bool (decide (n ≤ z))) ∧ Below w.heap.size w w' := by
  obtain ⟨w1, hw1⟩ : ∃ w1, w1 = (w.alloc (.cells #[.int .i64 3, .slice sao sl scap, .slice tao tl tcap, .int .i64 n] 24)).alloc (.cells #[.int .i64 u, .int .i64 a, .int .i64 b, .int .i64 c] 27) := ⟨_, rfl⟩
  have HB1 : Hid (Below w.heap.size w w1) := by unfold Hid; rw [hw1]; exact (below_alloc1 _ _).trans ((below_alloc1 _ _).mono (by simp))
  have HS1 : Hid (w1.heap.size = w.heap.size + 2) := by unfold Hid; rw [hw1]; simp
  have HX : Hid (∀ W, Below w1.heap.size w1 W → (W.cell? ⟨w.heap.size, 0, none⟩ = some (.int .i64 3) ∧ W.cell? ⟨w.heap.size, 1, none⟩ = some (.slice sao sl scap) ∧ W.cell? ⟨w.heap.size, 2, none⟩ = some (.slice tao tl tcap) ∧ W.cell? ⟨w.heap.size, 3, none⟩ = some (.int .i64 n)) ∧ (W.cell? ⟨w.heap.size + 1, 0, none⟩ = some (.int .i64 u) ∧ W.cell? ⟨w.heap.size + 1, 1, none⟩ = some (.int .i64 a) ∧ W.cell? ⟨w.heap.size + 1, 2, none⟩ = some (.int .i64 b) ∧ W.cell? ⟨w.heap.size + 1, 3, none⟩ = some (.int .i64 c))) := fun W hc => by
    have l0 : w.heap.size < w1.heap.size := by have := HS1.out; omega
    have l1 : w.heap.size + 1 < w1.heap.size := by have := HS1.out; omega
    have e0 : ∀ j, W.cell? ⟨w.heap.size, j, none⟩ = w1.cell? ⟨w.heap.size, j, none⟩ := fun j => hc.cell (show (⟨w.heap.size, j, none⟩ : Addr).block < _ from l0)
    have e1 : ∀ j, W.cell? ⟨w.heap.size + 1, j, none⟩ = w1.cell? ⟨w.heap.size + 1, j, none⟩ := fun j => hc.cell (show (⟨w.heap.size + 1, j, none⟩ : Addr).block < _ from l1)
    simp only [e0, e1]
    rw [hw1]
    have q : w.heap.size + 1 = (w.alloc (.cells #[.int .i64 3, .slice sao sl scap, .slice tao tl tcap, .int .i64 n] 24)).heap.size := by simp
    have r : ∀ o j, ((w.alloc (.cells #[.int .i64 3, .slice sao sl scap, .slice tao tl tcap, .int .i64 n] 24)).alloc o).cell? ⟨w.heap.size, j, none⟩ = (w.alloc (.cells #[.int .i64 3, .slice sao sl scap, .slice tao tl tcap, .int .i64 n] 24)).cell? ⟨w.heap.size, j, none⟩ := fun o j => World.cell?_alloc_lt _ _ ⟨w.heap.size, j, none⟩ (by simp)
    simp only [r]
    rw [q]
    simp
  have HV : Hid (∀ W, Below w1.heap.size w1 W → _) := fun W hW => hS W (HB1.out.trans (hW.mono HB1.out.size))
  have HZ : Hid (∀ W, _) := hZ
  clear hS hZ
  have HB : Hid (Below w1.heap.size w1 w1) := Below.refl _ _
  obtain ⟨⟨x0, x1, x2, x3⟩, ⟨y0, y1, y2, y3⟩⟩ := HX.out w1 HB.out
  rw [hw1] at x0 x1 x2 x3 y0 y1 y2 y3
  go_enter Tryz.func11, Tryz.ntmps11
  go_wp2_with fail
  rw [← hw1]
  clear hw1 x0 x1 x2 x3 y0 y1 y2 y3
  go_at_call 27
  refine (HV.out _ HB.out).mono ?_
  rintro e w2 ⟨rfl, hb⟩
  have HB : Hid (Below w1.heap.size w1 w2) := HB.out.trans (hb.mono HB.out.size)
  clear hb
  obtain ⟨⟨x0, x1, x2, x3⟩, ⟨y0, y1, y2, y3⟩⟩ := HX.out w2 HB.out
  go_wp2_with fail
  go_at_call 28
  refine (HZ.out _).mono ?_
  rintro e w' ⟨rfl, rfl⟩
  go_wp2
  go_ret
  refine ⟨?_, HB1.out.trans (HB.out.mono HB1.out.size)⟩
  first | rfl | exact back_b (by simp) | (refine back_b ?_; exact (beq_eq_decide _ _)) | simp

set_option linter.unusedVariables false in
set_option maxHeartbeats 4000000 in
theorem refHolds_4 (n : Int) (sao tao : Option Addr) (sl scap tl tcap : Nat) (u a b c x y z zy : Int) (n0 : -20 ≤ n) (n1 : n ≤ 20) (hz : 0 ≤ z ∧ z ≤ 6) (hzy : 0 ≤ zy ∧ zy ≤ 6) (w : World)
    (hS : ∀ W, Below w.heap.size w W → Calls Tryz.prog 27 #[.slice sao sl scap, .agg #[.int .i64 u, .int .i64 a, .int .i64 b, .int .i64 c]] W fun e w' => e = .returned (.int .i64 x) ∧ Below W.heap.size W w')
    (hZ : ∀ W, Calls Tryz.prog 28 #[.int .i64 x] W fun e w' => e = .returned (.int .i64 z) ∧ W = w') :
    Calls Tryz.prog 11 #[.agg #[.int .i64 4, .slice sao sl scap, .slice tao tl tcap, .int .i64 n], .agg #[.int .i64 u, .int .i64 a, .int .i64 b, .int .i64 c]] w fun e w' => e = .returned (.bool (decide (z ≤ n))) ∧ Below w.heap.size w w' := by
  obtain ⟨w1, hw1⟩ : ∃ w1, w1 = (w.alloc (.cells #[.int .i64 4, .slice sao sl scap, .slice tao tl tcap, .int .i64 n] 24)).alloc (.cells #[.int .i64 u, .int .i64 a, .int .i64 b, .int .i64 c] 27) := ⟨_, rfl⟩
  have HB1 : Hid (Below w.heap.size w w1) := by unfold Hid; rw [hw1]; exact (below_alloc1 _ _).trans ((below_alloc1 _ _).mono (by simp))
  have HS1 : Hid (w1.heap.size = w.heap.size + 2) := by unfold Hid; rw [hw1]; simp
  have HX : Hid (∀ W, Below w1.heap.size w1 W → (W.cell? ⟨w.heap.size, 0, none⟩ = some (.int .i64 4) ∧ W.cell? ⟨w.heap.size, 1, none⟩ = some (.slice sao sl scap) ∧ W.cell? ⟨w.heap.size, 2, none⟩ = some (.slice tao tl tcap) ∧ W.cell? ⟨w.heap.size, 3, none⟩ = some (.int .i64 n)) ∧ (W.cell? ⟨w.heap.size + 1, 0, none⟩ = some (.int .i64 u) ∧ W.cell? ⟨w.heap.size + 1, 1, none⟩ = some (.int .i64 a) ∧ W.cell? ⟨w.heap.size + 1, 2, none⟩ = some (.int .i64 b) ∧ W.cell? ⟨w.heap.size + 1, 3, none⟩ = some (.int .i64 c))) := fun W hc => by
    have l0 : w.heap.size < w1.heap.size := by have := HS1.out; omega
    have l1 : w.heap.size + 1 < w1.heap.size := by have := HS1.out; omega
    have e0 : ∀ j, W.cell? ⟨w.heap.size, j, none⟩ = w1.cell? ⟨w.heap.size, j, none⟩ := fun j => hc.cell (show (⟨w.heap.size, j, none⟩ : Addr).block < _ from l0)
    have e1 : ∀ j, W.cell? ⟨w.heap.size + 1, j, none⟩ = w1.cell? ⟨w.heap.size + 1, j, none⟩ := fun j => hc.cell (show (⟨w.heap.size + 1, j, none⟩ : Addr).block < _ from l1)
    simp only [e0, e1]
    rw [hw1]
    have q : w.heap.size + 1 = (w.alloc (.cells #[.int .i64 4, .slice sao sl scap, .slice tao tl tcap, .int .i64 n] 24)).heap.size := by simp
    have r : ∀ o j, ((w.alloc (.cells #[.int .i64 4, .slice sao sl scap, .slice tao tl tcap, .int .i64 n] 24)).alloc o).cell? ⟨w.heap.size, j, none⟩ = (w.alloc (.cells #[.int .i64 4, .slice sao sl scap, .slice tao tl tcap, .int .i64 n] 24)).cell? ⟨w.heap.size, j, none⟩ := fun o j => World.cell?_alloc_lt _ _ ⟨w.heap.size, j, none⟩ (by simp)
    simp only [r]
    rw [q]
    simp
  have HV : Hid (∀ W, Below w1.heap.size w1 W → _) := fun W hW => hS W (HB1.out.trans (hW.mono HB1.out.size))
  have HZ : Hid (∀ W, _) := hZ
  clear hS hZ
  have HB : Hid (Below w1.heap.size w1 w1) := Below.refl _ _
  obtain ⟨⟨x0, x1, x2, x3⟩, ⟨y0, y1, y2, y3⟩⟩ := HX.out w1 HB.out
  rw [hw1] at x0 x1 x2 x3 y0 y1 y2 y3
  go_enter Tryz.func11, Tryz.ntmps11
  go_wp2_with fail
  rw [← hw1]
  clear hw1 x0 x1 x2 x3 y0 y1 y2 y3
  go_at_call 27
  refine (HV.out _ HB.out).mono ?_
  rintro e w2 ⟨rfl, hb⟩
  have HB : Hid (Below w1.heap.size w1 w2) := HB.out.trans (hb.mono HB.out.size)
  clear hb
  obtain ⟨⟨x0, x1, x2, x3⟩, ⟨y0, y1, y2, y3⟩⟩ := HX.out w2 HB.out
  go_wp2_with fail
  go_at_call 28
  refine (HZ.out _).mono ?_
  rintro e w' ⟨rfl, rfl⟩
  go_wp2
  go_ret
  refine ⟨?_, HB1.out.trans (HB.out.mono HB1.out.size)⟩
  first | rfl | exact back_b (by simp) | (refine back_b ?_; exact (beq_eq_decide _ _)) | simp

set_option linter.unusedVariables false in
set_option maxHeartbeats 4000000 in
theorem refHolds_5 (n : Int) (sao tao : Option Addr) (sl scap tl tcap : Nat) (u a b c x y z zy : Int) (n0 : -20 ≤ n) (n1 : n ≤ 20) (hz : 0 ≤ z ∧ z ≤ 6) (hzy : 0 ≤ zy ∧ zy ≤ 6) (w : World)
    (hS : ∀ W, Below w.heap.size w W → Calls Tryz.prog 27 #[.slice sao sl scap, .agg #[.int .i64 u, .int .i64 a, .int .i64 b, .int .i64 c]] W fun e w' => e = .returned (.int .i64 x) ∧ Below W.heap.size W w')
    (hZ : ∀ W, Calls Tryz.prog 28 #[.int .i64 x] W fun e w' => e = .returned (.int .i64 z) ∧ W = w')
    (hT : ∀ W, Below w.heap.size w W → Calls Tryz.prog 27 #[.slice tao tl tcap, .agg #[.int .i64 u, .int .i64 a, .int .i64 b, .int .i64 c]] W fun e w' => e = .returned (.int .i64 y) ∧ Below W.heap.size W w')
    (hZy : ∀ W, Calls Tryz.prog 28 #[.int .i64 y] W fun e w' => e = .returned (.int .i64 zy) ∧ W = w')
    (hD : ∀ W, Calls Tryz.prog 29 #[.int .i64 7, .int .i64 u, .int .i64 x, .int .i64 y] W fun e w' => e = .returned (.int .i64 (lessN x y)) ∧ W = w') :
    Calls Tryz.prog 11 #[.agg #[.int .i64 5, .slice sao sl scap, .slice tao tl tcap, .int .i64 n], .agg #[.int .i64 u, .int .i64 a, .int .i64 b, .int .i64 c]] w fun e w' => e = .returned (.bool (decide (z ≤ zy + n))) ∧ Below w.heap.size w w' := by
  obtain ⟨w1, hw1⟩ : ∃ w1, w1 = (w.alloc (.cells #[.int .i64 5, .slice sao sl scap, .slice tao tl tcap, .int .i64 n] 24)).alloc (.cells #[.int .i64 u, .int .i64 a, .int .i64 b, .int .i64 c] 27) := ⟨_, rfl⟩
  have HB1 : Hid (Below w.heap.size w w1) := by unfold Hid; rw [hw1]; exact (below_alloc1 _ _).trans ((below_alloc1 _ _).mono (by simp))
  have HS1 : Hid (w1.heap.size = w.heap.size + 2) := by unfold Hid; rw [hw1]; simp
  have HX : Hid (∀ W, Below w1.heap.size w1 W → (W.cell? ⟨w.heap.size, 0, none⟩ = some (.int .i64 5) ∧ W.cell? ⟨w.heap.size, 1, none⟩ = some (.slice sao sl scap) ∧ W.cell? ⟨w.heap.size, 2, none⟩ = some (.slice tao tl tcap) ∧ W.cell? ⟨w.heap.size, 3, none⟩ = some (.int .i64 n)) ∧ (W.cell? ⟨w.heap.size + 1, 0, none⟩ = some (.int .i64 u) ∧ W.cell? ⟨w.heap.size + 1, 1, none⟩ = some (.int .i64 a) ∧ W.cell? ⟨w.heap.size + 1, 2, none⟩ = some (.int .i64 b) ∧ W.cell? ⟨w.heap.size + 1, 3, none⟩ = some (.int .i64 c))) := fun W hc => by
    have l0 : w.heap.size < w1.heap.size := by have := HS1.out; omega
    have l1 : w.heap.size + 1 < w1.heap.size := by have := HS1.out; omega
    have e0 : ∀ j, W.cell? ⟨w.heap.size, j, none⟩ = w1.cell? ⟨w.heap.size, j, none⟩ := fun j => hc.cell (show (⟨w.heap.size, j, none⟩ : Addr).block < _ from l0)
    have e1 : ∀ j, W.cell? ⟨w.heap.size + 1, j, none⟩ = w1.cell? ⟨w.heap.size + 1, j, none⟩ := fun j => hc.cell (show (⟨w.heap.size + 1, j, none⟩ : Addr).block < _ from l1)
    simp only [e0, e1]
    rw [hw1]
    have q : w.heap.size + 1 = (w.alloc (.cells #[.int .i64 5, .slice sao sl scap, .slice tao tl tcap, .int .i64 n] 24)).heap.size := by simp
    have r : ∀ o j, ((w.alloc (.cells #[.int .i64 5, .slice sao sl scap, .slice tao tl tcap, .int .i64 n] 24)).alloc o).cell? ⟨w.heap.size, j, none⟩ = (w.alloc (.cells #[.int .i64 5, .slice sao sl scap, .slice tao tl tcap, .int .i64 n] 24)).cell? ⟨w.heap.size, j, none⟩ := fun o j => World.cell?_alloc_lt _ _ ⟨w.heap.size, j, none⟩ (by simp)
    simp only [r]
    rw [q]
    simp
  have HV : Hid (∀ W, Below w1.heap.size w1 W → _) := fun W hW => hS W (HB1.out.trans (hW.mono HB1.out.size))
  have HV2 : Hid (∀ W, Below w1.heap.size w1 W → _) := fun W hW => hT W (HB1.out.trans (hW.mono HB1.out.size))
  have HZy : Hid (∀ W, _) := hZy
  have HD : Hid (∀ W, _) := hD
  clear hT hZy hD
  have HZ : Hid (∀ W, _) := hZ
  clear hS hZ
  have HB : Hid (Below w1.heap.size w1 w1) := Below.refl _ _
  obtain ⟨⟨x0, x1, x2, x3⟩, ⟨y0, y1, y2, y3⟩⟩ := HX.out w1 HB.out
  rw [hw1] at x0 x1 x2 x3 y0 y1 y2 y3
  go_enter Tryz.func11, Tryz.ntmps11
  go_wp2_with fail
  rw [← hw1]
  clear hw1 x0 x1 x2 x3 y0 y1 y2 y3
  go_at_call 27
  refine (HV.out _ HB.out).mono ?_
  rintro e w2 ⟨rfl, hb⟩
  have HB : Hid (Below w1.heap.size w1 w2) := HB.out.trans (hb.mono HB.out.size)
  clear hb
  obtain ⟨⟨x0, x1, x2, x3⟩, ⟨y0, y1, y2, y3⟩⟩ := HX.out w2 HB.out
  go_wp2_with fail
  go_at_call 28
  refine (HZ.out _).mono ?_
  rintro e w' ⟨rfl, rfl⟩
  go_wp2_with fail
  go_at_call 27
  refine (HV2.out _ HB.out).mono ?_
  rintro e w3 ⟨rfl, hb⟩
  have HB : Hid (Below w1.heap.size w1 w3) := HB.out.trans (hb.mono HB.out.size)
  clear hb
  clear x0 x1 x2 x3 y0 y1 y2 y3
  obtain ⟨⟨x0, x1, x2, x3⟩, ⟨y0, y1, y2, y3⟩⟩ := HX.out w3 HB.out
  go_wp2_with fail
  go_quiet (first | (go_at_call 28; exact Calls.quiet_of_same ((HZy.out _).mono fun _ _ h => ⟨h.1, h.2.symm⟩)))
  go_wp2
  go_ret
  refine ⟨?_, HB1.out.trans ((HB.out.trans ((below_drewNs _ _).mono HB.out.size)).mono HB1.out.size)⟩
  first | rfl | exact back_b (by simp) | (refine back_b ?_; exact (beq_eq_decide _ _)) | simp

/-- Holds, of a right atom in a right world. -/
theorem refHolds_any (k n : Int) (vs vt : Value) (s t : List Int) (u a b c : Int) (hf : atomFault k s t n = 0) (hok : (Wd.mk u a b c).ok = true) (w : World) (hS : Reads w vs s) (hT : Reads w vt t) :
    Calls Tryz.prog 11 #[.agg #[.int .i64 k, vs, vt, .int .i64 n], .agg #[.int .i64 u, .int .i64 a, .int .i64 b, .int .i64 c]] w fun e w' => e = .returned (.bool ((Wd.mk u a b c).holds k s t n)) ∧ Below w.heap.size w w' := by
  obtain ⟨hk, hs, ht, n0, n1⟩ := atomFault_zero.1 hf
  have hm : mostN k ≤ 20 := by unfold mostN; split <;> omega
  have h1 := fun (W : World) (hW : Below w.heap.size w W) => refValue_reads s hs vs u a b c hok W (hS.below hW)
  obtain ⟨_, _, x0, x1⟩ := okB_lt (ok_val hok s)
  have hz := fun (W : World) => refSize_any ((Wd.mk u a b c).val s) x0 x1 W
  have h2 : secondB k = true → (∀ W, Below w.heap.size w W → Calls Tryz.prog 27 #[vt, .agg #[.int .i64 u, .int .i64 a, .int .i64 b, .int .i64 c]] W fun e w' => e = .returned (.int .i64 ((Wd.mk u a b c).val t)) ∧ Below W.heap.size W w') ∧ (∀ W, Calls Tryz.prog 28 #[.int .i64 ((Wd.mk u a b c).val t)] W fun e w' => e = .returned (.int .i64 (pcN ((Wd.mk u a b c).val t))) ∧ W = w') ∧ (∀ W, Calls Tryz.prog 29 #[.int .i64 7, .int .i64 u, .int .i64 ((Wd.mk u a b c).val s), .int .i64 ((Wd.mk u a b c).val t)] W fun e w' => e = .returned (.int .i64 (lessN ((Wd.mk u a b c).val s) ((Wd.mk u a b c).val t))) ∧ W = w') := fun h => by
    have h0 := second_reads ht h
    obtain ⟨_, _, y0, y1⟩ := okB_lt (ok_val hok t)
    exact ⟨fun W hW => refValue_reads t h0 vt u a b c hok W (hT.below hW), fun W => refSize_any _ y0 y1 W, fun W => refDo_any 7 u _ _ (by decide) (by decide) (ok_val hok s) (ok_val hok t) W⟩
  obtain ⟨sao, scap, rfl, _⟩ := hS.slice
  obtain ⟨tao, tcap, rfl, _⟩ := hT.slice
  rcases five hk.1 hk.2 with rfl | rfl | rfl | rfl | rfl
  · obtain ⟨g1, g2, g3⟩ := h2 (by decide)
    exact refHolds_1 n sao tao _ scap _ tcap u a b c _ _ _ _ (by omega) (by omega) (pcN_le _) (pcN_le _) w h1 hz g1 g2 g3
  · obtain ⟨g1, g2, g3⟩ := h2 (by decide)
    exact refHolds_2 n sao tao _ scap _ tcap u a b c _ _ _ _ (by omega) (by omega) (pcN_le _) (pcN_le _) w h1 hz g1 g2 g3
  · exact refHolds_3 n sao tao _ scap _ tcap u a b c _ 0 _ 0 (by omega) (by omega) (pcN_le _) (by omega) w h1 hz
  · exact refHolds_4 n sao tao _ scap _ tcap u a b c _ 0 _ 0 (by omega) (by omega) (pcN_le _) (by omega) w h1 hz
  · obtain ⟨g1, g2, g3⟩ := h2 (by decide)
    exact refHolds_5 n sao tao _ scap _ tcap u a b c _ _ _ _ (by omega) (by omega) (pcN_le _) (pcN_le _) w h1 hz g1 g2 g3
end Go.Proofs.YtenmheenieifpabGreatDoor
