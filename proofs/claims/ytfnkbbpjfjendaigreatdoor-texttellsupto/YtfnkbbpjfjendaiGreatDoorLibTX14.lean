/-
  Proved: what vennref1.Digits, Number and AtomText return; what was in memory is as it was (contracts that the statements lean on).
  Proved: what vennref2.FormText returns, of a right formula; what was in memory is as it was (a contract that the statements lean on).
-/
import Derived.Test.YtfnkbbpjfjendaiGreatDoorLibTX12
import Derived.Test.YtfnkbbpjfjendaiGreatDoorLibTX13
import Derived.Test.YtfnkbbpjfjendaiGreatDoorLibTX10
import Derived.Test.YtfnkbbpjfjendaiGreatDoorLibTX11
namespace Go.Proofs.YtfnkbbpjfjendaiGreatDoor
open Go.ChangeShapes Go.WideShapes Go.ChangeAt Go.RowKit
set_option maxRecDepth 100000

theorem digit_cut : ∀ u : Nat, u < 10 → (⟨#[48, 49, 50, 51, 52, 53, 54, 55, 56, 57]⟩ : ByteArray).extract u (u + 1) = strOf [UInt8.ofNat (48 + u)] := by decide
theorem digits_low (u : Nat) (h : u < 10) (w : World) :
    Calls Tryz.prog 16 #[.int .i64 u] w fun e w' => e = .returned (.string (strOf (digitsN u))) ∧ w = w' := by
  have e : digitsN u = [UInt8.ofNat (48 + u)] := by unfold digitsN; rw [if_pos h]
  rw [e, ← digit_cut u h]
  have h1 : (u : Int) < 10 := by omega
  have h2 : (0 : Int) ≤ (u : Int) := by omega
  have h3 : (u : Int) ≤ (u : Int) + 1 := by omega
  have h4 : (u : Int) + 1 ≤ 10 := by omega
  clear e
  go_enter Tryz.func16, Tryz.ntmps16
  go_wp2
  go_ret
  exact ⟨rfl, rfl⟩
theorem digits_any (u : Nat) (h : u < 100) (w : World) :
    Calls Tryz.prog 16 #[.int .i64 u] w fun e w' => e = .returned (.string (strOf (digitsN u))) ∧ w = w' := by
  by_cases h1 : u < 10
  · exact digits_low u h1 w
  have HD : Hid (∀ W, Calls Tryz.prog 16 #[.int .i64 ((u / 10 : Nat) : Int)] W fun e w' => e = .returned (.string (strOf [UInt8.ofNat (48 + u / 10)])) ∧ W = w') := fun W => by
    have := digits_low (u / 10) (by omega) W
    have e : digitsN (u / 10) = [UInt8.ofNat (48 + u / 10)] := by unfold digitsN; rw [if_pos (by omega)]
    rw [e] at this
    exact this
  have e : digitsN u = [UInt8.ofNat (48 + u / 10), UInt8.ofNat (48 + u % 10)] := by unfold digitsN; rw [if_neg h1]
  obtain ⟨q, hq⟩ : ∃ q, q = u / 10 := ⟨_, rfl⟩
  obtain ⟨r, hr⟩ : ∃ r, r = u % 10 := ⟨_, rfl⟩
  rw [← hq] at HD e
  rw [← hr] at e
  have HE : Hid (strOf (digitsN u) = strOf [UInt8.ofNat (48 + q)] ++ (⟨#[48, 49, 50, 51, 52, 53, 54, 55, 56, 57]⟩ : ByteArray).extract r (r + 1)) := by
    unfold Hid
    rw [e, digit_cut r (by omega)]
    rfl
  obtain ⟨T, hT⟩ : ∃ T, T = strOf (digitsN u) := ⟨_, rfl⟩
  rw [← hT] at HE ⊢
  have hm : (u : Int) % 10 = (r : Int) := by rw [hr]; omega
  have hdv : (u : Int) / 10 = (q : Int) := by rw [hq]; omega
  have h10 : ¬ ((u : Int) < 10) := by omega
  have r0 : (0 : Int) ≤ (r : Int) := by omega
  have r1 : (r : Int) ≤ (r : Int) + 1 := by omega
  have r2 : (r : Int) + 1 ≤ 10 := by omega
  obtain ⟨Y, hY⟩ : ∃ Y, Y = strOf [UInt8.ofNat (48 + q)] := ⟨_, rfl⟩
  have hYs : Y.size ≤ 20 := by rw [hY, strOf_size]; simp
  rw [← hY] at HD HE
  clear e hT h1 hq hr hY
  go_enter Tryz.func16, Tryz.ntmps16
  go_wp2_with (go_at_call 16; refine (HD.out _).mono ?_; rintro e w' ⟨rfl, rfl⟩)
  go_ret
  exact ⟨back_v (congrArg Value.string HE.out.symm), rfl⟩
theorem refNumber_any (n : Int) (h0 : -99 ≤ n) (h1 : n ≤ 99) (w : World) :
    Calls Tryz.prog 37 #[.int .i64 n] w fun e w' => e = .returned (.string (strOf (numText n))) ∧ w = w' := by
  by_cases hn : n < 0
  · have e : numText n = 45 :: digitsN n.natAbs := by unfold numText; rw [if_pos hn]
    have HD : Hid (∀ W, Calls Tryz.prog 16 #[.int .i64 (-n)] W fun e w' => e = .returned (.string (strOf (digitsN n.natAbs))) ∧ W = w') := fun W => by
      have := digits_any n.natAbs (by omega) W
      rw [show ((n.natAbs : Nat) : Int) = -n by omega] at this
      exact this
    have HE : Hid (strOf (numText n) = (⟨#[45]⟩ : ByteArray) ++ strOf (digitsN n.natAbs)) := by unfold Hid; rw [e]; apply ByteArray.ext; simp [strOf]
    obtain ⟨T, hT⟩ : ∃ T, T = strOf (numText n) := ⟨_, rfl⟩
    obtain ⟨Y, hY⟩ : ∃ Y, Y = strOf (digitsN n.natAbs) := ⟨_, rfl⟩
    have hYs : Y.size ≤ 20 := by rw [hY, strOf_size]; have := digits_length n.natAbs; omega
    rw [← hT, ← hY] at HE
    rw [← hT]
    rw [← hY] at HD
    clear e hT hY
    go_enter Tryz.func37, Tryz.ntmps37
    go_wp2_with (go_at_call 16; refine (HD.out _).mono ?_; rintro e w' ⟨rfl, rfl⟩)
    go_ret
    exact ⟨back_v (congrArg Value.string HE.out.symm), rfl⟩
  · have HD : Hid (∀ W, Calls Tryz.prog 16 #[.int .i64 n] W fun e w' => e = .returned (.string (strOf (numText n))) ∧ W = w') := fun W => by
      have := digits_any n.toNat (by omega) W
      have e : numText n = digitsN n.toNat := by unfold numText; rw [if_neg hn]
      rw [e]
      rw [show ((n.toNat : Nat) : Int) = n by omega] at this
      exact this
    obtain ⟨T, hT⟩ : ∃ T, T = strOf (numText n) := ⟨_, rfl⟩
    rw [← hT] at HD ⊢
    clear hT
    go_enter Tryz.func37, Tryz.ntmps37
    go_wp2_with (go_at_call 16; refine (HD.out _).mono ?_; rintro e w' ⟨rfl, rfl⟩)
    go_ret
    exact ⟨rfl, rfl⟩
theorem refText_nil (ao : Option Addr) (cap : Nat) (w : World) :
    Calls Tryz.prog 36 #[.slice ao 0 cap] w fun e w' => e = .returned (.string ⟨#[]⟩) ∧ Below w.heap.size w w' := by
  go_enter Tryz.func36, Tryz.ntmps36
  go_wp2
  refine wp_loop_rounds 1 ?_
  rw [rounds_succ]
  go_wp2
  go_ret
  exact ⟨rfl, Below.refl _ _⟩

set_option linter.unusedVariables false in
set_option maxHeartbeats 2000000 in
theorem refAtomText_1 (n : Int) (sao tao : Option Addr) (sl scap tl tcap : Nat) (PS PT PN R : ByteArray) (zs : PS.size ≤ 20) (zt : PT.size ≤ 20) (zn : PN.size ≤ 20) (hR : R.data.toList = [115, 117, 98] ++ (32 :: PS.data.toList) ++ (32 :: PT.data.toList)) (w : World)
    (hS : ∀ W, Below w.heap.size w W → Calls Tryz.prog 36 #[.slice sao sl scap] W fun e w' => e = .returned (.string PS) ∧ Below W.heap.size W w')
    (hT : ∀ W, Below w.heap.size w W → Calls Tryz.prog 36 #[.slice tao tl tcap] W fun e w' => e = .returned (.string PT) ∧ Below W.heap.size W w')
    (hN : ∀ W, Calls Tryz.prog 37 #[.int .i64 n] W fun e w' => e = .returned (.string PN) ∧ W = w') :
    Calls Tryz.prog 15 #[.agg #[.int .i64 1, .slice sao sl scap, .slice tao tl tcap, .int .i64 n]] w fun e w' => e = .returned (.string R) ∧ Below w.heap.size w w' := by
  obtain ⟨w1, hw1⟩ : ∃ w1, w1 = w.alloc (.cells #[.int .i64 1, .slice sao sl scap, .slice tao tl tcap, .int .i64 n] 40) := ⟨_, rfl⟩
  have HB1 : Hid (Below w.heap.size w w1) := by unfold Hid; rw [hw1]; exact below_alloc1 w _
  have HX : Hid (BoxA w1 w.heap.size 1 n (.slice sao sl scap) (.slice tao tl tcap)) := by unfold Hid; rw [hw1]; exact boxA_alloc w _ _ _ _
  have HK1 : Hid (w.heap.size < w1.heap.size) := by unfold Hid; rw [hw1]; simp
  have HS : Hid (∀ W, Below w1.heap.size w1 W → _) := fun W h => hS W (HB1.out.trans (h.mono HB1.out.size))
  have HT : Hid (∀ W, Below w1.heap.size w1 W → _) := fun W h => hT W (HB1.out.trans (h.mono HB1.out.size))
  have HN : Hid (∀ W, _) := hN
  have HR : Hid (R.data.toList = [115, 117, 98] ++ (32 :: PS.data.toList) ++ (32 :: PT.data.toList)) := hR
  clear hS hT hN hR
  obtain ⟨x0, x1, x2, x3⟩ := HX.out
  go_enter Tryz.func15, Tryz.ntmps15
  go_wp2_with fail
  rw [← hw1]
  clear hw1
  go_at_call 36
  refine (HS.out w1 (Below.refl _ _)).mono ?_
  rintro e w2 ⟨rfl, hb⟩
  have HZ2 : Hid (Below w1.heap.size w1 w2) := hb
  clear hb x0 x1 x2 x3
  obtain ⟨x0, x1, x2, x3⟩ := HX.out.below HZ2.out HK1.out
  go_wp2_with fail
  go_at_call 36
  refine (HT.out w2 HZ2.out).mono ?_
  rintro e w3 ⟨rfl, hb⟩
  have HZ3 : Hid (Below w1.heap.size w1 w3) := HZ2.out.trans (hb.mono HZ2.out.size)
  clear hb x0 x1 x2 x3
  obtain ⟨x0, x1, x2, x3⟩ := HX.out.below HZ3.out HK1.out
  go_wp2_with fail
  go_at_call 37
  refine (HN.out _).mono ?_
  rintro e w' ⟨rfl, rfl⟩
  go_wp2
  go_ret
  refine ⟨back_v (congrArg Value.string ?_), HB1.out.trans (HZ3.out.mono HB1.out.size)⟩
  refine (str_eq (l := R.data.toList) ?_).trans (strOf_data R)
  rw [HR.out]
  simp

set_option linter.unusedVariables false in
set_option maxHeartbeats 2000000 in
theorem refAtomText_2 (n : Int) (sao tao : Option Addr) (sl scap tl tcap : Nat) (PS PT PN R : ByteArray) (zs : PS.size ≤ 20) (zt : PT.size ≤ 20) (zn : PN.size ≤ 20) (hR : R.data.toList = [115, 97, 109, 101] ++ (32 :: PS.data.toList) ++ (32 :: PT.data.toList)) (w : World)
    (hS : ∀ W, Below w.heap.size w W → Calls Tryz.prog 36 #[.slice sao sl scap] W fun e w' => e = .returned (.string PS) ∧ Below W.heap.size W w')
    (hT : ∀ W, Below w.heap.size w W → Calls Tryz.prog 36 #[.slice tao tl tcap] W fun e w' => e = .returned (.string PT) ∧ Below W.heap.size W w')
    (hN : ∀ W, Calls Tryz.prog 37 #[.int .i64 n] W fun e w' => e = .returned (.string PN) ∧ W = w') :
    Calls Tryz.prog 15 #[.agg #[.int .i64 2, .slice sao sl scap, .slice tao tl tcap, .int .i64 n]] w fun e w' => e = .returned (.string R) ∧ Below w.heap.size w w' := by
  obtain ⟨w1, hw1⟩ : ∃ w1, w1 = w.alloc (.cells #[.int .i64 2, .slice sao sl scap, .slice tao tl tcap, .int .i64 n] 40) := ⟨_, rfl⟩
  have HB1 : Hid (Below w.heap.size w w1) := by unfold Hid; rw [hw1]; exact below_alloc1 w _
  have HX : Hid (BoxA w1 w.heap.size 2 n (.slice sao sl scap) (.slice tao tl tcap)) := by unfold Hid; rw [hw1]; exact boxA_alloc w _ _ _ _
  have HK1 : Hid (w.heap.size < w1.heap.size) := by unfold Hid; rw [hw1]; simp
  have HS : Hid (∀ W, Below w1.heap.size w1 W → _) := fun W h => hS W (HB1.out.trans (h.mono HB1.out.size))
  have HT : Hid (∀ W, Below w1.heap.size w1 W → _) := fun W h => hT W (HB1.out.trans (h.mono HB1.out.size))
  have HN : Hid (∀ W, _) := hN
  have HR : Hid (R.data.toList = [115, 97, 109, 101] ++ (32 :: PS.data.toList) ++ (32 :: PT.data.toList)) := hR
  clear hS hT hN hR
  obtain ⟨x0, x1, x2, x3⟩ := HX.out
  go_enter Tryz.func15, Tryz.ntmps15
  go_wp2_with fail
  rw [← hw1]
  clear hw1
  go_at_call 36
  refine (HS.out w1 (Below.refl _ _)).mono ?_
  rintro e w2 ⟨rfl, hb⟩
  have HZ2 : Hid (Below w1.heap.size w1 w2) := hb
  clear hb x0 x1 x2 x3
  obtain ⟨x0, x1, x2, x3⟩ := HX.out.below HZ2.out HK1.out
  go_wp2_with fail
  go_at_call 36
  refine (HT.out w2 HZ2.out).mono ?_
  rintro e w3 ⟨rfl, hb⟩
  have HZ3 : Hid (Below w1.heap.size w1 w3) := HZ2.out.trans (hb.mono HZ2.out.size)
  clear hb x0 x1 x2 x3
  obtain ⟨x0, x1, x2, x3⟩ := HX.out.below HZ3.out HK1.out
  go_wp2_with fail
  go_at_call 37
  refine (HN.out _).mono ?_
  rintro e w' ⟨rfl, rfl⟩
  go_wp2
  go_ret
  refine ⟨back_v (congrArg Value.string ?_), HB1.out.trans (HZ3.out.mono HB1.out.size)⟩
  refine (str_eq (l := R.data.toList) ?_).trans (strOf_data R)
  rw [HR.out]
  simp

set_option linter.unusedVariables false in
set_option maxHeartbeats 2000000 in
theorem refAtomText_3 (n : Int) (sao tao : Option Addr) (sl scap tl tcap : Nat) (PS PT PN R : ByteArray) (zs : PS.size ≤ 20) (zt : PT.size ≤ 20) (zn : PN.size ≤ 20) (hR : R.data.toList = [108, 101, 97, 115, 116] ++ (32 :: PS.data.toList) ++ (32 :: PN.data.toList)) (w : World)
    (hS : ∀ W, Below w.heap.size w W → Calls Tryz.prog 36 #[.slice sao sl scap] W fun e w' => e = .returned (.string PS) ∧ Below W.heap.size W w')
    (hT : ∀ W, Below w.heap.size w W → Calls Tryz.prog 36 #[.slice tao tl tcap] W fun e w' => e = .returned (.string PT) ∧ Below W.heap.size W w')
    (hN : ∀ W, Calls Tryz.prog 37 #[.int .i64 n] W fun e w' => e = .returned (.string PN) ∧ W = w') :
    Calls Tryz.prog 15 #[.agg #[.int .i64 3, .slice sao sl scap, .slice tao tl tcap, .int .i64 n]] w fun e w' => e = .returned (.string R) ∧ Below w.heap.size w w' := by
  obtain ⟨w1, hw1⟩ : ∃ w1, w1 = w.alloc (.cells #[.int .i64 3, .slice sao sl scap, .slice tao tl tcap, .int .i64 n] 40) := ⟨_, rfl⟩
  have HB1 : Hid (Below w.heap.size w w1) := by unfold Hid; rw [hw1]; exact below_alloc1 w _
  have HX : Hid (BoxA w1 w.heap.size 3 n (.slice sao sl scap) (.slice tao tl tcap)) := by unfold Hid; rw [hw1]; exact boxA_alloc w _ _ _ _
  have HK1 : Hid (w.heap.size < w1.heap.size) := by unfold Hid; rw [hw1]; simp
  have HS : Hid (∀ W, Below w1.heap.size w1 W → _) := fun W h => hS W (HB1.out.trans (h.mono HB1.out.size))
  have HT : Hid (∀ W, Below w1.heap.size w1 W → _) := fun W h => hT W (HB1.out.trans (h.mono HB1.out.size))
  have HN : Hid (∀ W, _) := hN
  have HR : Hid (R.data.toList = [108, 101, 97, 115, 116] ++ (32 :: PS.data.toList) ++ (32 :: PN.data.toList)) := hR
  clear hS hT hN hR
  obtain ⟨x0, x1, x2, x3⟩ := HX.out
  go_enter Tryz.func15, Tryz.ntmps15
  go_wp2_with fail
  rw [← hw1]
  clear hw1
  go_at_call 36
  refine (HS.out w1 (Below.refl _ _)).mono ?_
  rintro e w2 ⟨rfl, hb⟩
  have HZ2 : Hid (Below w1.heap.size w1 w2) := hb
  clear hb x0 x1 x2 x3
  obtain ⟨x0, x1, x2, x3⟩ := HX.out.below HZ2.out HK1.out
  go_wp2_with fail
  go_at_call 36
  refine (HT.out w2 HZ2.out).mono ?_
  rintro e w3 ⟨rfl, hb⟩
  have HZ3 : Hid (Below w1.heap.size w1 w3) := HZ2.out.trans (hb.mono HZ2.out.size)
  clear hb x0 x1 x2 x3
  obtain ⟨x0, x1, x2, x3⟩ := HX.out.below HZ3.out HK1.out
  go_wp2_with fail
  go_at_call 37
  refine (HN.out _).mono ?_
  rintro e w' ⟨rfl, rfl⟩
  go_wp2
  go_ret
  refine ⟨back_v (congrArg Value.string ?_), HB1.out.trans (HZ3.out.mono HB1.out.size)⟩
  refine (str_eq (l := R.data.toList) ?_).trans (strOf_data R)
  rw [HR.out]
  simp

set_option linter.unusedVariables false in
set_option maxHeartbeats 2000000 in
theorem refAtomText_4 (n : Int) (sao tao : Option Addr) (sl scap tl tcap : Nat) (PS PT PN R : ByteArray) (zs : PS.size ≤ 20) (zt : PT.size ≤ 20) (zn : PN.size ≤ 20) (hR : R.data.toList = [109, 111, 115, 116] ++ (32 :: PS.data.toList) ++ (32 :: PN.data.toList)) (w : World)
    (hS : ∀ W, Below w.heap.size w W → Calls Tryz.prog 36 #[.slice sao sl scap] W fun e w' => e = .returned (.string PS) ∧ Below W.heap.size W w')
    (hT : ∀ W, Below w.heap.size w W → Calls Tryz.prog 36 #[.slice tao tl tcap] W fun e w' => e = .returned (.string PT) ∧ Below W.heap.size W w')
    (hN : ∀ W, Calls Tryz.prog 37 #[.int .i64 n] W fun e w' => e = .returned (.string PN) ∧ W = w') :
    Calls Tryz.prog 15 #[.agg #[.int .i64 4, .slice sao sl scap, .slice tao tl tcap, .int .i64 n]] w fun e w' => e = .returned (.string R) ∧ Below w.heap.size w w' := by
  obtain ⟨w1, hw1⟩ : ∃ w1, w1 = w.alloc (.cells #[.int .i64 4, .slice sao sl scap, .slice tao tl tcap, .int .i64 n] 40) := ⟨_, rfl⟩
  have HB1 : Hid (Below w.heap.size w w1) := by unfold Hid; rw [hw1]; exact below_alloc1 w _
  have HX : Hid (BoxA w1 w.heap.size 4 n (.slice sao sl scap) (.slice tao tl tcap)) := by unfold Hid; rw [hw1]; exact boxA_alloc w _ _ _ _
  have HK1 : Hid (w.heap.size < w1.heap.size) := by unfold Hid; rw [hw1]; simp
  have HS : Hid (∀ W, Below w1.heap.size w1 W → _) := fun W h => hS W (HB1.out.trans (h.mono HB1.out.size))
  have HT : Hid (∀ W, Below w1.heap.size w1 W → _) := fun W h => hT W (HB1.out.trans (h.mono HB1.out.size))
  have HN : Hid (∀ W, _) := hN
  have HR : Hid (R.data.toList = [109, 111, 115, 116] ++ (32 :: PS.data.toList) ++ (32 :: PN.data.toList)) := hR
  clear hS hT hN hR
  obtain ⟨x0, x1, x2, x3⟩ := HX.out
  go_enter Tryz.func15, Tryz.ntmps15
  go_wp2_with fail
  rw [← hw1]
  clear hw1
  go_at_call 36
  refine (HS.out w1 (Below.refl _ _)).mono ?_
  rintro e w2 ⟨rfl, hb⟩
  have HZ2 : Hid (Below w1.heap.size w1 w2) := hb
  clear hb x0 x1 x2 x3
  obtain ⟨x0, x1, x2, x3⟩ := HX.out.below HZ2.out HK1.out
  go_wp2_with fail
  go_at_call 36
  refine (HT.out w2 HZ2.out).mono ?_
  rintro e w3 ⟨rfl, hb⟩
  have HZ3 : Hid (Below w1.heap.size w1 w3) := HZ2.out.trans (hb.mono HZ2.out.size)
  clear hb x0 x1 x2 x3
  obtain ⟨x0, x1, x2, x3⟩ := HX.out.below HZ3.out HK1.out
  go_wp2_with fail
  go_at_call 37
  refine (HN.out _).mono ?_
  rintro e w' ⟨rfl, rfl⟩
  go_wp2
  go_ret
  refine ⟨back_v (congrArg Value.string ?_), HB1.out.trans (HZ3.out.mono HB1.out.size)⟩
  refine (str_eq (l := R.data.toList) ?_).trans (strOf_data R)
  rw [HR.out]
  simp

set_option linter.unusedVariables false in
set_option maxHeartbeats 2000000 in
theorem refAtomText_5 (n : Int) (sao tao : Option Addr) (sl scap tl tcap : Nat) (PS PT PN R : ByteArray) (zs : PS.size ≤ 20) (zt : PT.size ≤ 20) (zn : PN.size ≤ 20) (hR : R.data.toList = [110, 111, 109, 111, 114, 101] ++ (32 :: PS.data.toList) ++ (32 :: PT.data.toList) ++ (32 :: PN.data.toList)) (w : World)
    (hS : ∀ W, Below w.heap.size w W → Calls Tryz.prog 36 #[.slice sao sl scap] W fun e w' => e = .returned (.string PS) ∧ Below W.heap.size W w')
    (hT : ∀ W, Below w.heap.size w W → Calls Tryz.prog 36 #[.slice tao tl tcap] W fun e w' => e = .returned (.string PT) ∧ Below W.heap.size W w')
    (hN : ∀ W, Calls Tryz.prog 37 #[.int .i64 n] W fun e w' => e = .returned (.string PN) ∧ W = w') :
    Calls Tryz.prog 15 #[.agg #[.int .i64 5, .slice sao sl scap, .slice tao tl tcap, .int .i64 n]] w fun e w' => e = .returned (.string R) ∧ Below w.heap.size w w' := by
  obtain ⟨w1, hw1⟩ : ∃ w1, w1 = w.alloc (.cells #[.int .i64 5, .slice sao sl scap, .slice tao tl tcap, .int .i64 n] 40) := ⟨_, rfl⟩
  have HB1 : Hid (Below w.heap.size w w1) := by unfold Hid; rw [hw1]; exact below_alloc1 w _
  have HX : Hid (BoxA w1 w.heap.size 5 n (.slice sao sl scap) (.slice tao tl tcap)) := by unfold Hid; rw [hw1]; exact boxA_alloc w _ _ _ _
  have HK1 : Hid (w.heap.size < w1.heap.size) := by unfold Hid; rw [hw1]; simp
  have HS : Hid (∀ W, Below w1.heap.size w1 W → _) := fun W h => hS W (HB1.out.trans (h.mono HB1.out.size))
  have HT : Hid (∀ W, Below w1.heap.size w1 W → _) := fun W h => hT W (HB1.out.trans (h.mono HB1.out.size))
  have HN : Hid (∀ W, _) := hN
  have HR : Hid (R.data.toList = [110, 111, 109, 111, 114, 101] ++ (32 :: PS.data.toList) ++ (32 :: PT.data.toList) ++ (32 :: PN.data.toList)) := hR
  clear hS hT hN hR
  obtain ⟨x0, x1, x2, x3⟩ := HX.out
  go_enter Tryz.func15, Tryz.ntmps15
  go_wp2_with fail
  rw [← hw1]
  clear hw1
  go_at_call 36
  refine (HS.out w1 (Below.refl _ _)).mono ?_
  rintro e w2 ⟨rfl, hb⟩
  have HZ2 : Hid (Below w1.heap.size w1 w2) := hb
  clear hb x0 x1 x2 x3
  obtain ⟨x0, x1, x2, x3⟩ := HX.out.below HZ2.out HK1.out
  go_wp2_with fail
  go_at_call 36
  refine (HT.out w2 HZ2.out).mono ?_
  rintro e w3 ⟨rfl, hb⟩
  have HZ3 : Hid (Below w1.heap.size w1 w3) := HZ2.out.trans (hb.mono HZ2.out.size)
  clear hb x0 x1 x2 x3
  obtain ⟨x0, x1, x2, x3⟩ := HX.out.below HZ3.out HK1.out
  go_wp2_with fail
  go_at_call 37
  refine (HN.out _).mono ?_
  rintro e w' ⟨rfl, rfl⟩
  go_wp2
  go_ret
  refine ⟨back_v (congrArg Value.string ?_), HB1.out.trans (HZ3.out.mono HB1.out.size)⟩
  refine (str_eq (l := R.data.toList) ?_).trans (strOf_data R)
  rw [HR.out]
  simp

/-- AtomText, of a right atom. -/
theorem refAtomText_any (k n : Int) (vs vt : Value) (s t : List Int) (hf : atomFault k s t n = 0) (w : World) (hS : Reads w vs s) (hT : Reads w vt t) :
    Calls Tryz.prog 15 #[.agg #[.int .i64 k, vs, vt, .int .i64 n]] w fun e w' => e = .returned (.string (strOf (atomText k s t n))) ∧ Below w.heap.size w w' := by
  obtain ⟨hk, hs, ht, n0, n1⟩ := atomFault_zero.1 hf
  have hm : mostN k ≤ 20 := by unfold mostN; split <;> omega
  have text : ∀ (v : Value) (x : List Int), (faultN x = 0 ∨ x = []) → Reads w v x → ∀ W, Below w.heap.size w W → Calls Tryz.prog 36 #[v] W fun e w' => e = .returned (.string (strOf (textN x))) ∧ Below W.heap.size W w' := fun v x hx hR W hW => by
    rcases hR.below hW with ⟨ao, cap, rfl, rfl⟩ | ⟨B, off, cap, rfl, hB, h0, _, hc⟩
    · exact refText_nil ao cap W
    · rcases hx with hx | rfl
      · exact refText_any x B off cap W hx ⟨hB, hc⟩
      · simp at h0
  have h1 := text vs s (Or.inl hs) hS
  have htx : faultN t = 0 ∨ t = [] := by
    by_cases h2 : secondB k = true
    · exact Or.inl (second_reads ht h2)
    · right
      unfold secondFault at ht
      rw [if_neg h2] at ht
      by_cases hl : 0 < t.length
      · rw [if_pos hl] at ht; cases ht
      · exact List.length_eq_zero_iff.1 (by omega)
  have h2 := text vt t htx hT
  have h3 := fun (W : World) => refNumber_any n (by omega) (by omega) W
  have zs : (strOf (textN s)).size ≤ 20 := by rw [strOf_size]; have := (fault_zero.1 hs).2.1; simp [textN]; omega
  have zt : (strOf (textN t)).size ≤ 20 := by
    rw [strOf_size]
    rcases htx with h | rfl
    · have := (fault_zero.1 h).2.1; simp [textN]; omega
    · simp [textN]
  have zn : (strOf (numText n)).size ≤ 20 := by rw [strOf_size]; have := numText_length n; omega
  obtain ⟨sao, scap, rfl, _⟩ := hS.slice
  obtain ⟨tao, tcap, rfl, _⟩ := hT.slice
  rcases five hk.1 hk.2 with rfl | rfl | rfl | rfl | rfl
  · exact refAtomText_1 n sao tao _ scap _ tcap _ _ _ _ zs zt zn (by simp only [strOf_list]; simp [atomText, kindWord, secondB, numberB]) w h1 h2 h3
  · exact refAtomText_2 n sao tao _ scap _ tcap _ _ _ _ zs zt zn (by simp only [strOf_list]; simp [atomText, kindWord, secondB, numberB]) w h1 h2 h3
  · exact refAtomText_3 n sao tao _ scap _ tcap _ _ _ _ zs zt zn (by simp only [strOf_list]; simp [atomText, kindWord, secondB, numberB]) w h1 h2 h3
  · exact refAtomText_4 n sao tao _ scap _ tcap _ _ _ _ zs zt zn (by simp only [strOf_list]; simp [atomText, kindWord, secondB, numberB]) w h1 h2 h3
  · exact refAtomText_5 n sao tao _ scap _ tcap _ _ _ _ zs zt zn (by simp only [strOf_list]; simp [atomText, kindWord, secondB, numberB]) w h1 h2 h3
end Go.Proofs.YtfnkbbpjfjendaiGreatDoor

namespace Go.Proofs.YtfnkbbpjfjendaiGreatDoor
open Go.ChangeShapes Go.WideShapes Go.ChangeAt Go.RowKit
set_option maxRecDepth 100000

set_option maxHeartbeats 8000000 in
theorem refFormText_in (bA oA acap bC oC ccap M nc : Nat) (ats : List At) (c : List Int) (P : ByteArray) (w : World)
    (hM : M = ats.length) (hnc : nc = c.length) (hf : formFault ats c = 0) (hP : P = strOf (formText ats c))
    (HAt : Hid (∀ W, Below w.heap.size w W → ∀ (i : Nat) (a : At), ats[i]? = some a → AtomAt W bA (oA + i * 4) a))
    (HCd : Hid (∀ W, Below w.heap.size w W → ∀ k, k < c.length → W.cell? ⟨bC, oC + k, none⟩ = some (.int .i64 (c.getD k 0)))) :
    Calls Tryz.prog 7 #[.agg #[.slice (some ⟨bA, oA, none⟩) M acap, .slice (some ⟨bC, oC, none⟩) nc ccap]] w fun e w' => e = .returned (.string P) ∧ Below w.heap.size w w' := by
  obtain ⟨ha, hc, hfa, hsg, _⟩ := formFault_zero.1 hf
  have hM6 : M ≤ 6 := by omega
  have hn20 : nc ≤ 20 := by omega
  have HTx : Hid (∀ (k : Nat) (a : At), ats[k]? = some a → ∀ vs vt W, Reads W vs a.s → Reads W vt a.t → Calls Tryz.prog 15 #[.agg #[.int .i64 a.k, vs, vt, .int .i64 a.n]] W fun e w' => ∃ T : ByteArray, e = .returned (.string T) ∧ T.data.toList = a.text ∧ T.size ≤ 100 ∧ Below W.heap.size W w') := fun k a hk vs vt W h1 h2 => by
    have hfl : atomFault a.k a.s a.t a.n = 0 := hfa a (List.mem_of_getElem? hk)
    refine (refAtomText_any a.k a.n vs vt a.s a.t hfl W h1 h2).mono ?_
    rintro e w' ⟨rfl, hb⟩
    exact ⟨_, rfl, strOf_list _, by rw [strOf_size]; exact atomText_size hfl, hb⟩
  have HSg : Hid (∀ k, k < nc → c.getD k 0 = 10 ∨ c.getD k 0 = 11 ∨ c.getD k 0 = 12 ∨ c.getD k 0 = 13 ∨ (0 ≤ c.getD k 0 ∧ c.getD k 0 ≤ 5)) := fun k hk => by
    rw [hnc] at hk
    refine sign_right (by omega : ats.length ≤ 6) (List.all_eq_true.1 hsg _ ?_)
    rw [List.getD_eq_getElem?_getD, List.getElem?_eq_getElem hk]
    exact List.getElem_mem hk
  have HMe : Hid (M = ats.length) := hM
  have Hnc : Hid (nc = c.length) := hnc
  have HP : Hid (P = strOf (formText ats c)) := hP
  clear hM hnc hP hf ha hc hfa hsg
  obtain ⟨w1, hw1⟩ : ∃ w1, w1 = w.alloc (.cells #[.slice (some ⟨bA, oA, none⟩) M acap, .slice (some ⟨bC, oC, none⟩) nc ccap] 25) := ⟨_, rfl⟩
  have HB1 : Hid (Below w.heap.size w w1) := by unfold Hid; rw [hw1]; exact below_alloc1 _ _
  have HP0 : Hid (Blk w1 w.heap.size 25 #[.slice (some ⟨bA, oA, none⟩) M acap, .slice (some ⟨bC, oC, none⟩) nc ccap]) := by unfold Hid; rw [hw1]; exact Blk.new _ _ _
  go_enter Tryz.func7, Tryz.ntmps7
  go_wp2
  rw [← hw1]
  clear hw1
  go_loopw [3, 4] (fun s i wr => ∃ (k : Nat) (acc : ByteArray), k ≤ M ∧ i = .int .i64 k ∧ s = .string acc ∧ acc.data.toList = linesOf (ats.take k) ∧ acc.size ≤ 101 * k ∧ Below w1.heap.size w1 wr) (fun _ i _ => M - (intOf i).toNat)
  case atStart => exact ⟨0, _, Nat.zero_le _, rfl, rfl, rfl, Nat.le_refl _, Below.refl _ _⟩
  case round =>
    obtain ⟨k, acc, hk, rfl, rfl, hacc, hsz, hbel⟩ := hrel
    have HB : Hid (Below w1.heap.size w1 wr) := hbel
    have HBw : Hid (Below w.heap.size w wr) := HB1.out.trans (hbel.mono HB1.out.size)
    have HAc : Hid (acc.data.toList = linesOf (ats.take k)) := hacc
    have HP1 : Hid (Blk wr w.heap.size 25 #[.slice (some ⟨bA, oA, none⟩) M acap, .slice (some ⟨bC, oC, none⟩) nc ccap]) := HP0.out.below hbel
    clear hacc hbel
    have x0 : wr.cell? ⟨w.heap.size, 0, none⟩ = some (.slice (some ⟨bA, oA, none⟩) M acap) := HP1.out.cell 0
    have x1 : wr.cell? ⟨w.heap.size, 1, none⟩ = some (.slice (some ⟨bC, oC, none⟩) nc ccap) := HP1.out.cell 1
    by_cases hlt : k < M
    · obtain ⟨a, hka⟩ : ∃ a, ats[k]? = some a := by
        have : k < ats.length := by rw [← HMe.out]; exact hlt
        exact ⟨_, List.getElem?_eq_getElem this⟩
      obtain ⟨vs, vt, y0, y1, y2, y3, hs, ht⟩ := HAt.out wr HBw.out k a hka
      have HTa : Hid (Calls Tryz.prog 15 #[.agg #[.int .i64 a.k, vs, vt, .int .i64 a.n]] wr fun e w' => ∃ T : ByteArray, e = .returned (.string T) ∧ T.data.toList = a.text ∧ T.size ≤ 100 ∧ Below wr.heap.size wr w') := HTx.out k a hka vs vt wr hs ht
      have HLn : Hid (linesOf (ats.take (k + 1)) = linesOf (ats.take k) ++ (a.text ++ [10])) := lines_step hka
      have hlt' : (k : Int) < (M : Int) := by omega
      clear hka hs ht
      go_wp2_with fail
      go_at_call 15
      refine HTa.out.mono ?_
      rintro e w3 ⟨T, rfl, hT, hTs, hb3⟩
      have HB3 : Hid (Below w1.heap.size w1 w3) := HB.out.trans (hb3.mono HB.out.size)
      have HT : Hid (((acc ++ T) ++ ⟨#[10]⟩ : ByteArray).data.toList = linesOf (ats.take (k + 1))) := by
        unfold Hid
        rw [HLn.out, str_app (str_app HAc.out hT) rfl, List.append_assoc]
      have hs1 : (acc ++ T).size = acc.size + T.size := by simp
      have HT4 : Hid (((acc ++ T) ++ ⟨#[10]⟩ : ByteArray).size ≤ 101 * (k + 1)) := by unfold Hid; rw [ByteArray.size_append, hs1]; show acc.size + T.size + 1 ≤ _; omega
      clear hT hb3 x0 x1 y0 y1 y2 y3
      go_wp2
      go_roundw
      case rel => exact ⟨k + 1, _, by omega, by go_num, rfl, HT.out, len_le HT4.out, HB3.out⟩
      case measure => simp [intOf]; omega
    · obtain rfl : k = M := by omega
      have HL : Hid ((acc ++ ⟨#[99, 111, 100, 101]⟩ : ByteArray).data.toList = linesOf ats ++ codeW ++ signsOf (c.take 0)) := by
        unfold Hid
        have h := HAc.out
        rw [HMe.out, List.take_length] at h
        rw [str_app h rfl]
        simp [signsOf, codeW]
      have HL4 : Hid ((acc ++ ⟨#[99, 111, 100, 101]⟩ : ByteArray).size ≤ 700 + 5 * 0) := by unfold Hid; rw [ByteArray.size_append]; show acc.size + 4 ≤ _; omega
      go_wp2
      clear x0 x1
      go_loopw [3, 6] (fun s i wx => ∃ (j : Nat) (acc : ByteArray), j ≤ nc ∧ i = .int .i64 j ∧ s = .string acc ∧ acc.data.toList = linesOf ats ++ codeW ++ signsOf (c.take j) ∧ acc.size ≤ 700 + 5 * j ∧ wx = wr) (fun _ i _ => nc - (intOf i).toNat)
      case atStart => exact ⟨0, _, Nat.zero_le _, rfl, rfl, HL.out, len_le HL4.out, by first | rfl | trivial⟩
      case round =>
        obtain ⟨j, ac2, hj, rfl, rfl, hac2, hsz2, rfl⟩ := hrel
        have HA2 : Hid (ac2.data.toList = linesOf ats ++ codeW ++ signsOf (c.take j)) := hac2
        clear hac2
        have x0 : wr.cell? ⟨w.heap.size, 0, none⟩ = some (.slice (some ⟨bA, oA, none⟩) k acap) := HP1.out.cell 0
        have x1 : wr.cell? ⟨w.heap.size, 1, none⟩ = some (.slice (some ⟨bC, oC, none⟩) nc ccap) := HP1.out.cell 1
        by_cases hlt2 : j < nc
        · have hjc : j < c.length := by rw [← Hnc.out]; exact hlt2
          have y0 := HCd.out wr HBw.out j hjc
          have HSt : Hid (signsOf (c.take (j + 1)) = signsOf (c.take j) ++ (32 :: signW (c.getD j 0))) := signs_step hjc
          have hsg := HSg.out j hlt2
          obtain ⟨s, hs⟩ : ∃ s, s = c.getD j 0 := ⟨_, rfl⟩
          rw [← hs] at y0 HSt hsg
          have hlt' : (j : Int) < (nc : Int) := by omega
          clear hs hjc
          rcases hsg with rfl | rfl | rfl | rfl | ⟨h0, h5⟩
          · have HT : Hid (((ac2 ++ ⟨#[32]⟩) ++ ⟨#[97, 110, 100]⟩ : ByteArray).data.toList = linesOf ats ++ codeW ++ signsOf (c.take (j + 1))) := by
              unfold Hid
              rw [HSt.out, str_app (str_app HA2.out rfl) rfl]
              simp [signW]
            have HT4 : Hid (((ac2 ++ ⟨#[32]⟩) ++ ⟨#[97, 110, 100]⟩ : ByteArray).size ≤ 700 + 5 * (j + 1)) := by unfold Hid; rw [ByteArray.size_append, ByteArray.size_append]; show ac2.size + 1 + 3 ≤ _; omega
            go_wp2
            go_roundw
            case rel => exact ⟨j + 1, _, by omega, by go_num, rfl, HT.out, len_le HT4.out, by first | rfl | trivial⟩
            case measure => simp [intOf]; omega
          · have HT : Hid (((ac2 ++ ⟨#[32]⟩) ++ ⟨#[111, 114]⟩ : ByteArray).data.toList = linesOf ats ++ codeW ++ signsOf (c.take (j + 1))) := by
              unfold Hid
              rw [HSt.out, str_app (str_app HA2.out rfl) rfl]
              simp [signW]
            have HT4 : Hid (((ac2 ++ ⟨#[32]⟩) ++ ⟨#[111, 114]⟩ : ByteArray).size ≤ 700 + 5 * (j + 1)) := by unfold Hid; rw [ByteArray.size_append, ByteArray.size_append]; show ac2.size + 1 + 2 ≤ _; omega
            go_wp2
            go_roundw
            case rel => exact ⟨j + 1, _, by omega, by go_num, rfl, HT.out, len_le HT4.out, by first | rfl | trivial⟩
            case measure => simp [intOf]; omega
          · have HT : Hid (((ac2 ++ ⟨#[32]⟩) ++ ⟨#[110, 111]⟩ : ByteArray).data.toList = linesOf ats ++ codeW ++ signsOf (c.take (j + 1))) := by
              unfold Hid
              rw [HSt.out, str_app (str_app HA2.out rfl) rfl]
              simp [signW]
            have HT4 : Hid (((ac2 ++ ⟨#[32]⟩) ++ ⟨#[110, 111]⟩ : ByteArray).size ≤ 700 + 5 * (j + 1)) := by unfold Hid; rw [ByteArray.size_append, ByteArray.size_append]; show ac2.size + 1 + 2 ≤ _; omega
            go_wp2
            go_roundw
            case rel => exact ⟨j + 1, _, by omega, by go_num, rfl, HT.out, len_le HT4.out, by first | rfl | trivial⟩
            case measure => simp [intOf]; omega
          · have HT : Hid (((ac2 ++ ⟨#[32]⟩) ++ ⟨#[116, 104, 101, 110]⟩ : ByteArray).data.toList = linesOf ats ++ codeW ++ signsOf (c.take (j + 1))) := by
              unfold Hid
              rw [HSt.out, str_app (str_app HA2.out rfl) rfl]
              simp [signW]
            have HT4 : Hid (((ac2 ++ ⟨#[32]⟩) ++ ⟨#[116, 104, 101, 110]⟩ : ByteArray).size ≤ 700 + 5 * (j + 1)) := by unfold Hid; rw [ByteArray.size_append, ByteArray.size_append]; show ac2.size + 1 + 4 ≤ _; omega
            go_wp2
            go_roundw
            case rel => exact ⟨j + 1, _, by omega, by go_num, rfl, HT.out, len_le HT4.out, by first | rfl | trivial⟩
            case measure => simp [intOf]; omega
          · obtain ⟨d, rfl⟩ := Int.eq_ofNat_of_zero_le h0
            obtain ⟨T, hT⟩ : ∃ T, T = strOf (digitsN d) := ⟨_, rfl⟩
            have HDg : Hid (∀ W, Calls Tryz.prog 16 #[.int .i64 d] W fun e w' => e = .returned (.string T) ∧ W = w') := fun W => by rw [hT]; exact digits_any d (by omega) W
            have hTl : T.data.toList = signW (d : Int) := by
              rw [hT, strOf_list]
              unfold signW
              rw [if_neg (by omega), if_neg (by omega), if_neg (by omega), if_neg (by omega), Int.toNat_natCast]
            have hTs : T.size ≤ 4 := by rw [hT, strOf_size]; exact Nat.le_trans (digits_length d) (by omega)
            have HT : Hid (((ac2 ++ ⟨#[32]⟩) ++ T : ByteArray).data.toList = linesOf ats ++ codeW ++ signsOf (c.take (j + 1))) := by
              unfold Hid
              rw [HSt.out, str_app (str_app HA2.out rfl) hTl]
              simp
            have HT4 : Hid (((ac2 ++ ⟨#[32]⟩) ++ T : ByteArray).size ≤ 700 + 5 * (j + 1)) := by unfold Hid; rw [ByteArray.size_append, ByteArray.size_append]; show ac2.size + 1 + T.size ≤ _; omega
            clear hT hTl
            have d1 : ((d : Int) == 10) = false := by simp; omega
            have d2 : ((d : Int) == 11) = false := by simp; omega
            have d3 : ((d : Int) == 12) = false := by simp; omega
            have d4 : ((d : Int) == 13) = false := by simp; omega
            go_wp2_with (go_at_call 16; refine (HDg.out _).mono ?_; rintro e w' ⟨rfl, rfl⟩)
            go_roundw
            case rel => exact ⟨j + 1, _, by omega, by go_num, rfl, HT.out, len_le HT4.out, by first | rfl | trivial⟩
            case measure => simp [intOf]; omega
        · have HE : Hid ((ac2 ++ ⟨#[10]⟩ : ByteArray) = P) := by
            unfold Hid
            have h := HA2.out
            rw [List.take_of_length_le (by rw [← Hnc.out]; omega)] at h
            rw [HP.out, ← strOf_data (ac2 ++ ⟨#[10]⟩), str_app h rfl]
            unfold formText
            simp
          go_wp2
          go_ret
          exact ⟨back_s HE.out, HBw.out⟩
theorem refFormText_any (va vc : Value) (ats : List At) (c : List Int) (hf : formFault ats c = 0) (w : World) (hA : ReadsA w va ats) (hC : Reads w vc c) :
    Calls Tryz.prog 7 #[.agg #[va, vc]] w fun e w' => e = .returned (.string (strOf (formText ats c))) ∧ Below w.heap.size w w' := by
  obtain ⟨ha, hc, _⟩ := formFault_zero.1 hf
  have hA0 := hA
  have hC0 := hC
  rcases hA with ⟨ao, cap, rfl, h0⟩ | ⟨b, off, cap, rfl, h2, h3, h4, h5⟩
  · rw [h0] at ha; simp at ha
  rcases hC with ⟨co, ccap, rfl, g0⟩ | ⟨b2, off2, ccap, rfl, g2, g3, g4, g5⟩
  · rw [g0] at hc; simp at hc
  exact refFormText_in b off cap b2 off2 ccap _ _ ats c _ w rfl rfl hf rfl (fun W hW i a hi => (h5 i a hi).below h2 hW) (fun W hW k hk => by rw [hW.cell g2]; exact g5 k hk)
end Go.Proofs.YtfnkbbpjfjendaiGreatDoor
