/-
  Proved: what vennref1.Digits, Number and AtomText return; what was in memory is as it was (contracts that the statements lean on).
-/
import Derived.Test.YtfjaooiaidcoaabGreatDoorTermRead
import Derived.Test.YtfjaooiaidcoaabGreatDoorAtomPrint
namespace Go.Proofs.YtfjaooiaidcoaabGreatDoor
open Go.ChangeShapes Go.WideShapes Go.ChangeAt Go.RowKit
set_option maxRecDepth 100000

theorem digit_cut : ∀ u : Nat, u < 10 → (⟨#[48, 49, 50, 51, 52, 53, 54, 55, 56, 57]⟩ : ByteArray).extract u (u + 1) = strOf [UInt8.ofNat (48 + u)] := by decide
theorem digits_low (u : Nat) (h : u < 10) (w : World) :
    Calls Tryz.prog 47 #[.int .i64 u] w fun e w' => e = .returned (.string (strOf (digitsN u))) ∧ w = w' := by
  have e : digitsN u = [UInt8.ofNat (48 + u)] := by unfold digitsN; rw [if_pos h]
  rw [e, ← digit_cut u h]
  have h1 : (u : Int) < 10 := by omega
  have h2 : (0 : Int) ≤ (u : Int) := by omega
  have h3 : (u : Int) ≤ (u : Int) + 1 := by omega
  have h4 : (u : Int) + 1 ≤ 10 := by omega
  clear e
  go_enter Tryz.func47, Tryz.ntmps47
  go_wp2
  go_ret
  exact ⟨rfl, rfl⟩
theorem digits_any (u : Nat) (h : u < 100) (w : World) :
    Calls Tryz.prog 47 #[.int .i64 u] w fun e w' => e = .returned (.string (strOf (digitsN u))) ∧ w = w' := by
  by_cases h1 : u < 10
  · exact digits_low u h1 w
  have HD : Hid (∀ W, Calls Tryz.prog 47 #[.int .i64 ((u / 10 : Nat) : Int)] W fun e w' => e = .returned (.string (strOf [UInt8.ofNat (48 + u / 10)])) ∧ W = w') := fun W => by
    have := digits_low (u / 10) (by omega) W
    have e : digitsN (u / 10) = [UInt8.ofNat (48 + u / 10)] := by unfold digitsN; rw [if_pos (by omega)]
    rw [e] at this
    exact this
  have e : digitsN u = [UInt8.ofNat (48 + u / 10), UInt8.ofNat (48 + u % 10)] := by unfold digitsN; rw [if_neg h1]
  obtain ⟨q, hq⟩ : ∃ q, q = u / 10 := ⟨_, rfl⟩
  obtain ⟨r, hr⟩ : ∃ r, r = u % 10 := ⟨_, rfl⟩
  rw [← hq] at HD e
  rw [← hr] at e
  have HE : Hid (strOf (digitsN u) = strOf [UInt8.ofNat (48 + q)] ++ (⟨#[48, 49, 50, 51, 52, 53, 54, 55, 56, 57]⟩ : ByteArray).extract r (r + 1)) := by
    unfold Hid
    rw [e, digit_cut r (by omega)]
    rfl
  obtain ⟨T, hT⟩ : ∃ T, T = strOf (digitsN u) := ⟨_, rfl⟩
  rw [← hT] at HE ⊢
  have hm : (u : Int) % 10 = (r : Int) := by rw [hr]; omega
  have hdv : (u : Int) / 10 = (q : Int) := by rw [hq]; omega
  have h10 : ¬ ((u : Int) < 10) := by omega
  have r0 : (0 : Int) ≤ (r : Int) := by omega
  have r1 : (r : Int) ≤ (r : Int) + 1 := by omega
  have r2 : (r : Int) + 1 ≤ 10 := by omega
  obtain ⟨Y, hY⟩ : ∃ Y, Y = strOf [UInt8.ofNat (48 + q)] := ⟨_, rfl⟩
  have hYs : Y.size ≤ 20 := by rw [hY, strOf_size]; simp
  rw [← hY] at HD HE
  clear e hT h1 hq hr hY
  go_enter Tryz.func47, Tryz.ntmps47
  go_wp2_with (go_at_call 47; refine (HD.out _).mono ?_; rintro e w' ⟨rfl, rfl⟩)
  go_ret
  exact ⟨back_v (congrArg Value.string HE.out.symm), rfl⟩
theorem refNumber_any (n : Int) (h0 : -99 ≤ n) (h1 : n ≤ 99) (w : World) :
    Calls Tryz.prog 23 #[.int .i64 n] w fun e w' => e = .returned (.string (strOf (numText n))) ∧ w = w' := by
  by_cases hn : n < 0
  · have e : numText n = 45 :: digitsN n.natAbs := by unfold numText; rw [if_pos hn]
    have HD : Hid (∀ W, Calls Tryz.prog 47 #[.int .i64 (-n)] W fun e w' => e = .returned (.string (strOf (digitsN n.natAbs))) ∧ W = w') := fun W => by
      have := digits_any n.natAbs (by omega) W
      rw [show ((n.natAbs : Nat) : Int) = -n by omega] at this
      exact this
    have HE : Hid (strOf (numText n) = (⟨#[45]⟩ : ByteArray) ++ strOf (digitsN n.natAbs)) := by unfold Hid; rw [e]; apply ByteArray.ext; simp [strOf]
    obtain ⟨T, hT⟩ : ∃ T, T = strOf (numText n) := ⟨_, rfl⟩
    obtain ⟨Y, hY⟩ : ∃ Y, Y = strOf (digitsN n.natAbs) := ⟨_, rfl⟩
    have hYs : Y.size ≤ 20 := by rw [hY, strOf_size]; have := digits_length n.natAbs; omega
    rw [← hT, ← hY] at HE
    rw [← hT]
    rw [← hY] at HD
    clear e hT hY
    go_enter Tryz.func23, Tryz.ntmps23
    go_wp2_with (go_at_call 47; refine (HD.out _).mono ?_; rintro e w' ⟨rfl, rfl⟩)
    go_ret
    exact ⟨back_v (congrArg Value.string HE.out.symm), rfl⟩
  · have HD : Hid (∀ W, Calls Tryz.prog 47 #[.int .i64 n] W fun e w' => e = .returned (.string (strOf (numText n))) ∧ W = w') := fun W => by
      have := digits_any n.toNat (by omega) W
      have e : numText n = digitsN n.toNat := by unfold numText; rw [if_neg hn]
      rw [e]
      rw [show ((n.toNat : Nat) : Int) = n by omega] at this
      exact this
    obtain ⟨T, hT⟩ : ∃ T, T = strOf (numText n) := ⟨_, rfl⟩
    rw [← hT] at HD ⊢
    clear hT
    go_enter Tryz.func23, Tryz.ntmps23
    go_wp2_with (go_at_call 47; refine (HD.out _).mono ?_; rintro e w' ⟨rfl, rfl⟩)
    go_ret
    exact ⟨rfl, rfl⟩
theorem refText_nil (ao : Option Addr) (cap : Nat) (w : World) :
    Calls Tryz.prog 22 #[.slice ao 0 cap] w fun e w' => e = .returned (.string ⟨#[]⟩) ∧ Below w.heap.size w w' := by
  go_enter Tryz.func22, Tryz.ntmps22
  go_wp2
  refine wp_loop_rounds 1 ?_
  rw [rounds_succ]
  go_wp2
  go_ret
  exact ⟨rfl, Below.refl _ _⟩

set_option linter.unusedVariables false in
set_option maxHeartbeats 2000000 in
theorem refAtomText_1 (n : Int) (sao tao : Option Addr) (sl scap tl tcap : Nat) (PS PT PN R : ByteArray) (zs : PS.size ≤ 20) (zt : PT.size ≤ 20) (zn : PN.size ≤ 20) (hR : R.data.toList = [115, 117, 98] ++ (32 :: PS.data.toList) ++ (32 :: PT.data.toList)) (w : World)
    (hS : ∀ W, Below w.heap.size w W → Calls Tryz.prog 22 #[.slice sao sl scap] W fun e w' => e = .returned (.string PS) ∧ Below W.heap.size W w')
    (hT : ∀ W, Below w.heap.size w W → Calls Tryz.prog 22 #[.slice tao tl tcap] W fun e w' => e = .returned (.string PT) ∧ Below W.heap.size W w')
    (hN : ∀ W, Calls Tryz.prog 23 #[.int .i64 n] W fun e w' => e = .returned (.string PN) ∧ W = w') :
    Calls Tryz.prog 8 #[.agg #[.int .i64 1, .slice sao sl scap, .slice tao tl tcap, .int .i64 n]] w fun e w' => e = .returned (.string R) ∧ Below w.heap.size w w' := by
  obtain ⟨w1, hw1⟩ : ∃ w1, w1 = w.alloc (.cells #[.int .i64 1, .slice sao sl scap, .slice tao tl tcap, .int .i64 n] 24) := ⟨_, rfl⟩
  have HB1 : Hid (Below w.heap.size w w1) := by unfold Hid; rw [hw1]; exact below_alloc1 w _
  have HX : Hid (BoxA w1 w.heap.size 1 n (.slice sao sl scap) (.slice tao tl tcap)) := by unfold Hid; rw [hw1]; exact boxA_alloc w _ _ _ _
  have HK1 : Hid (w.heap.size < w1.heap.size) := by unfold Hid; rw [hw1]; simp
  have HS : Hid (∀ W, Below w1.heap.size w1 W → _) := fun W h => hS W (HB1.out.trans (h.mono HB1.out.size))
  have HT : Hid (∀ W, Below w1.heap.size w1 W → _) := fun W h => hT W (HB1.out.trans (h.mono HB1.out.size))
  have HN : Hid (∀ W, _) := hN
  have HR : Hid (R.data.toList = [115, 117, 98] ++ (32 :: PS.data.toList) ++ (32 :: PT.data.toList)) := hR
  clear hS hT hN hR
  obtain ⟨x0, x1, x2, x3⟩ := HX.out
  go_enter Tryz.func8, Tryz.ntmps8
  go_wp2_with fail
  rw [← hw1]
  clear hw1
  go_at_call 22
  refine (HS.out w1 (Below.refl _ _)).mono ?_
  rintro e w2 ⟨rfl, hb⟩
  have HZ2 : Hid (Below w1.heap.size w1 w2) := hb
  clear hb x0 x1 x2 x3
  obtain ⟨x0, x1, x2, x3⟩ := HX.out.below HZ2.out HK1.out
  go_wp2_with fail
  go_at_call 22
  refine (HT.out w2 HZ2.out).mono ?_
  rintro e w3 ⟨rfl, hb⟩
  have HZ3 : Hid (Below w1.heap.size w1 w3) := HZ2.out.trans (hb.mono HZ2.out.size)
  clear hb x0 x1 x2 x3
  obtain ⟨x0, x1, x2, x3⟩ := HX.out.below HZ3.out HK1.out
  go_wp2_with fail
  go_at_call 23
  refine (HN.out _).mono ?_
  rintro e w' ⟨rfl, rfl⟩
  go_wp2
  go_ret
  refine ⟨back_v (congrArg Value.string ?_), HB1.out.trans (HZ3.out.mono HB1.out.size)⟩
  refine (str_eq (l := R.data.toList) ?_).trans (strOf_data R)
  rw [HR.out]
  simp

set_option linter.unusedVariables false in
set_option maxHeartbeats 2000000 in
theorem refAtomText_2 (n : Int) (sao tao : Option Addr) (sl scap tl tcap : Nat) (PS PT PN R : ByteArray) (zs : PS.size ≤ 20) (zt : PT.size ≤ 20) (zn : PN.size ≤ 20) (hR : R.data.toList = [115, 97, 109, 101] ++ (32 :: PS.data.toList) ++ (32 :: PT.data.toList)) (w : World)
    (hS : ∀ W, Below w.heap.size w W → Calls Tryz.prog 22 #[.slice sao sl scap] W fun e w' => e = .returned (.string PS) ∧ Below W.heap.size W w')
    (hT : ∀ W, Below w.heap.size w W → Calls Tryz.prog 22 #[.slice tao tl tcap] W fun e w' => e = .returned (.string PT) ∧ Below W.heap.size W w')
    (hN : ∀ W, Calls Tryz.prog 23 #[.int .i64 n] W fun e w' => e = .returned (.string PN) ∧ W = w') :
    Calls Tryz.prog 8 #[.agg #[.int .i64 2, .slice sao sl scap, .slice tao tl tcap, .int .i64 n]] w fun e w' => e = .returned (.string R) ∧ Below w.heap.size w w' := by
  obtain ⟨w1, hw1⟩ : ∃ w1, w1 = w.alloc (.cells #[.int .i64 2, .slice sao sl scap, .slice tao tl tcap, .int .i64 n] 24) := ⟨_, rfl⟩
  have HB1 : Hid (Below w.heap.size w w1) := by unfold Hid; rw [hw1]; exact below_alloc1 w _
  have HX : Hid (BoxA w1 w.heap.size 2 n (.slice sao sl scap) (.slice tao tl tcap)) := by unfold Hid; rw [hw1]; exact boxA_alloc w _ _ _ _
  have HK1 : Hid (w.heap.size < w1.heap.size) := by unfold Hid; rw [hw1]; simp
  have HS : Hid (∀ W, Below w1.heap.size w1 W → _) := fun W h => hS W (HB1.out.trans (h.mono HB1.out.size))
  have HT : Hid (∀ W, Below w1.heap.size w1 W → _) := fun W h => hT W (HB1.out.trans (h.mono HB1.out.size))
  have HN : Hid (∀ W, _) := hN
  have HR : Hid (R.data.toList = [115, 97, 109, 101] ++ (32 :: PS.data.toList) ++ (32 :: PT.data.toList)) := hR
  clear hS hT hN hR
  obtain ⟨x0, x1, x2, x3⟩ := HX.out
  go_enter Tryz.func8, Tryz.ntmps8
  go_wp2_with fail
  rw [← hw1]
  clear hw1
  go_at_call 22
  refine (HS.out w1 (Below.refl _ _)).mono ?_
  rintro e w2 ⟨rfl, hb⟩
  have HZ2 : Hid (Below w1.heap.size w1 w2) := hb
  clear hb x0 x1 x2 x3
  obtain ⟨x0, x1, x2, x3⟩ := HX.out.below HZ2.out HK1.out
  go_wp2_with fail
  go_at_call 22
  refine (HT.out w2 HZ2.out).mono ?_
  rintro e w3 ⟨rfl, hb⟩
  have HZ3 : Hid (Below w1.heap.size w1 w3) := HZ2.out.trans (hb.mono HZ2.out.size)
  clear hb x0 x1 x2 x3
  obtain ⟨x0, x1, x2, x3⟩ := HX.out.below HZ3.out HK1.out
  go_wp2_with fail
  go_at_call 23
  refine (HN.out _).mono ?_
  rintro e w' ⟨rfl, rfl⟩
  go_wp2
  go_ret
  refine ⟨back_v (congrArg Value.string ?_), HB1.out.trans (HZ3.out.mono HB1.out.size)⟩
  refine (str_eq (l := R.data.toList) ?_).trans (strOf_data R)
  rw [HR.out]
  simp

set_option linter.unusedVariables false in
set_option maxHeartbeats 2000000 in
theorem refAtomText_3 (n : Int) (sao tao : Option Addr) (sl scap tl tcap : Nat) (PS PT PN R : ByteArray) (zs : PS.size ≤ 20) (zt : PT.size ≤ 20) (zn : PN.size ≤ 20) (hR : R.data.toList = [108, 101, 97, 115, 116] ++ (32 :: PS.data.toList) ++ (32 :: PN.data.toList)) (w : World)
    (hS : ∀ W, Below w.heap.size w W → Calls Tryz.prog 22 #[.slice sao sl scap] W fun e w' => e = .returned (.string PS) ∧ Below W.heap.size W w')
    (hT : ∀ W, Below w.heap.size w W → Calls Tryz.prog 22 #[.slice tao tl tcap] W fun e w' => e = .returned (.string PT) ∧ Below W.heap.size W w')
    (hN : ∀ W, Calls Tryz.prog 23 #[.int .i64 n] W fun e w' => e = .returned (.string PN) ∧ W = w') :
    Calls Tryz.prog 8 #[.agg #[.int .i64 3, .slice sao sl scap, .slice tao tl tcap, .int .i64 n]] w fun e w' => e = .returned (.string R) ∧ Below w.heap.size w w' := by
  obtain ⟨w1, hw1⟩ : ∃ w1, w1 = w.alloc (.cells #[.int .i64 3, .slice sao sl scap, .slice tao tl tcap, .int .i64 n] 24) := ⟨_, rfl⟩
  have HB1 : Hid (Below w.heap.size w w1) := by unfold Hid; rw [hw1]; exact below_alloc1 w _
  have HX : Hid (BoxA w1 w.heap.size 3 n (.slice sao sl scap) (.slice tao tl tcap)) := by unfold Hid; rw [hw1]; exact boxA_alloc w _ _ _ _
  have HK1 : Hid (w.heap.size < w1.heap.size) := by unfold Hid; rw [hw1]; simp
  have HS : Hid (∀ W, Below w1.heap.size w1 W → _) := fun W h => hS W (HB1.out.trans (h.mono HB1.out.size))
  have HT : Hid (∀ W, Below w1.heap.size w1 W → _) := fun W h => hT W (HB1.out.trans (h.mono HB1.out.size))
  have HN : Hid (∀ W, _) := hN
  have HR : Hid (R.data.toList = [108, 101, 97, 115, 116] ++ (32 :: PS.data.toList) ++ (32 :: PN.data.toList)) := hR
  clear hS hT hN hR
  obtain ⟨x0, x1, x2, x3⟩ := HX.out
  go_enter Tryz.func8, Tryz.ntmps8
  go_wp2_with fail
  rw [← hw1]
  clear hw1
  go_at_call 22
  refine (HS.out w1 (Below.refl _ _)).mono ?_
  rintro e w2 ⟨rfl, hb⟩
  have HZ2 : Hid (Below w1.heap.size w1 w2) := hb
  clear hb x0 x1 x2 x3
  obtain ⟨x0, x1, x2, x3⟩ := HX.out.below HZ2.out HK1.out
  go_wp2_with fail
  go_at_call 22
  refine (HT.out w2 HZ2.out).mono ?_
  rintro e w3 ⟨rfl, hb⟩
  have HZ3 : Hid (Below w1.heap.size w1 w3) := HZ2.out.trans (hb.mono HZ2.out.size)
  clear hb x0 x1 x2 x3
  obtain ⟨x0, x1, x2, x3⟩ := HX.out.below HZ3.out HK1.out
  go_wp2_with fail
  go_at_call 23
  refine (HN.out _).mono ?_
  rintro e w' ⟨rfl, rfl⟩
  go_wp2
  go_ret
  refine ⟨back_v (congrArg Value.string ?_), HB1.out.trans (HZ3.out.mono HB1.out.size)⟩
  refine (str_eq (l := R.data.toList) ?_).trans (strOf_data R)
  rw [HR.out]
  simp

set_option linter.unusedVariables false in
set_option maxHeartbeats 2000000 in
theorem refAtomText_4 (n : Int) (sao tao : Option Addr) (sl scap tl tcap : Nat) (PS PT PN R : ByteArray) (zs : PS.size ≤ 20) (zt : PT.size ≤ 20) (zn : PN.size ≤ 20) (hR : R.data.toList = [109, 111, 115, 116] ++ (32 :: PS.data.toList) ++ (32 :: PN.data.toList)) (w : World)
    (hS : ∀ W, Below w.heap.size w W → Calls Tryz.prog 22 #[.slice sao sl scap] W fun e w' => e = .returned (.string PS) ∧ Below W.heap.size W w')
    (hT : ∀ W, Below w.heap.size w W → Calls Tryz.prog 22 #[.slice tao tl tcap] W fun e w' => e = .returned (.string PT) ∧ Below W.heap.size W w')
    (hN : ∀ W, Calls Tryz.prog 23 #[.int .i64 n] W fun e w' => e = .returned (.string PN) ∧ W = w') :
    Calls Tryz.prog 8 #[.agg #[.int .i64 4, .slice sao sl scap, .slice tao tl tcap, .int .i64 n]] w fun e w' => e = .returned (.string R) ∧ Below w.heap.size w w' := by
  obtain ⟨w1, hw1⟩ : ∃ w1, w1 = w.alloc (.cells #[.int .i64 4, .slice sao sl scap, .slice tao tl tcap, .int .i64 n] 24) := ⟨_, rfl⟩
  have HB1 : Hid (Below w.heap.size w w1) := by unfold Hid; rw [hw1]; exact below_alloc1 w _
  have HX : Hid (BoxA w1 w.heap.size 4 n (.slice sao sl scap) (.slice tao tl tcap)) := by unfold Hid; rw [hw1]; exact boxA_alloc w _ _ _ _
  have HK1 : Hid (w.heap.size < w1.heap.size) := by unfold Hid; rw [hw1]; simp
  have HS : Hid (∀ W, Below w1.heap.size w1 W → _) := fun W h => hS W (HB1.out.trans (h.mono HB1.out.size))
  have HT : Hid (∀ W, Below w1.heap.size w1 W → _) := fun W h => hT W (HB1.out.trans (h.mono HB1.out.size))
  have HN : Hid (∀ W, _) := hN
  have HR : Hid (R.data.toList = [109, 111, 115, 116] ++ (32 :: PS.data.toList) ++ (32 :: PN.data.toList)) := hR
  clear hS hT hN hR
  obtain ⟨x0, x1, x2, x3⟩ := HX.out
  go_enter Tryz.func8, Tryz.ntmps8
  go_wp2_with fail
  rw [← hw1]
  clear hw1
  go_at_call 22
  refine (HS.out w1 (Below.refl _ _)).mono ?_
  rintro e w2 ⟨rfl, hb⟩
  have HZ2 : Hid (Below w1.heap.size w1 w2) := hb
  clear hb x0 x1 x2 x3
  obtain ⟨x0, x1, x2, x3⟩ := HX.out.below HZ2.out HK1.out
  go_wp2_with fail
  go_at_call 22
  refine (HT.out w2 HZ2.out).mono ?_
  rintro e w3 ⟨rfl, hb⟩
  have HZ3 : Hid (Below w1.heap.size w1 w3) := HZ2.out.trans (hb.mono HZ2.out.size)
  clear hb x0 x1 x2 x3
  obtain ⟨x0, x1, x2, x3⟩ := HX.out.below HZ3.out HK1.out
  go_wp2_with fail
  go_at_call 23
  refine (HN.out _).mono ?_
  rintro e w' ⟨rfl, rfl⟩
  go_wp2
  go_ret
  refine ⟨back_v (congrArg Value.string ?_), HB1.out.trans (HZ3.out.mono HB1.out.size)⟩
  refine (str_eq (l := R.data.toList) ?_).trans (strOf_data R)
  rw [HR.out]
  simp

set_option linter.unusedVariables false in
set_option maxHeartbeats 2000000 in
theorem refAtomText_5 (n : Int) (sao tao : Option Addr) (sl scap tl tcap : Nat) (PS PT PN R : ByteArray) (zs : PS.size ≤ 20) (zt : PT.size ≤ 20) (zn : PN.size ≤ 20) (hR : R.data.toList = [110, 111, 109, 111, 114, 101] ++ (32 :: PS.data.toList) ++ (32 :: PT.data.toList) ++ (32 :: PN.data.toList)) (w : World)
    (hS : ∀ W, Below w.heap.size w W → Calls Tryz.prog 22 #[.slice sao sl scap] W fun e w' => e = .returned (.string PS) ∧ Below W.heap.size W w')
    (hT : ∀ W, Below w.heap.size w W → Calls Tryz.prog 22 #[.slice tao tl tcap] W fun e w' => e = .returned (.string PT) ∧ Below W.heap.size W w')
    (hN : ∀ W, Calls Tryz.prog 23 #[.int .i64 n] W fun e w' => e = .returned (.string PN) ∧ W = w') :
    Calls Tryz.prog 8 #[.agg #[.int .i64 5, .slice sao sl scap, .slice tao tl tcap, .int .i64 n]] w fun e w' => e = .returned (.string R) ∧ Below w.heap.size w w' := by
  obtain ⟨w1, hw1⟩ : ∃ w1, w1 = w.alloc (.cells #[.int .i64 5, .slice sao sl scap, .slice tao tl tcap, .int .i64 n] 24) := ⟨_, rfl⟩
  have HB1 : Hid (Below w.heap.size w w1) := by unfold Hid; rw [hw1]; exact below_alloc1 w _
  have HX : Hid (BoxA w1 w.heap.size 5 n (.slice sao sl scap) (.slice tao tl tcap)) := by unfold Hid; rw [hw1]; exact boxA_alloc w _ _ _ _
  have HK1 : Hid (w.heap.size < w1.heap.size) := by unfold Hid; rw [hw1]; simp
  have HS : Hid (∀ W, Below w1.heap.size w1 W → _) := fun W h => hS W (HB1.out.trans (h.mono HB1.out.size))
  have HT : Hid (∀ W, Below w1.heap.size w1 W → _) := fun W h => hT W (HB1.out.trans (h.mono HB1.out.size))
  have HN : Hid (∀ W, _) := hN
  have HR : Hid (R.data.toList = [110, 111, 109, 111, 114, 101] ++ (32 :: PS.data.toList) ++ (32 :: PT.data.toList) ++ (32 :: PN.data.toList)) := hR
  clear hS hT hN hR
  obtain ⟨x0, x1, x2, x3⟩ := HX.out
  go_enter Tryz.func8, Tryz.ntmps8
  go_wp2_with fail
  rw [← hw1]
  clear hw1
  go_at_call 22
  refine (HS.out w1 (Below.refl _ _)).mono ?_
  rintro e w2 ⟨rfl, hb⟩
  have HZ2 : Hid (Below w1.heap.size w1 w2) := hb
  clear hb x0 x1 x2 x3
  obtain ⟨x0, x1, x2, x3⟩ := HX.out.below HZ2.out HK1.out
  go_wp2_with fail
  go_at_call 22
  refine (HT.out w2 HZ2.out).mono ?_
  rintro e w3 ⟨rfl, hb⟩
  have HZ3 : Hid (Below w1.heap.size w1 w3) := HZ2.out.trans (hb.mono HZ2.out.size)
  clear hb x0 x1 x2 x3
  obtain ⟨x0, x1, x2, x3⟩ := HX.out.below HZ3.out HK1.out
  go_wp2_with fail
  go_at_call 23
  refine (HN.out _).mono ?_
  rintro e w' ⟨rfl, rfl⟩
  go_wp2
  go_ret
  refine ⟨back_v (congrArg Value.string ?_), HB1.out.trans (HZ3.out.mono HB1.out.size)⟩
  refine (str_eq (l := R.data.toList) ?_).trans (strOf_data R)
  rw [HR.out]
  simp

/-- AtomText, of a right atom. -/
theorem refAtomText_any (k n : Int) (vs vt : Value) (s t : List Int) (hf : atomFault k s t n = 0) (w : World) (hS : Reads w vs s) (hT : Reads w vt t) :
    Calls Tryz.prog 8 #[.agg #[.int .i64 k, vs, vt, .int .i64 n]] w fun e w' => e = .returned (.string (strOf (atomText k s t n))) ∧ Below w.heap.size w w' := by
  obtain ⟨hk, hs, ht, n0, n1⟩ := atomFault_zero.1 hf
  have hm : mostN k ≤ 20 := by unfold mostN; split <;> omega
  have text : ∀ (v : Value) (x : List Int), (faultN x = 0 ∨ x = []) → Reads w v x → ∀ W, Below w.heap.size w W → Calls Tryz.prog 22 #[v] W fun e w' => e = .returned (.string (strOf (textN x))) ∧ Below W.heap.size W w' := fun v x hx hR W hW => by
    rcases hR.below hW with ⟨ao, cap, rfl, rfl⟩ | ⟨B, off, cap, rfl, hB, h0, _, hc⟩
    · exact refText_nil ao cap W
    · rcases hx with hx | rfl
      · exact refText_any x B off cap W hx ⟨hB, hc⟩
      · simp at h0
  have h1 := text vs s (Or.inl hs) hS
  have htx : faultN t = 0 ∨ t = [] := by
    by_cases h2 : secondB k = true
    · exact Or.inl (second_reads ht h2)
    · right
      unfold secondFault at ht
      rw [if_neg h2] at ht
      by_cases hl : 0 < t.length
      · rw [if_pos hl] at ht; cases ht
      · exact List.length_eq_zero_iff.1 (by omega)
  have h2 := text vt t htx hT
  have h3 := fun (W : World) => refNumber_any n (by omega) (by omega) W
  have zs : (strOf (textN s)).size ≤ 20 := by rw [strOf_size]; have := (fault_zero.1 hs).2.1; simp [textN]; omega
  have zt : (strOf (textN t)).size ≤ 20 := by
    rw [strOf_size]
    rcases htx with h | rfl
    · have := (fault_zero.1 h).2.1; simp [textN]; omega
    · simp [textN]
  have zn : (strOf (numText n)).size ≤ 20 := by rw [strOf_size]; have := numText_length n; omega
  obtain ⟨sao, scap, rfl, _⟩ := hS.slice
  obtain ⟨tao, tcap, rfl, _⟩ := hT.slice
  rcases five hk.1 hk.2 with rfl | rfl | rfl | rfl | rfl
  · exact refAtomText_1 n sao tao _ scap _ tcap _ _ _ _ zs zt zn (by simp only [strOf_list]; simp [atomText, kindWord, secondB, numberB]) w h1 h2 h3
  · exact refAtomText_2 n sao tao _ scap _ tcap _ _ _ _ zs zt zn (by simp only [strOf_list]; simp [atomText, kindWord, secondB, numberB]) w h1 h2 h3
  · exact refAtomText_3 n sao tao _ scap _ tcap _ _ _ _ zs zt zn (by simp only [strOf_list]; simp [atomText, kindWord, secondB, numberB]) w h1 h2 h3
  · exact refAtomText_4 n sao tao _ scap _ tcap _ _ _ _ zs zt zn (by simp only [strOf_list]; simp [atomText, kindWord, secondB, numberB]) w h1 h2 h3
  · exact refAtomText_5 n sao tao _ scap _ tcap _ _ _ _ zs zt zn (by simp only [strOf_list]; simp [atomText, kindWord, secondB, numberB]) w h1 h2 h3
end Go.Proofs.YtfjaooiaidcoaabGreatDoor
