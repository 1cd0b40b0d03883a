/-
  Proved: vennlaw4.LeastMany returns true where what it calls answers as chapter 10 says; what was in memory is as it was (the walk that the statement leans on).
-/
import Derived.Test.YtedgbohobgnedafGreatDoorLibLB1
import Derived.Test.YtedgbohobgnedafGreatDoorLibPB5
namespace Go.Proofs.YtedgbohobgnedafGreatDoor
open Go.ChangeShapes Go.WideShapes Go.ChangeAt Go.RowKit
set_option maxRecDepth 100000

theorem least_low : ∀ name : Nat, name < 3 → ∀ k : Nat, k < 27 → leastFaultF (manyA (name : Int) ((k : Int) - 20)) [0] = 0 ∧ leastOfN (manyA (name : Int) ((k : Int) - 20)) [0] = (if (k : Int) < 20 then 0 else (k : Int) - 20) := by decide +kernel
theorem firm_low : ∀ name : Nat, name < 3 → firmFault (manyA (name : Int) 0) [0] = 0 ∧ firmB (manyA (name : Int) 0) [0] = true := by decide +kernel
theorem firstTo_less {ats : List At} {c : List Int} {k : Nat} (h : ∀ u, u < k → someM ats c u = false) : firstTo ats c k = -1 := by
  induction k with
  | zero => rfl
  | succ k ih => unfold firstTo; rw [ih fun u hu => h u (by omega), if_pos (by decide), if_neg (by rw [h k (by omega)]; decide)]
theorem many_good (name : Nat) (hn : name < 3) (n : Int) (h0 : -20 ≤ n) (h20 : n ≤ 20) : formFault (manyA (name : Int) n) [0] = 0 := by
  refine formFault_zero.2 ⟨⟨by simp [manyA], by simp [manyA]⟩, ⟨by simp, by simp⟩, fun a ha => ?_, by simp [manyA]; decide, by decide⟩
  obtain rfl : a = ⟨3, [(name : Int)], [], n⟩ := by simpa [manyA] using ha
  show atomFault 3 [(name : Int)] [] n = 0
  refine atomFault_zero.2 ⟨⟨by decide, by decide⟩, ?_, by decide, ?_, ?_⟩
  · rcases (by omega : name = 0 ∨ name = 1 ∨ name = 2) with rfl | rfl | rfl <;> decide
  · show -(20 : Int) ≤ n; omega
  · show n ≤ (20 : Int); omega
theorem least_high (name : Nat) (hn : name < 3) (n : Int) (h7 : 6 < n) (h20 : n ≤ 20) : leastFaultF (manyA (name : Int) n) [0] = 5 := by
  have hf := many_good name hn n (by omega) h20
  have hc : cubeFault (manyA (name : Int) n) [0] = 0 := by unfold cubeFault; rw [if_pos hf]; rfl
  have hs : ∀ u, u < 7 → someM (manyA (name : Int) n) [0] u = false := fun u hu => by
    rcases (Bool.eq_false_or_eq_true (someM (manyA (name : Int) n) [0] u)) with e | e
    · exfalso
      have hz : modelFault (manyA (name : Int) n) [0] (u : Int) = 0 := of_decide_eq_true e
      obtain ⟨_, h2, _, h4⟩ := model_zero hz
      unfold Wd.formIs at h4
      rw [if_pos (wdForm_zero.2 ⟨hf, h2⟩)] at h4
      have hb : ∀ b : Bool, valF [b] [0] = b := by intro b; cases b <;> rfl
      have h5 : valF ((modelW (manyA (name : Int) n) [0] (u : Int)).heldL (manyA (name : Int) n)) [0] = (modelW (manyA (name : Int) n) [0] (u : Int)).holds 3 [(name : Int)] [] n := hb _
      rw [h5] at h4
      have hp := (pcN_le ((modelW (manyA (name : Int) n) [0] (u : Int)).val [(name : Int)])).2
      unfold Wd.holds saysB at h4
      simp at h4
      omega
    · exact e
  unfold leastFaultF
  rw [if_pos hc, firstTo_less hs, if_pos (by decide)]

set_option maxHeartbeats 4000000 in
theorem leastMany_high (k : Nat) (hk : k < 3) (n : Int) (h7 : 6 < n) (h20 : n ≤ 20) (w : World)
    (HO : Hid (∀ W, Below w.heap.size w W → Calls Tryz.prog 6 #[.int .i64 k, .int .i64 n] W fun e w' => ∃ b1 b2, e = .returned (.agg #[.slice (some ⟨b1, 0, none⟩) 1 1, .slice (some ⟨b2, 0, none⟩) 1 1]) ∧ Hid (Calls Tryz.prog 5 #[.agg #[.slice (some ⟨b1, 0, none⟩) 1 1, .slice (some ⟨b2, 0, none⟩) 1 1]] w' fun e' w'' => e' = .returned (.tuple #[.int .i64 0, .iface 51 (.int .i64 5)]) ∧ Below w'.heap.size w' w'') ∧ Below W.heap.size W w'))
    (HEr : Hid (∀ W, Below w.heap.size w W → Calls Tryz.prog 7 #[.iface 51 (.int .i64 5), .int .i64 5] W fun e w' => e = .returned (.bool true) ∧ Below W.heap.size W w')) :
    Calls Tryz.prog 3 #[.int .i64 k, .int .i64 n] w fun e w' => e = .returned (.bool true) ∧ Below w.heap.size w w' := by
  have k0 : (0 : Int) ≤ (k : Int) := by omega
  have k2 : (k : Int) ≤ 2 := by omega
  go_enter Tryz.func3, Tryz.ntmps3
  go_wp2_with fail
  go_at_call 6
  refine (HO.out _ (Below.refl _ _)).mono ?_
  rintro e w1 ⟨b1, b2, rfl, H1, hb⟩
  have B1 : Hid (Below w.heap.size w w1) := hb
  clear hb
  go_wp2_with fail
  go_at_call 5
  refine H1.out.mono ?_
  rintro e w2 ⟨rfl, hb⟩
  have B2 : Hid (Below w.heap.size w w2) := B1.out.trans (hb.mono B1.out.size)
  clear hb H1
  go_wp2_with fail
  go_at_call 7
  refine (HEr.out _ B2.out).mono ?_
  rintro e w3 ⟨rfl, hb⟩
  have B3 : Hid (Below w.heap.size w w3) := B2.out.trans (hb.mono B2.out.size)
  clear hb
  go_wp2
  go_ret
  exact ⟨rfl, B3.out⟩

set_option maxHeartbeats 4000000 in
theorem leastMany_mid (k : Nat) (hk : k < 3) (n : Int) (h0 : 0 ≤ n) (h6 : n ≤ 6) (w : World)
    (HO : Hid (∀ W, Below w.heap.size w W → Calls Tryz.prog 6 #[.int .i64 k, .int .i64 n] W fun e w' => ∃ b1 b2, e = .returned (.agg #[.slice (some ⟨b1, 0, none⟩) 1 1, .slice (some ⟨b2, 0, none⟩) 1 1]) ∧ Hid (Calls Tryz.prog 5 #[.agg #[.slice (some ⟨b1, 0, none⟩) 1 1, .slice (some ⟨b2, 0, none⟩) 1 1]] w' fun e' w'' => e' = .returned (.tuple #[.int .i64 n, .nilIface]) ∧ Below w'.heap.size w' w'') ∧ Below W.heap.size W w'))
    (HF : Hid (∀ W, Below w.heap.size w W → Calls Tryz.prog 6 #[.int .i64 k, .int .i64 0] W fun e w' => ∃ b1 b2, e = .returned (.agg #[.slice (some ⟨b1, 0, none⟩) 1 1, .slice (some ⟨b2, 0, none⟩) 1 1]) ∧ Hid (Calls Tryz.prog 8 #[.agg #[.slice (some ⟨b1, 0, none⟩) 1 1, .slice (some ⟨b2, 0, none⟩) 1 1]] w' fun e' w'' => e' = .returned (.tuple #[.bool true, .nilIface]) ∧ Below w'.heap.size w' w'') ∧ Below W.heap.size W w')) :
    Calls Tryz.prog 3 #[.int .i64 k, .int .i64 n] w fun e w' => e = .returned (.bool true) ∧ Below w.heap.size w w' := by
  have k0 : (0 : Int) ≤ (k : Int) := by omega
  have k2 : (k : Int) ≤ 2 := by omega
  go_enter Tryz.func3, Tryz.ntmps3
  go_wp2_with fail
  go_at_call 6
  refine (HO.out _ (Below.refl _ _)).mono ?_
  rintro e w1 ⟨b1, b2, rfl, H1, hb⟩
  have B1 : Hid (Below w.heap.size w w1) := hb
  clear hb
  go_wp2_with fail
  go_at_call 5
  refine H1.out.mono ?_
  rintro e w2 ⟨rfl, hb⟩
  have B2 : Hid (Below w.heap.size w w2) := B1.out.trans (hb.mono B1.out.size)
  clear hb H1
  go_wp2_with fail
  go_at_call 6
  refine (HF.out _ B2.out).mono ?_
  rintro e w3 ⟨b3, b4, rfl, H2, hb⟩
  have B3 : Hid (Below w.heap.size w w3) := B2.out.trans (hb.mono B2.out.size)
  clear hb
  go_wp2_with fail
  go_at_call 8
  refine H2.out.mono ?_
  rintro e w4 ⟨rfl, hb⟩
  have B4 : Hid (Below w.heap.size w w4) := B3.out.trans (hb.mono B3.out.size)
  clear hb H2
  go_wp2
  go_ret
  exact ⟨rfl, B4.out⟩

set_option maxHeartbeats 4000000 in
theorem leastMany_low (k : Nat) (hk : k < 3) (n : Int) (h0 : n < 0) (h20 : -20 ≤ n) (w : World)
    (HO : Hid (∀ W, Below w.heap.size w W → Calls Tryz.prog 6 #[.int .i64 k, .int .i64 n] W fun e w' => ∃ b1 b2, e = .returned (.agg #[.slice (some ⟨b1, 0, none⟩) 1 1, .slice (some ⟨b2, 0, none⟩) 1 1]) ∧ Hid (Calls Tryz.prog 5 #[.agg #[.slice (some ⟨b1, 0, none⟩) 1 1, .slice (some ⟨b2, 0, none⟩) 1 1]] w' fun e' w'' => e' = .returned (.tuple #[.int .i64 0, .nilIface]) ∧ Below w'.heap.size w' w'') ∧ Below W.heap.size W w'))
    (HF : Hid (∀ W, Below w.heap.size w W → Calls Tryz.prog 6 #[.int .i64 k, .int .i64 0] W fun e w' => ∃ b1 b2, e = .returned (.agg #[.slice (some ⟨b1, 0, none⟩) 1 1, .slice (some ⟨b2, 0, none⟩) 1 1]) ∧ Hid (Calls Tryz.prog 8 #[.agg #[.slice (some ⟨b1, 0, none⟩) 1 1, .slice (some ⟨b2, 0, none⟩) 1 1]] w' fun e' w'' => e' = .returned (.tuple #[.bool true, .nilIface]) ∧ Below w'.heap.size w' w'') ∧ Below W.heap.size W w')) :
    Calls Tryz.prog 3 #[.int .i64 k, .int .i64 n] w fun e w' => e = .returned (.bool true) ∧ Below w.heap.size w w' := by
  have k0 : (0 : Int) ≤ (k : Int) := by omega
  have k2 : (k : Int) ≤ 2 := by omega
  go_enter Tryz.func3, Tryz.ntmps3
  go_wp2_with fail
  go_at_call 6
  refine (HO.out _ (Below.refl _ _)).mono ?_
  rintro e w1 ⟨b1, b2, rfl, H1, hb⟩
  have B1 : Hid (Below w.heap.size w w1) := hb
  clear hb
  go_wp2_with fail
  go_at_call 5
  refine H1.out.mono ?_
  rintro e w2 ⟨rfl, hb⟩
  have B2 : Hid (Below w.heap.size w w2) := B1.out.trans (hb.mono B1.out.size)
  clear hb H1
  go_wp2_with fail
  go_at_call 6
  refine (HF.out _ B2.out).mono ?_
  rintro e w3 ⟨b3, b4, rfl, H2, hb⟩
  have B3 : Hid (Below w.heap.size w w3) := B2.out.trans (hb.mono B2.out.size)
  clear hb
  go_wp2_with fail
  go_at_call 8
  refine H2.out.mono ?_
  rintro e w4 ⟨rfl, hb⟩
  have B4 : Hid (Below w.heap.size w w4) := B3.out.trans (hb.mono B3.out.size)
  clear hb H2
  go_wp2
  go_ret
  exact ⟨rfl, B4.out⟩

set_option maxHeartbeats 4000000 in
theorem leastMany_out (name n : Int) (hb : name < 0 ∨ 2 < name ∨ n < -20 ∨ 20 < n) (w : World) :
    Calls Tryz.prog 3 #[.int .i64 name, .int .i64 n] w fun e w' => e = .returned (.bool true) ∧ Below w.heap.size w w' := by
  rcases (by omega : name < 0 ∨ (¬ name < 0 ∧ 2 < name) ∨ (¬ name < 0 ∧ ¬ 2 < name ∧ n < -20) ∨ (¬ name < 0 ∧ ¬ 2 < name ∧ ¬ n < -20 ∧ 20 < n)) with h | ⟨h, h2⟩ | ⟨h, h2, h3⟩ | ⟨h, h2, h3, h4⟩
  all_goals
    clear hb
    go_enter Tryz.func3, Tryz.ntmps3
    go_wp2
    go_ret
    exact ⟨rfl, Below.refl _ _⟩

theorem leastMany_of (name n : Int) (w : World) (hg : Laid w)
    (cOf : ∀ (va vc : Value) (ats : List At) (c : List Int) (W : World), Below w.heap.size w W → ReadsA W va ats → Reads W vc c → Calls Tryz.prog 5 #[.agg #[va, vc]] W fun e w' => e = .returned (.tuple #[.int .i64 (leastOfN ats c), errV (leastFaultF ats c)]) ∧ Below W.heap.size W w')
    (cFm : ∀ (va vc : Value) (ats : List At) (c : List Int) (W : World), Below w.heap.size w W → ReadsA W va ats → Reads W vc c → Calls Tryz.prog 8 #[.agg #[va, vc]] W fun e w' => e = .returned (.tuple #[.bool (firmB ats c), errV (firmFault ats c)]) ∧ Below W.heap.size W w') :
    Calls Tryz.prog 3 #[.int .i64 name, .int .i64 n] w fun e w' => e = .returned (.bool true) ∧ Below w.heap.size w w' := by
  by_cases hout : name < 0 ∨ 2 < name ∨ n < -20 ∨ 20 < n
  · exact leastMany_out name n hout w
  · obtain ⟨k, rfl⟩ := Int.eq_ofNat_of_zero_le (by omega : 0 ≤ name)
    have hk : k < 3 := by omega
    have hO : ∀ W, Below w.heap.size w W → Calls Tryz.prog 6 #[.int .i64 k, .int .i64 n] W fun e w' => ∃ b1 b2, e = .returned (.agg #[.slice (some ⟨b1, 0, none⟩) 1 1, .slice (some ⟨b2, 0, none⟩) 1 1]) ∧ Calls Tryz.prog 5 #[.agg #[.slice (some ⟨b1, 0, none⟩) 1 1, .slice (some ⟨b2, 0, none⟩) 1 1]] w' (fun e' w'' => e' = .returned (.tuple #[.int .i64 (leastOfN (manyA (k : Int) n) [0]), errV (leastFaultF (manyA (k : Int) n) [0])]) ∧ Below w'.heap.size w' w'') ∧ Below W.heap.size W w' := fun W hW => by
      refine (atomOf_any (k : Int) n W).mono ?_
      rintro e w' ⟨b1, b2, rfl, hA, hC, hb⟩
      exact ⟨b1, b2, rfl, cOf _ _ (manyA (k : Int) n) [0] w' (hW.trans (hb.mono hW.size)) hA hC, hb⟩
    have hF : ∀ W, Below w.heap.size w W → Calls Tryz.prog 6 #[.int .i64 k, .int .i64 0] W fun e w' => ∃ b1 b2, e = .returned (.agg #[.slice (some ⟨b1, 0, none⟩) 1 1, .slice (some ⟨b2, 0, none⟩) 1 1]) ∧ Calls Tryz.prog 8 #[.agg #[.slice (some ⟨b1, 0, none⟩) 1 1, .slice (some ⟨b2, 0, none⟩) 1 1]] w' (fun e' w'' => e' = .returned (.tuple #[.bool true, .nilIface]) ∧ Below w'.heap.size w' w'') ∧ Below W.heap.size W w' := fun W hW => by
      refine (atomOf_any (k : Int) 0 W).mono ?_
      rintro e w' ⟨b1, b2, rfl, hA, hC, hb⟩
      have h := cFm _ _ (manyA (k : Int) 0) [0] w' (hW.trans (hb.mono hW.size)) hA hC
      rw [(firm_low k hk).1, (firm_low k hk).2] at h
      exact ⟨b1, b2, rfl, h, hb⟩
    by_cases h7 : 6 < n
    · have e1 := least_high k hk n h7 (by omega)
      have e2 : leastOfN (manyA (k : Int) n) [0] = 0 := by unfold leastOfN; rw [if_neg (by rw [e1]; decide)]
      rw [e1, e2] at hO
      exact leastMany_high k hk n h7 (by omega) w hO fun W hW => merr_any 5 W (hg.below hW)
    · obtain ⟨m, hm⟩ := Int.eq_ofNat_of_zero_le (by omega : 0 ≤ n + 20)
      obtain ⟨e1, e2⟩ := least_low k hk m (by omega)
      rw [show (m : Int) - 20 = n by omega] at e1 e2
      rw [e1, e2] at hO
      by_cases h0 : n < 0
      · rw [if_pos (by omega)] at hO
        exact leastMany_low k hk n h0 (by omega) w hO hF
      · rw [if_neg (by omega)] at hO
        exact leastMany_mid k hk n (by omega) (by omega) w hO hF
end Go.Proofs.YtedgbohobgnedafGreatDoor
