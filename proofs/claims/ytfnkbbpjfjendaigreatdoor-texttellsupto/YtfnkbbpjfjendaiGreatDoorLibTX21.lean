/-
  Proved: what vennref1.ReadAtom returns, of words of kind 4, by which part is wrong; what was in memory is as it was (a contract that the statements lean on).
-/
import Derived.Test.YtfnkbbpjfjendaiGreatDoorLibTX17
namespace Go.Proofs.YtfnkbbpjfjendaiGreatDoor
open Go.ChangeShapes Go.WideShapes Go.ChangeAt Go.RowKit
set_option maxRecDepth 100000

set_option linter.unusedVariables false in
set_option maxHeartbeats 4000000 in
theorem readAtom_4_s (s x : ByteArray) (l0 l1 l2 : List UInt8) (w : World) (hx : strOf l0 = x) (q1 : (x.toList == [115, 117, 98]) = false) (q2 : (x.toList == [115, 97, 109, 101]) = false) (q3 : (x.toList == [108, 101, 97, 115, 116]) = false) (q4 : (x.toList == [109, 111, 115, 116]) = true) (z1 : l1.length ≤ 1048576) (z2 : l2.length ≤ 1048576) (b1 : lettersB l1 = false)
    (hC : ∀ W, Below w.heap.size w W → Calls Tryz.prog 21 #[.string s, .int .u8 32] W fun e w' => ∃ v, e = .returned v ∧ ReadsS w' v [l0, l1, l2] ∧ Below W.heap.size W w') :
    Calls Tryz.prog 22 #[.string s] w fun e w' => e = .returned (.tuple #[.agg #[.int .i64 0, .slice none 0 0, .slice none 0 0, .int .i64 0], .int .i64 2]) ∧ Below w.heap.size w w' := by
  have HRt : Hid (∀ l : List UInt8, l.length ≤ 1048576 → ∀ W, Calls Tryz.prog 42 #[.string (strOf l)] W fun e w' => ∃ v, e = .returned (.tuple #[v, .bool (lettersB l)]) ∧ (lettersB l = true → Reads w' v (readN l)) ∧ NewV W.heap.size v ∧ Below W.heap.size W w') := fun l hl W => readTerm_word l hl W
  have HRn : Hid (∀ l : List UInt8, l.length ≤ 1048576 → ∀ W, Calls Tryz.prog 43 #[.string (strOf l)] W fun e w' => e = .returned (.tuple #[.int .i64 ((numOf l).getD 0), .bool (numOf l).isSome]) ∧ W = w') := fun l hl W => by
    have := readNumber_any (strOf l) (by rw [strOf_size]; omega) W
    rw [strOf_list] at this
    exact this
  obtain ⟨w1, hw1⟩ : ∃ w1, w1 = w.alloc (.cells #[.int .i64 0, .slice none 0 0, .slice none 0 0, .int .i64 0] 40) := ⟨_, rfl⟩
  have HB1 : Hid (Below w.heap.size w w1) := by unfold Hid; rw [hw1]; exact below_alloc1 w _
  have HR1 : Hid (OneA w1 w.heap.size (.int .i64 0) (.slice none 0 0) (.slice none 0 0) (.int .i64 0)) := by unfold Hid; rw [hw1]; exact oneA_alloc _ _ _ _ _ _
  have HC : Hid (Calls Tryz.prog 21 #[.string s, .int .u8 32] w1 fun e w' => ∃ v, e = .returned v ∧ ReadsS w' v [l0, l1, l2] ∧ Below w1.heap.size w1 w') := hC w1 HB1.out
  clear hC
  go_enter Tryz.func22, Tryz.ntmps22
  go_wp2_with fail
  rw [← hw1]
  clear hw1
  go_at_call 21
  refine HC.out.mono ?_
  rintro e w2 ⟨v, rfl, hR, hb⟩
  obtain ⟨wb, cap, rfl, hwb, hcap, hcell⟩ := hR
  obtain ⟨w3, hw3⟩ : ∃ w3, w3 = w2.alloc (.cells #[.int .i64 0, .slice none 0 0, .slice none 0 0, .int .i64 0] 40) := ⟨_, rfl⟩
  have HS3 : Hid (StA w w3 w2.heap.size wb [l0, l1, l2] (.int .i64 0) (.slice none 0 0) (.slice none 0 0) (.int .i64 0)) := by unfold Hid; rw [hw3]; exact stA_start HB1.out HR1.out hb hwb hcell _ _
  obtain ⟨w4, hw4⟩ : ∃ w4, w4 = w2.alloc (.cells #[.int .i64 4, .slice none 0 0, .slice none 0 0, .int .i64 0] 40) := ⟨_, rfl⟩
  have HS4 : Hid (StA w w4 w2.heap.size wb [l0, l1, l2] (.int .i64 4) (.slice none 0 0) (.slice none 0 0) (.int .i64 0)) := by unfold Hid; rw [hw4]; exact stA_start HB1.out HR1.out hb hwb hcell _ _
  clear hb hcell hwb hcap
  have c0 : w3.cell? ⟨wb, 0, none⟩ = some (.string (strOf l0)) := HS3.out.word 0 (by simp)
  rw [hx] at c0
  have c1 : w4.cell? ⟨wb, 1, none⟩ = some (.string (strOf l1)) := HS4.out.word 1 (by simp)
  rw [hw3] at c0
  rw [hw4] at c1
  go_wp2_with fail
  rw [← hw4]
  clear hw4 hw3 c0 c1
  go_at_call 42
  refine (HRt.out l1 z1 w4).mono ?_
  rintro e w5 ⟨vv, rfl, hRd, ⟨ao1, n1, c1, rfl, hnew⟩, hb⟩
  rw [b1] at hRd
  rw [b1]
  have HS5 : Hid (StA w w5 w2.heap.size wb [l0, l1, l2] (.int .i64 4) (.slice none 0 0) (.slice none 0 0) (.int .i64 0)) := HS4.out.call hb
  clear hRd hb hnew
  obtain ⟨⟨r0, r1, r2, r3⟩, rf, _⟩ := HS5.out.res
  have p0 := rf 0
  have p1 := rf 1
  have p2 := rf 2
  have p3 := rf 3
  clear rf
  go_wp2_with fail
  have hA := HS5.out.res.all (.int .i64 0) (.slice none 0 0) (.slice none 0 0) (.int .i64 0)
  have hld := load_atom hA.1.1 hA.1.2.1 hA.1.2.2.1 hA.1.2.2.2
  refine bodyPost_ret (v := .tuple #[.agg #[.int .i64 0, .slice none 0 0, .slice none 0 0, .int .i64 0], .int .i64 2]) ?_ rfl ⟨rfl, HS5.out.fin _ _ _ _⟩
  rw [results_cell_tmp rfl]
  simp [asAddr, Result.andThen, hld]

set_option linter.unusedVariables false in
set_option maxHeartbeats 4000000 in
theorem readAtom_4_n (s x : ByteArray) (l0 l1 l2 : List UInt8) (w : World) (hx : strOf l0 = x) (q1 : (x.toList == [115, 117, 98]) = false) (q2 : (x.toList == [115, 97, 109, 101]) = false) (q3 : (x.toList == [108, 101, 97, 115, 116]) = false) (q4 : (x.toList == [109, 111, 115, 116]) = true) (z1 : l1.length ≤ 1048576) (z2 : l2.length ≤ 1048576) (b1 : lettersB l1 = true) (bn : (numOf l2).isSome = false)
    (hC : ∀ W, Below w.heap.size w W → Calls Tryz.prog 21 #[.string s, .int .u8 32] W fun e w' => ∃ v, e = .returned v ∧ ReadsS w' v [l0, l1, l2] ∧ Below W.heap.size W w') :
    Calls Tryz.prog 22 #[.string s] w fun e w' => e = .returned (.tuple #[.agg #[.int .i64 0, .slice none 0 0, .slice none 0 0, .int .i64 0], .int .i64 2]) ∧ Below w.heap.size w w' := by
  have HRt : Hid (∀ l : List UInt8, l.length ≤ 1048576 → ∀ W, Calls Tryz.prog 42 #[.string (strOf l)] W fun e w' => ∃ v, e = .returned (.tuple #[v, .bool (lettersB l)]) ∧ (lettersB l = true → Reads w' v (readN l)) ∧ NewV W.heap.size v ∧ Below W.heap.size W w') := fun l hl W => readTerm_word l hl W
  have HRn : Hid (∀ l : List UInt8, l.length ≤ 1048576 → ∀ W, Calls Tryz.prog 43 #[.string (strOf l)] W fun e w' => e = .returned (.tuple #[.int .i64 ((numOf l).getD 0), .bool (numOf l).isSome]) ∧ W = w') := fun l hl W => by
    have := readNumber_any (strOf l) (by rw [strOf_size]; omega) W
    rw [strOf_list] at this
    exact this
  obtain ⟨w1, hw1⟩ : ∃ w1, w1 = w.alloc (.cells #[.int .i64 0, .slice none 0 0, .slice none 0 0, .int .i64 0] 40) := ⟨_, rfl⟩
  have HB1 : Hid (Below w.heap.size w w1) := by unfold Hid; rw [hw1]; exact below_alloc1 w _
  have HR1 : Hid (OneA w1 w.heap.size (.int .i64 0) (.slice none 0 0) (.slice none 0 0) (.int .i64 0)) := by unfold Hid; rw [hw1]; exact oneA_alloc _ _ _ _ _ _
  have HC : Hid (Calls Tryz.prog 21 #[.string s, .int .u8 32] w1 fun e w' => ∃ v, e = .returned v ∧ ReadsS w' v [l0, l1, l2] ∧ Below w1.heap.size w1 w') := hC w1 HB1.out
  clear hC
  go_enter Tryz.func22, Tryz.ntmps22
  go_wp2_with fail
  rw [← hw1]
  clear hw1
  go_at_call 21
  refine HC.out.mono ?_
  rintro e w2 ⟨v, rfl, hR, hb⟩
  obtain ⟨wb, cap, rfl, hwb, hcap, hcell⟩ := hR
  obtain ⟨w3, hw3⟩ : ∃ w3, w3 = w2.alloc (.cells #[.int .i64 0, .slice none 0 0, .slice none 0 0, .int .i64 0] 40) := ⟨_, rfl⟩
  have HS3 : Hid (StA w w3 w2.heap.size wb [l0, l1, l2] (.int .i64 0) (.slice none 0 0) (.slice none 0 0) (.int .i64 0)) := by unfold Hid; rw [hw3]; exact stA_start HB1.out HR1.out hb hwb hcell _ _
  obtain ⟨w4, hw4⟩ : ∃ w4, w4 = w2.alloc (.cells #[.int .i64 4, .slice none 0 0, .slice none 0 0, .int .i64 0] 40) := ⟨_, rfl⟩
  have HS4 : Hid (StA w w4 w2.heap.size wb [l0, l1, l2] (.int .i64 4) (.slice none 0 0) (.slice none 0 0) (.int .i64 0)) := by unfold Hid; rw [hw4]; exact stA_start HB1.out HR1.out hb hwb hcell _ _
  clear hb hcell hwb hcap
  have c0 : w3.cell? ⟨wb, 0, none⟩ = some (.string (strOf l0)) := HS3.out.word 0 (by simp)
  rw [hx] at c0
  have c1 : w4.cell? ⟨wb, 1, none⟩ = some (.string (strOf l1)) := HS4.out.word 1 (by simp)
  rw [hw3] at c0
  rw [hw4] at c1
  go_wp2_with fail
  rw [← hw4]
  clear hw4 hw3 c0 c1
  go_at_call 42
  refine (HRt.out l1 z1 w4).mono ?_
  rintro e w5 ⟨vv, rfl, hRd, ⟨ao1, n1, c1, rfl, hnew⟩, hb⟩
  rw [b1] at hRd
  rw [b1]
  have HS5 : Hid (StA w w5 w2.heap.size wb [l0, l1, l2] (.int .i64 4) (.slice none 0 0) (.slice none 0 0) (.int .i64 0)) := HS4.out.call hb
  have HV1 : Hid (Reads w5 (.slice ao1 n1 c1) (readN l1) ∧ NewV w4.heap.size (.slice ao1 n1 c1)) := ⟨hRd rfl, ⟨ao1, n1, c1, rfl, hnew⟩⟩
  have HK1 : Hid (w2.heap.size < w4.heap.size ∧ w.heap.size < w4.heap.size) := HS4.out.lts
  obtain ⟨w6, hw6⟩ : ∃ W, W = w5.setCell ⟨w2.heap.size, 1, none⟩ (.slice ao1 n1 c1) := ⟨_, rfl⟩
  have HS6 : Hid (StA w w6 w2.heap.size wb [l0, l1, l2] (.int .i64 4) (.slice ao1 n1 c1) (.slice none 0 0) (.int .i64 0)) := by unfold Hid; rw [hw6]; exact HS5.out.s1 _
  have HV2 : Hid (Reads w6 (.slice ao1 n1 c1) (readN l1)) := by unfold Hid; rw [hw6]; exact HV1.out.1.storeNew HV1.out.2 HK1.out.1
  have g1 := HS5.out.own.1.2.1
  have f1 := HS5.out.own.2.1 1
  have a0 := HS6.out.own.1.1
  have c2 : w6.cell? ⟨wb, 2, none⟩ = some (.string (strOf l2)) := HS6.out.word 2 (by simp)
  rw [hw6] at a0 c2
  clear hRd hb hnew
  have HV7 : Hid (Reads w6 (.slice ao1 n1 c1) (readN l1) ∧ Reads w6 (.slice none 0 0) []) := ⟨HV2.out, Or.inl ⟨none, 0, rfl, rfl⟩⟩
  clear c2
  have cn : w6.cell? ⟨wb, 2, none⟩ = some (.string (strOf l2)) := HS6.out.word 2 (by simp)
  rw [hw6] at cn
  go_wp2_with fail
  rw [← hw6]
  clear hw6 g1 f1 a0 cn
  go_at_call 43
  refine (HRn.out l2 z2 w6).mono ?_
  rintro e wx ⟨rfl, rfl⟩
  rw [bn]
  obtain ⟨⟨r0, r1, r2, r3⟩, rf, _⟩ := HS6.out.res
  have p0 := rf 0
  have p1 := rf 1
  have p2 := rf 2
  have p3 := rf 3
  clear rf
  go_wp2_with fail
  have hA := HS6.out.res.all (.int .i64 0) (.slice none 0 0) (.slice none 0 0) (.int .i64 0)
  have hld := load_atom hA.1.1 hA.1.2.1 hA.1.2.2.1 hA.1.2.2.2
  refine bodyPost_ret (v := .tuple #[.agg #[.int .i64 0, .slice none 0 0, .slice none 0 0, .int .i64 0], .int .i64 2]) ?_ rfl ⟨rfl, HS6.out.fin _ _ _ _⟩
  rw [results_cell_tmp rfl]
  simp [asAddr, Result.andThen, hld]

set_option linter.unusedVariables false in
set_option maxHeartbeats 4000000 in
theorem readAtom_4_f (s x : ByteArray) (l0 l1 l2 : List UInt8) (w : World) (hx : strOf l0 = x) (q1 : (x.toList == [115, 117, 98]) = false) (q2 : (x.toList == [115, 97, 109, 101]) = false) (q3 : (x.toList == [108, 101, 97, 115, 116]) = false) (q4 : (x.toList == [109, 111, 115, 116]) = true) (z1 : l1.length ≤ 1048576) (z2 : l2.length ≤ 1048576) (b1 : lettersB l1 = true) (bn : (numOf l2).isSome = true) (hF : ¬ (atomFault 4 (readN l1) [] ((numOf l2).getD 0)) = 0)
    (hC : ∀ W, Below w.heap.size w W → Calls Tryz.prog 21 #[.string s, .int .u8 32] W fun e w' => ∃ v, e = .returned v ∧ ReadsS w' v [l0, l1, l2] ∧ Below W.heap.size W w') :
    Calls Tryz.prog 22 #[.string s] w fun e w' => e = .returned (.tuple #[.agg #[.int .i64 0, .slice none 0 0, .slice none 0 0, .int .i64 0], .int .i64 (atomFault 4 (readN l1) [] ((numOf l2).getD 0))]) ∧ Below w.heap.size w w' := by
  have HRt : Hid (∀ l : List UInt8, l.length ≤ 1048576 → ∀ W, Calls Tryz.prog 42 #[.string (strOf l)] W fun e w' => ∃ v, e = .returned (.tuple #[v, .bool (lettersB l)]) ∧ (lettersB l = true → Reads w' v (readN l)) ∧ NewV W.heap.size v ∧ Below W.heap.size W w') := fun l hl W => readTerm_word l hl W
  have HRn : Hid (∀ l : List UInt8, l.length ≤ 1048576 → ∀ W, Calls Tryz.prog 43 #[.string (strOf l)] W fun e w' => e = .returned (.tuple #[.int .i64 ((numOf l).getD 0), .bool (numOf l).isSome]) ∧ W = w') := fun l hl W => by
    have := readNumber_any (strOf l) (by rw [strOf_size]; omega) W
    rw [strOf_list] at this
    exact this
  obtain ⟨N, hN⟩ : ∃ N, N = (numOf l2).getD 0 := ⟨_, rfl⟩
  rw [← hN] at hF ⊢
  have HN : Hid (N = (numOf l2).getD 0) := hN
  clear hN
  obtain ⟨F, hFF⟩ : ∃ F, F = (atomFault 4 (readN l1) [] N) := ⟨_, rfl⟩
  have HAt : Hid (∀ W vs vt, Reads W vs (readN l1) → Reads W vt [] → Calls Tryz.prog 14 #[.agg #[.int .i64 4, vs, vt, .int .i64 N]] W fun e w' => e = .returned (.int .i64 F) ∧ Below W.heap.size W w') := fun W vs vt h1 h2 => by
    rw [hFF]
    exact refAtom_any 4 N vs vt _ _ W h1 h2
  rw [← hFF] at hF
  rw [← hFF]
  clear hFF
  obtain ⟨w1, hw1⟩ : ∃ w1, w1 = w.alloc (.cells #[.int .i64 0, .slice none 0 0, .slice none 0 0, .int .i64 0] 40) := ⟨_, rfl⟩
  have HB1 : Hid (Below w.heap.size w w1) := by unfold Hid; rw [hw1]; exact below_alloc1 w _
  have HR1 : Hid (OneA w1 w.heap.size (.int .i64 0) (.slice none 0 0) (.slice none 0 0) (.int .i64 0)) := by unfold Hid; rw [hw1]; exact oneA_alloc _ _ _ _ _ _
  have HC : Hid (Calls Tryz.prog 21 #[.string s, .int .u8 32] w1 fun e w' => ∃ v, e = .returned v ∧ ReadsS w' v [l0, l1, l2] ∧ Below w1.heap.size w1 w') := hC w1 HB1.out
  clear hC
  go_enter Tryz.func22, Tryz.ntmps22
  go_wp2_with fail
  rw [← hw1]
  clear hw1
  go_at_call 21
  refine HC.out.mono ?_
  rintro e w2 ⟨v, rfl, hR, hb⟩
  obtain ⟨wb, cap, rfl, hwb, hcap, hcell⟩ := hR
  obtain ⟨w3, hw3⟩ : ∃ w3, w3 = w2.alloc (.cells #[.int .i64 0, .slice none 0 0, .slice none 0 0, .int .i64 0] 40) := ⟨_, rfl⟩
  have HS3 : Hid (StA w w3 w2.heap.size wb [l0, l1, l2] (.int .i64 0) (.slice none 0 0) (.slice none 0 0) (.int .i64 0)) := by unfold Hid; rw [hw3]; exact stA_start HB1.out HR1.out hb hwb hcell _ _
  obtain ⟨w4, hw4⟩ : ∃ w4, w4 = w2.alloc (.cells #[.int .i64 4, .slice none 0 0, .slice none 0 0, .int .i64 0] 40) := ⟨_, rfl⟩
  have HS4 : Hid (StA w w4 w2.heap.size wb [l0, l1, l2] (.int .i64 4) (.slice none 0 0) (.slice none 0 0) (.int .i64 0)) := by unfold Hid; rw [hw4]; exact stA_start HB1.out HR1.out hb hwb hcell _ _
  clear hb hcell hwb hcap
  have c0 : w3.cell? ⟨wb, 0, none⟩ = some (.string (strOf l0)) := HS3.out.word 0 (by simp)
  rw [hx] at c0
  have c1 : w4.cell? ⟨wb, 1, none⟩ = some (.string (strOf l1)) := HS4.out.word 1 (by simp)
  rw [hw3] at c0
  rw [hw4] at c1
  go_wp2_with fail
  rw [← hw4]
  clear hw4 hw3 c0 c1
  go_at_call 42
  refine (HRt.out l1 z1 w4).mono ?_
  rintro e w5 ⟨vv, rfl, hRd, ⟨ao1, n1, c1, rfl, hnew⟩, hb⟩
  rw [b1] at hRd
  rw [b1]
  have HS5 : Hid (StA w w5 w2.heap.size wb [l0, l1, l2] (.int .i64 4) (.slice none 0 0) (.slice none 0 0) (.int .i64 0)) := HS4.out.call hb
  have HV1 : Hid (Reads w5 (.slice ao1 n1 c1) (readN l1) ∧ NewV w4.heap.size (.slice ao1 n1 c1)) := ⟨hRd rfl, ⟨ao1, n1, c1, rfl, hnew⟩⟩
  have HK1 : Hid (w2.heap.size < w4.heap.size ∧ w.heap.size < w4.heap.size) := HS4.out.lts
  obtain ⟨w6, hw6⟩ : ∃ W, W = w5.setCell ⟨w2.heap.size, 1, none⟩ (.slice ao1 n1 c1) := ⟨_, rfl⟩
  have HS6 : Hid (StA w w6 w2.heap.size wb [l0, l1, l2] (.int .i64 4) (.slice ao1 n1 c1) (.slice none 0 0) (.int .i64 0)) := by unfold Hid; rw [hw6]; exact HS5.out.s1 _
  have HV2 : Hid (Reads w6 (.slice ao1 n1 c1) (readN l1)) := by unfold Hid; rw [hw6]; exact HV1.out.1.storeNew HV1.out.2 HK1.out.1
  have g1 := HS5.out.own.1.2.1
  have f1 := HS5.out.own.2.1 1
  have a0 := HS6.out.own.1.1
  have c2 : w6.cell? ⟨wb, 2, none⟩ = some (.string (strOf l2)) := HS6.out.word 2 (by simp)
  rw [hw6] at a0 c2
  clear hRd hb hnew
  have HV7 : Hid (Reads w6 (.slice ao1 n1 c1) (readN l1) ∧ Reads w6 (.slice none 0 0) []) := ⟨HV2.out, Or.inl ⟨none, 0, rfl, rfl⟩⟩
  clear c2
  have cn : w6.cell? ⟨wb, 2, none⟩ = some (.string (strOf l2)) := HS6.out.word 2 (by simp)
  rw [hw6] at cn
  go_wp2_with fail
  rw [← hw6]
  clear hw6 g1 f1 a0 cn
  go_at_call 43
  refine (HRn.out l2 z2 w6).mono ?_
  rintro e wx ⟨rfl, rfl⟩
  rw [bn]
  rw [← HN.out]
  obtain ⟨w7, hw7⟩ : ∃ W, W = w6.setCell ⟨w2.heap.size, 3, none⟩ (.int .i64 N) := ⟨_, rfl⟩
  have HS7 : Hid (StA w w7 w2.heap.size wb [l0, l1, l2] (.int .i64 4) (.slice ao1 n1 c1) (.slice none 0 0) (.int .i64 N)) := by unfold Hid; rw [hw7]; exact HS6.out.s3 _
  have HV8 : Hid (Reads w7 (.slice ao1 n1 c1) (readN l1) ∧ Reads w7 (.slice none 0 0) []) := by unfold Hid; rw [hw7]; exact ⟨HV7.out.1.storeNew HV1.out.2 HK1.out.1, Or.inl ⟨none, 0, rfl, rfl⟩⟩
  have g1 := HS6.out.own.1.2.2.2
  have f1 := HS6.out.own.2.1 3
  obtain ⟨⟨x0, x1, x2, x3⟩, _, _⟩ := HS7.out.own
  rw [hw7] at x0 x1 x2 x3
  go_wp2_with fail
  rw [← hw7]
  clear hw7 g1 f1 x0 x1 x2 x3
  go_at_call 14
  refine (HAt.out w7 _ _ HV8.out.1 HV8.out.2).mono ?_
  rintro e w8 ⟨rfl, hb⟩
  have HS8 : Hid (StA w w8 w2.heap.size wb [l0, l1, l2] (.int .i64 4) (.slice ao1 n1 c1) (.slice none 0 0) (.int .i64 N)) := HS7.out.call hb
  have HV9 : Hid (Reads w8 (.slice ao1 n1 c1) (readN l1) ∧ Reads w8 (.slice none 0 0) []) := ⟨HV8.out.1.below hb, HV8.out.2.below hb⟩
  clear hb
  obtain ⟨⟨r0, r1, r2, r3⟩, rf, _⟩ := HS8.out.res
  have p0 := rf 0
  have p1 := rf 1
  have p2 := rf 2
  have p3 := rf 3
  clear rf
  have hF' : (F != 0) = true := by simpa using hF
  go_wp2_with fail
  have hA := HS8.out.res.all (.int .i64 0) (.slice none 0 0) (.slice none 0 0) (.int .i64 0)
  have hld := load_atom hA.1.1 hA.1.2.1 hA.1.2.2.1 hA.1.2.2.2
  refine bodyPost_ret (v := .tuple #[.agg #[.int .i64 0, .slice none 0 0, .slice none 0 0, .int .i64 0], .int .i64 F]) ?_ rfl ⟨rfl, HS8.out.fin _ _ _ _⟩
  rw [results_cell_tmp rfl]
  simp [asAddr, Result.andThen, hld]

set_option linter.unusedVariables false in
set_option maxHeartbeats 4000000 in
theorem readAtom_4_g (s x : ByteArray) (l0 l1 l2 : List UInt8) (w : World) (hx : strOf l0 = x) (q1 : (x.toList == [115, 117, 98]) = false) (q2 : (x.toList == [115, 97, 109, 101]) = false) (q3 : (x.toList == [108, 101, 97, 115, 116]) = false) (q4 : (x.toList == [109, 111, 115, 116]) = true) (z1 : l1.length ≤ 1048576) (z2 : l2.length ≤ 1048576) (b1 : lettersB l1 = true) (bn : (numOf l2).isSome = true) (hF : (atomFault 4 (readN l1) [] ((numOf l2).getD 0)) = 0)
    (hC : ∀ W, Below w.heap.size w W → Calls Tryz.prog 21 #[.string s, .int .u8 32] W fun e w' => ∃ v, e = .returned v ∧ ReadsS w' v [l0, l1, l2] ∧ Below W.heap.size W w') :
    Calls Tryz.prog 22 #[.string s] w fun e w' => (∃ v0 v1, e = .returned (.tuple #[.agg #[.int .i64 4, v0, v1, .int .i64 ((numOf l2).getD 0)], .int .i64 0]) ∧ Reads w' v0 (readN l1) ∧ Reads w' v1 [] ∧ NewV w.heap.size v0 ∧ NewV w.heap.size v1) ∧ Below w.heap.size w w' := by
  have HRt : Hid (∀ l : List UInt8, l.length ≤ 1048576 → ∀ W, Calls Tryz.prog 42 #[.string (strOf l)] W fun e w' => ∃ v, e = .returned (.tuple #[v, .bool (lettersB l)]) ∧ (lettersB l = true → Reads w' v (readN l)) ∧ NewV W.heap.size v ∧ Below W.heap.size W w') := fun l hl W => readTerm_word l hl W
  have HRn : Hid (∀ l : List UInt8, l.length ≤ 1048576 → ∀ W, Calls Tryz.prog 43 #[.string (strOf l)] W fun e w' => e = .returned (.tuple #[.int .i64 ((numOf l).getD 0), .bool (numOf l).isSome]) ∧ W = w') := fun l hl W => by
    have := readNumber_any (strOf l) (by rw [strOf_size]; omega) W
    rw [strOf_list] at this
    exact this
  obtain ⟨N, hN⟩ : ∃ N, N = (numOf l2).getD 0 := ⟨_, rfl⟩
  rw [← hN] at hF ⊢
  have HN : Hid (N = (numOf l2).getD 0) := hN
  clear hN
  obtain ⟨F, hFF⟩ : ∃ F, F = (atomFault 4 (readN l1) [] N) := ⟨_, rfl⟩
  have HAt : Hid (∀ W vs vt, Reads W vs (readN l1) → Reads W vt [] → Calls Tryz.prog 14 #[.agg #[.int .i64 4, vs, vt, .int .i64 N]] W fun e w' => e = .returned (.int .i64 F) ∧ Below W.heap.size W w') := fun W vs vt h1 h2 => by
    rw [hFF]
    exact refAtom_any 4 N vs vt _ _ W h1 h2
  rw [← hFF] at hF
  clear hFF
  obtain ⟨w1, hw1⟩ : ∃ w1, w1 = w.alloc (.cells #[.int .i64 0, .slice none 0 0, .slice none 0 0, .int .i64 0] 40) := ⟨_, rfl⟩
  have HB1 : Hid (Below w.heap.size w w1) := by unfold Hid; rw [hw1]; exact below_alloc1 w _
  have HR1 : Hid (OneA w1 w.heap.size (.int .i64 0) (.slice none 0 0) (.slice none 0 0) (.int .i64 0)) := by unfold Hid; rw [hw1]; exact oneA_alloc _ _ _ _ _ _
  have HC : Hid (Calls Tryz.prog 21 #[.string s, .int .u8 32] w1 fun e w' => ∃ v, e = .returned v ∧ ReadsS w' v [l0, l1, l2] ∧ Below w1.heap.size w1 w') := hC w1 HB1.out
  clear hC
  go_enter Tryz.func22, Tryz.ntmps22
  go_wp2_with fail
  rw [← hw1]
  clear hw1
  go_at_call 21
  refine HC.out.mono ?_
  rintro e w2 ⟨v, rfl, hR, hb⟩
  obtain ⟨wb, cap, rfl, hwb, hcap, hcell⟩ := hR
  obtain ⟨w3, hw3⟩ : ∃ w3, w3 = w2.alloc (.cells #[.int .i64 0, .slice none 0 0, .slice none 0 0, .int .i64 0] 40) := ⟨_, rfl⟩
  have HS3 : Hid (StA w w3 w2.heap.size wb [l0, l1, l2] (.int .i64 0) (.slice none 0 0) (.slice none 0 0) (.int .i64 0)) := by unfold Hid; rw [hw3]; exact stA_start HB1.out HR1.out hb hwb hcell _ _
  obtain ⟨w4, hw4⟩ : ∃ w4, w4 = w2.alloc (.cells #[.int .i64 4, .slice none 0 0, .slice none 0 0, .int .i64 0] 40) := ⟨_, rfl⟩
  have HS4 : Hid (StA w w4 w2.heap.size wb [l0, l1, l2] (.int .i64 4) (.slice none 0 0) (.slice none 0 0) (.int .i64 0)) := by unfold Hid; rw [hw4]; exact stA_start HB1.out HR1.out hb hwb hcell _ _
  clear hb hcell hwb hcap
  have c0 : w3.cell? ⟨wb, 0, none⟩ = some (.string (strOf l0)) := HS3.out.word 0 (by simp)
  rw [hx] at c0
  have c1 : w4.cell? ⟨wb, 1, none⟩ = some (.string (strOf l1)) := HS4.out.word 1 (by simp)
  rw [hw3] at c0
  rw [hw4] at c1
  go_wp2_with fail
  rw [← hw4]
  clear hw4 hw3 c0 c1
  go_at_call 42
  refine (HRt.out l1 z1 w4).mono ?_
  rintro e w5 ⟨vv, rfl, hRd, ⟨ao1, n1, c1, rfl, hnew⟩, hb⟩
  rw [b1] at hRd
  rw [b1]
  have HS5 : Hid (StA w w5 w2.heap.size wb [l0, l1, l2] (.int .i64 4) (.slice none 0 0) (.slice none 0 0) (.int .i64 0)) := HS4.out.call hb
  have HV1 : Hid (Reads w5 (.slice ao1 n1 c1) (readN l1) ∧ NewV w4.heap.size (.slice ao1 n1 c1)) := ⟨hRd rfl, ⟨ao1, n1, c1, rfl, hnew⟩⟩
  have HK1 : Hid (w2.heap.size < w4.heap.size ∧ w.heap.size < w4.heap.size) := HS4.out.lts
  obtain ⟨w6, hw6⟩ : ∃ W, W = w5.setCell ⟨w2.heap.size, 1, none⟩ (.slice ao1 n1 c1) := ⟨_, rfl⟩
  have HS6 : Hid (StA w w6 w2.heap.size wb [l0, l1, l2] (.int .i64 4) (.slice ao1 n1 c1) (.slice none 0 0) (.int .i64 0)) := by unfold Hid; rw [hw6]; exact HS5.out.s1 _
  have HV2 : Hid (Reads w6 (.slice ao1 n1 c1) (readN l1)) := by unfold Hid; rw [hw6]; exact HV1.out.1.storeNew HV1.out.2 HK1.out.1
  have g1 := HS5.out.own.1.2.1
  have f1 := HS5.out.own.2.1 1
  have a0 := HS6.out.own.1.1
  have c2 : w6.cell? ⟨wb, 2, none⟩ = some (.string (strOf l2)) := HS6.out.word 2 (by simp)
  rw [hw6] at a0 c2
  clear hRd hb hnew
  have HV7 : Hid (Reads w6 (.slice ao1 n1 c1) (readN l1) ∧ Reads w6 (.slice none 0 0) []) := ⟨HV2.out, Or.inl ⟨none, 0, rfl, rfl⟩⟩
  clear c2
  have cn : w6.cell? ⟨wb, 2, none⟩ = some (.string (strOf l2)) := HS6.out.word 2 (by simp)
  rw [hw6] at cn
  go_wp2_with fail
  rw [← hw6]
  clear hw6 g1 f1 a0 cn
  go_at_call 43
  refine (HRn.out l2 z2 w6).mono ?_
  rintro e wx ⟨rfl, rfl⟩
  rw [bn]
  rw [← HN.out]
  obtain ⟨w7, hw7⟩ : ∃ W, W = w6.setCell ⟨w2.heap.size, 3, none⟩ (.int .i64 N) := ⟨_, rfl⟩
  have HS7 : Hid (StA w w7 w2.heap.size wb [l0, l1, l2] (.int .i64 4) (.slice ao1 n1 c1) (.slice none 0 0) (.int .i64 N)) := by unfold Hid; rw [hw7]; exact HS6.out.s3 _
  have HV8 : Hid (Reads w7 (.slice ao1 n1 c1) (readN l1) ∧ Reads w7 (.slice none 0 0) []) := by unfold Hid; rw [hw7]; exact ⟨HV7.out.1.storeNew HV1.out.2 HK1.out.1, Or.inl ⟨none, 0, rfl, rfl⟩⟩
  have g1 := HS6.out.own.1.2.2.2
  have f1 := HS6.out.own.2.1 3
  obtain ⟨⟨x0, x1, x2, x3⟩, _, _⟩ := HS7.out.own
  rw [hw7] at x0 x1 x2 x3
  go_wp2_with fail
  rw [← hw7]
  clear hw7 g1 f1 x0 x1 x2 x3
  go_at_call 14
  refine (HAt.out w7 _ _ HV8.out.1 HV8.out.2).mono ?_
  rintro e w8 ⟨rfl, hb⟩
  have HS8 : Hid (StA w w8 w2.heap.size wb [l0, l1, l2] (.int .i64 4) (.slice ao1 n1 c1) (.slice none 0 0) (.int .i64 N)) := HS7.out.call hb
  have HV9 : Hid (Reads w8 (.slice ao1 n1 c1) (readN l1) ∧ Reads w8 (.slice none 0 0) []) := ⟨HV8.out.1.below hb, HV8.out.2.below hb⟩
  clear hb
  obtain ⟨⟨r0, r1, r2, r3⟩, rf, _⟩ := HS8.out.res
  have p0 := rf 0
  have p1 := rf 1
  have p2 := rf 2
  have p3 := rf 3
  clear rf
  obtain ⟨⟨x0, x1, x2, x3⟩, _, _⟩ := HS8.out.own
  subst hF
  go_wp2_with fail
  have hA := HS8.out.res.all (.int .i64 4) (.slice ao1 n1 c1) (.slice none 0 0) (.int .i64 N)
  have hld := load_atom hA.1.1 hA.1.2.1 hA.1.2.2.1 hA.1.2.2.2
  refine bodyPost_ret (v := .tuple #[.agg #[.int .i64 4, .slice ao1 n1 c1, .slice none 0 0, .int .i64 N], .int .i64 0]) ?_ rfl ⟨⟨_, _, rfl, HV9.out.1.storeAll HV1.out.2 HK1.out.2, Or.inl ⟨none, 0, rfl, rfl⟩, newV_mono HV1.out.2 (Nat.le_of_lt HK1.out.2), ⟨none, 0, 0, rfl, fun p hp => by cases hp⟩⟩, HS8.out.fin _ _ _ _⟩
  rw [results_cell_tmp rfl]
  simp [asAddr, Result.andThen, hld]
end Go.Proofs.YtfnkbbpjfjendaiGreatDoor
