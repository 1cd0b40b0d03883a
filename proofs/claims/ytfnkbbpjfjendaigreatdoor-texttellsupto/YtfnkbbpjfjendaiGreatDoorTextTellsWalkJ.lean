/-
  Proved: vennlaw2.TextTells returns true where what it calls answers as chapter 17 says; what was in memory is as it was (the walk that the statement leans on).
-/
import Derived.Test.YtfnkbbpjfjendaiGreatDoorLibTX10
import Derived.Test.YtfnkbbpjfjendaiGreatDoorLibTX11
import Derived.Deep.CutRange
import Derived.Deep.CutBlock
namespace Go.Proofs.YtfnkbbpjfjendaiGreatDoor
open Go.ChangeShapes Go.WideShapes Go.ChangeAt Go.RowKit
set_option maxRecDepth 100000

theorem reads_text {w : World} {va vc : Value} {t : List UInt8} (h1 : formTextFault t = 0 → ReadsA w va (textAts t) ∧ Reads w vc (textCode t)) (h2 : ¬ formTextFault t = 0 → va = .slice none 0 0 ∧ vc = .slice none 0 0) : ReadsA w va (readA t) ∧ Reads w vc (readC t) := by
  unfold readA readC
  by_cases h : formTextFault t = 0
  · rw [if_pos h, if_pos h]; exact h1 h
  · obtain ⟨rfl, rfl⟩ := h2 h
    rw [if_neg h, if_neg h]
    exact ⟨Or.inl ⟨none, 0, rfl, rfl⟩, Or.inl ⟨none, 0, rfl, rfl⟩⟩

set_option maxHeartbeats 8000000 in
theorem textTells_in (ao : Option Addr) (al acap : Nat) (co : Option Addr) (cl ccap : Nat) (s P : ByteArray) (ef ft : Int) (A : List At) (C : List Int) (w : World)
    (HFm : Hid (∀ W, Below w.heap.size w W → Calls Tryz.prog 6 #[.agg #[.slice ao al acap, .slice co cl ccap]] W fun e w' => e = .returned (.int .i64 ef) ∧ Below W.heap.size W w'))
    (HFt : Hid (ef = 0 → ∀ W, Below w.heap.size w W → Calls Tryz.prog 7 #[.agg #[.slice ao al acap, .slice co cl ccap]] W fun e w' => e = .returned (.string P) ∧ Below W.heap.size W w'))
    (HP0 : Hid (¬ ef = 0 → P = ⟨#[]⟩))
    (HPr : Hid (∀ W, Below w.heap.size w W → Calls Tryz.prog 8 #[.agg #[.slice ao al acap, .slice co cl ccap]] W fun e w' => e = .returned (.tuple #[.string P, errV ef]) ∧ Below W.heap.size W w'))
    (HRf : Hid (∀ W, Calls Tryz.prog 10 #[.string s] W fun e w' => (∃ va vc, e = .returned (.tuple #[.agg #[va, vc], .int .i64 ft]) ∧ ReadsA w' va A ∧ Reads w' vc C) ∧ Below W.heap.size W w'))
    (HPa : Hid (∀ W, Below w.heap.size w W → Calls Tryz.prog 11 #[.string s] W fun e w' => (∃ va vc, e = .returned (.tuple #[.agg #[va, vc], errV ft]) ∧ ReadsA w' va A ∧ Reads w' vc C) ∧ Below W.heap.size W w'))
    (HSf : Hid (∀ va vc ua uc W, ReadsA W va A → Reads W vc C → ReadsA W ua A → Reads W uc C → Calls Tryz.prog 12 #[.agg #[va, vc], .agg #[ua, uc]] W fun e w' => e = .returned (.bool true) ∧ Below W.heap.size W w'))
    (HEr : Hid (∀ n W, Below w.heap.size w W → Calls Tryz.prog 9 #[errV n, .int .i64 n] W fun e w' => e = .returned (.bool true) ∧ Below W.heap.size W w')) :
    Calls Tryz.prog 3 #[.agg #[.slice ao al acap, .slice co cl ccap], .string s] w fun e w' => e = .returned (.bool true) ∧ Below w.heap.size w w' := by
  obtain ⟨w1, hw1⟩ : ∃ w1, w1 = w.alloc (.cells #[.slice ao al acap, .slice co cl ccap] 25) := ⟨_, rfl⟩
  have B1 : Hid (Below w.heap.size w w1) := by unfold Hid; rw [hw1]; exact below_alloc1 _ _
  have kF1 : Hid (Blk w1 w.heap.size 25 #[.slice ao al acap, .slice co cl ccap]) := by unfold Hid; rw [hw1]; exact Blk.new _ _ _
  have x0 : w1.cell? ⟨w.heap.size, 0, none⟩ = some (.slice ao al acap) := kF1.out.cell 0
  have x1 : w1.cell? ⟨w.heap.size, 1, none⟩ = some (.slice co cl ccap) := kF1.out.cell 1
  go_enter Tryz.func3, Tryz.ntmps3
  go_upto_region 1 with fail
  rw [← hw1]
  clear hw1
  go_wp2_with fail
  go_at_call 6
  refine (HFm.out _ B1.out).mono ?_
  rintro e w2 ⟨rfl, hb⟩
  have B2 : Hid (Below w.heap.size w w2) := B1.out.trans (hb.mono B1.out.size)
  have kF2 : Hid (Blk w2 w.heap.size 25 #[.slice ao al acap, .slice co cl ccap]) := kF1.out.below hb
  clear hb x0 x1
  have x0 : w2.cell? ⟨w.heap.size, 0, none⟩ = some (.slice ao al acap) := kF2.out.cell 0
  have x1 : w2.cell? ⟨w.heap.size, 1, none⟩ = some (.slice co cl ccap) := kF2.out.cell 1
  go_upto_if 16 with fail
  go_cut [6, 16] from 17 (fun q _ wx => q = .string P ∧ Below w2.heap.size w2 wx)
  case first =>
    by_cases h0 : ef = 0
    · have d0 : (ef == 0) = true := by simp [h0]
      have HF : Hid (Calls Tryz.prog 7 #[.agg #[.slice ao al acap, .slice co cl ccap]] w2 fun e w' => e = .returned (.string P) ∧ Below w2.heap.size w2 w') := HFt.out h0 w2 B2.out
      clear h0
      go_wp2_with fail
      go_at_call 7
      refine HF.out.mono ?_
      rintro e w3 ⟨rfl, hb⟩
      have Hb : Hid (Below w2.heap.size w2 w3) := hb
      clear hb
      go_wp2_with fail
      go_meet
      case rel => exact ⟨rfl, Hb.out⟩
    · have d0 : (ef == 0) = false := by simp [h0]
      have HE : Hid (P = ⟨#[]⟩) := HP0.out h0
      clear h0
      go_wp2_with fail
      go_meet
      case rel => exact ⟨by rw [HE.out], Below.refl _ _⟩
  case rest =>
  obtain ⟨rfl, hb⟩ := hcut
  obtain ⟨w3, hw3⟩ : ∃ x, x = wc := ⟨_, rfl⟩
  subst hw3
  have B3 : Hid (Below w.heap.size w w3) := B2.out.trans (hb.mono B2.out.size)
  have kF3 : Hid (Blk w3 w.heap.size 25 #[.slice ao al acap, .slice co cl ccap]) := kF2.out.below hb
  clear hb x0 x1
  have x0 : w3.cell? ⟨w.heap.size, 0, none⟩ = some (.slice ao al acap) := kF3.out.cell 0
  have x1 : w3.cell? ⟨w.heap.size, 1, none⟩ = some (.slice co cl ccap) := kF3.out.cell 1
  have hPP : (P.toList == P.toList) = true := by simp
  go_wp2_with fail
  go_at_call 8
  refine (HPr.out _ B3.out).mono ?_
  rintro e w4 ⟨rfl, hb⟩
  have B4 : Hid (Below w.heap.size w w4) := B3.out.trans (hb.mono B3.out.size)
  clear hb x0 x1
  go_wp2_with fail
  go_at_call 9
  refine (HEr.out ef _ B4.out).mono ?_
  rintro e w5 ⟨rfl, hb⟩
  have B5 : Hid (Below w.heap.size w w5) := B4.out.trans (hb.mono B4.out.size)
  clear hb
  go_wp2_with fail
  go_at_call 10
  refine (HRf.out _).mono ?_
  rintro e w6 ⟨⟨va, vc, rfl, hA, hC⟩, hb⟩
  have B6 : Hid (Below w.heap.size w w6) := B5.out.trans (hb.mono B5.out.size)
  obtain ⟨o1, q1, rfl, _⟩ := hA.slice
  obtain ⟨o2, q2, rfl, _⟩ := hC.slice
  obtain ⟨n1, hn1⟩ : ∃ n, n = A.length := ⟨_, rfl⟩
  obtain ⟨n2, hn2⟩ : ∃ n, n = C.length := ⟨_, rfl⟩
  rw [← hn1] at hA ⊢
  rw [← hn2] at hC ⊢
  have HA6 : Hid (ReadsA w6 (.slice o1 n1 q1) A) := hA
  have HC6 : Hid (Reads w6 (.slice o2 n2 q2) C) := hC
  have Hn : Hid (n1 = A.length ∧ n2 = C.length) := ⟨hn1, hn2⟩
  clear hb hA hC hn1 hn2
  obtain ⟨w7, hw7⟩ : ∃ x, x = w6.alloc (.cells #[.slice o1 n1 q1, .slice o2 n2 q2] 25) := ⟨_, rfl⟩
  obtain ⟨G7, hG7⟩ : ∃ G, G = w6.heap.size := ⟨_, rfl⟩
  have B7 : Hid (Below w.heap.size w w7) := by unfold Hid; rw [hw7]; exact B6.out.alloc B6.out.size _
  have b67 : Below w6.heap.size w6 w7 := by rw [hw7]; exact below_alloc1 _ _
  have HA7 : Hid (ReadsA w7 (.slice o1 n1 q1) A) := HA6.out.below b67
  have HC7 : Hid (Reads w7 (.slice o2 n2 q2) C) := HC6.out.below b67
  have kG7 : Hid (Blk w7 G7 25 #[.slice o1 n1 q1, .slice o2 n2 q2]) := by unfold Hid; rw [hw7, hG7]; exact Blk.new _ _ _
  clear b67
  go_upto_region 8 with fail
  rw [← hw7, ← hG7]
  clear hw7 hG7
  go_wp2_with fail
  go_at_call 11
  refine (HPa.out _ B7.out).mono ?_
  rintro e w8 ⟨⟨va, vc, rfl, hA, hC⟩, hb⟩
  have B8 : Hid (Below w.heap.size w w8) := B7.out.trans (hb.mono B7.out.size)
  have HA8 : Hid (ReadsA w8 (.slice o1 n1 q1) A) := HA7.out.below hb
  have HC8 : Hid (Reads w8 (.slice o2 n2 q2) C) := HC7.out.below hb
  have kG8 : Hid (Blk w8 G7 25 #[.slice o1 n1 q1, .slice o2 n2 q2]) := kG7.out.below hb
  obtain ⟨o3, q3, rfl, _⟩ := hA.slice
  obtain ⟨o4, q4, rfl, _⟩ := hC.slice
  rw [← Hn.out.1] at hA ⊢
  rw [← Hn.out.2] at hC ⊢
  have HX8 : Hid (ReadsA w8 (.slice o3 n1 q3) A) := hA
  have HY8 : Hid (Reads w8 (.slice o4 n2 q4) C) := hC
  clear hb hA hC
  obtain ⟨w9, hw9⟩ : ∃ x, x = w8.alloc (.cells #[.slice o3 n1 q3, .slice o4 n2 q4] 25) := ⟨_, rfl⟩
  obtain ⟨G9, hG9⟩ : ∃ G, G = w8.heap.size := ⟨_, rfl⟩
  have B9 : Hid (Below w.heap.size w w9) := by unfold Hid; rw [hw9]; exact B8.out.alloc B8.out.size _
  have b89 : Below w8.heap.size w8 w9 := by rw [hw9]; exact below_alloc1 _ _
  have HA9 : Hid ((ReadsA w9 (.slice o1 n1 q1) A ∧ Reads w9 (.slice o2 n2 q2) C) ∧ (ReadsA w9 (.slice o3 n1 q3) A ∧ Reads w9 (.slice o4 n2 q4) C)) := ⟨⟨HA8.out.below b89, HC8.out.below b89⟩, HX8.out.below b89, HY8.out.below b89⟩
  have kG9 : Hid (Blk w9 G7 25 #[.slice o1 n1 q1, .slice o2 n2 q2]) := kG8.out.below b89
  have kX9 : Hid (Blk w9 G9 25 #[.slice o3 n1 q3, .slice o4 n2 q4]) := by unfold Hid; rw [hw9, hG9]; exact Blk.new _ _ _
  clear b89
  go_upto_region 9 with fail
  rw [← hw9, ← hG9]
  clear hw9 hG9
  go_wp2_with fail
  go_at_call 9
  refine (HEr.out ft _ B9.out).mono ?_
  rintro e w10 ⟨rfl, hb⟩
  have B10 : Hid (Below w.heap.size w w10) := B9.out.trans (hb.mono B9.out.size)
  have HA10 : Hid ((ReadsA w10 (.slice o1 n1 q1) A ∧ Reads w10 (.slice o2 n2 q2) C) ∧ (ReadsA w10 (.slice o3 n1 q3) A ∧ Reads w10 (.slice o4 n2 q4) C)) := ⟨⟨HA9.out.1.1.below hb, HA9.out.1.2.below hb⟩, HA9.out.2.1.below hb, HA9.out.2.2.below hb⟩
  have kG10 : Hid (Blk w10 G7 25 #[.slice o1 n1 q1, .slice o2 n2 q2]) := kG9.out.below hb
  have kX10 : Hid (Blk w10 G9 25 #[.slice o3 n1 q3, .slice o4 n2 q4]) := kX9.out.below hb
  clear hb
  have x0 : w10.cell? ⟨G7, 0, none⟩ = some (.slice o1 n1 q1) := kG10.out.cell 0
  have x1 : w10.cell? ⟨G7, 1, none⟩ = some (.slice o2 n2 q2) := kG10.out.cell 1
  have y0 : w10.cell? ⟨G9, 0, none⟩ = some (.slice o3 n1 q3) := kX10.out.cell 0
  have y1 : w10.cell? ⟨G9, 1, none⟩ = some (.slice o4 n2 q4) := kX10.out.cell 1
  go_wp2_with fail
  go_at_call 12
  refine (HSf.out _ _ _ _ w10 HA10.out.2.1 HA10.out.2.2 HA10.out.1.1 HA10.out.1.2).mono ?_
  rintro e w11 ⟨rfl, hb⟩
  have B11 : Hid (Below w.heap.size w w11) := B10.out.trans (hb.mono B10.out.size)
  clear hb
  go_wp2
  go_ret
  exact ⟨rfl, B11.out⟩
end Go.Proofs.YtfnkbbpjfjendaiGreatDoor
