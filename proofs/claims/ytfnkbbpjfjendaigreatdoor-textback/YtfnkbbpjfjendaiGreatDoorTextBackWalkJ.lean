/-
  Proved: vennlaw2.TextBack returns true, of any formula and any text, where text.Print and text.Parse answer as chapter 17 says; what was in memory is as it was (the walk that the statement leans on).
-/
import Derived.Test.YtfnkbbpjfjendaiGreatDoorTextTellsWalkJ
import Derived.Test.YtfnkbbpjfjendaiGreatDoorLibTX14
import Derived.Test.YtfnkbbpjfjendaiGreatDoorLibTX27
import Derived.Test.YtfnkbbpjfjendaiGreatDoorLibTX26
namespace Go.Proofs.YtfnkbbpjfjendaiGreatDoor
open Go.ChangeShapes Go.WideShapes Go.ChangeAt Go.RowKit
set_option maxRecDepth 100000

def factS : List UInt8 := [115, 117, 98, 32, 65, 32, 66, 10, 108, 101, 97, 115, 116, 32, 67, 32, 49, 10, 99, 111, 100, 101, 32, 48, 32, 49, 32, 110, 111, 32, 97, 110, 100, 10]
def factA : List At := [⟨1, [0], [1], 0⟩, ⟨3, [2], [], 1⟩]
def factC : List Int := [0, 1, 12, 10]
theorem fact_right : formFault factA factC = 0 ∧ formText factA factC = factS := by decide +kernel

set_option maxHeartbeats 8000000 in
theorem textBack_in (ao : Option Addr) (al acap : Nat) (co : Option Addr) (cl ccap : Nat) (s : ByteArray) (w : World)
    (HFa : Hid (∀ W, Below w.heap.size w W → Calls Tryz.prog 11 #[.string ⟨#[115, 117, 98, 32, 65, 32, 66, 10, 108, 101, 97, 115, 116, 32, 67, 32, 49, 10, 99, 111, 100, 101, 32, 48, 32, 49, 32, 110, 111, 32, 97, 110, 100, 10]⟩] W fun e w' => (∃ bA oA qA bC oC qC, e = .returned (.tuple #[.agg #[.slice (some ⟨bA, oA, none⟩) 2 qA, .slice (some ⟨bC, oC, none⟩) 4 qC], .nilIface]) ∧ w'.cell? ⟨bA, oA + 4 + 3, none⟩ = some (.int .i64 1) ∧ w'.cell? ⟨bC, oC + 2, none⟩ = some (.int .i64 12) ∧ bA < w'.heap.size ∧ bC < w'.heap.size) ∧ Below W.heap.size W w'))
    (HPt : Hid (∀ W, Below w.heap.size w W → Calls Tryz.prog 11 #[.string s] W fun e w' => ((∃ o1 l1 q1 o2 l2 q2 m, e = .returned (.tuple #[.agg #[.slice o1 l1 q1, .slice o2 l2 q2], .iface 55 (.int .i64 m)])) ∨ (∃ o1 l1 q1 o2 l2 q2, e = .returned (.tuple #[.agg #[.slice o1 l1 q1, .slice o2 l2 q2], .nilIface]) ∧ ∀ W', Below w'.heap.size w' W' → Calls Tryz.prog 8 #[.agg #[.slice o1 l1 q1, .slice o2 l2 q2]] W' fun e w'' => e = .returned (.tuple #[.string s, .nilIface]) ∧ Below W'.heap.size W' w'')) ∧ Below W.heap.size W w'))
    (HPr : Hid ((∃ P m, ∀ W, Below w.heap.size w W → (Calls Tryz.prog 8 #[.agg #[.slice ao al acap, .slice co cl ccap]] W fun e w' => e = .returned (.tuple #[.string P, .iface 55 (.int .i64 m)]) ∧ Below W.heap.size W w') ∧ (Calls Tryz.prog 13 #[.agg #[.slice ao al acap, .slice co cl ccap]] W fun e w' => e = .returned (.iface 55 (.int .i64 m)) ∧ Below W.heap.size W w')) ∨
      (∃ P, ∀ W, Below w.heap.size w W → (Calls Tryz.prog 8 #[.agg #[.slice ao al acap, .slice co cl ccap]] W fun e w' => e = .returned (.tuple #[.string P, .nilIface]) ∧ Below W.heap.size W w') ∧ (Calls Tryz.prog 11 #[.string P] W fun e w' => (∃ o1 l1 q1 o2 l2 q2, e = .returned (.tuple #[.agg #[.slice o1 l1 q1, .slice o2 l2 q2], .nilIface]) ∧ ∀ W', Below w'.heap.size w' W' → Calls Tryz.prog 12 #[.agg #[.slice o1 l1 q1, .slice o2 l2 q2], .agg #[.slice ao al acap, .slice co cl ccap]] W' fun e w'' => e = .returned (.bool true) ∧ Below W'.heap.size W' w'') ∧ Below W.heap.size W w')))) :
    Calls Tryz.prog 4 #[.agg #[.slice ao al acap, .slice co cl ccap], .string s] w fun e w' => e = .returned (.bool true) ∧ Below w.heap.size w w' := by
  obtain ⟨w1, hw1⟩ : ∃ w1, w1 = w.alloc (.cells #[.slice ao al acap, .slice co cl ccap] 25) := ⟨_, rfl⟩
  have B1 : Hid (Below w.heap.size w w1) := by unfold Hid; rw [hw1]; exact below_alloc1 _ _
  have kF1 : Hid (Blk w1 w.heap.size 25 #[.slice ao al acap, .slice co cl ccap]) := by unfold Hid; rw [hw1]; exact Blk.new _ _ _
  go_enter Tryz.func4, Tryz.ntmps4
  go_upto_region 1 with fail
  rw [← hw1]
  clear hw1
  go_wp2_with fail
  go_at_call 11
  refine (HFa.out _ B1.out).mono ?_
  rintro e w2 ⟨⟨bA, oA, qA, bC, oC, qC, rfl, c1, c2, lA, lC⟩, hb⟩
  have B2 : Hid (Below w.heap.size w w2) := B1.out.trans (hb.mono B1.out.size)
  have kF2 : Hid (Blk w2 w.heap.size 25 #[.slice ao al acap, .slice co cl ccap]) := kF1.out.below hb
  clear hb
  obtain ⟨w3, hw3⟩ : ∃ x, x = w2.alloc (.cells #[.slice (some ⟨bA, oA, none⟩) 2 qA, .slice (some ⟨bC, oC, none⟩) 4 qC] 25) := ⟨_, rfl⟩
  obtain ⟨G3, hG3⟩ : ∃ G, G = w2.heap.size := ⟨_, rfl⟩
  have B3 : Hid (Below w.heap.size w w3) := by unfold Hid; rw [hw3]; exact B2.out.alloc B2.out.size _
  have b23 : Below w2.heap.size w2 w3 := by rw [hw3]; exact below_alloc1 _ _
  have kF3 : Hid (Blk w3 w.heap.size 25 #[.slice ao al acap, .slice co cl ccap]) := kF2.out.below b23
  have kG3 : Hid (Blk w3 G3 25 #[.slice (some ⟨bA, oA, none⟩) 2 qA, .slice (some ⟨bC, oC, none⟩) 4 qC]) := by unfold Hid; rw [hw3, hG3]; exact Blk.new _ _ _
  have d1 : w3.cell? ⟨bA, oA + 4 + 3, none⟩ = some (.int .i64 1) := by rw [b23.cell lA]; exact c1
  have d2 : w3.cell? ⟨bC, oC + 2, none⟩ = some (.int .i64 12) := by rw [b23.cell lC]; exact c2
  clear b23 c1 c2 lA lC
  go_upto_region 2 with fail
  rw [← hw3, ← hG3]
  clear hw3 hG3
  have x0 : w3.cell? ⟨G3, 0, none⟩ = some (.slice (some ⟨bA, oA, none⟩) 2 qA) := kG3.out.cell 0
  have x1 : w3.cell? ⟨G3, 1, none⟩ = some (.slice (some ⟨bC, oC, none⟩) 4 qC) := kG3.out.cell 1
  go_wp2_with fail
  clear x0 x1 d1 d2
  go_at_call 11
  refine (HPt.out _ B3.out).mono ?_
  rintro e w4 ⟨hor, hb⟩
  have B4 : Hid (Below w.heap.size w w4) := B3.out.trans (hb.mono B3.out.size)
  have kF4 : Hid (Blk w4 w.heap.size 25 #[.slice ao al acap, .slice co cl ccap]) := kF3.out.below hb
  clear hb
  have HOr : Hid ((∃ o1 l1 q1 o2 l2 q2 EV, e = .returned (.tuple #[.agg #[.slice o1 l1 q1, .slice o2 l2 q2], EV]) ∧ ((∃ m, EV = .iface 55 (.int .i64 m)) ∨ (EV = .nilIface ∧ ∀ W', Below w4.heap.size w4 W' → Calls Tryz.prog 8 #[.agg #[.slice o1 l1 q1, .slice o2 l2 q2]] W' fun e w'' => e = .returned (.tuple #[.string s, .nilIface]) ∧ Below W'.heap.size W' w'')))) := by
    rcases hor with ⟨o1, l1, q1, o2, l2, q2, m, rfl⟩ | ⟨o1, l1, q1, o2, l2, q2, rfl, h⟩
    · exact ⟨o1, l1, q1, o2, l2, q2, _, rfl, Or.inl ⟨m, rfl⟩⟩
    · exact ⟨o1, l1, q1, o2, l2, q2, _, rfl, Or.inr ⟨rfl, h⟩⟩
  clear hor
  obtain ⟨o1, l1, q1, o2, l2, q2, EV, rfl, hEV⟩ := HOr.out
  have HEV : Hid ((∃ m, EV = .iface 55 (.int .i64 m)) ∨ (EV = .nilIface ∧ ∀ W', Below w4.heap.size w4 W' → Calls Tryz.prog 8 #[.agg #[.slice o1 l1 q1, .slice o2 l2 q2]] W' fun e w'' => e = .returned (.tuple #[.string s, .nilIface]) ∧ Below W'.heap.size W' w'')) := hEV
  clear HOr hEV
  obtain ⟨w5, hw5⟩ : ∃ x, x = w4.alloc (.cells #[.slice o1 l1 q1, .slice o2 l2 q2] 25) := ⟨_, rfl⟩
  obtain ⟨G5, hG5⟩ : ∃ G, G = w4.heap.size := ⟨_, rfl⟩
  have B5 : Hid (Below w.heap.size w w5) := by unfold Hid; rw [hw5]; exact B4.out.alloc B4.out.size _
  have b45 : Below w4.heap.size w4 w5 := by rw [hw5]; exact below_alloc1 _ _
  have B45 : Hid (Below w4.heap.size w4 w5) := b45
  have kF5 : Hid (Blk w5 w.heap.size 25 #[.slice ao al acap, .slice co cl ccap]) := kF4.out.below b45
  have kG5 : Hid (Blk w5 G5 25 #[.slice o1 l1 q1, .slice o2 l2 q2]) := by unfold Hid; rw [hw5, hG5]; exact Blk.new _ _ _
  clear b45
  go_upto_region 5 with fail
  rw [← hw5, ← hG5]
  clear hw5 hG5
  have hss : (s.toList != s.toList) = false := by simp
  rcases HEV.out with ⟨m0, rfl⟩ | ⟨rfl, hP⟩
  · clear HEV
    obtain ⟨w6, hw6⟩ : ∃ x, x = w5 := ⟨_, rfl⟩
    subst hw6
    have B6 : Hid (Below w.heap.size w w6) := B5.out
    have kF6 : Hid (Blk w6 w.heap.size 25 #[.slice ao al acap, .slice co cl ccap]) := kF5.out
    have x0 : w6.cell? ⟨w.heap.size, 0, none⟩ = some (.slice ao al acap) := kF6.out.cell 0
    have x1 : w6.cell? ⟨w.heap.size, 1, none⟩ = some (.slice co cl ccap) := kF6.out.cell 1
    rcases HPr.out with ⟨P, m, hP⟩ | ⟨P, hP⟩
    · have HP : Hid (∀ W, Below w.heap.size w W → (Calls Tryz.prog 8 #[.agg #[.slice ao al acap, .slice co cl ccap]] W fun e w' => e = .returned (.tuple #[.string P, .iface 55 (.int .i64 m)]) ∧ Below W.heap.size W w') ∧ (Calls Tryz.prog 13 #[.agg #[.slice ao al acap, .slice co cl ccap]] W fun e w' => e = .returned (.iface 55 (.int .i64 m)) ∧ Below W.heap.size W w')) := hP
      clear hP HPr
      go_wp2_with fail
      go_at_call 8
      refine (HP.out _ B6.out).1.mono ?_
      rintro e w7 ⟨rfl, hb⟩
      have B7 : Hid (Below w.heap.size w w7) := B6.out.trans (hb.mono B6.out.size)
      have kF7 : Hid (Blk w7 w.heap.size 25 #[.slice ao al acap, .slice co cl ccap]) := kF6.out.below hb
      clear hb x0 x1
      have x0 : w7.cell? ⟨w.heap.size, 0, none⟩ = some (.slice ao al acap) := kF7.out.cell 0
      have x1 : w7.cell? ⟨w.heap.size, 1, none⟩ = some (.slice co cl ccap) := kF7.out.cell 1
      go_wp2_with fail
      go_at_call 13
      refine (HP.out _ B7.out).2.mono ?_
      rintro e w8 ⟨rfl, hb⟩
      have B8 : Hid (Below w.heap.size w w8) := B7.out.trans (hb.mono B7.out.size)
      clear hb
      go_wp2
      go_ret
      exact ⟨rfl, B8.out⟩
    · have HP : Hid (∀ W, Below w.heap.size w W → (Calls Tryz.prog 8 #[.agg #[.slice ao al acap, .slice co cl ccap]] W fun e w' => e = .returned (.tuple #[.string P, .nilIface]) ∧ Below W.heap.size W w') ∧ (Calls Tryz.prog 11 #[.string P] W fun e w' => (∃ o1 l1 q1 o2 l2 q2, e = .returned (.tuple #[.agg #[.slice o1 l1 q1, .slice o2 l2 q2], .nilIface]) ∧ ∀ W', Below w'.heap.size w' W' → Calls Tryz.prog 12 #[.agg #[.slice o1 l1 q1, .slice o2 l2 q2], .agg #[.slice ao al acap, .slice co cl ccap]] W' fun e w'' => e = .returned (.bool true) ∧ Below W'.heap.size W' w'') ∧ Below W.heap.size W w')) := hP
      clear hP HPr
      go_wp2_with fail
      go_at_call 8
      refine (HP.out _ B6.out).1.mono ?_
      rintro e w7 ⟨rfl, hb⟩
      have B7 : Hid (Below w.heap.size w w7) := B6.out.trans (hb.mono B6.out.size)
      have kF7 : Hid (Blk w7 w.heap.size 25 #[.slice ao al acap, .slice co cl ccap]) := kF6.out.below hb
      clear hb x0 x1
      go_wp2_with fail
      go_at_call 11
      refine (HP.out _ B7.out).2.mono ?_
      rintro e w8 ⟨⟨o3, l3, q3, o4, l4, q4, rfl, hS⟩, hb⟩
      have HS : Hid (∀ W', Below w8.heap.size w8 W' → Calls Tryz.prog 12 #[.agg #[.slice o3 l3 q3, .slice o4 l4 q4], .agg #[.slice ao al acap, .slice co cl ccap]] W' fun e w'' => e = .returned (.bool true) ∧ Below W'.heap.size W' w'') := hS
      have B8 : Hid (Below w.heap.size w w8) := B7.out.trans (hb.mono B7.out.size)
      have kF8 : Hid (Blk w8 w.heap.size 25 #[.slice ao al acap, .slice co cl ccap]) := kF7.out.below hb
      clear hb hS
      obtain ⟨w9, hw9⟩ : ∃ x, x = w8.alloc (.cells #[.slice o3 l3 q3, .slice o4 l4 q4] 25) := ⟨_, rfl⟩
      obtain ⟨G9, hG9⟩ : ∃ G, G = w8.heap.size := ⟨_, rfl⟩
      have B9 : Hid (Below w.heap.size w w9) := by unfold Hid; rw [hw9]; exact B8.out.alloc B8.out.size _
      have b89 : Below w8.heap.size w8 w9 := by rw [hw9]; exact below_alloc1 _ _
      have B89 : Hid (Below w8.heap.size w8 w9) := b89
      have kF9 : Hid (Blk w9 w.heap.size 25 #[.slice ao al acap, .slice co cl ccap]) := kF8.out.below b89
      have kG9 : Hid (Blk w9 G9 25 #[.slice o3 l3 q3, .slice o4 l4 q4]) := by unfold Hid; rw [hw9, hG9]; exact Blk.new _ _ _
      clear b89
      go_upto_region 13 with fail
      rw [← hw9, ← hG9]
      clear hw9 hG9
      have x0 : w9.cell? ⟨w.heap.size, 0, none⟩ = some (.slice ao al acap) := kF9.out.cell 0
      have x1 : w9.cell? ⟨w.heap.size, 1, none⟩ = some (.slice co cl ccap) := kF9.out.cell 1
      have y0 : w9.cell? ⟨G9, 0, none⟩ = some (.slice o3 l3 q3) := kG9.out.cell 0
      have y1 : w9.cell? ⟨G9, 1, none⟩ = some (.slice o4 l4 q4) := kG9.out.cell 1
      go_wp2_with fail
      go_at_call 12
      refine (HS.out _ B89.out).mono ?_
      rintro e w10 ⟨rfl, hb⟩
      have B10 : Hid (Below w.heap.size w w10) := B9.out.trans (hb.mono B9.out.size)
      clear hb
      go_wp2
      go_ret
      exact ⟨rfl, B10.out⟩
  · have HPx : Hid (∀ W', Below w4.heap.size w4 W' → Calls Tryz.prog 8 #[.agg #[.slice o1 l1 q1, .slice o2 l2 q2]] W' fun e w'' => e = .returned (.tuple #[.string s, .nilIface]) ∧ Below W'.heap.size W' w'') := hP
    clear HEV hP
    have x0 : w5.cell? ⟨G5, 0, none⟩ = some (.slice o1 l1 q1) := kG5.out.cell 0
    have x1 : w5.cell? ⟨G5, 1, none⟩ = some (.slice o2 l2 q2) := kG5.out.cell 1
    go_wp2_with fail
    go_at_call 8
    refine (HPx.out _ B45.out).mono ?_
    rintro e w6 ⟨rfl, hb⟩
    have B6 : Hid (Below w.heap.size w w6) := B5.out.trans (hb.mono B5.out.size)
    have kF6 : Hid (Blk w6 w.heap.size 25 #[.slice ao al acap, .slice co cl ccap]) := kF5.out.below hb
    clear hb x0 x1
    have x0 : w6.cell? ⟨w.heap.size, 0, none⟩ = some (.slice ao al acap) := kF6.out.cell 0
    have x1 : w6.cell? ⟨w.heap.size, 1, none⟩ = some (.slice co cl ccap) := kF6.out.cell 1
    rcases HPr.out with ⟨P, m, hP⟩ | ⟨P, hP⟩
    · have HP : Hid (∀ W, Below w.heap.size w W → (Calls Tryz.prog 8 #[.agg #[.slice ao al acap, .slice co cl ccap]] W fun e w' => e = .returned (.tuple #[.string P, .iface 55 (.int .i64 m)]) ∧ Below W.heap.size W w') ∧ (Calls Tryz.prog 13 #[.agg #[.slice ao al acap, .slice co cl ccap]] W fun e w' => e = .returned (.iface 55 (.int .i64 m)) ∧ Below W.heap.size W w')) := hP
      clear hP HPr
      go_wp2_with fail
      go_at_call 8
      refine (HP.out _ B6.out).1.mono ?_
      rintro e w7 ⟨rfl, hb⟩
      have B7 : Hid (Below w.heap.size w w7) := B6.out.trans (hb.mono B6.out.size)
      have kF7 : Hid (Blk w7 w.heap.size 25 #[.slice ao al acap, .slice co cl ccap]) := kF6.out.below hb
      clear hb x0 x1
      have x0 : w7.cell? ⟨w.heap.size, 0, none⟩ = some (.slice ao al acap) := kF7.out.cell 0
      have x1 : w7.cell? ⟨w.heap.size, 1, none⟩ = some (.slice co cl ccap) := kF7.out.cell 1
      go_wp2_with fail
      go_at_call 13
      refine (HP.out _ B7.out).2.mono ?_
      rintro e w8 ⟨rfl, hb⟩
      have B8 : Hid (Below w.heap.size w w8) := B7.out.trans (hb.mono B7.out.size)
      clear hb
      go_wp2
      go_ret
      exact ⟨rfl, B8.out⟩
    · have HP : Hid (∀ W, Below w.heap.size w W → (Calls Tryz.prog 8 #[.agg #[.slice ao al acap, .slice co cl ccap]] W fun e w' => e = .returned (.tuple #[.string P, .nilIface]) ∧ Below W.heap.size W w') ∧ (Calls Tryz.prog 11 #[.string P] W fun e w' => (∃ o1 l1 q1 o2 l2 q2, e = .returned (.tuple #[.agg #[.slice o1 l1 q1, .slice o2 l2 q2], .nilIface]) ∧ ∀ W', Below w'.heap.size w' W' → Calls Tryz.prog 12 #[.agg #[.slice o1 l1 q1, .slice o2 l2 q2], .agg #[.slice ao al acap, .slice co cl ccap]] W' fun e w'' => e = .returned (.bool true) ∧ Below W'.heap.size W' w'') ∧ Below W.heap.size W w')) := hP
      clear hP HPr
      go_wp2_with fail
      go_at_call 8
      refine (HP.out _ B6.out).1.mono ?_
      rintro e w7 ⟨rfl, hb⟩
      have B7 : Hid (Below w.heap.size w w7) := B6.out.trans (hb.mono B6.out.size)
      have kF7 : Hid (Blk w7 w.heap.size 25 #[.slice ao al acap, .slice co cl ccap]) := kF6.out.below hb
      clear hb x0 x1
      go_wp2_with fail
      go_at_call 11
      refine (HP.out _ B7.out).2.mono ?_
      rintro e w8 ⟨⟨o3, l3, q3, o4, l4, q4, rfl, hS⟩, hb⟩
      have HS : Hid (∀ W', Below w8.heap.size w8 W' → Calls Tryz.prog 12 #[.agg #[.slice o3 l3 q3, .slice o4 l4 q4], .agg #[.slice ao al acap, .slice co cl ccap]] W' fun e w'' => e = .returned (.bool true) ∧ Below W'.heap.size W' w'') := hS
      have B8 : Hid (Below w.heap.size w w8) := B7.out.trans (hb.mono B7.out.size)
      have kF8 : Hid (Blk w8 w.heap.size 25 #[.slice ao al acap, .slice co cl ccap]) := kF7.out.below hb
      clear hb hS
      obtain ⟨w9, hw9⟩ : ∃ x, x = w8.alloc (.cells #[.slice o3 l3 q3, .slice o4 l4 q4] 25) := ⟨_, rfl⟩
      obtain ⟨G9, hG9⟩ : ∃ G, G = w8.heap.size := ⟨_, rfl⟩
      have B9 : Hid (Below w.heap.size w w9) := by unfold Hid; rw [hw9]; exact B8.out.alloc B8.out.size _
      have b89 : Below w8.heap.size w8 w9 := by rw [hw9]; exact below_alloc1 _ _
      have B89 : Hid (Below w8.heap.size w8 w9) := b89
      have kF9 : Hid (Blk w9 w.heap.size 25 #[.slice ao al acap, .slice co cl ccap]) := kF8.out.below b89
      have kG9 : Hid (Blk w9 G9 25 #[.slice o3 l3 q3, .slice o4 l4 q4]) := by unfold Hid; rw [hw9, hG9]; exact Blk.new _ _ _
      clear b89
      go_upto_region 13 with fail
      rw [← hw9, ← hG9]
      clear hw9 hG9
      have x0 : w9.cell? ⟨w.heap.size, 0, none⟩ = some (.slice ao al acap) := kF9.out.cell 0
      have x1 : w9.cell? ⟨w.heap.size, 1, none⟩ = some (.slice co cl ccap) := kF9.out.cell 1
      have y0 : w9.cell? ⟨G9, 0, none⟩ = some (.slice o3 l3 q3) := kG9.out.cell 0
      have y1 : w9.cell? ⟨G9, 1, none⟩ = some (.slice o4 l4 q4) := kG9.out.cell 1
      go_wp2_with fail
      go_at_call 12
      refine (HS.out _ B89.out).mono ?_
      rintro e w10 ⟨rfl, hb⟩
      have B10 : Hid (Below w.heap.size w w10) := B9.out.trans (hb.mono B9.out.size)
      clear hb
      go_wp2
      go_ret
      exact ⟨rfl, B10.out⟩

theorem textBack_of (va vc : Value) (ats : List At) (c : List Int) (s : ByteArray) (hz : s.size ≤ 4611686018427387903) (w : World) (hA : ReadsA w va ats) (hC : Reads w vc c) (hK : KindsLaid w)
    (cPr : ∀ (va vc : Value) (ats : List At) (c : List Int) (W : World), Below w.heap.size w W → ReadsA W va ats → Reads W vc c → Calls Tryz.prog 8 #[.agg #[va, vc]] W fun e w' => e = .returned (.tuple #[.string (printF ats c), errV (formFault ats c)]) ∧ Below W.heap.size W w')
    (cPa : ∀ (s : ByteArray) (W : World), s.size ≤ 4611686018427387903 → Below w.heap.size w W → Calls Tryz.prog 11 #[.string s] W fun e w' => (∃ va vc, e = .returned (.tuple #[.agg #[va, vc], errV (formTextFault s.data.toList)]) ∧ ReadsA w' va (readA s.data.toList) ∧ Reads w' vc (readC s.data.toList)) ∧ Below W.heap.size W w') :
    Calls Tryz.prog 4 #[.agg #[va, vc], .string s] w fun e w' => e = .returned (.bool true) ∧ Below w.heap.size w w' := by
  have hPr := fun W hW => cPr va vc ats c W hW (hA.below hW) (hC.below hW)
  have hCk := fun W (hW : Below w.heap.size w W) => fcheck_any va vc ats c W (hA.below hW) (hC.below hW) (hK.below hW)
  have hSf := fun (ua uc : Value) W (hW : Below w.heap.size w W) (h1 : ReadsA W ua ats) (h2 : Reads W uc c) => form_same ua uc va vc ats c W h1 h2 (hA.below hW) (hC.below hW)
  have good : ∀ {s : ByteArray}, formTextFault s.data.toList = 0 → readA s.data.toList = textAts s.data.toList ∧ readC s.data.toList = textCode s.data.toList := fun h => by unfold readA readC; rw [if_pos h, if_pos h]; exact ⟨rfl, rfl⟩
  obtain ⟨ao, acap, rfl, _⟩ := hA.slice
  obtain ⟨co, ccap, rfl, _⟩ := hC.slice
  refine textBack_in ao _ acap co _ ccap s w (fun W hW => ?_) (fun W hW => ?_) ?_
  · obtain ⟨f1, f2⟩ := fact_right
    obtain ⟨g1, g2, g3⟩ := read_print f1
    rw [f2] at g1 g2 g3
    refine (cPa _ W (by decide) hW).mono ?_
    rintro e w' ⟨⟨ua, uc, rfl, h1, h2⟩, hb⟩
    have e0 : formTextFault (⟨#[115, 117, 98, 32, 65, 32, 66, 10, 108, 101, 97, 115, 116, 32, 67, 32, 49, 10, 99, 111, 100, 101, 32, 48, 32, 49, 32, 110, 111, 32, 97, 110, 100, 10]⟩ : ByteArray).data.toList = 0 := g1
    obtain ⟨k1, k2⟩ := good e0
    rw [k1] at h1
    rw [k2] at h2
    have h1' : ReadsA w' ua factA := by rw [← g2]; exact h1
    have h2' : Reads w' uc factC := by rw [← g3]; exact h2
    rw [e0]
    rcases h1' with ⟨_, _, _, h⟩ | ⟨b, off, cap, rfl, p2, p3, p4, p5⟩
    · cases h
    rcases h2' with ⟨_, _, _, h⟩ | ⟨b2, off2, cap2, rfl, q2, q3, q4, q5⟩
    · cases h
    refine ⟨⟨b, off, cap, b2, off2, cap2, rfl, ?_, ?_, p2, q2⟩, hb⟩
    · obtain ⟨vs, vt, _, _, _, r4, _⟩ := p5 1 ⟨3, [2], [], 1⟩ rfl
      exact r4
    · exact q5 2 (by decide)
  · refine (cPa s W hz hW).mono ?_
    rintro e w' ⟨⟨ua, uc, rfl, h1, h2⟩, hb⟩
    refine ⟨?_, hb⟩
    have hWb : Below w.heap.size w w' := hW.trans (hb.mono hW.size)
    by_cases h0 : formTextFault s.data.toList = 0
    · right
      obtain ⟨k1, k2⟩ := good h0
      obtain ⟨p1, p2⟩ := print_read h0
      have hP : ∀ W', Below w'.heap.size w' W' → Calls Tryz.prog 8 #[.agg #[ua, uc]] W' fun e w'' => e = .returned (.tuple #[.string s, .nilIface]) ∧ Below W'.heap.size W' w'' := fun W' hW' => by
        have h := cPr ua uc (textAts s.data.toList) (textCode s.data.toList) W' (hWb.trans (hW'.mono hWb.size)) (by rw [← k1]; exact h1.below hW') (by rw [← k2]; exact h2.below hW')
        have ep : printF (textAts s.data.toList) (textCode s.data.toList) = s := by unfold printF; rw [if_pos p2, p1, strOf_data]
        rw [ep, p2] at h
        exact h
      obtain ⟨o1, q1, rfl, _⟩ := h1.slice
      obtain ⟨o2, q2, rfl, _⟩ := h2.slice
      exact ⟨_, _, _, _, _, _, by rw [h0]; rfl, hP⟩
    · left
      obtain ⟨o1, q1, rfl, _⟩ := h1.slice
      obtain ⟨o2, q2, rfl, _⟩ := h2.slice
      exact ⟨_, _, _, _, _, _, _, by rw [errV_no h0]⟩
  · by_cases h0 : formFault ats c = 0
    · right
      have ep : printF ats c = strOf (formText ats c) := by unfold printF; rw [if_pos h0]
      obtain ⟨g1, g2, g3⟩ := read_print h0
      refine ⟨strOf (formText ats c), fun W hW => ⟨?_, ?_⟩⟩
      · have h := hPr W hW
        rw [ep, h0] at h
        exact h
      · refine (cPa (strOf (formText ats c)) W (by rw [strOf_size]; have := text_len h0; omega) hW).mono ?_
        rw [strOf_list]
        rintro e w' ⟨⟨ua, uc, rfl, h1, h2⟩, hb⟩
        have hWb : Below w.heap.size w w' := hW.trans (hb.mono hW.size)
        have k1 : readA (formText ats c) = ats := by unfold readA; rw [if_pos g1, g2]
        have k2 : readC (formText ats c) = c := by unfold readC; rw [if_pos g1, g3]
        rw [k1] at h1
        rw [k2] at h2
        have hS := fun W' (hW' : Below w'.heap.size w' W') => hSf ua uc W' (hWb.trans (hW'.mono hWb.size)) (h1.below hW') (h2.below hW')
        obtain ⟨o1, q1, rfl, _⟩ := h1.slice
        obtain ⟨o2, q2, rfl, _⟩ := h2.slice
        exact ⟨⟨_, _, _, _, _, _, by rw [g1]; rfl, hS⟩, hb⟩
    · left
      refine ⟨printF ats c, formFault ats c, fun W hW => ⟨?_, ?_⟩⟩
      · have h := hPr W hW
        rw [errV_no h0] at h
        exact h
      · have h := hCk W hW
        rw [errV_no h0] at h
        exact h
end Go.Proofs.YtfnkbbpjfjendaiGreatDoor
