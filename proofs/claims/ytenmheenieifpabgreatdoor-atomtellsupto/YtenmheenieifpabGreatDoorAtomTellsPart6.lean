/-
  Proved: what ReadAtom and Parse return where vennlaw1.AtomTells calls them, of one text (contracts that its walk leans on).
  Proved: vennlaw1.AtomTells returns true, and what was in memory is as it was, where the atom is wrong (the text of at most 1048576 bytes).
  Proved: vennlaw1.AtomTells returns true, and what was in memory is as it was, where the atom is right and the world is wrong (the text of at most 1048576 bytes).
  Proved: vennlaw1.AtomTells returns true, and what was in memory is as it was, where the atom and the world are right (the text of at most 1048576 bytes).
  Proved: whatever the arguments (the text of at most 1048576 bytes), vennlaw1.AtomTells returns true, and what was in memory is as it was: the cases put together.
-/
import Derived.Test.YtenmheenieifpabGreatDoorAtomTellsPart3
import Derived.Test.YtenmheenieifpabGreatDoorAtomTellsPart4
import Derived.Test.YtenmheenieifpabGreatDoorAtomTellsPart5
import Derived.Test.YtenmheenieifpabGreatDoorSame
namespace Go.Proofs.YtenmheenieifpabGreatDoor
open Go.ChangeShapes Go.WideShapes Go.ChangeAt Go.RowKit
set_option maxRecDepth 100000

theorem errA_nil (w : World) : Calls Tryz.prog 6 #[.nilIface, .int .i64 0] w fun e w' => e = .returned (.bool true) ∧ w = w' := same_nil 0 w
theorem errA_one (m : Int) (w : World) (hg : Laid w) : Calls Tryz.prog 6 #[.iface 51 (.int .i64 m), .int .i64 m] w fun e w' => e = .returned (.bool true) ∧ Below w.heap.size w w' := by
  have := same_err m m w hg
  rw [beq_self_eq_true] at this; exact this
theorem atom_none (w : World) : Calls Tryz.prog 15 #[.agg #[.int .i64 0, .slice none 0 0, .slice none 0 0, .int .i64 0], .agg #[.int .i64 0, .slice none 0 0, .slice none 0 0, .int .i64 0]] w fun e w' => e = .returned (.bool true) ∧ Below w.heap.size w w' :=
  atom_same 0 0 _ _ _ _ [] [] w (reads_nil w) (reads_nil w) (reads_nil w) (reads_nil w)
theorem seen_fault (s : ByteArray) : wordsFault (seen s) = wordsFault (cutL s.data.toList) := by
  rcases seen_cut s with h | ⟨h1, h2⟩
  · rw [h]
  · rw [h1, h2]
theorem seen_good {s : ByteArray} (h : wordsFault (cutL s.data.toList) = 0) : seen s = cutL s.data.toList := by
  rcases seen_cut s with h1 | ⟨_, h2⟩
  · exact h1
  · rw [h] at h2; cases h2
/-- ReadAtom of a text that is an atom. -/
theorem readAtom_good (s : ByteArray) (hz : s.size ≤ 1048576) {k n : Int} {p q : List Int} (h : wordsFault (cutL s.data.toList) = 0) (hk : wordsKind (cutL s.data.toList) = k) (hp : wordsS (cutL s.data.toList) = p) (hq : wordsT k (cutL s.data.toList) = q) (hn : wordsN k (cutL s.data.toList) = n) (w : World) :
    Calls Tryz.prog 13 #[.string s] w fun e w' => ∃ a0 c0 a1 c1, e = .returned (.tuple #[.agg #[.int .i64 k, .slice a0 p.length c0, .slice a1 q.length c1, .int .i64 n], .int .i64 0]) ∧ Reads w' (.slice a0 p.length c0) p ∧ Reads w' (.slice a1 q.length c1) q ∧ Below w.heap.size w w' := by
  refine (readAtom_any s hz w).mono ?_
  rintro e w' ⟨a, rfl, hg, _, hb⟩
  obtain ⟨v0, v1, rfl, r0, r1⟩ := hg h
  rw [h, hk]
  rw [hk] at r1
  rw [hp] at r0
  rw [hq] at r1
  rw [hn]
  obtain ⟨a0, c0, rfl, _⟩ := r0.slice
  obtain ⟨a1, c1, rfl, _⟩ := r1.slice
  exact ⟨a0, c0, a1, c1, rfl, r0, r1, hb⟩
/-- .. of one that is none. -/
theorem readAtom_bad (s : ByteArray) (hz : s.size ≤ 1048576) (h : ¬ wordsFault (cutL s.data.toList) = 0) (w : World) :
    Calls Tryz.prog 13 #[.string s] w fun e w' => e = .returned (.tuple #[.agg #[.int .i64 0, .slice none 0 0, .slice none 0 0, .int .i64 0], .int .i64 (wordsFault (cutL s.data.toList))]) ∧ Below w.heap.size w w' := by
  refine (readAtom_any s hz w).mono ?_
  rintro e w' ⟨a, rfl, _, hg, hb⟩
  rw [hg h]
  exact ⟨rfl, hb⟩
end Go.Proofs.YtenmheenieifpabGreatDoor

namespace Go.Proofs.YtenmheenieifpabGreatDoor
open Go.ChangeShapes Go.WideShapes Go.ChangeAt Go.RowKit
set_option maxRecDepth 100000

set_option linter.unusedVariables false in
set_option maxHeartbeats 8000000 in
theorem atomTells_Bb (k n : Int) (sao tao : Option Addr) (ls lt scap tcap : Nat) (s t : List Int) (st : ByteArray) (u a b c : Int) (w : World) (hS : Reads w (.slice sao ls scap) s) (hT : Reads w (.slice tao lt tcap) t) (hz : st.size ≤ 1048576) (hK : KindsLaid w) (hL : LibLaid w) (hG : Laid w) (ha : ¬ atomFault k s t n = 0) (hs : ¬ wordsFault (cutL st.data.toList) = 0) :
    Calls Tryz.prog 3 #[.agg #[.int .i64 k, .slice sao ls scap, .slice tao lt tcap, .int .i64 n], .agg #[.int .i64 u, .int .i64 a, .int .i64 b, .int .i64 c], .string st] w fun e w' => e = .returned (.bool true) ∧ Below w.heap.size w w' := by
  obtain ⟨w1, hw1⟩ : ∃ w1, w1 = (w.alloc (.cells #[.int .i64 k, .slice sao ls scap, .slice tao lt tcap, .int .i64 n] 24)).alloc (.cells #[.int .i64 u, .int .i64 a, .int .i64 b, .int .i64 c] 27) := ⟨_, rfl⟩
  have HB : Hid (Car w1.heap.size w1 w1) := ⟨Below.refl _ _, Nat.le_refl _⟩
  have HW : Hid (Below w.heap.size w w1 ∧ w.heap.size + 2 = w1.heap.size) := by
    refine ⟨?_, ?_⟩
    · rw [hw1]; exact (below_alloc1 _ _).trans ((below_alloc1 _ _).mono (by simp))
    · rw [hw1]; simp
  have HY : Hid (∀ W, Car w1.heap.size w1 W → (W.cell? ⟨w.heap.size, 0, none⟩ = some (.int .i64 k) ∧ W.cell? ⟨w.heap.size, 1, none⟩ = some (.slice sao ls scap) ∧ W.cell? ⟨w.heap.size, 2, none⟩ = some (.slice tao lt tcap) ∧ W.cell? ⟨w.heap.size, 3, none⟩ = some (.int .i64 n)) ∧ (W.cell? ⟨w.heap.size + 1, 0, none⟩ = some (.int .i64 u) ∧ W.cell? ⟨w.heap.size + 1, 1, none⟩ = some (.int .i64 a) ∧ W.cell? ⟨w.heap.size + 1, 2, none⟩ = some (.int .i64 b) ∧ W.cell? ⟨w.heap.size + 1, 3, none⟩ = some (.int .i64 c))) := fun W hc => by
    have l0 : w.heap.size < w1.heap.size := by have := HW.out.2; omega
    have l1 : w.heap.size + 1 < w1.heap.size := by have := HW.out.2; omega
    have e0 : ∀ j, W.cell? ⟨w.heap.size, j, none⟩ = w1.cell? ⟨w.heap.size, j, none⟩ := fun j => hc.1.cell (show (⟨w.heap.size, j, none⟩ : Addr).block < _ from l0)
    have e1 : ∀ j, W.cell? ⟨w.heap.size + 1, j, none⟩ = w1.cell? ⟨w.heap.size + 1, j, none⟩ := fun j => hc.1.cell (show (⟨w.heap.size + 1, j, none⟩ : Addr).block < _ from l1)
    simp only [e0, e1]
    rw [hw1]
    have q : w.heap.size + 1 = (w.alloc (.cells #[.int .i64 k, .slice sao ls scap, .slice tao lt tcap, .int .i64 n] 24)).heap.size := by simp
    have r : ∀ o j, ((w.alloc (.cells #[.int .i64 k, .slice sao ls scap, .slice tao lt tcap, .int .i64 n] 24)).alloc o).cell? ⟨w.heap.size, j, none⟩ = (w.alloc (.cells #[.int .i64 k, .slice sao ls scap, .slice tao lt tcap, .int .i64 n] 24)).cell? ⟨w.heap.size, j, none⟩ := fun o j => World.cell?_alloc_lt _ _ ⟨w.heap.size, j, none⟩ (by simp)
    simp only [r]
    rw [q]
    simp
  have HKd : Hid (∀ W, Car w1.heap.size w1 W → KindsLaid W ∧ LibLaid W) := fun W hc => ⟨(hK.below HW.out.1).below hc.1, (hL.below HW.out.1).below hc.1⟩
  have HG : Hid (∀ W, Car w1.heap.size w1 W → Laid W) := fun W hc => (hG.below HW.out.1).below hc.1
  have HRa : Hid (∀ W, Car w1.heap.size w1 W → Reads W (.slice sao ls scap) s ∧ Reads W (.slice tao lt tcap) t) := fun W hc => ⟨(hS.below HW.out.1).below hc.1, (hT.below HW.out.1).below hc.1⟩
  have HT : Hid (∀ W, Car w1.heap.size w1 W → Calls Tryz.prog 5 #[.agg #[.int .i64 k, .slice sao ls scap, .slice tao lt tcap, .int .i64 n]] W fun e w' => e = .returned (.int .i64 (atomFault k s t n)) ∧ Below W.heap.size W w') := fun W hc => by
    exact refAtom_any k n (.slice sao ls scap) (.slice tao lt tcap) s t W (HRa.out W hc).1 (HRa.out W hc).2
  have HCk : Hid (∀ W, Car w1.heap.size w1 W → Calls Tryz.prog 7 #[.agg #[.int .i64 k, .slice sao ls scap, .slice tao lt tcap, .int .i64 n]] W fun e w' => e = .returned (.iface 51 (.int .i64 (atomFault k s t n))) ∧ Below W.heap.size W w') := fun W hc => by
    have := acheck_any k n (.slice sao ls scap) (.slice tao lt tcap) s t W (HRa.out W hc).1 (HRa.out W hc).2 (HKd.out W hc).1
    rw [errV_no ha] at this; exact this
  have HPr : Hid (∀ W, Car w1.heap.size w1 W → Calls Tryz.prog 9 #[.agg #[.int .i64 k, .slice sao ls scap, .slice tao lt tcap, .int .i64 n]] W fun e w' => e = .returned (.tuple #[.string ⟨#[]⟩, .iface 51 (.int .i64 (atomFault k s t n))]) ∧ Below W.heap.size W w') := fun W hc => by
    exact aprint_none k n (.slice sao ls scap) (.slice tao lt tcap) s t ha W (HRa.out W hc).1 (HRa.out W hc).2 (HKd.out W hc).1 (HKd.out W hc).2
  have HVa : Hid (∀ W, Car w1.heap.size w1 W → Calls Tryz.prog 12 #[.agg #[.int .i64 k, .slice sao ls scap, .slice tao lt tcap, .int .i64 n], .agg #[.int .i64 u, .int .i64 a, .int .i64 b, .int .i64 c]] W fun e w' => e = .returned (.tuple #[.bool false, .iface 51 (.int .i64 (atomFault k s t n))]) ∧ Below W.heap.size W w') := fun W hc => by
    have e1 : (Wd.mk u a b c).holdsFault k s t n = atomFault k s t n := by unfold Wd.holdsFault; rw [if_neg ha]
    have := holds_none k n (.slice sao ls scap) (.slice tao lt tcap) s t u a b c (by rw [e1]; exact ha) W (HRa.out W hc).1 (HRa.out W hc).2 (HKd.out W hc).1
    rw [e1] at this; exact this
  obtain ⟨Fa, hFa⟩ : ∃ Fa, Fa = atomFault k s t n := ⟨_, rfl⟩
  rw [← hFa] at HT HCk HPr HVa ha
  have ha0 : (Fa == 0) = false := by simpa using ha
  clear hFa ha
  have HRe : Hid (∀ W, Calls Tryz.prog 13 #[.string st] W fun e w' => e = .returned (.tuple #[.agg #[.int .i64 0, .slice none 0 0, .slice none 0 0, .int .i64 0], .int .i64 (wordsFault (cutL st.data.toList))]) ∧ Below W.heap.size W w') := fun W => readAtom_bad st hz hs W
  have HPs : Hid (∀ W, Car w1.heap.size w1 W → Calls Tryz.prog 14 #[.string st] W fun e w' => e = .returned (.tuple #[.agg #[.int .i64 0, .slice none 0 0, .slice none 0 0, .int .i64 0], .iface 51 (.int .i64 (wordsFault (cutL st.data.toList)))]) ∧ Below W.heap.size W w') := fun W hc => by
    have := aparse_none st (by omega) (by rw [seen_fault]; exact hs) W (HKd.out W hc).1 (HKd.out W hc).2
    rw [seen_fault] at this; exact this
  obtain ⟨Fs, hFs⟩ : ∃ Fs, Fs = wordsFault (cutL st.data.toList) := ⟨_, rfl⟩
  rw [← hFs] at HRe HPs
  clear hFs hs hz
  clear hS hT hK hL hG
  obtain ⟨⟨a0x, a1x, a2x, a3x⟩, ⟨w0x, w1x, w2x, w3x⟩⟩ := HY.out w1 HB.out
  go_enter Tryz.func3, Tryz.ntmps3
  go_wp2_with fail
  rw [← hw1]
  clear hw1
  go_at_call 5
  refine (HT.out _ HB.out).mono ?_
  rintro e w' ⟨rfl, hb⟩
  have HB : Hid (Car w1.heap.size w1 _) := HB.out.step hb
  clear hb
  clear a0x a1x a2x a3x w0x w1x w2x w3x
  obtain ⟨⟨a0x, a1x, a2x, a3x⟩, ⟨w0x, w1x, w2x, w3x⟩⟩ := HY.out _ HB.out
  go_wp2_with fail
  go_at_call 7
  refine (HCk.out _ HB.out).mono ?_
  rintro e w' ⟨rfl, hb⟩
  have HB : Hid (Car w1.heap.size w1 _) := HB.out.step hb
  clear hb
  clear a0x a1x a2x a3x w0x w1x w2x w3x
  go_wp2_with fail
  go_at_call 6
  refine (errA_one _ _ (HG.out _ HB.out)).mono ?_
  rintro e w' ⟨rfl, hb⟩
  have HB : Hid (Car w1.heap.size w1 _) := HB.out.step hb
  clear hb
  obtain ⟨⟨a0x, a1x, a2x, a3x⟩, ⟨w0x, w1x, w2x, w3x⟩⟩ := HY.out _ HB.out
  go_wp2_with fail
  go_at_call 9
  refine (HPr.out _ HB.out).mono ?_
  rintro e w' ⟨rfl, hb⟩
  have HB : Hid (Car w1.heap.size w1 _) := HB.out.step hb
  clear hb
  clear a0x a1x a2x a3x w0x w1x w2x w3x
  go_wp2_with fail
  go_at_call 6
  refine (errA_one _ _ (HG.out _ HB.out)).mono ?_
  rintro e w' ⟨rfl, hb⟩
  have HB : Hid (Car w1.heap.size w1 _) := HB.out.step hb
  clear hb
  obtain ⟨⟨a0x, a1x, a2x, a3x⟩, ⟨w0x, w1x, w2x, w3x⟩⟩ := HY.out _ HB.out
  go_wp2_with fail
  go_at_call 12
  refine (HVa.out _ HB.out).mono ?_
  rintro e w' ⟨rfl, hb⟩
  have HB : Hid (Car w1.heap.size w1 _) := HB.out.step hb
  clear hb
  clear a0x a1x a2x a3x w0x w1x w2x w3x
  go_wp2_with fail
  go_at_call 6
  refine (errA_one _ _ (HG.out _ HB.out)).mono ?_
  rintro e w' ⟨rfl, hb⟩
  have HB : Hid (Car w1.heap.size w1 _) := HB.out.step hb
  clear hb
  go_wp2_with fail
  go_at_call 13
  refine (HRe.out _).mono ?_
  rintro e z1 ⟨rfl, hb⟩
  have HB : Hid (Car w1.heap.size w1 z1) := HB.out.step hb
  clear hb
  obtain ⟨z2, hz2⟩ : ∃ z2, z2 = z1.alloc (.cells #[.int .i64 0, .slice none 0 0, .slice none 0 0, .int .i64 0] 24) := ⟨_, rfl⟩
  have HB : Hid (Car w1.heap.size w1 z2) := by unfold Hid; rw [hz2]; exact HB.out.step (below_alloc1 _ _)
  have HX2 : Hid (BoxA z2 z1.heap.size 0 0 (.slice none 0 0) (.slice none 0 0) ∧ z1.heap.size < z2.heap.size) := by unfold Hid; rw [hz2]; exact ⟨boxA_alloc z1 _ _ _ _, by simp⟩
  go_wp2_with fail
  rw [← hz2]
  clear hz2
  go_at_call 14
  refine (HPs.out _ HB.out).mono ?_
  rintro e z3 ⟨rfl, hb⟩
  have HB : Hid (Car w1.heap.size w1 z3) := HB.out.step hb
  have HX3 : Hid (BoxA z3 z1.heap.size 0 0 (.slice none 0 0) (.slice none 0 0) ∧ z1.heap.size < z3.heap.size) := ⟨HX2.out.1.below hb HX2.out.2, Nat.lt_of_lt_of_le HX2.out.2 hb.size⟩
  clear hb
  obtain ⟨z4, hz4⟩ : ∃ z4, z4 = z3.alloc (.cells #[.int .i64 0, .slice none 0 0, .slice none 0 0, .int .i64 0] 24) := ⟨_, rfl⟩
  have HB : Hid (Car w1.heap.size w1 z4) := by unfold Hid; rw [hz4]; exact HB.out.step (below_alloc1 _ _)
  have HX4 : Hid (BoxA z4 z1.heap.size 0 0 (.slice none 0 0) (.slice none 0 0) ∧ z1.heap.size < z4.heap.size) := by unfold Hid; rw [hz4]; exact ⟨HX3.out.1.below (below_alloc1 _ _) HX3.out.2, Nat.lt_of_lt_of_le HX3.out.2 (by simp)⟩
  have HX5 : Hid (BoxA z4 z3.heap.size 0 0 (.slice none 0 0) (.slice none 0 0) ∧ z3.heap.size < z4.heap.size) := by unfold Hid; rw [hz4]; exact ⟨boxA_alloc z3 _ _ _ _, by simp⟩
  go_wp2_with fail
  rw [← hz4]
  clear hz4
  go_at_call 6
  refine (errA_one _ _ (HG.out _ HB.out)).mono ?_
  rintro e z5 ⟨rfl, hb⟩
  have HB : Hid (Car w1.heap.size w1 z5) := HB.out.step hb
  obtain ⟨b0, b1, b2, b3⟩ := HX4.out.1.below hb HX4.out.2
  obtain ⟨y0, y1, y2, y3⟩ := HX5.out.1.below hb HX5.out.2
  clear hb
  go_wp2_with fail
  go_at_call 15
  refine (atom_none _).mono ?_
  rintro e z6 ⟨rfl, hb⟩
  have HB : Hid (Car w1.heap.size w1 z6) := HB.out.step hb
  clear hb b0 b1 b2 b3 y0 y1 y2 y3
  go_wp2
  go_ret
  exact ⟨rfl, HW.out.1.trans (HB.out.1.mono (by have := HW.out.2; omega))⟩

set_option linter.unusedVariables false in
set_option maxHeartbeats 8000000 in
theorem atomTells_Bg (k n : Int) (sao tao : Option Addr) (ls lt scap tcap : Nat) (s t : List Int) (st : ByteArray) (u a b c : Int) (w : World) (hS : Reads w (.slice sao ls scap) s) (hT : Reads w (.slice tao lt tcap) t) (hz : st.size ≤ 1048576) (hK : KindsLaid w) (hL : LibLaid w) (hG : Laid w) (ha : ¬ atomFault k s t n = 0) (hs : wordsFault (cutL st.data.toList) = 0) :
    Calls Tryz.prog 3 #[.agg #[.int .i64 k, .slice sao ls scap, .slice tao lt tcap, .int .i64 n], .agg #[.int .i64 u, .int .i64 a, .int .i64 b, .int .i64 c], .string st] w fun e w' => e = .returned (.bool true) ∧ Below w.heap.size w w' := by
  obtain ⟨w1, hw1⟩ : ∃ w1, w1 = (w.alloc (.cells #[.int .i64 k, .slice sao ls scap, .slice tao lt tcap, .int .i64 n] 24)).alloc (.cells #[.int .i64 u, .int .i64 a, .int .i64 b, .int .i64 c] 27) := ⟨_, rfl⟩
  have HB : Hid (Car w1.heap.size w1 w1) := ⟨Below.refl _ _, Nat.le_refl _⟩
  have HW : Hid (Below w.heap.size w w1 ∧ w.heap.size + 2 = w1.heap.size) := by
    refine ⟨?_, ?_⟩
    · rw [hw1]; exact (below_alloc1 _ _).trans ((below_alloc1 _ _).mono (by simp))
    · rw [hw1]; simp
  have HY : Hid (∀ W, Car w1.heap.size w1 W → (W.cell? ⟨w.heap.size, 0, none⟩ = some (.int .i64 k) ∧ W.cell? ⟨w.heap.size, 1, none⟩ = some (.slice sao ls scap) ∧ W.cell? ⟨w.heap.size, 2, none⟩ = some (.slice tao lt tcap) ∧ W.cell? ⟨w.heap.size, 3, none⟩ = some (.int .i64 n)) ∧ (W.cell? ⟨w.heap.size + 1, 0, none⟩ = some (.int .i64 u) ∧ W.cell? ⟨w.heap.size + 1, 1, none⟩ = some (.int .i64 a) ∧ W.cell? ⟨w.heap.size + 1, 2, none⟩ = some (.int .i64 b) ∧ W.cell? ⟨w.heap.size + 1, 3, none⟩ = some (.int .i64 c))) := fun W hc => by
    have l0 : w.heap.size < w1.heap.size := by have := HW.out.2; omega
    have l1 : w.heap.size + 1 < w1.heap.size := by have := HW.out.2; omega
    have e0 : ∀ j, W.cell? ⟨w.heap.size, j, none⟩ = w1.cell? ⟨w.heap.size, j, none⟩ := fun j => hc.1.cell (show (⟨w.heap.size, j, none⟩ : Addr).block < _ from l0)
    have e1 : ∀ j, W.cell? ⟨w.heap.size + 1, j, none⟩ = w1.cell? ⟨w.heap.size + 1, j, none⟩ := fun j => hc.1.cell (show (⟨w.heap.size + 1, j, none⟩ : Addr).block < _ from l1)
    simp only [e0, e1]
    rw [hw1]
    have q : w.heap.size + 1 = (w.alloc (.cells #[.int .i64 k, .slice sao ls scap, .slice tao lt tcap, .int .i64 n] 24)).heap.size := by simp
    have r : ∀ o j, ((w.alloc (.cells #[.int .i64 k, .slice sao ls scap, .slice tao lt tcap, .int .i64 n] 24)).alloc o).cell? ⟨w.heap.size, j, none⟩ = (w.alloc (.cells #[.int .i64 k, .slice sao ls scap, .slice tao lt tcap, .int .i64 n] 24)).cell? ⟨w.heap.size, j, none⟩ := fun o j => World.cell?_alloc_lt _ _ ⟨w.heap.size, j, none⟩ (by simp)
    simp only [r]
    rw [q]
    simp
  have HKd : Hid (∀ W, Car w1.heap.size w1 W → KindsLaid W ∧ LibLaid W) := fun W hc => ⟨(hK.below HW.out.1).below hc.1, (hL.below HW.out.1).below hc.1⟩
  have HG : Hid (∀ W, Car w1.heap.size w1 W → Laid W) := fun W hc => (hG.below HW.out.1).below hc.1
  have HRa : Hid (∀ W, Car w1.heap.size w1 W → Reads W (.slice sao ls scap) s ∧ Reads W (.slice tao lt tcap) t) := fun W hc => ⟨(hS.below HW.out.1).below hc.1, (hT.below HW.out.1).below hc.1⟩
  have HT : Hid (∀ W, Car w1.heap.size w1 W → Calls Tryz.prog 5 #[.agg #[.int .i64 k, .slice sao ls scap, .slice tao lt tcap, .int .i64 n]] W fun e w' => e = .returned (.int .i64 (atomFault k s t n)) ∧ Below W.heap.size W w') := fun W hc => by
    exact refAtom_any k n (.slice sao ls scap) (.slice tao lt tcap) s t W (HRa.out W hc).1 (HRa.out W hc).2
  have HCk : Hid (∀ W, Car w1.heap.size w1 W → Calls Tryz.prog 7 #[.agg #[.int .i64 k, .slice sao ls scap, .slice tao lt tcap, .int .i64 n]] W fun e w' => e = .returned (.iface 51 (.int .i64 (atomFault k s t n))) ∧ Below W.heap.size W w') := fun W hc => by
    have := acheck_any k n (.slice sao ls scap) (.slice tao lt tcap) s t W (HRa.out W hc).1 (HRa.out W hc).2 (HKd.out W hc).1
    rw [errV_no ha] at this; exact this
  have HPr : Hid (∀ W, Car w1.heap.size w1 W → Calls Tryz.prog 9 #[.agg #[.int .i64 k, .slice sao ls scap, .slice tao lt tcap, .int .i64 n]] W fun e w' => e = .returned (.tuple #[.string ⟨#[]⟩, .iface 51 (.int .i64 (atomFault k s t n))]) ∧ Below W.heap.size W w') := fun W hc => by
    exact aprint_none k n (.slice sao ls scap) (.slice tao lt tcap) s t ha W (HRa.out W hc).1 (HRa.out W hc).2 (HKd.out W hc).1 (HKd.out W hc).2
  have HVa : Hid (∀ W, Car w1.heap.size w1 W → Calls Tryz.prog 12 #[.agg #[.int .i64 k, .slice sao ls scap, .slice tao lt tcap, .int .i64 n], .agg #[.int .i64 u, .int .i64 a, .int .i64 b, .int .i64 c]] W fun e w' => e = .returned (.tuple #[.bool false, .iface 51 (.int .i64 (atomFault k s t n))]) ∧ Below W.heap.size W w') := fun W hc => by
    have e1 : (Wd.mk u a b c).holdsFault k s t n = atomFault k s t n := by unfold Wd.holdsFault; rw [if_neg ha]
    have := holds_none k n (.slice sao ls scap) (.slice tao lt tcap) s t u a b c (by rw [e1]; exact ha) W (HRa.out W hc).1 (HRa.out W hc).2 (HKd.out W hc).1
    rw [e1] at this; exact this
  obtain ⟨Fa, hFa⟩ : ∃ Fa, Fa = atomFault k s t n := ⟨_, rfl⟩
  rw [← hFa] at HT HCk HPr HVa ha
  have ha0 : (Fa == 0) = false := by simpa using ha
  clear hFa ha
  have hsn := seen_good hs
  obtain ⟨kx, hkx⟩ : ∃ kx, wordsKind (cutL st.data.toList) = kx := ⟨_, rfl⟩
  obtain ⟨nx, hnx⟩ : ∃ nx, wordsN kx (cutL st.data.toList) = nx := ⟨_, rfl⟩
  obtain ⟨px, hpx⟩ : ∃ px, wordsS (cutL st.data.toList) = px := ⟨_, rfl⟩
  obtain ⟨qx, hqx⟩ : ∃ qx, wordsT kx (cutL st.data.toList) = qx := ⟨_, rfl⟩
  have HRe : Hid (∀ W, _) := fun W => readAtom_good st hz hs hkx hpx hqx hnx W
  have HPs : Hid (∀ W, Car w1.heap.size w1 W → _) := fun W hc => aparse_good st (by omega) (k := kx) (n := nx) (p := px) (q := qx) (by rw [hsn]; exact hs) (by rw [hsn]; exact hkx) (by rw [hsn]; exact hpx) (by rw [hsn]; exact hqx) (by rw [hsn]; exact hnx) W (HKd.out W hc).1 (HKd.out W hc).2
  obtain ⟨lpx, hlpx⟩ : ∃ lpx, px.length = lpx := ⟨_, rfl⟩
  obtain ⟨lqx, hlqx⟩ : ∃ lqx, qx.length = lqx := ⟨_, rfl⟩
  rw [hlpx, hlqx] at HPs HRe
  clear hkx hnx hpx hqx hlpx hlqx hs hsn hz
  clear hS hT hK hL hG
  obtain ⟨⟨a0x, a1x, a2x, a3x⟩, ⟨w0x, w1x, w2x, w3x⟩⟩ := HY.out w1 HB.out
  go_enter Tryz.func3, Tryz.ntmps3
  go_wp2_with fail
  rw [← hw1]
  clear hw1
  go_at_call 5
  refine (HT.out _ HB.out).mono ?_
  rintro e w' ⟨rfl, hb⟩
  have HB : Hid (Car w1.heap.size w1 _) := HB.out.step hb
  clear hb
  clear a0x a1x a2x a3x w0x w1x w2x w3x
  obtain ⟨⟨a0x, a1x, a2x, a3x⟩, ⟨w0x, w1x, w2x, w3x⟩⟩ := HY.out _ HB.out
  go_wp2_with fail
  go_at_call 7
  refine (HCk.out _ HB.out).mono ?_
  rintro e w' ⟨rfl, hb⟩
  have HB : Hid (Car w1.heap.size w1 _) := HB.out.step hb
  clear hb
  clear a0x a1x a2x a3x w0x w1x w2x w3x
  go_wp2_with fail
  go_at_call 6
  refine (errA_one _ _ (HG.out _ HB.out)).mono ?_
  rintro e w' ⟨rfl, hb⟩
  have HB : Hid (Car w1.heap.size w1 _) := HB.out.step hb
  clear hb
  obtain ⟨⟨a0x, a1x, a2x, a3x⟩, ⟨w0x, w1x, w2x, w3x⟩⟩ := HY.out _ HB.out
  go_wp2_with fail
  go_at_call 9
  refine (HPr.out _ HB.out).mono ?_
  rintro e w' ⟨rfl, hb⟩
  have HB : Hid (Car w1.heap.size w1 _) := HB.out.step hb
  clear hb
  clear a0x a1x a2x a3x w0x w1x w2x w3x
  go_wp2_with fail
  go_at_call 6
  refine (errA_one _ _ (HG.out _ HB.out)).mono ?_
  rintro e w' ⟨rfl, hb⟩
  have HB : Hid (Car w1.heap.size w1 _) := HB.out.step hb
  clear hb
  obtain ⟨⟨a0x, a1x, a2x, a3x⟩, ⟨w0x, w1x, w2x, w3x⟩⟩ := HY.out _ HB.out
  go_wp2_with fail
  go_at_call 12
  refine (HVa.out _ HB.out).mono ?_
  rintro e w' ⟨rfl, hb⟩
  have HB : Hid (Car w1.heap.size w1 _) := HB.out.step hb
  clear hb
  clear a0x a1x a2x a3x w0x w1x w2x w3x
  go_wp2_with fail
  go_at_call 6
  refine (errA_one _ _ (HG.out _ HB.out)).mono ?_
  rintro e w' ⟨rfl, hb⟩
  have HB : Hid (Car w1.heap.size w1 _) := HB.out.step hb
  clear hb
  go_wp2_with fail
  go_at_call 13
  refine (HRe.out _).mono ?_
  rintro e z1 ⟨g0, g1, g2, g3, rfl, r0, r1, hb⟩
  have HB : Hid (Car w1.heap.size w1 z1) := HB.out.step hb
  clear hb
  obtain ⟨z2, hz2⟩ : ∃ z2, z2 = z1.alloc (.cells #[.int .i64 kx, .slice g0 lpx g1, .slice g2 lqx g3, .int .i64 nx] 24) := ⟨_, rfl⟩
  have HB : Hid (Car w1.heap.size w1 z2) := by unfold Hid; rw [hz2]; exact HB.out.step (below_alloc1 _ _)
  have HX2 : Hid (BoxA z2 z1.heap.size kx nx (.slice g0 lpx g1) (.slice g2 lqx g3) ∧ z1.heap.size < z2.heap.size) := by unfold Hid; rw [hz2]; exact ⟨boxA_alloc z1 _ _ _ _, by simp⟩
  have HR2 : Hid (Reads z2 (.slice g0 lpx g1) px ∧ Reads z2 (.slice g2 lqx g3) qx) := by unfold Hid; rw [hz2]; exact ⟨r0.below (below_alloc1 _ _), r1.below (below_alloc1 _ _)⟩
  clear r0 r1
  go_wp2_with fail
  rw [← hz2]
  clear hz2
  go_at_call 14
  refine (HPs.out _ HB.out).mono ?_
  rintro e z3 ⟨f0, f1, f2, f3, rfl, r2, r3, hb⟩
  have HB : Hid (Car w1.heap.size w1 z3) := HB.out.step hb
  have HX3 : Hid (BoxA z3 z1.heap.size kx nx (.slice g0 lpx g1) (.slice g2 lqx g3) ∧ z1.heap.size < z3.heap.size) := ⟨HX2.out.1.below hb HX2.out.2, Nat.lt_of_lt_of_le HX2.out.2 hb.size⟩
  have HR3 : Hid (Reads z3 (.slice g0 lpx g1) px ∧ Reads z3 (.slice g2 lqx g3) qx) := ⟨HR2.out.1.below hb, HR2.out.2.below hb⟩
  have HR4 : Hid (Reads z3 (.slice f0 lpx f1) px ∧ Reads z3 (.slice f2 lqx f3) qx) := ⟨r2, r3⟩
  clear r2 r3
  clear hb
  obtain ⟨z4, hz4⟩ : ∃ z4, z4 = z3.alloc (.cells #[.int .i64 kx, .slice f0 lpx f1, .slice f2 lqx f3, .int .i64 nx] 24) := ⟨_, rfl⟩
  have HB : Hid (Car w1.heap.size w1 z4) := by unfold Hid; rw [hz4]; exact HB.out.step (below_alloc1 _ _)
  have HX4 : Hid (BoxA z4 z1.heap.size kx nx (.slice g0 lpx g1) (.slice g2 lqx g3) ∧ z1.heap.size < z4.heap.size) := by unfold Hid; rw [hz4]; exact ⟨HX3.out.1.below (below_alloc1 _ _) HX3.out.2, Nat.lt_of_lt_of_le HX3.out.2 (by simp)⟩
  have HX5 : Hid (BoxA z4 z3.heap.size kx nx (.slice f0 lpx f1) (.slice f2 lqx f3) ∧ z3.heap.size < z4.heap.size) := by unfold Hid; rw [hz4]; exact ⟨boxA_alloc z3 _ _ _ _, by simp⟩
  have HR5 : Hid ((Reads z4 (.slice g0 lpx g1) px ∧ Reads z4 (.slice g2 lqx g3) qx) ∧ (Reads z4 (.slice f0 lpx f1) px ∧ Reads z4 (.slice f2 lqx f3) qx)) := by unfold Hid; rw [hz4]; exact ⟨⟨HR3.out.1.below (below_alloc1 _ _), HR3.out.2.below (below_alloc1 _ _)⟩, ⟨HR4.out.1.below (below_alloc1 _ _), HR4.out.2.below (below_alloc1 _ _)⟩⟩
  go_wp2_with fail
  rw [← hz4]
  clear hz4
  go_at_call 6
  refine (errA_nil _).mono ?_
  rintro e z5 ⟨rfl, rfl⟩
  obtain ⟨b0, b1, b2, b3⟩ := HX4.out.1
  obtain ⟨y0, y1, y2, y3⟩ := HX5.out.1
  go_wp2_with fail
  go_at_call 15
  refine (atom_same kx nx (.slice f0 lpx f1) (.slice f2 lqx f3) (.slice g0 lpx g1) (.slice g2 lqx g3) px qx _ HR5.out.2.1 HR5.out.2.2 HR5.out.1.1 HR5.out.1.2).mono ?_
  rintro e z6 ⟨rfl, hb⟩
  have HB : Hid (Car w1.heap.size w1 z6) := HB.out.step hb
  clear hb b0 b1 b2 b3 y0 y1 y2 y3
  go_wp2
  go_ret
  exact ⟨rfl, HW.out.1.trans (HB.out.1.mono (by have := HW.out.2; omega))⟩

end Go.Proofs.YtenmheenieifpabGreatDoor

namespace Go.Proofs.YtenmheenieifpabGreatDoor
open Go.ChangeShapes Go.WideShapes Go.ChangeAt Go.RowKit
set_option maxRecDepth 100000

set_option linter.unusedVariables false in
set_option maxHeartbeats 8000000 in
theorem atomTells_Wb (k n : Int) (sao tao : Option Addr) (ls lt scap tcap : Nat) (s t : List Int) (st : ByteArray) (u a b c : Int) (w : World) (hS : Reads w (.slice sao ls scap) s) (hT : Reads w (.slice tao lt tcap) t) (hz : st.size ≤ 1048576) (hK : KindsLaid w) (hL : LibLaid w) (hG : Laid w) (ha : atomFault k s t n = 0) (hok : ¬ (Wd.mk u a b c).ok = true) (hs : ¬ wordsFault (cutL st.data.toList) = 0) :
    Calls Tryz.prog 3 #[.agg #[.int .i64 k, .slice sao ls scap, .slice tao lt tcap, .int .i64 n], .agg #[.int .i64 u, .int .i64 a, .int .i64 b, .int .i64 c], .string st] w fun e w' => e = .returned (.bool true) ∧ Below w.heap.size w w' := by
  obtain ⟨w1, hw1⟩ : ∃ w1, w1 = (w.alloc (.cells #[.int .i64 k, .slice sao ls scap, .slice tao lt tcap, .int .i64 n] 24)).alloc (.cells #[.int .i64 u, .int .i64 a, .int .i64 b, .int .i64 c] 27) := ⟨_, rfl⟩
  have HB : Hid (Car w1.heap.size w1 w1) := ⟨Below.refl _ _, Nat.le_refl _⟩
  have HW : Hid (Below w.heap.size w w1 ∧ w.heap.size + 2 = w1.heap.size) := by
    refine ⟨?_, ?_⟩
    · rw [hw1]; exact (below_alloc1 _ _).trans ((below_alloc1 _ _).mono (by simp))
    · rw [hw1]; simp
  have HY : Hid (∀ W, Car w1.heap.size w1 W → (W.cell? ⟨w.heap.size, 0, none⟩ = some (.int .i64 k) ∧ W.cell? ⟨w.heap.size, 1, none⟩ = some (.slice sao ls scap) ∧ W.cell? ⟨w.heap.size, 2, none⟩ = some (.slice tao lt tcap) ∧ W.cell? ⟨w.heap.size, 3, none⟩ = some (.int .i64 n)) ∧ (W.cell? ⟨w.heap.size + 1, 0, none⟩ = some (.int .i64 u) ∧ W.cell? ⟨w.heap.size + 1, 1, none⟩ = some (.int .i64 a) ∧ W.cell? ⟨w.heap.size + 1, 2, none⟩ = some (.int .i64 b) ∧ W.cell? ⟨w.heap.size + 1, 3, none⟩ = some (.int .i64 c))) := fun W hc => by
    have l0 : w.heap.size < w1.heap.size := by have := HW.out.2; omega
    have l1 : w.heap.size + 1 < w1.heap.size := by have := HW.out.2; omega
    have e0 : ∀ j, W.cell? ⟨w.heap.size, j, none⟩ = w1.cell? ⟨w.heap.size, j, none⟩ := fun j => hc.1.cell (show (⟨w.heap.size, j, none⟩ : Addr).block < _ from l0)
    have e1 : ∀ j, W.cell? ⟨w.heap.size + 1, j, none⟩ = w1.cell? ⟨w.heap.size + 1, j, none⟩ := fun j => hc.1.cell (show (⟨w.heap.size + 1, j, none⟩ : Addr).block < _ from l1)
    simp only [e0, e1]
    rw [hw1]
    have q : w.heap.size + 1 = (w.alloc (.cells #[.int .i64 k, .slice sao ls scap, .slice tao lt tcap, .int .i64 n] 24)).heap.size := by simp
    have r : ∀ o j, ((w.alloc (.cells #[.int .i64 k, .slice sao ls scap, .slice tao lt tcap, .int .i64 n] 24)).alloc o).cell? ⟨w.heap.size, j, none⟩ = (w.alloc (.cells #[.int .i64 k, .slice sao ls scap, .slice tao lt tcap, .int .i64 n] 24)).cell? ⟨w.heap.size, j, none⟩ := fun o j => World.cell?_alloc_lt _ _ ⟨w.heap.size, j, none⟩ (by simp)
    simp only [r]
    rw [q]
    simp
  have HKd : Hid (∀ W, Car w1.heap.size w1 W → KindsLaid W ∧ LibLaid W) := fun W hc => ⟨(hK.below HW.out.1).below hc.1, (hL.below HW.out.1).below hc.1⟩
  have HG : Hid (∀ W, Car w1.heap.size w1 W → Laid W) := fun W hc => (hG.below HW.out.1).below hc.1
  have HRa : Hid (∀ W, Car w1.heap.size w1 W → Reads W (.slice sao ls scap) s ∧ Reads W (.slice tao lt tcap) t) := fun W hc => ⟨(hS.below HW.out.1).below hc.1, (hT.below HW.out.1).below hc.1⟩
  have HT : Hid (∀ W, Car w1.heap.size w1 W → Calls Tryz.prog 5 #[.agg #[.int .i64 k, .slice sao ls scap, .slice tao lt tcap, .int .i64 n]] W fun e w' => e = .returned (.int .i64 0) ∧ Below W.heap.size W w') := fun W hc => by
    have := refAtom_any k n (.slice sao ls scap) (.slice tao lt tcap) s t W (HRa.out W hc).1 (HRa.out W hc).2
    rw [ha] at this; exact this
  have HCk : Hid (∀ W, Car w1.heap.size w1 W → Calls Tryz.prog 7 #[.agg #[.int .i64 k, .slice sao ls scap, .slice tao lt tcap, .int .i64 n]] W fun e w' => e = .returned (.nilIface) ∧ Below W.heap.size W w') := fun W hc => by
    have := acheck_any k n (.slice sao ls scap) (.slice tao lt tcap) s t W (HRa.out W hc).1 (HRa.out W hc).2 (HKd.out W hc).1
    rw [ha] at this; exact this
  obtain ⟨P, hP⟩ : ∃ P, strOf (atomText k s t n) = P := ⟨_, rfl⟩
  have HTx : Hid (∀ W, Car w1.heap.size w1 W → Calls Tryz.prog 8 #[.agg #[.int .i64 k, .slice sao ls scap, .slice tao lt tcap, .int .i64 n]] W fun e w' => e = .returned (.string P) ∧ Below W.heap.size W w') := fun W hc => by
    rw [← hP]; exact refAtomText_any k n (.slice sao ls scap) (.slice tao lt tcap) s t ha W (HRa.out W hc).1 (HRa.out W hc).2
  have HPr : Hid (∀ W, Car w1.heap.size w1 W → Calls Tryz.prog 9 #[.agg #[.int .i64 k, .slice sao ls scap, .slice tao lt tcap, .int .i64 n]] W fun e w' => e = .returned (.tuple #[.string P, .nilIface]) ∧ Below W.heap.size W w') := fun W hc => by
    exact aprint_text k n (.slice sao ls scap) (.slice tao lt tcap) s t P ha hP W (HRa.out W hc).1 (HRa.out W hc).2 (HKd.out W hc).1 (HKd.out W hc).2
  have HWo : Hid (∀ W, Car w1.heap.size w1 W → Calls Tryz.prog 10 #[.agg #[.int .i64 u, .int .i64 a, .int .i64 b, .int .i64 c]] W fun e w' => e = .returned (.int .i64 1) ∧ Below W.heap.size W w') := fun W hc => by
    have := refWorld_any u a b c W
    rw [if_neg hok] at this; exact this
  have HVa : Hid (∀ W, Car w1.heap.size w1 W → Calls Tryz.prog 12 #[.agg #[.int .i64 k, .slice sao ls scap, .slice tao lt tcap, .int .i64 n], .agg #[.int .i64 u, .int .i64 a, .int .i64 b, .int .i64 c]] W fun e w' => e = .returned (.tuple #[.bool false, .iface 51 (.int .i64 1)]) ∧ Below W.heap.size W w') := fun W hc => by
    have e1 : (Wd.mk u a b c).holdsFault k s t n = 1 := by unfold Wd.holdsFault; rw [if_pos ha, if_neg hok]
    have := holds_none k n (.slice sao ls scap) (.slice tao lt tcap) s t u a b c (by rw [e1]; decide) W (HRa.out W hc).1 (HRa.out W hc).2 (HKd.out W hc).1
    rw [e1] at this; exact this
  clear ha hok hP
  have HRe : Hid (∀ W, Calls Tryz.prog 13 #[.string st] W fun e w' => e = .returned (.tuple #[.agg #[.int .i64 0, .slice none 0 0, .slice none 0 0, .int .i64 0], .int .i64 (wordsFault (cutL st.data.toList))]) ∧ Below W.heap.size W w') := fun W => readAtom_bad st hz hs W
  have HPs : Hid (∀ W, Car w1.heap.size w1 W → Calls Tryz.prog 14 #[.string st] W fun e w' => e = .returned (.tuple #[.agg #[.int .i64 0, .slice none 0 0, .slice none 0 0, .int .i64 0], .iface 51 (.int .i64 (wordsFault (cutL st.data.toList)))]) ∧ Below W.heap.size W w') := fun W hc => by
    have := aparse_none st (by omega) (by rw [seen_fault]; exact hs) W (HKd.out W hc).1 (HKd.out W hc).2
    rw [seen_fault] at this; exact this
  obtain ⟨Fs, hFs⟩ : ∃ Fs, Fs = wordsFault (cutL st.data.toList) := ⟨_, rfl⟩
  rw [← hFs] at HRe HPs
  clear hFs hs hz
  clear hS hT hK hL hG
  obtain ⟨⟨a0x, a1x, a2x, a3x⟩, ⟨w0x, w1x, w2x, w3x⟩⟩ := HY.out w1 HB.out
  go_enter Tryz.func3, Tryz.ntmps3
  go_wp2_with fail
  rw [← hw1]
  clear hw1
  go_at_call 5
  refine (HT.out _ HB.out).mono ?_
  rintro e w' ⟨rfl, hb⟩
  have HB : Hid (Car w1.heap.size w1 _) := HB.out.step hb
  clear hb
  clear a0x a1x a2x a3x w0x w1x w2x w3x
  obtain ⟨⟨a0x, a1x, a2x, a3x⟩, ⟨w0x, w1x, w2x, w3x⟩⟩ := HY.out _ HB.out
  go_wp2_with fail
  go_at_call 7
  refine (HCk.out _ HB.out).mono ?_
  rintro e w' ⟨rfl, hb⟩
  have HB : Hid (Car w1.heap.size w1 _) := HB.out.step hb
  clear hb
  clear a0x a1x a2x a3x w0x w1x w2x w3x
  go_wp2_with fail
  go_at_call 6
  refine (errA_nil _).mono ?_
  rintro e w' ⟨rfl, rfl⟩
  obtain ⟨⟨a0x, a1x, a2x, a3x⟩, ⟨w0x, w1x, w2x, w3x⟩⟩ := HY.out _ HB.out
  go_wp2_with fail
  go_at_call 8
  refine (HTx.out _ HB.out).mono ?_
  rintro e w' ⟨rfl, hb⟩
  have HB : Hid (Car w1.heap.size w1 _) := HB.out.step hb
  clear hb
  clear a0x a1x a2x a3x w0x w1x w2x w3x
  obtain ⟨⟨a0x, a1x, a2x, a3x⟩, ⟨w0x, w1x, w2x, w3x⟩⟩ := HY.out _ HB.out
  go_wp2_with fail
  go_at_call 9
  refine (HPr.out _ HB.out).mono ?_
  rintro e w' ⟨rfl, hb⟩
  have HB : Hid (Car w1.heap.size w1 _) := HB.out.step hb
  clear hb
  clear a0x a1x a2x a3x w0x w1x w2x w3x
  go_wp2_with fail
  go_at_call 6
  refine (errA_nil _).mono ?_
  rintro e w' ⟨rfl, rfl⟩
  obtain ⟨⟨a0x, a1x, a2x, a3x⟩, ⟨w0x, w1x, w2x, w3x⟩⟩ := HY.out _ HB.out
  go_wp2_with fail
  go_at_call 10
  refine (HWo.out _ HB.out).mono ?_
  rintro e w' ⟨rfl, hb⟩
  have HB : Hid (Car w1.heap.size w1 _) := HB.out.step hb
  clear hb
  clear a0x a1x a2x a3x w0x w1x w2x w3x
  obtain ⟨⟨a0x, a1x, a2x, a3x⟩, ⟨w0x, w1x, w2x, w3x⟩⟩ := HY.out _ HB.out
  go_wp2_with fail
  go_at_call 12
  refine (HVa.out _ HB.out).mono ?_
  rintro e w' ⟨rfl, hb⟩
  have HB : Hid (Car w1.heap.size w1 _) := HB.out.step hb
  clear hb
  clear a0x a1x a2x a3x w0x w1x w2x w3x
  go_wp2_with fail
  go_at_call 6
  refine (errA_one _ _ (HG.out _ HB.out)).mono ?_
  rintro e w' ⟨rfl, hb⟩
  have HB : Hid (Car w1.heap.size w1 _) := HB.out.step hb
  clear hb
  go_wp2_with fail
  go_at_call 13
  refine (HRe.out _).mono ?_
  rintro e z1 ⟨rfl, hb⟩
  have HB : Hid (Car w1.heap.size w1 z1) := HB.out.step hb
  clear hb
  obtain ⟨z2, hz2⟩ : ∃ z2, z2 = z1.alloc (.cells #[.int .i64 0, .slice none 0 0, .slice none 0 0, .int .i64 0] 24) := ⟨_, rfl⟩
  have HB : Hid (Car w1.heap.size w1 z2) := by unfold Hid; rw [hz2]; exact HB.out.step (below_alloc1 _ _)
  have HX2 : Hid (BoxA z2 z1.heap.size 0 0 (.slice none 0 0) (.slice none 0 0) ∧ z1.heap.size < z2.heap.size) := by unfold Hid; rw [hz2]; exact ⟨boxA_alloc z1 _ _ _ _, by simp⟩
  go_wp2_with fail
  rw [← hz2]
  clear hz2
  go_at_call 14
  refine (HPs.out _ HB.out).mono ?_
  rintro e z3 ⟨rfl, hb⟩
  have HB : Hid (Car w1.heap.size w1 z3) := HB.out.step hb
  have HX3 : Hid (BoxA z3 z1.heap.size 0 0 (.slice none 0 0) (.slice none 0 0) ∧ z1.heap.size < z3.heap.size) := ⟨HX2.out.1.below hb HX2.out.2, Nat.lt_of_lt_of_le HX2.out.2 hb.size⟩
  clear hb
  obtain ⟨z4, hz4⟩ : ∃ z4, z4 = z3.alloc (.cells #[.int .i64 0, .slice none 0 0, .slice none 0 0, .int .i64 0] 24) := ⟨_, rfl⟩
  have HB : Hid (Car w1.heap.size w1 z4) := by unfold Hid; rw [hz4]; exact HB.out.step (below_alloc1 _ _)
  have HX4 : Hid (BoxA z4 z1.heap.size 0 0 (.slice none 0 0) (.slice none 0 0) ∧ z1.heap.size < z4.heap.size) := by unfold Hid; rw [hz4]; exact ⟨HX3.out.1.below (below_alloc1 _ _) HX3.out.2, Nat.lt_of_lt_of_le HX3.out.2 (by simp)⟩
  have HX5 : Hid (BoxA z4 z3.heap.size 0 0 (.slice none 0 0) (.slice none 0 0) ∧ z3.heap.size < z4.heap.size) := by unfold Hid; rw [hz4]; exact ⟨boxA_alloc z3 _ _ _ _, by simp⟩
  go_wp2_with fail
  rw [← hz4]
  clear hz4
  go_at_call 6
  refine (errA_one _ _ (HG.out _ HB.out)).mono ?_
  rintro e z5 ⟨rfl, hb⟩
  have HB : Hid (Car w1.heap.size w1 z5) := HB.out.step hb
  obtain ⟨b0, b1, b2, b3⟩ := HX4.out.1.below hb HX4.out.2
  obtain ⟨y0, y1, y2, y3⟩ := HX5.out.1.below hb HX5.out.2
  clear hb
  go_wp2_with fail
  go_at_call 15
  refine (atom_none _).mono ?_
  rintro e z6 ⟨rfl, hb⟩
  have HB : Hid (Car w1.heap.size w1 z6) := HB.out.step hb
  clear hb b0 b1 b2 b3 y0 y1 y2 y3
  go_wp2
  go_ret
  exact ⟨rfl, HW.out.1.trans (HB.out.1.mono (by have := HW.out.2; omega))⟩

set_option linter.unusedVariables false in
set_option maxHeartbeats 8000000 in
theorem atomTells_Wg (k n : Int) (sao tao : Option Addr) (ls lt scap tcap : Nat) (s t : List Int) (st : ByteArray) (u a b c : Int) (w : World) (hS : Reads w (.slice sao ls scap) s) (hT : Reads w (.slice tao lt tcap) t) (hz : st.size ≤ 1048576) (hK : KindsLaid w) (hL : LibLaid w) (hG : Laid w) (ha : atomFault k s t n = 0) (hok : ¬ (Wd.mk u a b c).ok = true) (hs : wordsFault (cutL st.data.toList) = 0) :
    Calls Tryz.prog 3 #[.agg #[.int .i64 k, .slice sao ls scap, .slice tao lt tcap, .int .i64 n], .agg #[.int .i64 u, .int .i64 a, .int .i64 b, .int .i64 c], .string st] w fun e w' => e = .returned (.bool true) ∧ Below w.heap.size w w' := by
  obtain ⟨w1, hw1⟩ : ∃ w1, w1 = (w.alloc (.cells #[.int .i64 k, .slice sao ls scap, .slice tao lt tcap, .int .i64 n] 24)).alloc (.cells #[.int .i64 u, .int .i64 a, .int .i64 b, .int .i64 c] 27) := ⟨_, rfl⟩
  have HB : Hid (Car w1.heap.size w1 w1) := ⟨Below.refl _ _, Nat.le_refl _⟩
  have HW : Hid (Below w.heap.size w w1 ∧ w.heap.size + 2 = w1.heap.size) := by
    refine ⟨?_, ?_⟩
    · rw [hw1]; exact (below_alloc1 _ _).trans ((below_alloc1 _ _).mono (by simp))
    · rw [hw1]; simp
  have HY : Hid (∀ W, Car w1.heap.size w1 W → (W.cell? ⟨w.heap.size, 0, none⟩ = some (.int .i64 k) ∧ W.cell? ⟨w.heap.size, 1, none⟩ = some (.slice sao ls scap) ∧ W.cell? ⟨w.heap.size, 2, none⟩ = some (.slice tao lt tcap) ∧ W.cell? ⟨w.heap.size, 3, none⟩ = some (.int .i64 n)) ∧ (W.cell? ⟨w.heap.size + 1, 0, none⟩ = some (.int .i64 u) ∧ W.cell? ⟨w.heap.size + 1, 1, none⟩ = some (.int .i64 a) ∧ W.cell? ⟨w.heap.size + 1, 2, none⟩ = some (.int .i64 b) ∧ W.cell? ⟨w.heap.size + 1, 3, none⟩ = some (.int .i64 c))) := fun W hc => by
    have l0 : w.heap.size < w1.heap.size := by have := HW.out.2; omega
    have l1 : w.heap.size + 1 < w1.heap.size := by have := HW.out.2; omega
    have e0 : ∀ j, W.cell? ⟨w.heap.size, j, none⟩ = w1.cell? ⟨w.heap.size, j, none⟩ := fun j => hc.1.cell (show (⟨w.heap.size, j, none⟩ : Addr).block < _ from l0)
    have e1 : ∀ j, W.cell? ⟨w.heap.size + 1, j, none⟩ = w1.cell? ⟨w.heap.size + 1, j, none⟩ := fun j => hc.1.cell (show (⟨w.heap.size + 1, j, none⟩ : Addr).block < _ from l1)
    simp only [e0, e1]
    rw [hw1]
    have q : w.heap.size + 1 = (w.alloc (.cells #[.int .i64 k, .slice sao ls scap, .slice tao lt tcap, .int .i64 n] 24)).heap.size := by simp
    have r : ∀ o j, ((w.alloc (.cells #[.int .i64 k, .slice sao ls scap, .slice tao lt tcap, .int .i64 n] 24)).alloc o).cell? ⟨w.heap.size, j, none⟩ = (w.alloc (.cells #[.int .i64 k, .slice sao ls scap, .slice tao lt tcap, .int .i64 n] 24)).cell? ⟨w.heap.size, j, none⟩ := fun o j => World.cell?_alloc_lt _ _ ⟨w.heap.size, j, none⟩ (by simp)
    simp only [r]
    rw [q]
    simp
  have HKd : Hid (∀ W, Car w1.heap.size w1 W → KindsLaid W ∧ LibLaid W) := fun W hc => ⟨(hK.below HW.out.1).below hc.1, (hL.below HW.out.1).below hc.1⟩
  have HG : Hid (∀ W, Car w1.heap.size w1 W → Laid W) := fun W hc => (hG.below HW.out.1).below hc.1
  have HRa : Hid (∀ W, Car w1.heap.size w1 W → Reads W (.slice sao ls scap) s ∧ Reads W (.slice tao lt tcap) t) := fun W hc => ⟨(hS.below HW.out.1).below hc.1, (hT.below HW.out.1).below hc.1⟩
  have HT : Hid (∀ W, Car w1.heap.size w1 W → Calls Tryz.prog 5 #[.agg #[.int .i64 k, .slice sao ls scap, .slice tao lt tcap, .int .i64 n]] W fun e w' => e = .returned (.int .i64 0) ∧ Below W.heap.size W w') := fun W hc => by
    have := refAtom_any k n (.slice sao ls scap) (.slice tao lt tcap) s t W (HRa.out W hc).1 (HRa.out W hc).2
    rw [ha] at this; exact this
  have HCk : Hid (∀ W, Car w1.heap.size w1 W → Calls Tryz.prog 7 #[.agg #[.int .i64 k, .slice sao ls scap, .slice tao lt tcap, .int .i64 n]] W fun e w' => e = .returned (.nilIface) ∧ Below W.heap.size W w') := fun W hc => by
    have := acheck_any k n (.slice sao ls scap) (.slice tao lt tcap) s t W (HRa.out W hc).1 (HRa.out W hc).2 (HKd.out W hc).1
    rw [ha] at this; exact this
  obtain ⟨P, hP⟩ : ∃ P, strOf (atomText k s t n) = P := ⟨_, rfl⟩
  have HTx : Hid (∀ W, Car w1.heap.size w1 W → Calls Tryz.prog 8 #[.agg #[.int .i64 k, .slice sao ls scap, .slice tao lt tcap, .int .i64 n]] W fun e w' => e = .returned (.string P) ∧ Below W.heap.size W w') := fun W hc => by
    rw [← hP]; exact refAtomText_any k n (.slice sao ls scap) (.slice tao lt tcap) s t ha W (HRa.out W hc).1 (HRa.out W hc).2
  have HPr : Hid (∀ W, Car w1.heap.size w1 W → Calls Tryz.prog 9 #[.agg #[.int .i64 k, .slice sao ls scap, .slice tao lt tcap, .int .i64 n]] W fun e w' => e = .returned (.tuple #[.string P, .nilIface]) ∧ Below W.heap.size W w') := fun W hc => by
    exact aprint_text k n (.slice sao ls scap) (.slice tao lt tcap) s t P ha hP W (HRa.out W hc).1 (HRa.out W hc).2 (HKd.out W hc).1 (HKd.out W hc).2
  have HWo : Hid (∀ W, Car w1.heap.size w1 W → Calls Tryz.prog 10 #[.agg #[.int .i64 u, .int .i64 a, .int .i64 b, .int .i64 c]] W fun e w' => e = .returned (.int .i64 1) ∧ Below W.heap.size W w') := fun W hc => by
    have := refWorld_any u a b c W
    rw [if_neg hok] at this; exact this
  have HVa : Hid (∀ W, Car w1.heap.size w1 W → Calls Tryz.prog 12 #[.agg #[.int .i64 k, .slice sao ls scap, .slice tao lt tcap, .int .i64 n], .agg #[.int .i64 u, .int .i64 a, .int .i64 b, .int .i64 c]] W fun e w' => e = .returned (.tuple #[.bool false, .iface 51 (.int .i64 1)]) ∧ Below W.heap.size W w') := fun W hc => by
    have e1 : (Wd.mk u a b c).holdsFault k s t n = 1 := by unfold Wd.holdsFault; rw [if_pos ha, if_neg hok]
    have := holds_none k n (.slice sao ls scap) (.slice tao lt tcap) s t u a b c (by rw [e1]; decide) W (HRa.out W hc).1 (HRa.out W hc).2 (HKd.out W hc).1
    rw [e1] at this; exact this
  clear ha hok hP
  have hsn := seen_good hs
  obtain ⟨kx, hkx⟩ : ∃ kx, wordsKind (cutL st.data.toList) = kx := ⟨_, rfl⟩
  obtain ⟨nx, hnx⟩ : ∃ nx, wordsN kx (cutL st.data.toList) = nx := ⟨_, rfl⟩
  obtain ⟨px, hpx⟩ : ∃ px, wordsS (cutL st.data.toList) = px := ⟨_, rfl⟩
  obtain ⟨qx, hqx⟩ : ∃ qx, wordsT kx (cutL st.data.toList) = qx := ⟨_, rfl⟩
  have HRe : Hid (∀ W, _) := fun W => readAtom_good st hz hs hkx hpx hqx hnx W
  have HPs : Hid (∀ W, Car w1.heap.size w1 W → _) := fun W hc => aparse_good st (by omega) (k := kx) (n := nx) (p := px) (q := qx) (by rw [hsn]; exact hs) (by rw [hsn]; exact hkx) (by rw [hsn]; exact hpx) (by rw [hsn]; exact hqx) (by rw [hsn]; exact hnx) W (HKd.out W hc).1 (HKd.out W hc).2
  obtain ⟨lpx, hlpx⟩ : ∃ lpx, px.length = lpx := ⟨_, rfl⟩
  obtain ⟨lqx, hlqx⟩ : ∃ lqx, qx.length = lqx := ⟨_, rfl⟩
  rw [hlpx, hlqx] at HPs HRe
  clear hkx hnx hpx hqx hlpx hlqx hs hsn hz
  clear hS hT hK hL hG
  obtain ⟨⟨a0x, a1x, a2x, a3x⟩, ⟨w0x, w1x, w2x, w3x⟩⟩ := HY.out w1 HB.out
  go_enter Tryz.func3, Tryz.ntmps3
  go_wp2_with fail
  rw [← hw1]
  clear hw1
  go_at_call 5
  refine (HT.out _ HB.out).mono ?_
  rintro e w' ⟨rfl, hb⟩
  have HB : Hid (Car w1.heap.size w1 _) := HB.out.step hb
  clear hb
  clear a0x a1x a2x a3x w0x w1x w2x w3x
  obtain ⟨⟨a0x, a1x, a2x, a3x⟩, ⟨w0x, w1x, w2x, w3x⟩⟩ := HY.out _ HB.out
  go_wp2_with fail
  go_at_call 7
  refine (HCk.out _ HB.out).mono ?_
  rintro e w' ⟨rfl, hb⟩
  have HB : Hid (Car w1.heap.size w1 _) := HB.out.step hb
  clear hb
  clear a0x a1x a2x a3x w0x w1x w2x w3x
  go_wp2_with fail
  go_at_call 6
  refine (errA_nil _).mono ?_
  rintro e w' ⟨rfl, rfl⟩
  obtain ⟨⟨a0x, a1x, a2x, a3x⟩, ⟨w0x, w1x, w2x, w3x⟩⟩ := HY.out _ HB.out
  go_wp2_with fail
  go_at_call 8
  refine (HTx.out _ HB.out).mono ?_
  rintro e w' ⟨rfl, hb⟩
  have HB : Hid (Car w1.heap.size w1 _) := HB.out.step hb
  clear hb
  clear a0x a1x a2x a3x w0x w1x w2x w3x
  obtain ⟨⟨a0x, a1x, a2x, a3x⟩, ⟨w0x, w1x, w2x, w3x⟩⟩ := HY.out _ HB.out
  go_wp2_with fail
  go_at_call 9
  refine (HPr.out _ HB.out).mono ?_
  rintro e w' ⟨rfl, hb⟩
  have HB : Hid (Car w1.heap.size w1 _) := HB.out.step hb
  clear hb
  clear a0x a1x a2x a3x w0x w1x w2x w3x
  go_wp2_with fail
  go_at_call 6
  refine (errA_nil _).mono ?_
  rintro e w' ⟨rfl, rfl⟩
  obtain ⟨⟨a0x, a1x, a2x, a3x⟩, ⟨w0x, w1x, w2x, w3x⟩⟩ := HY.out _ HB.out
  go_wp2_with fail
  go_at_call 10
  refine (HWo.out _ HB.out).mono ?_
  rintro e w' ⟨rfl, hb⟩
  have HB : Hid (Car w1.heap.size w1 _) := HB.out.step hb
  clear hb
  clear a0x a1x a2x a3x w0x w1x w2x w3x
  obtain ⟨⟨a0x, a1x, a2x, a3x⟩, ⟨w0x, w1x, w2x, w3x⟩⟩ := HY.out _ HB.out
  go_wp2_with fail
  go_at_call 12
  refine (HVa.out _ HB.out).mono ?_
  rintro e w' ⟨rfl, hb⟩
  have HB : Hid (Car w1.heap.size w1 _) := HB.out.step hb
  clear hb
  clear a0x a1x a2x a3x w0x w1x w2x w3x
  go_wp2_with fail
  go_at_call 6
  refine (errA_one _ _ (HG.out _ HB.out)).mono ?_
  rintro e w' ⟨rfl, hb⟩
  have HB : Hid (Car w1.heap.size w1 _) := HB.out.step hb
  clear hb
  go_wp2_with fail
  go_at_call 13
  refine (HRe.out _).mono ?_
  rintro e z1 ⟨g0, g1, g2, g3, rfl, r0, r1, hb⟩
  have HB : Hid (Car w1.heap.size w1 z1) := HB.out.step hb
  clear hb
  obtain ⟨z2, hz2⟩ : ∃ z2, z2 = z1.alloc (.cells #[.int .i64 kx, .slice g0 lpx g1, .slice g2 lqx g3, .int .i64 nx] 24) := ⟨_, rfl⟩
  have HB : Hid (Car w1.heap.size w1 z2) := by unfold Hid; rw [hz2]; exact HB.out.step (below_alloc1 _ _)
  have HX2 : Hid (BoxA z2 z1.heap.size kx nx (.slice g0 lpx g1) (.slice g2 lqx g3) ∧ z1.heap.size < z2.heap.size) := by unfold Hid; rw [hz2]; exact ⟨boxA_alloc z1 _ _ _ _, by simp⟩
  have HR2 : Hid (Reads z2 (.slice g0 lpx g1) px ∧ Reads z2 (.slice g2 lqx g3) qx) := by unfold Hid; rw [hz2]; exact ⟨r0.below (below_alloc1 _ _), r1.below (below_alloc1 _ _)⟩
  clear r0 r1
  go_wp2_with fail
  rw [← hz2]
  clear hz2
  go_at_call 14
  refine (HPs.out _ HB.out).mono ?_
  rintro e z3 ⟨f0, f1, f2, f3, rfl, r2, r3, hb⟩
  have HB : Hid (Car w1.heap.size w1 z3) := HB.out.step hb
  have HX3 : Hid (BoxA z3 z1.heap.size kx nx (.slice g0 lpx g1) (.slice g2 lqx g3) ∧ z1.heap.size < z3.heap.size) := ⟨HX2.out.1.below hb HX2.out.2, Nat.lt_of_lt_of_le HX2.out.2 hb.size⟩
  have HR3 : Hid (Reads z3 (.slice g0 lpx g1) px ∧ Reads z3 (.slice g2 lqx g3) qx) := ⟨HR2.out.1.below hb, HR2.out.2.below hb⟩
  have HR4 : Hid (Reads z3 (.slice f0 lpx f1) px ∧ Reads z3 (.slice f2 lqx f3) qx) := ⟨r2, r3⟩
  clear r2 r3
  clear hb
  obtain ⟨z4, hz4⟩ : ∃ z4, z4 = z3.alloc (.cells #[.int .i64 kx, .slice f0 lpx f1, .slice f2 lqx f3, .int .i64 nx] 24) := ⟨_, rfl⟩
  have HB : Hid (Car w1.heap.size w1 z4) := by unfold Hid; rw [hz4]; exact HB.out.step (below_alloc1 _ _)
  have HX4 : Hid (BoxA z4 z1.heap.size kx nx (.slice g0 lpx g1) (.slice g2 lqx g3) ∧ z1.heap.size < z4.heap.size) := by unfold Hid; rw [hz4]; exact ⟨HX3.out.1.below (below_alloc1 _ _) HX3.out.2, Nat.lt_of_lt_of_le HX3.out.2 (by simp)⟩
  have HX5 : Hid (BoxA z4 z3.heap.size kx nx (.slice f0 lpx f1) (.slice f2 lqx f3) ∧ z3.heap.size < z4.heap.size) := by unfold Hid; rw [hz4]; exact ⟨boxA_alloc z3 _ _ _ _, by simp⟩
  have HR5 : Hid ((Reads z4 (.slice g0 lpx g1) px ∧ Reads z4 (.slice g2 lqx g3) qx) ∧ (Reads z4 (.slice f0 lpx f1) px ∧ Reads z4 (.slice f2 lqx f3) qx)) := by unfold Hid; rw [hz4]; exact ⟨⟨HR3.out.1.below (below_alloc1 _ _), HR3.out.2.below (below_alloc1 _ _)⟩, ⟨HR4.out.1.below (below_alloc1 _ _), HR4.out.2.below (below_alloc1 _ _)⟩⟩
  go_wp2_with fail
  rw [← hz4]
  clear hz4
  go_at_call 6
  refine (errA_nil _).mono ?_
  rintro e z5 ⟨rfl, rfl⟩
  obtain ⟨b0, b1, b2, b3⟩ := HX4.out.1
  obtain ⟨y0, y1, y2, y3⟩ := HX5.out.1
  go_wp2_with fail
  go_at_call 15
  refine (atom_same kx nx (.slice f0 lpx f1) (.slice f2 lqx f3) (.slice g0 lpx g1) (.slice g2 lqx g3) px qx _ HR5.out.2.1 HR5.out.2.2 HR5.out.1.1 HR5.out.1.2).mono ?_
  rintro e z6 ⟨rfl, hb⟩
  have HB : Hid (Car w1.heap.size w1 z6) := HB.out.step hb
  clear hb b0 b1 b2 b3 y0 y1 y2 y3
  go_wp2
  go_ret
  exact ⟨rfl, HW.out.1.trans (HB.out.1.mono (by have := HW.out.2; omega))⟩

end Go.Proofs.YtenmheenieifpabGreatDoor

namespace Go.Proofs.YtenmheenieifpabGreatDoor
open Go.ChangeShapes Go.WideShapes Go.ChangeAt Go.RowKit
set_option maxRecDepth 100000

set_option linter.unusedVariables false in
set_option maxHeartbeats 8000000 in
theorem atomTells_Gb (k n : Int) (sao tao : Option Addr) (ls lt scap tcap : Nat) (s t : List Int) (st : ByteArray) (u a b c : Int) (w : World) (hS : Reads w (.slice sao ls scap) s) (hT : Reads w (.slice tao lt tcap) t) (hz : st.size ≤ 1048576) (hK : KindsLaid w) (hL : LibLaid w) (hG : Laid w) (ha : atomFault k s t n = 0) (hok : (Wd.mk u a b c).ok = true) (hs : ¬ wordsFault (cutL st.data.toList) = 0) :
    Calls Tryz.prog 3 #[.agg #[.int .i64 k, .slice sao ls scap, .slice tao lt tcap, .int .i64 n], .agg #[.int .i64 u, .int .i64 a, .int .i64 b, .int .i64 c], .string st] w fun e w' => e = .returned (.bool true) ∧ Below w.heap.size w w' := by
  obtain ⟨w1, hw1⟩ : ∃ w1, w1 = (w.alloc (.cells #[.int .i64 k, .slice sao ls scap, .slice tao lt tcap, .int .i64 n] 24)).alloc (.cells #[.int .i64 u, .int .i64 a, .int .i64 b, .int .i64 c] 27) := ⟨_, rfl⟩
  have HB : Hid (Car w1.heap.size w1 w1) := ⟨Below.refl _ _, Nat.le_refl _⟩
  have HW : Hid (Below w.heap.size w w1 ∧ w.heap.size + 2 = w1.heap.size) := by
    refine ⟨?_, ?_⟩
    · rw [hw1]; exact (below_alloc1 _ _).trans ((below_alloc1 _ _).mono (by simp))
    · rw [hw1]; simp
  have HY : Hid (∀ W, Car w1.heap.size w1 W → (W.cell? ⟨w.heap.size, 0, none⟩ = some (.int .i64 k) ∧ W.cell? ⟨w.heap.size, 1, none⟩ = some (.slice sao ls scap) ∧ W.cell? ⟨w.heap.size, 2, none⟩ = some (.slice tao lt tcap) ∧ W.cell? ⟨w.heap.size, 3, none⟩ = some (.int .i64 n)) ∧ (W.cell? ⟨w.heap.size + 1, 0, none⟩ = some (.int .i64 u) ∧ W.cell? ⟨w.heap.size + 1, 1, none⟩ = some (.int .i64 a) ∧ W.cell? ⟨w.heap.size + 1, 2, none⟩ = some (.int .i64 b) ∧ W.cell? ⟨w.heap.size + 1, 3, none⟩ = some (.int .i64 c))) := fun W hc => by
    have l0 : w.heap.size < w1.heap.size := by have := HW.out.2; omega
    have l1 : w.heap.size + 1 < w1.heap.size := by have := HW.out.2; omega
    have e0 : ∀ j, W.cell? ⟨w.heap.size, j, none⟩ = w1.cell? ⟨w.heap.size, j, none⟩ := fun j => hc.1.cell (show (⟨w.heap.size, j, none⟩ : Addr).block < _ from l0)
    have e1 : ∀ j, W.cell? ⟨w.heap.size + 1, j, none⟩ = w1.cell? ⟨w.heap.size + 1, j, none⟩ := fun j => hc.1.cell (show (⟨w.heap.size + 1, j, none⟩ : Addr).block < _ from l1)
    simp only [e0, e1]
    rw [hw1]
    have q : w.heap.size + 1 = (w.alloc (.cells #[.int .i64 k, .slice sao ls scap, .slice tao lt tcap, .int .i64 n] 24)).heap.size := by simp
    have r : ∀ o j, ((w.alloc (.cells #[.int .i64 k, .slice sao ls scap, .slice tao lt tcap, .int .i64 n] 24)).alloc o).cell? ⟨w.heap.size, j, none⟩ = (w.alloc (.cells #[.int .i64 k, .slice sao ls scap, .slice tao lt tcap, .int .i64 n] 24)).cell? ⟨w.heap.size, j, none⟩ := fun o j => World.cell?_alloc_lt _ _ ⟨w.heap.size, j, none⟩ (by simp)
    simp only [r]
    rw [q]
    simp
  have HKd : Hid (∀ W, Car w1.heap.size w1 W → KindsLaid W ∧ LibLaid W) := fun W hc => ⟨(hK.below HW.out.1).below hc.1, (hL.below HW.out.1).below hc.1⟩
  have HG : Hid (∀ W, Car w1.heap.size w1 W → Laid W) := fun W hc => (hG.below HW.out.1).below hc.1
  have HRa : Hid (∀ W, Car w1.heap.size w1 W → Reads W (.slice sao ls scap) s ∧ Reads W (.slice tao lt tcap) t) := fun W hc => ⟨(hS.below HW.out.1).below hc.1, (hT.below HW.out.1).below hc.1⟩
  have HT : Hid (∀ W, Car w1.heap.size w1 W → Calls Tryz.prog 5 #[.agg #[.int .i64 k, .slice sao ls scap, .slice tao lt tcap, .int .i64 n]] W fun e w' => e = .returned (.int .i64 0) ∧ Below W.heap.size W w') := fun W hc => by
    have := refAtom_any k n (.slice sao ls scap) (.slice tao lt tcap) s t W (HRa.out W hc).1 (HRa.out W hc).2
    rw [ha] at this; exact this
  have HCk : Hid (∀ W, Car w1.heap.size w1 W → Calls Tryz.prog 7 #[.agg #[.int .i64 k, .slice sao ls scap, .slice tao lt tcap, .int .i64 n]] W fun e w' => e = .returned (.nilIface) ∧ Below W.heap.size W w') := fun W hc => by
    have := acheck_any k n (.slice sao ls scap) (.slice tao lt tcap) s t W (HRa.out W hc).1 (HRa.out W hc).2 (HKd.out W hc).1
    rw [ha] at this; exact this
  obtain ⟨P, hP⟩ : ∃ P, strOf (atomText k s t n) = P := ⟨_, rfl⟩
  have HTx : Hid (∀ W, Car w1.heap.size w1 W → Calls Tryz.prog 8 #[.agg #[.int .i64 k, .slice sao ls scap, .slice tao lt tcap, .int .i64 n]] W fun e w' => e = .returned (.string P) ∧ Below W.heap.size W w') := fun W hc => by
    rw [← hP]; exact refAtomText_any k n (.slice sao ls scap) (.slice tao lt tcap) s t ha W (HRa.out W hc).1 (HRa.out W hc).2
  have HPr : Hid (∀ W, Car w1.heap.size w1 W → Calls Tryz.prog 9 #[.agg #[.int .i64 k, .slice sao ls scap, .slice tao lt tcap, .int .i64 n]] W fun e w' => e = .returned (.tuple #[.string P, .nilIface]) ∧ Below W.heap.size W w') := fun W hc => by
    exact aprint_text k n (.slice sao ls scap) (.slice tao lt tcap) s t P ha hP W (HRa.out W hc).1 (HRa.out W hc).2 (HKd.out W hc).1 (HKd.out W hc).2
  have HWo : Hid (∀ W, Car w1.heap.size w1 W → Calls Tryz.prog 10 #[.agg #[.int .i64 u, .int .i64 a, .int .i64 b, .int .i64 c]] W fun e w' => e = .returned (.int .i64 0) ∧ Below W.heap.size W w') := fun W hc => by
    have := refWorld_any u a b c W
    rw [if_pos hok] at this; exact this
  obtain ⟨A, hA⟩ : ∃ A, (Wd.mk u a b c).holds k s t n = A := ⟨_, rfl⟩
  have HRh : Hid (∀ W, Car w1.heap.size w1 W → Calls Tryz.prog 11 #[.agg #[.int .i64 k, .slice sao ls scap, .slice tao lt tcap, .int .i64 n], .agg #[.int .i64 u, .int .i64 a, .int .i64 b, .int .i64 c]] W fun e w' => e = .returned (.bool A) ∧ Below W.heap.size W w') := fun W hc => by
    rw [← hA]; exact refHolds_any k n (.slice sao ls scap) (.slice tao lt tcap) s t u a b c ha hok W (HRa.out W hc).1 (HRa.out W hc).2
  have HVa : Hid (∀ W, Car w1.heap.size w1 W → Calls Tryz.prog 12 #[.agg #[.int .i64 k, .slice sao ls scap, .slice tao lt tcap, .int .i64 n], .agg #[.int .i64 u, .int .i64 a, .int .i64 b, .int .i64 c]] W fun e w' => e = .returned (.tuple #[.bool A, .nilIface]) ∧ Below W.heap.size W w') := fun W hc => by
    exact holds_good k n (.slice sao ls scap) (.slice tao lt tcap) s t u a b c A hok ha hA W (HRa.out W hc).1 (HRa.out W hc).2 (HKd.out W hc).1
  clear ha hok hP hA
  have HRe : Hid (∀ W, Calls Tryz.prog 13 #[.string st] W fun e w' => e = .returned (.tuple #[.agg #[.int .i64 0, .slice none 0 0, .slice none 0 0, .int .i64 0], .int .i64 (wordsFault (cutL st.data.toList))]) ∧ Below W.heap.size W w') := fun W => readAtom_bad st hz hs W
  have HPs : Hid (∀ W, Car w1.heap.size w1 W → Calls Tryz.prog 14 #[.string st] W fun e w' => e = .returned (.tuple #[.agg #[.int .i64 0, .slice none 0 0, .slice none 0 0, .int .i64 0], .iface 51 (.int .i64 (wordsFault (cutL st.data.toList)))]) ∧ Below W.heap.size W w') := fun W hc => by
    have := aparse_none st (by omega) (by rw [seen_fault]; exact hs) W (HKd.out W hc).1 (HKd.out W hc).2
    rw [seen_fault] at this; exact this
  obtain ⟨Fs, hFs⟩ : ∃ Fs, Fs = wordsFault (cutL st.data.toList) := ⟨_, rfl⟩
  rw [← hFs] at HRe HPs
  clear hFs hs hz
  clear hS hT hK hL hG
  obtain ⟨⟨a0x, a1x, a2x, a3x⟩, ⟨w0x, w1x, w2x, w3x⟩⟩ := HY.out w1 HB.out
  go_enter Tryz.func3, Tryz.ntmps3
  go_wp2_with fail
  rw [← hw1]
  clear hw1
  go_at_call 5
  refine (HT.out _ HB.out).mono ?_
  rintro e w' ⟨rfl, hb⟩
  have HB : Hid (Car w1.heap.size w1 _) := HB.out.step hb
  clear hb
  clear a0x a1x a2x a3x w0x w1x w2x w3x
  obtain ⟨⟨a0x, a1x, a2x, a3x⟩, ⟨w0x, w1x, w2x, w3x⟩⟩ := HY.out _ HB.out
  go_wp2_with fail
  go_at_call 7
  refine (HCk.out _ HB.out).mono ?_
  rintro e w' ⟨rfl, hb⟩
  have HB : Hid (Car w1.heap.size w1 _) := HB.out.step hb
  clear hb
  clear a0x a1x a2x a3x w0x w1x w2x w3x
  go_wp2_with fail
  go_at_call 6
  refine (errA_nil _).mono ?_
  rintro e w' ⟨rfl, rfl⟩
  obtain ⟨⟨a0x, a1x, a2x, a3x⟩, ⟨w0x, w1x, w2x, w3x⟩⟩ := HY.out _ HB.out
  go_wp2_with fail
  go_at_call 8
  refine (HTx.out _ HB.out).mono ?_
  rintro e w' ⟨rfl, hb⟩
  have HB : Hid (Car w1.heap.size w1 _) := HB.out.step hb
  clear hb
  clear a0x a1x a2x a3x w0x w1x w2x w3x
  obtain ⟨⟨a0x, a1x, a2x, a3x⟩, ⟨w0x, w1x, w2x, w3x⟩⟩ := HY.out _ HB.out
  go_wp2_with fail
  go_at_call 9
  refine (HPr.out _ HB.out).mono ?_
  rintro e w' ⟨rfl, hb⟩
  have HB : Hid (Car w1.heap.size w1 _) := HB.out.step hb
  clear hb
  clear a0x a1x a2x a3x w0x w1x w2x w3x
  go_wp2_with fail
  go_at_call 6
  refine (errA_nil _).mono ?_
  rintro e w' ⟨rfl, rfl⟩
  obtain ⟨⟨a0x, a1x, a2x, a3x⟩, ⟨w0x, w1x, w2x, w3x⟩⟩ := HY.out _ HB.out
  go_wp2_with fail
  go_at_call 10
  refine (HWo.out _ HB.out).mono ?_
  rintro e w' ⟨rfl, hb⟩
  have HB : Hid (Car w1.heap.size w1 _) := HB.out.step hb
  clear hb
  clear a0x a1x a2x a3x w0x w1x w2x w3x
  obtain ⟨⟨a0x, a1x, a2x, a3x⟩, ⟨w0x, w1x, w2x, w3x⟩⟩ := HY.out _ HB.out
  go_wp2_with fail
  go_at_call 11
  refine (HRh.out _ HB.out).mono ?_
  rintro e w' ⟨rfl, hb⟩
  have HB : Hid (Car w1.heap.size w1 _) := HB.out.step hb
  clear hb
  clear a0x a1x a2x a3x w0x w1x w2x w3x
  obtain ⟨⟨a0x, a1x, a2x, a3x⟩, ⟨w0x, w1x, w2x, w3x⟩⟩ := HY.out _ HB.out
  go_wp2_with fail
  go_at_call 12
  refine (HVa.out _ HB.out).mono ?_
  rintro e w' ⟨rfl, hb⟩
  have HB : Hid (Car w1.heap.size w1 _) := HB.out.step hb
  clear hb
  clear a0x a1x a2x a3x w0x w1x w2x w3x
  go_wp2_with fail
  go_at_call 6
  refine (errA_nil _).mono ?_
  rintro e w' ⟨rfl, rfl⟩
  go_wp2_with fail
  go_at_call 13
  refine (HRe.out _).mono ?_
  rintro e z1 ⟨rfl, hb⟩
  have HB : Hid (Car w1.heap.size w1 z1) := HB.out.step hb
  clear hb
  obtain ⟨z2, hz2⟩ : ∃ z2, z2 = z1.alloc (.cells #[.int .i64 0, .slice none 0 0, .slice none 0 0, .int .i64 0] 24) := ⟨_, rfl⟩
  have HB : Hid (Car w1.heap.size w1 z2) := by unfold Hid; rw [hz2]; exact HB.out.step (below_alloc1 _ _)
  have HX2 : Hid (BoxA z2 z1.heap.size 0 0 (.slice none 0 0) (.slice none 0 0) ∧ z1.heap.size < z2.heap.size) := by unfold Hid; rw [hz2]; exact ⟨boxA_alloc z1 _ _ _ _, by simp⟩
  go_wp2_with fail
  rw [← hz2]
  clear hz2
  go_at_call 14
  refine (HPs.out _ HB.out).mono ?_
  rintro e z3 ⟨rfl, hb⟩
  have HB : Hid (Car w1.heap.size w1 z3) := HB.out.step hb
  have HX3 : Hid (BoxA z3 z1.heap.size 0 0 (.slice none 0 0) (.slice none 0 0) ∧ z1.heap.size < z3.heap.size) := ⟨HX2.out.1.below hb HX2.out.2, Nat.lt_of_lt_of_le HX2.out.2 hb.size⟩
  clear hb
  obtain ⟨z4, hz4⟩ : ∃ z4, z4 = z3.alloc (.cells #[.int .i64 0, .slice none 0 0, .slice none 0 0, .int .i64 0] 24) := ⟨_, rfl⟩
  have HB : Hid (Car w1.heap.size w1 z4) := by unfold Hid; rw [hz4]; exact HB.out.step (below_alloc1 _ _)
  have HX4 : Hid (BoxA z4 z1.heap.size 0 0 (.slice none 0 0) (.slice none 0 0) ∧ z1.heap.size < z4.heap.size) := by unfold Hid; rw [hz4]; exact ⟨HX3.out.1.below (below_alloc1 _ _) HX3.out.2, Nat.lt_of_lt_of_le HX3.out.2 (by simp)⟩
  have HX5 : Hid (BoxA z4 z3.heap.size 0 0 (.slice none 0 0) (.slice none 0 0) ∧ z3.heap.size < z4.heap.size) := by unfold Hid; rw [hz4]; exact ⟨boxA_alloc z3 _ _ _ _, by simp⟩
  go_wp2_with fail
  rw [← hz4]
  clear hz4
  go_at_call 6
  refine (errA_one _ _ (HG.out _ HB.out)).mono ?_
  rintro e z5 ⟨rfl, hb⟩
  have HB : Hid (Car w1.heap.size w1 z5) := HB.out.step hb
  obtain ⟨b0, b1, b2, b3⟩ := HX4.out.1.below hb HX4.out.2
  obtain ⟨y0, y1, y2, y3⟩ := HX5.out.1.below hb HX5.out.2
  clear hb
  go_wp2_with fail
  go_at_call 15
  refine (atom_none _).mono ?_
  rintro e z6 ⟨rfl, hb⟩
  have HB : Hid (Car w1.heap.size w1 z6) := HB.out.step hb
  clear hb b0 b1 b2 b3 y0 y1 y2 y3
  go_wp2
  go_ret
  exact ⟨rfl, HW.out.1.trans (HB.out.1.mono (by have := HW.out.2; omega))⟩

set_option linter.unusedVariables false in
set_option maxHeartbeats 8000000 in
theorem atomTells_Gg (k n : Int) (sao tao : Option Addr) (ls lt scap tcap : Nat) (s t : List Int) (st : ByteArray) (u a b c : Int) (w : World) (hS : Reads w (.slice sao ls scap) s) (hT : Reads w (.slice tao lt tcap) t) (hz : st.size ≤ 1048576) (hK : KindsLaid w) (hL : LibLaid w) (hG : Laid w) (ha : atomFault k s t n = 0) (hok : (Wd.mk u a b c).ok = true) (hs : wordsFault (cutL st.data.toList) = 0) :
    Calls Tryz.prog 3 #[.agg #[.int .i64 k, .slice sao ls scap, .slice tao lt tcap, .int .i64 n], .agg #[.int .i64 u, .int .i64 a, .int .i64 b, .int .i64 c], .string st] w fun e w' => e = .returned (.bool true) ∧ Below w.heap.size w w' := by
  obtain ⟨w1, hw1⟩ : ∃ w1, w1 = (w.alloc (.cells #[.int .i64 k, .slice sao ls scap, .slice tao lt tcap, .int .i64 n] 24)).alloc (.cells #[.int .i64 u, .int .i64 a, .int .i64 b, .int .i64 c] 27) := ⟨_, rfl⟩
  have HB : Hid (Car w1.heap.size w1 w1) := ⟨Below.refl _ _, Nat.le_refl _⟩
  have HW : Hid (Below w.heap.size w w1 ∧ w.heap.size + 2 = w1.heap.size) := by
    refine ⟨?_, ?_⟩
    · rw [hw1]; exact (below_alloc1 _ _).trans ((below_alloc1 _ _).mono (by simp))
    · rw [hw1]; simp
  have HY : Hid (∀ W, Car w1.heap.size w1 W → (W.cell? ⟨w.heap.size, 0, none⟩ = some (.int .i64 k) ∧ W.cell? ⟨w.heap.size, 1, none⟩ = some (.slice sao ls scap) ∧ W.cell? ⟨w.heap.size, 2, none⟩ = some (.slice tao lt tcap) ∧ W.cell? ⟨w.heap.size, 3, none⟩ = some (.int .i64 n)) ∧ (W.cell? ⟨w.heap.size + 1, 0, none⟩ = some (.int .i64 u) ∧ W.cell? ⟨w.heap.size + 1, 1, none⟩ = some (.int .i64 a) ∧ W.cell? ⟨w.heap.size + 1, 2, none⟩ = some (.int .i64 b) ∧ W.cell? ⟨w.heap.size + 1, 3, none⟩ = some (.int .i64 c))) := fun W hc => by
    have l0 : w.heap.size < w1.heap.size := by have := HW.out.2; omega
    have l1 : w.heap.size + 1 < w1.heap.size := by have := HW.out.2; omega
    have e0 : ∀ j, W.cell? ⟨w.heap.size, j, none⟩ = w1.cell? ⟨w.heap.size, j, none⟩ := fun j => hc.1.cell (show (⟨w.heap.size, j, none⟩ : Addr).block < _ from l0)
    have e1 : ∀ j, W.cell? ⟨w.heap.size + 1, j, none⟩ = w1.cell? ⟨w.heap.size + 1, j, none⟩ := fun j => hc.1.cell (show (⟨w.heap.size + 1, j, none⟩ : Addr).block < _ from l1)
    simp only [e0, e1]
    rw [hw1]
    have q : w.heap.size + 1 = (w.alloc (.cells #[.int .i64 k, .slice sao ls scap, .slice tao lt tcap, .int .i64 n] 24)).heap.size := by simp
    have r : ∀ o j, ((w.alloc (.cells #[.int .i64 k, .slice sao ls scap, .slice tao lt tcap, .int .i64 n] 24)).alloc o).cell? ⟨w.heap.size, j, none⟩ = (w.alloc (.cells #[.int .i64 k, .slice sao ls scap, .slice tao lt tcap, .int .i64 n] 24)).cell? ⟨w.heap.size, j, none⟩ := fun o j => World.cell?_alloc_lt _ _ ⟨w.heap.size, j, none⟩ (by simp)
    simp only [r]
    rw [q]
    simp
  have HKd : Hid (∀ W, Car w1.heap.size w1 W → KindsLaid W ∧ LibLaid W) := fun W hc => ⟨(hK.below HW.out.1).below hc.1, (hL.below HW.out.1).below hc.1⟩
  have HG : Hid (∀ W, Car w1.heap.size w1 W → Laid W) := fun W hc => (hG.below HW.out.1).below hc.1
  have HRa : Hid (∀ W, Car w1.heap.size w1 W → Reads W (.slice sao ls scap) s ∧ Reads W (.slice tao lt tcap) t) := fun W hc => ⟨(hS.below HW.out.1).below hc.1, (hT.below HW.out.1).below hc.1⟩
  have HT : Hid (∀ W, Car w1.heap.size w1 W → Calls Tryz.prog 5 #[.agg #[.int .i64 k, .slice sao ls scap, .slice tao lt tcap, .int .i64 n]] W fun e w' => e = .returned (.int .i64 0) ∧ Below W.heap.size W w') := fun W hc => by
    have := refAtom_any k n (.slice sao ls scap) (.slice tao lt tcap) s t W (HRa.out W hc).1 (HRa.out W hc).2
    rw [ha] at this; exact this
  have HCk : Hid (∀ W, Car w1.heap.size w1 W → Calls Tryz.prog 7 #[.agg #[.int .i64 k, .slice sao ls scap, .slice tao lt tcap, .int .i64 n]] W fun e w' => e = .returned (.nilIface) ∧ Below W.heap.size W w') := fun W hc => by
    have := acheck_any k n (.slice sao ls scap) (.slice tao lt tcap) s t W (HRa.out W hc).1 (HRa.out W hc).2 (HKd.out W hc).1
    rw [ha] at this; exact this
  obtain ⟨P, hP⟩ : ∃ P, strOf (atomText k s t n) = P := ⟨_, rfl⟩
  have HTx : Hid (∀ W, Car w1.heap.size w1 W → Calls Tryz.prog 8 #[.agg #[.int .i64 k, .slice sao ls scap, .slice tao lt tcap, .int .i64 n]] W fun e w' => e = .returned (.string P) ∧ Below W.heap.size W w') := fun W hc => by
    rw [← hP]; exact refAtomText_any k n (.slice sao ls scap) (.slice tao lt tcap) s t ha W (HRa.out W hc).1 (HRa.out W hc).2
  have HPr : Hid (∀ W, Car w1.heap.size w1 W → Calls Tryz.prog 9 #[.agg #[.int .i64 k, .slice sao ls scap, .slice tao lt tcap, .int .i64 n]] W fun e w' => e = .returned (.tuple #[.string P, .nilIface]) ∧ Below W.heap.size W w') := fun W hc => by
    exact aprint_text k n (.slice sao ls scap) (.slice tao lt tcap) s t P ha hP W (HRa.out W hc).1 (HRa.out W hc).2 (HKd.out W hc).1 (HKd.out W hc).2
  have HWo : Hid (∀ W, Car w1.heap.size w1 W → Calls Tryz.prog 10 #[.agg #[.int .i64 u, .int .i64 a, .int .i64 b, .int .i64 c]] W fun e w' => e = .returned (.int .i64 0) ∧ Below W.heap.size W w') := fun W hc => by
    have := refWorld_any u a b c W
    rw [if_pos hok] at this; exact this
  obtain ⟨A, hA⟩ : ∃ A, (Wd.mk u a b c).holds k s t n = A := ⟨_, rfl⟩
  have HRh : Hid (∀ W, Car w1.heap.size w1 W → Calls Tryz.prog 11 #[.agg #[.int .i64 k, .slice sao ls scap, .slice tao lt tcap, .int .i64 n], .agg #[.int .i64 u, .int .i64 a, .int .i64 b, .int .i64 c]] W fun e w' => e = .returned (.bool A) ∧ Below W.heap.size W w') := fun W hc => by
    rw [← hA]; exact refHolds_any k n (.slice sao ls scap) (.slice tao lt tcap) s t u a b c ha hok W (HRa.out W hc).1 (HRa.out W hc).2
  have HVa : Hid (∀ W, Car w1.heap.size w1 W → Calls Tryz.prog 12 #[.agg #[.int .i64 k, .slice sao ls scap, .slice tao lt tcap, .int .i64 n], .agg #[.int .i64 u, .int .i64 a, .int .i64 b, .int .i64 c]] W fun e w' => e = .returned (.tuple #[.bool A, .nilIface]) ∧ Below W.heap.size W w') := fun W hc => by
    exact holds_good k n (.slice sao ls scap) (.slice tao lt tcap) s t u a b c A hok ha hA W (HRa.out W hc).1 (HRa.out W hc).2 (HKd.out W hc).1
  clear ha hok hP hA
  have hsn := seen_good hs
  obtain ⟨kx, hkx⟩ : ∃ kx, wordsKind (cutL st.data.toList) = kx := ⟨_, rfl⟩
  obtain ⟨nx, hnx⟩ : ∃ nx, wordsN kx (cutL st.data.toList) = nx := ⟨_, rfl⟩
  obtain ⟨px, hpx⟩ : ∃ px, wordsS (cutL st.data.toList) = px := ⟨_, rfl⟩
  obtain ⟨qx, hqx⟩ : ∃ qx, wordsT kx (cutL st.data.toList) = qx := ⟨_, rfl⟩
  have HRe : Hid (∀ W, _) := fun W => readAtom_good st hz hs hkx hpx hqx hnx W
  have HPs : Hid (∀ W, Car w1.heap.size w1 W → _) := fun W hc => aparse_good st (by omega) (k := kx) (n := nx) (p := px) (q := qx) (by rw [hsn]; exact hs) (by rw [hsn]; exact hkx) (by rw [hsn]; exact hpx) (by rw [hsn]; exact hqx) (by rw [hsn]; exact hnx) W (HKd.out W hc).1 (HKd.out W hc).2
  obtain ⟨lpx, hlpx⟩ : ∃ lpx, px.length = lpx := ⟨_, rfl⟩
  obtain ⟨lqx, hlqx⟩ : ∃ lqx, qx.length = lqx := ⟨_, rfl⟩
  rw [hlpx, hlqx] at HPs HRe
  clear hkx hnx hpx hqx hlpx hlqx hs hsn hz
  clear hS hT hK hL hG
  obtain ⟨⟨a0x, a1x, a2x, a3x⟩, ⟨w0x, w1x, w2x, w3x⟩⟩ := HY.out w1 HB.out
  go_enter Tryz.func3, Tryz.ntmps3
  go_wp2_with fail
  rw [← hw1]
  clear hw1
  go_at_call 5
  refine (HT.out _ HB.out).mono ?_
  rintro e w' ⟨rfl, hb⟩
  have HB : Hid (Car w1.heap.size w1 _) := HB.out.step hb
  clear hb
  clear a0x a1x a2x a3x w0x w1x w2x w3x
  obtain ⟨⟨a0x, a1x, a2x, a3x⟩, ⟨w0x, w1x, w2x, w3x⟩⟩ := HY.out _ HB.out
  go_wp2_with fail
  go_at_call 7
  refine (HCk.out _ HB.out).mono ?_
  rintro e w' ⟨rfl, hb⟩
  have HB : Hid (Car w1.heap.size w1 _) := HB.out.step hb
  clear hb
  clear a0x a1x a2x a3x w0x w1x w2x w3x
  go_wp2_with fail
  go_at_call 6
  refine (errA_nil _).mono ?_
  rintro e w' ⟨rfl, rfl⟩
  obtain ⟨⟨a0x, a1x, a2x, a3x⟩, ⟨w0x, w1x, w2x, w3x⟩⟩ := HY.out _ HB.out
  go_wp2_with fail
  go_at_call 8
  refine (HTx.out _ HB.out).mono ?_
  rintro e w' ⟨rfl, hb⟩
  have HB : Hid (Car w1.heap.size w1 _) := HB.out.step hb
  clear hb
  clear a0x a1x a2x a3x w0x w1x w2x w3x
  obtain ⟨⟨a0x, a1x, a2x, a3x⟩, ⟨w0x, w1x, w2x, w3x⟩⟩ := HY.out _ HB.out
  go_wp2_with fail
  go_at_call 9
  refine (HPr.out _ HB.out).mono ?_
  rintro e w' ⟨rfl, hb⟩
  have HB : Hid (Car w1.heap.size w1 _) := HB.out.step hb
  clear hb
  clear a0x a1x a2x a3x w0x w1x w2x w3x
  go_wp2_with fail
  go_at_call 6
  refine (errA_nil _).mono ?_
  rintro e w' ⟨rfl, rfl⟩
  obtain ⟨⟨a0x, a1x, a2x, a3x⟩, ⟨w0x, w1x, w2x, w3x⟩⟩ := HY.out _ HB.out
  go_wp2_with fail
  go_at_call 10
  refine (HWo.out _ HB.out).mono ?_
  rintro e w' ⟨rfl, hb⟩
  have HB : Hid (Car w1.heap.size w1 _) := HB.out.step hb
  clear hb
  clear a0x a1x a2x a3x w0x w1x w2x w3x
  obtain ⟨⟨a0x, a1x, a2x, a3x⟩, ⟨w0x, w1x, w2x, w3x⟩⟩ := HY.out _ HB.out
  go_wp2_with fail
  go_at_call 11
  refine (HRh.out _ HB.out).mono ?_
  rintro e w' ⟨rfl, hb⟩
  have HB : Hid (Car w1.heap.size w1 _) := HB.out.step hb
  clear hb
  clear a0x a1x a2x a3x w0x w1x w2x w3x
  obtain ⟨⟨a0x, a1x, a2x, a3x⟩, ⟨w0x, w1x, w2x, w3x⟩⟩ := HY.out _ HB.out
  go_wp2_with fail
  go_at_call 12
  refine (HVa.out _ HB.out).mono ?_
  rintro e w' ⟨rfl, hb⟩
  have HB : Hid (Car w1.heap.size w1 _) := HB.out.step hb
  clear hb
  clear a0x a1x a2x a3x w0x w1x w2x w3x
  go_wp2_with fail
  go_at_call 6
  refine (errA_nil _).mono ?_
  rintro e w' ⟨rfl, rfl⟩
  go_wp2_with fail
  go_at_call 13
  refine (HRe.out _).mono ?_
  rintro e z1 ⟨g0, g1, g2, g3, rfl, r0, r1, hb⟩
  have HB : Hid (Car w1.heap.size w1 z1) := HB.out.step hb
  clear hb
  obtain ⟨z2, hz2⟩ : ∃ z2, z2 = z1.alloc (.cells #[.int .i64 kx, .slice g0 lpx g1, .slice g2 lqx g3, .int .i64 nx] 24) := ⟨_, rfl⟩
  have HB : Hid (Car w1.heap.size w1 z2) := by unfold Hid; rw [hz2]; exact HB.out.step (below_alloc1 _ _)
  have HX2 : Hid (BoxA z2 z1.heap.size kx nx (.slice g0 lpx g1) (.slice g2 lqx g3) ∧ z1.heap.size < z2.heap.size) := by unfold Hid; rw [hz2]; exact ⟨boxA_alloc z1 _ _ _ _, by simp⟩
  have HR2 : Hid (Reads z2 (.slice g0 lpx g1) px ∧ Reads z2 (.slice g2 lqx g3) qx) := by unfold Hid; rw [hz2]; exact ⟨r0.below (below_alloc1 _ _), r1.below (below_alloc1 _ _)⟩
  clear r0 r1
  go_wp2_with fail
  rw [← hz2]
  clear hz2
  go_at_call 14
  refine (HPs.out _ HB.out).mono ?_
  rintro e z3 ⟨f0, f1, f2, f3, rfl, r2, r3, hb⟩
  have HB : Hid (Car w1.heap.size w1 z3) := HB.out.step hb
  have HX3 : Hid (BoxA z3 z1.heap.size kx nx (.slice g0 lpx g1) (.slice g2 lqx g3) ∧ z1.heap.size < z3.heap.size) := ⟨HX2.out.1.below hb HX2.out.2, Nat.lt_of_lt_of_le HX2.out.2 hb.size⟩
  have HR3 : Hid (Reads z3 (.slice g0 lpx g1) px ∧ Reads z3 (.slice g2 lqx g3) qx) := ⟨HR2.out.1.below hb, HR2.out.2.below hb⟩
  have HR4 : Hid (Reads z3 (.slice f0 lpx f1) px ∧ Reads z3 (.slice f2 lqx f3) qx) := ⟨r2, r3⟩
  clear r2 r3
  clear hb
  obtain ⟨z4, hz4⟩ : ∃ z4, z4 = z3.alloc (.cells #[.int .i64 kx, .slice f0 lpx f1, .slice f2 lqx f3, .int .i64 nx] 24) := ⟨_, rfl⟩
  have HB : Hid (Car w1.heap.size w1 z4) := by unfold Hid; rw [hz4]; exact HB.out.step (below_alloc1 _ _)
  have HX4 : Hid (BoxA z4 z1.heap.size kx nx (.slice g0 lpx g1) (.slice g2 lqx g3) ∧ z1.heap.size < z4.heap.size) := by unfold Hid; rw [hz4]; exact ⟨HX3.out.1.below (below_alloc1 _ _) HX3.out.2, Nat.lt_of_lt_of_le HX3.out.2 (by simp)⟩
  have HX5 : Hid (BoxA z4 z3.heap.size kx nx (.slice f0 lpx f1) (.slice f2 lqx f3) ∧ z3.heap.size < z4.heap.size) := by unfold Hid; rw [hz4]; exact ⟨boxA_alloc z3 _ _ _ _, by simp⟩
  have HR5 : Hid ((Reads z4 (.slice g0 lpx g1) px ∧ Reads z4 (.slice g2 lqx g3) qx) ∧ (Reads z4 (.slice f0 lpx f1) px ∧ Reads z4 (.slice f2 lqx f3) qx)) := by unfold Hid; rw [hz4]; exact ⟨⟨HR3.out.1.below (below_alloc1 _ _), HR3.out.2.below (below_alloc1 _ _)⟩, ⟨HR4.out.1.below (below_alloc1 _ _), HR4.out.2.below (below_alloc1 _ _)⟩⟩
  go_wp2_with fail
  rw [← hz4]
  clear hz4
  go_at_call 6
  refine (errA_nil _).mono ?_
  rintro e z5 ⟨rfl, rfl⟩
  obtain ⟨b0, b1, b2, b3⟩ := HX4.out.1
  obtain ⟨y0, y1, y2, y3⟩ := HX5.out.1
  go_wp2_with fail
  go_at_call 15
  refine (atom_same kx nx (.slice f0 lpx f1) (.slice f2 lqx f3) (.slice g0 lpx g1) (.slice g2 lqx g3) px qx _ HR5.out.2.1 HR5.out.2.2 HR5.out.1.1 HR5.out.1.2).mono ?_
  rintro e z6 ⟨rfl, hb⟩
  have HB : Hid (Car w1.heap.size w1 z6) := HB.out.step hb
  clear hb b0 b1 b2 b3 y0 y1 y2 y3
  go_wp2
  go_ret
  exact ⟨rfl, HW.out.1.trans (HB.out.1.mono (by have := HW.out.2; omega))⟩

end Go.Proofs.YtenmheenieifpabGreatDoor

namespace Go.Proofs.YtenmheenieifpabGreatDoor
open Go.ChangeShapes Go.WideShapes Go.ChangeAt Go.RowKit
set_option maxRecDepth 100000

theorem atomTells_walk (k n : Int) (vs vt : Value) (s t : List Int) (u a b c : Int) (st : ByteArray) (w : World) (hS : Reads w vs s) (hT : Reads w vt t) (hz : st.size ≤ 1048576) (hL : Laid w ∧ KindsLaid w ∧ LibLaid w) :
    Calls Tryz.prog 3 #[.agg #[.int .i64 k, vs, vt, .int .i64 n], .agg #[.int .i64 u, .int .i64 a, .int .i64 b, .int .i64 c], .string st] w fun e w' => e = .returned (.bool true) ∧ Below w.heap.size w w' := by
  obtain ⟨sao, scap, rfl, _⟩ := hS.slice
  obtain ⟨tao, tcap, rfl, _⟩ := hT.slice
  by_cases hs : wordsFault (cutL st.data.toList) = 0
  · by_cases ha : atomFault k s t n = 0
    · by_cases hok : (Wd.mk u a b c).ok = true
      · exact atomTells_Gg k n sao tao _ _ scap tcap s t st u a b c w hS hT hz hL.2.1 hL.2.2 hL.1 ha hok hs
      · exact atomTells_Wg k n sao tao _ _ scap tcap s t st u a b c w hS hT hz hL.2.1 hL.2.2 hL.1 ha hok hs
    · exact atomTells_Bg k n sao tao _ _ scap tcap s t st u a b c w hS hT hz hL.2.1 hL.2.2 hL.1 ha hs
  · by_cases ha : atomFault k s t n = 0
    · by_cases hok : (Wd.mk u a b c).ok = true
      · exact atomTells_Gb k n sao tao _ _ scap tcap s t st u a b c w hS hT hz hL.2.1 hL.2.2 hL.1 ha hok hs
      · exact atomTells_Wb k n sao tao _ _ scap tcap s t st u a b c w hS hT hz hL.2.1 hL.2.2 hL.1 ha hok hs
    · exact atomTells_Bb k n sao tao _ _ scap tcap s t st u a b c w hS hT hz hL.2.1 hL.2.2 hL.1 ha hs
end Go.Proofs.YtenmheenieifpabGreatDoor
