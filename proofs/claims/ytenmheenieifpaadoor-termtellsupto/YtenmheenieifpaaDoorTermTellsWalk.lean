/-
  Proved: whatever the row of signs, the world, and the text (of at most 1048576 bytes), vennlaw1.TermTells returns true, and what was in memory is as it was.
-/
import Derived.Test.YtenmheenieifpaaDoorTermRead2
import Derived.Test.YtenmheenieifpaaDoorInts
import Derived.Test.YtenmheenieifpaaDoorSame
namespace Go.Proofs.YtenmheenieifpaaDoor
open Go.ChangeShapes Go.WideShapes Go.ChangeAt Go.RowKit

/-- what a walk carries from world to world: below K all is as it was in w1. -/
def Cat (K : Nat) (w1 w : World) : Prop := Below K w1 w ∧ K ≤ w.heap.size
theorem Cat.step {K : Nat} {w1 w w' : World} (h : Cat K w1 w) (hb : Below w.heap.size w w') : Cat K w1 w' := ⟨h.1.trans (hb.mono h.2), Nat.le_trans h.2 hb.size⟩

theorem error_nil (w : World) : Calls Tryd.prog 7 #[.nilIface, .int .i64 0] w fun e w' => e = .returned (.bool true) ∧ w = w' := same_nil 0 w
theorem error_one (m : Int) (w : World) (hg : Laid w) : Calls Tryd.prog 7 #[.iface 54 (.int .i64 m), .int .i64 m] w fun e w' => e = .returned (.bool true) ∧ Below w.heap.size w w' := by
  have := same_err m m w hg
  rw [beq_self_eq_true] at this; exact this
theorem ints_none (w : World) : Calls Tryd.prog 24 #[.slice none 0 0, .slice none 0 0] w fun e w' => e = .returned (.bool true) ∧ Below w.heap.size w w' := ints_same [] _ _ w (Or.inl ⟨_, _, rfl, rfl⟩) (Or.inl ⟨_, _, rfl, rfl⟩)
theorem err_iface {n : Int} (h : ¬ n = 0) : errV n = .iface 54 (.int .i64 n) := by unfold errV; rw [if_neg h]

set_option linter.unusedVariables false in
set_option maxRecDepth 100000 in
set_option maxHeartbeats 2000000 in
theorem termTells_bad_syn (t : List Int) (v : Value) (s : ByteArray) (u a b c : Int) (w : World) (hR : Reads w v t) (hL : Laid w) (hz : s.size ≤ 1048576) (hf : ¬ faultN t = 0) (hs : lettersB s.data.toList = false) :
    Calls Tryd.prog 5 #[v, .agg #[.int .i64 u, .int .i64 a, .int .i64 b, .int .i64 c], .string s] w fun e w' => e = .returned (.bool true) ∧ Below w.heap.size w w' := by
  obtain ⟨w1, hw1⟩ : ∃ w1, w1 = w.alloc (.cells #[.int .i64 u, .int .i64 a, .int .i64 b, .int .i64 c] 39) := ⟨_, rfl⟩
  have HB : Hid (Cat w1.heap.size w1 w1) := ⟨Below.refl _ _, Nat.le_refl _⟩
  have HW : Hid (Below w.heap.size w w1 ∧ w.heap.size ≤ w1.heap.size) := by
    refine ⟨?_, ?_⟩
    · rw [hw1]; exact below_alloc1 _ _
    · rw [hw1]; simp
  have HX : Hid (∀ W, Cat w1.heap.size w1 W → W.cell? ⟨w.heap.size, 0, none⟩ = some (.int .i64 u) ∧ W.cell? ⟨w.heap.size, 1, none⟩ = some (.int .i64 a) ∧ W.cell? ⟨w.heap.size, 2, none⟩ = some (.int .i64 b) ∧ W.cell? ⟨w.heap.size, 3, none⟩ = some (.int .i64 c)) := fun W hc => by
    have hlt : w.heap.size < w1.heap.size := by rw [hw1]; simp
    rw [hc.1.cell (p := ⟨w.heap.size, 0, none⟩) hlt, hc.1.cell (p := ⟨w.heap.size, 1, none⟩) hlt, hc.1.cell (p := ⟨w.heap.size, 2, none⟩) hlt, hc.1.cell (p := ⟨w.heap.size, 3, none⟩) hlt, hw1]
    simp
  have HG : Hid (∀ W, Cat w1.heap.size w1 W → Laid W) := fun W hc => (hL.below HW.out.1).below hc.1
  have HRd : Hid (∀ W, Cat w1.heap.size w1 W → Reads W v t) := fun W hc => (hR.below HW.out.1).below hc.1
  have HT : Hid (∀ W, Cat w1.heap.size w1 W → Calls Tryd.prog 15 #[v] W fun e w' => e = .returned (.int .i64 (faultN t)) ∧ W = w') := fun W hc => by
    exact refTerm_any t v W (HRd.out W hc)
  have HCk : Hid (∀ W, Cat w1.heap.size w1 W → Calls Tryd.prog 16 #[v] W fun e w' => e = .returned (.iface 54 (.int .i64 (faultN t))) ∧ W = w') := fun W hc => by
    have := tcheck_any t v W (HRd.out W hc)
    rw [err_iface hf] at this; exact this
  have HPr : Hid (∀ W, Cat w1.heap.size w1 W → Calls Tryd.prog 18 #[v] W fun e w' => e = .returned (.tuple #[.string ⟨#[]⟩, .iface 54 (.int .i64 (faultN t))]) ∧ Below W.heap.size W w') := fun W hc => by
    exact print_bad t v W (HRd.out W hc) hf
  have HVa : Hid (∀ W, Cat w1.heap.size w1 W → Calls Tryd.prog 21 #[v, .agg #[.int .i64 u, .int .i64 a, .int .i64 b, .int .i64 c]] W fun e w' => e = .returned (.tuple #[.int .i64 0, .iface 54 (.int .i64 (faultN t))]) ∧ Below W.heap.size W w') := fun W hc => by
    exact value_bad t v u a b c W (HRd.out W hc) hf
  obtain ⟨Ft, hFt⟩ : ∃ Ft, Ft = faultN t := ⟨_, rfl⟩
  rw [← hFt] at HT HCk HPr HVa hf
  have hf0 : (Ft == 0) = false := by simpa using hf
  clear hFt hf HRd
  have HRe : Hid (∀ W, Calls Tryd.prog 22 #[.string s] W fun e w' => e = .returned (.tuple #[.slice none 0 0, .bool false]) ∧ Below W.heap.size W w') := fun W => (readTerm_any s hz W).mono fun e w' h => ⟨h.2.1 hs, h.2.2⟩
  have HPa : Hid (∀ W, Calls Tryd.prog 23 #[.string s] W fun e w' => e = .returned (.tuple #[.slice none 0 0, .iface 54 (.int .i64 2)]) ∧ Below W.heap.size W w') := fun W => parse_syntax s hs W
  clear hs hz
  clear hL hR
  go_enter Tryd.func5, Tryd.ntmps5
  go_wp2_with fail
  rw [← hw1]
  clear hw1
  go_wp2_with fail
  go_at_call 15
  refine (HT.out _ HB.out).mono ?_
  rintro e w' ⟨rfl, rfl⟩
  go_wp2_with fail
  go_at_call 16
  refine (HCk.out _ HB.out).mono ?_
  rintro e w' ⟨rfl, rfl⟩
  go_wp2_with fail
  go_at_call 7
  refine (error_one _ _ (HG.out _ HB.out)).mono ?_
  rintro e w' ⟨rfl, hb⟩
  have HB : Hid (Cat _ _ _) := HB.out.step hb
  clear hb
  go_wp2_with fail
  go_at_call 18
  refine (HPr.out _ HB.out).mono ?_
  rintro e w' ⟨rfl, hb⟩
  have HB : Hid (Cat _ _ _) := HB.out.step hb
  clear hb
  go_wp2_with fail
  go_at_call 7
  refine (error_one _ _ (HG.out _ HB.out)).mono ?_
  rintro e w' ⟨rfl, hb⟩
  have HB : Hid (Cat _ _ _) := HB.out.step hb
  clear hb
  obtain ⟨x0, x1, x2, x3⟩ := HX.out _ HB.out
  go_wp2_with fail
  go_at_call 21
  refine (HVa.out _ HB.out).mono ?_
  rintro e w' ⟨rfl, hb⟩
  have HB : Hid (Cat _ _ _) := HB.out.step hb
  clear hb
  clear x0 x1 x2 x3
  go_wp2_with fail
  go_at_call 7
  refine (error_one _ _ (HG.out _ HB.out)).mono ?_
  rintro e w' ⟨rfl, hb⟩
  have HB : Hid (Cat _ _ _) := HB.out.step hb
  clear hb
  go_wp2_with fail
  go_at_call 22
  refine (HRe.out _).mono ?_
  rintro e w' ⟨rfl, hb⟩
  have HB : Hid (Cat _ _ _) := HB.out.step hb
  clear hb
  go_wp2_with fail
  go_at_call 23
  refine (HPa.out _).mono ?_
  rintro e w' ⟨rfl, hb⟩
  have HB : Hid (Cat _ _ _) := HB.out.step hb
  clear hb
  go_wp2_with fail
  go_at_call 7
  refine (error_one _ _ (HG.out _ HB.out)).mono ?_
  rintro e w' ⟨rfl, hb⟩
  have HB : Hid (Cat _ _ _) := HB.out.step hb
  clear hb
  go_wp2_with fail
  go_at_call 24
  refine (ints_none _).mono ?_
  rintro e w' ⟨rfl, hb⟩
  have HB : Hid (Cat _ _ _) := HB.out.step hb
  clear hb
  go_wp2
  go_ret
  exact ⟨rfl, HW.out.1.trans (HB.out.1.mono HW.out.2)⟩

set_option linter.unusedVariables false in
set_option maxRecDepth 100000 in
set_option maxHeartbeats 2000000 in
theorem termTells_bad_bad (t : List Int) (v : Value) (s : ByteArray) (u a b c : Int) (w : World) (hR : Reads w v t) (hL : Laid w) (hz : s.size ≤ 1048576) (hf : ¬ faultN t = 0) (hs : lettersB s.data.toList = true) (hs2 : ¬ faultN (readN s.data.toList) = 0) :
    Calls Tryd.prog 5 #[v, .agg #[.int .i64 u, .int .i64 a, .int .i64 b, .int .i64 c], .string s] w fun e w' => e = .returned (.bool true) ∧ Below w.heap.size w w' := by
  obtain ⟨w1, hw1⟩ : ∃ w1, w1 = w.alloc (.cells #[.int .i64 u, .int .i64 a, .int .i64 b, .int .i64 c] 39) := ⟨_, rfl⟩
  have HB : Hid (Cat w1.heap.size w1 w1) := ⟨Below.refl _ _, Nat.le_refl _⟩
  have HW : Hid (Below w.heap.size w w1 ∧ w.heap.size ≤ w1.heap.size) := by
    refine ⟨?_, ?_⟩
    · rw [hw1]; exact below_alloc1 _ _
    · rw [hw1]; simp
  have HX : Hid (∀ W, Cat w1.heap.size w1 W → W.cell? ⟨w.heap.size, 0, none⟩ = some (.int .i64 u) ∧ W.cell? ⟨w.heap.size, 1, none⟩ = some (.int .i64 a) ∧ W.cell? ⟨w.heap.size, 2, none⟩ = some (.int .i64 b) ∧ W.cell? ⟨w.heap.size, 3, none⟩ = some (.int .i64 c)) := fun W hc => by
    have hlt : w.heap.size < w1.heap.size := by rw [hw1]; simp
    rw [hc.1.cell (p := ⟨w.heap.size, 0, none⟩) hlt, hc.1.cell (p := ⟨w.heap.size, 1, none⟩) hlt, hc.1.cell (p := ⟨w.heap.size, 2, none⟩) hlt, hc.1.cell (p := ⟨w.heap.size, 3, none⟩) hlt, hw1]
    simp
  have HG : Hid (∀ W, Cat w1.heap.size w1 W → Laid W) := fun W hc => (hL.below HW.out.1).below hc.1
  have HRd : Hid (∀ W, Cat w1.heap.size w1 W → Reads W v t) := fun W hc => (hR.below HW.out.1).below hc.1
  have HT : Hid (∀ W, Cat w1.heap.size w1 W → Calls Tryd.prog 15 #[v] W fun e w' => e = .returned (.int .i64 (faultN t)) ∧ W = w') := fun W hc => by
    exact refTerm_any t v W (HRd.out W hc)
  have HCk : Hid (∀ W, Cat w1.heap.size w1 W → Calls Tryd.prog 16 #[v] W fun e w' => e = .returned (.iface 54 (.int .i64 (faultN t))) ∧ W = w') := fun W hc => by
    have := tcheck_any t v W (HRd.out W hc)
    rw [err_iface hf] at this; exact this
  have HPr : Hid (∀ W, Cat w1.heap.size w1 W → Calls Tryd.prog 18 #[v] W fun e w' => e = .returned (.tuple #[.string ⟨#[]⟩, .iface 54 (.int .i64 (faultN t))]) ∧ Below W.heap.size W w') := fun W hc => by
    exact print_bad t v W (HRd.out W hc) hf
  have HVa : Hid (∀ W, Cat w1.heap.size w1 W → Calls Tryd.prog 21 #[v, .agg #[.int .i64 u, .int .i64 a, .int .i64 b, .int .i64 c]] W fun e w' => e = .returned (.tuple #[.int .i64 0, .iface 54 (.int .i64 (faultN t))]) ∧ Below W.heap.size W w') := fun W hc => by
    exact value_bad t v u a b c W (HRd.out W hc) hf
  obtain ⟨Ft, hFt⟩ : ∃ Ft, Ft = faultN t := ⟨_, rfl⟩
  rw [← hFt] at HT HCk HPr HVa hf
  have hf0 : (Ft == 0) = false := by simpa using hf
  clear hFt hf HRd
  have htf : textFault s.data.toList = faultN (readN s.data.toList) := by unfold textFault; rw [if_pos hs]
  have HRe : Hid (∀ W, Calls Tryd.prog 22 #[.string s] W fun e w' => ∃ v, e = .returned (.tuple #[v, .bool true]) ∧ Reads w' v (readN s.data.toList) ∧ Below W.heap.size W w') := fun W => (readTerm_any s hz W).mono fun e w' h => by
    obtain ⟨v, he, hr⟩ := h.1 hs
    exact ⟨v, he, hr, h.2.2⟩
  have HRt : Hid (∀ v W, Reads W v (readN s.data.toList) → Calls Tryd.prog 15 #[v] W fun e w' => e = .returned (.int .i64 (faultN (readN s.data.toList))) ∧ W = w') := fun v W h => refTerm_any _ v W h
  have HPa : Hid (∀ W, Calls Tryd.prog 23 #[.string s] W fun e w' => e = .returned (.tuple #[.slice none 0 0, .iface 54 (.int .i64 (faultN (readN s.data.toList)))]) ∧ Below W.heap.size W w') := fun W => (parse_any s (by omega) W).mono fun e w' h => by
    obtain ⟨v, he, _, hv, hb⟩ := h
    rw [htf] at he hv
    rw [hv hs2, err_iface hs2] at he
    exact ⟨he, hb⟩
  obtain ⟨Fs, hFs⟩ : ∃ Fs, Fs = faultN (readN s.data.toList) := ⟨_, rfl⟩
  rw [← hFs] at HRt HPa hs2
  have hs0 : (Fs != 0) = true := by simpa using hs2
  clear hFs hs hs2 htf hz
  clear hL hR
  go_enter Tryd.func5, Tryd.ntmps5
  go_wp2_with fail
  rw [← hw1]
  clear hw1
  go_wp2_with fail
  go_at_call 15
  refine (HT.out _ HB.out).mono ?_
  rintro e w' ⟨rfl, rfl⟩
  go_wp2_with fail
  go_at_call 16
  refine (HCk.out _ HB.out).mono ?_
  rintro e w' ⟨rfl, rfl⟩
  go_wp2_with fail
  go_at_call 7
  refine (error_one _ _ (HG.out _ HB.out)).mono ?_
  rintro e w' ⟨rfl, hb⟩
  have HB : Hid (Cat _ _ _) := HB.out.step hb
  clear hb
  go_wp2_with fail
  go_at_call 18
  refine (HPr.out _ HB.out).mono ?_
  rintro e w' ⟨rfl, hb⟩
  have HB : Hid (Cat _ _ _) := HB.out.step hb
  clear hb
  go_wp2_with fail
  go_at_call 7
  refine (error_one _ _ (HG.out _ HB.out)).mono ?_
  rintro e w' ⟨rfl, hb⟩
  have HB : Hid (Cat _ _ _) := HB.out.step hb
  clear hb
  obtain ⟨x0, x1, x2, x3⟩ := HX.out _ HB.out
  go_wp2_with fail
  go_at_call 21
  refine (HVa.out _ HB.out).mono ?_
  rintro e w' ⟨rfl, hb⟩
  have HB : Hid (Cat _ _ _) := HB.out.step hb
  clear hb
  clear x0 x1 x2 x3
  go_wp2_with fail
  go_at_call 7
  refine (error_one _ _ (HG.out _ HB.out)).mono ?_
  rintro e w' ⟨rfl, hb⟩
  have HB : Hid (Cat _ _ _) := HB.out.step hb
  clear hb
  go_wp2_with fail
  go_at_call 22
  refine (HRe.out _).mono ?_
  rintro e w' ⟨vl, rfl, hrl, hb⟩
  have HB : Hid (Cat _ _ _) := HB.out.step hb
  clear hb
  have HRl : Hid (Reads _ _ _) := hrl
  clear hrl
  go_wp2_with fail
  go_at_call 15
  refine (HRt.out _ _ HRl.out).mono ?_
  rintro e w' ⟨rfl, rfl⟩
  clear HRl
  go_wp2_with fail
  go_at_call 23
  refine (HPa.out _).mono ?_
  rintro e w' ⟨rfl, hb⟩
  have HB : Hid (Cat _ _ _) := HB.out.step hb
  clear hb
  go_wp2_with fail
  go_at_call 7
  refine (error_one _ _ (HG.out _ HB.out)).mono ?_
  rintro e w' ⟨rfl, hb⟩
  have HB : Hid (Cat _ _ _) := HB.out.step hb
  clear hb
  go_wp2_with fail
  go_at_call 24
  refine (ints_none _).mono ?_
  rintro e w' ⟨rfl, hb⟩
  have HB : Hid (Cat _ _ _) := HB.out.step hb
  clear hb
  go_wp2
  go_ret
  exact ⟨rfl, HW.out.1.trans (HB.out.1.mono HW.out.2)⟩

set_option linter.unusedVariables false in
set_option maxRecDepth 100000 in
set_option maxHeartbeats 2000000 in
theorem termTells_bad_good (t : List Int) (v : Value) (s : ByteArray) (u a b c : Int) (w : World) (hR : Reads w v t) (hL : Laid w) (hz : s.size ≤ 1048576) (hf : ¬ faultN t = 0) (hs : lettersB s.data.toList = true) (hs2 : faultN (readN s.data.toList) = 0) :
    Calls Tryd.prog 5 #[v, .agg #[.int .i64 u, .int .i64 a, .int .i64 b, .int .i64 c], .string s] w fun e w' => e = .returned (.bool true) ∧ Below w.heap.size w w' := by
  obtain ⟨w1, hw1⟩ : ∃ w1, w1 = w.alloc (.cells #[.int .i64 u, .int .i64 a, .int .i64 b, .int .i64 c] 39) := ⟨_, rfl⟩
  have HB : Hid (Cat w1.heap.size w1 w1) := ⟨Below.refl _ _, Nat.le_refl _⟩
  have HW : Hid (Below w.heap.size w w1 ∧ w.heap.size ≤ w1.heap.size) := by
    refine ⟨?_, ?_⟩
    · rw [hw1]; exact below_alloc1 _ _
    · rw [hw1]; simp
  have HX : Hid (∀ W, Cat w1.heap.size w1 W → W.cell? ⟨w.heap.size, 0, none⟩ = some (.int .i64 u) ∧ W.cell? ⟨w.heap.size, 1, none⟩ = some (.int .i64 a) ∧ W.cell? ⟨w.heap.size, 2, none⟩ = some (.int .i64 b) ∧ W.cell? ⟨w.heap.size, 3, none⟩ = some (.int .i64 c)) := fun W hc => by
    have hlt : w.heap.size < w1.heap.size := by rw [hw1]; simp
    rw [hc.1.cell (p := ⟨w.heap.size, 0, none⟩) hlt, hc.1.cell (p := ⟨w.heap.size, 1, none⟩) hlt, hc.1.cell (p := ⟨w.heap.size, 2, none⟩) hlt, hc.1.cell (p := ⟨w.heap.size, 3, none⟩) hlt, hw1]
    simp
  have HG : Hid (∀ W, Cat w1.heap.size w1 W → Laid W) := fun W hc => (hL.below HW.out.1).below hc.1
  have HRd : Hid (∀ W, Cat w1.heap.size w1 W → Reads W v t) := fun W hc => (hR.below HW.out.1).below hc.1
  have HT : Hid (∀ W, Cat w1.heap.size w1 W → Calls Tryd.prog 15 #[v] W fun e w' => e = .returned (.int .i64 (faultN t)) ∧ W = w') := fun W hc => by
    exact refTerm_any t v W (HRd.out W hc)
  have HCk : Hid (∀ W, Cat w1.heap.size w1 W → Calls Tryd.prog 16 #[v] W fun e w' => e = .returned (.iface 54 (.int .i64 (faultN t))) ∧ W = w') := fun W hc => by
    have := tcheck_any t v W (HRd.out W hc)
    rw [err_iface hf] at this; exact this
  have HPr : Hid (∀ W, Cat w1.heap.size w1 W → Calls Tryd.prog 18 #[v] W fun e w' => e = .returned (.tuple #[.string ⟨#[]⟩, .iface 54 (.int .i64 (faultN t))]) ∧ Below W.heap.size W w') := fun W hc => by
    exact print_bad t v W (HRd.out W hc) hf
  have HVa : Hid (∀ W, Cat w1.heap.size w1 W → Calls Tryd.prog 21 #[v, .agg #[.int .i64 u, .int .i64 a, .int .i64 b, .int .i64 c]] W fun e w' => e = .returned (.tuple #[.int .i64 0, .iface 54 (.int .i64 (faultN t))]) ∧ Below W.heap.size W w') := fun W hc => by
    exact value_bad t v u a b c W (HRd.out W hc) hf
  obtain ⟨Ft, hFt⟩ : ∃ Ft, Ft = faultN t := ⟨_, rfl⟩
  rw [← hFt] at HT HCk HPr HVa hf
  have hf0 : (Ft == 0) = false := by simpa using hf
  clear hFt hf HRd
  have htf : textFault s.data.toList = 0 := by unfold textFault; rw [if_pos hs]; exact hs2
  have HRe : Hid (∀ W, Calls Tryd.prog 22 #[.string s] W fun e w' => ∃ v, e = .returned (.tuple #[v, .bool true]) ∧ Reads w' v (readN s.data.toList) ∧ Below W.heap.size W w') := fun W => (readTerm_any s hz W).mono fun e w' h => by
    obtain ⟨v, he, hr⟩ := h.1 hs
    exact ⟨v, he, hr, h.2.2⟩
  have HRt : Hid (∀ v W, Reads W v (readN s.data.toList) → Calls Tryd.prog 15 #[v] W fun e w' => e = .returned (.int .i64 0) ∧ W = w') := fun v W h => by
    have := refTerm_any _ v W h
    rw [hs2] at this; exact this
  have HPa : Hid (∀ W, Calls Tryd.prog 23 #[.string s] W fun e w' => ∃ v, e = .returned (.tuple #[v, .nilIface]) ∧ Reads w' v (readN s.data.toList) ∧ Below W.heap.size W w') := fun W => (parse_any s (by omega) W).mono fun e w' h => by
    obtain ⟨v, he, hr, _, hb⟩ := h
    rw [htf] at he
    exact ⟨v, he, hr htf, hb⟩
  clear hs hs2 htf hz
  clear hL hR
  go_enter Tryd.func5, Tryd.ntmps5
  go_wp2_with fail
  rw [← hw1]
  clear hw1
  go_wp2_with fail
  go_at_call 15
  refine (HT.out _ HB.out).mono ?_
  rintro e w' ⟨rfl, rfl⟩
  go_wp2_with fail
  go_at_call 16
  refine (HCk.out _ HB.out).mono ?_
  rintro e w' ⟨rfl, rfl⟩
  go_wp2_with fail
  go_at_call 7
  refine (error_one _ _ (HG.out _ HB.out)).mono ?_
  rintro e w' ⟨rfl, hb⟩
  have HB : Hid (Cat _ _ _) := HB.out.step hb
  clear hb
  go_wp2_with fail
  go_at_call 18
  refine (HPr.out _ HB.out).mono ?_
  rintro e w' ⟨rfl, hb⟩
  have HB : Hid (Cat _ _ _) := HB.out.step hb
  clear hb
  go_wp2_with fail
  go_at_call 7
  refine (error_one _ _ (HG.out _ HB.out)).mono ?_
  rintro e w' ⟨rfl, hb⟩
  have HB : Hid (Cat _ _ _) := HB.out.step hb
  clear hb
  obtain ⟨x0, x1, x2, x3⟩ := HX.out _ HB.out
  go_wp2_with fail
  go_at_call 21
  refine (HVa.out _ HB.out).mono ?_
  rintro e w' ⟨rfl, hb⟩
  have HB : Hid (Cat _ _ _) := HB.out.step hb
  clear hb
  clear x0 x1 x2 x3
  go_wp2_with fail
  go_at_call 7
  refine (error_one _ _ (HG.out _ HB.out)).mono ?_
  rintro e w' ⟨rfl, hb⟩
  have HB : Hid (Cat _ _ _) := HB.out.step hb
  clear hb
  go_wp2_with fail
  go_at_call 22
  refine (HRe.out _).mono ?_
  rintro e w' ⟨vl, rfl, hrl, hb⟩
  have HB : Hid (Cat _ _ _) := HB.out.step hb
  clear hb
  have HRl : Hid (Reads _ _ _) := hrl
  clear hrl
  go_wp2_with fail
  go_at_call 15
  refine (HRt.out _ _ HRl.out).mono ?_
  rintro e w' ⟨rfl, rfl⟩
  go_wp2_with fail
  go_at_call 23
  refine (HPa.out _).mono ?_
  rintro e w' ⟨vy, rfl, hry, hb⟩
  have HRl : Hid (Reads _ _ _) := HRl.out.below hb
  have HRy : Hid (Reads _ _ _) := hry
  have HB : Hid (Cat _ _ _) := HB.out.step hb
  clear hb
  clear hry
  go_wp2_with fail
  go_at_call 7
  refine (error_nil _).mono ?_
  rintro e w' ⟨rfl, rfl⟩
  go_wp2_with fail
  go_at_call 24
  refine (ints_same _ _ _ _ HRy.out HRl.out).mono ?_
  rintro e w' ⟨rfl, hb⟩
  have HB : Hid (Cat _ _ _) := HB.out.step hb
  clear hb
  go_wp2
  go_ret
  exact ⟨rfl, HW.out.1.trans (HB.out.1.mono HW.out.2)⟩

set_option linter.unusedVariables false in
set_option maxRecDepth 100000 in
set_option maxHeartbeats 2000000 in
theorem termTells_wd_syn (t : List Int) (B off n cap : Nat) (s : ByteArray) (u a b c : Int) (w : World) (hR : Reads w (.slice (some ⟨B, off, none⟩) n cap) t) (hn : n = t.length) (hcap : t.length ≤ cap) (hLi : Lies w B off t) (hL : Laid w) (hz : s.size ≤ 1048576) (hf : faultN t = 0) (hok : ¬ (Wd.mk u a b c).ok = true) (hs : lettersB s.data.toList = false) :
    Calls Tryd.prog 5 #[.slice (some ⟨B, off, none⟩) n cap, .agg #[.int .i64 u, .int .i64 a, .int .i64 b, .int .i64 c], .string s] w fun e w' => e = .returned (.bool true) ∧ Below w.heap.size w w' := by
  subst hn
  obtain ⟨w1, hw1⟩ : ∃ w1, w1 = w.alloc (.cells #[.int .i64 u, .int .i64 a, .int .i64 b, .int .i64 c] 39) := ⟨_, rfl⟩
  have HB : Hid (Cat w1.heap.size w1 w1) := ⟨Below.refl _ _, Nat.le_refl _⟩
  have HW : Hid (Below w.heap.size w w1 ∧ w.heap.size ≤ w1.heap.size) := by
    refine ⟨?_, ?_⟩
    · rw [hw1]; exact below_alloc1 _ _
    · rw [hw1]; simp
  have HX : Hid (∀ W, Cat w1.heap.size w1 W → W.cell? ⟨w.heap.size, 0, none⟩ = some (.int .i64 u) ∧ W.cell? ⟨w.heap.size, 1, none⟩ = some (.int .i64 a) ∧ W.cell? ⟨w.heap.size, 2, none⟩ = some (.int .i64 b) ∧ W.cell? ⟨w.heap.size, 3, none⟩ = some (.int .i64 c)) := fun W hc => by
    have hlt : w.heap.size < w1.heap.size := by rw [hw1]; simp
    rw [hc.1.cell (p := ⟨w.heap.size, 0, none⟩) hlt, hc.1.cell (p := ⟨w.heap.size, 1, none⟩) hlt, hc.1.cell (p := ⟨w.heap.size, 2, none⟩) hlt, hc.1.cell (p := ⟨w.heap.size, 3, none⟩) hlt, hw1]
    simp
  have HG : Hid (∀ W, Cat w1.heap.size w1 W → Laid W) := fun W hc => (hL.below HW.out.1).below hc.1
  have HRd : Hid (∀ W, Cat w1.heap.size w1 W → Reads W (.slice (some ⟨B, off, none⟩) t.length cap) t) := fun W hc => (hR.below HW.out.1).below hc.1
  have HT : Hid (∀ W, Cat w1.heap.size w1 W → Calls Tryd.prog 15 #[(.slice (some ⟨B, off, none⟩) t.length cap)] W fun e w' => e = .returned (.int .i64 0) ∧ W = w') := fun W hc => by
    have := refTerm_any t (.slice (some ⟨B, off, none⟩) t.length cap) W (HRd.out W hc)
    rw [hf] at this; exact this
  have HCk : Hid (∀ W, Cat w1.heap.size w1 W → Calls Tryd.prog 16 #[(.slice (some ⟨B, off, none⟩) t.length cap)] W fun e w' => e = .returned (.nilIface) ∧ W = w') := fun W hc => by
    have := tcheck_any t (.slice (some ⟨B, off, none⟩) t.length cap) W (HRd.out W hc)
    rw [hf] at this; exact this
  obtain ⟨P, hP⟩ : ∃ P, P = strOf (textN t) := ⟨_, rfl⟩
  have HTx : Hid (∀ W, Cat w1.heap.size w1 W → Calls Tryd.prog 17 #[(.slice (some ⟨B, off, none⟩) t.length cap)] W fun e w' => e = .returned (.string P) ∧ Below W.heap.size W w') := fun W hc => by
    rw [hP]; exact refText_any t B off cap W hf ((hLi.below HW.out.1).below hc.1)
  have HPr : Hid (∀ W, Cat w1.heap.size w1 W → Calls Tryd.prog 18 #[(.slice (some ⟨B, off, none⟩) t.length cap)] W fun e w' => e = .returned (.tuple #[.string P, .nilIface]) ∧ Below W.heap.size W w') := fun W hc => by
    have := print_any t (.slice (some ⟨B, off, none⟩) t.length cap) W (HRd.out W hc)
    have e1 : printS t = P := by unfold printS; rw [if_pos hf, hP]
    rw [e1, hf] at this; exact this
  have HWo : Hid (∀ W, Cat w1.heap.size w1 W → Calls Tryd.prog 19 #[.agg #[.int .i64 u, .int .i64 a, .int .i64 b, .int .i64 c]] W fun e w' => e = .returned (.int .i64 1) ∧ Below W.heap.size W w') := fun W hc => by
    have := refWorld_any u a b c W
    rw [if_neg hok] at this; exact this
  have HVa : Hid (∀ W, Cat w1.heap.size w1 W → Calls Tryd.prog 21 #[(.slice (some ⟨B, off, none⟩) t.length cap), .agg #[.int .i64 u, .int .i64 a, .int .i64 b, .int .i64 c]] W fun e w' => e = .returned (.tuple #[.int .i64 0, .iface 54 (.int .i64 1)]) ∧ Below W.heap.size W w') := fun W hc => by
    have := value_any t (.slice (some ⟨B, off, none⟩) t.length cap) u a b c W (HRd.out W hc)
    have e1 : (Wd.mk u a b c).answer t = 0 := by unfold Wd.answer; rw [if_pos hf, if_neg hok]
    have e2 : errV ((Wd.mk u a b c).fault t) = .iface 54 (.int .i64 1) := by unfold Wd.fault; rw [if_pos hf, if_neg hok]; rfl
    rw [e1, e2] at this; exact this
  clear hf hok HRd hP hLi hcap
  have HRe : Hid (∀ W, Calls Tryd.prog 22 #[.string s] W fun e w' => e = .returned (.tuple #[.slice none 0 0, .bool false]) ∧ Below W.heap.size W w') := fun W => (readTerm_any s hz W).mono fun e w' h => ⟨h.2.1 hs, h.2.2⟩
  have HPa : Hid (∀ W, Calls Tryd.prog 23 #[.string s] W fun e w' => e = .returned (.tuple #[.slice none 0 0, .iface 54 (.int .i64 2)]) ∧ Below W.heap.size W w') := fun W => parse_syntax s hs W
  clear hs hz
  clear hL hR
  obtain ⟨n, hn⟩ : ∃ n, n = t.length := ⟨_, rfl⟩
  rw [← hn] at HT HCk HTx HPr HVa ⊢
  clear hn
  go_enter Tryd.func5, Tryd.ntmps5
  go_wp2_with fail
  rw [← hw1]
  clear hw1
  go_wp2_with fail
  go_at_call 15
  refine (HT.out _ HB.out).mono ?_
  rintro e w' ⟨rfl, rfl⟩
  go_wp2_with fail
  go_at_call 16
  refine (HCk.out _ HB.out).mono ?_
  rintro e w' ⟨rfl, rfl⟩
  go_wp2_with fail
  go_at_call 7
  refine (error_nil _).mono ?_
  rintro e w' ⟨rfl, rfl⟩
  go_wp2_with fail
  go_at_call 17
  refine (HTx.out _ HB.out).mono ?_
  rintro e w' ⟨rfl, hb⟩
  have HB : Hid (Cat _ _ _) := HB.out.step hb
  clear hb
  go_wp2_with fail
  go_at_call 18
  refine (HPr.out _ HB.out).mono ?_
  rintro e w' ⟨rfl, hb⟩
  have HB : Hid (Cat _ _ _) := HB.out.step hb
  clear hb
  go_wp2_with fail
  go_at_call 7
  refine (error_nil _).mono ?_
  rintro e w' ⟨rfl, rfl⟩
  obtain ⟨x0, x1, x2, x3⟩ := HX.out _ HB.out
  go_wp2_with fail
  go_at_call 19
  refine (HWo.out _ HB.out).mono ?_
  rintro e w' ⟨rfl, hb⟩
  have HB : Hid (Cat _ _ _) := HB.out.step hb
  clear hb
  clear x0 x1 x2 x3
  obtain ⟨x0, x1, x2, x3⟩ := HX.out _ HB.out
  go_wp2_with fail
  go_at_call 21
  refine (HVa.out _ HB.out).mono ?_
  rintro e w' ⟨rfl, hb⟩
  have HB : Hid (Cat _ _ _) := HB.out.step hb
  clear hb
  clear x0 x1 x2 x3
  go_wp2_with fail
  go_at_call 7
  refine (error_one _ _ (HG.out _ HB.out)).mono ?_
  rintro e w' ⟨rfl, hb⟩
  have HB : Hid (Cat _ _ _) := HB.out.step hb
  clear hb
  go_wp2_with fail
  go_at_call 22
  refine (HRe.out _).mono ?_
  rintro e w' ⟨rfl, hb⟩
  have HB : Hid (Cat _ _ _) := HB.out.step hb
  clear hb
  go_wp2_with fail
  go_at_call 23
  refine (HPa.out _).mono ?_
  rintro e w' ⟨rfl, hb⟩
  have HB : Hid (Cat _ _ _) := HB.out.step hb
  clear hb
  go_wp2_with fail
  go_at_call 7
  refine (error_one _ _ (HG.out _ HB.out)).mono ?_
  rintro e w' ⟨rfl, hb⟩
  have HB : Hid (Cat _ _ _) := HB.out.step hb
  clear hb
  go_wp2_with fail
  go_at_call 24
  refine (ints_none _).mono ?_
  rintro e w' ⟨rfl, hb⟩
  have HB : Hid (Cat _ _ _) := HB.out.step hb
  clear hb
  go_wp2
  go_ret
  exact ⟨rfl, HW.out.1.trans (HB.out.1.mono HW.out.2)⟩

set_option linter.unusedVariables false in
set_option maxRecDepth 100000 in
set_option maxHeartbeats 2000000 in
theorem termTells_wd_bad (t : List Int) (B off n cap : Nat) (s : ByteArray) (u a b c : Int) (w : World) (hR : Reads w (.slice (some ⟨B, off, none⟩) n cap) t) (hn : n = t.length) (hcap : t.length ≤ cap) (hLi : Lies w B off t) (hL : Laid w) (hz : s.size ≤ 1048576) (hf : faultN t = 0) (hok : ¬ (Wd.mk u a b c).ok = true) (hs : lettersB s.data.toList = true) (hs2 : ¬ faultN (readN s.data.toList) = 0) :
    Calls Tryd.prog 5 #[.slice (some ⟨B, off, none⟩) n cap, .agg #[.int .i64 u, .int .i64 a, .int .i64 b, .int .i64 c], .string s] w fun e w' => e = .returned (.bool true) ∧ Below w.heap.size w w' := by
  subst hn
  obtain ⟨w1, hw1⟩ : ∃ w1, w1 = w.alloc (.cells #[.int .i64 u, .int .i64 a, .int .i64 b, .int .i64 c] 39) := ⟨_, rfl⟩
  have HB : Hid (Cat w1.heap.size w1 w1) := ⟨Below.refl _ _, Nat.le_refl _⟩
  have HW : Hid (Below w.heap.size w w1 ∧ w.heap.size ≤ w1.heap.size) := by
    refine ⟨?_, ?_⟩
    · rw [hw1]; exact below_alloc1 _ _
    · rw [hw1]; simp
  have HX : Hid (∀ W, Cat w1.heap.size w1 W → W.cell? ⟨w.heap.size, 0, none⟩ = some (.int .i64 u) ∧ W.cell? ⟨w.heap.size, 1, none⟩ = some (.int .i64 a) ∧ W.cell? ⟨w.heap.size, 2, none⟩ = some (.int .i64 b) ∧ W.cell? ⟨w.heap.size, 3, none⟩ = some (.int .i64 c)) := fun W hc => by
    have hlt : w.heap.size < w1.heap.size := by rw [hw1]; simp
    rw [hc.1.cell (p := ⟨w.heap.size, 0, none⟩) hlt, hc.1.cell (p := ⟨w.heap.size, 1, none⟩) hlt, hc.1.cell (p := ⟨w.heap.size, 2, none⟩) hlt, hc.1.cell (p := ⟨w.heap.size, 3, none⟩) hlt, hw1]
    simp
  have HG : Hid (∀ W, Cat w1.heap.size w1 W → Laid W) := fun W hc => (hL.below HW.out.1).below hc.1
  have HRd : Hid (∀ W, Cat w1.heap.size w1 W → Reads W (.slice (some ⟨B, off, none⟩) t.length cap) t) := fun W hc => (hR.below HW.out.1).below hc.1
  have HT : Hid (∀ W, Cat w1.heap.size w1 W → Calls Tryd.prog 15 #[(.slice (some ⟨B, off, none⟩) t.length cap)] W fun e w' => e = .returned (.int .i64 0) ∧ W = w') := fun W hc => by
    have := refTerm_any t (.slice (some ⟨B, off, none⟩) t.length cap) W (HRd.out W hc)
    rw [hf] at this; exact this
  have HCk : Hid (∀ W, Cat w1.heap.size w1 W → Calls Tryd.prog 16 #[(.slice (some ⟨B, off, none⟩) t.length cap)] W fun e w' => e = .returned (.nilIface) ∧ W = w') := fun W hc => by
    have := tcheck_any t (.slice (some ⟨B, off, none⟩) t.length cap) W (HRd.out W hc)
    rw [hf] at this; exact this
  obtain ⟨P, hP⟩ : ∃ P, P = strOf (textN t) := ⟨_, rfl⟩
  have HTx : Hid (∀ W, Cat w1.heap.size w1 W → Calls Tryd.prog 17 #[(.slice (some ⟨B, off, none⟩) t.length cap)] W fun e w' => e = .returned (.string P) ∧ Below W.heap.size W w') := fun W hc => by
    rw [hP]; exact refText_any t B off cap W hf ((hLi.below HW.out.1).below hc.1)
  have HPr : Hid (∀ W, Cat w1.heap.size w1 W → Calls Tryd.prog 18 #[(.slice (some ⟨B, off, none⟩) t.length cap)] W fun e w' => e = .returned (.tuple #[.string P, .nilIface]) ∧ Below W.heap.size W w') := fun W hc => by
    have := print_any t (.slice (some ⟨B, off, none⟩) t.length cap) W (HRd.out W hc)
    have e1 : printS t = P := by unfold printS; rw [if_pos hf, hP]
    rw [e1, hf] at this; exact this
  have HWo : Hid (∀ W, Cat w1.heap.size w1 W → Calls Tryd.prog 19 #[.agg #[.int .i64 u, .int .i64 a, .int .i64 b, .int .i64 c]] W fun e w' => e = .returned (.int .i64 1) ∧ Below W.heap.size W w') := fun W hc => by
    have := refWorld_any u a b c W
    rw [if_neg hok] at this; exact this
  have HVa : Hid (∀ W, Cat w1.heap.size w1 W → Calls Tryd.prog 21 #[(.slice (some ⟨B, off, none⟩) t.length cap), .agg #[.int .i64 u, .int .i64 a, .int .i64 b, .int .i64 c]] W fun e w' => e = .returned (.tuple #[.int .i64 0, .iface 54 (.int .i64 1)]) ∧ Below W.heap.size W w') := fun W hc => by
    have := value_any t (.slice (some ⟨B, off, none⟩) t.length cap) u a b c W (HRd.out W hc)
    have e1 : (Wd.mk u a b c).answer t = 0 := by unfold Wd.answer; rw [if_pos hf, if_neg hok]
    have e2 : errV ((Wd.mk u a b c).fault t) = .iface 54 (.int .i64 1) := by unfold Wd.fault; rw [if_pos hf, if_neg hok]; rfl
    rw [e1, e2] at this; exact this
  clear hf hok HRd hP hLi hcap
  have htf : textFault s.data.toList = faultN (readN s.data.toList) := by unfold textFault; rw [if_pos hs]
  have HRe : Hid (∀ W, Calls Tryd.prog 22 #[.string s] W fun e w' => ∃ v, e = .returned (.tuple #[v, .bool true]) ∧ Reads w' v (readN s.data.toList) ∧ Below W.heap.size W w') := fun W => (readTerm_any s hz W).mono fun e w' h => by
    obtain ⟨v, he, hr⟩ := h.1 hs
    exact ⟨v, he, hr, h.2.2⟩
  have HRt : Hid (∀ v W, Reads W v (readN s.data.toList) → Calls Tryd.prog 15 #[v] W fun e w' => e = .returned (.int .i64 (faultN (readN s.data.toList))) ∧ W = w') := fun v W h => refTerm_any _ v W h
  have HPa : Hid (∀ W, Calls Tryd.prog 23 #[.string s] W fun e w' => e = .returned (.tuple #[.slice none 0 0, .iface 54 (.int .i64 (faultN (readN s.data.toList)))]) ∧ Below W.heap.size W w') := fun W => (parse_any s (by omega) W).mono fun e w' h => by
    obtain ⟨v, he, _, hv, hb⟩ := h
    rw [htf] at he hv
    rw [hv hs2, err_iface hs2] at he
    exact ⟨he, hb⟩
  obtain ⟨Fs, hFs⟩ : ∃ Fs, Fs = faultN (readN s.data.toList) := ⟨_, rfl⟩
  rw [← hFs] at HRt HPa hs2
  have hs0 : (Fs != 0) = true := by simpa using hs2
  clear hFs hs hs2 htf hz
  clear hL hR
  obtain ⟨n, hn⟩ : ∃ n, n = t.length := ⟨_, rfl⟩
  rw [← hn] at HT HCk HTx HPr HVa ⊢
  clear hn
  go_enter Tryd.func5, Tryd.ntmps5
  go_wp2_with fail
  rw [← hw1]
  clear hw1
  go_wp2_with fail
  go_at_call 15
  refine (HT.out _ HB.out).mono ?_
  rintro e w' ⟨rfl, rfl⟩
  go_wp2_with fail
  go_at_call 16
  refine (HCk.out _ HB.out).mono ?_
  rintro e w' ⟨rfl, rfl⟩
  go_wp2_with fail
  go_at_call 7
  refine (error_nil _).mono ?_
  rintro e w' ⟨rfl, rfl⟩
  go_wp2_with fail
  go_at_call 17
  refine (HTx.out _ HB.out).mono ?_
  rintro e w' ⟨rfl, hb⟩
  have HB : Hid (Cat _ _ _) := HB.out.step hb
  clear hb
  go_wp2_with fail
  go_at_call 18
  refine (HPr.out _ HB.out).mono ?_
  rintro e w' ⟨rfl, hb⟩
  have HB : Hid (Cat _ _ _) := HB.out.step hb
  clear hb
  go_wp2_with fail
  go_at_call 7
  refine (error_nil _).mono ?_
  rintro e w' ⟨rfl, rfl⟩
  obtain ⟨x0, x1, x2, x3⟩ := HX.out _ HB.out
  go_wp2_with fail
  go_at_call 19
  refine (HWo.out _ HB.out).mono ?_
  rintro e w' ⟨rfl, hb⟩
  have HB : Hid (Cat _ _ _) := HB.out.step hb
  clear hb
  clear x0 x1 x2 x3
  obtain ⟨x0, x1, x2, x3⟩ := HX.out _ HB.out
  go_wp2_with fail
  go_at_call 21
  refine (HVa.out _ HB.out).mono ?_
  rintro e w' ⟨rfl, hb⟩
  have HB : Hid (Cat _ _ _) := HB.out.step hb
  clear hb
  clear x0 x1 x2 x3
  go_wp2_with fail
  go_at_call 7
  refine (error_one _ _ (HG.out _ HB.out)).mono ?_
  rintro e w' ⟨rfl, hb⟩
  have HB : Hid (Cat _ _ _) := HB.out.step hb
  clear hb
  go_wp2_with fail
  go_at_call 22
  refine (HRe.out _).mono ?_
  rintro e w' ⟨vl, rfl, hrl, hb⟩
  have HB : Hid (Cat _ _ _) := HB.out.step hb
  clear hb
  have HRl : Hid (Reads _ _ _) := hrl
  clear hrl
  go_wp2_with fail
  go_at_call 15
  refine (HRt.out _ _ HRl.out).mono ?_
  rintro e w' ⟨rfl, rfl⟩
  clear HRl
  go_wp2_with fail
  go_at_call 23
  refine (HPa.out _).mono ?_
  rintro e w' ⟨rfl, hb⟩
  have HB : Hid (Cat _ _ _) := HB.out.step hb
  clear hb
  go_wp2_with fail
  go_at_call 7
  refine (error_one _ _ (HG.out _ HB.out)).mono ?_
  rintro e w' ⟨rfl, hb⟩
  have HB : Hid (Cat _ _ _) := HB.out.step hb
  clear hb
  go_wp2_with fail
  go_at_call 24
  refine (ints_none _).mono ?_
  rintro e w' ⟨rfl, hb⟩
  have HB : Hid (Cat _ _ _) := HB.out.step hb
  clear hb
  go_wp2
  go_ret
  exact ⟨rfl, HW.out.1.trans (HB.out.1.mono HW.out.2)⟩

set_option linter.unusedVariables false in
set_option maxRecDepth 100000 in
set_option maxHeartbeats 2000000 in
theorem termTells_wd_good (t : List Int) (B off n cap : Nat) (s : ByteArray) (u a b c : Int) (w : World) (hR : Reads w (.slice (some ⟨B, off, none⟩) n cap) t) (hn : n = t.length) (hcap : t.length ≤ cap) (hLi : Lies w B off t) (hL : Laid w) (hz : s.size ≤ 1048576) (hf : faultN t = 0) (hok : ¬ (Wd.mk u a b c).ok = true) (hs : lettersB s.data.toList = true) (hs2 : faultN (readN s.data.toList) = 0) :
    Calls Tryd.prog 5 #[.slice (some ⟨B, off, none⟩) n cap, .agg #[.int .i64 u, .int .i64 a, .int .i64 b, .int .i64 c], .string s] w fun e w' => e = .returned (.bool true) ∧ Below w.heap.size w w' := by
  subst hn
  obtain ⟨w1, hw1⟩ : ∃ w1, w1 = w.alloc (.cells #[.int .i64 u, .int .i64 a, .int .i64 b, .int .i64 c] 39) := ⟨_, rfl⟩
  have HB : Hid (Cat w1.heap.size w1 w1) := ⟨Below.refl _ _, Nat.le_refl _⟩
  have HW : Hid (Below w.heap.size w w1 ∧ w.heap.size ≤ w1.heap.size) := by
    refine ⟨?_, ?_⟩
    · rw [hw1]; exact below_alloc1 _ _
    · rw [hw1]; simp
  have HX : Hid (∀ W, Cat w1.heap.size w1 W → W.cell? ⟨w.heap.size, 0, none⟩ = some (.int .i64 u) ∧ W.cell? ⟨w.heap.size, 1, none⟩ = some (.int .i64 a) ∧ W.cell? ⟨w.heap.size, 2, none⟩ = some (.int .i64 b) ∧ W.cell? ⟨w.heap.size, 3, none⟩ = some (.int .i64 c)) := fun W hc => by
    have hlt : w.heap.size < w1.heap.size := by rw [hw1]; simp
    rw [hc.1.cell (p := ⟨w.heap.size, 0, none⟩) hlt, hc.1.cell (p := ⟨w.heap.size, 1, none⟩) hlt, hc.1.cell (p := ⟨w.heap.size, 2, none⟩) hlt, hc.1.cell (p := ⟨w.heap.size, 3, none⟩) hlt, hw1]
    simp
  have HG : Hid (∀ W, Cat w1.heap.size w1 W → Laid W) := fun W hc => (hL.below HW.out.1).below hc.1
  have HRd : Hid (∀ W, Cat w1.heap.size w1 W → Reads W (.slice (some ⟨B, off, none⟩) t.length cap) t) := fun W hc => (hR.below HW.out.1).below hc.1
  have HT : Hid (∀ W, Cat w1.heap.size w1 W → Calls Tryd.prog 15 #[(.slice (some ⟨B, off, none⟩) t.length cap)] W fun e w' => e = .returned (.int .i64 0) ∧ W = w') := fun W hc => by
    have := refTerm_any t (.slice (some ⟨B, off, none⟩) t.length cap) W (HRd.out W hc)
    rw [hf] at this; exact this
  have HCk : Hid (∀ W, Cat w1.heap.size w1 W → Calls Tryd.prog 16 #[(.slice (some ⟨B, off, none⟩) t.length cap)] W fun e w' => e = .returned (.nilIface) ∧ W = w') := fun W hc => by
    have := tcheck_any t (.slice (some ⟨B, off, none⟩) t.length cap) W (HRd.out W hc)
    rw [hf] at this; exact this
  obtain ⟨P, hP⟩ : ∃ P, P = strOf (textN t) := ⟨_, rfl⟩
  have HTx : Hid (∀ W, Cat w1.heap.size w1 W → Calls Tryd.prog 17 #[(.slice (some ⟨B, off, none⟩) t.length cap)] W fun e w' => e = .returned (.string P) ∧ Below W.heap.size W w') := fun W hc => by
    rw [hP]; exact refText_any t B off cap W hf ((hLi.below HW.out.1).below hc.1)
  have HPr : Hid (∀ W, Cat w1.heap.size w1 W → Calls Tryd.prog 18 #[(.slice (some ⟨B, off, none⟩) t.length cap)] W fun e w' => e = .returned (.tuple #[.string P, .nilIface]) ∧ Below W.heap.size W w') := fun W hc => by
    have := print_any t (.slice (some ⟨B, off, none⟩) t.length cap) W (HRd.out W hc)
    have e1 : printS t = P := by unfold printS; rw [if_pos hf, hP]
    rw [e1, hf] at this; exact this
  have HWo : Hid (∀ W, Cat w1.heap.size w1 W → Calls Tryd.prog 19 #[.agg #[.int .i64 u, .int .i64 a, .int .i64 b, .int .i64 c]] W fun e w' => e = .returned (.int .i64 1) ∧ Below W.heap.size W w') := fun W hc => by
    have := refWorld_any u a b c W
    rw [if_neg hok] at this; exact this
  have HVa : Hid (∀ W, Cat w1.heap.size w1 W → Calls Tryd.prog 21 #[(.slice (some ⟨B, off, none⟩) t.length cap), .agg #[.int .i64 u, .int .i64 a, .int .i64 b, .int .i64 c]] W fun e w' => e = .returned (.tuple #[.int .i64 0, .iface 54 (.int .i64 1)]) ∧ Below W.heap.size W w') := fun W hc => by
    have := value_any t (.slice (some ⟨B, off, none⟩) t.length cap) u a b c W (HRd.out W hc)
    have e1 : (Wd.mk u a b c).answer t = 0 := by unfold Wd.answer; rw [if_pos hf, if_neg hok]
    have e2 : errV ((Wd.mk u a b c).fault t) = .iface 54 (.int .i64 1) := by unfold Wd.fault; rw [if_pos hf, if_neg hok]; rfl
    rw [e1, e2] at this; exact this
  clear hf hok HRd hP hLi hcap
  have htf : textFault s.data.toList = 0 := by unfold textFault; rw [if_pos hs]; exact hs2
  have HRe : Hid (∀ W, Calls Tryd.prog 22 #[.string s] W fun e w' => ∃ v, e = .returned (.tuple #[v, .bool true]) ∧ Reads w' v (readN s.data.toList) ∧ Below W.heap.size W w') := fun W => (readTerm_any s hz W).mono fun e w' h => by
    obtain ⟨v, he, hr⟩ := h.1 hs
    exact ⟨v, he, hr, h.2.2⟩
  have HRt : Hid (∀ v W, Reads W v (readN s.data.toList) → Calls Tryd.prog 15 #[v] W fun e w' => e = .returned (.int .i64 0) ∧ W = w') := fun v W h => by
    have := refTerm_any _ v W h
    rw [hs2] at this; exact this
  have HPa : Hid (∀ W, Calls Tryd.prog 23 #[.string s] W fun e w' => ∃ v, e = .returned (.tuple #[v, .nilIface]) ∧ Reads w' v (readN s.data.toList) ∧ Below W.heap.size W w') := fun W => (parse_any s (by omega) W).mono fun e w' h => by
    obtain ⟨v, he, hr, _, hb⟩ := h
    rw [htf] at he
    exact ⟨v, he, hr htf, hb⟩
  clear hs hs2 htf hz
  clear hL hR
  obtain ⟨n, hn⟩ : ∃ n, n = t.length := ⟨_, rfl⟩
  rw [← hn] at HT HCk HTx HPr HVa ⊢
  clear hn
  go_enter Tryd.func5, Tryd.ntmps5
  go_wp2_with fail
  rw [← hw1]
  clear hw1
  go_wp2_with fail
  go_at_call 15
  refine (HT.out _ HB.out).mono ?_
  rintro e w' ⟨rfl, rfl⟩
  go_wp2_with fail
  go_at_call 16
  refine (HCk.out _ HB.out).mono ?_
  rintro e w' ⟨rfl, rfl⟩
  go_wp2_with fail
  go_at_call 7
  refine (error_nil _).mono ?_
  rintro e w' ⟨rfl, rfl⟩
  go_wp2_with fail
  go_at_call 17
  refine (HTx.out _ HB.out).mono ?_
  rintro e w' ⟨rfl, hb⟩
  have HB : Hid (Cat _ _ _) := HB.out.step hb
  clear hb
  go_wp2_with fail
  go_at_call 18
  refine (HPr.out _ HB.out).mono ?_
  rintro e w' ⟨rfl, hb⟩
  have HB : Hid (Cat _ _ _) := HB.out.step hb
  clear hb
  go_wp2_with fail
  go_at_call 7
  refine (error_nil _).mono ?_
  rintro e w' ⟨rfl, rfl⟩
  obtain ⟨x0, x1, x2, x3⟩ := HX.out _ HB.out
  go_wp2_with fail
  go_at_call 19
  refine (HWo.out _ HB.out).mono ?_
  rintro e w' ⟨rfl, hb⟩
  have HB : Hid (Cat _ _ _) := HB.out.step hb
  clear hb
  clear x0 x1 x2 x3
  obtain ⟨x0, x1, x2, x3⟩ := HX.out _ HB.out
  go_wp2_with fail
  go_at_call 21
  refine (HVa.out _ HB.out).mono ?_
  rintro e w' ⟨rfl, hb⟩
  have HB : Hid (Cat _ _ _) := HB.out.step hb
  clear hb
  clear x0 x1 x2 x3
  go_wp2_with fail
  go_at_call 7
  refine (error_one _ _ (HG.out _ HB.out)).mono ?_
  rintro e w' ⟨rfl, hb⟩
  have HB : Hid (Cat _ _ _) := HB.out.step hb
  clear hb
  go_wp2_with fail
  go_at_call 22
  refine (HRe.out _).mono ?_
  rintro e w' ⟨vl, rfl, hrl, hb⟩
  have HB : Hid (Cat _ _ _) := HB.out.step hb
  clear hb
  have HRl : Hid (Reads _ _ _) := hrl
  clear hrl
  go_wp2_with fail
  go_at_call 15
  refine (HRt.out _ _ HRl.out).mono ?_
  rintro e w' ⟨rfl, rfl⟩
  go_wp2_with fail
  go_at_call 23
  refine (HPa.out _).mono ?_
  rintro e w' ⟨vy, rfl, hry, hb⟩
  have HRl : Hid (Reads _ _ _) := HRl.out.below hb
  have HRy : Hid (Reads _ _ _) := hry
  have HB : Hid (Cat _ _ _) := HB.out.step hb
  clear hb
  clear hry
  go_wp2_with fail
  go_at_call 7
  refine (error_nil _).mono ?_
  rintro e w' ⟨rfl, rfl⟩
  go_wp2_with fail
  go_at_call 24
  refine (ints_same _ _ _ _ HRy.out HRl.out).mono ?_
  rintro e w' ⟨rfl, hb⟩
  have HB : Hid (Cat _ _ _) := HB.out.step hb
  clear hb
  go_wp2
  go_ret
  exact ⟨rfl, HW.out.1.trans (HB.out.1.mono HW.out.2)⟩

set_option linter.unusedVariables false in
set_option maxRecDepth 100000 in
set_option maxHeartbeats 2000000 in
theorem termTells_good_syn (t : List Int) (B off n cap : Nat) (s : ByteArray) (u a b c : Int) (w : World) (hR : Reads w (.slice (some ⟨B, off, none⟩) n cap) t) (hn : n = t.length) (hcap : t.length ≤ cap) (hLi : Lies w B off t) (hL : Laid w) (hz : s.size ≤ 1048576) (hf : faultN t = 0) (hok : (Wd.mk u a b c).ok = true) (hs : lettersB s.data.toList = false) :
    Calls Tryd.prog 5 #[.slice (some ⟨B, off, none⟩) n cap, .agg #[.int .i64 u, .int .i64 a, .int .i64 b, .int .i64 c], .string s] w fun e w' => e = .returned (.bool true) ∧ Below w.heap.size w w' := by
  subst hn
  obtain ⟨w1, hw1⟩ : ∃ w1, w1 = w.alloc (.cells #[.int .i64 u, .int .i64 a, .int .i64 b, .int .i64 c] 39) := ⟨_, rfl⟩
  have HB : Hid (Cat w1.heap.size w1 w1) := ⟨Below.refl _ _, Nat.le_refl _⟩
  have HW : Hid (Below w.heap.size w w1 ∧ w.heap.size ≤ w1.heap.size) := by
    refine ⟨?_, ?_⟩
    · rw [hw1]; exact below_alloc1 _ _
    · rw [hw1]; simp
  have HX : Hid (∀ W, Cat w1.heap.size w1 W → W.cell? ⟨w.heap.size, 0, none⟩ = some (.int .i64 u) ∧ W.cell? ⟨w.heap.size, 1, none⟩ = some (.int .i64 a) ∧ W.cell? ⟨w.heap.size, 2, none⟩ = some (.int .i64 b) ∧ W.cell? ⟨w.heap.size, 3, none⟩ = some (.int .i64 c)) := fun W hc => by
    have hlt : w.heap.size < w1.heap.size := by rw [hw1]; simp
    rw [hc.1.cell (p := ⟨w.heap.size, 0, none⟩) hlt, hc.1.cell (p := ⟨w.heap.size, 1, none⟩) hlt, hc.1.cell (p := ⟨w.heap.size, 2, none⟩) hlt, hc.1.cell (p := ⟨w.heap.size, 3, none⟩) hlt, hw1]
    simp
  have HG : Hid (∀ W, Cat w1.heap.size w1 W → Laid W) := fun W hc => (hL.below HW.out.1).below hc.1
  have HRd : Hid (∀ W, Cat w1.heap.size w1 W → Reads W (.slice (some ⟨B, off, none⟩) t.length cap) t) := fun W hc => (hR.below HW.out.1).below hc.1
  have HT : Hid (∀ W, Cat w1.heap.size w1 W → Calls Tryd.prog 15 #[(.slice (some ⟨B, off, none⟩) t.length cap)] W fun e w' => e = .returned (.int .i64 0) ∧ W = w') := fun W hc => by
    have := refTerm_any t (.slice (some ⟨B, off, none⟩) t.length cap) W (HRd.out W hc)
    rw [hf] at this; exact this
  have HCk : Hid (∀ W, Cat w1.heap.size w1 W → Calls Tryd.prog 16 #[(.slice (some ⟨B, off, none⟩) t.length cap)] W fun e w' => e = .returned (.nilIface) ∧ W = w') := fun W hc => by
    have := tcheck_any t (.slice (some ⟨B, off, none⟩) t.length cap) W (HRd.out W hc)
    rw [hf] at this; exact this
  obtain ⟨P, hP⟩ : ∃ P, P = strOf (textN t) := ⟨_, rfl⟩
  have HTx : Hid (∀ W, Cat w1.heap.size w1 W → Calls Tryd.prog 17 #[(.slice (some ⟨B, off, none⟩) t.length cap)] W fun e w' => e = .returned (.string P) ∧ Below W.heap.size W w') := fun W hc => by
    rw [hP]; exact refText_any t B off cap W hf ((hLi.below HW.out.1).below hc.1)
  have HPr : Hid (∀ W, Cat w1.heap.size w1 W → Calls Tryd.prog 18 #[(.slice (some ⟨B, off, none⟩) t.length cap)] W fun e w' => e = .returned (.tuple #[.string P, .nilIface]) ∧ Below W.heap.size W w') := fun W hc => by
    have := print_any t (.slice (some ⟨B, off, none⟩) t.length cap) W (HRd.out W hc)
    have e1 : printS t = P := by unfold printS; rw [if_pos hf, hP]
    rw [e1, hf] at this; exact this
  have HWo : Hid (∀ W, Cat w1.heap.size w1 W → Calls Tryd.prog 19 #[.agg #[.int .i64 u, .int .i64 a, .int .i64 b, .int .i64 c]] W fun e w' => e = .returned (.int .i64 0) ∧ Below W.heap.size W w') := fun W hc => by
    have := refWorld_any u a b c W
    rw [if_pos hok] at this; exact this
  obtain ⟨A, hA⟩ : ∃ A, A = (Wd.mk u a b c).val t := ⟨_, rfl⟩
  have HRv : Hid (∀ W, Cat w1.heap.size w1 W → Calls Tryd.prog 20 #[(.slice (some ⟨B, off, none⟩) t.length cap), .agg #[.int .i64 u, .int .i64 a, .int .i64 b, .int .i64 c]] W fun e w' => e = .returned (.int .i64 A) ∧ Below W.heap.size W w') := fun W hc => by
    rw [hA]; exact refValue_any t hf u a b c hok B off cap hcap W ((hLi.below HW.out.1).below hc.1)
  have HVa : Hid (∀ W, Cat w1.heap.size w1 W → Calls Tryd.prog 21 #[(.slice (some ⟨B, off, none⟩) t.length cap), .agg #[.int .i64 u, .int .i64 a, .int .i64 b, .int .i64 c]] W fun e w' => e = .returned (.tuple #[.int .i64 A, .nilIface]) ∧ Below W.heap.size W w') := fun W hc => by
    have := value_any t (.slice (some ⟨B, off, none⟩) t.length cap) u a b c W (HRd.out W hc)
    have e1 : (Wd.mk u a b c).answer t = A := by unfold Wd.answer; rw [if_pos hf, if_pos hok, hA]
    have e2 : errV ((Wd.mk u a b c).fault t) = .nilIface := by unfold Wd.fault; rw [if_pos hf, if_pos hok]; rfl
    rw [e1, e2] at this; exact this
  clear hf hok HRd hP hA hLi hcap
  have HRe : Hid (∀ W, Calls Tryd.prog 22 #[.string s] W fun e w' => e = .returned (.tuple #[.slice none 0 0, .bool false]) ∧ Below W.heap.size W w') := fun W => (readTerm_any s hz W).mono fun e w' h => ⟨h.2.1 hs, h.2.2⟩
  have HPa : Hid (∀ W, Calls Tryd.prog 23 #[.string s] W fun e w' => e = .returned (.tuple #[.slice none 0 0, .iface 54 (.int .i64 2)]) ∧ Below W.heap.size W w') := fun W => parse_syntax s hs W
  clear hs hz
  clear hL hR
  obtain ⟨n, hn⟩ : ∃ n, n = t.length := ⟨_, rfl⟩
  rw [← hn] at HT HCk HTx HPr HVa HRv ⊢
  clear hn
  go_enter Tryd.func5, Tryd.ntmps5
  go_wp2_with fail
  rw [← hw1]
  clear hw1
  go_wp2_with fail
  go_at_call 15
  refine (HT.out _ HB.out).mono ?_
  rintro e w' ⟨rfl, rfl⟩
  go_wp2_with fail
  go_at_call 16
  refine (HCk.out _ HB.out).mono ?_
  rintro e w' ⟨rfl, rfl⟩
  go_wp2_with fail
  go_at_call 7
  refine (error_nil _).mono ?_
  rintro e w' ⟨rfl, rfl⟩
  go_wp2_with fail
  go_at_call 17
  refine (HTx.out _ HB.out).mono ?_
  rintro e w' ⟨rfl, hb⟩
  have HB : Hid (Cat _ _ _) := HB.out.step hb
  clear hb
  go_wp2_with fail
  go_at_call 18
  refine (HPr.out _ HB.out).mono ?_
  rintro e w' ⟨rfl, hb⟩
  have HB : Hid (Cat _ _ _) := HB.out.step hb
  clear hb
  go_wp2_with fail
  go_at_call 7
  refine (error_nil _).mono ?_
  rintro e w' ⟨rfl, rfl⟩
  obtain ⟨x0, x1, x2, x3⟩ := HX.out _ HB.out
  go_wp2_with fail
  go_at_call 19
  refine (HWo.out _ HB.out).mono ?_
  rintro e w' ⟨rfl, hb⟩
  have HB : Hid (Cat _ _ _) := HB.out.step hb
  clear hb
  clear x0 x1 x2 x3
  obtain ⟨x0, x1, x2, x3⟩ := HX.out _ HB.out
  go_wp2_with fail
  go_at_call 20
  refine (HRv.out _ HB.out).mono ?_
  rintro e w' ⟨rfl, hb⟩
  have HB : Hid (Cat _ _ _) := HB.out.step hb
  clear hb
  clear x0 x1 x2 x3
  obtain ⟨x0, x1, x2, x3⟩ := HX.out _ HB.out
  go_wp2_with fail
  go_at_call 21
  refine (HVa.out _ HB.out).mono ?_
  rintro e w' ⟨rfl, hb⟩
  have HB : Hid (Cat _ _ _) := HB.out.step hb
  clear hb
  clear x0 x1 x2 x3
  go_wp2_with fail
  go_at_call 7
  refine (error_nil _).mono ?_
  rintro e w' ⟨rfl, rfl⟩
  go_wp2_with fail
  go_at_call 22
  refine (HRe.out _).mono ?_
  rintro e w' ⟨rfl, hb⟩
  have HB : Hid (Cat _ _ _) := HB.out.step hb
  clear hb
  go_wp2_with fail
  go_at_call 23
  refine (HPa.out _).mono ?_
  rintro e w' ⟨rfl, hb⟩
  have HB : Hid (Cat _ _ _) := HB.out.step hb
  clear hb
  go_wp2_with fail
  go_at_call 7
  refine (error_one _ _ (HG.out _ HB.out)).mono ?_
  rintro e w' ⟨rfl, hb⟩
  have HB : Hid (Cat _ _ _) := HB.out.step hb
  clear hb
  go_wp2_with fail
  go_at_call 24
  refine (ints_none _).mono ?_
  rintro e w' ⟨rfl, hb⟩
  have HB : Hid (Cat _ _ _) := HB.out.step hb
  clear hb
  go_wp2
  go_ret
  exact ⟨rfl, HW.out.1.trans (HB.out.1.mono HW.out.2)⟩

set_option linter.unusedVariables false in
set_option maxRecDepth 100000 in
set_option maxHeartbeats 2000000 in
theorem termTells_good_bad (t : List Int) (B off n cap : Nat) (s : ByteArray) (u a b c : Int) (w : World) (hR : Reads w (.slice (some ⟨B, off, none⟩) n cap) t) (hn : n = t.length) (hcap : t.length ≤ cap) (hLi : Lies w B off t) (hL : Laid w) (hz : s.size ≤ 1048576) (hf : faultN t = 0) (hok : (Wd.mk u a b c).ok = true) (hs : lettersB s.data.toList = true) (hs2 : ¬ faultN (readN s.data.toList) = 0) :
    Calls Tryd.prog 5 #[.slice (some ⟨B, off, none⟩) n cap, .agg #[.int .i64 u, .int .i64 a, .int .i64 b, .int .i64 c], .string s] w fun e w' => e = .returned (.bool true) ∧ Below w.heap.size w w' := by
  subst hn
  obtain ⟨w1, hw1⟩ : ∃ w1, w1 = w.alloc (.cells #[.int .i64 u, .int .i64 a, .int .i64 b, .int .i64 c] 39) := ⟨_, rfl⟩
  have HB : Hid (Cat w1.heap.size w1 w1) := ⟨Below.refl _ _, Nat.le_refl _⟩
  have HW : Hid (Below w.heap.size w w1 ∧ w.heap.size ≤ w1.heap.size) := by
    refine ⟨?_, ?_⟩
    · rw [hw1]; exact below_alloc1 _ _
    · rw [hw1]; simp
  have HX : Hid (∀ W, Cat w1.heap.size w1 W → W.cell? ⟨w.heap.size, 0, none⟩ = some (.int .i64 u) ∧ W.cell? ⟨w.heap.size, 1, none⟩ = some (.int .i64 a) ∧ W.cell? ⟨w.heap.size, 2, none⟩ = some (.int .i64 b) ∧ W.cell? ⟨w.heap.size, 3, none⟩ = some (.int .i64 c)) := fun W hc => by
    have hlt : w.heap.size < w1.heap.size := by rw [hw1]; simp
    rw [hc.1.cell (p := ⟨w.heap.size, 0, none⟩) hlt, hc.1.cell (p := ⟨w.heap.size, 1, none⟩) hlt, hc.1.cell (p := ⟨w.heap.size, 2, none⟩) hlt, hc.1.cell (p := ⟨w.heap.size, 3, none⟩) hlt, hw1]
    simp
  have HG : Hid (∀ W, Cat w1.heap.size w1 W → Laid W) := fun W hc => (hL.below HW.out.1).below hc.1
  have HRd : Hid (∀ W, Cat w1.heap.size w1 W → Reads W (.slice (some ⟨B, off, none⟩) t.length cap) t) := fun W hc => (hR.below HW.out.1).below hc.1
  have HT : Hid (∀ W, Cat w1.heap.size w1 W → Calls Tryd.prog 15 #[(.slice (some ⟨B, off, none⟩) t.length cap)] W fun e w' => e = .returned (.int .i64 0) ∧ W = w') := fun W hc => by
    have := refTerm_any t (.slice (some ⟨B, off, none⟩) t.length cap) W (HRd.out W hc)
    rw [hf] at this; exact this
  have HCk : Hid (∀ W, Cat w1.heap.size w1 W → Calls Tryd.prog 16 #[(.slice (some ⟨B, off, none⟩) t.length cap)] W fun e w' => e = .returned (.nilIface) ∧ W = w') := fun W hc => by
    have := tcheck_any t (.slice (some ⟨B, off, none⟩) t.length cap) W (HRd.out W hc)
    rw [hf] at this; exact this
  obtain ⟨P, hP⟩ : ∃ P, P = strOf (textN t) := ⟨_, rfl⟩
  have HTx : Hid (∀ W, Cat w1.heap.size w1 W → Calls Tryd.prog 17 #[(.slice (some ⟨B, off, none⟩) t.length cap)] W fun e w' => e = .returned (.string P) ∧ Below W.heap.size W w') := fun W hc => by
    rw [hP]; exact refText_any t B off cap W hf ((hLi.below HW.out.1).below hc.1)
  have HPr : Hid (∀ W, Cat w1.heap.size w1 W → Calls Tryd.prog 18 #[(.slice (some ⟨B, off, none⟩) t.length cap)] W fun e w' => e = .returned (.tuple #[.string P, .nilIface]) ∧ Below W.heap.size W w') := fun W hc => by
    have := print_any t (.slice (some ⟨B, off, none⟩) t.length cap) W (HRd.out W hc)
    have e1 : printS t = P := by unfold printS; rw [if_pos hf, hP]
    rw [e1, hf] at this; exact this
  have HWo : Hid (∀ W, Cat w1.heap.size w1 W → Calls Tryd.prog 19 #[.agg #[.int .i64 u, .int .i64 a, .int .i64 b, .int .i64 c]] W fun e w' => e = .returned (.int .i64 0) ∧ Below W.heap.size W w') := fun W hc => by
    have := refWorld_any u a b c W
    rw [if_pos hok] at this; exact this
  obtain ⟨A, hA⟩ : ∃ A, A = (Wd.mk u a b c).val t := ⟨_, rfl⟩
  have HRv : Hid (∀ W, Cat w1.heap.size w1 W → Calls Tryd.prog 20 #[(.slice (some ⟨B, off, none⟩) t.length cap), .agg #[.int .i64 u, .int .i64 a, .int .i64 b, .int .i64 c]] W fun e w' => e = .returned (.int .i64 A) ∧ Below W.heap.size W w') := fun W hc => by
    rw [hA]; exact refValue_any t hf u a b c hok B off cap hcap W ((hLi.below HW.out.1).below hc.1)
  have HVa : Hid (∀ W, Cat w1.heap.size w1 W → Calls Tryd.prog 21 #[(.slice (some ⟨B, off, none⟩) t.length cap), .agg #[.int .i64 u, .int .i64 a, .int .i64 b, .int .i64 c]] W fun e w' => e = .returned (.tuple #[.int .i64 A, .nilIface]) ∧ Below W.heap.size W w') := fun W hc => by
    have := value_any t (.slice (some ⟨B, off, none⟩) t.length cap) u a b c W (HRd.out W hc)
    have e1 : (Wd.mk u a b c).answer t = A := by unfold Wd.answer; rw [if_pos hf, if_pos hok, hA]
    have e2 : errV ((Wd.mk u a b c).fault t) = .nilIface := by unfold Wd.fault; rw [if_pos hf, if_pos hok]; rfl
    rw [e1, e2] at this; exact this
  clear hf hok HRd hP hA hLi hcap
  have htf : textFault s.data.toList = faultN (readN s.data.toList) := by unfold textFault; rw [if_pos hs]
  have HRe : Hid (∀ W, Calls Tryd.prog 22 #[.string s] W fun e w' => ∃ v, e = .returned (.tuple #[v, .bool true]) ∧ Reads w' v (readN s.data.toList) ∧ Below W.heap.size W w') := fun W => (readTerm_any s hz W).mono fun e w' h => by
    obtain ⟨v, he, hr⟩ := h.1 hs
    exact ⟨v, he, hr, h.2.2⟩
  have HRt : Hid (∀ v W, Reads W v (readN s.data.toList) → Calls Tryd.prog 15 #[v] W fun e w' => e = .returned (.int .i64 (faultN (readN s.data.toList))) ∧ W = w') := fun v W h => refTerm_any _ v W h
  have HPa : Hid (∀ W, Calls Tryd.prog 23 #[.string s] W fun e w' => e = .returned (.tuple #[.slice none 0 0, .iface 54 (.int .i64 (faultN (readN s.data.toList)))]) ∧ Below W.heap.size W w') := fun W => (parse_any s (by omega) W).mono fun e w' h => by
    obtain ⟨v, he, _, hv, hb⟩ := h
    rw [htf] at he hv
    rw [hv hs2, err_iface hs2] at he
    exact ⟨he, hb⟩
  obtain ⟨Fs, hFs⟩ : ∃ Fs, Fs = faultN (readN s.data.toList) := ⟨_, rfl⟩
  rw [← hFs] at HRt HPa hs2
  have hs0 : (Fs != 0) = true := by simpa using hs2
  clear hFs hs hs2 htf hz
  clear hL hR
  obtain ⟨n, hn⟩ : ∃ n, n = t.length := ⟨_, rfl⟩
  rw [← hn] at HT HCk HTx HPr HVa HRv ⊢
  clear hn
  go_enter Tryd.func5, Tryd.ntmps5
  go_wp2_with fail
  rw [← hw1]
  clear hw1
  go_wp2_with fail
  go_at_call 15
  refine (HT.out _ HB.out).mono ?_
  rintro e w' ⟨rfl, rfl⟩
  go_wp2_with fail
  go_at_call 16
  refine (HCk.out _ HB.out).mono ?_
  rintro e w' ⟨rfl, rfl⟩
  go_wp2_with fail
  go_at_call 7
  refine (error_nil _).mono ?_
  rintro e w' ⟨rfl, rfl⟩
  go_wp2_with fail
  go_at_call 17
  refine (HTx.out _ HB.out).mono ?_
  rintro e w' ⟨rfl, hb⟩
  have HB : Hid (Cat _ _ _) := HB.out.step hb
  clear hb
  go_wp2_with fail
  go_at_call 18
  refine (HPr.out _ HB.out).mono ?_
  rintro e w' ⟨rfl, hb⟩
  have HB : Hid (Cat _ _ _) := HB.out.step hb
  clear hb
  go_wp2_with fail
  go_at_call 7
  refine (error_nil _).mono ?_
  rintro e w' ⟨rfl, rfl⟩
  obtain ⟨x0, x1, x2, x3⟩ := HX.out _ HB.out
  go_wp2_with fail
  go_at_call 19
  refine (HWo.out _ HB.out).mono ?_
  rintro e w' ⟨rfl, hb⟩
  have HB : Hid (Cat _ _ _) := HB.out.step hb
  clear hb
  clear x0 x1 x2 x3
  obtain ⟨x0, x1, x2, x3⟩ := HX.out _ HB.out
  go_wp2_with fail
  go_at_call 20
  refine (HRv.out _ HB.out).mono ?_
  rintro e w' ⟨rfl, hb⟩
  have HB : Hid (Cat _ _ _) := HB.out.step hb
  clear hb
  clear x0 x1 x2 x3
  obtain ⟨x0, x1, x2, x3⟩ := HX.out _ HB.out
  go_wp2_with fail
  go_at_call 21
  refine (HVa.out _ HB.out).mono ?_
  rintro e w' ⟨rfl, hb⟩
  have HB : Hid (Cat _ _ _) := HB.out.step hb
  clear hb
  clear x0 x1 x2 x3
  go_wp2_with fail
  go_at_call 7
  refine (error_nil _).mono ?_
  rintro e w' ⟨rfl, rfl⟩
  go_wp2_with fail
  go_at_call 22
  refine (HRe.out _).mono ?_
  rintro e w' ⟨vl, rfl, hrl, hb⟩
  have HB : Hid (Cat _ _ _) := HB.out.step hb
  clear hb
  have HRl : Hid (Reads _ _ _) := hrl
  clear hrl
  go_wp2_with fail
  go_at_call 15
  refine (HRt.out _ _ HRl.out).mono ?_
  rintro e w' ⟨rfl, rfl⟩
  clear HRl
  go_wp2_with fail
  go_at_call 23
  refine (HPa.out _).mono ?_
  rintro e w' ⟨rfl, hb⟩
  have HB : Hid (Cat _ _ _) := HB.out.step hb
  clear hb
  go_wp2_with fail
  go_at_call 7
  refine (error_one _ _ (HG.out _ HB.out)).mono ?_
  rintro e w' ⟨rfl, hb⟩
  have HB : Hid (Cat _ _ _) := HB.out.step hb
  clear hb
  go_wp2_with fail
  go_at_call 24
  refine (ints_none _).mono ?_
  rintro e w' ⟨rfl, hb⟩
  have HB : Hid (Cat _ _ _) := HB.out.step hb
  clear hb
  go_wp2
  go_ret
  exact ⟨rfl, HW.out.1.trans (HB.out.1.mono HW.out.2)⟩

set_option linter.unusedVariables false in
set_option maxRecDepth 100000 in
set_option maxHeartbeats 2000000 in
theorem termTells_good_good (t : List Int) (B off n cap : Nat) (s : ByteArray) (u a b c : Int) (w : World) (hR : Reads w (.slice (some ⟨B, off, none⟩) n cap) t) (hn : n = t.length) (hcap : t.length ≤ cap) (hLi : Lies w B off t) (hL : Laid w) (hz : s.size ≤ 1048576) (hf : faultN t = 0) (hok : (Wd.mk u a b c).ok = true) (hs : lettersB s.data.toList = true) (hs2 : faultN (readN s.data.toList) = 0) :
    Calls Tryd.prog 5 #[.slice (some ⟨B, off, none⟩) n cap, .agg #[.int .i64 u, .int .i64 a, .int .i64 b, .int .i64 c], .string s] w fun e w' => e = .returned (.bool true) ∧ Below w.heap.size w w' := by
  subst hn
  obtain ⟨w1, hw1⟩ : ∃ w1, w1 = w.alloc (.cells #[.int .i64 u, .int .i64 a, .int .i64 b, .int .i64 c] 39) := ⟨_, rfl⟩
  have HB : Hid (Cat w1.heap.size w1 w1) := ⟨Below.refl _ _, Nat.le_refl _⟩
  have HW : Hid (Below w.heap.size w w1 ∧ w.heap.size ≤ w1.heap.size) := by
    refine ⟨?_, ?_⟩
    · rw [hw1]; exact below_alloc1 _ _
    · rw [hw1]; simp
  have HX : Hid (∀ W, Cat w1.heap.size w1 W → W.cell? ⟨w.heap.size, 0, none⟩ = some (.int .i64 u) ∧ W.cell? ⟨w.heap.size, 1, none⟩ = some (.int .i64 a) ∧ W.cell? ⟨w.heap.size, 2, none⟩ = some (.int .i64 b) ∧ W.cell? ⟨w.heap.size, 3, none⟩ = some (.int .i64 c)) := fun W hc => by
    have hlt : w.heap.size < w1.heap.size := by rw [hw1]; simp
    rw [hc.1.cell (p := ⟨w.heap.size, 0, none⟩) hlt, hc.1.cell (p := ⟨w.heap.size, 1, none⟩) hlt, hc.1.cell (p := ⟨w.heap.size, 2, none⟩) hlt, hc.1.cell (p := ⟨w.heap.size, 3, none⟩) hlt, hw1]
    simp
  have HG : Hid (∀ W, Cat w1.heap.size w1 W → Laid W) := fun W hc => (hL.below HW.out.1).below hc.1
  have HRd : Hid (∀ W, Cat w1.heap.size w1 W → Reads W (.slice (some ⟨B, off, none⟩) t.length cap) t) := fun W hc => (hR.below HW.out.1).below hc.1
  have HT : Hid (∀ W, Cat w1.heap.size w1 W → Calls Tryd.prog 15 #[(.slice (some ⟨B, off, none⟩) t.length cap)] W fun e w' => e = .returned (.int .i64 0) ∧ W = w') := fun W hc => by
    have := refTerm_any t (.slice (some ⟨B, off, none⟩) t.length cap) W (HRd.out W hc)
    rw [hf] at this; exact this
  have HCk : Hid (∀ W, Cat w1.heap.size w1 W → Calls Tryd.prog 16 #[(.slice (some ⟨B, off, none⟩) t.length cap)] W fun e w' => e = .returned (.nilIface) ∧ W = w') := fun W hc => by
    have := tcheck_any t (.slice (some ⟨B, off, none⟩) t.length cap) W (HRd.out W hc)
    rw [hf] at this; exact this
  obtain ⟨P, hP⟩ : ∃ P, P = strOf (textN t) := ⟨_, rfl⟩
  have HTx : Hid (∀ W, Cat w1.heap.size w1 W → Calls Tryd.prog 17 #[(.slice (some ⟨B, off, none⟩) t.length cap)] W fun e w' => e = .returned (.string P) ∧ Below W.heap.size W w') := fun W hc => by
    rw [hP]; exact refText_any t B off cap W hf ((hLi.below HW.out.1).below hc.1)
  have HPr : Hid (∀ W, Cat w1.heap.size w1 W → Calls Tryd.prog 18 #[(.slice (some ⟨B, off, none⟩) t.length cap)] W fun e w' => e = .returned (.tuple #[.string P, .nilIface]) ∧ Below W.heap.size W w') := fun W hc => by
    have := print_any t (.slice (some ⟨B, off, none⟩) t.length cap) W (HRd.out W hc)
    have e1 : printS t = P := by unfold printS; rw [if_pos hf, hP]
    rw [e1, hf] at this; exact this
  have HWo : Hid (∀ W, Cat w1.heap.size w1 W → Calls Tryd.prog 19 #[.agg #[.int .i64 u, .int .i64 a, .int .i64 b, .int .i64 c]] W fun e w' => e = .returned (.int .i64 0) ∧ Below W.heap.size W w') := fun W hc => by
    have := refWorld_any u a b c W
    rw [if_pos hok] at this; exact this
  obtain ⟨A, hA⟩ : ∃ A, A = (Wd.mk u a b c).val t := ⟨_, rfl⟩
  have HRv : Hid (∀ W, Cat w1.heap.size w1 W → Calls Tryd.prog 20 #[(.slice (some ⟨B, off, none⟩) t.length cap), .agg #[.int .i64 u, .int .i64 a, .int .i64 b, .int .i64 c]] W fun e w' => e = .returned (.int .i64 A) ∧ Below W.heap.size W w') := fun W hc => by
    rw [hA]; exact refValue_any t hf u a b c hok B off cap hcap W ((hLi.below HW.out.1).below hc.1)
  have HVa : Hid (∀ W, Cat w1.heap.size w1 W → Calls Tryd.prog 21 #[(.slice (some ⟨B, off, none⟩) t.length cap), .agg #[.int .i64 u, .int .i64 a, .int .i64 b, .int .i64 c]] W fun e w' => e = .returned (.tuple #[.int .i64 A, .nilIface]) ∧ Below W.heap.size W w') := fun W hc => by
    have := value_any t (.slice (some ⟨B, off, none⟩) t.length cap) u a b c W (HRd.out W hc)
    have e1 : (Wd.mk u a b c).answer t = A := by unfold Wd.answer; rw [if_pos hf, if_pos hok, hA]
    have e2 : errV ((Wd.mk u a b c).fault t) = .nilIface := by unfold Wd.fault; rw [if_pos hf, if_pos hok]; rfl
    rw [e1, e2] at this; exact this
  clear hf hok HRd hP hA hLi hcap
  have htf : textFault s.data.toList = 0 := by unfold textFault; rw [if_pos hs]; exact hs2
  have HRe : Hid (∀ W, Calls Tryd.prog 22 #[.string s] W fun e w' => ∃ v, e = .returned (.tuple #[v, .bool true]) ∧ Reads w' v (readN s.data.toList) ∧ Below W.heap.size W w') := fun W => (readTerm_any s hz W).mono fun e w' h => by
    obtain ⟨v, he, hr⟩ := h.1 hs
    exact ⟨v, he, hr, h.2.2⟩
  have HRt : Hid (∀ v W, Reads W v (readN s.data.toList) → Calls Tryd.prog 15 #[v] W fun e w' => e = .returned (.int .i64 0) ∧ W = w') := fun v W h => by
    have := refTerm_any _ v W h
    rw [hs2] at this; exact this
  have HPa : Hid (∀ W, Calls Tryd.prog 23 #[.string s] W fun e w' => ∃ v, e = .returned (.tuple #[v, .nilIface]) ∧ Reads w' v (readN s.data.toList) ∧ Below W.heap.size W w') := fun W => (parse_any s (by omega) W).mono fun e w' h => by
    obtain ⟨v, he, hr, _, hb⟩ := h
    rw [htf] at he
    exact ⟨v, he, hr htf, hb⟩
  clear hs hs2 htf hz
  clear hL hR
  obtain ⟨n, hn⟩ : ∃ n, n = t.length := ⟨_, rfl⟩
  rw [← hn] at HT HCk HTx HPr HVa HRv ⊢
  clear hn
  go_enter Tryd.func5, Tryd.ntmps5
  go_wp2_with fail
  rw [← hw1]
  clear hw1
  go_wp2_with fail
  go_at_call 15
  refine (HT.out _ HB.out).mono ?_
  rintro e w' ⟨rfl, rfl⟩
  go_wp2_with fail
  go_at_call 16
  refine (HCk.out _ HB.out).mono ?_
  rintro e w' ⟨rfl, rfl⟩
  go_wp2_with fail
  go_at_call 7
  refine (error_nil _).mono ?_
  rintro e w' ⟨rfl, rfl⟩
  go_wp2_with fail
  go_at_call 17
  refine (HTx.out _ HB.out).mono ?_
  rintro e w' ⟨rfl, hb⟩
  have HB : Hid (Cat _ _ _) := HB.out.step hb
  clear hb
  go_wp2_with fail
  go_at_call 18
  refine (HPr.out _ HB.out).mono ?_
  rintro e w' ⟨rfl, hb⟩
  have HB : Hid (Cat _ _ _) := HB.out.step hb
  clear hb
  go_wp2_with fail
  go_at_call 7
  refine (error_nil _).mono ?_
  rintro e w' ⟨rfl, rfl⟩
  obtain ⟨x0, x1, x2, x3⟩ := HX.out _ HB.out
  go_wp2_with fail
  go_at_call 19
  refine (HWo.out _ HB.out).mono ?_
  rintro e w' ⟨rfl, hb⟩
  have HB : Hid (Cat _ _ _) := HB.out.step hb
  clear hb
  clear x0 x1 x2 x3
  obtain ⟨x0, x1, x2, x3⟩ := HX.out _ HB.out
  go_wp2_with fail
  go_at_call 20
  refine (HRv.out _ HB.out).mono ?_
  rintro e w' ⟨rfl, hb⟩
  have HB : Hid (Cat _ _ _) := HB.out.step hb
  clear hb
  clear x0 x1 x2 x3
  obtain ⟨x0, x1, x2, x3⟩ := HX.out _ HB.out
  go_wp2_with fail
  go_at_call 21
  refine (HVa.out _ HB.out).mono ?_
  rintro e w' ⟨rfl, hb⟩
  have HB : Hid (Cat _ _ _) := HB.out.step hb
  clear hb
  clear x0 x1 x2 x3
  go_wp2_with fail
  go_at_call 7
  refine (error_nil _).mono ?_
  rintro e w' ⟨rfl, rfl⟩
  go_wp2_with fail
  go_at_call 22
  refine (HRe.out _).mono ?_
  rintro e w' ⟨vl, rfl, hrl, hb⟩
  have HB : Hid (Cat _ _ _) := HB.out.step hb
  clear hb
  have HRl : Hid (Reads _ _ _) := hrl
  clear hrl
  go_wp2_with fail
  go_at_call 15
  refine (HRt.out _ _ HRl.out).mono ?_
  rintro e w' ⟨rfl, rfl⟩
  go_wp2_with fail
  go_at_call 23
  refine (HPa.out _).mono ?_
  rintro e w' ⟨vy, rfl, hry, hb⟩
  have HRl : Hid (Reads _ _ _) := HRl.out.below hb
  have HRy : Hid (Reads _ _ _) := hry
  have HB : Hid (Cat _ _ _) := HB.out.step hb
  clear hb
  clear hry
  go_wp2_with fail
  go_at_call 7
  refine (error_nil _).mono ?_
  rintro e w' ⟨rfl, rfl⟩
  go_wp2_with fail
  go_at_call 24
  refine (ints_same _ _ _ _ HRy.out HRl.out).mono ?_
  rintro e w' ⟨rfl, hb⟩
  have HB : Hid (Cat _ _ _) := HB.out.step hb
  clear hb
  go_wp2
  go_ret
  exact ⟨rfl, HW.out.1.trans (HB.out.1.mono HW.out.2)⟩

end Go.Proofs.YtenmheenieifpaaDoor
