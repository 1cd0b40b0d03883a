/-
  Proved: whatever the row of signs, the text, the world, the other row and the number, vennlaw1.TermBack returns true, and what was in memory is as it was.
-/
import Derived.Test.YtenmheenieifpaaTermParse
import Derived.Test.YtenmheenieifpaaTermPrint
import Derived.Test.YtenmheenieifpaaInts
import Derived.Test.YtenmheenieifpaaArgs
namespace Go.Proofs.Ytenmheenieifpaa
open Go.ChangeShapes Go.WideShapes Go.ChangeAt Go.RowKit

/-- what a walk carries from world to world: below K all is as it was in w1. -/
def Car (K : Nat) (w1 w : World) : Prop := Below K w1 w ∧ K ≤ w.heap.size
theorem Car.step {K : Nat} {w1 w w' : World} (h : Car K w1 w) (hb : Below w.heap.size w w') : Car K w1 w' := ⟨h.1.trans (hb.mono h.2), Nat.le_trans h.2 hb.size⟩

/-- Parse of a text that is a term. -/
theorem parse_good (s : ByteArray) (t : List Int) (hz : s.size ≤ 9223372036854775807) (h : textFault s.data.toList = 0) (ht : readN s.data.toList = t) (w : World) :
    Calls Try.prog 9 #[.string s] w fun e w' => ∃ v, e = .returned (.tuple #[v, .nilIface]) ∧ Reads w' v t ∧ Below w.heap.size w w' := by
  refine (parse_any s hz w).mono ?_
  rintro e w' ⟨v, he, hr, _, hb⟩
  rw [h] at he
  rw [ht] at hr
  exact ⟨v, he, hr h, hb⟩
/-- .. of one that is none. -/
theorem parse_none (s : ByteArray) (hz : s.size ≤ 9223372036854775807) (h : ¬ textFault s.data.toList = 0) (w : World) :
    Calls Try.prog 9 #[.string s] w fun e w' => e = .returned (.tuple #[.slice none 0 0, .iface 23 (.int .i64 (textFault s.data.toList))]) ∧ Below w.heap.size w w' := by
  refine (parse_any s hz w).mono ?_
  rintro e w' ⟨v, he, _, hv, hb⟩
  rw [hv h] at he
  have : errV (textFault s.data.toList) = .iface 23 (.int .i64 (textFault s.data.toList)) := by unfold errV; rw [if_neg h]
  rw [this] at he
  exact ⟨he, hb⟩
/-- .. of AB~*. -/
theorem parse_fact (w : World) :
    Calls Try.prog 9 #[.string { data := #[65, 66, 126, 42] }] w fun e w' => ∃ b o c, e = .returned (.tuple #[.slice (some ⟨b, o, none⟩) 4 c, .nilIface]) ∧ w'.cell? ⟨b, o, none⟩ = some (.int .i64 0) ∧ w'.cell? ⟨b, o + 2, none⟩ = some (.int .i64 8) ∧ w'.cell? ⟨b, o + 3, none⟩ = some (.int .i64 6) ∧ Below w.heap.size w w' := by
  refine (parse_good { data := #[65, 66, 126, 42] } [0, 1, 8, 6] (by decide) (by decide) (by decide) w).mono ?_
  rintro e w' ⟨v, he, hr, hb⟩
  rcases hr with ⟨_, _, _, h⟩ | ⟨b, o, c, rfl, _, _, _, hc⟩
  · cases h
  · exact ⟨b, o, c, he, hc 0 (by decide), hc 2 (by decide), hc 3 (by decide), hb⟩

theorem text_same (s : ByteArray) (h : textFault s.data.toList = 0) : strOf (textN (readN s.data.toList)) = s := by
  have hl : lettersB s.data.toList = true := by
    unfold textFault at h
    by_cases hl : lettersB s.data.toList = true
    · exact hl
    · rw [if_neg hl] at h; exact absurd h (by decide)
  rw [text_read hl]; unfold strOf; simp
theorem text_fault {t : List Int} (h : faultN t = 0) : textFault (strOf (textN t)).data.toList = 0 ∧ readN (strOf (textN t)).data.toList = t ∧ (strOf (textN t)).size ≤ 9223372036854775807 := by
  obtain ⟨_, h12, hs, _⟩ := fault_zero.1 h
  have e : (strOf (textN t)).data.toList = textN t := by simp [strOf]
  refine ⟨?_, ?_, ?_⟩
  · rw [e]; unfold textFault; rw [if_pos (letters_text hs), read_text hs]; exact h
  · rw [e]; exact read_text hs
  · have : (strOf (textN t)).size = t.length := by simp [strOf, ByteArray.size, textN]
    omega
theorem fault_text {s : ByteArray} (h : textFault s.data.toList = 0) : faultN (readN s.data.toList) = 0 := by
  unfold textFault at h
  by_cases hl : lettersB s.data.toList = true
  · rw [if_pos hl] at h; exact h
  · rw [if_neg hl] at h; exact absurd h (by decide)
theorem print_text (t : List Int) (P : ByteArray) (hP : P = strOf (textN t)) (v : Value) (w : World) (h : Reads w v t) (hf : faultN t = 0) :
    Calls Try.prog 10 #[v] w fun e w' => e = .returned (.tuple #[.string P, .nilIface]) ∧ Below w.heap.size w w' := by
  have := print_any t v w h
  have e1 : printS t = P := by unfold printS; rw [if_pos hf, hP]
  rw [e1, hf] at this
  exact this

set_option linter.unusedVariables false in
set_option maxRecDepth 100000 in
set_option maxHeartbeats 2000000 in
theorem termBack_bad_good (t : List Int) (v vr : Value) (s : ByteArray) (u a b c what : Int) (w : World) (hR : Reads w v t) (hz : s.size ≤ 9223372036854775807) (hs : textFault s.data.toList = 0) (hf : ¬ faultN t = 0) :
    Calls Try.prog 5 #[v, .string s, .agg #[.int .i64 u, .int .i64 a, .int .i64 b, .int .i64 c], vr, .int .i64 what] w fun e w' => e = .returned (.bool true) ∧ Below w.heap.size w w' := by
  obtain ⟨w1, hw1⟩ : ∃ w1, w1 = w.alloc (.cells #[.int .i64 u, .int .i64 a, .int .i64 b, .int .i64 c] 35) := ⟨_, rfl⟩
  have HB : Hid (Car w1.heap.size w1 w1) := ⟨Below.refl _ _, Nat.le_refl _⟩
  have HW : Hid (Below w.heap.size w w1 ∧ w.heap.size ≤ w1.heap.size) := by
    refine ⟨?_, ?_⟩
    · rw [hw1]; exact below_alloc1 _ _
    · rw [hw1]; simp
  have HPt : Hid (∀ W, Car w1.heap.size w1 W → Calls Try.prog 10 #[v] W fun e w' => e = .returned (.tuple #[.string ⟨#[]⟩, .iface 23 (.int .i64 (faultN t))]) ∧ Below W.heap.size W w') := fun W hc => print_bad t v W ((hR.below HW.out.1).below hc.1) hf
  obtain ⟨Ft, hFt⟩ : ∃ Ft, Ft = faultN t := ⟨_, rfl⟩
  rw [← hFt] at HPt
  clear hFt hf hR
  have HPs : Hid (∀ W, Calls Try.prog 9 #[.string s] W fun e w' => ∃ v, e = .returned (.tuple #[v, .nilIface]) ∧ Reads w' v (readN s.data.toList) ∧ Below W.heap.size W w') := fun W => parse_good s _ hz hs rfl W
  have HPx : Hid (∀ v W, Reads W v (readN s.data.toList) → Calls Try.prog 10 #[v] W fun e w' => e = .returned (.tuple #[.string s, .nilIface]) ∧ Below W.heap.size W w') := fun v W hr => print_text _ s (text_same s hs).symm v W hr (fault_text hs)
  clear hs hz
  go_enter Try.func5, Try.ntmps5
  go_wp2_with fail
  rw [← hw1]
  clear hw1
  go_wp2_with fail
  go_at_call 9
  refine (parse_fact _).mono ?_
  rintro e w' ⟨b1, o1, c1, rfl, f0, f2, f3, hb⟩
  have HB : Hid (Car _ _ _) := HB.out.step hb
  clear hb
  go_wp2_with fail
  go_at_call 9
  refine (HPs.out _).mono ?_
  rintro e w' ⟨vx, rfl, hRx, hb⟩
  have HB : Hid (Car _ _ _) := HB.out.step hb
  clear hb
  have HRx : Hid (Reads _ _ _) := hRx
  clear hRx f0 f2 f3
  go_wp2_with fail
  go_at_call 10
  refine (HPx.out _ _ HRx.out).mono ?_
  rintro e w' ⟨rfl, hb⟩
  have HB : Hid (Car _ _ _) := HB.out.step hb
  clear hb
  clear HRx
  go_wp2_with fail
  go_at_call 10
  refine (HPt.out _ HB.out).mono ?_
  rintro e w' ⟨rfl, hb⟩
  have HB : Hid (Car _ _ _) := HB.out.step hb
  clear hb
  go_wp2
  go_ret
  exact ⟨rfl, HW.out.1.trans (HB.out.1.mono HW.out.2)⟩

set_option linter.unusedVariables false in
set_option maxRecDepth 100000 in
set_option maxHeartbeats 2000000 in
theorem termBack_bad_bad (t : List Int) (v vr : Value) (s : ByteArray) (u a b c what : Int) (w : World) (hR : Reads w v t) (hz : s.size ≤ 9223372036854775807) (hs : ¬ textFault s.data.toList = 0) (hf : ¬ faultN t = 0) :
    Calls Try.prog 5 #[v, .string s, .agg #[.int .i64 u, .int .i64 a, .int .i64 b, .int .i64 c], vr, .int .i64 what] w fun e w' => e = .returned (.bool true) ∧ Below w.heap.size w w' := by
  obtain ⟨w1, hw1⟩ : ∃ w1, w1 = w.alloc (.cells #[.int .i64 u, .int .i64 a, .int .i64 b, .int .i64 c] 35) := ⟨_, rfl⟩
  have HB : Hid (Car w1.heap.size w1 w1) := ⟨Below.refl _ _, Nat.le_refl _⟩
  have HW : Hid (Below w.heap.size w w1 ∧ w.heap.size ≤ w1.heap.size) := by
    refine ⟨?_, ?_⟩
    · rw [hw1]; exact below_alloc1 _ _
    · rw [hw1]; simp
  have HPt : Hid (∀ W, Car w1.heap.size w1 W → Calls Try.prog 10 #[v] W fun e w' => e = .returned (.tuple #[.string ⟨#[]⟩, .iface 23 (.int .i64 (faultN t))]) ∧ Below W.heap.size W w') := fun W hc => print_bad t v W ((hR.below HW.out.1).below hc.1) hf
  obtain ⟨Ft, hFt⟩ : ∃ Ft, Ft = faultN t := ⟨_, rfl⟩
  rw [← hFt] at HPt
  clear hFt hf hR
  have HPs : Hid (∀ W, Calls Try.prog 9 #[.string s] W fun e w' => e = .returned (.tuple #[.slice none 0 0, .iface 23 (.int .i64 (textFault s.data.toList))]) ∧ Below W.heap.size W w') := fun W => parse_none s hz hs W
  obtain ⟨Fs, hFs⟩ : ∃ Fs, Fs = textFault s.data.toList := ⟨_, rfl⟩
  rw [← hFs] at HPs
  clear hFs
  clear hs hz
  go_enter Try.func5, Try.ntmps5
  go_wp2_with fail
  rw [← hw1]
  clear hw1
  go_wp2_with fail
  go_at_call 9
  refine (parse_fact _).mono ?_
  rintro e w' ⟨b1, o1, c1, rfl, f0, f2, f3, hb⟩
  have HB : Hid (Car _ _ _) := HB.out.step hb
  clear hb
  go_wp2_with fail
  go_at_call 9
  refine (HPs.out _).mono ?_
  rintro e w' ⟨rfl, hb⟩
  have HB : Hid (Car _ _ _) := HB.out.step hb
  clear hb
  clear f0 f2 f3
  go_wp2_with fail
  go_at_call 10
  refine (HPt.out _ HB.out).mono ?_
  rintro e w' ⟨rfl, hb⟩
  have HB : Hid (Car _ _ _) := HB.out.step hb
  clear hb
  go_wp2
  go_ret
  exact ⟨rfl, HW.out.1.trans (HB.out.1.mono HW.out.2)⟩

set_option linter.unusedVariables false in
set_option maxRecDepth 100000 in
set_option maxHeartbeats 2000000 in
theorem termBack_e1_good (t r : List Int) (B off n cap : Nat) (vr : Value) (ar : Option Addr) (nr cr : Nat) (hvr : vr = .slice ar nr cr) (s : ByteArray) (u a b c what A A2 : Int) (w : World) (hR : Reads w (.slice (some ⟨B, off, none⟩) n cap) t) (hRr : Reads w vr r) (hn : n ≤ 12) (hz : s.size ≤ 9223372036854775807) (hs : textFault s.data.toList = 0) (hf : faultN t = 0)
    (hA : (Wd.mk u a b c).answer t = A) (hA2 : (Wd.mk u a b c).answer r = A2) (m : Int) (hE : errV ((Wd.mk u a b c).fault t) = .iface 23 (.int .i64 m)) (E2 : Value) (hE2 : errV ((Wd.mk u a b c).fault r) = E2)  :
    Calls Try.prog 5 #[.slice (some ⟨B, off, none⟩) n cap, .string s, .agg #[.int .i64 u, .int .i64 a, .int .i64 b, .int .i64 c], vr, .int .i64 what] w fun e w' => e = .returned (.bool true) ∧ Below w.heap.size w w' := by
  obtain ⟨w1, hw1⟩ : ∃ w1, w1 = w.alloc (.cells #[.int .i64 u, .int .i64 a, .int .i64 b, .int .i64 c] 35) := ⟨_, rfl⟩
  have HB : Hid (Car w1.heap.size w1 w1) := ⟨Below.refl _ _, Nat.le_refl _⟩
  have HW : Hid (Below w.heap.size w w1 ∧ w.heap.size ≤ w1.heap.size) := by
    refine ⟨?_, ?_⟩
    · rw [hw1]; exact below_alloc1 _ _
    · rw [hw1]; simp
  have HX : Hid (∀ W, Car w1.heap.size w1 W → W.cell? ⟨w.heap.size, 0, none⟩ = some (.int .i64 u) ∧ W.cell? ⟨w.heap.size, 1, none⟩ = some (.int .i64 a) ∧ W.cell? ⟨w.heap.size, 2, none⟩ = some (.int .i64 b) ∧ W.cell? ⟨w.heap.size, 3, none⟩ = some (.int .i64 c)) := fun W hc => by
    have hlt : w.heap.size < w1.heap.size := by rw [hw1]; simp
    rw [hc.1.cell (p := ⟨w.heap.size, 0, none⟩) hlt, hc.1.cell (p := ⟨w.heap.size, 1, none⟩) hlt, hc.1.cell (p := ⟨w.heap.size, 2, none⟩) hlt, hc.1.cell (p := ⟨w.heap.size, 3, none⟩) hlt, hw1]
    simp
  have HRt : Hid (∀ W, Car w1.heap.size w1 W → Reads W (.slice (some ⟨B, off, none⟩) n cap) t) := fun W hc => (hR.below HW.out.1).below hc.1
  have HRr : Hid (∀ W, Car w1.heap.size w1 W → Reads W vr r) := fun W hc => (hRr.below HW.out.1).below hc.1
  obtain ⟨P, hP⟩ : ∃ P, P = strOf (textN t) := ⟨_, rfl⟩
  have HPt : Hid (∀ W, Car w1.heap.size w1 W → Calls Try.prog 10 #[.slice (some ⟨B, off, none⟩) n cap] W fun e w' => e = .returned (.tuple #[.string P, .nilIface]) ∧ Below W.heap.size W w') := fun W hc => print_text t P hP _ W (HRt.out W hc) hf
  have HPp : Hid (∀ W, Calls Try.prog 9 #[.string P] W fun e w' => ∃ v, e = .returned (.tuple #[v, .nilIface]) ∧ Reads w' v t ∧ Below W.heap.size W w') := fun W => by
    have ht := text_fault hf
    rw [← hP] at ht
    exact parse_good P t ht.2.2 ht.1 ht.2.1 W
  have HV : Hid (∀ q v W, Reads W v q → Calls Try.prog 12 #[v, .agg #[.int .i64 u, .int .i64 a, .int .i64 b, .int .i64 c]] W fun e w' => e = .returned (.tuple #[.int .i64 ((Wd.mk u a b c).answer q), errV ((Wd.mk u a b c).fault q)]) ∧ Below W.heap.size W w') := fun q v W hq => value_any q v u a b c W hq
  have HVt : Hid (∀ W, Car w1.heap.size w1 W → Calls Try.prog 12 #[.slice (some ⟨B, off, none⟩) n cap, .agg #[.int .i64 u, .int .i64 a, .int .i64 b, .int .i64 c]] W fun e w' => e = .returned (.tuple #[.int .i64 A, .iface 23 (.int .i64 m)]) ∧ Below W.heap.size W w') := fun W hc => by
    have := HV.out t _ W (HRt.out W hc)
    rw [hA, hE] at this; exact this
  have HVr : Hid (∀ W, Car w1.heap.size w1 W → Calls Try.prog 12 #[vr, .agg #[.int .i64 u, .int .i64 a, .int .i64 b, .int .i64 c]] W fun e w' => e = .returned (.tuple #[.int .i64 A2, E2]) ∧ Below W.heap.size W w') := fun W hc => by
    have := HV.out r _ W (HRr.out W hc)
    rw [hA2, hE2] at this; exact this
  clear hA hA2 hE hE2 HV hP hR hRr hf HRr
  have HPs : Hid (∀ W, Calls Try.prog 9 #[.string s] W fun e w' => ∃ v, e = .returned (.tuple #[v, .nilIface]) ∧ Reads w' v (readN s.data.toList) ∧ Below W.heap.size W w') := fun W => parse_good s _ hz hs rfl W
  have HPx : Hid (∀ v W, Reads W v (readN s.data.toList) → Calls Try.prog 10 #[v] W fun e w' => e = .returned (.tuple #[.string s, .nilIface]) ∧ Below W.heap.size W w') := fun v W hr => print_text _ s (text_same s hs).symm v W hr (fault_text hs)
  clear hs hz
  subst hvr
  go_enter Try.func5, Try.ntmps5
  go_wp2_with fail
  rw [← hw1]
  clear hw1
  go_wp2_with fail
  go_at_call 9
  refine (parse_fact _).mono ?_
  rintro e w' ⟨b1, o1, c1, rfl, f0, f2, f3, hb⟩
  have HB : Hid (Car _ _ _) := HB.out.step hb
  clear hb
  go_wp2_with fail
  go_at_call 9
  refine (HPs.out _).mono ?_
  rintro e w' ⟨vx, rfl, hRx, hb⟩
  have HB : Hid (Car _ _ _) := HB.out.step hb
  clear hb
  have HRx : Hid (Reads _ _ _) := hRx
  clear hRx f0 f2 f3
  go_wp2_with fail
  go_at_call 10
  refine (HPx.out _ _ HRx.out).mono ?_
  rintro e w' ⟨rfl, hb⟩
  have HB : Hid (Car _ _ _) := HB.out.step hb
  clear hb
  clear HRx
  go_wp2_with fail
  go_at_call 10
  refine (HPt.out _ HB.out).mono ?_
  rintro e w' ⟨rfl, hb⟩
  have HB : Hid (Car _ _ _) := HB.out.step hb
  clear hb
  go_wp2_with fail
  go_at_call 9
  refine (HPp.out _).mono ?_
  rintro e w' ⟨vy, rfl, hRy, hb⟩
  have HB : Hid (Car _ _ _) := HB.out.step hb
  clear hb
  have HRy : Hid (Reads _ _ _) := hRy
  clear hRy
  go_wp2_with fail
  go_at_call 11
  refine (ints_same t _ _ _ HRy.out (HRt.out _ HB.out)).mono ?_
  rintro e w' ⟨rfl, hb⟩
  have HB : Hid (Car _ _ _) := HB.out.step hb
  clear hb
  clear HRy
  obtain ⟨x0, x1, x2, x3⟩ := HX.out _ HB.out
  go_wp2_with fail
  go_at_call 12
  refine (HVt.out _ HB.out).mono ?_
  rintro e w' ⟨rfl, hb⟩
  have HB : Hid (Car _ _ _) := HB.out.step hb
  clear hb
  clear x0 x1 x2 x3
  obtain ⟨x0, x1, x2, x3⟩ := HX.out _ HB.out
  go_wp2_with fail
  go_at_call 12
  refine (HVr.out _ HB.out).mono ?_
  rintro e w' ⟨rfl, hb⟩
  have HB : Hid (Car _ _ _) := HB.out.step hb
  clear hb
  clear x0 x1 x2 x3
  go_wp2
  go_ret
  exact ⟨rfl, HW.out.1.trans (HB.out.1.mono HW.out.2)⟩

set_option linter.unusedVariables false in
set_option maxRecDepth 100000 in
set_option maxHeartbeats 2000000 in
theorem termBack_e2_good (t r : List Int) (B off n cap : Nat) (vr : Value) (ar : Option Addr) (nr cr : Nat) (hvr : vr = .slice ar nr cr) (s : ByteArray) (u a b c what A A2 : Int) (w : World) (hR : Reads w (.slice (some ⟨B, off, none⟩) n cap) t) (hRr : Reads w vr r) (hn : n ≤ 12) (hz : s.size ≤ 9223372036854775807) (hs : textFault s.data.toList = 0) (hf : faultN t = 0)
    (hA : (Wd.mk u a b c).answer t = A) (hA2 : (Wd.mk u a b c).answer r = A2) (hE : errV ((Wd.mk u a b c).fault t) = .nilIface) (m : Int) (hE2 : errV ((Wd.mk u a b c).fault r) = .iface 23 (.int .i64 m))  :
    Calls Try.prog 5 #[.slice (some ⟨B, off, none⟩) n cap, .string s, .agg #[.int .i64 u, .int .i64 a, .int .i64 b, .int .i64 c], vr, .int .i64 what] w fun e w' => e = .returned (.bool true) ∧ Below w.heap.size w w' := by
  obtain ⟨w1, hw1⟩ : ∃ w1, w1 = w.alloc (.cells #[.int .i64 u, .int .i64 a, .int .i64 b, .int .i64 c] 35) := ⟨_, rfl⟩
  have HB : Hid (Car w1.heap.size w1 w1) := ⟨Below.refl _ _, Nat.le_refl _⟩
  have HW : Hid (Below w.heap.size w w1 ∧ w.heap.size ≤ w1.heap.size) := by
    refine ⟨?_, ?_⟩
    · rw [hw1]; exact below_alloc1 _ _
    · rw [hw1]; simp
  have HX : Hid (∀ W, Car w1.heap.size w1 W → W.cell? ⟨w.heap.size, 0, none⟩ = some (.int .i64 u) ∧ W.cell? ⟨w.heap.size, 1, none⟩ = some (.int .i64 a) ∧ W.cell? ⟨w.heap.size, 2, none⟩ = some (.int .i64 b) ∧ W.cell? ⟨w.heap.size, 3, none⟩ = some (.int .i64 c)) := fun W hc => by
    have hlt : w.heap.size < w1.heap.size := by rw [hw1]; simp
    rw [hc.1.cell (p := ⟨w.heap.size, 0, none⟩) hlt, hc.1.cell (p := ⟨w.heap.size, 1, none⟩) hlt, hc.1.cell (p := ⟨w.heap.size, 2, none⟩) hlt, hc.1.cell (p := ⟨w.heap.size, 3, none⟩) hlt, hw1]
    simp
  have HRt : Hid (∀ W, Car w1.heap.size w1 W → Reads W (.slice (some ⟨B, off, none⟩) n cap) t) := fun W hc => (hR.below HW.out.1).below hc.1
  have HRr : Hid (∀ W, Car w1.heap.size w1 W → Reads W vr r) := fun W hc => (hRr.below HW.out.1).below hc.1
  obtain ⟨P, hP⟩ : ∃ P, P = strOf (textN t) := ⟨_, rfl⟩
  have HPt : Hid (∀ W, Car w1.heap.size w1 W → Calls Try.prog 10 #[.slice (some ⟨B, off, none⟩) n cap] W fun e w' => e = .returned (.tuple #[.string P, .nilIface]) ∧ Below W.heap.size W w') := fun W hc => print_text t P hP _ W (HRt.out W hc) hf
  have HPp : Hid (∀ W, Calls Try.prog 9 #[.string P] W fun e w' => ∃ v, e = .returned (.tuple #[v, .nilIface]) ∧ Reads w' v t ∧ Below W.heap.size W w') := fun W => by
    have ht := text_fault hf
    rw [← hP] at ht
    exact parse_good P t ht.2.2 ht.1 ht.2.1 W
  have HV : Hid (∀ q v W, Reads W v q → Calls Try.prog 12 #[v, .agg #[.int .i64 u, .int .i64 a, .int .i64 b, .int .i64 c]] W fun e w' => e = .returned (.tuple #[.int .i64 ((Wd.mk u a b c).answer q), errV ((Wd.mk u a b c).fault q)]) ∧ Below W.heap.size W w') := fun q v W hq => value_any q v u a b c W hq
  have HVt : Hid (∀ W, Car w1.heap.size w1 W → Calls Try.prog 12 #[.slice (some ⟨B, off, none⟩) n cap, .agg #[.int .i64 u, .int .i64 a, .int .i64 b, .int .i64 c]] W fun e w' => e = .returned (.tuple #[.int .i64 A, .nilIface]) ∧ Below W.heap.size W w') := fun W hc => by
    have := HV.out t _ W (HRt.out W hc)
    rw [hA, hE] at this; exact this
  have HVr : Hid (∀ W, Car w1.heap.size w1 W → Calls Try.prog 12 #[vr, .agg #[.int .i64 u, .int .i64 a, .int .i64 b, .int .i64 c]] W fun e w' => e = .returned (.tuple #[.int .i64 A2, .iface 23 (.int .i64 m)]) ∧ Below W.heap.size W w') := fun W hc => by
    have := HV.out r _ W (HRr.out W hc)
    rw [hA2, hE2] at this; exact this
  clear hA hA2 hE hE2 HV hP hR hRr hf HRr
  have HPs : Hid (∀ W, Calls Try.prog 9 #[.string s] W fun e w' => ∃ v, e = .returned (.tuple #[v, .nilIface]) ∧ Reads w' v (readN s.data.toList) ∧ Below W.heap.size W w') := fun W => parse_good s _ hz hs rfl W
  have HPx : Hid (∀ v W, Reads W v (readN s.data.toList) → Calls Try.prog 10 #[v] W fun e w' => e = .returned (.tuple #[.string s, .nilIface]) ∧ Below W.heap.size W w') := fun v W hr => print_text _ s (text_same s hs).symm v W hr (fault_text hs)
  clear hs hz
  subst hvr
  go_enter Try.func5, Try.ntmps5
  go_wp2_with fail
  rw [← hw1]
  clear hw1
  go_wp2_with fail
  go_at_call 9
  refine (parse_fact _).mono ?_
  rintro e w' ⟨b1, o1, c1, rfl, f0, f2, f3, hb⟩
  have HB : Hid (Car _ _ _) := HB.out.step hb
  clear hb
  go_wp2_with fail
  go_at_call 9
  refine (HPs.out _).mono ?_
  rintro e w' ⟨vx, rfl, hRx, hb⟩
  have HB : Hid (Car _ _ _) := HB.out.step hb
  clear hb
  have HRx : Hid (Reads _ _ _) := hRx
  clear hRx f0 f2 f3
  go_wp2_with fail
  go_at_call 10
  refine (HPx.out _ _ HRx.out).mono ?_
  rintro e w' ⟨rfl, hb⟩
  have HB : Hid (Car _ _ _) := HB.out.step hb
  clear hb
  clear HRx
  go_wp2_with fail
  go_at_call 10
  refine (HPt.out _ HB.out).mono ?_
  rintro e w' ⟨rfl, hb⟩
  have HB : Hid (Car _ _ _) := HB.out.step hb
  clear hb
  go_wp2_with fail
  go_at_call 9
  refine (HPp.out _).mono ?_
  rintro e w' ⟨vy, rfl, hRy, hb⟩
  have HB : Hid (Car _ _ _) := HB.out.step hb
  clear hb
  have HRy : Hid (Reads _ _ _) := hRy
  clear hRy
  go_wp2_with fail
  go_at_call 11
  refine (ints_same t _ _ _ HRy.out (HRt.out _ HB.out)).mono ?_
  rintro e w' ⟨rfl, hb⟩
  have HB : Hid (Car _ _ _) := HB.out.step hb
  clear hb
  clear HRy
  obtain ⟨x0, x1, x2, x3⟩ := HX.out _ HB.out
  go_wp2_with fail
  go_at_call 12
  refine (HVt.out _ HB.out).mono ?_
  rintro e w' ⟨rfl, hb⟩
  have HB : Hid (Car _ _ _) := HB.out.step hb
  clear hb
  clear x0 x1 x2 x3
  obtain ⟨x0, x1, x2, x3⟩ := HX.out _ HB.out
  go_wp2_with fail
  go_at_call 12
  refine (HVr.out _ HB.out).mono ?_
  rintro e w' ⟨rfl, hb⟩
  have HB : Hid (Car _ _ _) := HB.out.step hb
  clear hb
  clear x0 x1 x2 x3
  go_wp2
  go_ret
  exact ⟨rfl, HW.out.1.trans (HB.out.1.mono HW.out.2)⟩

set_option linter.unusedVariables false in
set_option maxRecDepth 100000 in
set_option maxHeartbeats 2000000 in
theorem termBack_len_good (t r : List Int) (B off n cap : Nat) (vr : Value) (ar : Option Addr) (nr cr : Nat) (hvr : vr = .slice ar nr cr) (s : ByteArray) (u a b c what A A2 : Int) (w : World) (hR : Reads w (.slice (some ⟨B, off, none⟩) n cap) t) (hRr : Reads w vr r) (hn : n ≤ 12) (hnr : nr ≤ 12) (hz : s.size ≤ 9223372036854775807) (hs : textFault s.data.toList = 0) (hf : faultN t = 0)
    (hA : (Wd.mk u a b c).answer t = A) (hA2 : (Wd.mk u a b c).answer r = A2) (hE : errV ((Wd.mk u a b c).fault t) = .nilIface) (hE2 : errV ((Wd.mk u a b c).fault r) = .nilIface) (hq : (11 : Int) < (n : Int) + (nr : Int)) :
    Calls Try.prog 5 #[.slice (some ⟨B, off, none⟩) n cap, .string s, .agg #[.int .i64 u, .int .i64 a, .int .i64 b, .int .i64 c], vr, .int .i64 what] w fun e w' => e = .returned (.bool true) ∧ Below w.heap.size w w' := by
  obtain ⟨w1, hw1⟩ : ∃ w1, w1 = w.alloc (.cells #[.int .i64 u, .int .i64 a, .int .i64 b, .int .i64 c] 35) := ⟨_, rfl⟩
  have HB : Hid (Car w1.heap.size w1 w1) := ⟨Below.refl _ _, Nat.le_refl _⟩
  have HW : Hid (Below w.heap.size w w1 ∧ w.heap.size ≤ w1.heap.size) := by
    refine ⟨?_, ?_⟩
    · rw [hw1]; exact below_alloc1 _ _
    · rw [hw1]; simp
  have HX : Hid (∀ W, Car w1.heap.size w1 W → W.cell? ⟨w.heap.size, 0, none⟩ = some (.int .i64 u) ∧ W.cell? ⟨w.heap.size, 1, none⟩ = some (.int .i64 a) ∧ W.cell? ⟨w.heap.size, 2, none⟩ = some (.int .i64 b) ∧ W.cell? ⟨w.heap.size, 3, none⟩ = some (.int .i64 c)) := fun W hc => by
    have hlt : w.heap.size < w1.heap.size := by rw [hw1]; simp
    rw [hc.1.cell (p := ⟨w.heap.size, 0, none⟩) hlt, hc.1.cell (p := ⟨w.heap.size, 1, none⟩) hlt, hc.1.cell (p := ⟨w.heap.size, 2, none⟩) hlt, hc.1.cell (p := ⟨w.heap.size, 3, none⟩) hlt, hw1]
    simp
  have HRt : Hid (∀ W, Car w1.heap.size w1 W → Reads W (.slice (some ⟨B, off, none⟩) n cap) t) := fun W hc => (hR.below HW.out.1).below hc.1
  have HRr : Hid (∀ W, Car w1.heap.size w1 W → Reads W vr r) := fun W hc => (hRr.below HW.out.1).below hc.1
  obtain ⟨P, hP⟩ : ∃ P, P = strOf (textN t) := ⟨_, rfl⟩
  have HPt : Hid (∀ W, Car w1.heap.size w1 W → Calls Try.prog 10 #[.slice (some ⟨B, off, none⟩) n cap] W fun e w' => e = .returned (.tuple #[.string P, .nilIface]) ∧ Below W.heap.size W w') := fun W hc => print_text t P hP _ W (HRt.out W hc) hf
  have HPp : Hid (∀ W, Calls Try.prog 9 #[.string P] W fun e w' => ∃ v, e = .returned (.tuple #[v, .nilIface]) ∧ Reads w' v t ∧ Below W.heap.size W w') := fun W => by
    have ht := text_fault hf
    rw [← hP] at ht
    exact parse_good P t ht.2.2 ht.1 ht.2.1 W
  have HV : Hid (∀ q v W, Reads W v q → Calls Try.prog 12 #[v, .agg #[.int .i64 u, .int .i64 a, .int .i64 b, .int .i64 c]] W fun e w' => e = .returned (.tuple #[.int .i64 ((Wd.mk u a b c).answer q), errV ((Wd.mk u a b c).fault q)]) ∧ Below W.heap.size W w') := fun q v W hq => value_any q v u a b c W hq
  have HVt : Hid (∀ W, Car w1.heap.size w1 W → Calls Try.prog 12 #[.slice (some ⟨B, off, none⟩) n cap, .agg #[.int .i64 u, .int .i64 a, .int .i64 b, .int .i64 c]] W fun e w' => e = .returned (.tuple #[.int .i64 A, .nilIface]) ∧ Below W.heap.size W w') := fun W hc => by
    have := HV.out t _ W (HRt.out W hc)
    rw [hA, hE] at this; exact this
  have HVr : Hid (∀ W, Car w1.heap.size w1 W → Calls Try.prog 12 #[vr, .agg #[.int .i64 u, .int .i64 a, .int .i64 b, .int .i64 c]] W fun e w' => e = .returned (.tuple #[.int .i64 A2, .nilIface]) ∧ Below W.heap.size W w') := fun W hc => by
    have := HV.out r _ W (HRr.out W hc)
    rw [hA2, hE2] at this; exact this
  clear hA hA2 hE hE2 HV hP hR hRr hf HRr
  have HPs : Hid (∀ W, Calls Try.prog 9 #[.string s] W fun e w' => ∃ v, e = .returned (.tuple #[v, .nilIface]) ∧ Reads w' v (readN s.data.toList) ∧ Below W.heap.size W w') := fun W => parse_good s _ hz hs rfl W
  have HPx : Hid (∀ v W, Reads W v (readN s.data.toList) → Calls Try.prog 10 #[v] W fun e w' => e = .returned (.tuple #[.string s, .nilIface]) ∧ Below W.heap.size W w') := fun v W hr => print_text _ s (text_same s hs).symm v W hr (fault_text hs)
  clear hs hz
  subst hvr
  go_enter Try.func5, Try.ntmps5
  go_wp2_with fail
  rw [← hw1]
  clear hw1
  go_wp2_with fail
  go_at_call 9
  refine (parse_fact _).mono ?_
  rintro e w' ⟨b1, o1, c1, rfl, f0, f2, f3, hb⟩
  have HB : Hid (Car _ _ _) := HB.out.step hb
  clear hb
  go_wp2_with fail
  go_at_call 9
  refine (HPs.out _).mono ?_
  rintro e w' ⟨vx, rfl, hRx, hb⟩
  have HB : Hid (Car _ _ _) := HB.out.step hb
  clear hb
  have HRx : Hid (Reads _ _ _) := hRx
  clear hRx f0 f2 f3
  go_wp2_with fail
  go_at_call 10
  refine (HPx.out _ _ HRx.out).mono ?_
  rintro e w' ⟨rfl, hb⟩
  have HB : Hid (Car _ _ _) := HB.out.step hb
  clear hb
  clear HRx
  go_wp2_with fail
  go_at_call 10
  refine (HPt.out _ HB.out).mono ?_
  rintro e w' ⟨rfl, hb⟩
  have HB : Hid (Car _ _ _) := HB.out.step hb
  clear hb
  go_wp2_with fail
  go_at_call 9
  refine (HPp.out _).mono ?_
  rintro e w' ⟨vy, rfl, hRy, hb⟩
  have HB : Hid (Car _ _ _) := HB.out.step hb
  clear hb
  have HRy : Hid (Reads _ _ _) := hRy
  clear hRy
  go_wp2_with fail
  go_at_call 11
  refine (ints_same t _ _ _ HRy.out (HRt.out _ HB.out)).mono ?_
  rintro e w' ⟨rfl, hb⟩
  have HB : Hid (Car _ _ _) := HB.out.step hb
  clear hb
  clear HRy
  obtain ⟨x0, x1, x2, x3⟩ := HX.out _ HB.out
  go_wp2_with fail
  go_at_call 12
  refine (HVt.out _ HB.out).mono ?_
  rintro e w' ⟨rfl, hb⟩
  have HB : Hid (Car _ _ _) := HB.out.step hb
  clear hb
  clear x0 x1 x2 x3
  obtain ⟨x0, x1, x2, x3⟩ := HX.out _ HB.out
  go_wp2_with fail
  go_at_call 12
  refine (HVr.out _ HB.out).mono ?_
  rintro e w' ⟨rfl, hb⟩
  have HB : Hid (Car _ _ _) := HB.out.step hb
  clear hb
  clear x0 x1 x2 x3
  go_wp2
  go_ret
  exact ⟨rfl, HW.out.1.trans (HB.out.1.mono HW.out.2)⟩

set_option linter.unusedVariables false in
set_option maxRecDepth 100000 in
set_option maxHeartbeats 2000000 in
theorem termBack_low_good (t r : List Int) (B off n cap : Nat) (vr : Value) (ar : Option Addr) (nr cr : Nat) (hvr : vr = .slice ar nr cr) (s : ByteArray) (u a b c what A A2 : Int) (w : World) (hR : Reads w (.slice (some ⟨B, off, none⟩) n cap) t) (hRr : Reads w vr r) (hn : n ≤ 12) (hnr : nr ≤ 12) (hz : s.size ≤ 9223372036854775807) (hs : textFault s.data.toList = 0) (hf : faultN t = 0)
    (hA : (Wd.mk u a b c).answer t = A) (hA2 : (Wd.mk u a b c).answer r = A2) (hE : errV ((Wd.mk u a b c).fault t) = .nilIface) (hE2 : errV ((Wd.mk u a b c).fault r) = .nilIface) (hq : ¬ (11 : Int) < (n : Int) + (nr : Int)) (hq2 : what < 5) :
    Calls Try.prog 5 #[.slice (some ⟨B, off, none⟩) n cap, .string s, .agg #[.int .i64 u, .int .i64 a, .int .i64 b, .int .i64 c], vr, .int .i64 what] w fun e w' => e = .returned (.bool true) ∧ Below w.heap.size w w' := by
  obtain ⟨w1, hw1⟩ : ∃ w1, w1 = w.alloc (.cells #[.int .i64 u, .int .i64 a, .int .i64 b, .int .i64 c] 35) := ⟨_, rfl⟩
  have HB : Hid (Car w1.heap.size w1 w1) := ⟨Below.refl _ _, Nat.le_refl _⟩
  have HW : Hid (Below w.heap.size w w1 ∧ w.heap.size ≤ w1.heap.size) := by
    refine ⟨?_, ?_⟩
    · rw [hw1]; exact below_alloc1 _ _
    · rw [hw1]; simp
  have HX : Hid (∀ W, Car w1.heap.size w1 W → W.cell? ⟨w.heap.size, 0, none⟩ = some (.int .i64 u) ∧ W.cell? ⟨w.heap.size, 1, none⟩ = some (.int .i64 a) ∧ W.cell? ⟨w.heap.size, 2, none⟩ = some (.int .i64 b) ∧ W.cell? ⟨w.heap.size, 3, none⟩ = some (.int .i64 c)) := fun W hc => by
    have hlt : w.heap.size < w1.heap.size := by rw [hw1]; simp
    rw [hc.1.cell (p := ⟨w.heap.size, 0, none⟩) hlt, hc.1.cell (p := ⟨w.heap.size, 1, none⟩) hlt, hc.1.cell (p := ⟨w.heap.size, 2, none⟩) hlt, hc.1.cell (p := ⟨w.heap.size, 3, none⟩) hlt, hw1]
    simp
  have HRt : Hid (∀ W, Car w1.heap.size w1 W → Reads W (.slice (some ⟨B, off, none⟩) n cap) t) := fun W hc => (hR.below HW.out.1).below hc.1
  have HRr : Hid (∀ W, Car w1.heap.size w1 W → Reads W vr r) := fun W hc => (hRr.below HW.out.1).below hc.1
  obtain ⟨P, hP⟩ : ∃ P, P = strOf (textN t) := ⟨_, rfl⟩
  have HPt : Hid (∀ W, Car w1.heap.size w1 W → Calls Try.prog 10 #[.slice (some ⟨B, off, none⟩) n cap] W fun e w' => e = .returned (.tuple #[.string P, .nilIface]) ∧ Below W.heap.size W w') := fun W hc => print_text t P hP _ W (HRt.out W hc) hf
  have HPp : Hid (∀ W, Calls Try.prog 9 #[.string P] W fun e w' => ∃ v, e = .returned (.tuple #[v, .nilIface]) ∧ Reads w' v t ∧ Below W.heap.size W w') := fun W => by
    have ht := text_fault hf
    rw [← hP] at ht
    exact parse_good P t ht.2.2 ht.1 ht.2.1 W
  have HV : Hid (∀ q v W, Reads W v q → Calls Try.prog 12 #[v, .agg #[.int .i64 u, .int .i64 a, .int .i64 b, .int .i64 c]] W fun e w' => e = .returned (.tuple #[.int .i64 ((Wd.mk u a b c).answer q), errV ((Wd.mk u a b c).fault q)]) ∧ Below W.heap.size W w') := fun q v W hq => value_any q v u a b c W hq
  have HVt : Hid (∀ W, Car w1.heap.size w1 W → Calls Try.prog 12 #[.slice (some ⟨B, off, none⟩) n cap, .agg #[.int .i64 u, .int .i64 a, .int .i64 b, .int .i64 c]] W fun e w' => e = .returned (.tuple #[.int .i64 A, .nilIface]) ∧ Below W.heap.size W w') := fun W hc => by
    have := HV.out t _ W (HRt.out W hc)
    rw [hA, hE] at this; exact this
  have HVr : Hid (∀ W, Car w1.heap.size w1 W → Calls Try.prog 12 #[vr, .agg #[.int .i64 u, .int .i64 a, .int .i64 b, .int .i64 c]] W fun e w' => e = .returned (.tuple #[.int .i64 A2, .nilIface]) ∧ Below W.heap.size W w') := fun W hc => by
    have := HV.out r _ W (HRr.out W hc)
    rw [hA2, hE2] at this; exact this
  clear hA hA2 hE hE2 HV hP hR hRr hf HRr
  have HPs : Hid (∀ W, Calls Try.prog 9 #[.string s] W fun e w' => ∃ v, e = .returned (.tuple #[v, .nilIface]) ∧ Reads w' v (readN s.data.toList) ∧ Below W.heap.size W w') := fun W => parse_good s _ hz hs rfl W
  have HPx : Hid (∀ v W, Reads W v (readN s.data.toList) → Calls Try.prog 10 #[v] W fun e w' => e = .returned (.tuple #[.string s, .nilIface]) ∧ Below W.heap.size W w') := fun v W hr => print_text _ s (text_same s hs).symm v W hr (fault_text hs)
  clear hs hz
  subst hvr
  go_enter Try.func5, Try.ntmps5
  go_wp2_with fail
  rw [← hw1]
  clear hw1
  go_wp2_with fail
  go_at_call 9
  refine (parse_fact _).mono ?_
  rintro e w' ⟨b1, o1, c1, rfl, f0, f2, f3, hb⟩
  have HB : Hid (Car _ _ _) := HB.out.step hb
  clear hb
  go_wp2_with fail
  go_at_call 9
  refine (HPs.out _).mono ?_
  rintro e w' ⟨vx, rfl, hRx, hb⟩
  have HB : Hid (Car _ _ _) := HB.out.step hb
  clear hb
  have HRx : Hid (Reads _ _ _) := hRx
  clear hRx f0 f2 f3
  go_wp2_with fail
  go_at_call 10
  refine (HPx.out _ _ HRx.out).mono ?_
  rintro e w' ⟨rfl, hb⟩
  have HB : Hid (Car _ _ _) := HB.out.step hb
  clear hb
  clear HRx
  go_wp2_with fail
  go_at_call 10
  refine (HPt.out _ HB.out).mono ?_
  rintro e w' ⟨rfl, hb⟩
  have HB : Hid (Car _ _ _) := HB.out.step hb
  clear hb
  go_wp2_with fail
  go_at_call 9
  refine (HPp.out _).mono ?_
  rintro e w' ⟨vy, rfl, hRy, hb⟩
  have HB : Hid (Car _ _ _) := HB.out.step hb
  clear hb
  have HRy : Hid (Reads _ _ _) := hRy
  clear hRy
  go_wp2_with fail
  go_at_call 11
  refine (ints_same t _ _ _ HRy.out (HRt.out _ HB.out)).mono ?_
  rintro e w' ⟨rfl, hb⟩
  have HB : Hid (Car _ _ _) := HB.out.step hb
  clear hb
  clear HRy
  obtain ⟨x0, x1, x2, x3⟩ := HX.out _ HB.out
  go_wp2_with fail
  go_at_call 12
  refine (HVt.out _ HB.out).mono ?_
  rintro e w' ⟨rfl, hb⟩
  have HB : Hid (Car _ _ _) := HB.out.step hb
  clear hb
  clear x0 x1 x2 x3
  obtain ⟨x0, x1, x2, x3⟩ := HX.out _ HB.out
  go_wp2_with fail
  go_at_call 12
  refine (HVr.out _ HB.out).mono ?_
  rintro e w' ⟨rfl, hb⟩
  have HB : Hid (Car _ _ _) := HB.out.step hb
  clear hb
  clear x0 x1 x2 x3
  go_wp2
  go_ret
  exact ⟨rfl, HW.out.1.trans (HB.out.1.mono HW.out.2)⟩

set_option linter.unusedVariables false in
set_option maxRecDepth 100000 in
set_option maxHeartbeats 2000000 in
theorem termBack_high_good (t r : List Int) (B off n cap : Nat) (vr : Value) (ar : Option Addr) (nr cr : Nat) (hvr : vr = .slice ar nr cr) (s : ByteArray) (u a b c what A A2 : Int) (w : World) (hR : Reads w (.slice (some ⟨B, off, none⟩) n cap) t) (hRr : Reads w vr r) (hn : n ≤ 12) (hnr : nr ≤ 12) (hz : s.size ≤ 9223372036854775807) (hs : textFault s.data.toList = 0) (hf : faultN t = 0)
    (hA : (Wd.mk u a b c).answer t = A) (hA2 : (Wd.mk u a b c).answer r = A2) (hE : errV ((Wd.mk u a b c).fault t) = .nilIface) (hE2 : errV ((Wd.mk u a b c).fault r) = .nilIface) (hq : ¬ (11 : Int) < (n : Int) + (nr : Int)) (hq1 : ¬ what < 5) (hq2 : 7 < what) :
    Calls Try.prog 5 #[.slice (some ⟨B, off, none⟩) n cap, .string s, .agg #[.int .i64 u, .int .i64 a, .int .i64 b, .int .i64 c], vr, .int .i64 what] w fun e w' => e = .returned (.bool true) ∧ Below w.heap.size w w' := by
  obtain ⟨w1, hw1⟩ : ∃ w1, w1 = w.alloc (.cells #[.int .i64 u, .int .i64 a, .int .i64 b, .int .i64 c] 35) := ⟨_, rfl⟩
  have HB : Hid (Car w1.heap.size w1 w1) := ⟨Below.refl _ _, Nat.le_refl _⟩
  have HW : Hid (Below w.heap.size w w1 ∧ w.heap.size ≤ w1.heap.size) := by
    refine ⟨?_, ?_⟩
    · rw [hw1]; exact below_alloc1 _ _
    · rw [hw1]; simp
  have HX : Hid (∀ W, Car w1.heap.size w1 W → W.cell? ⟨w.heap.size, 0, none⟩ = some (.int .i64 u) ∧ W.cell? ⟨w.heap.size, 1, none⟩ = some (.int .i64 a) ∧ W.cell? ⟨w.heap.size, 2, none⟩ = some (.int .i64 b) ∧ W.cell? ⟨w.heap.size, 3, none⟩ = some (.int .i64 c)) := fun W hc => by
    have hlt : w.heap.size < w1.heap.size := by rw [hw1]; simp
    rw [hc.1.cell (p := ⟨w.heap.size, 0, none⟩) hlt, hc.1.cell (p := ⟨w.heap.size, 1, none⟩) hlt, hc.1.cell (p := ⟨w.heap.size, 2, none⟩) hlt, hc.1.cell (p := ⟨w.heap.size, 3, none⟩) hlt, hw1]
    simp
  have HRt : Hid (∀ W, Car w1.heap.size w1 W → Reads W (.slice (some ⟨B, off, none⟩) n cap) t) := fun W hc => (hR.below HW.out.1).below hc.1
  have HRr : Hid (∀ W, Car w1.heap.size w1 W → Reads W vr r) := fun W hc => (hRr.below HW.out.1).below hc.1
  obtain ⟨P, hP⟩ : ∃ P, P = strOf (textN t) := ⟨_, rfl⟩
  have HPt : Hid (∀ W, Car w1.heap.size w1 W → Calls Try.prog 10 #[.slice (some ⟨B, off, none⟩) n cap] W fun e w' => e = .returned (.tuple #[.string P, .nilIface]) ∧ Below W.heap.size W w') := fun W hc => print_text t P hP _ W (HRt.out W hc) hf
  have HPp : Hid (∀ W, Calls Try.prog 9 #[.string P] W fun e w' => ∃ v, e = .returned (.tuple #[v, .nilIface]) ∧ Reads w' v t ∧ Below W.heap.size W w') := fun W => by
    have ht := text_fault hf
    rw [← hP] at ht
    exact parse_good P t ht.2.2 ht.1 ht.2.1 W
  have HV : Hid (∀ q v W, Reads W v q → Calls Try.prog 12 #[v, .agg #[.int .i64 u, .int .i64 a, .int .i64 b, .int .i64 c]] W fun e w' => e = .returned (.tuple #[.int .i64 ((Wd.mk u a b c).answer q), errV ((Wd.mk u a b c).fault q)]) ∧ Below W.heap.size W w') := fun q v W hq => value_any q v u a b c W hq
  have HVt : Hid (∀ W, Car w1.heap.size w1 W → Calls Try.prog 12 #[.slice (some ⟨B, off, none⟩) n cap, .agg #[.int .i64 u, .int .i64 a, .int .i64 b, .int .i64 c]] W fun e w' => e = .returned (.tuple #[.int .i64 A, .nilIface]) ∧ Below W.heap.size W w') := fun W hc => by
    have := HV.out t _ W (HRt.out W hc)
    rw [hA, hE] at this; exact this
  have HVr : Hid (∀ W, Car w1.heap.size w1 W → Calls Try.prog 12 #[vr, .agg #[.int .i64 u, .int .i64 a, .int .i64 b, .int .i64 c]] W fun e w' => e = .returned (.tuple #[.int .i64 A2, .nilIface]) ∧ Below W.heap.size W w') := fun W hc => by
    have := HV.out r _ W (HRr.out W hc)
    rw [hA2, hE2] at this; exact this
  clear hA hA2 hE hE2 HV hP hR hRr hf HRr
  have HPs : Hid (∀ W, Calls Try.prog 9 #[.string s] W fun e w' => ∃ v, e = .returned (.tuple #[v, .nilIface]) ∧ Reads w' v (readN s.data.toList) ∧ Below W.heap.size W w') := fun W => parse_good s _ hz hs rfl W
  have HPx : Hid (∀ v W, Reads W v (readN s.data.toList) → Calls Try.prog 10 #[v] W fun e w' => e = .returned (.tuple #[.string s, .nilIface]) ∧ Below W.heap.size W w') := fun v W hr => print_text _ s (text_same s hs).symm v W hr (fault_text hs)
  clear hs hz
  subst hvr
  go_enter Try.func5, Try.ntmps5
  go_wp2_with fail
  rw [← hw1]
  clear hw1
  go_wp2_with fail
  go_at_call 9
  refine (parse_fact _).mono ?_
  rintro e w' ⟨b1, o1, c1, rfl, f0, f2, f3, hb⟩
  have HB : Hid (Car _ _ _) := HB.out.step hb
  clear hb
  go_wp2_with fail
  go_at_call 9
  refine (HPs.out _).mono ?_
  rintro e w' ⟨vx, rfl, hRx, hb⟩
  have HB : Hid (Car _ _ _) := HB.out.step hb
  clear hb
  have HRx : Hid (Reads _ _ _) := hRx
  clear hRx f0 f2 f3
  go_wp2_with fail
  go_at_call 10
  refine (HPx.out _ _ HRx.out).mono ?_
  rintro e w' ⟨rfl, hb⟩
  have HB : Hid (Car _ _ _) := HB.out.step hb
  clear hb
  clear HRx
  go_wp2_with fail
  go_at_call 10
  refine (HPt.out _ HB.out).mono ?_
  rintro e w' ⟨rfl, hb⟩
  have HB : Hid (Car _ _ _) := HB.out.step hb
  clear hb
  go_wp2_with fail
  go_at_call 9
  refine (HPp.out _).mono ?_
  rintro e w' ⟨vy, rfl, hRy, hb⟩
  have HB : Hid (Car _ _ _) := HB.out.step hb
  clear hb
  have HRy : Hid (Reads _ _ _) := hRy
  clear hRy
  go_wp2_with fail
  go_at_call 11
  refine (ints_same t _ _ _ HRy.out (HRt.out _ HB.out)).mono ?_
  rintro e w' ⟨rfl, hb⟩
  have HB : Hid (Car _ _ _) := HB.out.step hb
  clear hb
  clear HRy
  obtain ⟨x0, x1, x2, x3⟩ := HX.out _ HB.out
  go_wp2_with fail
  go_at_call 12
  refine (HVt.out _ HB.out).mono ?_
  rintro e w' ⟨rfl, hb⟩
  have HB : Hid (Car _ _ _) := HB.out.step hb
  clear hb
  clear x0 x1 x2 x3
  obtain ⟨x0, x1, x2, x3⟩ := HX.out _ HB.out
  go_wp2_with fail
  go_at_call 12
  refine (HVr.out _ HB.out).mono ?_
  rintro e w' ⟨rfl, hb⟩
  have HB : Hid (Car _ _ _) := HB.out.step hb
  clear hb
  clear x0 x1 x2 x3
  go_wp2
  go_ret
  exact ⟨rfl, HW.out.1.trans (HB.out.1.mono HW.out.2)⟩

set_option linter.unusedVariables false in
set_option maxRecDepth 100000 in
set_option maxHeartbeats 2000000 in
theorem termBack_e1_bad (t r : List Int) (B off n cap : Nat) (vr : Value) (ar : Option Addr) (nr cr : Nat) (hvr : vr = .slice ar nr cr) (s : ByteArray) (u a b c what A A2 : Int) (w : World) (hR : Reads w (.slice (some ⟨B, off, none⟩) n cap) t) (hRr : Reads w vr r) (hn : n ≤ 12) (hz : s.size ≤ 9223372036854775807) (hs : ¬ textFault s.data.toList = 0) (hf : faultN t = 0)
    (hA : (Wd.mk u a b c).answer t = A) (hA2 : (Wd.mk u a b c).answer r = A2) (m : Int) (hE : errV ((Wd.mk u a b c).fault t) = .iface 23 (.int .i64 m)) (E2 : Value) (hE2 : errV ((Wd.mk u a b c).fault r) = E2)  :
    Calls Try.prog 5 #[.slice (some ⟨B, off, none⟩) n cap, .string s, .agg #[.int .i64 u, .int .i64 a, .int .i64 b, .int .i64 c], vr, .int .i64 what] w fun e w' => e = .returned (.bool true) ∧ Below w.heap.size w w' := by
  obtain ⟨w1, hw1⟩ : ∃ w1, w1 = w.alloc (.cells #[.int .i64 u, .int .i64 a, .int .i64 b, .int .i64 c] 35) := ⟨_, rfl⟩
  have HB : Hid (Car w1.heap.size w1 w1) := ⟨Below.refl _ _, Nat.le_refl _⟩
  have HW : Hid (Below w.heap.size w w1 ∧ w.heap.size ≤ w1.heap.size) := by
    refine ⟨?_, ?_⟩
    · rw [hw1]; exact below_alloc1 _ _
    · rw [hw1]; simp
  have HX : Hid (∀ W, Car w1.heap.size w1 W → W.cell? ⟨w.heap.size, 0, none⟩ = some (.int .i64 u) ∧ W.cell? ⟨w.heap.size, 1, none⟩ = some (.int .i64 a) ∧ W.cell? ⟨w.heap.size, 2, none⟩ = some (.int .i64 b) ∧ W.cell? ⟨w.heap.size, 3, none⟩ = some (.int .i64 c)) := fun W hc => by
    have hlt : w.heap.size < w1.heap.size := by rw [hw1]; simp
    rw [hc.1.cell (p := ⟨w.heap.size, 0, none⟩) hlt, hc.1.cell (p := ⟨w.heap.size, 1, none⟩) hlt, hc.1.cell (p := ⟨w.heap.size, 2, none⟩) hlt, hc.1.cell (p := ⟨w.heap.size, 3, none⟩) hlt, hw1]
    simp
  have HRt : Hid (∀ W, Car w1.heap.size w1 W → Reads W (.slice (some ⟨B, off, none⟩) n cap) t) := fun W hc => (hR.below HW.out.1).below hc.1
  have HRr : Hid (∀ W, Car w1.heap.size w1 W → Reads W vr r) := fun W hc => (hRr.below HW.out.1).below hc.1
  obtain ⟨P, hP⟩ : ∃ P, P = strOf (textN t) := ⟨_, rfl⟩
  have HPt : Hid (∀ W, Car w1.heap.size w1 W → Calls Try.prog 10 #[.slice (some ⟨B, off, none⟩) n cap] W fun e w' => e = .returned (.tuple #[.string P, .nilIface]) ∧ Below W.heap.size W w') := fun W hc => print_text t P hP _ W (HRt.out W hc) hf
  have HPp : Hid (∀ W, Calls Try.prog 9 #[.string P] W fun e w' => ∃ v, e = .returned (.tuple #[v, .nilIface]) ∧ Reads w' v t ∧ Below W.heap.size W w') := fun W => by
    have ht := text_fault hf
    rw [← hP] at ht
    exact parse_good P t ht.2.2 ht.1 ht.2.1 W
  have HV : Hid (∀ q v W, Reads W v q → Calls Try.prog 12 #[v, .agg #[.int .i64 u, .int .i64 a, .int .i64 b, .int .i64 c]] W fun e w' => e = .returned (.tuple #[.int .i64 ((Wd.mk u a b c).answer q), errV ((Wd.mk u a b c).fault q)]) ∧ Below W.heap.size W w') := fun q v W hq => value_any q v u a b c W hq
  have HVt : Hid (∀ W, Car w1.heap.size w1 W → Calls Try.prog 12 #[.slice (some ⟨B, off, none⟩) n cap, .agg #[.int .i64 u, .int .i64 a, .int .i64 b, .int .i64 c]] W fun e w' => e = .returned (.tuple #[.int .i64 A, .iface 23 (.int .i64 m)]) ∧ Below W.heap.size W w') := fun W hc => by
    have := HV.out t _ W (HRt.out W hc)
    rw [hA, hE] at this; exact this
  have HVr : Hid (∀ W, Car w1.heap.size w1 W → Calls Try.prog 12 #[vr, .agg #[.int .i64 u, .int .i64 a, .int .i64 b, .int .i64 c]] W fun e w' => e = .returned (.tuple #[.int .i64 A2, E2]) ∧ Below W.heap.size W w') := fun W hc => by
    have := HV.out r _ W (HRr.out W hc)
    rw [hA2, hE2] at this; exact this
  clear hA hA2 hE hE2 HV hP hR hRr hf HRr
  have HPs : Hid (∀ W, Calls Try.prog 9 #[.string s] W fun e w' => e = .returned (.tuple #[.slice none 0 0, .iface 23 (.int .i64 (textFault s.data.toList))]) ∧ Below W.heap.size W w') := fun W => parse_none s hz hs W
  obtain ⟨Fs, hFs⟩ : ∃ Fs, Fs = textFault s.data.toList := ⟨_, rfl⟩
  rw [← hFs] at HPs
  clear hFs
  clear hs hz
  subst hvr
  go_enter Try.func5, Try.ntmps5
  go_wp2_with fail
  rw [← hw1]
  clear hw1
  go_wp2_with fail
  go_at_call 9
  refine (parse_fact _).mono ?_
  rintro e w' ⟨b1, o1, c1, rfl, f0, f2, f3, hb⟩
  have HB : Hid (Car _ _ _) := HB.out.step hb
  clear hb
  go_wp2_with fail
  go_at_call 9
  refine (HPs.out _).mono ?_
  rintro e w' ⟨rfl, hb⟩
  have HB : Hid (Car _ _ _) := HB.out.step hb
  clear hb
  clear f0 f2 f3
  go_wp2_with fail
  go_at_call 10
  refine (HPt.out _ HB.out).mono ?_
  rintro e w' ⟨rfl, hb⟩
  have HB : Hid (Car _ _ _) := HB.out.step hb
  clear hb
  go_wp2_with fail
  go_at_call 9
  refine (HPp.out _).mono ?_
  rintro e w' ⟨vy, rfl, hRy, hb⟩
  have HB : Hid (Car _ _ _) := HB.out.step hb
  clear hb
  have HRy : Hid (Reads _ _ _) := hRy
  clear hRy
  go_wp2_with fail
  go_at_call 11
  refine (ints_same t _ _ _ HRy.out (HRt.out _ HB.out)).mono ?_
  rintro e w' ⟨rfl, hb⟩
  have HB : Hid (Car _ _ _) := HB.out.step hb
  clear hb
  clear HRy
  obtain ⟨x0, x1, x2, x3⟩ := HX.out _ HB.out
  go_wp2_with fail
  go_at_call 12
  refine (HVt.out _ HB.out).mono ?_
  rintro e w' ⟨rfl, hb⟩
  have HB : Hid (Car _ _ _) := HB.out.step hb
  clear hb
  clear x0 x1 x2 x3
  obtain ⟨x0, x1, x2, x3⟩ := HX.out _ HB.out
  go_wp2_with fail
  go_at_call 12
  refine (HVr.out _ HB.out).mono ?_
  rintro e w' ⟨rfl, hb⟩
  have HB : Hid (Car _ _ _) := HB.out.step hb
  clear hb
  clear x0 x1 x2 x3
  go_wp2
  go_ret
  exact ⟨rfl, HW.out.1.trans (HB.out.1.mono HW.out.2)⟩

set_option linter.unusedVariables false in
set_option maxRecDepth 100000 in
set_option maxHeartbeats 2000000 in
theorem termBack_e2_bad (t r : List Int) (B off n cap : Nat) (vr : Value) (ar : Option Addr) (nr cr : Nat) (hvr : vr = .slice ar nr cr) (s : ByteArray) (u a b c what A A2 : Int) (w : World) (hR : Reads w (.slice (some ⟨B, off, none⟩) n cap) t) (hRr : Reads w vr r) (hn : n ≤ 12) (hz : s.size ≤ 9223372036854775807) (hs : ¬ textFault s.data.toList = 0) (hf : faultN t = 0)
    (hA : (Wd.mk u a b c).answer t = A) (hA2 : (Wd.mk u a b c).answer r = A2) (hE : errV ((Wd.mk u a b c).fault t) = .nilIface) (m : Int) (hE2 : errV ((Wd.mk u a b c).fault r) = .iface 23 (.int .i64 m))  :
    Calls Try.prog 5 #[.slice (some ⟨B, off, none⟩) n cap, .string s, .agg #[.int .i64 u, .int .i64 a, .int .i64 b, .int .i64 c], vr, .int .i64 what] w fun e w' => e = .returned (.bool true) ∧ Below w.heap.size w w' := by
  obtain ⟨w1, hw1⟩ : ∃ w1, w1 = w.alloc (.cells #[.int .i64 u, .int .i64 a, .int .i64 b, .int .i64 c] 35) := ⟨_, rfl⟩
  have HB : Hid (Car w1.heap.size w1 w1) := ⟨Below.refl _ _, Nat.le_refl _⟩
  have HW : Hid (Below w.heap.size w w1 ∧ w.heap.size ≤ w1.heap.size) := by
    refine ⟨?_, ?_⟩
    · rw [hw1]; exact below_alloc1 _ _
    · rw [hw1]; simp
  have HX : Hid (∀ W, Car w1.heap.size w1 W → W.cell? ⟨w.heap.size, 0, none⟩ = some (.int .i64 u) ∧ W.cell? ⟨w.heap.size, 1, none⟩ = some (.int .i64 a) ∧ W.cell? ⟨w.heap.size, 2, none⟩ = some (.int .i64 b) ∧ W.cell? ⟨w.heap.size, 3, none⟩ = some (.int .i64 c)) := fun W hc => by
    have hlt : w.heap.size < w1.heap.size := by rw [hw1]; simp
    rw [hc.1.cell (p := ⟨w.heap.size, 0, none⟩) hlt, hc.1.cell (p := ⟨w.heap.size, 1, none⟩) hlt, hc.1.cell (p := ⟨w.heap.size, 2, none⟩) hlt, hc.1.cell (p := ⟨w.heap.size, 3, none⟩) hlt, hw1]
    simp
  have HRt : Hid (∀ W, Car w1.heap.size w1 W → Reads W (.slice (some ⟨B, off, none⟩) n cap) t) := fun W hc => (hR.below HW.out.1).below hc.1
  have HRr : Hid (∀ W, Car w1.heap.size w1 W → Reads W vr r) := fun W hc => (hRr.below HW.out.1).below hc.1
  obtain ⟨P, hP⟩ : ∃ P, P = strOf (textN t) := ⟨_, rfl⟩
  have HPt : Hid (∀ W, Car w1.heap.size w1 W → Calls Try.prog 10 #[.slice (some ⟨B, off, none⟩) n cap] W fun e w' => e = .returned (.tuple #[.string P, .nilIface]) ∧ Below W.heap.size W w') := fun W hc => print_text t P hP _ W (HRt.out W hc) hf
  have HPp : Hid (∀ W, Calls Try.prog 9 #[.string P] W fun e w' => ∃ v, e = .returned (.tuple #[v, .nilIface]) ∧ Reads w' v t ∧ Below W.heap.size W w') := fun W => by
    have ht := text_fault hf
    rw [← hP] at ht
    exact parse_good P t ht.2.2 ht.1 ht.2.1 W
  have HV : Hid (∀ q v W, Reads W v q → Calls Try.prog 12 #[v, .agg #[.int .i64 u, .int .i64 a, .int .i64 b, .int .i64 c]] W fun e w' => e = .returned (.tuple #[.int .i64 ((Wd.mk u a b c).answer q), errV ((Wd.mk u a b c).fault q)]) ∧ Below W.heap.size W w') := fun q v W hq => value_any q v u a b c W hq
  have HVt : Hid (∀ W, Car w1.heap.size w1 W → Calls Try.prog 12 #[.slice (some ⟨B, off, none⟩) n cap, .agg #[.int .i64 u, .int .i64 a, .int .i64 b, .int .i64 c]] W fun e w' => e = .returned (.tuple #[.int .i64 A, .nilIface]) ∧ Below W.heap.size W w') := fun W hc => by
    have := HV.out t _ W (HRt.out W hc)
    rw [hA, hE] at this; exact this
  have HVr : Hid (∀ W, Car w1.heap.size w1 W → Calls Try.prog 12 #[vr, .agg #[.int .i64 u, .int .i64 a, .int .i64 b, .int .i64 c]] W fun e w' => e = .returned (.tuple #[.int .i64 A2, .iface 23 (.int .i64 m)]) ∧ Below W.heap.size W w') := fun W hc => by
    have := HV.out r _ W (HRr.out W hc)
    rw [hA2, hE2] at this; exact this
  clear hA hA2 hE hE2 HV hP hR hRr hf HRr
  have HPs : Hid (∀ W, Calls Try.prog 9 #[.string s] W fun e w' => e = .returned (.tuple #[.slice none 0 0, .iface 23 (.int .i64 (textFault s.data.toList))]) ∧ Below W.heap.size W w') := fun W => parse_none s hz hs W
  obtain ⟨Fs, hFs⟩ : ∃ Fs, Fs = textFault s.data.toList := ⟨_, rfl⟩
  rw [← hFs] at HPs
  clear hFs
  clear hs hz
  subst hvr
  go_enter Try.func5, Try.ntmps5
  go_wp2_with fail
  rw [← hw1]
  clear hw1
  go_wp2_with fail
  go_at_call 9
  refine (parse_fact _).mono ?_
  rintro e w' ⟨b1, o1, c1, rfl, f0, f2, f3, hb⟩
  have HB : Hid (Car _ _ _) := HB.out.step hb
  clear hb
  go_wp2_with fail
  go_at_call 9
  refine (HPs.out _).mono ?_
  rintro e w' ⟨rfl, hb⟩
  have HB : Hid (Car _ _ _) := HB.out.step hb
  clear hb
  clear f0 f2 f3
  go_wp2_with fail
  go_at_call 10
  refine (HPt.out _ HB.out).mono ?_
  rintro e w' ⟨rfl, hb⟩
  have HB : Hid (Car _ _ _) := HB.out.step hb
  clear hb
  go_wp2_with fail
  go_at_call 9
  refine (HPp.out _).mono ?_
  rintro e w' ⟨vy, rfl, hRy, hb⟩
  have HB : Hid (Car _ _ _) := HB.out.step hb
  clear hb
  have HRy : Hid (Reads _ _ _) := hRy
  clear hRy
  go_wp2_with fail
  go_at_call 11
  refine (ints_same t _ _ _ HRy.out (HRt.out _ HB.out)).mono ?_
  rintro e w' ⟨rfl, hb⟩
  have HB : Hid (Car _ _ _) := HB.out.step hb
  clear hb
  clear HRy
  obtain ⟨x0, x1, x2, x3⟩ := HX.out _ HB.out
  go_wp2_with fail
  go_at_call 12
  refine (HVt.out _ HB.out).mono ?_
  rintro e w' ⟨rfl, hb⟩
  have HB : Hid (Car _ _ _) := HB.out.step hb
  clear hb
  clear x0 x1 x2 x3
  obtain ⟨x0, x1, x2, x3⟩ := HX.out _ HB.out
  go_wp2_with fail
  go_at_call 12
  refine (HVr.out _ HB.out).mono ?_
  rintro e w' ⟨rfl, hb⟩
  have HB : Hid (Car _ _ _) := HB.out.step hb
  clear hb
  clear x0 x1 x2 x3
  go_wp2
  go_ret
  exact ⟨rfl, HW.out.1.trans (HB.out.1.mono HW.out.2)⟩

set_option linter.unusedVariables false in
set_option maxRecDepth 100000 in
set_option maxHeartbeats 2000000 in
theorem termBack_len_bad (t r : List Int) (B off n cap : Nat) (vr : Value) (ar : Option Addr) (nr cr : Nat) (hvr : vr = .slice ar nr cr) (s : ByteArray) (u a b c what A A2 : Int) (w : World) (hR : Reads w (.slice (some ⟨B, off, none⟩) n cap) t) (hRr : Reads w vr r) (hn : n ≤ 12) (hnr : nr ≤ 12) (hz : s.size ≤ 9223372036854775807) (hs : ¬ textFault s.data.toList = 0) (hf : faultN t = 0)
    (hA : (Wd.mk u a b c).answer t = A) (hA2 : (Wd.mk u a b c).answer r = A2) (hE : errV ((Wd.mk u a b c).fault t) = .nilIface) (hE2 : errV ((Wd.mk u a b c).fault r) = .nilIface) (hq : (11 : Int) < (n : Int) + (nr : Int)) :
    Calls Try.prog 5 #[.slice (some ⟨B, off, none⟩) n cap, .string s, .agg #[.int .i64 u, .int .i64 a, .int .i64 b, .int .i64 c], vr, .int .i64 what] w fun e w' => e = .returned (.bool true) ∧ Below w.heap.size w w' := by
  obtain ⟨w1, hw1⟩ : ∃ w1, w1 = w.alloc (.cells #[.int .i64 u, .int .i64 a, .int .i64 b, .int .i64 c] 35) := ⟨_, rfl⟩
  have HB : Hid (Car w1.heap.size w1 w1) := ⟨Below.refl _ _, Nat.le_refl _⟩
  have HW : Hid (Below w.heap.size w w1 ∧ w.heap.size ≤ w1.heap.size) := by
    refine ⟨?_, ?_⟩
    · rw [hw1]; exact below_alloc1 _ _
    · rw [hw1]; simp
  have HX : Hid (∀ W, Car w1.heap.size w1 W → W.cell? ⟨w.heap.size, 0, none⟩ = some (.int .i64 u) ∧ W.cell? ⟨w.heap.size, 1, none⟩ = some (.int .i64 a) ∧ W.cell? ⟨w.heap.size, 2, none⟩ = some (.int .i64 b) ∧ W.cell? ⟨w.heap.size, 3, none⟩ = some (.int .i64 c)) := fun W hc => by
    have hlt : w.heap.size < w1.heap.size := by rw [hw1]; simp
    rw [hc.1.cell (p := ⟨w.heap.size, 0, none⟩) hlt, hc.1.cell (p := ⟨w.heap.size, 1, none⟩) hlt, hc.1.cell (p := ⟨w.heap.size, 2, none⟩) hlt, hc.1.cell (p := ⟨w.heap.size, 3, none⟩) hlt, hw1]
    simp
  have HRt : Hid (∀ W, Car w1.heap.size w1 W → Reads W (.slice (some ⟨B, off, none⟩) n cap) t) := fun W hc => (hR.below HW.out.1).below hc.1
  have HRr : Hid (∀ W, Car w1.heap.size w1 W → Reads W vr r) := fun W hc => (hRr.below HW.out.1).below hc.1
  obtain ⟨P, hP⟩ : ∃ P, P = strOf (textN t) := ⟨_, rfl⟩
  have HPt : Hid (∀ W, Car w1.heap.size w1 W → Calls Try.prog 10 #[.slice (some ⟨B, off, none⟩) n cap] W fun e w' => e = .returned (.tuple #[.string P, .nilIface]) ∧ Below W.heap.size W w') := fun W hc => print_text t P hP _ W (HRt.out W hc) hf
  have HPp : Hid (∀ W, Calls Try.prog 9 #[.string P] W fun e w' => ∃ v, e = .returned (.tuple #[v, .nilIface]) ∧ Reads w' v t ∧ Below W.heap.size W w') := fun W => by
    have ht := text_fault hf
    rw [← hP] at ht
    exact parse_good P t ht.2.2 ht.1 ht.2.1 W
  have HV : Hid (∀ q v W, Reads W v q → Calls Try.prog 12 #[v, .agg #[.int .i64 u, .int .i64 a, .int .i64 b, .int .i64 c]] W fun e w' => e = .returned (.tuple #[.int .i64 ((Wd.mk u a b c).answer q), errV ((Wd.mk u a b c).fault q)]) ∧ Below W.heap.size W w') := fun q v W hq => value_any q v u a b c W hq
  have HVt : Hid (∀ W, Car w1.heap.size w1 W → Calls Try.prog 12 #[.slice (some ⟨B, off, none⟩) n cap, .agg #[.int .i64 u, .int .i64 a, .int .i64 b, .int .i64 c]] W fun e w' => e = .returned (.tuple #[.int .i64 A, .nilIface]) ∧ Below W.heap.size W w') := fun W hc => by
    have := HV.out t _ W (HRt.out W hc)
    rw [hA, hE] at this; exact this
  have HVr : Hid (∀ W, Car w1.heap.size w1 W → Calls Try.prog 12 #[vr, .agg #[.int .i64 u, .int .i64 a, .int .i64 b, .int .i64 c]] W fun e w' => e = .returned (.tuple #[.int .i64 A2, .nilIface]) ∧ Below W.heap.size W w') := fun W hc => by
    have := HV.out r _ W (HRr.out W hc)
    rw [hA2, hE2] at this; exact this
  clear hA hA2 hE hE2 HV hP hR hRr hf HRr
  have HPs : Hid (∀ W, Calls Try.prog 9 #[.string s] W fun e w' => e = .returned (.tuple #[.slice none 0 0, .iface 23 (.int .i64 (textFault s.data.toList))]) ∧ Below W.heap.size W w') := fun W => parse_none s hz hs W
  obtain ⟨Fs, hFs⟩ : ∃ Fs, Fs = textFault s.data.toList := ⟨_, rfl⟩
  rw [← hFs] at HPs
  clear hFs
  clear hs hz
  subst hvr
  go_enter Try.func5, Try.ntmps5
  go_wp2_with fail
  rw [← hw1]
  clear hw1
  go_wp2_with fail
  go_at_call 9
  refine (parse_fact _).mono ?_
  rintro e w' ⟨b1, o1, c1, rfl, f0, f2, f3, hb⟩
  have HB : Hid (Car _ _ _) := HB.out.step hb
  clear hb
  go_wp2_with fail
  go_at_call 9
  refine (HPs.out _).mono ?_
  rintro e w' ⟨rfl, hb⟩
  have HB : Hid (Car _ _ _) := HB.out.step hb
  clear hb
  clear f0 f2 f3
  go_wp2_with fail
  go_at_call 10
  refine (HPt.out _ HB.out).mono ?_
  rintro e w' ⟨rfl, hb⟩
  have HB : Hid (Car _ _ _) := HB.out.step hb
  clear hb
  go_wp2_with fail
  go_at_call 9
  refine (HPp.out _).mono ?_
  rintro e w' ⟨vy, rfl, hRy, hb⟩
  have HB : Hid (Car _ _ _) := HB.out.step hb
  clear hb
  have HRy : Hid (Reads _ _ _) := hRy
  clear hRy
  go_wp2_with fail
  go_at_call 11
  refine (ints_same t _ _ _ HRy.out (HRt.out _ HB.out)).mono ?_
  rintro e w' ⟨rfl, hb⟩
  have HB : Hid (Car _ _ _) := HB.out.step hb
  clear hb
  clear HRy
  obtain ⟨x0, x1, x2, x3⟩ := HX.out _ HB.out
  go_wp2_with fail
  go_at_call 12
  refine (HVt.out _ HB.out).mono ?_
  rintro e w' ⟨rfl, hb⟩
  have HB : Hid (Car _ _ _) := HB.out.step hb
  clear hb
  clear x0 x1 x2 x3
  obtain ⟨x0, x1, x2, x3⟩ := HX.out _ HB.out
  go_wp2_with fail
  go_at_call 12
  refine (HVr.out _ HB.out).mono ?_
  rintro e w' ⟨rfl, hb⟩
  have HB : Hid (Car _ _ _) := HB.out.step hb
  clear hb
  clear x0 x1 x2 x3
  go_wp2
  go_ret
  exact ⟨rfl, HW.out.1.trans (HB.out.1.mono HW.out.2)⟩

set_option linter.unusedVariables false in
set_option maxRecDepth 100000 in
set_option maxHeartbeats 2000000 in
theorem termBack_low_bad (t r : List Int) (B off n cap : Nat) (vr : Value) (ar : Option Addr) (nr cr : Nat) (hvr : vr = .slice ar nr cr) (s : ByteArray) (u a b c what A A2 : Int) (w : World) (hR : Reads w (.slice (some ⟨B, off, none⟩) n cap) t) (hRr : Reads w vr r) (hn : n ≤ 12) (hnr : nr ≤ 12) (hz : s.size ≤ 9223372036854775807) (hs : ¬ textFault s.data.toList = 0) (hf : faultN t = 0)
    (hA : (Wd.mk u a b c).answer t = A) (hA2 : (Wd.mk u a b c).answer r = A2) (hE : errV ((Wd.mk u a b c).fault t) = .nilIface) (hE2 : errV ((Wd.mk u a b c).fault r) = .nilIface) (hq : ¬ (11 : Int) < (n : Int) + (nr : Int)) (hq2 : what < 5) :
    Calls Try.prog 5 #[.slice (some ⟨B, off, none⟩) n cap, .string s, .agg #[.int .i64 u, .int .i64 a, .int .i64 b, .int .i64 c], vr, .int .i64 what] w fun e w' => e = .returned (.bool true) ∧ Below w.heap.size w w' := by
  obtain ⟨w1, hw1⟩ : ∃ w1, w1 = w.alloc (.cells #[.int .i64 u, .int .i64 a, .int .i64 b, .int .i64 c] 35) := ⟨_, rfl⟩
  have HB : Hid (Car w1.heap.size w1 w1) := ⟨Below.refl _ _, Nat.le_refl _⟩
  have HW : Hid (Below w.heap.size w w1 ∧ w.heap.size ≤ w1.heap.size) := by
    refine ⟨?_, ?_⟩
    · rw [hw1]; exact below_alloc1 _ _
    · rw [hw1]; simp
  have HX : Hid (∀ W, Car w1.heap.size w1 W → W.cell? ⟨w.heap.size, 0, none⟩ = some (.int .i64 u) ∧ W.cell? ⟨w.heap.size, 1, none⟩ = some (.int .i64 a) ∧ W.cell? ⟨w.heap.size, 2, none⟩ = some (.int .i64 b) ∧ W.cell? ⟨w.heap.size, 3, none⟩ = some (.int .i64 c)) := fun W hc => by
    have hlt : w.heap.size < w1.heap.size := by rw [hw1]; simp
    rw [hc.1.cell (p := ⟨w.heap.size, 0, none⟩) hlt, hc.1.cell (p := ⟨w.heap.size, 1, none⟩) hlt, hc.1.cell (p := ⟨w.heap.size, 2, none⟩) hlt, hc.1.cell (p := ⟨w.heap.size, 3, none⟩) hlt, hw1]
    simp
  have HRt : Hid (∀ W, Car w1.heap.size w1 W → Reads W (.slice (some ⟨B, off, none⟩) n cap) t) := fun W hc => (hR.below HW.out.1).below hc.1
  have HRr : Hid (∀ W, Car w1.heap.size w1 W → Reads W vr r) := fun W hc => (hRr.below HW.out.1).below hc.1
  obtain ⟨P, hP⟩ : ∃ P, P = strOf (textN t) := ⟨_, rfl⟩
  have HPt : Hid (∀ W, Car w1.heap.size w1 W → Calls Try.prog 10 #[.slice (some ⟨B, off, none⟩) n cap] W fun e w' => e = .returned (.tuple #[.string P, .nilIface]) ∧ Below W.heap.size W w') := fun W hc => print_text t P hP _ W (HRt.out W hc) hf
  have HPp : Hid (∀ W, Calls Try.prog 9 #[.string P] W fun e w' => ∃ v, e = .returned (.tuple #[v, .nilIface]) ∧ Reads w' v t ∧ Below W.heap.size W w') := fun W => by
    have ht := text_fault hf
    rw [← hP] at ht
    exact parse_good P t ht.2.2 ht.1 ht.2.1 W
  have HV : Hid (∀ q v W, Reads W v q → Calls Try.prog 12 #[v, .agg #[.int .i64 u, .int .i64 a, .int .i64 b, .int .i64 c]] W fun e w' => e = .returned (.tuple #[.int .i64 ((Wd.mk u a b c).answer q), errV ((Wd.mk u a b c).fault q)]) ∧ Below W.heap.size W w') := fun q v W hq => value_any q v u a b c W hq
  have HVt : Hid (∀ W, Car w1.heap.size w1 W → Calls Try.prog 12 #[.slice (some ⟨B, off, none⟩) n cap, .agg #[.int .i64 u, .int .i64 a, .int .i64 b, .int .i64 c]] W fun e w' => e = .returned (.tuple #[.int .i64 A, .nilIface]) ∧ Below W.heap.size W w') := fun W hc => by
    have := HV.out t _ W (HRt.out W hc)
    rw [hA, hE] at this; exact this
  have HVr : Hid (∀ W, Car w1.heap.size w1 W → Calls Try.prog 12 #[vr, .agg #[.int .i64 u, .int .i64 a, .int .i64 b, .int .i64 c]] W fun e w' => e = .returned (.tuple #[.int .i64 A2, .nilIface]) ∧ Below W.heap.size W w') := fun W hc => by
    have := HV.out r _ W (HRr.out W hc)
    rw [hA2, hE2] at this; exact this
  clear hA hA2 hE hE2 HV hP hR hRr hf HRr
  have HPs : Hid (∀ W, Calls Try.prog 9 #[.string s] W fun e w' => e = .returned (.tuple #[.slice none 0 0, .iface 23 (.int .i64 (textFault s.data.toList))]) ∧ Below W.heap.size W w') := fun W => parse_none s hz hs W
  obtain ⟨Fs, hFs⟩ : ∃ Fs, Fs = textFault s.data.toList := ⟨_, rfl⟩
  rw [← hFs] at HPs
  clear hFs
  clear hs hz
  subst hvr
  go_enter Try.func5, Try.ntmps5
  go_wp2_with fail
  rw [← hw1]
  clear hw1
  go_wp2_with fail
  go_at_call 9
  refine (parse_fact _).mono ?_
  rintro e w' ⟨b1, o1, c1, rfl, f0, f2, f3, hb⟩
  have HB : Hid (Car _ _ _) := HB.out.step hb
  clear hb
  go_wp2_with fail
  go_at_call 9
  refine (HPs.out _).mono ?_
  rintro e w' ⟨rfl, hb⟩
  have HB : Hid (Car _ _ _) := HB.out.step hb
  clear hb
  clear f0 f2 f3
  go_wp2_with fail
  go_at_call 10
  refine (HPt.out _ HB.out).mono ?_
  rintro e w' ⟨rfl, hb⟩
  have HB : Hid (Car _ _ _) := HB.out.step hb
  clear hb
  go_wp2_with fail
  go_at_call 9
  refine (HPp.out _).mono ?_
  rintro e w' ⟨vy, rfl, hRy, hb⟩
  have HB : Hid (Car _ _ _) := HB.out.step hb
  clear hb
  have HRy : Hid (Reads _ _ _) := hRy
  clear hRy
  go_wp2_with fail
  go_at_call 11
  refine (ints_same t _ _ _ HRy.out (HRt.out _ HB.out)).mono ?_
  rintro e w' ⟨rfl, hb⟩
  have HB : Hid (Car _ _ _) := HB.out.step hb
  clear hb
  clear HRy
  obtain ⟨x0, x1, x2, x3⟩ := HX.out _ HB.out
  go_wp2_with fail
  go_at_call 12
  refine (HVt.out _ HB.out).mono ?_
  rintro e w' ⟨rfl, hb⟩
  have HB : Hid (Car _ _ _) := HB.out.step hb
  clear hb
  clear x0 x1 x2 x3
  obtain ⟨x0, x1, x2, x3⟩ := HX.out _ HB.out
  go_wp2_with fail
  go_at_call 12
  refine (HVr.out _ HB.out).mono ?_
  rintro e w' ⟨rfl, hb⟩
  have HB : Hid (Car _ _ _) := HB.out.step hb
  clear hb
  clear x0 x1 x2 x3
  go_wp2
  go_ret
  exact ⟨rfl, HW.out.1.trans (HB.out.1.mono HW.out.2)⟩

set_option linter.unusedVariables false in
set_option maxRecDepth 100000 in
set_option maxHeartbeats 2000000 in
theorem termBack_high_bad (t r : List Int) (B off n cap : Nat) (vr : Value) (ar : Option Addr) (nr cr : Nat) (hvr : vr = .slice ar nr cr) (s : ByteArray) (u a b c what A A2 : Int) (w : World) (hR : Reads w (.slice (some ⟨B, off, none⟩) n cap) t) (hRr : Reads w vr r) (hn : n ≤ 12) (hnr : nr ≤ 12) (hz : s.size ≤ 9223372036854775807) (hs : ¬ textFault s.data.toList = 0) (hf : faultN t = 0)
    (hA : (Wd.mk u a b c).answer t = A) (hA2 : (Wd.mk u a b c).answer r = A2) (hE : errV ((Wd.mk u a b c).fault t) = .nilIface) (hE2 : errV ((Wd.mk u a b c).fault r) = .nilIface) (hq : ¬ (11 : Int) < (n : Int) + (nr : Int)) (hq1 : ¬ what < 5) (hq2 : 7 < what) :
    Calls Try.prog 5 #[.slice (some ⟨B, off, none⟩) n cap, .string s, .agg #[.int .i64 u, .int .i64 a, .int .i64 b, .int .i64 c], vr, .int .i64 what] w fun e w' => e = .returned (.bool true) ∧ Below w.heap.size w w' := by
  obtain ⟨w1, hw1⟩ : ∃ w1, w1 = w.alloc (.cells #[.int .i64 u, .int .i64 a, .int .i64 b, .int .i64 c] 35) := ⟨_, rfl⟩
  have HB : Hid (Car w1.heap.size w1 w1) := ⟨Below.refl _ _, Nat.le_refl _⟩
  have HW : Hid (Below w.heap.size w w1 ∧ w.heap.size ≤ w1.heap.size) := by
    refine ⟨?_, ?_⟩
    · rw [hw1]; exact below_alloc1 _ _
    · rw [hw1]; simp
  have HX : Hid (∀ W, Car w1.heap.size w1 W → W.cell? ⟨w.heap.size, 0, none⟩ = some (.int .i64 u) ∧ W.cell? ⟨w.heap.size, 1, none⟩ = some (.int .i64 a) ∧ W.cell? ⟨w.heap.size, 2, none⟩ = some (.int .i64 b) ∧ W.cell? ⟨w.heap.size, 3, none⟩ = some (.int .i64 c)) := fun W hc => by
    have hlt : w.heap.size < w1.heap.size := by rw [hw1]; simp
    rw [hc.1.cell (p := ⟨w.heap.size, 0, none⟩) hlt, hc.1.cell (p := ⟨w.heap.size, 1, none⟩) hlt, hc.1.cell (p := ⟨w.heap.size, 2, none⟩) hlt, hc.1.cell (p := ⟨w.heap.size, 3, none⟩) hlt, hw1]
    simp
  have HRt : Hid (∀ W, Car w1.heap.size w1 W → Reads W (.slice (some ⟨B, off, none⟩) n cap) t) := fun W hc => (hR.below HW.out.1).below hc.1
  have HRr : Hid (∀ W, Car w1.heap.size w1 W → Reads W vr r) := fun W hc => (hRr.below HW.out.1).below hc.1
  obtain ⟨P, hP⟩ : ∃ P, P = strOf (textN t) := ⟨_, rfl⟩
  have HPt : Hid (∀ W, Car w1.heap.size w1 W → Calls Try.prog 10 #[.slice (some ⟨B, off, none⟩) n cap] W fun e w' => e = .returned (.tuple #[.string P, .nilIface]) ∧ Below W.heap.size W w') := fun W hc => print_text t P hP _ W (HRt.out W hc) hf
  have HPp : Hid (∀ W, Calls Try.prog 9 #[.string P] W fun e w' => ∃ v, e = .returned (.tuple #[v, .nilIface]) ∧ Reads w' v t ∧ Below W.heap.size W w') := fun W => by
    have ht := text_fault hf
    rw [← hP] at ht
    exact parse_good P t ht.2.2 ht.1 ht.2.1 W
  have HV : Hid (∀ q v W, Reads W v q → Calls Try.prog 12 #[v, .agg #[.int .i64 u, .int .i64 a, .int .i64 b, .int .i64 c]] W fun e w' => e = .returned (.tuple #[.int .i64 ((Wd.mk u a b c).answer q), errV ((Wd.mk u a b c).fault q)]) ∧ Below W.heap.size W w') := fun q v W hq => value_any q v u a b c W hq
  have HVt : Hid (∀ W, Car w1.heap.size w1 W → Calls Try.prog 12 #[.slice (some ⟨B, off, none⟩) n cap, .agg #[.int .i64 u, .int .i64 a, .int .i64 b, .int .i64 c]] W fun e w' => e = .returned (.tuple #[.int .i64 A, .nilIface]) ∧ Below W.heap.size W w') := fun W hc => by
    have := HV.out t _ W (HRt.out W hc)
    rw [hA, hE] at this; exact this
  have HVr : Hid (∀ W, Car w1.heap.size w1 W → Calls Try.prog 12 #[vr, .agg #[.int .i64 u, .int .i64 a, .int .i64 b, .int .i64 c]] W fun e w' => e = .returned (.tuple #[.int .i64 A2, .nilIface]) ∧ Below W.heap.size W w') := fun W hc => by
    have := HV.out r _ W (HRr.out W hc)
    rw [hA2, hE2] at this; exact this
  clear hA hA2 hE hE2 HV hP hR hRr hf HRr
  have HPs : Hid (∀ W, Calls Try.prog 9 #[.string s] W fun e w' => e = .returned (.tuple #[.slice none 0 0, .iface 23 (.int .i64 (textFault s.data.toList))]) ∧ Below W.heap.size W w') := fun W => parse_none s hz hs W
  obtain ⟨Fs, hFs⟩ : ∃ Fs, Fs = textFault s.data.toList := ⟨_, rfl⟩
  rw [← hFs] at HPs
  clear hFs
  clear hs hz
  subst hvr
  go_enter Try.func5, Try.ntmps5
  go_wp2_with fail
  rw [← hw1]
  clear hw1
  go_wp2_with fail
  go_at_call 9
  refine (parse_fact _).mono ?_
  rintro e w' ⟨b1, o1, c1, rfl, f0, f2, f3, hb⟩
  have HB : Hid (Car _ _ _) := HB.out.step hb
  clear hb
  go_wp2_with fail
  go_at_call 9
  refine (HPs.out _).mono ?_
  rintro e w' ⟨rfl, hb⟩
  have HB : Hid (Car _ _ _) := HB.out.step hb
  clear hb
  clear f0 f2 f3
  go_wp2_with fail
  go_at_call 10
  refine (HPt.out _ HB.out).mono ?_
  rintro e w' ⟨rfl, hb⟩
  have HB : Hid (Car _ _ _) := HB.out.step hb
  clear hb
  go_wp2_with fail
  go_at_call 9
  refine (HPp.out _).mono ?_
  rintro e w' ⟨vy, rfl, hRy, hb⟩
  have HB : Hid (Car _ _ _) := HB.out.step hb
  clear hb
  have HRy : Hid (Reads _ _ _) := hRy
  clear hRy
  go_wp2_with fail
  go_at_call 11
  refine (ints_same t _ _ _ HRy.out (HRt.out _ HB.out)).mono ?_
  rintro e w' ⟨rfl, hb⟩
  have HB : Hid (Car _ _ _) := HB.out.step hb
  clear hb
  clear HRy
  obtain ⟨x0, x1, x2, x3⟩ := HX.out _ HB.out
  go_wp2_with fail
  go_at_call 12
  refine (HVt.out _ HB.out).mono ?_
  rintro e w' ⟨rfl, hb⟩
  have HB : Hid (Car _ _ _) := HB.out.step hb
  clear hb
  clear x0 x1 x2 x3
  obtain ⟨x0, x1, x2, x3⟩ := HX.out _ HB.out
  go_wp2_with fail
  go_at_call 12
  refine (HVr.out _ HB.out).mono ?_
  rintro e w' ⟨rfl, hb⟩
  have HB : Hid (Car _ _ _) := HB.out.step hb
  clear hb
  clear x0 x1 x2 x3
  go_wp2
  go_ret
  exact ⟨rfl, HW.out.1.trans (HB.out.1.mono HW.out.2)⟩

/-- an owned row reads as its numbers. -/
theorem own_ints2 {w : World} {base : Nat} {e : TypeId} {v : Value} {n : Nat} {xs : List Value} {t : List Int} (h : w.ownsRow base e 1 v n xs) (hx : xs = t.map (Value.int .i64)) (hm : n ≤ 13) : Reads w v t := by
  have hn : t.length = n := by have := h.1; rw [hx] at this; simpa using this
  rcases h.2 with ⟨rfl, h0⟩ | ⟨g, cap, cur, rfl, _⟩
  · exact Or.inl ⟨_, _, rfl, List.eq_nil_of_length_eq_zero (by omega)⟩
  · exact own_reads h hn (fun j hj => by rw [hx]; simp [List.getElem?_eq_getElem (show j < t.length by omega)]) hm

set_option linter.unusedVariables false in
set_option maxRecDepth 100000 in
set_option maxHeartbeats 2000000 in
theorem termBack_in_good (t r : List Int) (B off n cap Br offr nr cr : Nat) (s : ByteArray) (u a b c what : Int) (w : World) (hn : n = t.length) (hnr : nr = r.length) (hB : B < w.heap.size) (hBr : Br < w.heap.size) (hcp : n ≤ cap) (hcpr : nr ≤ cr) (hct : ∀ k, k < t.length → w.cell? ⟨B, off + k, none⟩ = some (.int .i64 (t.getD k 0))) (hcr : ∀ k, k < r.length → w.cell? ⟨Br, offr + k, none⟩ = some (.int .i64 (r.getD k 0))) (hz : s.size ≤ 9223372036854775807) (hs : textFault s.data.toList = 0) (hf : faultN t = 0) (hfr : faultN r = 0)
    (hok : (Wd.mk u a b c).ok = true) (hl : n + nr ≤ 11) (h5 : 5 ≤ what) (h7 : what ≤ 7) :
    Calls Try.prog 5 #[.slice (some ⟨B, off, none⟩) n cap, .string s, .agg #[.int .i64 u, .int .i64 a, .int .i64 b, .int .i64 c], .slice (some ⟨Br, offr, none⟩) nr cr, .int .i64 what] w fun e w' => e = .returned (.bool true) ∧ Below w.heap.size w w' := by
  obtain ⟨i0, hi, hz0, hz1, hz2⟩ := info_parts infoInt
  obtain ⟨w1, hw1⟩ : ∃ w1, w1 = w.alloc (.cells #[.int .i64 u, .int .i64 a, .int .i64 b, .int .i64 c] 35) := ⟨_, rfl⟩
  have HB : Hid (Car w1.heap.size w1 w1) := ⟨Below.refl _ _, Nat.le_refl _⟩
  have HW : Hid (Below w.heap.size w w1 ∧ w.heap.size ≤ w1.heap.size) := by
    refine ⟨?_, ?_⟩
    · rw [hw1]; exact below_alloc1 _ _
    · rw [hw1]; simp
  have HX : Hid (∀ W, Car w1.heap.size w1 W → W.cell? ⟨w.heap.size, 0, none⟩ = some (.int .i64 u) ∧ W.cell? ⟨w.heap.size, 1, none⟩ = some (.int .i64 a) ∧ W.cell? ⟨w.heap.size, 2, none⟩ = some (.int .i64 b) ∧ W.cell? ⟨w.heap.size, 3, none⟩ = some (.int .i64 c)) := fun W hc => by
    have hlt : w.heap.size < w1.heap.size := by rw [hw1]; simp
    rw [hc.1.cell (p := ⟨w.heap.size, 0, none⟩) hlt, hc.1.cell (p := ⟨w.heap.size, 1, none⟩) hlt, hc.1.cell (p := ⟨w.heap.size, 2, none⟩) hlt, hc.1.cell (p := ⟨w.heap.size, 3, none⟩) hlt, hw1]
    simp
  have hR : Reads w (.slice (some ⟨B, off, none⟩) n cap) t := Or.inr ⟨B, off, cap, by rw [hn], hB, by have := (fault_zero.1 hf).1; omega, ⟨by omega, by omega⟩, hct⟩
  have hRr : Reads w (.slice (some ⟨Br, offr, none⟩) nr cr) r := Or.inr ⟨Br, offr, cr, by rw [hnr], hBr, by have := (fault_zero.1 hfr).1; omega, ⟨by omega, by omega⟩, hcr⟩
  have HCt : Hid (∀ W, Car w1.heap.size w1 W → ∀ k, k < t.length → W.cell? ⟨B, off + k, none⟩ = some (.int .i64 (t.getD k 0))) := fun W hc k hk => by
    rw [hc.1.cell (p := ⟨B, off + k, none⟩) (Nat.lt_of_lt_of_le hB HW.out.2), HW.out.1.cell (p := ⟨B, off + k, none⟩) hB]; exact hct k hk
  have HCr : Hid (∀ W, Car w1.heap.size w1 W → ∀ k, k < r.length → W.cell? ⟨Br, offr + k, none⟩ = some (.int .i64 (r.getD k 0))) := fun W hc k hk => by
    rw [hc.1.cell (p := ⟨Br, offr + k, none⟩) (Nat.lt_of_lt_of_le hBr HW.out.2), HW.out.1.cell (p := ⟨Br, offr + k, none⟩) hBr]; exact hcr k hk
  have HRt : Hid (∀ W, Car w1.heap.size w1 W → Reads W (.slice (some ⟨B, off, none⟩) n cap) t) := fun W hc => (hR.below HW.out.1).below hc.1
  have HRr : Hid (∀ W, Car w1.heap.size w1 W → Reads W (.slice (some ⟨Br, offr, none⟩) nr cr) r) := fun W hc => (hRr.below HW.out.1).below hc.1
  obtain ⟨P, hP⟩ : ∃ P, P = strOf (textN t) := ⟨_, rfl⟩
  have HPt : Hid (∀ W, Car w1.heap.size w1 W → Calls Try.prog 10 #[.slice (some ⟨B, off, none⟩) n cap] W fun e w' => e = .returned (.tuple #[.string P, .nilIface]) ∧ Below W.heap.size W w') := fun W hc => print_text t P hP _ W (HRt.out W hc) hf
  have HPp : Hid (∀ W, Calls Try.prog 9 #[.string P] W fun e w' => ∃ v, e = .returned (.tuple #[v, .nilIface]) ∧ Reads w' v t ∧ Below W.heap.size W w') := fun W => by
    have ht := text_fault hf
    rw [← hP] at ht
    exact parse_good P t ht.2.2 ht.1 ht.2.1 W
  have HV : Hid (∀ q v W, Reads W v q → Calls Try.prog 12 #[v, .agg #[.int .i64 u, .int .i64 a, .int .i64 b, .int .i64 c]] W fun e w' => e = .returned (.tuple #[.int .i64 ((Wd.mk u a b c).answer q), errV ((Wd.mk u a b c).fault q)]) ∧ Below W.heap.size W w') := fun q v W hq => value_any q v u a b c W hq
  have hgd : ∀ q, faultN q = 0 → (Wd.mk u a b c).answer q = (Wd.mk u a b c).val q ∧ errV ((Wd.mk u a b c).fault q) = .nilIface := fun q hq => ⟨by unfold Wd.answer; rw [if_pos hq, if_pos hok], by unfold Wd.fault; rw [if_pos hq, if_pos hok]; rfl⟩
  obtain ⟨A, hA⟩ : ∃ A, A = (Wd.mk u a b c).val t := ⟨_, rfl⟩
  obtain ⟨A2, hA2⟩ : ∃ A2, A2 = (Wd.mk u a b c).val r := ⟨_, rfl⟩
  have HVt : Hid (∀ W, Car w1.heap.size w1 W → Calls Try.prog 12 #[.slice (some ⟨B, off, none⟩) n cap, .agg #[.int .i64 u, .int .i64 a, .int .i64 b, .int .i64 c]] W fun e w' => e = .returned (.tuple #[.int .i64 A, .nilIface]) ∧ Below W.heap.size W w') := fun W hc => by
    have := HV.out t _ W (HRt.out W hc)
    rw [(hgd t hf).1, (hgd t hf).2, ← hA] at this; exact this
  have HVr : Hid (∀ W, Car w1.heap.size w1 W → Calls Try.prog 12 #[.slice (some ⟨Br, offr, none⟩) nr cr, .agg #[.int .i64 u, .int .i64 a, .int .i64 b, .int .i64 c]] W fun e w' => e = .returned (.tuple #[.int .i64 A2, .nilIface]) ∧ Below W.heap.size W w') := fun W hc => by
    have := HV.out r _ W (HRr.out W hc)
    rw [(hgd r hfr).1, (hgd r hfr).2, ← hA2] at this; exact this
  have HVb : Hid (∀ v W, Reads W v (t ++ (r ++ [what])) → Calls Try.prog 12 #[v, .agg #[.int .i64 u, .int .i64 a, .int .i64 b, .int .i64 c]] W fun e w' => e = .returned (.tuple #[.int .i64 (doN what u A A2), .nilIface]) ∧ Below W.heap.size W w') := fun v W hq => by
    have g := good_two hf hfr (by omega) h5 h7
    have := HV.out _ v W hq
    rw [(hgd _ g).1, (hgd _ g).2, val_two (Wd.mk u a b c) hf hfr h5 h7, ← hA, ← hA2] at this; exact this
  have HD : Hid (∀ W, Calls Try.prog 7 #[.int .i64 what, .int .i64 u, .int .i64 A, .int .i64 A2] W fun e w' => e = .returned (.tuple #[.int .i64 (doN what u A A2), .nilIface]) ∧ W = w') := fun W => do_ok what u A A2 h5 (by omega) (by rw [hA]; exact ok_val hok t) (by rw [hA2]; exact ok_val hok r) W
  have HNt : Hid (n = t.length) := hn
  have HNr : Hid (nr = r.length) := hnr
  have hq : ¬ (11 : Int) < (n : Int) + (nr : Int) := by omega
  have hn12 : n ≤ 11 := by omega
  have hnr12 : nr ≤ 11 := by omega
  clear hA hA2 HV hP hR hRr hf hfr HRr hgd hok hn hnr hct hcr hB hBr hcp hcpr
  have HPs : Hid (∀ W, Calls Try.prog 9 #[.string s] W fun e w' => ∃ v, e = .returned (.tuple #[v, .nilIface]) ∧ Reads w' v (readN s.data.toList) ∧ Below W.heap.size W w') := fun W => parse_good s _ hz hs rfl W
  have HPx : Hid (∀ v W, Reads W v (readN s.data.toList) → Calls Try.prog 10 #[v] W fun e w' => e = .returned (.tuple #[.string s, .nilIface]) ∧ Below W.heap.size W w') := fun v W hr => print_text _ s (text_same s hs).symm v W hr (fault_text hs)
  clear hs hz
  go_enter Try.func5, Try.ntmps5
  go_wp2_with fail
  rw [← hw1]
  clear hw1
  go_wp2_with fail
  go_at_call 9
  refine (parse_fact _).mono ?_
  rintro e w' ⟨b1, o1, c1, rfl, f0, f2, f3, hb⟩
  have HB : Hid (Car _ _ _) := HB.out.step hb
  clear hb
  go_wp2_with fail
  go_at_call 9
  refine (HPs.out _).mono ?_
  rintro e w' ⟨vx, rfl, hRx, hb⟩
  have HB : Hid (Car _ _ _) := HB.out.step hb
  clear hb
  have HRx : Hid (Reads _ _ _) := hRx
  clear hRx f0 f2 f3
  go_wp2_with fail
  go_at_call 10
  refine (HPx.out _ _ HRx.out).mono ?_
  rintro e w' ⟨rfl, hb⟩
  have HB : Hid (Car _ _ _) := HB.out.step hb
  clear hb
  clear HRx
  go_wp2_with fail
  go_at_call 10
  refine (HPt.out _ HB.out).mono ?_
  rintro e w' ⟨rfl, hb⟩
  have HB : Hid (Car _ _ _) := HB.out.step hb
  clear hb
  go_wp2_with fail
  go_at_call 9
  refine (HPp.out _).mono ?_
  rintro e w' ⟨vy, rfl, hRy, hb⟩
  have HB : Hid (Car _ _ _) := HB.out.step hb
  clear hb
  have HRy : Hid (Reads _ _ _) := hRy
  clear hRy
  go_wp2_with fail
  go_at_call 11
  refine (ints_same t _ _ _ HRy.out (HRt.out _ HB.out)).mono ?_
  rintro e w' ⟨rfl, hb⟩
  have HB : Hid (Car _ _ _) := HB.out.step hb
  clear hb
  clear HRy
  obtain ⟨x0, x1, x2, x3⟩ := HX.out _ HB.out
  go_wp2_with fail
  go_at_call 12
  refine (HVt.out _ HB.out).mono ?_
  rintro e w' ⟨rfl, hb⟩
  have HB : Hid (Car _ _ _) := HB.out.step hb
  clear hb
  clear x0 x1 x2 x3
  obtain ⟨x0, x1, x2, x3⟩ := HX.out _ HB.out
  go_wp2_with fail
  go_at_call 12
  refine (HVr.out _ HB.out).mono ?_
  rintro e w' ⟨rfl, hb⟩
  have HB : Hid (Car _ _ _) := HB.out.step hb
  clear hb
  clear x0 x1 x2 x3
  go_wp2_with (first | (at_builtin; refine wpList_append_own _ rfl (.tmp 129) (.tmp 130) 32 rfl w1.heap.size 3 i0 (.int .i64 0) 1 8 Try.underlying32 hi hz0 hz1 hz2 rfl (by decide) (.slice none 0 0) 0 [] rfl (World.ownsRow_nil _ _ _ _) ⟨B, off, none⟩ n cap (t.map (Value.int .i64)) rfl ?p0 ?p1 ?p2 ?p3 ?p4 ?p5 ?_))
  case p0 => rw [HNt.out]; simp
  case p1 =>
    intro j y hj
    have hj' : j < t.length := by have := (List.getElem?_eq_some_iff.1 hj).1; simpa using this
    have ha : (⟨B, off, none⟩ : Addr).add j = ⟨B, off + j, none⟩ := by unfold Addr.add; split <;> simp_all
    rw [ha, HCt.out _ HB.out j hj']
    simp [List.getElem?_eq_getElem hj'] at hj
    simp [List.getElem?_eq_getElem hj', hj]
  case p2 => intro y hy; obtain ⟨z, _, rfl⟩ := List.mem_map.1 hy; rfl
  case p3 => unfold maxLen; omega
  case p4 => omega
  case p5 => exact HB.out.2
  intro v3 w3 hown3 hgrow3 _
  have HO3 : Hid (w3.ownsRow w1.heap.size 3 1 v3 n (t.map (Value.int .i64))) := by unfold Hid; simpa using hown3
  have HB : Hid (Car w1.heap.size w1 w3) := ⟨HB.out.1.grown hgrow3 HB.out.2 (fun k hk => by cases hk), Nat.le_trans HB.out.2 hgrow3.size⟩
  clear hown3 hgrow3
  go_wp2_with (first | (at_builtin; refine wpList_append_own _ rfl (.tmp 132) (.tmp 133) 32 rfl w1.heap.size 3 i0 (.int .i64 0) 1 8 Try.underlying32 hi hz0 hz1 hz2 rfl (by decide) v3 n (t.map (Value.int .i64)) rfl (HO3.out) ⟨Br, offr, none⟩ nr cr (r.map (Value.int .i64)) rfl ?q0 ?q1 ?q2 ?q3 ?q4 ?q5 ?_))
  case q0 => rw [HNr.out]; simp
  case q1 =>
    intro j y hj
    have hj' : j < r.length := by have := (List.getElem?_eq_some_iff.1 hj).1; simpa using this
    have ha : (⟨Br, offr, none⟩ : Addr).add j = ⟨Br, offr + j, none⟩ := by unfold Addr.add; split <;> simp_all
    rw [ha, HCr.out _ HB.out j hj']
    simp [List.getElem?_eq_getElem hj'] at hj
    simp [List.getElem?_eq_getElem hj', hj]
  case q2 => intro y hy; obtain ⟨z, _, rfl⟩ := List.mem_map.1 hy; rfl
  case q3 => unfold maxLen; omega
  case q4 => omega
  case q5 => exact HB.out.2
  intro v4 w4 hown4 hgrow4 _
  have HO4 : Hid (w4.ownsRow w1.heap.size 3 1 v4 (n + nr) (t.map (Value.int .i64) ++ r.map (Value.int .i64))) := hown4
  have HB : Hid (Car w1.heap.size w1 w4) := ⟨HB.out.1.grown hgrow4 HB.out.2 (fun k hk => (HO3.out.lt k hk).1), Nat.le_trans HB.out.2 hgrow4.size⟩
  clear hown4 hgrow4 HO3
  go_wp2_with (first | (at_builtin; refine wpList_append_own _ rfl (.tmp 135) (.tmp 137) 32 rfl w1.heap.size 3 i0 (.int .i64 0) 1 8 Try.underlying32 hi hz0 hz1 hz2 rfl (by decide) v4 (n + nr) (t.map (Value.int .i64) ++ r.map (Value.int .i64)) rfl (HO4.out.alloc _) ⟨w4.heap.size, 0, none⟩ 1 1 [.int .i64 what] rfl ?z0 ?z1 ?z2 ?z3 ?z4 ?z5 ?_))
  case z0 => rfl
  case z1 =>
    intro j y hj
    match j, hj with
    | 0, hj => simp at hj; subst hj; simp [Addr.add]
  case z2 => intro y hy; simp at hy; subst hy; rfl
  case z3 => unfold maxLen; omega
  case z4 => omega
  case z5 => have := HB.out.2; simp; omega
  intro v5 w5 hown5 hgrow5 _
  have HB : Hid (Car w1.heap.size w1 w5) := ⟨(HB.out.1.alloc HB.out.2 _).grown hgrow5 (by have := HB.out.2; simp; omega) (fun k hk => (HO4.out.lt k hk).1), by have := hgrow5.size; have := HB.out.2; simp at *; omega⟩
  have HR5 : Hid (Reads w5 v5 (t ++ (r ++ [what]))) := own_ints2 hown5 (by simp) (by omega)
  clear hown5 hgrow5 HO4
  obtain ⟨x0, x1, x2, x3⟩ := HX.out _ HB.out
  go_wp2_with fail
  go_at_call 12
  refine (HVb.out _ _ HR5.out).mono ?_
  rintro e w' ⟨rfl, hb⟩
  have HB : Hid (Car _ _ _) := HB.out.step hb
  clear hb
  clear x0 x1 x2 x3 HR5
  obtain ⟨x0, x1, x2, x3⟩ := HX.out _ HB.out
  go_wp2_with fail
  go_at_call 7
  refine (HD.out _).mono ?_
  rintro e w' ⟨rfl, rfl⟩
  go_wp2
  go_ret
  exact ⟨rfl, HW.out.1.trans (HB.out.1.mono HW.out.2)⟩

set_option linter.unusedVariables false in
set_option maxRecDepth 100000 in
set_option maxHeartbeats 2000000 in
theorem termBack_in_bad (t r : List Int) (B off n cap Br offr nr cr : Nat) (s : ByteArray) (u a b c what : Int) (w : World) (hn : n = t.length) (hnr : nr = r.length) (hB : B < w.heap.size) (hBr : Br < w.heap.size) (hcp : n ≤ cap) (hcpr : nr ≤ cr) (hct : ∀ k, k < t.length → w.cell? ⟨B, off + k, none⟩ = some (.int .i64 (t.getD k 0))) (hcr : ∀ k, k < r.length → w.cell? ⟨Br, offr + k, none⟩ = some (.int .i64 (r.getD k 0))) (hz : s.size ≤ 9223372036854775807) (hs : ¬ textFault s.data.toList = 0) (hf : faultN t = 0) (hfr : faultN r = 0)
    (hok : (Wd.mk u a b c).ok = true) (hl : n + nr ≤ 11) (h5 : 5 ≤ what) (h7 : what ≤ 7) :
    Calls Try.prog 5 #[.slice (some ⟨B, off, none⟩) n cap, .string s, .agg #[.int .i64 u, .int .i64 a, .int .i64 b, .int .i64 c], .slice (some ⟨Br, offr, none⟩) nr cr, .int .i64 what] w fun e w' => e = .returned (.bool true) ∧ Below w.heap.size w w' := by
  obtain ⟨i0, hi, hz0, hz1, hz2⟩ := info_parts infoInt
  obtain ⟨w1, hw1⟩ : ∃ w1, w1 = w.alloc (.cells #[.int .i64 u, .int .i64 a, .int .i64 b, .int .i64 c] 35) := ⟨_, rfl⟩
  have HB : Hid (Car w1.heap.size w1 w1) := ⟨Below.refl _ _, Nat.le_refl _⟩
  have HW : Hid (Below w.heap.size w w1 ∧ w.heap.size ≤ w1.heap.size) := by
    refine ⟨?_, ?_⟩
    · rw [hw1]; exact below_alloc1 _ _
    · rw [hw1]; simp
  have HX : Hid (∀ W, Car w1.heap.size w1 W → W.cell? ⟨w.heap.size, 0, none⟩ = some (.int .i64 u) ∧ W.cell? ⟨w.heap.size, 1, none⟩ = some (.int .i64 a) ∧ W.cell? ⟨w.heap.size, 2, none⟩ = some (.int .i64 b) ∧ W.cell? ⟨w.heap.size, 3, none⟩ = some (.int .i64 c)) := fun W hc => by
    have hlt : w.heap.size < w1.heap.size := by rw [hw1]; simp
    rw [hc.1.cell (p := ⟨w.heap.size, 0, none⟩) hlt, hc.1.cell (p := ⟨w.heap.size, 1, none⟩) hlt, hc.1.cell (p := ⟨w.heap.size, 2, none⟩) hlt, hc.1.cell (p := ⟨w.heap.size, 3, none⟩) hlt, hw1]
    simp
  have hR : Reads w (.slice (some ⟨B, off, none⟩) n cap) t := Or.inr ⟨B, off, cap, by rw [hn], hB, by have := (fault_zero.1 hf).1; omega, ⟨by omega, by omega⟩, hct⟩
  have hRr : Reads w (.slice (some ⟨Br, offr, none⟩) nr cr) r := Or.inr ⟨Br, offr, cr, by rw [hnr], hBr, by have := (fault_zero.1 hfr).1; omega, ⟨by omega, by omega⟩, hcr⟩
  have HCt : Hid (∀ W, Car w1.heap.size w1 W → ∀ k, k < t.length → W.cell? ⟨B, off + k, none⟩ = some (.int .i64 (t.getD k 0))) := fun W hc k hk => by
    rw [hc.1.cell (p := ⟨B, off + k, none⟩) (Nat.lt_of_lt_of_le hB HW.out.2), HW.out.1.cell (p := ⟨B, off + k, none⟩) hB]; exact hct k hk
  have HCr : Hid (∀ W, Car w1.heap.size w1 W → ∀ k, k < r.length → W.cell? ⟨Br, offr + k, none⟩ = some (.int .i64 (r.getD k 0))) := fun W hc k hk => by
    rw [hc.1.cell (p := ⟨Br, offr + k, none⟩) (Nat.lt_of_lt_of_le hBr HW.out.2), HW.out.1.cell (p := ⟨Br, offr + k, none⟩) hBr]; exact hcr k hk
  have HRt : Hid (∀ W, Car w1.heap.size w1 W → Reads W (.slice (some ⟨B, off, none⟩) n cap) t) := fun W hc => (hR.below HW.out.1).below hc.1
  have HRr : Hid (∀ W, Car w1.heap.size w1 W → Reads W (.slice (some ⟨Br, offr, none⟩) nr cr) r) := fun W hc => (hRr.below HW.out.1).below hc.1
  obtain ⟨P, hP⟩ : ∃ P, P = strOf (textN t) := ⟨_, rfl⟩
  have HPt : Hid (∀ W, Car w1.heap.size w1 W → Calls Try.prog 10 #[.slice (some ⟨B, off, none⟩) n cap] W fun e w' => e = .returned (.tuple #[.string P, .nilIface]) ∧ Below W.heap.size W w') := fun W hc => print_text t P hP _ W (HRt.out W hc) hf
  have HPp : Hid (∀ W, Calls Try.prog 9 #[.string P] W fun e w' => ∃ v, e = .returned (.tuple #[v, .nilIface]) ∧ Reads w' v t ∧ Below W.heap.size W w') := fun W => by
    have ht := text_fault hf
    rw [← hP] at ht
    exact parse_good P t ht.2.2 ht.1 ht.2.1 W
  have HV : Hid (∀ q v W, Reads W v q → Calls Try.prog 12 #[v, .agg #[.int .i64 u, .int .i64 a, .int .i64 b, .int .i64 c]] W fun e w' => e = .returned (.tuple #[.int .i64 ((Wd.mk u a b c).answer q), errV ((Wd.mk u a b c).fault q)]) ∧ Below W.heap.size W w') := fun q v W hq => value_any q v u a b c W hq
  have hgd : ∀ q, faultN q = 0 → (Wd.mk u a b c).answer q = (Wd.mk u a b c).val q ∧ errV ((Wd.mk u a b c).fault q) = .nilIface := fun q hq => ⟨by unfold Wd.answer; rw [if_pos hq, if_pos hok], by unfold Wd.fault; rw [if_pos hq, if_pos hok]; rfl⟩
  obtain ⟨A, hA⟩ : ∃ A, A = (Wd.mk u a b c).val t := ⟨_, rfl⟩
  obtain ⟨A2, hA2⟩ : ∃ A2, A2 = (Wd.mk u a b c).val r := ⟨_, rfl⟩
  have HVt : Hid (∀ W, Car w1.heap.size w1 W → Calls Try.prog 12 #[.slice (some ⟨B, off, none⟩) n cap, .agg #[.int .i64 u, .int .i64 a, .int .i64 b, .int .i64 c]] W fun e w' => e = .returned (.tuple #[.int .i64 A, .nilIface]) ∧ Below W.heap.size W w') := fun W hc => by
    have := HV.out t _ W (HRt.out W hc)
    rw [(hgd t hf).1, (hgd t hf).2, ← hA] at this; exact this
  have HVr : Hid (∀ W, Car w1.heap.size w1 W → Calls Try.prog 12 #[.slice (some ⟨Br, offr, none⟩) nr cr, .agg #[.int .i64 u, .int .i64 a, .int .i64 b, .int .i64 c]] W fun e w' => e = .returned (.tuple #[.int .i64 A2, .nilIface]) ∧ Below W.heap.size W w') := fun W hc => by
    have := HV.out r _ W (HRr.out W hc)
    rw [(hgd r hfr).1, (hgd r hfr).2, ← hA2] at this; exact this
  have HVb : Hid (∀ v W, Reads W v (t ++ (r ++ [what])) → Calls Try.prog 12 #[v, .agg #[.int .i64 u, .int .i64 a, .int .i64 b, .int .i64 c]] W fun e w' => e = .returned (.tuple #[.int .i64 (doN what u A A2), .nilIface]) ∧ Below W.heap.size W w') := fun v W hq => by
    have g := good_two hf hfr (by omega) h5 h7
    have := HV.out _ v W hq
    rw [(hgd _ g).1, (hgd _ g).2, val_two (Wd.mk u a b c) hf hfr h5 h7, ← hA, ← hA2] at this; exact this
  have HD : Hid (∀ W, Calls Try.prog 7 #[.int .i64 what, .int .i64 u, .int .i64 A, .int .i64 A2] W fun e w' => e = .returned (.tuple #[.int .i64 (doN what u A A2), .nilIface]) ∧ W = w') := fun W => do_ok what u A A2 h5 (by omega) (by rw [hA]; exact ok_val hok t) (by rw [hA2]; exact ok_val hok r) W
  have HNt : Hid (n = t.length) := hn
  have HNr : Hid (nr = r.length) := hnr
  have hq : ¬ (11 : Int) < (n : Int) + (nr : Int) := by omega
  have hn12 : n ≤ 11 := by omega
  have hnr12 : nr ≤ 11 := by omega
  clear hA hA2 HV hP hR hRr hf hfr HRr hgd hok hn hnr hct hcr hB hBr hcp hcpr
  have HPs : Hid (∀ W, Calls Try.prog 9 #[.string s] W fun e w' => e = .returned (.tuple #[.slice none 0 0, .iface 23 (.int .i64 (textFault s.data.toList))]) ∧ Below W.heap.size W w') := fun W => parse_none s hz hs W
  obtain ⟨Fs, hFs⟩ : ∃ Fs, Fs = textFault s.data.toList := ⟨_, rfl⟩
  rw [← hFs] at HPs
  clear hFs
  clear hs hz
  go_enter Try.func5, Try.ntmps5
  go_wp2_with fail
  rw [← hw1]
  clear hw1
  go_wp2_with fail
  go_at_call 9
  refine (parse_fact _).mono ?_
  rintro e w' ⟨b1, o1, c1, rfl, f0, f2, f3, hb⟩
  have HB : Hid (Car _ _ _) := HB.out.step hb
  clear hb
  go_wp2_with fail
  go_at_call 9
  refine (HPs.out _).mono ?_
  rintro e w' ⟨rfl, hb⟩
  have HB : Hid (Car _ _ _) := HB.out.step hb
  clear hb
  clear f0 f2 f3
  go_wp2_with fail
  go_at_call 10
  refine (HPt.out _ HB.out).mono ?_
  rintro e w' ⟨rfl, hb⟩
  have HB : Hid (Car _ _ _) := HB.out.step hb
  clear hb
  go_wp2_with fail
  go_at_call 9
  refine (HPp.out _).mono ?_
  rintro e w' ⟨vy, rfl, hRy, hb⟩
  have HB : Hid (Car _ _ _) := HB.out.step hb
  clear hb
  have HRy : Hid (Reads _ _ _) := hRy
  clear hRy
  go_wp2_with fail
  go_at_call 11
  refine (ints_same t _ _ _ HRy.out (HRt.out _ HB.out)).mono ?_
  rintro e w' ⟨rfl, hb⟩
  have HB : Hid (Car _ _ _) := HB.out.step hb
  clear hb
  clear HRy
  obtain ⟨x0, x1, x2, x3⟩ := HX.out _ HB.out
  go_wp2_with fail
  go_at_call 12
  refine (HVt.out _ HB.out).mono ?_
  rintro e w' ⟨rfl, hb⟩
  have HB : Hid (Car _ _ _) := HB.out.step hb
  clear hb
  clear x0 x1 x2 x3
  obtain ⟨x0, x1, x2, x3⟩ := HX.out _ HB.out
  go_wp2_with fail
  go_at_call 12
  refine (HVr.out _ HB.out).mono ?_
  rintro e w' ⟨rfl, hb⟩
  have HB : Hid (Car _ _ _) := HB.out.step hb
  clear hb
  clear x0 x1 x2 x3
  go_wp2_with (first | (at_builtin; refine wpList_append_own _ rfl (.tmp 129) (.tmp 130) 32 rfl w1.heap.size 3 i0 (.int .i64 0) 1 8 Try.underlying32 hi hz0 hz1 hz2 rfl (by decide) (.slice none 0 0) 0 [] rfl (World.ownsRow_nil _ _ _ _) ⟨B, off, none⟩ n cap (t.map (Value.int .i64)) rfl ?p0 ?p1 ?p2 ?p3 ?p4 ?p5 ?_))
  case p0 => rw [HNt.out]; simp
  case p1 =>
    intro j y hj
    have hj' : j < t.length := by have := (List.getElem?_eq_some_iff.1 hj).1; simpa using this
    have ha : (⟨B, off, none⟩ : Addr).add j = ⟨B, off + j, none⟩ := by unfold Addr.add; split <;> simp_all
    rw [ha, HCt.out _ HB.out j hj']
    simp [List.getElem?_eq_getElem hj'] at hj
    simp [List.getElem?_eq_getElem hj', hj]
  case p2 => intro y hy; obtain ⟨z, _, rfl⟩ := List.mem_map.1 hy; rfl
  case p3 => unfold maxLen; omega
  case p4 => omega
  case p5 => exact HB.out.2
  intro v3 w3 hown3 hgrow3 _
  have HO3 : Hid (w3.ownsRow w1.heap.size 3 1 v3 n (t.map (Value.int .i64))) := by unfold Hid; simpa using hown3
  have HB : Hid (Car w1.heap.size w1 w3) := ⟨HB.out.1.grown hgrow3 HB.out.2 (fun k hk => by cases hk), Nat.le_trans HB.out.2 hgrow3.size⟩
  clear hown3 hgrow3
  go_wp2_with (first | (at_builtin; refine wpList_append_own _ rfl (.tmp 132) (.tmp 133) 32 rfl w1.heap.size 3 i0 (.int .i64 0) 1 8 Try.underlying32 hi hz0 hz1 hz2 rfl (by decide) v3 n (t.map (Value.int .i64)) rfl (HO3.out) ⟨Br, offr, none⟩ nr cr (r.map (Value.int .i64)) rfl ?q0 ?q1 ?q2 ?q3 ?q4 ?q5 ?_))
  case q0 => rw [HNr.out]; simp
  case q1 =>
    intro j y hj
    have hj' : j < r.length := by have := (List.getElem?_eq_some_iff.1 hj).1; simpa using this
    have ha : (⟨Br, offr, none⟩ : Addr).add j = ⟨Br, offr + j, none⟩ := by unfold Addr.add; split <;> simp_all
    rw [ha, HCr.out _ HB.out j hj']
    simp [List.getElem?_eq_getElem hj'] at hj
    simp [List.getElem?_eq_getElem hj', hj]
  case q2 => intro y hy; obtain ⟨z, _, rfl⟩ := List.mem_map.1 hy; rfl
  case q3 => unfold maxLen; omega
  case q4 => omega
  case q5 => exact HB.out.2
  intro v4 w4 hown4 hgrow4 _
  have HO4 : Hid (w4.ownsRow w1.heap.size 3 1 v4 (n + nr) (t.map (Value.int .i64) ++ r.map (Value.int .i64))) := hown4
  have HB : Hid (Car w1.heap.size w1 w4) := ⟨HB.out.1.grown hgrow4 HB.out.2 (fun k hk => (HO3.out.lt k hk).1), Nat.le_trans HB.out.2 hgrow4.size⟩
  clear hown4 hgrow4 HO3
  go_wp2_with (first | (at_builtin; refine wpList_append_own _ rfl (.tmp 135) (.tmp 137) 32 rfl w1.heap.size 3 i0 (.int .i64 0) 1 8 Try.underlying32 hi hz0 hz1 hz2 rfl (by decide) v4 (n + nr) (t.map (Value.int .i64) ++ r.map (Value.int .i64)) rfl (HO4.out.alloc _) ⟨w4.heap.size, 0, none⟩ 1 1 [.int .i64 what] rfl ?z0 ?z1 ?z2 ?z3 ?z4 ?z5 ?_))
  case z0 => rfl
  case z1 =>
    intro j y hj
    match j, hj with
    | 0, hj => simp at hj; subst hj; simp [Addr.add]
  case z2 => intro y hy; simp at hy; subst hy; rfl
  case z3 => unfold maxLen; omega
  case z4 => omega
  case z5 => have := HB.out.2; simp; omega
  intro v5 w5 hown5 hgrow5 _
  have HB : Hid (Car w1.heap.size w1 w5) := ⟨(HB.out.1.alloc HB.out.2 _).grown hgrow5 (by have := HB.out.2; simp; omega) (fun k hk => (HO4.out.lt k hk).1), by have := hgrow5.size; have := HB.out.2; simp at *; omega⟩
  have HR5 : Hid (Reads w5 v5 (t ++ (r ++ [what]))) := own_ints2 hown5 (by simp) (by omega)
  clear hown5 hgrow5 HO4
  obtain ⟨x0, x1, x2, x3⟩ := HX.out _ HB.out
  go_wp2_with fail
  go_at_call 12
  refine (HVb.out _ _ HR5.out).mono ?_
  rintro e w' ⟨rfl, hb⟩
  have HB : Hid (Car _ _ _) := HB.out.step hb
  clear hb
  clear x0 x1 x2 x3 HR5
  obtain ⟨x0, x1, x2, x3⟩ := HX.out _ HB.out
  go_wp2_with fail
  go_at_call 7
  refine (HD.out _).mono ?_
  rintro e w' ⟨rfl, rfl⟩
  go_wp2
  go_ret
  exact ⟨rfl, HW.out.1.trans (HB.out.1.mono HW.out.2)⟩

end Go.Proofs.Ytenmheenieifpaa
