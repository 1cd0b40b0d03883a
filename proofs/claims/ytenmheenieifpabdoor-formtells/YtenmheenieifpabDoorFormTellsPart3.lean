/-
  Proved: what the calls of vennlaw1.FormTells return (contracts that its walk leans on). Written by program.
  Proved: vennlaw1.FormTells returns true, in one of three cases; what was in memory is as it was. Written by program.
  Proved: vennlaw1.FormTells returns true, in one of three cases; what was in memory is as it was. Written by program.
  Proved: vennlaw1.FormTells returns true, in one of three cases; what was in memory is as it was. Written by program.
  Proved: whatever the formulas and the world, vennlaw1.FormTells returns true, and what was in memory is as it was: the cases put together.
-/
import Derived.Test.YtenmheenieifpabDoorFormTurnsHead
import Derived.Test.YtenmheenieifpabDoorFormSame
import Derived.Test.YtenmheenieifpabDoorFormTellsPart1
import Derived.Test.YtenmheenieifpabDoorFormTellsPart2
import Derived.Test.YtenmheenieifpabDoorSame
import Derived.Test.YtenmheenieifpabDoorTermRefs
namespace Go.Proofs.YtenmheenieifpabDoor
open Go.ChangeShapes Go.WideShapes Go.ChangeAt Go.RowKit
set_option maxRecDepth 100000

theorem error_same (n : Int) (w : World) (hg : Laid w) : Calls Tryd.prog 9 #[errV n, .int .i64 n] w fun e w' => e = .returned (.bool true) ∧ Below w.heap.size w w' := by
  by_cases h : n = 0
  · subst h
    rw [errV_0]
    refine (same_nil 0 w).mono ?_
    rintro e w' ⟨rfl, rfl⟩
    exact ⟨rfl, Below.refl _ _⟩
  · rw [errV_no h]
    have := same_err n n w hg
    rw [beq_self_eq_true] at this; exact this
def negA (ats : List At) (c : List Int) : List At := if negFault ats c = 0 then ats else []
def negC (ats : List At) (c : List Int) : List Int := if negFault ats c = 0 then c ++ [12] else []
def bothA (ats bts : List At) (c d : List Int) : List At := if bothFault ats bts c d = 0 then ats ++ bts else []
def bothC (ats bts : List At) (c d : List Int) : List Int := if bothFault ats bts c d = 0 then c ++ (d.map (movedF ats.length) ++ [10]) else []
theorem negate_read (va vc : Value) (ats : List At) (c : List Int) (w : World) (hA : ReadsA w va ats) (hC : Reads w vc c) (hK : KindsLaid w) :
    Calls Tryd.prog 17 #[.agg #[va, vc]] w fun e w' => ∃ o1 l1 q1 o2 l2 q2, e = .returned (.tuple #[.agg #[.slice o1 l1 q1, .slice o2 l2 q2], errV (negFault ats c)]) ∧ ReadsA w' (.slice o1 l1 q1) (negA ats c) ∧ Reads w' (.slice o2 l2 q2) (negC ats c) ∧ Below w.heap.size w w' := by
  refine (negate_any va vc ats c w hA hC hK).mono ?_
  rintro e w' ⟨va', vc', rfl, h0, h1, hb⟩
  by_cases hz : negFault ats c = 0
  · obtain ⟨r1, r2⟩ := h0 hz
    have e1 : negA ats c = ats := by unfold negA; rw [if_pos hz]
    have e2 : negC ats c = c ++ [12] := by unfold negC; rw [if_pos hz]
    rw [e1, e2]
    obtain ⟨o1, q1, rfl, _⟩ := r1.slice
    obtain ⟨o2, q2, rfl, _⟩ := r2.slice
    exact ⟨o1, _, q1, o2, _, q2, rfl, r1, r2, hb⟩
  · obtain ⟨rfl, rfl⟩ := h1 hz
    have e1 : negA ats c = [] := by unfold negA; rw [if_neg hz]
    have e2 : negC ats c = [] := by unfold negC; rw [if_neg hz]
    rw [e1, e2]
    exact ⟨none, 0, 0, none, 0, 0, rfl, Or.inl ⟨none, 0, rfl, rfl⟩, Or.inl ⟨none, 0, rfl, rfl⟩, hb⟩
theorem refNegate_read (va vc : Value) (ats : List At) (c : List Int) (w : World) (hA : ReadsA w va ats) (hC : Reads w vc c) :
    Calls Tryd.prog 16 #[.agg #[va, vc]] w fun e w' => ∃ o1 l1 q1 o2 l2 q2, e = .returned (.tuple #[.agg #[.slice o1 l1 q1, .slice o2 l2 q2], .int .i64 (negFault ats c)]) ∧ ReadsA w' (.slice o1 l1 q1) (negA ats c) ∧ Reads w' (.slice o2 l2 q2) (negC ats c) ∧ Below w.heap.size w w' := by
  refine (refNegate_any va vc ats c w hA hC).mono ?_
  rintro e w' ⟨va', vc', rfl, h0, h1, hb⟩
  by_cases hz : negFault ats c = 0
  · obtain ⟨r1, r2⟩ := h0 hz
    have e1 : negA ats c = ats := by unfold negA; rw [if_pos hz]
    have e2 : negC ats c = c ++ [12] := by unfold negC; rw [if_pos hz]
    rw [e1, e2]
    obtain ⟨o1, q1, rfl, _⟩ := r1.slice
    obtain ⟨o2, q2, rfl, _⟩ := r2.slice
    exact ⟨o1, _, q1, o2, _, q2, rfl, r1, r2, hb⟩
  · obtain ⟨rfl, rfl⟩ := h1 hz
    have e1 : negA ats c = [] := by unfold negA; rw [if_neg hz]
    have e2 : negC ats c = [] := by unfold negC; rw [if_neg hz]
    rw [e1, e2]
    exact ⟨none, 0, 0, none, 0, 0, rfl, Or.inl ⟨none, 0, rfl, rfl⟩, Or.inl ⟨none, 0, rfl, rfl⟩, hb⟩
theorem both_read (va vc vb vd : Value) (ats bts : List At) (c d : List Int) (w : World) (hA : ReadsA w va ats) (hC : Reads w vc c) (hA2 : ReadsA w vb bts) (hC2 : Reads w vd d) (hK : KindsLaid w) :
    Calls Tryd.prog 20 #[.agg #[va, vc], .agg #[vb, vd]] w fun e w' => ∃ o1 l1 q1 o2 l2 q2, e = .returned (.tuple #[.agg #[.slice o1 l1 q1, .slice o2 l2 q2], errV (bothFault ats bts c d)]) ∧ ReadsA w' (.slice o1 l1 q1) (bothA ats bts c d) ∧ Reads w' (.slice o2 l2 q2) (bothC ats bts c d) ∧ Below w.heap.size w w' := by
  refine (both_any va vc vb vd ats bts c d w hA hC hA2 hC2 hK).mono ?_
  rintro e w' ⟨va', vc', rfl, h0, h1, hb⟩
  by_cases hz : bothFault ats bts c d = 0
  · obtain ⟨r1, r2⟩ := h0 hz
    have e1 : bothA ats bts c d = ats ++ bts := by unfold bothA; rw [if_pos hz]
    have e2 : bothC ats bts c d = c ++ (d.map (movedF ats.length) ++ [10]) := by unfold bothC; rw [if_pos hz]
    rw [e1, e2]
    obtain ⟨o1, q1, rfl, _⟩ := r1.slice
    obtain ⟨o2, q2, rfl, _⟩ := r2.slice
    exact ⟨o1, _, q1, o2, _, q2, rfl, r1, r2, hb⟩
  · obtain ⟨rfl, rfl⟩ := h1 hz
    have e1 : bothA ats bts c d = [] := by unfold bothA; rw [if_neg hz]
    have e2 : bothC ats bts c d = [] := by unfold bothC; rw [if_neg hz]
    rw [e1, e2]
    exact ⟨none, 0, 0, none, 0, 0, rfl, Or.inl ⟨none, 0, rfl, rfl⟩, Or.inl ⟨none, 0, rfl, rfl⟩, hb⟩
theorem refBoth_read (va vc vb vd : Value) (ats bts : List At) (c d : List Int) (w : World) (hA : ReadsA w va ats) (hC : Reads w vc c) (hA2 : ReadsA w vb bts) (hC2 : Reads w vd d) :
    Calls Tryd.prog 19 #[.agg #[va, vc], .agg #[vb, vd]] w fun e w' => ∃ o1 l1 q1 o2 l2 q2, e = .returned (.tuple #[.agg #[.slice o1 l1 q1, .slice o2 l2 q2], .int .i64 (bothFault ats bts c d)]) ∧ ReadsA w' (.slice o1 l1 q1) (bothA ats bts c d) ∧ Reads w' (.slice o2 l2 q2) (bothC ats bts c d) ∧ Below w.heap.size w w' := by
  refine (refBoth_any va vc vb vd ats bts c d w hA hC hA2 hC2).mono ?_
  rintro e w' ⟨va', vc', rfl, h0, h1, hb⟩
  by_cases hz : bothFault ats bts c d = 0
  · obtain ⟨r1, r2⟩ := h0 hz
    have e1 : bothA ats bts c d = ats ++ bts := by unfold bothA; rw [if_pos hz]
    have e2 : bothC ats bts c d = c ++ (d.map (movedF ats.length) ++ [10]) := by unfold bothC; rw [if_pos hz]
    rw [e1, e2]
    obtain ⟨o1, q1, rfl, _⟩ := r1.slice
    obtain ⟨o2, q2, rfl, _⟩ := r2.slice
    exact ⟨o1, _, q1, o2, _, q2, rfl, r1, r2, hb⟩
  · obtain ⟨rfl, rfl⟩ := h1 hz
    have e1 : bothA ats bts c d = [] := by unfold bothA; rw [if_neg hz]
    have e2 : bothC ats bts c d = [] := by unfold bothC; rw [if_neg hz]
    rw [e1, e2]
    exact ⟨none, 0, 0, none, 0, 0, rfl, Or.inl ⟨none, 0, rfl, rfl⟩, Or.inl ⟨none, 0, rfl, rfl⟩, hb⟩
/-- two formulas that were laid, one behind the other, and what they read as. -/
theorem laid_two {W0 W1 : World} {A : List At} {C : List Int} {v1 v2 : Value} (hw : W1 = W0.alloc (.cells #[v1, v2] 40)) (r1 : ReadsA W0 v1 A) (r2 : Reads W0 v2 C) :
    ∀ W, Below W1.heap.size W1 W → (ReadsA W v1 A ∧ Reads W v2 C) ∧ (W.cell? ⟨W0.heap.size, 0, none⟩ = some v1 ∧ W.cell? ⟨W0.heap.size, 1, none⟩ = some v2) := fun W hW => by
  have b : Below W0.heap.size W0 W1 := by rw [hw]; exact below_alloc1 _ _
  have l : W0.heap.size < W1.heap.size := by rw [hw]; simp
  refine ⟨⟨(r1.below b).below hW, (r2.below b).below hW⟩, ?_, ?_⟩
  · rw [hW.cell (show (⟨W0.heap.size, 0, none⟩ : Addr).block < _ from l), hw]; simp
  · rw [hW.cell (show (⟨W0.heap.size, 1, none⟩ : Addr).block < _ from l), hw]; simp
end Go.Proofs.YtenmheenieifpabDoor

namespace Go.Proofs.YtenmheenieifpabDoor
open Go.ChangeShapes Go.WideShapes Go.ChangeAt Go.RowKit
set_option maxRecDepth 100000

set_option maxHeartbeats 8000000 in
theorem formTells_B (ao co bo eo : Option Addr) (acap ccap bcap ecap : Nat) (ats bts : List At) (c d : List Int) (m1 n1 m2 n2 : Nat) (u a b e1 : Int) (w : World) (hA : ReadsA w (.slice ao m1 acap) ats) (hC : Reads w (.slice co n1 ccap) c) (hA2 : ReadsA w (.slice bo m2 bcap) bts) (hC2 : Reads w (.slice eo n2 ecap) d) (hK : KindsLaid w) (hG : Laid w) (hf : ¬ formFault ats c = 0) :
    Calls Tryd.prog 5 #[.agg #[.slice ao m1 acap, .slice co n1 ccap], .agg #[.int .i64 u, .int .i64 a, .int .i64 b, .int .i64 e1], .agg #[.slice bo m2 bcap, .slice eo n2 ecap]] w fun e w' => e = .returned (.bool true) ∧ Below w.heap.size w w' := by
  obtain ⟨w1, hw1⟩ : ∃ w1, w1 = ((w.alloc (.cells #[.slice ao m1 acap, .slice co n1 ccap] 40)).alloc (.cells #[.int .i64 u, .int .i64 a, .int .i64 b, .int .i64 e1] 25)).alloc (.cells #[.slice bo m2 bcap, .slice eo n2 ecap] 40) := ⟨_, rfl⟩
  have HB1 : Hid (Below w.heap.size w w1) := by unfold Hid; rw [hw1]; exact below_three _ _ _ _
  have HS1 : Hid (w1.heap.size = w.heap.size + 3) := by unfold Hid; rw [hw1]; simp
  have HX : Hid (∀ W, Below w1.heap.size w1 W → BoxT W w.heap.size (.slice ao m1 acap) (.slice co n1 ccap) (.slice bo m2 bcap) (.slice eo n2 ecap) u a b e1) := fun W hW => BoxT.below (W := w1) (by rw [hw1]; exact boxT_alloc w _ _ _ _ _ _ _ _) (by have := HS1.out; omega) hW
  have HKd : Hid (∀ W, Below w1.heap.size w1 W → KindsLaid W) := fun W hW => (hK.below HB1.out).below hW
  have HG : Hid (∀ W, Below w1.heap.size w1 W → Laid W) := fun W hW => (hG.below HB1.out).below hW
  have HA : Hid (∀ W, Below w1.heap.size w1 W → ReadsA W (.slice ao m1 acap) ats ∧ Reads W (.slice co n1 ccap) c ∧ ReadsA W (.slice bo m2 bcap) bts ∧ Reads W (.slice eo n2 ecap) d) := fun W hW => ⟨(hA.below HB1.out).below hW, (hC.below HB1.out).below hW, (hA2.below HB1.out).below hW, (hC2.below HB1.out).below hW⟩
  clear hA hC hA2 hC2 hK hG
  have HRn : Hid (∀ W, Below w1.heap.size w1 W → _) := fun W hW => refNegate_read _ _ ats c W (HA.out W hW).1 (HA.out W hW).2.1
  have HNg : Hid (∀ W, Below w1.heap.size w1 W → _) := fun W hW => negate_read _ _ ats c W (HA.out W hW).1 (HA.out W hW).2.1 (HKd.out W hW)
  have HRb : Hid (∀ W, Below w1.heap.size w1 W → _) := fun W hW => refBoth_read _ _ _ _ ats bts c d W (HA.out W hW).1 (HA.out W hW).2.1 (HA.out W hW).2.2.1 (HA.out W hW).2.2.2
  have HBo : Hid (∀ W, Below w1.heap.size w1 W → _) := fun W hW => both_read _ _ _ _ ats bts c d W (HA.out W hW).1 (HA.out W hW).2.1 (HA.out W hW).2.2.1 (HA.out W hW).2.2.2 (HKd.out W hW)
  have HCk : Hid (∀ W, Below w1.heap.size w1 W → _) := fun W hW => fcheck_any _ _ ats c W (HA.out W hW).1 (HA.out W hW).2.1 (HKd.out W hW)
  have HRf : Hid (∀ W, Below w1.heap.size w1 W → _) := fun W hW => refForm_any _ _ ats c W (HA.out W hW).1 (HA.out W hW).2.1
  have HHo : Hid (∀ W, Below w1.heap.size w1 W → _) := fun W hW => fholds_any _ _ ats c u a b e1 W (HA.out W hW).1 (HA.out W hW).2.1 (HKd.out W hW)
  have e0 : (Wd.mk u a b e1).formFault ats c = formFault ats c := by unfold Wd.formFault; rw [if_neg hf]
  have e2 : (Wd.mk u a b e1).formIs ats c = false := by unfold Wd.formIs; rw [if_neg (by rw [e0]; exact hf)]
  rw [e0, e2] at HHo
  obtain ⟨Ff, hFf⟩ : ∃ Ff, Ff = formFault ats c := ⟨_, rfl⟩
  rw [← hFf] at HCk HRf HHo hf
  have hf0 : (Ff == 0) = false := by simpa using hf
  clear hFf hf e0 e2
  have Hw1 : Hid (Below w1.heap.size w1 w1) := Below.refl _ _
  obtain ⟨⟨x0, x1⟩, ⟨y0, y1, y2, y3⟩, ⟨z0, z1⟩⟩ := HX.out w1 Hw1.out
  rw [hw1] at x0 x1 y0 y1 y2 y3 z0 z1
  go_enter Tryd.func5, Tryd.ntmps5
  go_wp2_with fail
  rw [← hw1]
  clear hw1
  clear x0 x1 y0 y1 y2 y3 z0 z1
  go_at_call 11
  refine (HRf.out _ Hw1.out).mono ?_
  rintro e k0 ⟨rfl, hb⟩
  have Hk0 : Hid (Below w1.heap.size w1 k0) := Hw1.out.trans (hb.mono Hw1.out.size)
  clear hb
  obtain ⟨⟨x0, x1⟩, ⟨y0, y1, y2, y3⟩, ⟨z0, z1⟩⟩ := HX.out k0 Hk0.out
  go_wp2_with fail
  go_at_call 12
  refine (HCk.out _ Hk0.out).mono ?_
  rintro e k1 ⟨rfl, hb⟩
  have Hk1 : Hid (Below w1.heap.size w1 k1) := Hk0.out.trans (hb.mono Hk0.out.size)
  clear hb
  clear x0 x1 y0 y1 y2 y3 z0 z1
  go_wp2_with fail
  go_at_call 9
  refine (error_same _ _ (HG.out _ Hk1.out)).mono ?_
  rintro e k2 ⟨rfl, hb⟩
  have Hk2 : Hid (Below w1.heap.size w1 k2) := Hk1.out.trans (hb.mono Hk1.out.size)
  clear hb
  obtain ⟨⟨x0, x1⟩, ⟨y0, y1, y2, y3⟩, ⟨z0, z1⟩⟩ := HX.out k2 Hk2.out
  go_wp2_with fail
  go_at_call 15
  refine (HHo.out _ Hk2.out).mono ?_
  rintro e k3 ⟨rfl, hb⟩
  have Hk3 : Hid (Below w1.heap.size w1 k3) := Hk2.out.trans (hb.mono Hk2.out.size)
  clear hb
  clear x0 x1 y0 y1 y2 y3 z0 z1
  go_wp2_with fail
  go_at_call 9
  refine (error_same _ _ (HG.out _ Hk3.out)).mono ?_
  rintro e k4 ⟨rfl, hb⟩
  have Hk4 : Hid (Below w1.heap.size w1 k4) := Hk3.out.trans (hb.mono Hk3.out.size)
  clear hb
  obtain ⟨⟨x0, x1⟩, ⟨y0, y1, y2, y3⟩, ⟨z0, z1⟩⟩ := HX.out k4 Hk4.out
  go_wp2_with fail
  go_at_call 16
  refine (HRn.out _ Hk4.out).mono ?_
  rintro e k5 ⟨o1, l1, q1, o2, l2, q2, rfl, r1, r2, hb⟩
  have Hk5 : Hid (Below w1.heap.size w1 k5) := Hk4.out.trans (hb.mono Hk4.out.size)
  clear hb
  clear x0 x1 y0 y1 y2 y3 z0 z1
  obtain ⟨k6, hwk6⟩ : ∃ k6, k6 = k5.alloc (.cells #[.slice o1 l1 q1, .slice o2 l2 q2] 40) := ⟨_, rfl⟩
  have Hk6 : Hid (Below w1.heap.size w1 k6) := by unfold Hid; rw [hwk6]; exact Hk5.out.trans ((below_alloc1 _ _).mono Hk5.out.size)
  have Rk6 : Hid (∀ W, _) := laid_two hwk6 r1 r2
  clear r1 r2
  obtain ⟨⟨x0, x1⟩, ⟨y0, y1, y2, y3⟩, ⟨z0, z1⟩⟩ := HX.out k6 Hk6.out
  rw [hwk6] at x0 x1 y0 y1 y2 y3 z0 z1
  go_wp2_with fail
  rw [← hwk6]
  clear hwk6
  clear x0 x1 y0 y1 y2 y3 z0 z1
  obtain ⟨G1, hG1⟩ : ∃ G1, G1 = k5.heap.size := ⟨_, rfl⟩
  rw [← hG1] at Rk6 ⊢
  clear hG1
  go_at_call 17
  refine (HNg.out _ Hk6.out).mono ?_
  rintro e k7 ⟨p1, j1, s1, p2, j2, s2, rfl, r1, r2, hb⟩
  have Hk7 : Hid (Below w1.heap.size w1 k7 ∧ Below k6.heap.size k6 k7) := ⟨Hk6.out.trans (hb.mono Hk6.out.size), hb⟩
  clear hb
  obtain ⟨k8, hwk8⟩ : ∃ k8, k8 = k7.alloc (.cells #[.slice p1 j1 s1, .slice p2 j2 s2] 40) := ⟨_, rfl⟩
  have Hk8 : Hid (Below w1.heap.size w1 k8 ∧ Below k6.heap.size k6 k8) := by unfold Hid; rw [hwk8]; exact ⟨Hk7.out.1.trans ((below_alloc1 _ _).mono Hk7.out.1.size), Hk7.out.2.trans ((below_alloc1 _ _).mono Hk7.out.2.size)⟩
  have Rk8 : Hid (∀ W, _) := laid_two hwk8 r1 r2
  clear r1 r2
  go_wp2_with fail
  rw [← hwk8]
  clear hwk8
  obtain ⟨G2, hG2⟩ : ∃ G2, G2 = k7.heap.size := ⟨_, rfl⟩
  rw [← hG2] at Rk8 ⊢
  clear hG2
  go_at_call 9
  refine (error_same _ _ (HG.out _ Hk8.out.1)).mono ?_
  rintro e k9 ⟨rfl, hb⟩
  have Hk9 : Hid (Below w1.heap.size w1 k9 ∧ Below k6.heap.size k6 k9) := ⟨Hk8.out.1.trans (hb.mono Hk8.out.1.size), Hk8.out.2.trans (hb.mono Hk8.out.2.size)⟩
  have Tk9 : Hid (_ ∧ _) := ⟨Rk8.out k9 hb, Rk6.out k9 Hk9.out.2⟩
  clear hb Rk6 Rk8
  obtain ⟨⟨_, ⟨x0, x1⟩⟩, ⟨_, ⟨y0, y1⟩⟩⟩ := Tk9.out
  go_wp2_with fail
  go_at_call 18
  refine (form_same _ _ _ _ _ _ _ Tk9.out.1.1.1 Tk9.out.1.1.2 Tk9.out.2.1.1 Tk9.out.2.1.2).mono ?_
  rintro e k10 ⟨rfl, hb⟩
  have Hk10 : Hid (Below w1.heap.size w1 k10) := Hk9.out.1.trans (hb.mono Hk9.out.1.size)
  clear hb x0 x1 y0 y1
  obtain ⟨⟨x0, x1⟩, ⟨y0, y1, y2, y3⟩, ⟨z0, z1⟩⟩ := HX.out k10 Hk10.out
  go_wp2_with fail
  go_at_call 19
  refine (HRb.out _ Hk10.out).mono ?_
  rintro e k11 ⟨o1, l1, q1, o2, l2, q2, rfl, r1, r2, hb⟩
  have Hk11 : Hid (Below w1.heap.size w1 k11) := Hk10.out.trans (hb.mono Hk10.out.size)
  clear hb
  clear x0 x1 y0 y1 y2 y3 z0 z1
  obtain ⟨k12, hwk12⟩ : ∃ k12, k12 = k11.alloc (.cells #[.slice o1 l1 q1, .slice o2 l2 q2] 40) := ⟨_, rfl⟩
  have Hk12 : Hid (Below w1.heap.size w1 k12) := by unfold Hid; rw [hwk12]; exact Hk11.out.trans ((below_alloc1 _ _).mono Hk11.out.size)
  have Rk12 : Hid (∀ W, _) := laid_two hwk12 r1 r2
  clear r1 r2
  obtain ⟨⟨x0, x1⟩, ⟨y0, y1, y2, y3⟩, ⟨z0, z1⟩⟩ := HX.out k12 Hk12.out
  rw [hwk12] at x0 x1 y0 y1 y2 y3 z0 z1
  go_wp2_with fail
  rw [← hwk12]
  clear hwk12
  clear x0 x1 y0 y1 y2 y3 z0 z1
  obtain ⟨G1, hG1⟩ : ∃ G1, G1 = k11.heap.size := ⟨_, rfl⟩
  rw [← hG1] at Rk12 ⊢
  clear hG1
  go_at_call 20
  refine (HBo.out _ Hk12.out).mono ?_
  rintro e k13 ⟨p1, j1, s1, p2, j2, s2, rfl, r1, r2, hb⟩
  have Hk13 : Hid (Below w1.heap.size w1 k13 ∧ Below k12.heap.size k12 k13) := ⟨Hk12.out.trans (hb.mono Hk12.out.size), hb⟩
  clear hb
  obtain ⟨k14, hwk14⟩ : ∃ k14, k14 = k13.alloc (.cells #[.slice p1 j1 s1, .slice p2 j2 s2] 40) := ⟨_, rfl⟩
  have Hk14 : Hid (Below w1.heap.size w1 k14 ∧ Below k12.heap.size k12 k14) := by unfold Hid; rw [hwk14]; exact ⟨Hk13.out.1.trans ((below_alloc1 _ _).mono Hk13.out.1.size), Hk13.out.2.trans ((below_alloc1 _ _).mono Hk13.out.2.size)⟩
  have Rk14 : Hid (∀ W, _) := laid_two hwk14 r1 r2
  clear r1 r2
  go_wp2_with fail
  rw [← hwk14]
  clear hwk14
  obtain ⟨G2, hG2⟩ : ∃ G2, G2 = k13.heap.size := ⟨_, rfl⟩
  rw [← hG2] at Rk14 ⊢
  clear hG2
  go_at_call 9
  refine (error_same _ _ (HG.out _ Hk14.out.1)).mono ?_
  rintro e k15 ⟨rfl, hb⟩
  have Hk15 : Hid (Below w1.heap.size w1 k15 ∧ Below k12.heap.size k12 k15) := ⟨Hk14.out.1.trans (hb.mono Hk14.out.1.size), Hk14.out.2.trans (hb.mono Hk14.out.2.size)⟩
  have Tk15 : Hid (_ ∧ _) := ⟨Rk14.out k15 hb, Rk12.out k15 Hk15.out.2⟩
  clear hb Rk12 Rk14
  obtain ⟨⟨_, ⟨x0, x1⟩⟩, ⟨_, ⟨y0, y1⟩⟩⟩ := Tk15.out
  go_wp2_with fail
  go_at_call 18
  refine (form_same _ _ _ _ _ _ _ Tk15.out.1.1.1 Tk15.out.1.1.2 Tk15.out.2.1.1 Tk15.out.2.1.2).mono ?_
  rintro e k16 ⟨rfl, hb⟩
  have Hk16 : Hid (Below w1.heap.size w1 k16) := Hk15.out.1.trans (hb.mono Hk15.out.1.size)
  clear hb x0 x1 y0 y1
  go_wp2
  go_ret
  exact ⟨rfl, HB1.out.trans (Hk16.out.mono HB1.out.size)⟩
end Go.Proofs.YtenmheenieifpabDoor

namespace Go.Proofs.YtenmheenieifpabDoor
open Go.ChangeShapes Go.WideShapes Go.ChangeAt Go.RowKit
set_option maxRecDepth 100000

set_option maxHeartbeats 8000000 in
theorem formTells_W (ao co bo eo : Option Addr) (acap ccap bcap ecap : Nat) (ats bts : List At) (c d : List Int) (m1 n1 m2 n2 : Nat) (u a b e1 : Int) (w : World) (hA : ReadsA w (.slice ao m1 acap) ats) (hC : Reads w (.slice co n1 ccap) c) (hA2 : ReadsA w (.slice bo m2 bcap) bts) (hC2 : Reads w (.slice eo n2 ecap) d) (hK : KindsLaid w) (hG : Laid w) (hf : formFault ats c = 0) (hok : ¬ (Wd.mk u a b e1).ok = true) :
    Calls Tryd.prog 5 #[.agg #[.slice ao m1 acap, .slice co n1 ccap], .agg #[.int .i64 u, .int .i64 a, .int .i64 b, .int .i64 e1], .agg #[.slice bo m2 bcap, .slice eo n2 ecap]] w fun e w' => e = .returned (.bool true) ∧ Below w.heap.size w w' := by
  obtain ⟨w1, hw1⟩ : ∃ w1, w1 = ((w.alloc (.cells #[.slice ao m1 acap, .slice co n1 ccap] 40)).alloc (.cells #[.int .i64 u, .int .i64 a, .int .i64 b, .int .i64 e1] 25)).alloc (.cells #[.slice bo m2 bcap, .slice eo n2 ecap] 40) := ⟨_, rfl⟩
  have HB1 : Hid (Below w.heap.size w w1) := by unfold Hid; rw [hw1]; exact below_three _ _ _ _
  have HS1 : Hid (w1.heap.size = w.heap.size + 3) := by unfold Hid; rw [hw1]; simp
  have HX : Hid (∀ W, Below w1.heap.size w1 W → BoxT W w.heap.size (.slice ao m1 acap) (.slice co n1 ccap) (.slice bo m2 bcap) (.slice eo n2 ecap) u a b e1) := fun W hW => BoxT.below (W := w1) (by rw [hw1]; exact boxT_alloc w _ _ _ _ _ _ _ _) (by have := HS1.out; omega) hW
  have HKd : Hid (∀ W, Below w1.heap.size w1 W → KindsLaid W) := fun W hW => (hK.below HB1.out).below hW
  have HG : Hid (∀ W, Below w1.heap.size w1 W → Laid W) := fun W hW => (hG.below HB1.out).below hW
  have HA : Hid (∀ W, Below w1.heap.size w1 W → ReadsA W (.slice ao m1 acap) ats ∧ Reads W (.slice co n1 ccap) c ∧ ReadsA W (.slice bo m2 bcap) bts ∧ Reads W (.slice eo n2 ecap) d) := fun W hW => ⟨(hA.below HB1.out).below hW, (hC.below HB1.out).below hW, (hA2.below HB1.out).below hW, (hC2.below HB1.out).below hW⟩
  clear hA hC hA2 hC2 hK hG
  have HRn : Hid (∀ W, Below w1.heap.size w1 W → _) := fun W hW => refNegate_read _ _ ats c W (HA.out W hW).1 (HA.out W hW).2.1
  have HNg : Hid (∀ W, Below w1.heap.size w1 W → _) := fun W hW => negate_read _ _ ats c W (HA.out W hW).1 (HA.out W hW).2.1 (HKd.out W hW)
  have HRb : Hid (∀ W, Below w1.heap.size w1 W → _) := fun W hW => refBoth_read _ _ _ _ ats bts c d W (HA.out W hW).1 (HA.out W hW).2.1 (HA.out W hW).2.2.1 (HA.out W hW).2.2.2
  have HBo : Hid (∀ W, Below w1.heap.size w1 W → _) := fun W hW => both_read _ _ _ _ ats bts c d W (HA.out W hW).1 (HA.out W hW).2.1 (HA.out W hW).2.2.1 (HA.out W hW).2.2.2 (HKd.out W hW)
  have HCk : Hid (∀ W, Below w1.heap.size w1 W → _) := fun W hW => fcheck_any _ _ ats c W (HA.out W hW).1 (HA.out W hW).2.1 (HKd.out W hW)
  have HRf : Hid (∀ W, Below w1.heap.size w1 W → _) := fun W hW => refForm_any _ _ ats c W (HA.out W hW).1 (HA.out W hW).2.1
  have HHo : Hid (∀ W, Below w1.heap.size w1 W → _) := fun W hW => fholds_any _ _ ats c u a b e1 W (HA.out W hW).1 (HA.out W hW).2.1 (HKd.out W hW)
  have e0 : (Wd.mk u a b e1).formFault ats c = 1 := by unfold Wd.formFault; rw [if_pos hf, if_neg hok]
  have e2 : (Wd.mk u a b e1).formIs ats c = false := by unfold Wd.formIs; rw [if_neg (by rw [e0]; decide)]
  rw [e0, e2] at HHo
  rw [hf] at HCk HRf
  have HWo : Hid (∀ W, _) := fun W => refWorld_any u a b e1 W
  rw [if_neg hok] at HWo
  clear hf hok e0 e2
  have Hw1 : Hid (Below w1.heap.size w1 w1) := Below.refl _ _
  obtain ⟨⟨x0, x1⟩, ⟨y0, y1, y2, y3⟩, ⟨z0, z1⟩⟩ := HX.out w1 Hw1.out
  rw [hw1] at x0 x1 y0 y1 y2 y3 z0 z1
  go_enter Tryd.func5, Tryd.ntmps5
  go_wp2_with fail
  rw [← hw1]
  clear hw1
  clear x0 x1 y0 y1 y2 y3 z0 z1
  go_at_call 11
  refine (HRf.out _ Hw1.out).mono ?_
  rintro e k0 ⟨rfl, hb⟩
  have Hk0 : Hid (Below w1.heap.size w1 k0) := Hw1.out.trans (hb.mono Hw1.out.size)
  clear hb
  obtain ⟨⟨x0, x1⟩, ⟨y0, y1, y2, y3⟩, ⟨z0, z1⟩⟩ := HX.out k0 Hk0.out
  go_wp2_with fail
  go_at_call 12
  refine (HCk.out _ Hk0.out).mono ?_
  rintro e k1 ⟨rfl, hb⟩
  have Hk1 : Hid (Below w1.heap.size w1 k1) := Hk0.out.trans (hb.mono Hk0.out.size)
  clear hb
  clear x0 x1 y0 y1 y2 y3 z0 z1
  go_wp2_with fail
  go_at_call 9
  refine (error_same _ _ (HG.out _ Hk1.out)).mono ?_
  rintro e k2 ⟨rfl, hb⟩
  have Hk2 : Hid (Below w1.heap.size w1 k2) := Hk1.out.trans (hb.mono Hk1.out.size)
  clear hb
  obtain ⟨⟨x0, x1⟩, ⟨y0, y1, y2, y3⟩, ⟨z0, z1⟩⟩ := HX.out k2 Hk2.out
  go_wp2_with fail
  go_at_call 13
  refine (HWo.out _).mono ?_
  rintro e k3 ⟨rfl, hb⟩
  have Hk3 : Hid (Below w1.heap.size w1 k3) := Hk2.out.trans (hb.mono Hk2.out.size)
  clear hb
  clear x0 x1 y0 y1 y2 y3 z0 z1
  obtain ⟨⟨x0, x1⟩, ⟨y0, y1, y2, y3⟩, ⟨z0, z1⟩⟩ := HX.out k3 Hk3.out
  go_wp2_with fail
  go_at_call 15
  refine (HHo.out _ Hk3.out).mono ?_
  rintro e k4 ⟨rfl, hb⟩
  have Hk4 : Hid (Below w1.heap.size w1 k4) := Hk3.out.trans (hb.mono Hk3.out.size)
  clear hb
  clear x0 x1 y0 y1 y2 y3 z0 z1
  go_wp2_with fail
  go_at_call 9
  refine (error_same _ _ (HG.out _ Hk4.out)).mono ?_
  rintro e k5 ⟨rfl, hb⟩
  have Hk5 : Hid (Below w1.heap.size w1 k5) := Hk4.out.trans (hb.mono Hk4.out.size)
  clear hb
  obtain ⟨⟨x0, x1⟩, ⟨y0, y1, y2, y3⟩, ⟨z0, z1⟩⟩ := HX.out k5 Hk5.out
  go_wp2_with fail
  go_at_call 16
  refine (HRn.out _ Hk5.out).mono ?_
  rintro e k6 ⟨o1, l1, q1, o2, l2, q2, rfl, r1, r2, hb⟩
  have Hk6 : Hid (Below w1.heap.size w1 k6) := Hk5.out.trans (hb.mono Hk5.out.size)
  clear hb
  clear x0 x1 y0 y1 y2 y3 z0 z1
  obtain ⟨k7, hwk7⟩ : ∃ k7, k7 = k6.alloc (.cells #[.slice o1 l1 q1, .slice o2 l2 q2] 40) := ⟨_, rfl⟩
  have Hk7 : Hid (Below w1.heap.size w1 k7) := by unfold Hid; rw [hwk7]; exact Hk6.out.trans ((below_alloc1 _ _).mono Hk6.out.size)
  have Rk7 : Hid (∀ W, _) := laid_two hwk7 r1 r2
  clear r1 r2
  obtain ⟨⟨x0, x1⟩, ⟨y0, y1, y2, y3⟩, ⟨z0, z1⟩⟩ := HX.out k7 Hk7.out
  rw [hwk7] at x0 x1 y0 y1 y2 y3 z0 z1
  go_wp2_with fail
  rw [← hwk7]
  clear hwk7
  clear x0 x1 y0 y1 y2 y3 z0 z1
  obtain ⟨G1, hG1⟩ : ∃ G1, G1 = k6.heap.size := ⟨_, rfl⟩
  rw [← hG1] at Rk7 ⊢
  clear hG1
  go_at_call 17
  refine (HNg.out _ Hk7.out).mono ?_
  rintro e k8 ⟨p1, j1, s1, p2, j2, s2, rfl, r1, r2, hb⟩
  have Hk8 : Hid (Below w1.heap.size w1 k8 ∧ Below k7.heap.size k7 k8) := ⟨Hk7.out.trans (hb.mono Hk7.out.size), hb⟩
  clear hb
  obtain ⟨k9, hwk9⟩ : ∃ k9, k9 = k8.alloc (.cells #[.slice p1 j1 s1, .slice p2 j2 s2] 40) := ⟨_, rfl⟩
  have Hk9 : Hid (Below w1.heap.size w1 k9 ∧ Below k7.heap.size k7 k9) := by unfold Hid; rw [hwk9]; exact ⟨Hk8.out.1.trans ((below_alloc1 _ _).mono Hk8.out.1.size), Hk8.out.2.trans ((below_alloc1 _ _).mono Hk8.out.2.size)⟩
  have Rk9 : Hid (∀ W, _) := laid_two hwk9 r1 r2
  clear r1 r2
  go_wp2_with fail
  rw [← hwk9]
  clear hwk9
  obtain ⟨G2, hG2⟩ : ∃ G2, G2 = k8.heap.size := ⟨_, rfl⟩
  rw [← hG2] at Rk9 ⊢
  clear hG2
  go_at_call 9
  refine (error_same _ _ (HG.out _ Hk9.out.1)).mono ?_
  rintro e k10 ⟨rfl, hb⟩
  have Hk10 : Hid (Below w1.heap.size w1 k10 ∧ Below k7.heap.size k7 k10) := ⟨Hk9.out.1.trans (hb.mono Hk9.out.1.size), Hk9.out.2.trans (hb.mono Hk9.out.2.size)⟩
  have Tk10 : Hid (_ ∧ _) := ⟨Rk9.out k10 hb, Rk7.out k10 Hk10.out.2⟩
  clear hb Rk7 Rk9
  obtain ⟨⟨_, ⟨x0, x1⟩⟩, ⟨_, ⟨y0, y1⟩⟩⟩ := Tk10.out
  go_wp2_with fail
  go_at_call 18
  refine (form_same _ _ _ _ _ _ _ Tk10.out.1.1.1 Tk10.out.1.1.2 Tk10.out.2.1.1 Tk10.out.2.1.2).mono ?_
  rintro e k11 ⟨rfl, hb⟩
  have Hk11 : Hid (Below w1.heap.size w1 k11) := Hk10.out.1.trans (hb.mono Hk10.out.1.size)
  clear hb x0 x1 y0 y1
  obtain ⟨⟨x0, x1⟩, ⟨y0, y1, y2, y3⟩, ⟨z0, z1⟩⟩ := HX.out k11 Hk11.out
  go_wp2_with fail
  go_at_call 19
  refine (HRb.out _ Hk11.out).mono ?_
  rintro e k12 ⟨o1, l1, q1, o2, l2, q2, rfl, r1, r2, hb⟩
  have Hk12 : Hid (Below w1.heap.size w1 k12) := Hk11.out.trans (hb.mono Hk11.out.size)
  clear hb
  clear x0 x1 y0 y1 y2 y3 z0 z1
  obtain ⟨k13, hwk13⟩ : ∃ k13, k13 = k12.alloc (.cells #[.slice o1 l1 q1, .slice o2 l2 q2] 40) := ⟨_, rfl⟩
  have Hk13 : Hid (Below w1.heap.size w1 k13) := by unfold Hid; rw [hwk13]; exact Hk12.out.trans ((below_alloc1 _ _).mono Hk12.out.size)
  have Rk13 : Hid (∀ W, _) := laid_two hwk13 r1 r2
  clear r1 r2
  obtain ⟨⟨x0, x1⟩, ⟨y0, y1, y2, y3⟩, ⟨z0, z1⟩⟩ := HX.out k13 Hk13.out
  rw [hwk13] at x0 x1 y0 y1 y2 y3 z0 z1
  go_wp2_with fail
  rw [← hwk13]
  clear hwk13
  clear x0 x1 y0 y1 y2 y3 z0 z1
  obtain ⟨G1, hG1⟩ : ∃ G1, G1 = k12.heap.size := ⟨_, rfl⟩
  rw [← hG1] at Rk13 ⊢
  clear hG1
  go_at_call 20
  refine (HBo.out _ Hk13.out).mono ?_
  rintro e k14 ⟨p1, j1, s1, p2, j2, s2, rfl, r1, r2, hb⟩
  have Hk14 : Hid (Below w1.heap.size w1 k14 ∧ Below k13.heap.size k13 k14) := ⟨Hk13.out.trans (hb.mono Hk13.out.size), hb⟩
  clear hb
  obtain ⟨k15, hwk15⟩ : ∃ k15, k15 = k14.alloc (.cells #[.slice p1 j1 s1, .slice p2 j2 s2] 40) := ⟨_, rfl⟩
  have Hk15 : Hid (Below w1.heap.size w1 k15 ∧ Below k13.heap.size k13 k15) := by unfold Hid; rw [hwk15]; exact ⟨Hk14.out.1.trans ((below_alloc1 _ _).mono Hk14.out.1.size), Hk14.out.2.trans ((below_alloc1 _ _).mono Hk14.out.2.size)⟩
  have Rk15 : Hid (∀ W, _) := laid_two hwk15 r1 r2
  clear r1 r2
  go_wp2_with fail
  rw [← hwk15]
  clear hwk15
  obtain ⟨G2, hG2⟩ : ∃ G2, G2 = k14.heap.size := ⟨_, rfl⟩
  rw [← hG2] at Rk15 ⊢
  clear hG2
  go_at_call 9
  refine (error_same _ _ (HG.out _ Hk15.out.1)).mono ?_
  rintro e k16 ⟨rfl, hb⟩
  have Hk16 : Hid (Below w1.heap.size w1 k16 ∧ Below k13.heap.size k13 k16) := ⟨Hk15.out.1.trans (hb.mono Hk15.out.1.size), Hk15.out.2.trans (hb.mono Hk15.out.2.size)⟩
  have Tk16 : Hid (_ ∧ _) := ⟨Rk15.out k16 hb, Rk13.out k16 Hk16.out.2⟩
  clear hb Rk13 Rk15
  obtain ⟨⟨_, ⟨x0, x1⟩⟩, ⟨_, ⟨y0, y1⟩⟩⟩ := Tk16.out
  go_wp2_with fail
  go_at_call 18
  refine (form_same _ _ _ _ _ _ _ Tk16.out.1.1.1 Tk16.out.1.1.2 Tk16.out.2.1.1 Tk16.out.2.1.2).mono ?_
  rintro e k17 ⟨rfl, hb⟩
  have Hk17 : Hid (Below w1.heap.size w1 k17) := Hk16.out.1.trans (hb.mono Hk16.out.1.size)
  clear hb x0 x1 y0 y1
  go_wp2
  go_ret
  exact ⟨rfl, HB1.out.trans (Hk17.out.mono HB1.out.size)⟩
end Go.Proofs.YtenmheenieifpabDoor

namespace Go.Proofs.YtenmheenieifpabDoor
open Go.ChangeShapes Go.WideShapes Go.ChangeAt Go.RowKit
set_option maxRecDepth 100000

set_option maxHeartbeats 8000000 in
theorem formTells_G (ao co bo eo : Option Addr) (acap ccap bcap ecap : Nat) (ats bts : List At) (c d : List Int) (m1 n1 m2 n2 : Nat) (u a b e1 : Int) (w : World) (hA : ReadsA w (.slice ao m1 acap) ats) (hC : Reads w (.slice co n1 ccap) c) (hA2 : ReadsA w (.slice bo m2 bcap) bts) (hC2 : Reads w (.slice eo n2 ecap) d) (hK : KindsLaid w) (hG : Laid w) (hf : formFault ats c = 0) (hok : (Wd.mk u a b e1).ok = true) :
    Calls Tryd.prog 5 #[.agg #[.slice ao m1 acap, .slice co n1 ccap], .agg #[.int .i64 u, .int .i64 a, .int .i64 b, .int .i64 e1], .agg #[.slice bo m2 bcap, .slice eo n2 ecap]] w fun e w' => e = .returned (.bool true) ∧ Below w.heap.size w w' := by
  obtain ⟨w1, hw1⟩ : ∃ w1, w1 = ((w.alloc (.cells #[.slice ao m1 acap, .slice co n1 ccap] 40)).alloc (.cells #[.int .i64 u, .int .i64 a, .int .i64 b, .int .i64 e1] 25)).alloc (.cells #[.slice bo m2 bcap, .slice eo n2 ecap] 40) := ⟨_, rfl⟩
  have HB1 : Hid (Below w.heap.size w w1) := by unfold Hid; rw [hw1]; exact below_three _ _ _ _
  have HS1 : Hid (w1.heap.size = w.heap.size + 3) := by unfold Hid; rw [hw1]; simp
  have HX : Hid (∀ W, Below w1.heap.size w1 W → BoxT W w.heap.size (.slice ao m1 acap) (.slice co n1 ccap) (.slice bo m2 bcap) (.slice eo n2 ecap) u a b e1) := fun W hW => BoxT.below (W := w1) (by rw [hw1]; exact boxT_alloc w _ _ _ _ _ _ _ _) (by have := HS1.out; omega) hW
  have HKd : Hid (∀ W, Below w1.heap.size w1 W → KindsLaid W) := fun W hW => (hK.below HB1.out).below hW
  have HG : Hid (∀ W, Below w1.heap.size w1 W → Laid W) := fun W hW => (hG.below HB1.out).below hW
  have HA : Hid (∀ W, Below w1.heap.size w1 W → ReadsA W (.slice ao m1 acap) ats ∧ Reads W (.slice co n1 ccap) c ∧ ReadsA W (.slice bo m2 bcap) bts ∧ Reads W (.slice eo n2 ecap) d) := fun W hW => ⟨(hA.below HB1.out).below hW, (hC.below HB1.out).below hW, (hA2.below HB1.out).below hW, (hC2.below HB1.out).below hW⟩
  clear hA hC hA2 hC2 hK hG
  have HRn : Hid (∀ W, Below w1.heap.size w1 W → _) := fun W hW => refNegate_read _ _ ats c W (HA.out W hW).1 (HA.out W hW).2.1
  have HNg : Hid (∀ W, Below w1.heap.size w1 W → _) := fun W hW => negate_read _ _ ats c W (HA.out W hW).1 (HA.out W hW).2.1 (HKd.out W hW)
  have HRb : Hid (∀ W, Below w1.heap.size w1 W → _) := fun W hW => refBoth_read _ _ _ _ ats bts c d W (HA.out W hW).1 (HA.out W hW).2.1 (HA.out W hW).2.2.1 (HA.out W hW).2.2.2
  have HBo : Hid (∀ W, Below w1.heap.size w1 W → _) := fun W hW => both_read _ _ _ _ ats bts c d W (HA.out W hW).1 (HA.out W hW).2.1 (HA.out W hW).2.2.1 (HA.out W hW).2.2.2 (HKd.out W hW)
  have HCk : Hid (∀ W, Below w1.heap.size w1 W → _) := fun W hW => fcheck_any _ _ ats c W (HA.out W hW).1 (HA.out W hW).2.1 (HKd.out W hW)
  have HRf : Hid (∀ W, Below w1.heap.size w1 W → _) := fun W hW => refForm_any _ _ ats c W (HA.out W hW).1 (HA.out W hW).2.1
  have HHo : Hid (∀ W, Below w1.heap.size w1 W → _) := fun W hW => fholds_any _ _ ats c u a b e1 W (HA.out W hW).1 (HA.out W hW).2.1 (HKd.out W hW)
  have e0 : (Wd.mk u a b e1).formFault ats c = 0 := wdForm_zero.2 ⟨hf, hok⟩
  have e2 : (Wd.mk u a b e1).formIs ats c = valF ((Wd.mk u a b e1).heldL ats) c := by unfold Wd.formIs; rw [if_pos e0]
  have HTr : Hid (∀ W, Below w1.heap.size w1 W → _) := fun W hW => refTrue_any _ _ ats c u a b e1 hf hok W (HA.out W hW).1 (HA.out W hW).2.1
  rw [e0, e2] at HHo
  rw [hf] at HCk HRf
  obtain ⟨X, hX⟩ : ∃ X, X = valF ((Wd.mk u a b e1).heldL ats) c := ⟨_, rfl⟩
  rw [← hX] at HHo HTr
  have HWo : Hid (∀ W, _) := fun W => refWorld_any u a b e1 W
  rw [if_pos hok] at HWo
  clear hf hok e0 e2 hX
  have Hw1 : Hid (Below w1.heap.size w1 w1) := Below.refl _ _
  obtain ⟨⟨x0, x1⟩, ⟨y0, y1, y2, y3⟩, ⟨z0, z1⟩⟩ := HX.out w1 Hw1.out
  rw [hw1] at x0 x1 y0 y1 y2 y3 z0 z1
  go_enter Tryd.func5, Tryd.ntmps5
  go_wp2_with fail
  rw [← hw1]
  clear hw1
  clear x0 x1 y0 y1 y2 y3 z0 z1
  go_at_call 11
  refine (HRf.out _ Hw1.out).mono ?_
  rintro e k0 ⟨rfl, hb⟩
  have Hk0 : Hid (Below w1.heap.size w1 k0) := Hw1.out.trans (hb.mono Hw1.out.size)
  clear hb
  obtain ⟨⟨x0, x1⟩, ⟨y0, y1, y2, y3⟩, ⟨z0, z1⟩⟩ := HX.out k0 Hk0.out
  go_wp2_with fail
  go_at_call 12
  refine (HCk.out _ Hk0.out).mono ?_
  rintro e k1 ⟨rfl, hb⟩
  have Hk1 : Hid (Below w1.heap.size w1 k1) := Hk0.out.trans (hb.mono Hk0.out.size)
  clear hb
  clear x0 x1 y0 y1 y2 y3 z0 z1
  go_wp2_with fail
  go_at_call 9
  refine (error_same _ _ (HG.out _ Hk1.out)).mono ?_
  rintro e k2 ⟨rfl, hb⟩
  have Hk2 : Hid (Below w1.heap.size w1 k2) := Hk1.out.trans (hb.mono Hk1.out.size)
  clear hb
  obtain ⟨⟨x0, x1⟩, ⟨y0, y1, y2, y3⟩, ⟨z0, z1⟩⟩ := HX.out k2 Hk2.out
  go_wp2_with fail
  go_at_call 13
  refine (HWo.out _).mono ?_
  rintro e k3 ⟨rfl, hb⟩
  have Hk3 : Hid (Below w1.heap.size w1 k3) := Hk2.out.trans (hb.mono Hk2.out.size)
  clear hb
  clear x0 x1 y0 y1 y2 y3 z0 z1
  obtain ⟨⟨x0, x1⟩, ⟨y0, y1, y2, y3⟩, ⟨z0, z1⟩⟩ := HX.out k3 Hk3.out
  go_wp2_with fail
  go_at_call 14
  refine (HTr.out _ Hk3.out).mono ?_
  rintro e k4 ⟨rfl, hb⟩
  have Hk4 : Hid (Below w1.heap.size w1 k4) := Hk3.out.trans (hb.mono Hk3.out.size)
  clear hb
  clear x0 x1 y0 y1 y2 y3 z0 z1
  obtain ⟨⟨x0, x1⟩, ⟨y0, y1, y2, y3⟩, ⟨z0, z1⟩⟩ := HX.out k4 Hk4.out
  go_wp2_with fail
  go_at_call 15
  refine (HHo.out _ Hk4.out).mono ?_
  rintro e k5 ⟨rfl, hb⟩
  have Hk5 : Hid (Below w1.heap.size w1 k5) := Hk4.out.trans (hb.mono Hk4.out.size)
  clear hb
  clear x0 x1 y0 y1 y2 y3 z0 z1
  go_wp2_with fail
  go_at_call 9
  refine (error_same _ _ (HG.out _ Hk5.out)).mono ?_
  rintro e k6 ⟨rfl, hb⟩
  have Hk6 : Hid (Below w1.heap.size w1 k6) := Hk5.out.trans (hb.mono Hk5.out.size)
  clear hb
  obtain ⟨⟨x0, x1⟩, ⟨y0, y1, y2, y3⟩, ⟨z0, z1⟩⟩ := HX.out k6 Hk6.out
  go_wp2_with fail
  go_at_call 16
  refine (HRn.out _ Hk6.out).mono ?_
  rintro e k7 ⟨o1, l1, q1, o2, l2, q2, rfl, r1, r2, hb⟩
  have Hk7 : Hid (Below w1.heap.size w1 k7) := Hk6.out.trans (hb.mono Hk6.out.size)
  clear hb
  clear x0 x1 y0 y1 y2 y3 z0 z1
  obtain ⟨k8, hwk8⟩ : ∃ k8, k8 = k7.alloc (.cells #[.slice o1 l1 q1, .slice o2 l2 q2] 40) := ⟨_, rfl⟩
  have Hk8 : Hid (Below w1.heap.size w1 k8) := by unfold Hid; rw [hwk8]; exact Hk7.out.trans ((below_alloc1 _ _).mono Hk7.out.size)
  have Rk8 : Hid (∀ W, _) := laid_two hwk8 r1 r2
  clear r1 r2
  obtain ⟨⟨x0, x1⟩, ⟨y0, y1, y2, y3⟩, ⟨z0, z1⟩⟩ := HX.out k8 Hk8.out
  rw [hwk8] at x0 x1 y0 y1 y2 y3 z0 z1
  go_wp2_with fail
  rw [← hwk8]
  clear hwk8
  clear x0 x1 y0 y1 y2 y3 z0 z1
  obtain ⟨G1, hG1⟩ : ∃ G1, G1 = k7.heap.size := ⟨_, rfl⟩
  rw [← hG1] at Rk8 ⊢
  clear hG1
  go_at_call 17
  refine (HNg.out _ Hk8.out).mono ?_
  rintro e k9 ⟨p1, j1, s1, p2, j2, s2, rfl, r1, r2, hb⟩
  have Hk9 : Hid (Below w1.heap.size w1 k9 ∧ Below k8.heap.size k8 k9) := ⟨Hk8.out.trans (hb.mono Hk8.out.size), hb⟩
  clear hb
  obtain ⟨k10, hwk10⟩ : ∃ k10, k10 = k9.alloc (.cells #[.slice p1 j1 s1, .slice p2 j2 s2] 40) := ⟨_, rfl⟩
  have Hk10 : Hid (Below w1.heap.size w1 k10 ∧ Below k8.heap.size k8 k10) := by unfold Hid; rw [hwk10]; exact ⟨Hk9.out.1.trans ((below_alloc1 _ _).mono Hk9.out.1.size), Hk9.out.2.trans ((below_alloc1 _ _).mono Hk9.out.2.size)⟩
  have Rk10 : Hid (∀ W, _) := laid_two hwk10 r1 r2
  clear r1 r2
  go_wp2_with fail
  rw [← hwk10]
  clear hwk10
  obtain ⟨G2, hG2⟩ : ∃ G2, G2 = k9.heap.size := ⟨_, rfl⟩
  rw [← hG2] at Rk10 ⊢
  clear hG2
  go_at_call 9
  refine (error_same _ _ (HG.out _ Hk10.out.1)).mono ?_
  rintro e k11 ⟨rfl, hb⟩
  have Hk11 : Hid (Below w1.heap.size w1 k11 ∧ Below k8.heap.size k8 k11) := ⟨Hk10.out.1.trans (hb.mono Hk10.out.1.size), Hk10.out.2.trans (hb.mono Hk10.out.2.size)⟩
  have Tk11 : Hid (_ ∧ _) := ⟨Rk10.out k11 hb, Rk8.out k11 Hk11.out.2⟩
  clear hb Rk8 Rk10
  obtain ⟨⟨_, ⟨x0, x1⟩⟩, ⟨_, ⟨y0, y1⟩⟩⟩ := Tk11.out
  go_wp2_with fail
  go_at_call 18
  refine (form_same _ _ _ _ _ _ _ Tk11.out.1.1.1 Tk11.out.1.1.2 Tk11.out.2.1.1 Tk11.out.2.1.2).mono ?_
  rintro e k12 ⟨rfl, hb⟩
  have Hk12 : Hid (Below w1.heap.size w1 k12) := Hk11.out.1.trans (hb.mono Hk11.out.1.size)
  clear hb x0 x1 y0 y1
  obtain ⟨⟨x0, x1⟩, ⟨y0, y1, y2, y3⟩, ⟨z0, z1⟩⟩ := HX.out k12 Hk12.out
  go_wp2_with fail
  go_at_call 19
  refine (HRb.out _ Hk12.out).mono ?_
  rintro e k13 ⟨o1, l1, q1, o2, l2, q2, rfl, r1, r2, hb⟩
  have Hk13 : Hid (Below w1.heap.size w1 k13) := Hk12.out.trans (hb.mono Hk12.out.size)
  clear hb
  clear x0 x1 y0 y1 y2 y3 z0 z1
  obtain ⟨k14, hwk14⟩ : ∃ k14, k14 = k13.alloc (.cells #[.slice o1 l1 q1, .slice o2 l2 q2] 40) := ⟨_, rfl⟩
  have Hk14 : Hid (Below w1.heap.size w1 k14) := by unfold Hid; rw [hwk14]; exact Hk13.out.trans ((below_alloc1 _ _).mono Hk13.out.size)
  have Rk14 : Hid (∀ W, _) := laid_two hwk14 r1 r2
  clear r1 r2
  obtain ⟨⟨x0, x1⟩, ⟨y0, y1, y2, y3⟩, ⟨z0, z1⟩⟩ := HX.out k14 Hk14.out
  rw [hwk14] at x0 x1 y0 y1 y2 y3 z0 z1
  go_wp2_with fail
  rw [← hwk14]
  clear hwk14
  clear x0 x1 y0 y1 y2 y3 z0 z1
  obtain ⟨G1, hG1⟩ : ∃ G1, G1 = k13.heap.size := ⟨_, rfl⟩
  rw [← hG1] at Rk14 ⊢
  clear hG1
  go_at_call 20
  refine (HBo.out _ Hk14.out).mono ?_
  rintro e k15 ⟨p1, j1, s1, p2, j2, s2, rfl, r1, r2, hb⟩
  have Hk15 : Hid (Below w1.heap.size w1 k15 ∧ Below k14.heap.size k14 k15) := ⟨Hk14.out.trans (hb.mono Hk14.out.size), hb⟩
  clear hb
  obtain ⟨k16, hwk16⟩ : ∃ k16, k16 = k15.alloc (.cells #[.slice p1 j1 s1, .slice p2 j2 s2] 40) := ⟨_, rfl⟩
  have Hk16 : Hid (Below w1.heap.size w1 k16 ∧ Below k14.heap.size k14 k16) := by unfold Hid; rw [hwk16]; exact ⟨Hk15.out.1.trans ((below_alloc1 _ _).mono Hk15.out.1.size), Hk15.out.2.trans ((below_alloc1 _ _).mono Hk15.out.2.size)⟩
  have Rk16 : Hid (∀ W, _) := laid_two hwk16 r1 r2
  clear r1 r2
  go_wp2_with fail
  rw [← hwk16]
  clear hwk16
  obtain ⟨G2, hG2⟩ : ∃ G2, G2 = k15.heap.size := ⟨_, rfl⟩
  rw [← hG2] at Rk16 ⊢
  clear hG2
  go_at_call 9
  refine (error_same _ _ (HG.out _ Hk16.out.1)).mono ?_
  rintro e k17 ⟨rfl, hb⟩
  have Hk17 : Hid (Below w1.heap.size w1 k17 ∧ Below k14.heap.size k14 k17) := ⟨Hk16.out.1.trans (hb.mono Hk16.out.1.size), Hk16.out.2.trans (hb.mono Hk16.out.2.size)⟩
  have Tk17 : Hid (_ ∧ _) := ⟨Rk16.out k17 hb, Rk14.out k17 Hk17.out.2⟩
  clear hb Rk14 Rk16
  obtain ⟨⟨_, ⟨x0, x1⟩⟩, ⟨_, ⟨y0, y1⟩⟩⟩ := Tk17.out
  go_wp2_with fail
  go_at_call 18
  refine (form_same _ _ _ _ _ _ _ Tk17.out.1.1.1 Tk17.out.1.1.2 Tk17.out.2.1.1 Tk17.out.2.1.2).mono ?_
  rintro e k18 ⟨rfl, hb⟩
  have Hk18 : Hid (Below w1.heap.size w1 k18) := Hk17.out.1.trans (hb.mono Hk17.out.1.size)
  clear hb x0 x1 y0 y1
  go_wp2
  go_ret
  exact ⟨rfl, HB1.out.trans (Hk18.out.mono HB1.out.size)⟩
end Go.Proofs.YtenmheenieifpabDoor

namespace Go.Proofs.YtenmheenieifpabDoor
open Go.ChangeShapes Go.WideShapes Go.ChangeAt Go.RowKit
set_option maxRecDepth 100000

theorem formTells_walk (va vc : Value) (ats : List At) (c : List Int) (u a b e1 : Int) (vb vd : Value) (bts : List At) (d : List Int) (w : World) (hA : ReadsA w va ats) (hC : Reads w vc c) (hA2 : ReadsA w vb bts) (hC2 : Reads w vd d) (hg : Laid w ∧ KindsLaid w) :
    Calls Tryd.prog 5 #[.agg #[va, vc], .agg #[.int .i64 u, .int .i64 a, .int .i64 b, .int .i64 e1], .agg #[vb, vd]] w fun e w' => e = .returned (.bool true) ∧ Below w.heap.size w w' := by
  obtain ⟨hG, hK⟩ := hg
  obtain ⟨ao, acap, rfl, _⟩ := hA.slice
  obtain ⟨co, ccap, rfl, _⟩ := hC.slice
  obtain ⟨bo, bcap, rfl, _⟩ := hA2.slice
  obtain ⟨eo, ecap, rfl, _⟩ := hC2.slice
  by_cases hf : formFault ats c = 0
  · by_cases hok : (Wd.mk u a b e1).ok = true
    · exact formTells_G ao co bo eo acap ccap bcap ecap ats bts c d _ _ _ _ u a b e1 w hA hC hA2 hC2 hK hG hf hok
    · exact formTells_W ao co bo eo acap ccap bcap ecap ats bts c d _ _ _ _ u a b e1 w hA hC hA2 hC2 hK hG hf hok
  · exact formTells_B ao co bo eo acap ccap bcap ecap ats bts c d _ _ _ _ u a b e1 w hA hC hA2 hC2 hK hG hf
end Go.Proofs.YtenmheenieifpabDoor
