/-
  Proved: what form.Both returns where it refuses; what was in memory is as it was (contracts that the statements lean on). Written by program.
-/
import Derived.Test.YtenmheenieifpabDoorFormNegate
import Derived.Test.YtenmheenieifpabDoorFormCopyA
import Derived.Test.YtenmheenieifpabDoorFormMoved
namespace Go.Proofs.YtenmheenieifpabDoor
open Go.ChangeShapes Go.WideShapes Go.ChangeAt Go.RowKit
set_option maxRecDepth 100000

/-- the three places that Both makes: the formulas', and the answer's. -/
def BoxB (W : World) (S0 : Nat) (va vc vb vd : Value) : Prop :=
  (W.cell? ⟨S0, 0, none⟩ = some va ∧ W.cell? ⟨S0, 1, none⟩ = some vc) ∧ (W.cell? ⟨S0 + 1, 0, none⟩ = some vb ∧ W.cell? ⟨S0 + 1, 1, none⟩ = some vd) ∧ (W.cell? ⟨S0 + 2, 0, none⟩ = some (.slice none 0 0) ∧ W.cell? ⟨S0 + 2, 1, none⟩ = some (.slice none 0 0)) ∧ (W.frozen? ⟨S0 + 2, 0, none⟩ = false ∧ W.frozen? ⟨S0 + 2, 1, none⟩ = false)
theorem boxB_alloc (w : World) (va vc vb vd : Value) : BoxB (((w.alloc (.cells #[va, vc] 40)).alloc (.cells #[vb, vd] 40)).alloc (.cells #[.slice none 0 0, .slice none 0 0] 40)) w.heap.size va vc vb vd := by
  obtain ⟨x1, hx1⟩ : ∃ x1, x1 = w.alloc (.cells #[va, vc] 40) := ⟨_, rfl⟩
  obtain ⟨x2, hx2⟩ : ∃ x2, x2 = x1.alloc (.cells #[vb, vd] 40) := ⟨_, rfl⟩
  have s1 : x1.heap.size = w.heap.size + 1 := by rw [hx1]; simp
  have s2 : x2.heap.size = w.heap.size + 2 := by rw [hx2]; simp [s1]
  have a : ∀ j, x1.cell? ⟨w.heap.size, j, none⟩ = (#[va, vc] : Array Value)[j]? := fun j => by rw [hx1]; simp
  have b : ∀ j, x2.cell? ⟨w.heap.size + 1, j, none⟩ = (#[vb, vd] : Array Value)[j]? := fun j => by rw [hx2, ← s1]; simp
  rw [← hx1, ← hx2]
  have l0 : ∀ o j, (x2.alloc o).cell? ⟨w.heap.size, j, none⟩ = x1.cell? ⟨w.heap.size, j, none⟩ := fun o j => by
    rw [World.cell?_alloc_lt _ _ ⟨w.heap.size, j, none⟩ (by simp; omega), hx2, World.cell?_alloc_lt _ _ ⟨w.heap.size, j, none⟩ (by simp; omega)]
  have l1 : ∀ o j, (x2.alloc o).cell? ⟨w.heap.size + 1, j, none⟩ = x2.cell? ⟨w.heap.size + 1, j, none⟩ := fun o j => World.cell?_alloc_lt _ _ ⟨w.heap.size + 1, j, none⟩ (by simp; omega)
  unfold BoxB
  simp only [l0, l1, a, b]
  rw [← s2]
  simp
theorem BoxB.below {W W' : World} {S0 : Nat} {va vc vb vd : Value} (h : BoxB W S0 va vc vb vd) (hS : S0 + 2 < W.heap.size) (hb : Below W.heap.size W W') : BoxB W' S0 va vc vb vd := by
  obtain ⟨⟨a0, a1⟩, ⟨b0, b1⟩, ⟨c0, c1⟩, f0, f1⟩ := h
  have h0 : S0 < W.heap.size := by omega
  have h1 : S0 + 1 < W.heap.size := by omega
  exact ⟨⟨(hb.cell h0).trans a0, (hb.cell h0).trans a1⟩, ⟨(hb.cell h1).trans b0, (hb.cell h1).trans b1⟩, ⟨(hb.cell hS).trans c0, (hb.cell hS).trans c1⟩, (hb.frozen hS).trans f0, (hb.frozen hS).trans f1⟩
theorem below_three (w : World) (o1 o2 o3 : Obj) : Below w.heap.size w (((w.alloc o1).alloc o2).alloc o3) := ((below_alloc1 w o1).trans ((below_alloc1 _ o2).mono (by simp))).trans ((below_alloc1 _ o3).mono (by simp; omega))

set_option maxHeartbeats 2000000 in
theorem both_bad1 (va vc vb vd : Value) (ats bts : List At) (c d : List Int) (w : World) (hA : ReadsA w va ats) (hC : Reads w vc c) (hA2 : ReadsA w vb bts) (hC2 : Reads w vd d) (hK : KindsLaid w) (hf : ¬ formFault ats c = 0) :
    Calls Tryd.prog 20 #[.agg #[va, vc], .agg #[vb, vd]] w fun e w' => e = .returned (.tuple #[.agg #[.slice none 0 0, .slice none 0 0], .iface 59 (.int .i64 (formFault ats c))]) ∧ Below w.heap.size w w' := by
  obtain ⟨ao, acap, rfl, _⟩ := hA.slice
  obtain ⟨co, ccap, rfl, _⟩ := hC.slice
  obtain ⟨bo, bcap, rfl, _⟩ := hA2.slice
  obtain ⟨eo, ecap, rfl, _⟩ := hC2.slice
  obtain ⟨m1, hm1⟩ : ∃ m1, m1 = ats.length := ⟨_, rfl⟩
  obtain ⟨n1, hn1⟩ : ∃ n1, n1 = c.length := ⟨_, rfl⟩
  obtain ⟨m2, hm2⟩ : ∃ m2, m2 = bts.length := ⟨_, rfl⟩
  obtain ⟨n2, hn2⟩ : ∃ n2, n2 = d.length := ⟨_, rfl⟩
  rw [← hm1] at hA ⊢
  rw [← hn1] at hC ⊢
  rw [← hm2] at hA2 ⊢
  rw [← hn2] at hC2 ⊢
  obtain ⟨w1, hw1⟩ : ∃ w1, w1 = ((w.alloc (.cells #[.slice ao m1 acap, .slice co n1 ccap] 40)).alloc (.cells #[.slice bo m2 bcap, .slice eo n2 ecap] 40)).alloc (.cells #[.slice none 0 0, .slice none 0 0] 40) := ⟨_, rfl⟩
  have HB1 : Hid (Below w.heap.size w w1) := by unfold Hid; rw [hw1]; exact below_three _ _ _ _
  have HS1 : Hid (w1.heap.size = w.heap.size + 3) := by unfold Hid; rw [hw1]; simp
  have HX : Hid (∀ W, Below w1.heap.size w1 W → BoxB W w.heap.size (.slice ao m1 acap) (.slice co n1 ccap) (.slice bo m2 bcap) (.slice eo n2 ecap)) := fun W hW => BoxB.below (W := w1) (by rw [hw1]; exact boxB_alloc w _ _ _ _) (by have := HS1.out; omega) hW
  have HC1 : Hid (Calls Tryd.prog 12 #[.agg #[.slice ao m1 acap, .slice co n1 ccap]] w1 fun e w' => e = .returned (errV (formFault ats c)) ∧ Below w1.heap.size w1 w') := fcheck_any _ _ ats c w1 (hA.below HB1.out) (hC.below HB1.out) (hK.below HB1.out)
  rw [errV_no hf] at HC1
  clear hA hC hA2 hC2 hK hm1 hn1 hm2 hn2
  obtain ⟨F, hF⟩ : ∃ F, F = formFault ats c := ⟨_, rfl⟩
  rw [← hF] at HC1 ⊢
  clear hF hf
  obtain ⟨⟨x0, x1⟩, ⟨y0, y1⟩, _, _⟩ := HX.out w1 (Below.refl _ _)
  rw [hw1] at x0 x1 y0 y1
  go_enter Tryd.func20, Tryd.ntmps20
  go_wp2_with fail
  rw [← hw1]
  clear hw1 x0 x1 y0 y1
  go_at_call 12
  refine HC1.out.mono ?_
  rintro e w2 ⟨rfl, hb⟩
  have HB2 : Hid (Below w1.heap.size w1 w2) := hb
  clear hb
  obtain ⟨_, _, ⟨z0, z1⟩, ⟨f0, f1⟩⟩ := HX.out w2 HB2.out
  go_wp2_with fail
  obtain ⟨k0, k1⟩ := set2_cells (u0 := .slice none 0 0) (u1 := .slice none 0 0) z0 z1
  have hld := load_form k0 k1
  refine bodyPost_ret (v := .tuple #[.agg #[.slice none 0 0, .slice none 0 0], .iface 59 (.int .i64 F)]) ?_ rfl ⟨rfl, ?_⟩
  · rw [results_cell_tmp rfl]
    simp [asAddr, Result.andThen, hld]
  · exact ((HB1.out.trans (HB2.out.mono HB1.out.size)).setCell (show w.heap.size ≤ w.heap.size + 2 by omega) _).setCell (show w.heap.size ≤ w.heap.size + 2 by omega) _

set_option maxHeartbeats 2000000 in
theorem both_bad2 (va vc vb vd : Value) (ats bts : List At) (c d : List Int) (w : World) (hA : ReadsA w va ats) (hC : Reads w vc c) (hA2 : ReadsA w vb bts) (hC2 : Reads w vd d) (hK : KindsLaid w) (hf : formFault ats c = 0) (hg : ¬ formFault bts d = 0) :
    Calls Tryd.prog 20 #[.agg #[va, vc], .agg #[vb, vd]] w fun e w' => e = .returned (.tuple #[.agg #[.slice none 0 0, .slice none 0 0], .iface 59 (.int .i64 (formFault bts d))]) ∧ Below w.heap.size w w' := by
  obtain ⟨ao, acap, rfl, _⟩ := hA.slice
  obtain ⟨co, ccap, rfl, _⟩ := hC.slice
  obtain ⟨bo, bcap, rfl, _⟩ := hA2.slice
  obtain ⟨eo, ecap, rfl, _⟩ := hC2.slice
  obtain ⟨m1, hm1⟩ : ∃ m1, m1 = ats.length := ⟨_, rfl⟩
  obtain ⟨n1, hn1⟩ : ∃ n1, n1 = c.length := ⟨_, rfl⟩
  obtain ⟨m2, hm2⟩ : ∃ m2, m2 = bts.length := ⟨_, rfl⟩
  obtain ⟨n2, hn2⟩ : ∃ n2, n2 = d.length := ⟨_, rfl⟩
  rw [← hm1] at hA ⊢
  rw [← hn1] at hC ⊢
  rw [← hm2] at hA2 ⊢
  rw [← hn2] at hC2 ⊢
  obtain ⟨w1, hw1⟩ : ∃ w1, w1 = ((w.alloc (.cells #[.slice ao m1 acap, .slice co n1 ccap] 40)).alloc (.cells #[.slice bo m2 bcap, .slice eo n2 ecap] 40)).alloc (.cells #[.slice none 0 0, .slice none 0 0] 40) := ⟨_, rfl⟩
  have HB1 : Hid (Below w.heap.size w w1) := by unfold Hid; rw [hw1]; exact below_three _ _ _ _
  have HS1 : Hid (w1.heap.size = w.heap.size + 3) := by unfold Hid; rw [hw1]; simp
  have HX : Hid (∀ W, Below w1.heap.size w1 W → BoxB W w.heap.size (.slice ao m1 acap) (.slice co n1 ccap) (.slice bo m2 bcap) (.slice eo n2 ecap)) := fun W hW => BoxB.below (W := w1) (by rw [hw1]; exact boxB_alloc w _ _ _ _) (by have := HS1.out; omega) hW
  have HC1 : Hid (Calls Tryd.prog 12 #[.agg #[.slice ao m1 acap, .slice co n1 ccap]] w1 fun e w' => e = .returned (errV (formFault ats c)) ∧ Below w1.heap.size w1 w') := fcheck_any _ _ ats c w1 (hA.below HB1.out) (hC.below HB1.out) (hK.below HB1.out)
  have HC2 : Hid (∀ W, Below w1.heap.size w1 W → Calls Tryd.prog 12 #[.agg #[.slice bo m2 bcap, .slice eo n2 ecap]] W fun e w' => e = .returned (errV (formFault bts d)) ∧ Below W.heap.size W w') := fun W hW => fcheck_any _ _ bts d W ((hA2.below HB1.out).below hW) ((hC2.below HB1.out).below hW) ((hK.below HB1.out).below hW)
  rw [hf, errV_0] at HC1
  rw [errV_no hg] at HC2
  clear hA hC hA2 hC2 hK hm1 hn1 hm2 hn2
  obtain ⟨F, hF⟩ : ∃ F, F = formFault bts d := ⟨_, rfl⟩
  rw [← hF] at HC2 ⊢
  clear hF hf hg
  obtain ⟨⟨x0, x1⟩, ⟨y0, y1⟩, _, _⟩ := HX.out w1 (Below.refl _ _)
  rw [hw1] at x0 x1 y0 y1
  go_enter Tryd.func20, Tryd.ntmps20
  go_wp2_with fail
  rw [← hw1]
  clear hw1 x0 x1 y0 y1
  go_at_call 12
  refine HC1.out.mono ?_
  rintro e w2 ⟨rfl, hb⟩
  have HB2 : Hid (Below w1.heap.size w1 w2) := hb
  clear hb
  obtain ⟨_, ⟨y0, y1⟩, _, _⟩ := HX.out w2 HB2.out
  go_wp2_with fail
  go_at_call 12
  refine (HC2.out _ HB2.out).mono ?_
  rintro e w3 ⟨rfl, hb⟩
  have HB3 : Hid (Below w1.heap.size w1 w3) := HB2.out.trans (hb.mono HB2.out.size)
  clear hb y0 y1
  obtain ⟨_, _, ⟨z0, z1⟩, ⟨f0, f1⟩⟩ := HX.out w3 HB3.out
  go_wp2_with fail
  obtain ⟨k0, k1⟩ := set2_cells (u0 := .slice none 0 0) (u1 := .slice none 0 0) z0 z1
  have hld := load_form k0 k1
  refine bodyPost_ret (v := .tuple #[.agg #[.slice none 0 0, .slice none 0 0], .iface 59 (.int .i64 F)]) ?_ rfl ⟨rfl, ?_⟩
  · rw [results_cell_tmp rfl]
    simp [asAddr, Result.andThen, hld]
  · exact ((HB1.out.trans (HB3.out.mono HB1.out.size)).setCell (show w.heap.size ≤ w.heap.size + 2 by omega) _).setCell (show w.heap.size ≤ w.heap.size + 2 by omega) _

set_option maxHeartbeats 2000000 in
theorem both_full (va vc vb vd : Value) (ats bts : List At) (c d : List Int) (w : World) (hA : ReadsA w va ats) (hC : Reads w vc c) (hA2 : ReadsA w vb bts) (hC2 : Reads w vd d) (hK : KindsLaid w) (hf : formFault ats c = 0) (hg : formFault bts d = 0) (hq : 6 < ats.length + bts.length ∨ 19 < c.length + d.length) :
    Calls Tryd.prog 20 #[.agg #[va, vc], .agg #[vb, vd]] w fun e w' => e = .returned (.tuple #[.agg #[.slice none 0 0, .slice none 0 0], .iface 59 (.int .i64 4)]) ∧ Below w.heap.size w w' := by
  obtain ⟨⟨_, s1⟩, ⟨_, s2⟩, _⟩ := formFault_zero.1 hf
  obtain ⟨⟨_, s3⟩, ⟨_, s4⟩, _⟩ := formFault_zero.1 hg
  obtain ⟨ao, acap, rfl, _⟩ := hA.slice
  obtain ⟨co, ccap, rfl, _⟩ := hC.slice
  obtain ⟨bo, bcap, rfl, _⟩ := hA2.slice
  obtain ⟨eo, ecap, rfl, _⟩ := hC2.slice
  obtain ⟨m1, hm1⟩ : ∃ m1, m1 = ats.length := ⟨_, rfl⟩
  obtain ⟨n1, hn1⟩ : ∃ n1, n1 = c.length := ⟨_, rfl⟩
  obtain ⟨m2, hm2⟩ : ∃ m2, m2 = bts.length := ⟨_, rfl⟩
  obtain ⟨n2, hn2⟩ : ∃ n2, n2 = d.length := ⟨_, rfl⟩
  rw [← hm1] at hA ⊢
  rw [← hn1] at hC ⊢
  rw [← hm2] at hA2 ⊢
  rw [← hn2] at hC2 ⊢
  obtain ⟨w1, hw1⟩ : ∃ w1, w1 = ((w.alloc (.cells #[.slice ao m1 acap, .slice co n1 ccap] 40)).alloc (.cells #[.slice bo m2 bcap, .slice eo n2 ecap] 40)).alloc (.cells #[.slice none 0 0, .slice none 0 0] 40) := ⟨_, rfl⟩
  have HB1 : Hid (Below w.heap.size w w1) := by unfold Hid; rw [hw1]; exact below_three _ _ _ _
  have HS1 : Hid (w1.heap.size = w.heap.size + 3) := by unfold Hid; rw [hw1]; simp
  have HX : Hid (∀ W, Below w1.heap.size w1 W → BoxB W w.heap.size (.slice ao m1 acap) (.slice co n1 ccap) (.slice bo m2 bcap) (.slice eo n2 ecap)) := fun W hW => BoxB.below (W := w1) (by rw [hw1]; exact boxB_alloc w _ _ _ _) (by have := HS1.out; omega) hW
  have HC1 : Hid (Calls Tryd.prog 12 #[.agg #[.slice ao m1 acap, .slice co n1 ccap]] w1 fun e w' => e = .returned (errV (formFault ats c)) ∧ Below w1.heap.size w1 w') := fcheck_any _ _ ats c w1 (hA.below HB1.out) (hC.below HB1.out) (hK.below HB1.out)
  have HC2 : Hid (∀ W, Below w1.heap.size w1 W → Calls Tryd.prog 12 #[.agg #[.slice bo m2 bcap, .slice eo n2 ecap]] W fun e w' => e = .returned (errV (formFault bts d)) ∧ Below W.heap.size W w') := fun W hW => fcheck_any _ _ bts d W ((hA2.below HB1.out).below hW) ((hC2.below HB1.out).below hW) ((hK.below HB1.out).below hW)
  rw [hf, errV_0] at HC1
  rw [hg, errV_0] at HC2
  rw [← hm1] at s1 hq
  rw [← hn1] at s2 hq
  rw [← hm2] at s3 hq
  rw [← hn2] at s4 hq
  clear hA hC hA2 hC2 hK hm1 hn1 hm2 hn2 hf hg
  have HT : Hid (∀ W, Calls Tryd.prog 32 #[.int .i64 ((m1 : Int) + m2), .int .i64 ((n1 : Int) + n2 + 1)] W fun e w' => e = .returned (.bool true) ∧ W = w') := fun W => by
    have := tooMany_any ((m1 : Int) + m2) ((n1 : Int) + n2 + 1) W
    rw [show (decide (6 < (m1 : Int) + m2) || decide (20 < (n1 : Int) + n2 + 1)) = true by simp; omega] at this
    exact this
  obtain ⟨⟨x0, x1⟩, ⟨y0, y1⟩, _, _⟩ := HX.out w1 (Below.refl _ _)
  rw [hw1] at x0 x1 y0 y1
  go_enter Tryd.func20, Tryd.ntmps20
  go_wp2_with fail
  rw [← hw1]
  clear hw1 x0 x1 y0 y1
  go_at_call 12
  refine HC1.out.mono ?_
  rintro e w2 ⟨rfl, hb⟩
  have HB2 : Hid (Below w1.heap.size w1 w2) := hb
  clear hb
  obtain ⟨_, ⟨y0, y1⟩, _, _⟩ := HX.out w2 HB2.out
  go_wp2_with fail
  go_at_call 12
  refine (HC2.out _ HB2.out).mono ?_
  rintro e w3 ⟨rfl, hb⟩
  have HB3 : Hid (Below w1.heap.size w1 w3) := HB2.out.trans (hb.mono HB2.out.size)
  clear hb y0 y1
  obtain ⟨⟨x0, x1⟩, ⟨y0, y1⟩, _, _⟩ := HX.out w3 HB3.out
  go_wp2_with fail
  go_at_call 32
  refine (HT.out _).mono ?_
  rintro e w' ⟨rfl, rfl⟩
  clear x0 x1 y0 y1
  obtain ⟨_, _, ⟨z0, z1⟩, ⟨f0, f1⟩⟩ := HX.out w3 HB3.out
  go_wp2_with fail
  obtain ⟨k0, k1⟩ := set2_cells (u0 := .slice none 0 0) (u1 := .slice none 0 0) z0 z1
  have hld := load_form k0 k1
  refine bodyPost_ret (v := .tuple #[.agg #[.slice none 0 0, .slice none 0 0], .iface 59 (.int .i64 4)]) ?_ rfl ⟨rfl, ?_⟩
  · rw [results_cell_tmp rfl]
    simp [asAddr, Result.andThen, hld]
  · exact ((HB1.out.trans (HB3.out.mono HB1.out.size)).setCell (show w.heap.size ≤ w.heap.size + 2 by omega) _).setCell (show w.heap.size ≤ w.heap.size + 2 by omega) _
end Go.Proofs.YtenmheenieifpabDoor
