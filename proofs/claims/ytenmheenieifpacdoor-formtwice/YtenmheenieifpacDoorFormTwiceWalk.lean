/-
  Proved: whatever the formula and the world, vennlaw4.FormTwice returns true, and what was in memory is as it was.
-/
import Derived.Test.YtenmheenieifpacDoorFormHolds
import Derived.Test.YtenmheenieifpacDoorFormNegate2
import Derived.Test.YtenmheenieifpacDoorSame
namespace Go.Proofs.YtenmheenieifpacDoor
open Go.ChangeShapes Go.WideShapes Go.ChangeAt Go.RowKit
set_option maxRecDepth 100000

/-- the cells of a formula's and a world's place. -/
def BoxFW (W : World) (S0 : Nat) (va vc : Value) (u a b d : Int) : Prop :=
  (W.cell? ⟨S0, 0, none⟩ = some va ∧ W.cell? ⟨S0, 1, none⟩ = some vc) ∧ (W.cell? ⟨S0 + 1, 0, none⟩ = some (.int .i64 u) ∧ W.cell? ⟨S0 + 1, 1, none⟩ = some (.int .i64 a) ∧ W.cell? ⟨S0 + 1, 2, none⟩ = some (.int .i64 b) ∧ W.cell? ⟨S0 + 1, 3, none⟩ = some (.int .i64 d))
theorem boxFW_alloc (w : World) (va vc : Value) (u a b d : Int) : BoxFW ((w.alloc (.cells #[va, vc] 25)).alloc (.cells #[.int .i64 u, .int .i64 a, .int .i64 b, .int .i64 d] 28)) w.heap.size va vc u a b d := by
  have r : ∀ o j, ((w.alloc (.cells #[va, vc] 25)).alloc o).cell? ⟨w.heap.size, j, none⟩ = (w.alloc (.cells #[va, vc] 25)).cell? ⟨w.heap.size, j, none⟩ := fun o j => World.cell?_alloc_lt _ _ ⟨w.heap.size, j, none⟩ (by simp)
  have q : w.heap.size + 1 = (w.alloc (.cells #[va, vc] 25)).heap.size := by simp
  unfold BoxFW
  simp only [r]
  rw [q]
  simp
theorem BoxFW.below {W W' : World} {S0 : Nat} {va vc : Value} {u a b d : Int} (h : BoxFW W S0 va vc u a b d) (hS : S0 + 1 < W.heap.size) (hb : Below W.heap.size W W') : BoxFW W' S0 va vc u a b d := by
  obtain ⟨⟨a0, a1⟩, ⟨b0, b1, b2, b3⟩⟩ := h
  have h0 : S0 < W.heap.size := by omega
  exact ⟨⟨(hb.cell h0).trans a0, (hb.cell h0).trans a1⟩, ⟨(hb.cell hS).trans b0, (hb.cell hS).trans b1, (hb.cell hS).trans b2, (hb.cell hS).trans b3⟩⟩
/-- Negate of no formula. -/
theorem negate_zero (w : World) (hK : KindsLaid w) :
    Calls Tryd.prog 9 #[.agg #[.slice none 0 0, .slice none 0 0]] w fun e w' => e = .returned (.tuple #[.agg #[.slice none 0 0, .slice none 0 0], .iface 69 (.int .i64 5)]) ∧ Below w.heap.size w w' :=
  negate_bad (.slice none 0 0) (.slice none 0 0) [] [] w (Or.inl ⟨none, 0, rfl, rfl⟩) (Or.inl ⟨none, 0, rfl, rfl⟩) hK (by decide)

set_option maxHeartbeats 4000000 in
/-- where Holds has a fault, or the Code is too long. -/
theorem formTwice_out (va vc : Value) (ats : List At) (c : List Int) (u a b d : Int) (w : World) (hA : ReadsA w va ats) (hC : Reads w vc c) (hL : Laid w ∧ KindsLaid w) (hE : ¬ (Wd.mk u a b d).formFault ats c = 0 ∨ ((Wd.mk u a b d).formFault ats c = 0 ∧ 9 < c.length)) :
    Calls Tryd.prog 3 #[.agg #[va, vc], .agg #[.int .i64 u, .int .i64 a, .int .i64 b, .int .i64 d]] w fun e w' => e = .returned (.bool true) ∧ Below w.heap.size w w' := by
  obtain ⟨ao, acap, rfl, _⟩ := hA.slice
  obtain ⟨co, ccap, rfl, _⟩ := hC.slice
  obtain ⟨w1, hw1⟩ : ∃ w1, w1 = (w.alloc (.cells #[.slice ao ats.length acap, .slice co c.length ccap] 25)).alloc (.cells #[.int .i64 u, .int .i64 a, .int .i64 b, .int .i64 d] 28) := ⟨_, rfl⟩
  have HB1 : Hid (Below w.heap.size w w1) := by unfold Hid; rw [hw1]; exact (below_alloc1 _ _).trans ((below_alloc1 _ _).mono (by simp))
  have HS1 : Hid (w1.heap.size = w.heap.size + 2) := by unfold Hid; rw [hw1]; simp
  have HX1 : Hid (BoxFW w1 w.heap.size (.slice ao ats.length acap) (.slice co c.length ccap) u a b d) := by unfold Hid; rw [hw1]; exact boxFW_alloc w _ _ _ _ _ _
  have HX : Hid (∀ W, Below w1.heap.size w1 W → BoxFW W w.heap.size (.slice ao ats.length acap) (.slice co c.length ccap) u a b d) := fun W hW => HX1.out.below (by have := HS1.out; omega) hW
  have HH : Hid (Calls Tryd.prog 8 #[.agg #[.slice ao ats.length acap, .slice co c.length ccap], .agg #[.int .i64 u, .int .i64 a, .int .i64 b, .int .i64 d]] w1 fun e w' => e = .returned (.tuple #[.bool ((Wd.mk u a b d).formIs ats c), errV ((Wd.mk u a b d).formFault ats c)]) ∧ Below w1.heap.size w1 w') := fholds_any _ _ ats c u a b d w1 (hA.below HB1.out) (hC.below HB1.out) (hL.2.below HB1.out)
  have HLa : Hid (∀ W, Below w1.heap.size w1 W → Laid W ∧ KindsLaid W) := fun W hW => ⟨(hL.1.below HB1.out).below hW, (hL.2.below HB1.out).below hW⟩
  clear hA hC hL HX1
  obtain ⟨X, hX⟩ : ∃ X, X = (Wd.mk u a b d).formIs ats c := ⟨_, rfl⟩
  rw [← hX] at HH
  clear hX
  obtain ⟨m, hm⟩ : ∃ m, m = ats.length := ⟨_, rfl⟩
  obtain ⟨n, hn⟩ : ∃ n, n = c.length := ⟨_, rfl⟩
  rw [← hm] at HH HX hw1 ⊢
  rw [← hn] at HH HX hw1 hE ⊢
  clear hm hn
  obtain ⟨F, hF⟩ : ∃ F, F = (Wd.mk u a b d).formFault ats c := ⟨_, rfl⟩
  rw [← hF] at HH hE
  clear hF
  obtain ⟨⟨x0, x1⟩, ⟨y0, y1, y2, y3⟩⟩ := HX.out w1 (Below.refl _ _)
  rw [hw1] at x0 x1 y0 y1 y2 y3
  rcases hE with hF | ⟨rfl, h9⟩
  · rw [errV_no hF] at HH
    clear hF
    go_enter Tryd.func3, Tryd.ntmps3
    go_wp2_with fail
    rw [← hw1]
    clear hw1 x0 x1 y0 y1 y2 y3
    go_at_call 8
    refine HH.out.mono ?_
    rintro e w2 ⟨rfl, hb⟩
    have HB2 : Hid (Below w1.heap.size w1 w2) := hb
    clear hb
    go_wp2_with fail
    go_at_call 9
    refine (negate_zero _ (HLa.out _ HB2.out).2).mono ?_
    rintro e w3 ⟨rfl, hb⟩
    have HB3 : Hid (Below w1.heap.size w1 w3) := HB2.out.trans (hb.mono HB2.out.size)
    clear hb
    obtain ⟨w4, hw4⟩ : ∃ w4, w4 = w3.alloc (.cells #[.slice none 0 0, .slice none 0 0] 25) := ⟨_, rfl⟩
    have HB4 : Hid (Below w1.heap.size w1 w4) := by unfold Hid; rw [hw4]; exact HB3.out.trans ((below_alloc1 _ _).mono HB3.out.size)
    go_wp2_with fail
    rw [← hw4]
    clear hw4
    go_at_call 10
    refine (same_err 5 5 _ (HLa.out _ HB4.out).1).mono ?_
    rintro e w5 ⟨rfl, hb⟩
    have HB5 : Hid (Below w1.heap.size w1 w5) := HB4.out.trans (hb.mono HB4.out.size)
    clear hb
    go_wp2
    go_ret
    exact ⟨rfl, HB1.out.trans (HB5.out.mono HB1.out.size)⟩
  · rw [errV_0] at HH
    have h9' : (9 : Int) < (n : Int) := by omega
    go_enter Tryd.func3, Tryd.ntmps3
    go_wp2_with fail
    rw [← hw1]
    clear hw1 x0 x1 y0 y1 y2 y3
    go_at_call 8
    refine HH.out.mono ?_
    rintro e w2 ⟨rfl, hb⟩
    have HB2 : Hid (Below w1.heap.size w1 w2) := hb
    obtain ⟨⟨x0, x1⟩, ⟨y0, y1, y2, y3⟩⟩ := HX.out w2 hb
    clear hb
    go_wp2_with fail
    go_at_call 9
    refine (negate_zero _ (HLa.out _ HB2.out).2).mono ?_
    rintro e w3 ⟨rfl, hb⟩
    have HB3 : Hid (Below w1.heap.size w1 w3) := HB2.out.trans (hb.mono HB2.out.size)
    clear hb x0 x1 y0 y1 y2 y3
    obtain ⟨w4, hw4⟩ : ∃ w4, w4 = w3.alloc (.cells #[.slice none 0 0, .slice none 0 0] 25) := ⟨_, rfl⟩
    have HB4 : Hid (Below w1.heap.size w1 w4) := by unfold Hid; rw [hw4]; exact HB3.out.trans ((below_alloc1 _ _).mono HB3.out.size)
    go_wp2_with fail
    rw [← hw4]
    clear hw4
    go_at_call 10
    refine (same_err 5 5 _ (HLa.out _ HB4.out).1).mono ?_
    rintro e w5 ⟨rfl, hb⟩
    have HB5 : Hid (Below w1.heap.size w1 w5) := HB4.out.trans (hb.mono HB4.out.size)
    clear hb
    go_wp2
    go_ret
    exact ⟨rfl, HB1.out.trans (HB5.out.mono HB1.out.size)⟩
end Go.Proofs.YtenmheenieifpacDoor
