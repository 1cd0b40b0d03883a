/-
  Proved: what the calls of vennlaw1.FormTurns return (contracts that its walk leans on). Written by program.
-/
import Derived.Test.YtenmheenieifpabDoorFormHolds
import Derived.Test.YtenmheenieifpabDoorFormBoth2
namespace Go.Proofs.YtenmheenieifpabDoor
open Go.ChangeShapes Go.WideShapes Go.ChangeAt Go.RowKit
set_option maxRecDepth 100000

/-- the cells of the places of two formulas and a world. -/
def BoxT (W : World) (S0 : Nat) (va vc vb vd : Value) (u a b e1 : Int) : Prop :=
  (W.cell? ⟨S0, 0, none⟩ = some va ∧ W.cell? ⟨S0, 1, none⟩ = some vc) ∧ (W.cell? ⟨S0 + 1, 0, none⟩ = some (.int .i64 u) ∧ W.cell? ⟨S0 + 1, 1, none⟩ = some (.int .i64 a) ∧ W.cell? ⟨S0 + 1, 2, none⟩ = some (.int .i64 b) ∧ W.cell? ⟨S0 + 1, 3, none⟩ = some (.int .i64 e1)) ∧ (W.cell? ⟨S0 + 2, 0, none⟩ = some vb ∧ W.cell? ⟨S0 + 2, 1, none⟩ = some vd)
theorem boxT_alloc (w : World) (va vc vb vd : Value) (u a b e1 : Int) : BoxT (((w.alloc (.cells #[va, vc] 40)).alloc (.cells #[.int .i64 u, .int .i64 a, .int .i64 b, .int .i64 e1] 25)).alloc (.cells #[vb, vd] 40)) w.heap.size va vc vb vd u a b e1 := by
  obtain ⟨x1, hx1⟩ : ∃ x1, x1 = w.alloc (.cells #[va, vc] 40) := ⟨_, rfl⟩
  obtain ⟨x2, hx2⟩ : ∃ x2, x2 = x1.alloc (.cells #[.int .i64 u, .int .i64 a, .int .i64 b, .int .i64 e1] 25) := ⟨_, rfl⟩
  have s1 : x1.heap.size = w.heap.size + 1 := by rw [hx1]; simp
  have s2 : x2.heap.size = w.heap.size + 2 := by rw [hx2]; simp [s1]
  have p : ∀ j, x1.cell? ⟨w.heap.size, j, none⟩ = (#[va, vc] : Array Value)[j]? := fun j => by rw [hx1]; simp
  have q : ∀ j, x2.cell? ⟨w.heap.size + 1, j, none⟩ = (#[.int .i64 u, .int .i64 a, .int .i64 b, .int .i64 e1] : Array Value)[j]? := fun j => by rw [hx2, ← s1]; simp
  rw [← hx1, ← hx2]
  have l0 : ∀ o j, (x2.alloc o).cell? ⟨w.heap.size, j, none⟩ = x1.cell? ⟨w.heap.size, j, none⟩ := fun o j => by
    rw [World.cell?_alloc_lt _ _ ⟨w.heap.size, j, none⟩ (by simp; omega), hx2, World.cell?_alloc_lt _ _ ⟨w.heap.size, j, none⟩ (by simp; omega)]
  have l1 : ∀ o j, (x2.alloc o).cell? ⟨w.heap.size + 1, j, none⟩ = x2.cell? ⟨w.heap.size + 1, j, none⟩ := fun o j => World.cell?_alloc_lt _ _ ⟨w.heap.size + 1, j, none⟩ (by simp; omega)
  unfold BoxT
  simp only [l0, l1, p, q]
  rw [← s2]
  simp
theorem BoxT.below {W W' : World} {S0 : Nat} {va vc vb vd : Value} {u a b e1 : Int} (h : BoxT W S0 va vc vb vd u a b e1) (hS : S0 + 2 < W.heap.size) (hb : Below W.heap.size W W') : BoxT W' S0 va vc vb vd u a b e1 := by
  obtain ⟨⟨a0, a1⟩, ⟨b0, b1, b2, b3⟩, c0, c1⟩ := h
  have h0 : S0 < W.heap.size := by omega
  have h1 : S0 + 1 < W.heap.size := by omega
  exact ⟨⟨(hb.cell h0).trans a0, (hb.cell h0).trans a1⟩, ⟨(hb.cell h1).trans b0, (hb.cell h1).trans b1, (hb.cell h1).trans b2, (hb.cell h1).trans b3⟩, (hb.cell hS).trans c0, (hb.cell hS).trans c1⟩
/-- Holds of a right formula in a right world. -/
theorem fholds_good (va vc : Value) (ats : List At) (c : List Int) (u a b d : Int) (w : World) (hA : ReadsA w va ats) (hC : Reads w vc c) (hK : KindsLaid w) (hf : formFault ats c = 0) (hok : (Wd.mk u a b d).ok = true) (X : Bool) (hX : valF ((Wd.mk u a b d).heldL ats) c = X) :
    Calls Tryd.prog 15 #[.agg #[va, vc], .agg #[.int .i64 u, .int .i64 a, .int .i64 b, .int .i64 d]] w fun e w' => e = .returned (.tuple #[.bool X, .nilIface]) ∧ Below w.heap.size w w' := by
  have := fholds_any va vc ats c u a b d w hA hC hK
  have e0 : (Wd.mk u a b d).formFault ats c = 0 := wdForm_zero.2 ⟨hf, hok⟩
  have e1 : (Wd.mk u a b d).formIs ats c = X := by unfold Wd.formIs; rw [if_pos e0, hX]
  rw [e0, e1, errV_0] at this
  exact this
theorem fholds_none (va vc : Value) (ats : List At) (c : List Int) (u a b d : Int) (w : World) (hA : ReadsA w va ats) (hC : Reads w vc c) (hK : KindsLaid w) (hf : ¬ (Wd.mk u a b d).formFault ats c = 0) :
    Calls Tryd.prog 15 #[.agg #[va, vc], .agg #[.int .i64 u, .int .i64 a, .int .i64 b, .int .i64 d]] w fun e w' => e = .returned (.tuple #[.bool false, .iface 59 (.int .i64 ((Wd.mk u a b d).formFault ats c))]) ∧ Below w.heap.size w w' := by
  have := fholds_any va vc ats c u a b d w hA hC hK
  have e1 : (Wd.mk u a b d).formIs ats c = false := by unfold Wd.formIs; rw [if_neg hf]
  rw [e1, errV_no hf] at this
  exact this
/-- Negate of a right formula. -/
theorem negate_right (va vc : Value) (ats : List At) (c : List Int) (w : World) (hA : ReadsA w va ats) (hC : Reads w vc c) (hK : KindsLaid w) (hf : formFault ats c = 0) (h19 : c.length ≤ 19) :
    Calls Tryd.prog 17 #[.agg #[va, vc]] w fun e w' => ∃ o1 q1 o2 q2, e = .returned (.tuple #[.agg #[.slice o1 ats.length q1, .slice o2 (c.length + 1) q2], .nilIface]) ∧ ReadsA w' (.slice o1 ats.length q1) ats ∧ Reads w' (.slice o2 (c.length + 1) q2) (c ++ [12]) ∧ Below w.heap.size w w' := by
  refine (negate_good va vc ats c w hA hC hK hf h19).mono ?_
  rintro e w' ⟨va', vc', rfl, h1, h2, hb⟩
  obtain ⟨o1, q1, rfl, _⟩ := h1.slice
  obtain ⟨o2, q2, rfl, _⟩ := h2.slice
  have e : (c ++ [(12 : Int)]).length = c.length + 1 := by simp
  rw [e] at h2 ⊢
  exact ⟨o1, q1, o2, q2, rfl, h1, h2, hb⟩
/-- Both of two right formulas. -/
theorem both_right (va vc vb vd : Value) (ats bts : List At) (c d : List Int) (w : World) (hA : ReadsA w va ats) (hC : Reads w vc c) (hA2 : ReadsA w vb bts) (hC2 : Reads w vd d) (hK : KindsLaid w) (hf : formFault ats c = 0) (hg : formFault bts d = 0) (hq : ¬ (6 < ats.length + bts.length ∨ 19 < c.length + d.length)) :
    Calls Tryd.prog 20 #[.agg #[va, vc], .agg #[vb, vd]] w fun e w' => ∃ o1 l1 q1 o2 l2 q2, e = .returned (.tuple #[.agg #[.slice o1 l1 q1, .slice o2 l2 q2], .nilIface]) ∧ ReadsA w' (.slice o1 l1 q1) (ats ++ bts) ∧ Reads w' (.slice o2 l2 q2) (c ++ (d.map (movedF ats.length) ++ [10])) ∧ Below w.heap.size w w' := by
  refine (both_good va vc vb vd ats bts c d w hA hC hA2 hC2 hK hf hg hq).mono ?_
  rintro e w' ⟨va', vc', rfl, h1, h2, hb⟩
  obtain ⟨o1, q1, rfl, _⟩ := h1.slice
  obtain ⟨o2, q2, rfl, _⟩ := h2.slice
  exact ⟨o1, _, q1, o2, _, q2, rfl, h1, h2, hb⟩
/-- the formula that A has a thing: it is read where it was laid. -/
theorem one_reads {W : World} {S : Nat} (h1 : W.cell? ⟨S, 0, none⟩ = some (.int .i64 0)) (h2 : W.cell? ⟨S + 1, 0, none⟩ = some (.int .i64 3) ∧ W.cell? ⟨S + 1, 1, none⟩ = some (.slice (some ⟨S, 0, none⟩) 1 1) ∧ W.cell? ⟨S + 1, 2, none⟩ = some (.slice none 0 0) ∧ W.cell? ⟨S + 1, 3, none⟩ = some (.int .i64 1)) (h3 : W.cell? ⟨S + 1 + 1, 0, none⟩ = some (.int .i64 0)) (hS : S + 1 + 1 < W.heap.size) :
    ReadsA W (.slice (some ⟨S + 1, 0, none⟩) 1 1) [⟨3, [0], [], 1⟩] ∧ Reads W (.slice (some ⟨S + 1 + 1, 0, none⟩) 1 1) [0] := by
  refine ⟨Or.inr ⟨S + 1, 0, 1, rfl, by omega, by decide, ⟨by decide, by decide⟩, fun i a ha => ?_⟩, Or.inr ⟨S + 1 + 1, 0, 1, rfl, hS, by decide, ⟨by decide, by decide⟩, fun k hk => ?_⟩⟩
  · have hi : i = 0 := by have := (List.getElem?_eq_some_iff.1 ha).1; simpa using this
    subst hi
    simp at ha
    subst ha
    refine ⟨_, _, h2.1, h2.2.1, h2.2.2.1, h2.2.2.2, Or.inr ⟨S, 0, 1, rfl, by omega, by decide, ⟨by decide, by decide⟩, fun k hk => ?_⟩, Or.inl ⟨none, 0, rfl, rfl⟩⟩
    obtain rfl : k = 0 := by simpa using hk
    exact h1
  · obtain rfl : k = 0 := by simpa using hk
    exact h3
end Go.Proofs.YtenmheenieifpabDoor
