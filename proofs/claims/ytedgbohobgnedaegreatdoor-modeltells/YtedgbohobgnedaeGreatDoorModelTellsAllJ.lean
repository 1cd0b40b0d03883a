/-
  Proved: vennlaw1.ModelTells returns true, of any formula and any number of things, where model's three functions answer as chapter 9 says; what was in memory is as it was (the walk that the statement leans on).
-/
import Derived.Test.YtedgbohobgnedaeGreatDoorModelTellsWalkJ
import Derived.Test.YtedgbohobgnedaeGreatDoorLibPA5
import Derived.Test.YtedgbohobgnedaeGreatDoorLibRA3
namespace Go.Proofs.YtedgbohobgnedaeGreatDoor
open Go.ChangeShapes Go.WideShapes Go.ChangeAt Go.RowKit
set_option maxRecDepth 100000

theorem modelTells_of (va vc : Value) (ats : List At) (c : List Int) (u : Int) (w : World) (hA : ReadsA w va ats) (hC : Reads w vc c) (hg : Laid w)
    (cOf : ∀ W, Below w.heap.size w W → Calls Tryz.prog 8 #[.agg #[va, vc], .int .i64 u] W fun e w' => e = .returned (.tuple #[.agg (arrW (modelW ats c u)), errV (modelFault ats c u)]) ∧ Below W.heap.size W w')
    (cAg : ∀ W, Below w.heap.size w W → Calls Tryz.prog 11 #[.agg #[va, vc], .int .i64 u] W fun e w' => e = .returned (.tuple #[.agg (arrW (againstW ats c u)), errV (againstFault ats c u)]) ∧ Below W.heap.size W w')
    (cSu : ∀ W, Below w.heap.size w W → Calls Tryz.prog 13 #[.agg #[va, vc], .int .i64 u] W fun e w' => e = .returned (.tuple #[.bool (sureB ats c u), errV (sureFault ats c u)]) ∧ Below W.heap.size W w') :
    Calls Tryz.prog 3 #[.agg #[va, vc], .int .i64 u] w fun e w' => e = .returned (.bool true) ∧ Below w.heap.size w w' := by
  have h1 : ∀ W, Below w.heap.size w W → Calls Tryz.prog 7 #[.agg #[va, vc], .int .i64 u] W fun e w' => e = .returned (.tuple #[.agg (arrW (modelW ats c u)), .int .i64 (modelFault ats c u)]) ∧ Below W.heap.size W w' := fun W hW => refModel_any va vc ats c u W (hA.below hW) (hC.below hW)
  have hE : ∀ n W, Below w.heap.size w W → Calls Tryz.prog 9 #[errV n, .int .i64 n] W fun e w' => e = .returned (.bool true) ∧ Below W.heap.size W w' := fun n W hW => merr_any n W (hg.below hW)
  have h6 : ∀ W, Below w.heap.size w W → Calls Tryz.prog 12 #[.agg #[va, vc]] W fun e w' => e = .returned (.int .i64 (formFault ats c)) ∧ Below W.heap.size W w' := fun W hW => refForm_any va vc ats c W (hA.below hW) (hC.below hW)
  have h3 : ∀ W, Below w.heap.size w W → Calls Tryz.prog 10 #[.agg #[va, vc]] W fun e w' => ∃ va' vc', e = .returned (.tuple #[.agg #[va', vc'], .int .i64 (negFault ats c)]) ∧ (negFault ats c = 0 → ReadsA w' va' ats ∧ Reads w' vc' (c ++ [12])) ∧ (¬ negFault ats c = 0 → va' = .slice none 0 0 ∧ vc' = .slice none 0 0) ∧ Below W.heap.size W w' := fun W hW => refNegate_any va vc ats c W (hA.below hW) (hC.below hW)
  obtain ⟨ao, acap, rfl, _⟩ := hA.slice
  obtain ⟨co, ccap, rfl, _⟩ := hC.slice
  by_cases hn : negFault ats c = 0
  · obtain ⟨hf, h19, hf'⟩ := neg_good hn
    have ea : againstFault ats c u = modelFault ats (c ++ [12]) u := by unfold againstFault; rw [if_pos hn]
    have ew : againstW ats c u = modelW ats (c ++ [12]) u := by unfold againstW; rw [if_pos hn]
    have h3' : ∀ W, Below w.heap.size w W → Calls Tryz.prog 10 #[.agg #[.slice ao ats.length acap, .slice co c.length ccap]] W fun e w' => ∃ o1 l1 q1 o2 l2 q2, e = .returned (.tuple #[.agg #[.slice o1 l1 q1, .slice o2 l2 q2], .int .i64 0]) ∧ (∀ W', Below w'.heap.size w' W' → Calls Tryz.prog 7 #[.agg #[.slice o1 l1 q1, .slice o2 l2 q2], .int .i64 u] W' fun e' w'' => e' = .returned (.tuple #[.agg (arrW (againstW ats c u)), .int .i64 (againstFault ats c u)]) ∧ Below W'.heap.size W' w'') ∧ Below W.heap.size W w' := fun W hW => by
      refine (h3 W hW).mono ?_
      rintro e w' ⟨va', vc', rfl, hr, _, hb⟩
      obtain ⟨r1, r2⟩ := hr hn
      obtain ⟨o1, q1, rfl, _⟩ := r1.slice
      obtain ⟨o2, q2, rfl, _⟩ := r2.slice
      rw [hn, ea, ew]
      exact ⟨o1, _, q1, o2, _, q2, rfl, fun W' hW' => refModel_any _ _ ats (c ++ [12]) u W' (r1.below hW') (r2.below hW'), hb⟩
    by_cases h5 : againstFault ats c u = 5
    · have es : sureB ats c u = true := by unfold sureB; exact decide_eq_true ⟨h5, hf⟩
      have ef : sureFault ats c u = 0 := by unfold sureFault; rw [if_pos es]
      rw [es, ef] at cSu
      rw [hf] at h6
      rw [h5] at cAg h3'
      exact modelTells_G5 ao _ acap co _ ccap u _ (modelW ats c u) (againstW ats c u) _ (errV 5) (errV 0) w h1 cOf (hE _) h3' cAg (hE 5) h6 cSu (hE 0)
    · have es : sureB ats c u = false := by unfold sureB; exact decide_eq_false fun h => h5 h.1
      have ef : sureFault ats c u = againstFault ats c u := by unfold sureFault; rw [if_neg (by rw [es]; decide)]
      rw [es, ef] at cSu
      exact modelTells_GN ao _ acap co _ ccap u _ _ h5 (modelW ats c u) (againstW ats c u) _ _ _ w h1 cOf (hE _) h3' cAg (hE _) cSu (hE _)
  · have ea : againstFault ats c u = negFault ats c := by unfold againstFault; rw [if_neg hn]
    have ew : againstW ats c u = ⟨0, 0, 0, 0⟩ := by unfold againstW; rw [if_neg hn]
    have h3' : ∀ W, Below w.heap.size w W → Calls Tryz.prog 10 #[.agg #[.slice ao ats.length acap, .slice co c.length ccap]] W fun e w' => e = .returned (.tuple #[.agg #[.slice none 0 0, .slice none 0 0], .int .i64 (againstFault ats c u)]) ∧ Below W.heap.size W w' := fun W hW => by
      refine (h3 W hW).mono ?_
      rintro e w' ⟨va', vc', rfl, _, hr, hb⟩
      obtain ⟨rfl, rfl⟩ := hr hn
      rw [ea]
      exact ⟨rfl, hb⟩
    have hff : ¬ formFault ats c = 0 ∨ ¬ againstFault ats c u = 5 := by
      rw [ea]
      by_cases h5 : negFault ats c = 5
      · left; rw [neg_five h5]; decide
      · exact Or.inr h5
    have es : sureB ats c u = false := by unfold sureB; exact decide_eq_false fun h => hff.elim (fun g => g h.2) (fun g => g h.1)
    have ef : sureFault ats c u = againstFault ats c u := by unfold sureFault; rw [if_neg (by rw [es]; decide)]
    rw [es, ef] at cSu
    rw [ew] at cAg
    by_cases h5 : againstFault ats c u = 5
    · rw [neg_five (by rw [← ea]; exact h5)] at h6
      rw [h5] at cAg h3' cSu
      exact modelTells_B5 ao _ acap co _ ccap u _ (modelW ats c u) _ _ _ w h1 cOf (hE _) h3' cAg (hE 5) h6 cSu (hE 5)
    · exact modelTells_BN ao _ acap co _ ccap u _ _ h5 (by rw [ea]; exact hn) (modelW ats c u) _ _ _ w h1 cOf (hE _) h3' cAg (hE _) cSu (hE _)
end Go.Proofs.YtedgbohobgnedaeGreatDoor
