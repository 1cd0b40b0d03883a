/-
  Proved: vennlaw4.ModelMany returns true, of any name and any number, where model's functions answer as chapter 9 says; what was in memory is as it was (the walk that the statement leans on).
-/
import Derived.Test.YtedgbohobgnedaeGreatDoorModelManyWalkJ
namespace Go.Proofs.YtedgbohobgnedaeGreatDoor
open Go.ChangeShapes Go.WideShapes Go.ChangeAt Go.RowKit
set_option maxRecDepth 100000

theorem modelMany_of (name n : Int) (w : World) (hg : Laid w)
    (cOf : ∀ (va vc : Value) (ats : List At) (c : List Int) (u : Int) (W : World), Below w.heap.size w W → ReadsA W va ats → Reads W vc c → Calls Tryz.prog 8 #[.agg #[va, vc], .int .i64 u] W fun e w' => e = .returned (.tuple #[.agg (arrW (modelW ats c u)), errV (modelFault ats c u)]) ∧ Below W.heap.size W w')
    (cSu : ∀ (va vc : Value) (ats : List At) (c : List Int) (u : Int) (W : World), Below w.heap.size w W → ReadsA W va ats → Reads W vc c → Calls Tryz.prog 13 #[.agg #[va, vc], .int .i64 u] W fun e w' => e = .returned (.tuple #[.bool (sureB ats c u), errV (sureFault ats c u)]) ∧ Below W.heap.size W w') :
    Calls Tryz.prog 5 #[.int .i64 name, .int .i64 n] w fun e w' => e = .returned (.bool true) ∧ Below w.heap.size w w' := by
  have hE : ∀ W, Below w.heap.size w W → Calls Tryz.prog 9 #[.iface 74 (.int .i64 5), .int .i64 5] W fun e w' => e = .returned (.bool true) ∧ Below W.heap.size W w' := fun W hW => merr_any 5 W (hg.below hW)
  by_cases hbad : name < 0 ∨ 2 < name ∨ n < 1 ∨ 6 < n
  · refine modelMany_bad name n hbad w (fun W hW => ?_) hE
    have h := cOf (.slice none 0 0) (.slice none 0 0) [] [] 1 W hW (Or.inl ⟨none, 0, rfl, rfl⟩) (Or.inl ⟨none, 0, rfl, rfl⟩)
    have e1 : modelFault [] [] 1 = 5 := by decide
    have e2 : modelW [] [] 1 = ⟨0, 0, 0, 0⟩ := by unfold modelW; rw [if_neg (by rw [e1]; decide)]
    rw [e1, e2] at h
    exact h
  · obtain ⟨k, rfl⟩ := Int.eq_ofNat_of_zero_le (by omega : 0 ≤ name)
    obtain ⟨m, hm⟩ := Int.eq_ofNat_of_zero_le (by omega : 0 ≤ n - 1)
    obtain rfl : n = (m : Int) + 1 := by omega
    have hk : k < 3 := by omega
    have hm6 : m < 6 := by omega
    obtain ⟨f1, f2, f3, f4, f5⟩ := many_facts k hk m hm6
    have e3 : modelW (manyA (k : Int) ((m : Int) + 1)) [0] (m : Int) = ⟨0, 0, 0, 0⟩ := by unfold modelW; rw [if_neg (by rw [f3]; decide)]
    have hAo : ∀ W, Below w.heap.size w W → Calls Tryz.prog 16 #[.int .i64 k, .int .i64 ((m : Int) + 1)] W fun e w' => ∃ b1 b2, e = .returned (.agg #[.slice (some ⟨b1, 0, none⟩) 1 1, .slice (some ⟨b2, 0, none⟩) 1 1]) ∧
        (∀ W', Below w'.heap.size w' W' → Calls Tryz.prog 8 #[.agg #[.slice (some ⟨b1, 0, none⟩) 1 1, .slice (some ⟨b2, 0, none⟩) 1 1], .int .i64 ((m : Int) + 1)] W' fun e' w'' => e' = .returned (.tuple #[.agg (arrW (modelW (manyA (k : Int) ((m : Int) + 1)) [0] ((m : Int) + 1))), .nilIface]) ∧ Below W'.heap.size W' w'') ∧
        (∀ W', Below w'.heap.size w' W' → Calls Tryz.prog 8 #[.agg #[.slice (some ⟨b1, 0, none⟩) 1 1, .slice (some ⟨b2, 0, none⟩) 1 1], .int .i64 m] W' fun e' w'' => e' = .returned (.tuple #[.agg #[.int .i64 0, .int .i64 0, .int .i64 0, .int .i64 0], .iface 74 (.int .i64 5)]) ∧ Below W'.heap.size W' w'') ∧
        (∀ W', Below w'.heap.size w' W' → Calls Tryz.prog 13 #[.agg #[.slice (some ⟨b1, 0, none⟩) 1 1, .slice (some ⟨b2, 0, none⟩) 1 1], .int .i64 m] W' fun e' w'' => e' = .returned (.tuple #[.bool false, .nilIface]) ∧ Below W'.heap.size W' w'') ∧ Below W.heap.size W w' := fun W hW => by
      refine (atomOf_any (k : Int) ((m : Int) + 1) W).mono ?_
      rintro e w' ⟨b1, b2, rfl, hA, hC, hb⟩
      have hB : ∀ W', Below w'.heap.size w' W' → Below w.heap.size w W' := fun W' hW' => (hW.trans (hb.mono hW.size)).trans (hW'.mono (hW.trans (hb.mono hW.size)).size)
      refine ⟨b1, b2, rfl, fun W' hW' => ?_, fun W' hW' => ?_, fun W' hW' => ?_, hb⟩
      · have h := cOf _ _ (manyA (k : Int) ((m : Int) + 1)) [0] ((m : Int) + 1) W' (hB W' hW') (hA.below hW') (hC.below hW')
        rw [f1] at h
        exact h
      · have h := cOf _ _ (manyA (k : Int) ((m : Int) + 1)) [0] (m : Int) W' (hB W' hW') (hA.below hW') (hC.below hW')
        rw [f3, e3] at h
        exact h
      · have h := cSu _ _ (manyA (k : Int) ((m : Int) + 1)) [0] (m : Int) W' (hB W' hW') (hA.below hW') (hC.below hW')
        rw [f4, f5] at h
        exact h
    have hP : ∀ W, Calls Tryz.prog 17 #[.int .i64 ((m : Int) + 1)] W fun e w' => e = .returned (.int .i64 ((modelW (manyA (k : Int) ((m : Int) + 1)) [0] ((m : Int) + 1)).has k + 1)) ∧ w' = W := fun W => by
      rw [f2]
      exact pow_any (m + 1) (by omega) W
    have h1 := pw_le6 (k := m + 1) (by omega)
    have h2 := pw_pos (m + 1)
    rw [← f2] at h1 h2
    obtain ⟨D, hD⟩ : ∃ D, D = modelW (manyA (k : Int) ((m : Int) + 1)) [0] ((m : Int) + 1) := ⟨_, rfl⟩
    rw [← hD] at hAo hP h1 h2
    rcases (by omega : k = 0 ∨ k = 1 ∨ k = 2) with rfl | rfl | rfl
    · have h3 : D.has 0 = D.a := rfl
      rw [h3] at h1 h2 hP
      exact modelMany_0 m hm6 D.u D.a D.b D.c (by omega) w hAo hP hE
    · have h3 : D.has 1 = D.b := rfl
      rw [h3] at h1 h2 hP
      exact modelMany_1 m hm6 D.u D.a D.b D.c (by omega) w hAo hP hE
    · have h3 : D.has 2 = D.c := rfl
      rw [h3] at h1 h2 hP
      exact modelMany_2 m hm6 D.u D.a D.b D.c (by omega) w hAo hP hE
end Go.Proofs.YtedgbohobgnedaeGreatDoor
