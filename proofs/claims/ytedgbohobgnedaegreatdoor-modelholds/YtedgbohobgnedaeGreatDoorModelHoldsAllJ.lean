/-
  Proved: vennlaw1.ModelHolds returns true, of any formula, any number of things and any world, where model's functions answer as chapter 9 says; what was in memory is as it was (the walk that the statement leans on).
-/
import Derived.Test.YtedgbohobgnedaeGreatDoorModelHoldsWalkJ
import Derived.Test.YtedgbohobgnedaeGreatDoorLibHA1
import Derived.Test.YtedgbohobgnedaeGreatDoorLibPA2
namespace Go.Proofs.YtedgbohobgnedaeGreatDoor
open Go.ChangeShapes Go.WideShapes Go.ChangeAt Go.RowKit
set_option maxRecDepth 100000

theorem modelHolds_of (va vc : Value) (ats : List At) (c : List Int) (u wu wa wb wc : Int) (w : World) (hA : ReadsA w va ats) (hC : Reads w vc c) (hg : Laid w) (hK : KindsLaid w)
    (cOf : ∀ (va vc : Value) (ats : List At) (c : List Int) (u : Int) (W : World), Below w.heap.size w W → ReadsA W va ats → Reads W vc c → Calls Tryz.prog 8 #[.agg #[va, vc], .int .i64 u] W fun e w' => e = .returned (.tuple #[.agg (arrW (modelW ats c u)), errV (modelFault ats c u)]) ∧ Below W.heap.size W w')
    (cAg : ∀ W, Below w.heap.size w W → Calls Tryz.prog 11 #[.agg #[va, vc], .int .i64 u] W fun e w' => e = .returned (.tuple #[.agg (arrW (againstW ats c u)), errV (againstFault ats c u)]) ∧ Below W.heap.size W w')
    (cSu : ∀ W, Below w.heap.size w W → Calls Tryz.prog 13 #[.agg #[va, vc], .int .i64 u] W fun e w' => e = .returned (.tuple #[.bool (sureB ats c u), errV (sureFault ats c u)]) ∧ Below W.heap.size W w') :
    Calls Tryz.prog 4 #[.agg #[va, vc], .int .i64 u, .agg #[.int .i64 wu, .int .i64 wa, .int .i64 wb, .int .i64 wc]] w fun e w' => e = .returned (.bool true) ∧ Below w.heap.size w w' := by
  obtain ⟨o1, o2, o3, o4⟩ := one_facts
  have hKW : ∀ W, Below w.heap.size w W → KindsLaid W := fun W hW => hK.below hW
  have hHo : ∀ (D : Wd) W, Below w.heap.size w W → Calls Tryz.prog 14 #[.agg #[va, vc], .agg #[.int .i64 D.u, .int .i64 D.a, .int .i64 D.b, .int .i64 D.c]] W fun e w' => e = .returned (.tuple #[.bool (D.formIs ats c), errV (D.formFault ats c)]) ∧ Below W.heap.size W w' := fun D W hW => fholds_any va vc ats c D.u D.a D.b D.c W (hA.below hW) (hC.below hW) (hKW W hW)
  have hCh : ∀ W, Below w.heap.size w W → Calls Tryz.prog 15 #[.agg #[va, vc]] W fun e w' => e = .returned (errV (formFault ats c)) ∧ Below W.heap.size W w' := fun W hW => fcheck_any va vc ats c W (hA.below hW) (hC.below hW) (hKW W hW)
  obtain ⟨D, hD⟩ : ∃ D, D = Wd.mk wu wa wb wc := ⟨_, rfl⟩
  have hO1 : ∀ W, Below w.heap.size w W → Calls Tryz.prog 8 #[.agg #[va, vc], .int .i64 u] W fun e w' => e = .returned (.tuple #[.agg (arrW (modelW ats c u)), errV (modelFault ats c u)]) ∧ Below W.heap.size W w' := fun W hW => cOf va vc ats c u W hW (hA.below hW) (hC.below hW)
  have hHD := hHo D
  rw [hD] at hHD
  obtain ⟨ao, acap, rfl, _⟩ := hA.slice
  obtain ⟨co, ccap, rfl, _⟩ := hC.slice
  refine modelHolds_in ao ats.length acap co c.length ccap u wu wa wb wc (D.formIs ats c) (if D.formFault ats c = 0 then (wu == u) else false) (errV (D.formFault ats c)) (errV (modelFault ats c u)) (modelW ats c u).u (modelW ats c u).a (modelW ats c u).b (modelW ats c u).c w ?_ ?_ ?_ hO1 ?_ ?_ ?_ ?_
  · intro W b1 b2 hW h1 h2
    have h := cOf _ _ (manyA 0 2) [0] 2 W hW h1 h2
    rw [o1, o2] at h
    exact h
  · intro W b1 b2 hW h1 h2
    have h := cOf _ _ (manyA 0 2) [0] 1 W hW h1 h2
    rw [o3, o4] at h
    exact h
  · exact fun W hW => merr_any 5 W (hg.below hW)
  · rw [hD]; exact hHD
  · by_cases hz : D.formFault ats c = 0
    · right; rw [if_pos hz, hz]; exact ⟨rfl, rfl⟩
    · left; rw [if_neg hz, errV_no hz]; exact ⟨_, rfl, rfl⟩
  · by_cases h0 : modelFault ats c u = 0
    · left
      obtain ⟨g1, g2, g3, g4⟩ := model_zero h0
      have e : (modelW ats c u).formFault ats c = 0 := wdForm_zero.2 ⟨g1, g2⟩
      have hx := hHo (modelW ats c u)
      rw [g4, e, g3] at hx
      rw [h0]
      exact ⟨rfl, g3.symm, hx⟩
    · right
      by_cases h5 : modelFault ats c u = 5
      · by_cases hf : formFault ats c = 0
        · left
          rw [hf] at hCh
          refine ⟨by rw [h5, errV_no (by decide)], hCh, ?_⟩
          by_cases hz : D.formFault ats c = 0
          · rw [if_pos hz]
            by_cases hu : wu = u
            · right
              exact model_five h5 hf (wdForm_zero.1 hz).2 (by rw [hD]; exact hu)
            · left; simp [hu]
          · left; rw [if_neg hz]
        · right; left
          rw [errV_no hf] at hCh
          exact ⟨by rw [h5, errV_no (by decide)], _, hCh⟩
      · right; right
        refine ⟨modelFault ats c u, errV_no h0, fun W hW => ?_⟩
        have := same_err (modelFault ats c u) 5 W (hg.below hW)
        rw [show (modelFault ats c u == 5) = false by simp [h5]] at this
        exact this
  · by_cases hs0 : sureFault ats c u = 0
    · right
      rcases (Bool.eq_false_or_eq_true (sureB ats c u)) with hs | hs
      · left
        have hb : againstFault ats c u = 5 ∧ formFault ats c = 0 := by unfold sureB at hs; exact of_decide_eq_true hs
        rw [hs, hs0] at cSu
        rw [hb.1, errV_no (by decide)] at cAg
        refine ⟨_, _, _, _, cSu, cAg, ?_⟩
        by_cases hz : D.formFault ats c = 0
        · rw [if_pos hz]
          by_cases hu : wu = u
          · right
            have hn : negFault ats c = 0 := by
              by_cases hn : negFault ats c = 0
              · exact hn
              · have e := hb.1
                unfold againstFault at e
                rw [if_neg hn] at e
                have := neg_five e
                rw [hb.2] at this
                exact absurd this (by decide)
            obtain ⟨_, h19, hf'⟩ := neg_good hn
            have e := hb.1
            unfold againstFault at e
            rw [if_pos hn] at e
            have hw := (wdForm_zero.1 hz).2
            have hv := model_five e hf' hw (by rw [hD]; exact hu)
            rw [formIs_no hb.2 h19 hw] at hv
            cases hx : D.formIs ats c
            · rw [hx] at hv; exact absurd hv (by decide)
            · rfl
          · left; simp [hu]
        · left; rw [if_neg hz]
      · right
        have e : againstFault ats c u = 0 := by
          have := hs0
          unfold sureFault at this
          rw [if_neg (by rw [hs]; decide)] at this
          exact this
        have hn : negFault ats c = 0 := by
          by_cases hn : negFault ats c = 0
          · exact hn
          · unfold againstFault at e; rw [if_neg hn] at e; exact absurd e hn
        obtain ⟨hf, h19, hf'⟩ := neg_good hn
        have ew : againstW ats c u = modelW ats (c ++ [12]) u := by unfold againstW; rw [if_pos hn]
        have em : modelFault ats (c ++ [12]) u = 0 := by unfold againstFault at e; rw [if_pos hn] at e; exact e
        obtain ⟨g1, g2, g3, g4⟩ := model_zero em
        have hv := formIs_no hf h19 g2
        rw [g4] at hv
        have hv' : (modelW ats (c ++ [12]) u).formIs ats c = false := by
          cases hx : (modelW ats (c ++ [12]) u).formIs ats c
          · rfl
          · rw [hx] at hv; exact absurd hv (by decide)
        have hx := hHo (modelW ats (c ++ [12]) u)
        rw [hv', wdForm_zero.2 ⟨hf, g2⟩, g3] at hx
        rw [hs, hs0] at cSu
        rw [e, ew] at cAg
        have cAg' : ∀ W, Below w.heap.size w W → Calls Tryz.prog 11 #[.agg #[.slice ao ats.length acap, .slice co c.length ccap], .int .i64 u] W fun e w' => e = .returned (.tuple #[.agg #[.int .i64 u, .int .i64 (modelW ats (c ++ [12]) u).a, .int .i64 (modelW ats (c ++ [12]) u).b, .int .i64 (modelW ats (c ++ [12]) u).c], .nilIface]) ∧ Below W.heap.size W w' := fun W hW => by
          have h := cAg W hW
          unfold arrW at h
          rw [g3] at h
          exact h
        refine ⟨_, _, _, cSu, cAg', fun W hW => ?_, hx⟩
        exact (same_nil 5 W).mono fun _ _ h => ⟨h.1, by rw [← h.2]; exact Below.refl _ _⟩
    · left
      rw [errV_no hs0] at cSu
      exact ⟨_, _, cSu⟩
end Go.Proofs.YtedgbohobgnedaeGreatDoor
