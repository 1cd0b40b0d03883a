/-
  Proved: vennlaw2.LeastFew returns true, of any formula and any world, where least's and model's functions answer as chapters 9 and 10 say; what was in memory is as it was (the walk that the statement leans on).
-/
import Derived.Test.YtedgbohobgnedaeGreatDoorLeastFewWalkJ
import Derived.Test.YtedgbohobgnedaeGreatDoorLibHA1
namespace Go.Proofs.YtedgbohobgnedaeGreatDoor
open Go.ChangeShapes Go.WideShapes Go.ChangeAt Go.RowKit
set_option maxRecDepth 100000

theorem few_facts : leastFaultF (manyA 1 3) [0] = 0 ∧ leastOfN (manyA 1 3) [0] = 3 := by decide +kernel
theorem errV_kind (n : Int) : errV n = .nilIface ∨ ∃ m, errV n = .iface 74 (.int .i64 m) := by
  by_cases h : n = 0
  · left; rw [h]; rfl
  · right; exact ⟨n, errV_no h⟩
theorem world_few {w : Wd} (h : w.ok = true) : 0 ≤ w.u ∧ w.u ≤ 6 := by
  unfold Wd.ok okB at h
  simp only [Bool.and_eq_true, decide_eq_true_eq] at h
  omega
/-- what is firm holds in any world. -/
theorem firm_holds {ats : List At} {c : List Int} (h0 : firmFault ats c = 0) (hb : firmB ats c = true) {w : Wd} (hw : w.ok = true) : w.formIs ats c = true := by
  have hn : negFault ats c = 0 := by
    by_cases hn : negFault ats c = 0
    · exact hn
    · unfold firmFault at h0; rw [if_neg hn] at h0; exact absurd h0 hn
  obtain ⟨hf, h19, hf'⟩ := neg_good hn
  have hc : cubeFault ats (c ++ [12]) = 0 := by unfold firmFault at h0; rw [if_pos hn] at h0; exact h0
  have hall : firmTo ats c 7 = true := by unfold firmB at hb; rw [if_pos h0] at hb; exact hb
  obtain ⟨u0, u6⟩ := world_few hw
  obtain ⟨u, hu⟩ := Int.eq_ofNat_of_zero_le u0
  have hs : someM ats (c ++ [12]) u = false := by
    unfold firmTo at hall
    have := List.all_eq_true.1 hall u (List.mem_range.2 (by omega))
    simpa using this
  have h5 := model_two hc (u := u) (by omega)
  rw [hs, if_neg (by decide)] at h5
  have hv := model_five h5 hf' hw hu
  rw [formIs_no hf h19 hw] at hv
  cases hx : w.formIs ats c
  · rw [hx] at hv; exact absurd hv (by decide)
  · rfl
/-- with fewer things it does not hold. -/
theorem few_holds {ats : List At} {c : List Int} (hc : cubeFault ats c = 0) {n : Nat} (hn : firstTo ats c 7 = n) {w : Wd} (hw : w.ok = true) (hh : w.formIs ats c = true) : (n : Int) ≤ w.u := by
  obtain ⟨u0, u6⟩ := world_few hw
  obtain ⟨u, hu⟩ := Int.eq_ofNat_of_zero_le u0
  obtain ⟨_, h7, hless⟩ := firstTo_some hn
  rcases Int.lt_or_le w.u (n : Int) with hlt | hle
  · have hs := hless u (by omega)
    have h5 := model_two hc (u := u) (by omega)
    rw [hs, if_neg (by decide)] at h5
    have hv := model_five h5 (cube_zero hc).1 hw hu
    rw [hh] at hv
    exact absurd hv (by decide)
  · exact hle

theorem leastFew_of (va vc : Value) (ats : List At) (c : List Int) (wu wa wb wc : Int) (w : World) (hA : ReadsA w va ats) (hC : Reads w vc c) (hg : Laid w) (hK : KindsLaid w)
    (cOf : ∀ (va vc : Value) (ats : List At) (c : List Int) (W : World), Below w.heap.size w W → ReadsA W va ats → Reads W vc c → Calls Tryz.prog 18 #[.agg #[va, vc]] W fun e w' => e = .returned (.tuple #[.int .i64 (leastOfN ats c), errV (leastFaultF ats c)]) ∧ Below W.heap.size W w')
    (cLi : ∀ (va vc : Value) (ats : List At) (c : List Int) (W : World), Below w.heap.size w W → ReadsA W va ats → Reads W vc c → Calls Tryz.prog 19 #[.agg #[va, vc]] W fun e w' => (∃ v, e = .returned (.tuple #[v, errV (listFault ats c)]) ∧ ReadsO w' v (listL ats c)) ∧ Below W.heap.size W w')
    (cFm : ∀ (va vc : Value) (ats : List At) (c : List Int) (W : World), Below w.heap.size w W → ReadsA W va ats → Reads W vc c → Calls Tryz.prog 20 #[.agg #[va, vc]] W fun e w' => e = .returned (.tuple #[.bool (firmB ats c), errV (firmFault ats c)]) ∧ Below W.heap.size W w')
    (cMo : ∀ (va vc : Value) (ats : List At) (c : List Int) (u : Int) (W : World), Below w.heap.size w W → ReadsA W va ats → Reads W vc c → Calls Tryz.prog 8 #[.agg #[va, vc], .int .i64 u] W fun e w' => e = .returned (.tuple #[.agg (arrW (modelW ats c u)), errV (modelFault ats c u)]) ∧ Below W.heap.size W w') :
    Calls Tryz.prog 6 #[.agg #[va, vc], .agg #[.int .i64 wu, .int .i64 wa, .int .i64 wb, .int .i64 wc]] w fun e w' => e = .returned (.bool true) ∧ Below w.heap.size w w' := by
  obtain ⟨o1, o2⟩ := few_facts
  obtain ⟨D, hD⟩ : ∃ D, D = Wd.mk wu wa wb wc := ⟨_, rfl⟩
  have eu : wu = D.u := by rw [hD]
  have HHo : Hid (∀ W, Below w.heap.size w W → Calls Tryz.prog 14 #[.agg #[va, vc], .agg #[.int .i64 wu, .int .i64 wa, .int .i64 wb, .int .i64 wc]] W fun e w' => e = .returned (.tuple #[.bool (D.formIs ats c), errV (D.formFault ats c)]) ∧ Below W.heap.size W w') := fun W hW => by
    have h := fholds_any va vc ats c wu wa wb wc W (hA.below hW) (hC.below hW) (hK.below hW)
    rw [← hD] at h
    exact h
  have HOf := fun W hW => cOf va vc ats c W hW (hA.below hW) (hC.below hW)
  have HLi := fun W hW => cLi va vc ats c W hW (hA.below hW) (hC.below hW)
  have HFi := fun W hW => cFm va vc ats c W hW (hA.below hW) (hC.below hW)
  have HMo := fun (u : Int) W hW => cMo va vc ats c u W hW (hA.below hW) (hC.below hW)
  obtain ⟨ao, acap, rfl, _⟩ := hA.slice
  obtain ⟨co, ccap, rfl, _⟩ := hC.slice
  have HOne : Hid (∀ W b1 b2, Below w.heap.size w W → ReadsA W (.slice (some ⟨b1, 0, none⟩) 1 1) (manyA 1 3) → Reads W (.slice (some ⟨b2, 0, none⟩) 1 1) [0] → Calls Tryz.prog 18 #[.agg #[.slice (some ⟨b1, 0, none⟩) 1 1, .slice (some ⟨b2, 0, none⟩) 1 1]] W fun e w' => e = .returned (.tuple #[.int .i64 3, .nilIface]) ∧ Below W.heap.size W w') := fun W b1 b2 hW h1 h2 => by
    have h := cOf _ _ (manyA 1 3) [0] W hW h1 h2
    rw [o1, o2] at h
    exact h
  have HP := errV_kind (D.formFault ats c)
  have HQ : (∃ m, errV (firmFault ats c) = .iface 74 (.int .i64 m)) ∨ (errV (firmFault ats c) = .nilIface ∧ firmB ats c = false) ∨ (errV (firmFault ats c) = .nilIface ∧ firmB ats c = true ∧ ∃ m, errV (D.formFault ats c) = .iface 74 (.int .i64 m)) ∨ (errV (firmFault ats c) = .nilIface ∧ firmB ats c = true ∧ errV (D.formFault ats c) = .nilIface ∧ D.formIs ats c = true) := by
    by_cases h0 : firmFault ats c = 0
    · right
      rcases (Bool.eq_false_or_eq_true (firmB ats c)) with hb | hb
      · right
        by_cases hz : D.formFault ats c = 0
        · right; exact ⟨by rw [h0]; rfl, hb, by rw [hz]; rfl, firm_holds h0 hb (wdForm_zero.1 hz).2⟩
        · left; exact ⟨by rw [h0]; rfl, hb, _, errV_no hz⟩
      · left; exact ⟨by rw [h0]; rfl, hb⟩
    · left; exact ⟨_, errV_no h0⟩
  by_cases hl : leastFaultF ats c = 0
  · have hc : cubeFault ats c = 0 := by
      by_cases hc : cubeFault ats c = 0
      · exact hc
      · unfold leastFaultF at hl; rw [if_neg hc] at hl; exact absurd hl hc
    have hge : ¬ firstTo ats c 7 < 0 := fun h => by
      unfold leastFaultF at hl; rw [if_pos hc, if_pos h] at hl; exact absurd hl (by decide)
    obtain ⟨n, hn⟩ := Int.eq_ofNat_of_zero_le (Int.not_lt.1 hge)
    obtain ⟨s1, s2, s3⟩ := firstTo_some hn
    have eo : leastOfN ats c = n := by unfold leastOfN; rw [if_pos hl, hn]
    simp only [hl, eo] at HOf
    have h0 := model_two hc (u := n) (by omega)
    rw [s1, if_pos rfl] at h0
    obtain ⟨g1, g2, g3, g4⟩ := model_zero h0
    refine leastFew_some ao _ acap co _ ccap wu wa wb wc (D.formIs ats c) (firmB ats c) (errV (D.formFault ats c)) (errV (firmFault ats c)) n (by omega) (someM ats c) (modelW ats c n).a (modelW ats c n).b (modelW ats c n).c w HOne HHo HFi HP HQ HOf (fun W hW => ?_) s1 s3 (fun u hu W hW => ?_) (fun W hW => ?_) (fun W hW => merr_any 5 W (hg.below hW)) ?_
    · refine (HLi W hW).mono ?_
      rintro e w' ⟨⟨v, rfl, hr⟩, hb⟩
      have hlf : listFault ats c = 0 := by unfold listFault; rw [hc]; rfl
      have el : listL ats c = (List.range 7).map (someM ats c) := by unfold listL; rw [if_pos hlf]
      rw [el] at hr
      have e7 : ((List.range 7).map (someM ats c)).length = 7 := by simp
      rcases hr with ⟨_, _, _, h0⟩ | ⟨b, off, cap, rfl, h2, _, _, h5⟩
      · rw [h0] at e7; exact absurd e7 (by decide)
      · rw [e7] at h5 ⊢
        rw [hlf]
        refine ⟨⟨b, off, cap, rfl, h2, fun k hk => ?_⟩, hb⟩
        rw [h5 k hk, List.getD_eq_getElem?_getD, List.getElem?_map, List.getElem?_range hk]
        rfl
    · have h5 := model_two hc (u := u) (by omega)
      rw [s3 u hu, if_neg (by decide)] at h5
      have ew : modelW ats c (u : Int) = ⟨0, 0, 0, 0⟩ := by unfold modelW; rw [if_neg (by rw [h5]; decide)]
      have h := HMo (u : Int) W hW
      rw [h5, ew] at h
      exact h
    · have h := HMo (n : Int) W hW
      rw [h0] at h
      unfold arrW at h
      rw [g3] at h
      exact h
    · by_cases hz : D.formFault ats c = 0
      · right
        rcases (Bool.eq_false_or_eq_true (D.formIs ats c)) with hb | hb
        · right
          refine ⟨by rw [hz]; rfl, hb, ?_⟩
          rw [eu]
          exact few_holds hc hn (wdForm_zero.1 hz).2 hb
        · left; exact ⟨by rw [hz]; rfl, hb⟩
      · left; exact ⟨_, errV_no hz⟩
  · simp only [errV_no hl] at HOf
    refine leastFew_none ao _ acap co _ ccap wu wa wb wc (D.formIs ats c) (firmB ats c) (errV (D.formFault ats c)) (errV (firmFault ats c)) (leastOfN ats c) (errV (listFault ats c)) (leastFaultF ats c) w HOne HHo HFi HP HQ HOf fun W hW => ?_
    refine (HLi W hW).mono ?_
    rintro e w' ⟨⟨v, rfl, _⟩, hb⟩
    exact ⟨⟨v, rfl⟩, hb⟩
end Go.Proofs.YtedgbohobgnedaeGreatDoor
