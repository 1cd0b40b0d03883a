/-
  Proved: vennlaw2.AskFollows returns true, of any formulas, any other one, any number of things and any world, where ask's and core's functions answer as chapters 13 and 18 say; what was in memory is as it was (the walk that the statement leans on).
-/
import Derived.Test.YtjaedfjfcghgcaaDoorAskFollowsWalkJ
import Derived.Test.YtjaedfjfcghgcaaDoorLibA17
import Derived.Test.YtjaedfjfcghgcaaDoorLibA26
namespace Go.Proofs.YtjaedfjfcghgcaaDoor
open Go.ChangeShapes Go.WideShapes Go.ChangeAt Go.RowKit
set_option maxRecDepth 100000

theorem ask_fact : askFault [⟨manyA 0 2, [0]⟩] (manyA 0 1) [0] 3 = 0 ∧ askN [⟨manyA 0 2, [0]⟩] (manyA 0 1) [0] 3 = 1 := by decide +kernel
theorem so_mem {fs : List Fm} {D : Wd} (h : D.so fs = true) {f : Fm} (hf : f ∈ fs) : D.formIs f.ats f.c = true := by
  unfold Wd.so at h
  exact List.all_eq_true.1 h f hf
theorem so_append (D : Wd) (fs gs : List Fm) : D.so (fs ++ gs) = (D.so fs && D.so gs) := by unfold Wd.so; rw [List.all_append]

theorem askFollows_of (v va vc : Value) (fs : List Fm) (ats : List At) (c : List Int) (u wu wa wb wc : Int) (w : World) (hF : ReadsF w v fs) (hA : ReadsA w va ats) (hC : Reads w vc c) (hK : KindsLaid w)
    (cOf : ∀ (v va vc : Value) (fs : List Fm) (ats : List At) (c : List Int) (u : Int) (W : World), Below w.heap.size w W → ReadsF W v fs → ReadsA W va ats → Reads W vc c → Calls Tryd.prog 21 #[v, .agg #[va, vc], .int .i64 u] W fun e w' => e = .returned (.tuple #[.int .i64 (askN fs ats c u), errV (askFault fs ats c u)]) ∧ Below W.heap.size W w')
    (cOp : ∀ (v : Value) (fs : List Fm) (u : Int) (W : World), Below w.heap.size w W → ReadsF W v fs → Calls Tryd.prog 11 #[v, .int .i64 u] W fun e w' => e = .returned (.tuple #[.bool (openB fs u), errV (formsFault fs u)]) ∧ Below W.heap.size W w') :
    Calls Tryd.prog 7 #[v, .agg #[va, vc], .int .i64 u, .agg #[.int .i64 wu, .int .i64 wa, .int .i64 wb, .int .i64 wc]] w fun e w' => e = .returned (.bool true) ∧ Below w.heap.size w w' := by
  obtain ⟨D, hD⟩ : ∃ D, D = Wd.mk wu wa wb wc := ⟨_, rfl⟩
  obtain ⟨rfl, rfl, rfl, rfl⟩ : wu = D.u ∧ wa = D.a ∧ wb = D.b ∧ wc = D.c := by rw [hD]; exact ⟨rfl, rfl, rfl, rfl⟩
  clear hD
  have hOne : ∀ W v b1 b2, Below w.heap.size w W → ReadsF W v [⟨manyA 0 2, [0]⟩] → ReadsA W (.slice (some ⟨b1, 0, none⟩) 1 1) (manyA 0 1) → Reads W (.slice (some ⟨b2, 0, none⟩) 1 1) [0] → Calls Tryd.prog 21 #[v, .agg #[.slice (some ⟨b1, 0, none⟩) 1 1, .slice (some ⟨b2, 0, none⟩) 1 1], .int .i64 3] W fun e w' => e = .returned (.tuple #[.int .i64 1, .nilIface]) ∧ Below W.heap.size W w' := fun W v b1 b2 hW h0 h1 h2 => by
    have h := cOf v _ _ [⟨manyA 0 2, [0]⟩] (manyA 0 1) [0] 3 W hW h0 h1 h2
    rw [ask_fact.1, ask_fact.2] at h
    exact h
  have hOf := fun W hW => cOf v va vc fs ats c u W hW (hF.below hW) (hA.below hW) (hC.below hW)
  have hOg := fun (va vc : Value) (ats : List At) (c : List Int) W hW hA hC => cOf v va vc fs ats c u W hW (hF.below hW) hA hC
  have hHf := fun W (hW : Below w.heap.size w W) => fholds_any va vc ats c D.u D.a D.b D.c W (hA.below hW) (hC.below hW) (hK.below hW)
  have hNe := fun W (hW : Below w.heap.size w W) => negate_any va vc ats c W (hA.below hW) (hC.below hW) (hK.below hW)
  obtain ⟨lo, lcap, rfl, _⟩ := hF.slice
  obtain ⟨ao, acap, rfl, _⟩ := hA.slice
  obtain ⟨co, ccap, rfl, _⟩ := hC.slice
  by_cases h0 : askFault fs ats c u = 0
  · obtain ⟨h1, h2, h3⟩ := ask_zero.1 h0
    obtain ⟨⟨f1, f6⟩, hgood, hu⟩ := forms_zero.1 h1
    have eN : askN fs ats c u = answerN (askP fs ats c u.toNat) := by unfold askN; rw [if_pos h0]
    have hr := answer_range (askP fs ats c u.toNat)
    rw [← eN] at hr
    rw [h0] at hOf
    have hopen : openN fs u.toNat = true := by
      cases ho : openN fs u.toNat
      · exact absurd (ask_open.2 ho) h3
      · rfl
    refine askFollows_good lo _ lcap f1 f6 ao _ acap co _ ccap u (askN fs ats c u) hr.1 hr.2 D fs (D.formIs ats c) (askN fs ats c u != 1) (errV (D.formFault ats c)) w rfl hF hOne hOf (fun j f va vc _ W hW g1 g2 => fholds_any va vc f.ats f.c D.u D.a D.b D.c W g1 g2 (hK.below hW)) hHf (errV_is _) (fun hE hDu hall => ?_) (fun f va vc hf W hW g1 g2 => ?_) (fun W hW => ?_) ?_
    · have hok := (wdForm_zero.1 (errV_nil hE)).2
      have hso : D.so fs = true := by
        unfold Wd.so
        rw [List.all_eq_true]
        intro f hf
        obtain ⟨j, hj⟩ := List.mem_iff_getElem?.1 hf
        exact hall j (List.getElem?_eq_some_iff.1 hj).1 f hj
      refine ⟨fun hn => ?_, fun hn => ?_⟩
      · rw [eN] at hn
        exact ask_all_no (answer_one.1 hn) hok (by omega) hso
      · rw [eN] at hn
        exact ask_all_yes (answer_less hn) hok (by omega) hso
    · have hmem := List.mem_of_getElem? hf
      have hff : formFault f.ats f.c = 0 := hgood f hmem
      have hno : (askP fs f.ats f.c u.toNat).2 = 0 := (ask_no fs f.ats f.c _).2 fun E _ hs => so_mem hs hmem
      have hne : ¬ (askP fs f.ats f.c u.toNat).1 + (askP fs f.ats f.c u.toNat).2 = 0 := fun h => by rw [ask_open.1 h] at hopen; exact absurd hopen (by decide)
      have e1 : askFault fs f.ats f.c u = 0 := ask_zero.2 ⟨h1, hff, hne⟩
      have e2 : askN fs f.ats f.c u = 1 := by unfold askN; rw [if_pos e1]; exact answer_one.2 hno
      have h := hOg va vc f.ats f.c W hW g1 g2
      rw [e1, e2] at h
      exact h
    · refine (hNe W hW).mono ?_
      rintro e w' ⟨va', vc', rfl, hr', hz, hb⟩
      refine ⟨?_, hb⟩
      by_cases hnf : negFault ats c = 0
      · left
        obtain ⟨r1, r2⟩ := hr' hnf
        obtain ⟨_, h19, hf'⟩ := neg_good hnf
        obtain ⟨p1, q1, rfl, _⟩ := r1.slice
        obtain ⟨p2, q2, rfl, _⟩ := r2.slice
        rw [hnf]
        have eP := ask_neg (fs := fs) h2 h19 (u := u.toNat) (by omega)
        refine ⟨p1, _, q1, p2, _, q2, ⟨ats, c ++ [12]⟩, rfl, ⟨r1, r2⟩, fun W' hW' => ?_, fun W' x hW' h5 hR => ?_⟩
        · have e1 : askFault fs ats (c ++ [12]) u = 0 := ask_zero.2 ⟨h1, hf', by rw [eP]; show ¬ (askP fs ats c u.toNat).2 + (askP fs ats c u.toNat).1 = 0; omega⟩
          have e2 : askN fs ats (c ++ [12]) u = - askN fs ats c u := by
            rw [eN]
            unfold askN
            rw [if_pos e1, eP]
            exact answer_neg h3
          have h := hOg _ _ ats (c ++ [12]) W' (hW.trans ((hb.trans (hW'.mono hb.size)).mono hW.size)) (r1.below hW') (r2.below hW')
          rw [e1, e2] at h
          exact h
        · have hzf : formsFault (fs ++ [⟨ats, c ++ [12]⟩]) u = 0 := by
            refine forms_zero.2 ⟨by simp; omega, fun f hf => ?_, hu⟩
            rcases List.mem_append.1 hf with hf | hf
            · exact hgood f hf
            · obtain rfl : f = ⟨ats, c ++ [12]⟩ := by simpa using hf
              exact hf'
          have eo : openB (fs ++ [⟨ats, c ++ [12]⟩]) u = (askN fs ats c u != 1) := by
            have e1 : openB (fs ++ [⟨ats, c ++ [12]⟩]) u = openN (fs ++ [⟨ats, c ++ [12]⟩]) u.toNat := by unfold openB; rw [if_pos hzf]
            rw [e1, eN]
            have key : openN (fs ++ [⟨ats, c ++ [12]⟩]) u.toNat = true ↔ ¬ (askP fs ats c u.toNat).2 = 0 := by
              constructor
              · intro h hno
                obtain ⟨E, a1, a2, a3⟩ := open_has (by omega) h
                rw [so_append, Bool.and_eq_true] at a3
                have := ask_all_no hno a1 a2 a3.1
                have h4 := so_mem a3.2 (f := ⟨ats, c ++ [12]⟩) (by simp)
                have h5 : E.formIs ats (c ++ [12]) = true := h4
                rw [formIs_no h2 h19 a1, this] at h5
                exact absurd h5 (by decide)
              · intro h
                have hx : ¬ ∀ E ∈ worldsL u.toNat, E.so fs = true → E.formIs ats c = true := fun g => h ((ask_no fs ats c _).2 g)
                obtain ⟨E, hE, g1, g2⟩ : ∃ E, E ∈ worldsL u.toNat ∧ E.so fs = true ∧ ¬ E.formIs ats c = true := by
                  refine Classical.byContradiction fun hc => hx fun E hE g1 => Classical.byContradiction fun g2 => hc ⟨E, hE, g1, g2⟩
                have hok := worldsL_ok (by omega) hE
                refine open_of hok (u := u) (by rw [worldsL_u (by omega) hE]; omega) ?_
                rw [so_append, g1]
                unfold Wd.so
                simp only [List.all_cons, List.all_nil, Bool.and_true, Bool.true_and]
                rw [formIs_no h2 h19 hok]
                simpa using g2
            rw [Bool.eq_iff_iff, key]
            constructor
            · intro h
              have : ¬ answerN (askP fs ats c u.toNat) = 1 := fun g => h (answer_one.1 g)
              simpa using this
            · intro h g
              rw [answer_one.2 g] at h
              exact absurd h (by decide)
          have h := cOp x _ u W' hW' hR
          rw [hzf, eo] at h
          exact h
      · right
        obtain ⟨rfl, rfl⟩ := hz hnf
        exact ⟨negFault ats c, by rw [errV_no hnf]⟩
    · unfold Hid; simp
  · rw [errV_no h0] at hOf
    exact askFollows_bad lo _ lcap ao _ acap co _ ccap u _ _ D w hOne hOf
end Go.Proofs.YtjaedfjfcghgcaaDoor
