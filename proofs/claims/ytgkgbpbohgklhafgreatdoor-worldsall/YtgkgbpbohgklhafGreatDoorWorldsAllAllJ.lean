/-
  Proved: vennlaw2.WorldsAll returns true, of any formula, any number of things and any world, where worlds' functions and model.Of answer as chapters 9 and 11 say; what was in memory is as it was (the walk that the statement leans on).
-/
import Derived.Test.YtgkgbpbohgklhafGreatDoorWorldsAllWalkJ
import Derived.Test.YtgkgbpbohgklhafGreatDoorLibPB21
import Derived.Test.YtgkgbpbohgklhafGreatDoorLibWB3
namespace Go.Proofs.YtgkgbpbohgklhafGreatDoor
open Go.ChangeShapes Go.WideShapes Go.ChangeAt Go.RowKit
set_option maxRecDepth 100000

theorem two_facts : allW 2 = 64 ∧ allFault 2 = 0 ∧ likeW ⟨2, 1, 0, 0⟩ = 2 ∧ (Wd.mk 2 1 0 0).ok = true := by decide +kernel

theorem worldsAll_of (va vc : Value) (ats : List At) (c : List Int) (u wu wa wb wc : Int) (w : World) (hA : ReadsA w va ats) (hC : Reads w vc c) (hg : Laid w) (hK : KindsLaid w)
    (cAll : ∀ (u : Int) (W : World), Below w.heap.size w W → Calls Tryz.prog 10 #[.int .i64 u] W fun e w' => e = .returned (.tuple #[.int .i64 (allW u), errV (allFault u)]) ∧ Below W.heap.size W w')
    (cLi : ∀ (D : Wd) (W : World), Below w.heap.size w W → Calls Tryz.prog 11 #[.agg #[.int .i64 D.u, .int .i64 D.a, .int .i64 D.b, .int .i64 D.c]] W fun e w' => e = .returned (.tuple #[.int .i64 (likeW D), errV (if D.ok = true then 0 else 1)]) ∧ Below W.heap.size W w')
    (cOf : ∀ (va vc : Value) (ats : List At) (c : List Int) (u : Int) (W : World), Below w.heap.size w W → ReadsA W va ats → Reads W vc c → Calls Tryz.prog 12 #[.agg #[va, vc], .int .i64 u] W fun e w' => e = .returned (.tuple #[.int .i64 (worldsN ats c u), errV (worldsFault ats c u)]) ∧ Below W.heap.size W w')
    (cMo : ∀ (va vc : Value) (ats : List At) (c : List Int) (u : Int) (W : World), Below w.heap.size w W → ReadsA W va ats → Reads W vc c → Calls Tryz.prog 14 #[.agg #[va, vc], .int .i64 u] W fun e w' => e = .returned (.tuple #[.agg (arrW (modelW ats c u)), errV (modelFault ats c u)]) ∧ Below W.heap.size W w') :
    Calls Tryz.prog 4 #[.agg #[va, vc], .int .i64 u, .agg #[.int .i64 wu, .int .i64 wa, .int .i64 wb, .int .i64 wc]] w fun e w' => e = .returned (.bool true) ∧ Below w.heap.size w w' := by
  obtain ⟨t1, t2, t3, t4⟩ := two_facts
  obtain ⟨D, hD⟩ : ∃ D, D = Wd.mk wu wa wb wc := ⟨_, rfl⟩
  have eu : D.u = wu := by rw [hD]
  have hOf := fun W hW => cOf va vc ats c u W hW (hA.below hW) (hC.below hW)
  have hHo : ∀ W, Below w.heap.size w W → Calls Tryz.prog 15 #[.agg #[va, vc], .agg #[.int .i64 wu, .int .i64 wa, .int .i64 wb, .int .i64 wc]] W fun e w' => e = .returned (.tuple #[.bool (D.formIs ats c), errV (D.formFault ats c)]) ∧ Below W.heap.size W w' := fun W hW => by
    have h := fholds_any va vc ats c wu wa wb wc W (hA.below hW) (hC.below hW) (hK.below hW)
    rw [← hD] at h
    exact h
  have hMo : ∀ W, Below w.heap.size w W → Calls Tryz.prog 14 #[.agg #[va, vc], .int .i64 u] W fun x w' => (∃ D : Wd, x = .returned (.tuple #[.agg #[.int .i64 D.u, .int .i64 D.a, .int .i64 D.b, .int .i64 D.c], errV (modelFault ats c u)])) ∧ Below W.heap.size W w' := fun W hW => (cMo va vc ats c u W hW (hA.below hW) (hC.below hW)).mono fun _ _ h => ⟨⟨_, h.1⟩, h.2⟩
  have hNe : worldsFault ats c u = 0 → ∀ W, Below w.heap.size w W → Calls Tryz.prog 13 #[.agg #[va, vc]] W fun x w' => ((∃ o1 l1 q1 o2 l2 q2, x = .returned (.tuple #[.agg #[.slice o1 l1 q1, .slice o2 l2 q2], .nilIface]) ∧ worldsN ats c u + worldsN ats (c ++ [12]) u = allW u ∧ ∀ W', Below w'.heap.size w' W' → Calls Tryz.prog 12 #[.agg #[.slice o1 l1 q1, .slice o2 l2 q2], .int .i64 u] W' fun y w'' => y = .returned (.tuple #[.int .i64 (worldsN ats (c ++ [12]) u), .nilIface]) ∧ Below W'.heap.size W' w'') ∨ (∃ j, x = .returned (.tuple #[.agg #[.slice none 0 0, .slice none 0 0], .iface 61 (.int .i64 j)]))) ∧ Below W.heap.size W w' := fun h0 W hW => by
    refine (negate_any va vc ats c W (hA.below hW) (hC.below hW) (hK.below hW)).mono ?_
    rintro e w' ⟨va', vc', rfl, h1, h2, hb⟩
    refine ⟨?_, hb⟩
    by_cases hn : negFault ats c = 0
    · left
      obtain ⟨r1, r2⟩ := h1 hn
      obtain ⟨o1, q1, rfl, _⟩ := r1.slice
      obtain ⟨o2, q2, rfl, _⟩ := r2.slice
      obtain ⟨n1, n2⟩ := worlds_not h0 hn
      rw [hn]
      refine ⟨o1, _, q1, o2, _, q2, rfl, n2, fun W' hW' => ?_⟩
      have hb' := hW.trans (hb.mono hW.size)
      have h := cOf _ _ ats (c ++ [12]) u W' (hb'.trans (hW'.mono hb'.size)) (r1.below hW') (r2.below hW')
      rw [n1] at h
      exact h
    · right
      obtain ⟨rfl, rfl⟩ := h2 hn
      rw [errV_no hn]
      exact ⟨_, rfl⟩
  obtain ⟨ao, acap, rfl, _⟩ := hA.slice
  obtain ⟨co, ccap, rfl, _⟩ := hC.slice
  refine worldsAll_in ao _ acap co _ ccap u wu wa wb wc (worldsFault ats c u) (worldsN ats c u) (allW u) (worldsN ats (c ++ [12]) u) (likeW D) (modelFault ats c u) (if D.ok = true then 0 else 1) (D.formFault ats c) (D.formIs ats c) w ?_ (fun W hW => ?_) (fun W hW => ?_) hOf ?_ hMo (fun W hW => ?_) (fun W hW => ?_) hHo (fun h0 => ?_) (fun h0 hw _ hu => ?_)
  · by_cases h0 : worldsFault ats c u = 0
    · left
      have hu := (worlds_zero h0).2
      have e : allFault u = 0 := by unfold allFault; rw [if_pos hu]
      intro W hW
      have h := cAll u W hW
      rw [e] at h
      exact h
    · exact Or.inr h0
  · have h := cAll 2 W hW
    rw [t1, t2] at h
    exact h
  · have h := cLi ⟨2, 1, 0, 0⟩ W hW
    rw [t3, t4] at h
    exact h
  · by_cases h0 : worldsFault ats c u = 0
    · exact Or.inl (hNe h0)
    · exact Or.inr h0
  · by_cases hm : modelFault ats c u = 0
    · rw [hm]
      exact (same_nil 5 W).mono fun _ _ h => ⟨h.1, by rw [← h.2]; exact Below.refl _ _⟩
    · rw [errV_no hm]
      exact same_err _ 5 W (hg.below hW)
  · have h := cLi D W hW
    rw [hD] at h ⊢
    exact h
  · obtain ⟨r1, r2⟩ := worlds_range h0
    obtain ⟨m1, m2⟩ := worlds_model h0
    have hu := (worlds_zero h0).2
    have e : allW u ≤ 262144 := by unfold allW; rw [if_pos hu]; exact eight_le _ (by omega)
    exact ⟨r1, r2, e, m1, m2⟩
  · have hok : D.ok = true := by
      by_cases hok : D.ok = true
      · exact hok
      · rw [if_neg hok] at hw; exact absurd hw (by decide)
    have hDu : D.u = u := by rw [eu]; exact hu
    obtain ⟨k1, k2⟩ := like_range hok hDu (worlds_zero h0).2
    exact ⟨k1, k2, fun hb => worlds_some h0 hok hDu hb, fun hb => worlds_rest h0 hok hDu hb⟩
end Go.Proofs.YtgkgbpbohgklhafGreatDoor
