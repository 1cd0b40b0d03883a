/-
  Proved: venntop.TopSome returns true, of any formula and any world, where what it calls answers as the chapters say; what was in memory is as it was (the walk that the statement leans on).
-/
import Derived.Test.YtjaedfjfcghgcabDoorTopSomeWalkJ
import Derived.Test.YtjaedfjfcghgcabDoorLibS7
import Derived.Test.YtjaedfjfcghgcabDoorLibS8
namespace Go.Proofs.YtjaedfjfcghgcabDoor
open Go.ChangeShapes Go.WideShapes Go.ChangeAt Go.RowKit
set_option maxRecDepth 100000

theorem topSome_of (va vc : Value) (ats : List At) (c : List Int) (wu wa wb wc : Int) (w : World) (hA : ReadsA w va ats) (hC : Reads w vc c)
    (cAs : ∀ (v va vc : Value) (fs : List Fm) (ats : List At) (c : List Int) (u : Int) (W : World), Below w.heap.size w W → ReadsF W v fs → ReadsA W va ats → Reads W vc c → Calls Tryd.prog 11 #[v, .agg #[va, vc], .int .i64 u] W fun e w' => e = .returned (.tuple #[.int .i64 (askN fs ats c u), errV (askFault fs ats c u)]) ∧ Below W.heap.size W w')
    (Nf : Wd → Nat → Int) (hNf : ∀ D : Wd, D.ok = true → Nf D = D.fc D.u.toNat)
    (cFo : ∀ (D : Wd) (W : World), Below w.heap.size w W → Calls Tryd.prog 5 #[.agg (arrW D)] W fun e w' => e = .returned (.tuple #[.agg (arr8 (Nf D)), errV (if D.ok = true then 0 else 1)]) ∧ Below W.heap.size W w')
    (cFw : ∀ (N : Nat → Int) (W : World), Below w.heap.size w W → countsFault N = 0 → Calls Tryd.prog 6 #[.agg (arr8 N)] W fun e w' => e = .returned (.tuple #[.agg (arrW (madeN N 8)), .nilIface]) ∧ Below W.heap.size W w')
    (cIs : ∀ (va vc : Value) (ats : List At) (c : List Int) (name : Int) (D : Wd) (W : World), Below w.heap.size w W → ReadsA W va ats → Reads W vc c → Calls Tryd.prog 7 #[.agg #[va, vc], .int .i64 name, .agg (arrW D)] W fun e w' => e = .returned (.tuple #[.bool (someB ats c name D), errV (someFault ats c name D)]) ∧ Below W.heap.size W w')
    (cFi : ∀ (va vc : Value) (ats : List At) (c : List Int) (name : Int) (D : Wd) (W : World), Below w.heap.size w W → ReadsA W va ats → Reads W vc c → Calls Tryd.prog 9 #[.agg #[va, vc], .int .i64 name, .agg (arrW D)] W fun e w' => e = .returned (.tuple #[.int .i64 (firstS ats c name D), errV (lowFault ats c name D)]) ∧ Below W.heap.size W w')
    (cHo : ∀ (va vc : Value) (ats : List At) (c : List Int) (D : Wd) (W : World), Below w.heap.size w W → ReadsA W va ats → Reads W vc c → Calls Tryd.prog 8 #[.agg #[va, vc], .agg (arrW D)] W fun e w' => e = .returned (.tuple #[.bool (D.formIs ats c), errV (D.formFault ats c)]) ∧ Below W.heap.size W w')
    (cWo : ∀ (va vc : Value) (ats : List At) (c : List Int) (u : Int) (W : World), Below w.heap.size w W → ReadsA W va ats → Reads W vc c → Calls Tryd.prog 10 #[.agg #[va, vc], .int .i64 u] W fun e w' => e = .returned (.tuple #[.int .i64 (worldsN ats c u), errV (worldsFault ats c u)]) ∧ Below W.heap.size W w') :
    Calls Tryd.prog 3 #[.agg #[va, vc], .agg #[.int .i64 wu, .int .i64 wa, .int .i64 wb, .int .i64 wc]] w fun e w' => e = .returned (.bool true) ∧ Below w.heap.size w w' := by
  obtain ⟨D, hD⟩ : ∃ D, D = Wd.mk wu wa wb wc := ⟨_, rfl⟩
  obtain ⟨rfl, rfl, rfl, rfl⟩ : wu = D.u ∧ wa = D.a ∧ wb = D.b ∧ wc = D.c := by rw [hD]; exact ⟨rfl, rfl, rfl, rfl⟩
  clear hD
  have hOn : ∀ W, Below w.heap.size w W → Calls Tryd.prog 4 #[] W fun e w' => e = .returned (.bool true) ∧ Below W.heap.size W w' := fun W hW => topOne_any W fun v va vc fs ats c u W' hW' => cAs v va vc fs ats c u W' (hW.trans (hW'.mono hW.size))
  have hIs := fun D W hW => cIs va vc ats c 2 D W hW (hA.below hW) (hC.below hW)
  have hFi := fun W hW => cFi va vc ats c 2 D W hW (hA.below hW) (hC.below hW)
  have hHo := fun D W hW => cHo va vc ats c D W hW (hA.below hW) (hC.below hW)
  have hWo := fun W hW => cWo va vc ats c D.u W hW (hA.below hW) (hC.below hW)
  obtain ⟨ao, acap, rfl, _⟩ := hA.slice
  obtain ⟨co, ccap, rfl, _⟩ := hC.slice
  by_cases hok : D.ok = true
  · have hcf := counts_fc hok
    have hal := alike_made hok
    have hxu : (madeN (D.fc D.u.toNat) 8).u = D.u := by rw [made_u hcf, sum_fc]; have := ok_u hok; omega
    obtain ⟨X, hX⟩ : ∃ X, X = madeN (D.fc D.u.toNat) 8 := ⟨_, rfl⟩
    rw [← hX] at hal hxu
    have hfx : someFault ats c 2 X = someFault ats c 2 D := by
      unfold someFault
      rw [hal.ok', hok]
    have hqx : someB ats c 2 X = someB ats c 2 D := by
      by_cases hf : formFault ats c = 0
      · exact some_alike hal hxu hf
      · have n1 : ∀ E : Wd, ¬ someFault ats c 2 E = 0 := fun E h => hf (some_zero.1 h).1
        unfold someB someLow
        rw [if_neg (n1 X), if_neg (n1 D)]
    -- with the first set it holds
    have hgood : someFault ats c 2 D = 0 → (someB ats c 2 D = false → D.formIs ats c = false) ∧ (someB ats c 2 D = true → lowFault ats c 2 D = 0 ∧ (Wd.mk D.u D.a D.b (firstS ats c 2 D)).ok = true ∧ (Wd.mk D.u D.a D.b (firstS ats c 2 D)).formIs ats c = true) := fun h0 => by
      obtain ⟨hf, _, _⟩ := some_zero.1 h0
      obtain ⟨u0, u6⟩ := ok_u hok
      have el : someLow ats c 2 D = lowD (withB ats c 2 D) (setsN D.u) (setsN D.u) := by unfold someLow; rw [if_pos h0]; rfl
      rcases low_spec (withB ats c 2 D) (setsN D.u) with ⟨a, b⟩ | ⟨k, a, b, d, _⟩
      · rw [a] at el
        refine ⟨fun _ => ?_, fun h => ?_⟩
        · obtain ⟨_, _, hc⟩ := Wd.ok_iff.1 hok
          obtain ⟨s, hs⟩ := Int.eq_ofNat_of_zero_le (okB_iff.1 hc).2.2.1
          rw [hs] at hc
          have := b s ((set_ok u0 u6).1 hc)
          unfold withB at this
          rw [← hs] at this
          exact this
        · unfold someB at h
          rw [el] at h
          exact absurd (of_decide_eq_true h) (by decide)
      · rw [a] at el
        have hS : firstS ats c 2 D = (k : Int) := by unfold firstS; rw [el, if_neg (by omega)]
        refine ⟨fun h => ?_, fun _ => ⟨?_, ?_, ?_⟩⟩
        · unfold someB at h
          rw [el] at h
          exact absurd (of_decide_eq_false h) (by omega)
        · unfold lowFault; rw [if_pos h0, el, if_neg (by omega)]
        · rw [hS]; exact wput_ok hok 2 ((set_ok u0 u6).2 b)
        · rw [hS]; exact d
    by_cases h0 : someFault ats c 2 D = 0
    · obtain ⟨hf, _, _⟩ := some_zero.1 h0
      have hw0 : worldsFault ats c D.u = 0 := by unfold worldsFault allFault; rw [if_pos hf, if_pos (ok_u hok)]
      obtain ⟨g1, g2⟩ := hgood h0
      obtain ⟨K, hK⟩ : ∃ K : Int, 0 < K ∧ (someB ats c 2 D = true → worldsN ats c D.u = K) := by
        cases hq : someB ats c 2 D
        · exact ⟨1, by decide, fun h => absurd h (by decide)⟩
        · obtain ⟨_, o, i⟩ := g2 hq
          have h1 := worlds_some hw0 o rfl i
          have h2 := (like_range o rfl (show 0 ≤ D.u ∧ D.u ≤ 6 from ok_u hok)).1
          exact ⟨worldsN ats c D.u, by omega, fun _ => rfl⟩
      refine topSome_in ao _ acap co _ ccap D X (D.fc D.u.toNat) (someFault ats c 2 D) (firstS ats c 2 D) K (someB ats c 2 D) w hK.1 hOn (fun W hW => ?_) (fun W hW => ?_) (fun W hW => hIs D W hW) (fun W hW => ?_) (fun _ hq W hW => ?_) (fun _ hq W hW => ?_) (fun _ hq W hW => ?_) (fun _ hq W hW => ?_)
      · have h := cFo D W hW
        rw [if_pos hok, hNf D hok] at h
        exact h
      · rw [hX]; exact cFw _ W hW hcf
      · have h := hIs X W hW
        rw [hfx, hqx] at h
        exact h
      · have h := hHo D W hW
        rw [g1 hq, wdForm_zero.2 ⟨hf, hok⟩] at h
        exact h
      · have h := hFi W hW
        rw [(g2 hq).1] at h
        exact h
      · have h := hHo (Wd.mk D.u D.a D.b (firstS ats c 2 D)) W hW
        rw [(g2 hq).2.2, wdForm_zero.2 ⟨hf, (g2 hq).2.1⟩] at h
        exact h
      · have h := hWo W hW
        rw [hw0, hK.2 hq] at h
        exact h
    · refine topSome_in ao _ acap co _ ccap D X (D.fc D.u.toNat) (someFault ats c 2 D) 0 1 (someB ats c 2 D) w (by decide) hOn (fun W hW => ?_) (fun W hW => ?_) (fun W hW => hIs D W hW) (fun W hW => ?_) (fun h => absurd h h0) (fun h => absurd h h0) (fun h => absurd h h0) (fun h => absurd h h0)
      · have h := cFo D W hW
        rw [if_pos hok, hNf D hok] at h
        exact h
      · rw [hX]; exact cFw _ W hW hcf
      · have h := hIs X W hW
        rw [hfx, hqx] at h
        exact h
  · refine topSome_err ao _ acap co _ ccap D (Nf D) 1 w hOn fun W hW => ?_
    have h := cFo D W hW
    rw [if_neg hok] at h
    exact h
end Go.Proofs.YtjaedfjfcghgcabDoor
