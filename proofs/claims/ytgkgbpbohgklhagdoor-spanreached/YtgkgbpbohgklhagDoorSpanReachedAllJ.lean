/-
  Proved: vennlaw2.SpanReached returns true, of any formula, any term, any number of things and any world, where span's and core's functions answer as chapters 13 and 14 say; what was in memory is as it was (the walk that the statement leans on).
-/
import Derived.Test.YtgkgbpbohgklhagDoorSpanReachedWalkJ
import Derived.Test.YtgkgbpbohgklhagDoorLibS7
import Derived.Test.YtgkgbpbohgklhagDoorLibS22
import Derived.Test.YtgkgbpbohgklhagDoorLibS19
import Derived.Test.YtgkgbpbohgklhagDoorLibS13
namespace Go.Proofs.YtgkgbpbohgklhagDoor
open Go.ChangeShapes Go.WideShapes Go.ChangeAt Go.RowKit
set_option maxRecDepth 100000

theorem span_fact : spanFault (manyA 0 2) [0] [0] 3 = 0 ∧ spanLo (manyA 0 2) [0] [0] 3 = 2 ∧ spanHi (manyA 0 2) [0] [0] 3 = 3 := by decide +kernel
theorem spanReached_of (va vc vt : Value) (ats : List At) (c t : List Int) (u wu wa wb wc : Int) (w : World) (hA : ReadsA w va ats) (hC : Reads w vc c) (hT : Reads w vt t) (hK : KindsLaid w)
    (cOf : ∀ (va vc vt : Value) (ats : List At) (c t : List Int) (u : Int) (W : World), Below w.heap.size w W → ReadsA W va ats → Reads W vc c → Reads W vt t → Calls Tryd.prog 18 #[.agg #[va, vc], vt, .int .i64 u] W fun e w' => e = .returned (.tuple #[.agg (arrP (spanLo ats c t u, spanHi ats c t u)), errV (spanFault ats c t u)]) ∧ Below W.heap.size W w')
    (cOp : ∀ (v : Value) (fs : List Fm) (u : Int) (W : World), Below w.heap.size w W → ReadsF W v fs → Calls Tryd.prog 10 #[v, .int .i64 u] W fun e w' => e = .returned (.tuple #[.bool (openB fs u), errV (formsFault fs u)]) ∧ Below W.heap.size W w') :
    Calls Tryd.prog 7 #[.agg #[va, vc], vt, .int .i64 u, .agg #[.int .i64 wu, .int .i64 wa, .int .i64 wb, .int .i64 wc]] w fun e w' => e = .returned (.bool true) ∧ Below w.heap.size w w' := by
  obtain ⟨D, hD⟩ : ∃ D, D = Wd.mk wu wa wb wc := ⟨_, rfl⟩
  have hOne : ∀ W b1 b2 b3, Below w.heap.size w W → ReadsA W (.slice (some ⟨b1, 0, none⟩) 1 1) (manyA 0 2) → Reads W (.slice (some ⟨b2, 0, none⟩) 1 1) [0] → Reads W (.slice (some ⟨b3, 0, none⟩) 1 1) [0] → Calls Tryd.prog 18 #[.agg #[.slice (some ⟨b1, 0, none⟩) 1 1, .slice (some ⟨b2, 0, none⟩) 1 1], .slice (some ⟨b3, 0, none⟩) 1 1, .int .i64 3] W fun e w' => e = .returned (.tuple #[.agg #[.int .i64 2, .int .i64 3], .nilIface]) ∧ Below W.heap.size W w' := fun W b1 b2 b3 hW h1 h2 h3 => by
    obtain ⟨f1, f2, f3⟩ := span_fact
    have h := cOf _ _ _ (manyA 0 2) [0] [0] 3 W hW h1 h2 h3
    rw [f1, f2, f3] at h
    exact h
  have hOf := fun W hW => cOf va vc vt ats c t u W hW (hA.below hW) (hC.below hW) (hT.below hW)
  have hHo : ∀ W, Below w.heap.size w W → Calls Tryd.prog 15 #[.agg #[va, vc], .agg #[.int .i64 wu, .int .i64 wa, .int .i64 wb, .int .i64 wc]] W fun e w' => e = .returned (.tuple #[.bool (D.formIs ats c), errV (D.formFault ats c)]) ∧ Below W.heap.size W w' := fun W hW => by
    have h := fholds_any va vc ats c wu wa wb wc W (hA.below hW) (hC.below hW) (hK.below hW)
    rw [← hD] at h
    exact h
  have hVa : ∀ W, Below w.heap.size w W → Calls Tryd.prog 20 #[vt, .agg #[.int .i64 wu, .int .i64 wa, .int .i64 wb, .int .i64 wc]] W fun e w' => e = .returned (.tuple #[.int .i64 (D.answer t), errV (D.fault t)]) ∧ Below W.heap.size W w' := fun W hW => by
    have h := value_any t vt wu wa wb wc W (hT.below hW)
    rw [← hD] at h
    exact h
  have eu : wu = D.u := by rw [hD]
  obtain ⟨ao, acap, rfl, _⟩ := hA.slice
  obtain ⟨co, ccap, rfl, _⟩ := hC.slice
  by_cases h0 : spanFault ats c t u = 0
  · obtain ⟨hf, ht, hu, _⟩ := span_zero.1 h0
    obtain ⟨⟨l0, lh, h6⟩, ⟨D1, d1, d2, d3, d4⟩, ⟨D2, e1, e2, e3, e4⟩⟩ := span_ends h0
    rw [h0] at hOf
    have hff : Fm.fault ⟨ats, c⟩ = 0 := hf
    refine spanReached_good ao _ acap co _ ccap vt u wu wa wb wc (spanLo ats c t u) (spanHi ats c t u) t ⟨ats, c⟩ (D.formIs ats c) (D.answer t) (errV (D.formFault ats c)) (errV (D.fault t)) l0 lh h6 w hOne hOf hHo hVa (errV_is _) (errV_is _) (fun h1 h2 h3 h4 => ?_) hT ⟨hA, hC⟩ (fun W x hW hR => ?_) (fun W x hW hR => ?_) (fun W x hW hR => ?_) (fun W x hW hR => ?_)
    · have hok := (wdForm_zero.1 (errV_nil h1)).2
      have hb := span_world h0 hok (by rw [← eu]; exact h4) h3
      have ea : D.answer t = D.val t := by unfold Wd.answer; rw [if_pos ht, if_pos hok]
      have hr := okB_lt (ok_val hok t)
      refine ⟨pcN (D.val t), hb.1, hb.2, fun W => ?_⟩
      rw [ea]
      exact (refSize_any (D.val t) hr.2.2.1 hr.2.2.2 W).mono fun _ _ h => ⟨h.1, h.2.symm⟩
    · obtain ⟨hz, ho⟩ := open_two (f := ⟨ats, c⟩) (g := ⟨[⟨4, t, [], spanLo ats c t u⟩], [0]⟩) hff (alone_fault (many_fault ht (Or.inr rfl) (by omega) (by omega))) hu
      have hop := ho.2 ⟨D1, d1, d2, d3, by rw [most_is ht (by omega) (by omega) d1]; exact decide_eq_true (by omega)⟩
      have h := cOp x _ u W hW hR
      rw [hz, hop] at h
      exact h
    · obtain ⟨hz, ho⟩ := open_two (f := ⟨ats, c⟩) (g := ⟨[⟨3, t, [], spanHi ats c t u⟩], [0]⟩) hff (alone_fault (many_fault ht (Or.inl rfl) (by omega) (by omega))) hu
      have hop := ho.2 ⟨D2, e1, e2, e3, by rw [least_is ht (by omega) (by omega) e1]; exact decide_eq_true (by omega)⟩
      have h := cOp x _ u W hW hR
      rw [hz, hop] at h
      exact h
    · obtain ⟨hz, ho⟩ := open_two (f := ⟨ats, c⟩) (g := ⟨[⟨4, t, [], spanLo ats c t u - 1⟩], [0]⟩) hff (alone_fault (many_fault ht (Or.inr rfl) (by omega) (by omega))) hu
      have hop : openB [⟨ats, c⟩, ⟨[⟨4, t, [], spanLo ats c t u - 1⟩], [0]⟩] u = false := by
        cases hx : openB [⟨ats, c⟩, ⟨[⟨4, t, [], spanLo ats c t u - 1⟩], [0]⟩] u
        · rfl
        · obtain ⟨E, g1, g2, g3, g4⟩ := ho.1 hx
          rw [most_is ht (by omega) (by omega) g1] at g4
          have := of_decide_eq_true g4
          have hb := span_world h0 g1 g2 g3
          omega
      have h := cOp x _ u W hW hR
      rw [hz, hop] at h
      exact h
    · obtain ⟨hz, ho⟩ := open_two (f := ⟨ats, c⟩) (g := ⟨[⟨3, t, [], spanHi ats c t u + 1⟩], [0]⟩) hff (alone_fault (many_fault ht (Or.inl rfl) (by omega) (by omega))) hu
      have hop : openB [⟨ats, c⟩, ⟨[⟨3, t, [], spanHi ats c t u + 1⟩], [0]⟩] u = false := by
        cases hx : openB [⟨ats, c⟩, ⟨[⟨3, t, [], spanHi ats c t u + 1⟩], [0]⟩] u
        · rfl
        · obtain ⟨E, g1, g2, g3, g4⟩ := ho.1 hx
          rw [least_is ht (by omega) (by omega) g1] at g4
          have := of_decide_eq_true g4
          have hb := span_world h0 g1 g2 g3
          omega
      have h := cOp x _ u W hW hR
      rw [hz, hop] at h
      exact h
  · rw [errV_no h0] at hOf
    exact spanReached_bad ao _ acap co _ ccap vt u wu wa wb wc (spanLo ats c t u) (spanHi ats c t u) _ w hOne hOf
end Go.Proofs.YtgkgbpbohgklhagDoor
