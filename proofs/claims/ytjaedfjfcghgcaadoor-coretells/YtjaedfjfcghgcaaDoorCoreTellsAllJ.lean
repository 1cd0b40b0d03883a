/-
  Proved: vennlaw2.CoreTells returns true, of any formulas and any number of things, where core's functions answer as chapter 13 says; what was in memory is as it was (the walk that the statement leans on).
-/
import Derived.Test.YtjaedfjfcghgcaaDoorCoreTellsWalkJ
import Derived.Test.YtjaedfjfcghgcaaDoorLibA15
namespace Go.Proofs.YtjaedfjfcghgcaaDoor
open Go.ChangeShapes Go.WideShapes Go.ChangeAt Go.RowKit
set_option maxRecDepth 100000

theorem coreTells_of (v : Value) (fs : List Fm) (u : Int) (w : World) (hF : ReadsF w v fs) (hg : Laid w)
    (cOp : ∀ (v : Value) (fs : List Fm) (u : Int) (W : World), Below w.heap.size w W → ReadsF W v fs → Calls Tryd.prog 11 #[v, .int .i64 u] W fun e w' => e = .returned (.tuple #[.bool (openB fs u), errV (formsFault fs u)]) ∧ Below W.heap.size W w')
    (cCo : ∀ (v : Value) (fs : List Fm) (u : Int) (W : World), Below w.heap.size w W → ReadsF W v fs → Calls Tryd.prog 14 #[v, .int .i64 u] W fun e w' => (∃ x, e = .returned (.tuple #[x, errV (coreFault fs u)]) ∧ Reads w' x (coreL fs u)) ∧ Below W.heap.size W w') :
    Calls Tryd.prog 3 #[v, .int .i64 u] w fun e w' => e = .returned (.bool true) ∧ Below w.heap.size w w' := by
  have hFo : ∀ W, Below w.heap.size w W → Calls Tryd.prog 9 #[v, .int .i64 u] W fun e w' => e = .returned (.int .i64 (formsFault fs u)) ∧ Below W.heap.size W w' := fun W hW => refForms_any v fs u W (hF.below hW)
  have hOp : formsFault fs u = 0 → ∀ W, Below w.heap.size w W → Calls Tryd.prog 10 #[v, .int .i64 u] W fun e w' => e = .returned (.bool (openB fs u)) ∧ Below W.heap.size W w' := fun h W hW => by
    obtain ⟨_, h2, h3⟩ := forms_zero.1 h
    obtain ⟨n, rfl⟩ := Int.eq_ofNat_of_zero_le h3.1
    have g := refOpen_any v fs h2 n (by omega) W (hF.below hW)
    have e : openB fs n = openN fs n := by unfold openB; rw [if_pos h, Int.toNat_natCast]
    rw [e]
    exact g
  have hCr : coreFault fs u = 0 → ∀ W, Below w.heap.size w W → Calls Tryd.prog 13 #[v, .int .i64 u] W fun e w' => (∃ x, e = .returned x ∧ Reads w' x (coreL fs u)) ∧ Below W.heap.size W w' := fun h W hW => by
    have h0 : formsFault fs u = 0 := by
      by_cases h0 : formsFault fs u = 0
      · exact h0
      · unfold coreFault at h; rw [if_neg h0] at h; exact absurd h h0
    obtain ⟨h1, h2, h3⟩ := forms_zero.1 h0
    obtain ⟨n, rfl⟩ := Int.eq_ofNat_of_zero_le h3.1
    have g := refCore_any v fs h2 h1.1 h1.2 n (by omega) W (hF.below hW)
    have e : coreL fs n = coreTo fs n fs.length := by unfold coreL; rw [if_pos h, Int.toNat_natCast]
    rw [e]
    exact g
  have hPo := fun W hW => cOp v fs u W hW (hF.below hW)
  have hPc := fun W hW => cCo v fs u W hW (hF.below hW)
  obtain ⟨lo, lcap, rfl, _⟩ := hF.slice
  refine coreTells_in lo _ lcap u (formsFault fs u) (coreFault fs u) (openB fs u) (coreL fs u) w ?_ (fun h => ?_) (fun h => ?_) hFo hOp hCr hPo (fun W hW => ?_) (fun n W hW => merr_any n W (hg.below hW))
  · unfold Hid coreFault; rfl
  · unfold openB; rw [if_neg h]
  · unfold coreL; rw [if_neg h]
  · refine (hPc W hW).mono ?_
    rintro e w' ⟨⟨x, rfl, hr⟩, hb⟩
    obtain ⟨vo, vc, rfl⟩ : ∃ vo vc, x = .slice vo (coreL fs u).length vc := by
      rcases hr with ⟨ao, cap, rfl, h0⟩ | ⟨b, off, cap, rfl, _⟩
      · exact ⟨ao, cap, by rw [h0]; rfl⟩
      · exact ⟨_, cap, rfl⟩
    exact ⟨⟨vo, _, vc, rfl, fun W' v' hW' hr' => ints_same _ _ _ W' (hr.below hW') hr'⟩, hb⟩
end Go.Proofs.YtjaedfjfcghgcaaDoor
