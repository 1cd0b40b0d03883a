/-
  Proved: vennlaw2.AskTells returns true, of any formulas, any other one and any number of things, where ask's functions answer as chapter 18 says; what was in memory is as it was (the walk that the statement leans on).
-/
import Derived.Test.YtjaedfjfcghgcaaDoorAskTellsWalkJ
import Derived.Test.YtjaedfjfcghgcaaDoorLibA23
namespace Go.Proofs.YtjaedfjfcghgcaaDoor
open Go.ChangeShapes Go.WideShapes Go.ChangeAt Go.RowKit
set_option maxRecDepth 100000

theorem sumP_range {f : Nat → Int × Int} (h : ∀ k, (0 ≤ (f k).1 ∧ 0 ≤ (f k).2) ∧ (f k).1 + (f k).2 ≤ 1716) : ∀ k, (0 ≤ (sumP f k).1 ∧ 0 ≤ (sumP f k).2) ∧ (sumP f k).1 + (sumP f k).2 ≤ 1716 * k := by
  intro k
  induction k with
  | zero => exact ⟨⟨Int.le_refl _, Int.le_refl _⟩, Int.le_refl _⟩
  | succ k ih =>
    have hk := h k
    show (0 ≤ (sumP f k).1 + (f k).1 ∧ 0 ≤ (sumP f k).2 + (f k).2) ∧ (sumP f k).1 + (f k).1 + ((sumP f k).2 + (f k).2) ≤ _
    omega
/-- the kinds of worlds of at most six things, and none where there are more. -/
def askQ (fs : List Fm) (ats : List At) (c : List Int) (k : Nat) : Int × Int := if k ≤ 6 then askP fs ats c k else (0, 0)
theorem askQ_range (fs : List Fm) (ats : List At) (c : List Int) (k : Nat) : (0 ≤ (askQ fs ats c k).1 ∧ 0 ≤ (askQ fs ats c k).2) ∧ (askQ fs ats c k).1 + (askQ fs ats c k).2 ≤ 1716 := by
  unfold askQ
  by_cases hk : k ≤ 6
  · rw [if_pos hk]
    have h := ask_range fs ats c (worldsL k)
    have := length_everyC hk
    rw [← worldsL_length] at this
    exact ⟨h.1, by have := h.2; unfold askP; omega⟩
  · rw [if_neg hk]; decide
theorem sumQ (fs : List Fm) (ats : List At) (c : List Int) : ∀ k, k ≤ 7 → sumP (askQ fs ats c) k = sumP (askP fs ats c) k := by
  intro k
  induction k with
  | zero => intro _; rfl
  | succ k ih =>
    intro hk
    show ((sumP (askQ fs ats c) k).1 + (askQ fs ats c k).1, (sumP (askQ fs ats c) k).2 + (askQ fs ats c k).2) = ((sumP (askP fs ats c) k).1 + (askP fs ats c k).1, (sumP (askP fs ats c) k).2 + (askP fs ats c k).2)
    rw [ih (by omega)]
    unfold askQ
    rw [if_pos (by omega)]

theorem askTells_of (v va vc : Value) (fs : List Fm) (ats : List At) (c : List Int) (u : Int) (w : World) (hF : ReadsF w v fs) (hA : ReadsA w va ats) (hC : Reads w vc c) (hg : Laid w)
    (cOf : ∀ (v va vc : Value) (fs : List Fm) (ats : List At) (c : List Int) (u : Int) (W : World), Below w.heap.size w W → ReadsF W v fs → ReadsA W va ats → Reads W vc c → Calls Tryd.prog 21 #[v, .agg #[va, vc], .int .i64 u] W fun e w' => e = .returned (.tuple #[.int .i64 (askN fs ats c u), errV (askFault fs ats c u)]) ∧ Below W.heap.size W w')
    (cAl : ∀ (v va vc : Value) (fs : List Fm) (ats : List At) (c : List Int) (W : World), Below w.heap.size w W → ReadsF W v fs → ReadsA W va ats → Reads W vc c → Calls Tryd.prog 22 #[v, .agg #[va, vc]] W fun e w' => e = .returned (.tuple #[.int .i64 (alwaysN fs ats c), errV (alwaysFault fs ats c)]) ∧ Below W.heap.size W w') :
    Calls Tryd.prog 6 #[v, .agg #[va, vc], .int .i64 u] w fun e w' => e = .returned (.bool true) ∧ Below w.heap.size w w' := by
  have hFo := fun (u : Int) W (hW : Below w.heap.size w W) => refForms_any v fs u W (hF.below hW)
  have hFm := fun W (hW : Below w.heap.size w W) => refForm_any va vc ats c W (hA.below hW) (hC.below hW)
  have hOf := fun W hW => cOf v va vc fs ats c u W hW (hF.below hW) (hA.below hW) (hC.below hW)
  have hAl := fun W hW => cAl v va vc fs ats c W hW (hF.below hW) (hA.below hW) (hC.below hW)
  have hAs := fun (n : Nat) (hn : n ≤ 6) (h1 : ∀ f ∈ fs, f.fault = 0) (h2 : formFault ats c = 0) W (hW : Below w.heap.size w W) => refAsk_any v va vc fs ats c n hn h1 h2 W (hF.below hW) (hA.below hW) (hC.below hW)
  obtain ⟨lo, lcap, rfl, _⟩ := hF.slice
  obtain ⟨ao, acap, rfl, _⟩ := hA.slice
  obtain ⟨co, ccap, rfl, _⟩ := hC.slice
  have e7 : alwaysP fs ats c = sumP (askQ fs ats c) 7 := by unfold alwaysP; rw [sumQ fs ats c 7 (by omega)]
  have two : ∀ e : Int, (if e = 0 then formFault ats c else e) = 0 → e = 0 ∧ formFault ats c = 0 := fun e h => by
    by_cases he : e = 0
    · rw [if_pos he] at h; exact ⟨he, h⟩
    · rw [if_neg he] at h; exact absurd h he
  by_cases hu : 0 ≤ u ∧ u ≤ 6
  · refine askTells_in lo _ lcap ao _ acap co _ ccap u (formsFault fs u) (formFault ats c) (if formsFault fs u = 0 then formFault ats c else formsFault fs u) (askFault fs ats c u) (askN fs ats c u) (askP fs ats c u.toNat).1 (askP fs ats c u.toNat).2 (answerN (askP fs ats c u.toNat)) (formsFault fs 0) (if formsFault fs 0 = 0 then formFault ats c else formsFault fs 0) (alwaysFault fs ats c) (alwaysN fs ats c) (answerN (alwaysP fs ats c)) (askQ fs ats c) (sumP (askQ fs ats c)) w rfl ?_ rfl rfl ?_ rfl rfl (fun k => rfl) (askQ_range fs ats c) (fun k hk => ?_) ?_ (hFo u) (hFo 0) hFm (fun h W hW => ?_) (fun h k hk W hW => ?_) (refAnswer_any _ _) (fun W => ?_) hOf hAl (fun n W hW => merr_any n W (hg.below hW))
    · unfold Hid askFault
      by_cases h1 : formsFault fs u = 0
      · rw [if_pos h1, if_pos h1]
      · rw [if_neg h1, if_neg h1, if_neg h1]
    · unfold Hid alwaysFault
      rw [← e7]
      by_cases h1 : formsFault fs 0 = 0
      · rw [if_pos h1, if_pos h1]
      · rw [if_neg h1, if_neg h1, if_neg h1]
    · have := sumP_range (askQ_range fs ats c) k
      omega
    · have := askQ_range fs ats c u.toNat
      unfold askQ at this
      rw [if_pos (by omega)] at this
      exact this
    · obtain ⟨h1, h2⟩ := two _ h
      have := hAs u.toNat (by omega) (forms_zero.1 h1).2.1 h2 W hW
      rw [show ((u.toNat : Nat) : Int) = u by omega] at this
      exact this
    · obtain ⟨h1, h2⟩ := two _ h
      have := hAs k hk (forms_zero.1 h1).2.1 h2 W hW
      unfold askQ
      rw [if_pos hk]
      exact this
    · rw [e7]; exact refAnswer_any _ _ W
  · have hbad : ¬ formsFault fs u = 0 := fun h => hu (forms_zero.1 h).2.2
    have ef : askFault fs ats c u = formsFault fs u := by unfold askFault; rw [if_neg hbad]
    have en : askN fs ats c u = 0 := by unfold askN; rw [ef, if_neg hbad]
    rw [ef, en] at hOf
    refine askTells_in lo _ lcap ao _ acap co _ ccap u (formsFault fs u) (formFault ats c) (formsFault fs u) (formsFault fs u) 0 0 0 1 (formsFault fs 0) (if formsFault fs 0 = 0 then formFault ats c else formsFault fs 0) (alwaysFault fs ats c) (alwaysN fs ats c) (answerN (alwaysP fs ats c)) (askQ fs ats c) (sumP (askQ fs ats c)) w ?_ ?_ ?_ rfl ?_ rfl rfl (fun k => rfl) (askQ_range fs ats c) (fun k hk => ?_) ⟨⟨by decide, by decide⟩, by decide⟩ (hFo u) (hFo 0) hFm (fun h W hW => absurd h hbad) (fun h k hk W hW => ?_) (fun W => refAnswer_any 0 0 W) (fun W => ?_) hOf hAl (fun n W hW => merr_any n W (hg.below hW))
    · unfold Hid; rw [if_neg hbad]
    · unfold Hid; rw [if_neg hbad]
    · unfold Hid; rw [if_neg hbad]
    · unfold Hid alwaysFault
      rw [← e7]
      by_cases h1 : formsFault fs 0 = 0
      · rw [if_pos h1, if_pos h1]
      · rw [if_neg h1, if_neg h1, if_neg h1]
    · have := sumP_range (askQ_range fs ats c) k
      omega
    · obtain ⟨h1, h2⟩ := two _ h
      have := hAs k hk (forms_zero.1 h1).2.1 h2 W hW
      unfold askQ
      rw [if_pos hk]
      exact this
    · rw [e7]; exact refAnswer_any _ _ W
end Go.Proofs.YtjaedfjfcghgcaaDoor
