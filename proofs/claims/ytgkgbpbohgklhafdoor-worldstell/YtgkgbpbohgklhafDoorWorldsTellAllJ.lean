/-
  Proved: vennlaw2.WorldsTell returns true, of any formula, any number of things and any world, where worlds' functions answer as chapter 11 says; what was in memory is as it was (the walk that the statement leans on).
-/
import Derived.Test.YtgkgbpbohgklhafDoorWorldsTellWalkJ
import Derived.Test.YtgkgbpbohgklhafDoorLibPC15
import Derived.Test.YtgkgbpbohgklhafDoorLibPD1
import Derived.Test.YtgkgbpbohgklhafDoorLibPD2
import Derived.Test.YtgkgbpbohgklhafDoorLibPD3
import Derived.Test.YtgkgbpbohgklhafDoorLibPD5
namespace Go.Proofs.YtgkgbpbohgklhafDoor
open Go.ChangeShapes Go.WideShapes Go.ChangeAt Go.RowKit
set_option maxRecDepth 100000

theorem worlds_nums (ats : List At) (c : List Int) (u : Int) : WorldsN u (allFault u) (allW u) (formFault ats c) (worldsFault ats c u) (worldsN ats c u) (fun N => (madeN N 8).formIs ats c) where
  out h := ⟨by unfold allFault; rw [if_neg h], by unfold allW; rw [if_neg h]⟩
  well h := ⟨by unfold allFault; rw [if_pos h], by unfold allW; rw [if_pos h]⟩
  form := rfl
  bad h := by unfold worldsN; rw [if_neg h]
  good h := ⟨(worlds_zero h).2, by unfold worldsN; rw [if_pos h]⟩

theorem worldsTell_of (va vc : Value) (ats : List At) (c : List Int) (u wu wa wb wc : Int) (w : World) (hA : ReadsA w va ats) (hC : Reads w vc c) (hg : Laid w)
    (cAll : ∀ (u : Int) (W : World), Below w.heap.size w W → Calls Tryd.prog 6 #[.int .i64 u] W fun e w' => e = .returned (.tuple #[.int .i64 (allW u), errV (allFault u)]) ∧ Below W.heap.size W w')
    (cLi : ∀ (D : Wd) (W : World), Below w.heap.size w W → Calls Tryd.prog 11 #[.agg #[.int .i64 D.u, .int .i64 D.a, .int .i64 D.b, .int .i64 D.c]] W fun e w' => e = .returned (.tuple #[.int .i64 (likeW D), errV (if D.ok = true then 0 else 1)]) ∧ Below W.heap.size W w')
    (cOf : ∀ (va vc : Value) (ats : List At) (c : List Int) (u : Int) (W : World), Below w.heap.size w W → ReadsA W va ats → Reads W vc c → Calls Tryd.prog 16 #[.agg #[va, vc], .int .i64 u] W fun e w' => e = .returned (.tuple #[.int .i64 (worldsN ats c u), errV (worldsFault ats c u)]) ∧ Below W.heap.size W w') :
    Calls Tryd.prog 3 #[.agg #[va, vc], .int .i64 u, .agg #[.int .i64 wu, .int .i64 wa, .int .i64 wb, .int .i64 wc]] w fun e w' => e = .returned (.bool true) ∧ Below w.heap.size w w' := by
  obtain ⟨D, hD⟩ : ∃ D, D = Wd.mk wu wa wb wc := ⟨_, rfl⟩
  have hOf := fun W hW => cOf va vc ats c u W hW (hA.below hW) (hC.below hW)
  have hFm : ∀ W, Below w.heap.size w W → Calls Tryd.prog 12 #[.agg #[va, vc]] W fun e w' => e = .returned (.int .i64 (formFault ats c)) ∧ Below W.heap.size W w' := fun W hW => refForm_any va vc ats c W (hA.below hW) (hC.below hW)
  have hTr : formFault ats c = 0 → ∀ (D : Wd), D.ok = true → ∀ W, Below w.heap.size w W → Calls Tryd.prog 14 #[.agg #[va, vc], .agg #[.int .i64 D.u, .int .i64 D.a, .int .i64 D.b, .int .i64 D.c]] W fun e w' => e = .returned (.bool (D.formIs ats c)) ∧ Below W.heap.size W w' := fun hf D hok W hW => by
    have h := refTrue_any va vc ats c D.u D.a D.b D.c hf hok W (hA.below hW) (hC.below hW)
    have e : D.formIs ats c = valF (D.heldL ats) c := by unfold Wd.formIs; rw [if_pos (wdForm_zero.2 ⟨hf, hok⟩)]
    rw [e]
    exact h
  obtain ⟨ao, acap, rfl, _⟩ := hA.slice
  obtain ⟨co, ccap, rfl, _⟩ := hC.slice
  refine worldsTell_in ao _ acap co _ ccap u wu wa wb wc (allFault u) (allW u) (formFault ats c) (worldsFault ats c u) (worldsN ats c u) (if D.ok = true then 0 else 1) (likeW D) (fun N => (madeN N 8).formIs ats c) (D.fc D.u.toNat) w (worlds_nums ats c u) (fun h => ?_) (fun W hW => cAll u W hW) (fun W hW => ?_) hOf (fun n W hW => merr_any n W (hg.below hW)) (fun W _ => ?_) (fun h W _ => ?_) (fun h W => ?_) hFm (fun h W => ?_) (fun h N hN => ?_)
  · unfold likeW
    by_cases hok : D.ok = true
    · rw [if_pos hok] at h; exact absurd rfl h
    · rw [if_neg hok]
  · have h := cLi D W hW
    rw [hD] at h ⊢
    exact h
  · rw [hD]; exact refWorld_any wu wa wb wc W
  · have hok : D.ok = true := by
      by_cases hok : D.ok = true
      · exact hok
      · rw [if_neg hok] at h; exact absurd h (by decide)
    have h0 : 0 ≤ wu := by rw [hD] at hok; unfold Wd.ok okB at hok; simp only [Bool.and_eq_true, decide_eq_true_eq] at hok; omega
    obtain ⟨n, rfl⟩ := Int.eq_ofNat_of_zero_le h0
    rw [hD] at hok ⊢
    exact refFields_right n wa wb wc W hok
  · have hok : D.ok = true := by
      by_cases hok : D.ok = true
      · exact hok
      · rw [if_neg hok] at h; exact absurd h (by decide)
    have e : likeW D = likeN (D.fc D.u.toNat) := by unfold likeW; rw [if_pos hok]
    rw [e]
    exact ways_right _ W (counts_fc hok)
  · obtain ⟨_, hu⟩ := worlds_zero h
    obtain ⟨n, rfl⟩ := Int.eq_ofNat_of_zero_le hu.1
    rw [Int.toNat_natCast]
    refine (refAll_any n (by omega) W).mono ?_
    rintro e w' ⟨v, rfl, hr, _, hb⟩
    rcases hr with ⟨ao', cap, rfl, h0⟩ | ⟨b, off, cap, rfl, h2, h3, h4, h5⟩
    · exact absurd h0 (allF_ne 7 n _)
    · exact ⟨⟨b, off, cap, rfl, h2, h5⟩, hb⟩
  · obtain ⟨hf, hu⟩ := worlds_zero h
    have hc := everyC_right (by omega : u.toNat ≤ 6) hN
    exact ⟨madeN N 8, fun W => refMade_right N W hc, hTr hf _ (made_ok hc), fun W => ways_right N W hc⟩
end Go.Proofs.YtgkgbpbohgklhafDoor
