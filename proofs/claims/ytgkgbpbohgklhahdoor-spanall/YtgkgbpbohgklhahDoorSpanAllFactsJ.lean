/-
  Plain facts on between how many things all, nothing, and a name have in the worlds of so many things (chapter 14). No program is read here.
-/
import Derived.Test.YtgkgbpbohgklhahDoorLibSA5
namespace Go.Proofs.YtgkgbpbohgklhahDoor
open Go.RowKit

theorem all_wrong (t : List Int) (u : Int) (ht : faultN t = 0) (hu : u < 0 ∨ 6 < u) : spanFault (manyA 4 0) [0] t u = 1 := by
  unfold spanFault
  rw [if_pos (by decide), if_pos ht, if_neg (by omega)]
theorem all_is {D : Wd} (hok : D.ok = true) : D.formIs (manyA 4 0) [0] = true := by
  unfold manyA
  rw [least_is (by decide) (by decide) (by decide) hok]
  exact decide_eq_true (pcN_le _).1
theorem none_ok (u : Nat) (hu : u ≤ 6) : (Wd.mk (u : Int) 0 0 0).ok = true := by
  have h : okB (u : Int) 0 = true := ok_zero (by omega) (by omega)
  exact Wd.ok_iff.2 ⟨h, h, h⟩
theorem full_ok (u : Nat) (hu : u ≤ 6) : (Wd.mk (u : Int) (allN u) (allN u) (allN u)).ok = true := by
  have h : okB (u : Int) (allN u) = true := okB_iff.2 ⟨by omega, by omega, (allN_le (by omega) (by omega)).1, Int.le_refl _⟩
  exact Wd.ok_iff.2 ⟨h, h, h⟩
theorem size_all : ∀ u : Nat, u < 7 → pcN (allN (u : Int)) = u := by decide
theorem size_four : ∀ u : Nat, u < 7 → pcN (doN 8 (u : Int) 0 0) = u := by decide
theorem size_le {u x : Int} (h : okB u x = true) : pcN x ≤ u := uptoSets (P := fun u x _ => pcN x ≤ u) (by decide +kernel) u x x h h
theorem all_zero {t : List Int} (ht : faultN t = 0) (u : Nat) (hu : u ≤ 6) : spanFault (manyA 4 0) [0] t (u : Int) = 0 := by
  refine span_zero.2 ⟨by decide, ht, ⟨by omega, by omega⟩, ?_⟩
  rw [Int.toNat_natCast]
  obtain ⟨D, hD, hl⟩ := worldsL_like (none_ok u hu) (u := u) rfl
  rcases span_hit (ats := manyA 4 0) (c := [0]) (t := t) (worldsL u) with ⟨_, h⟩ | ⟨_, ⟨E, _, _, e⟩⟩
  · have := h D hD
    rw [all_is (worldsL_ok hu hD)] at this
    exact absurd this (by decide)
  · have := (pcN_le (E.val t)).1
    show ¬ (spanOver (manyA 4 0) [0] t (worldsL u)).2 < 0
    omega
theorem all_four (u : Nat) (hu : u ≤ 6) : spanLo (manyA 4 0) [0] [4] (u : Int) = u ∧ spanHi (manyA 4 0) [0] [4] (u : Int) = u := by
  obtain ⟨_, ⟨D, d1, d2, _, d4⟩, ⟨E, e1, e2, _, e4⟩⟩ := span_ends (all_zero (t := [4]) (by decide) u hu)
  have h : ∀ F : Wd, F.u = u → pcN (F.val [4]) = u := fun F hF => by
    have : F.val [4] = doN 8 F.u 0 0 := rfl
    rw [this, hF]; exact size_four u (by omega)
  exact ⟨by rw [← d4, h D d2], by rw [← e4, h E e2]⟩
theorem all_three (u : Nat) (hu : u ≤ 6) : spanLo (manyA 4 0) [0] [3] (u : Int) = 0 ∧ spanHi (manyA 4 0) [0] [3] (u : Int) = 0 := by
  obtain ⟨_, ⟨D, d1, d2, _, d4⟩, ⟨E, e1, e2, _, e4⟩⟩ := span_ends (all_zero (t := [3]) (by decide) u hu)
  have h : ∀ F : Wd, pcN (F.val [3]) = 0 := fun F => by
    have : F.val [3] = 0 := rfl
    rw [this]; decide
  exact ⟨by rw [← d4, h D], by rw [← e4, h E]⟩
theorem all_name (k : Nat) (hk : k < 3) (ht : faultN [(k : Int)] = 0) (u : Nat) (hu : u ≤ 6) : spanLo (manyA 4 0) [0] [(k : Int)] (u : Int) = 0 ∧ spanHi (manyA 4 0) [0] [(k : Int)] (u : Int) = u := by
  have hz := all_zero ht u hu
  obtain ⟨⟨l0, _, _⟩, _, ⟨E, e1, e2, _, e4⟩⟩ := span_ends hz
  have a := span_world hz (none_ok u hu) rfl (all_is (none_ok u hu))
  have b := span_world hz (full_ok u hu) rfl (all_is (full_ok u hu))
  have v0 : pcN ((Wd.mk (u : Int) 0 0 0).val [(k : Int)]) = 0 := by
    rcases (by omega : k = 0 ∨ k = 1 ∨ k = 2) with rfl | rfl | rfl <;> rfl
  have v1 : pcN ((Wd.mk (u : Int) (allN u) (allN u) (allN u)).val [(k : Int)]) = u := by
    have : (Wd.mk (u : Int) (allN u) (allN u) (allN u)).val [(k : Int)] = allN u := by
      rcases (by omega : k = 0 ∨ k = 1 ∨ k = 2) with rfl | rfl | rfl <;> rfl
    rw [this]; exact size_all u (by omega)
  have h2 := size_le (ok_val e1 [(k : Int)])
  rw [e2] at h2
  exact ⟨by omega, by omega⟩
end Go.Proofs.YtgkgbpbohgklhahDoor
