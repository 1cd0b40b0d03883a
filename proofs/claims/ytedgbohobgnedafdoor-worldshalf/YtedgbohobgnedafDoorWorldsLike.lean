/-
  Plain facts on how many worlds are alike, as they are counted one thing behind the other (chapter 11). No program is read here.
-/
import Derived.Test.YtedgbohobgnedafDoorWorldsMath
namespace Go.Proofs.YtedgbohobgnedafDoor
open Go.RowKit

/-- k more things lie in a field, behind p things. -/
def fillN (m p : Int) : Nat → Int
  | 0 => m
  | k + 1 => (fillN m p k * (p + k + 1)).tdiv ((k : Int) + 1)
def layTo (N : Nat → Int) : Nat → Int
  | 0 => 1
  | i + 1 => fillN (layTo N i) (sumN N i) (N i).toNat
theorem lay_facts : ∀ u, u ≤ 6 → ((everyC u).all fun N => decide (layTo N 8 = likeN N) && (List.range 8).all fun i => (List.range 7).all fun k => decide (N i < (k : Int)) || decide (0 ≤ fillN (layTo N i) (sumN N i) k ∧ fillN (layTo N i) (sumN N i) k ≤ 720)) = true := by decide +kernel
theorem sum_same {N M : Nat → Int} (h : ∀ g, g < 8 → N g = M g) : ∀ k, k ≤ 8 → sumN N k = sumN M k := by
  intro k
  induction k with
  | zero => intro _; rfl
  | succ k ih => intro hk; unfold sumN; rw [ih (by omega), h k (by omega)]
theorem lay_same {N M : Nat → Int} (h : ∀ g, g < 8 → N g = M g) : ∀ k, k ≤ 8 → layTo N k = layTo M k := by
  intro k
  induction k with
  | zero => intro _; rfl
  | succ k ih => intro hk; unfold layTo; rw [ih (by omega), h k (by omega), sum_same h k (by omega)]
theorem sum_up {N : Nat → Int} (h : ∀ g, g < 8 → 0 ≤ N g) : ∀ k, k ≤ 8 → 0 ≤ sumN N k := by
  intro k
  induction k with
  | zero => intro _; exact Int.le_refl _
  | succ k ih => intro hk; have := ih (by omega); have := h k (by omega); show 0 ≤ sumN N k + N k; omega
theorem sum_more {N : Nat → Int} (h : ∀ g, g < 8 → 0 ≤ N g) : ∀ d k, k + d = 8 → sumN N k ≤ sumN N 8 := by
  intro d
  induction d with
  | zero => intro k hk; obtain rfl : k = 8 := by omega
            exact Int.le_refl _
  | succ d ih =>
    intro k hk
    have h1 := ih (k + 1) (by omega)
    have h2 := h k (by omega)
    have e : sumN N (k + 1) = sumN N k + N k := rfl
    omega
theorem lay_right {N : Nat → Int} (h : countsFault N = 0) : layTo N 8 = likeN N ∧ ∀ i, i < 8 → 0 ≤ sumN N i ∧ sumN N i + N i ≤ 6 ∧ ∀ k : Nat, (k : Int) ≤ N i → 0 ≤ fillN (layTo N i) (sumN N i) k ∧ fillN (layTo N i) (sumN N i) k ≤ 720 := by
  obtain ⟨h1, h2⟩ := counts_zero.1 h
  have hp : ∀ g, g < 8 → 0 ≤ N g := fun g hg => (h1 g hg).1
  have h0 := sum_up hp 8 (by omega)
  have hs : sumN N 8 = (((sumN N 8).toNat : Nat) : Int) := by omega
  obtain ⟨A, hA, hAN⟩ := everyC_all (u := (sumN N 8).toNat) hp hs
  have hf := List.all_eq_true.1 (lay_facts (sumN N 8).toNat (by omega)) A hA
  rw [Bool.and_eq_true] at hf
  refine ⟨?_, fun i hi => ⟨sum_up hp i (by omega), ?_, fun k hk => ?_⟩⟩
  · rw [← lay_same hAN 8 (by omega), ← likeN_same hAN]; exact of_decide_eq_true hf.1
  · have := sum_more hp (8 - (i + 1)) (i + 1) (by omega)
    have e : sumN N (i + 1) = sumN N i + N i := rfl
    omega
  · have h3 := h1 i hi
    have := sum_more hp (8 - (i + 1)) (i + 1) (by omega)
    have e : sumN N (i + 1) = sumN N i + N i := rfl
    have := sum_up hp i (by omega)
    have hq := List.all_eq_true.1 (List.all_eq_true.1 hf.2 i (List.mem_range.2 hi)) k (List.mem_range.2 (by omega))
    rw [Bool.or_eq_true] at hq
    rw [← lay_same hAN i (by omega), ← sum_same hAN i (by omega)]
    rcases hq with hq | hq
    · have := of_decide_eq_true hq
      rw [hAN i hi] at this
      omega
    · exact of_decide_eq_true hq
theorem lay_step (N : Nat → Int) (i : Nat) : layTo N (i + 1) = fillN (layTo N i) (sumN N i) (N i).toNat := rfl
theorem fill_step (m p : Int) (k : Nat) : fillN m p (k + 1) = (fillN m p k * (p + k + 1)).tdiv ((k : Int) + 1) := rfl
end Go.Proofs.YtedgbohobgnedafDoor
